import Derived.Test.YtgipjjhkhfihpaaGreatDoorLB
import Derived.Test.YtgipjjhkhfihpaaGreatDoorKA
import Derived.Deep.RegionLaw
set_option maxRecDepth 100000
set_option maxHeartbeats 6400000
namespace Go.Proofs.YtgipjjhkhfihpaaGreatDoor
open Go.RowKit
theorem zQv (q:QS) (aV aC aS:Option Addr) (cV nC cC nS cS kind:Nat) (row:List Nat) (vX:Value) (w:World) (hV:w.ownsRow 0 139 2 (.slice aV q.vars.length cV) q.vars.length (zd q.vars)) (hl:q.vars.length≤8) (hk:kind=1∨kind=2)
  (hX:w.ownsRow 0 3 1 vX row.length (zu row)) (hr:row.length≤8) :
  Calls Tryz.prog 50 #[.agg #[.slice aV q.vars.length cV,.slice aC nC cC],.agg #[.int .i64 (kind:Int),.slice aS nS cS],vX] w fun e w'=>e=.returned (.bool (zBq q kind row))∧Below w.heap.size w w':=by
 obtain ⟨aX,cX,rfl⟩:=zN hX
 cases row with
 | nil=>
  go_enter Tryz.func50,Tryz.ntmps50
  go_wp2_with fail;go_ret;exact ⟨rfl,((Below.refl _ _).alloc (Nat.le_refl _) _).alloc (by simp) _⟩
 | cons v r=>
  have HW:Hid (zBq q kind (v :: r)=(((zBY q.vars v).getD (0,false)).2 == (kind == 1))):=zF (by
   show (zPE q v == _)=_;unfold zPE
   cases zBY q.vars v<;>rfl)
  obtain ⟨g,cap,hVe,hg,hg',_,hcell⟩:=zS hX (by simp);injection hVe with hVe _ hV2;subst hVe hV2;have hx0:w.cell? ⟨g,0,none⟩=some (.int .i64 (v:Int)):=hcell 0 _ rfl;clear hcell;have hne0:(((r.length + 1:Nat):Int) == 0)=false:=by rw [beq_eq_false_iff_ne];omega
  go_enter Tryz.func50,Tryz.ntmps50
  go_wp2_with fail;generalize hw0:((w.alloc (.cells #[.slice aV q.vars.length cV,.slice aC nC cC] 60)).alloc (.cells #[.int .i64 (kind:Int),.slice aS nS cS] 67))=u1;have hB:Below w.heap.size w u1:=(by rw [← hw0];exact ((Below.refl _ _).alloc (Nat.le_refl _) _).alloc (by simp) _);have hf:u1.heap[w.heap.size]?=some (.cells #[.slice aV q.vars.length cV,.slice aC nC cC] 60 (0,0)):=(by rw [← hw0,heap_alloc_old _ _ (by simp)];exact heap_alloc_new _ _);have hpr:u1.heap[w.heap.size + 1]?=some (.cells #[.int .i64 (kind:Int),.slice aS nS cS] 67 (0,0)):=(by rw [← hw0];exact zP (by simp));clear hw0;refine (zFQ 0 w.heap.size q.vars _ v _ (by rw [zC hf];rfl) (zO hV hB) (by omega)).mono ?_;rintro e u2 ⟨hb2,rfl⟩;have hB2:=hB.trans (hb2.mono hB.size);have hpr2:=zH hb2 hpr;generalize (zBY q.vars v).getD (0,false)=x at *;generalize (zBY q.vars v).isSome=ok at *;obtain ⟨x1,x2⟩:=x;have hA:Below u2.heap.size u2 (u2.alloc (.cells #[.int .i64 (x1:Int),.bool x2] 139)):=(Below.refl _ _).alloc (Nat.le_refl _) _;have hB3:=hB2.trans (hA.mono hB2.size);have hv3:=heap_alloc_new u2 (.cells #[.int .i64 (x1:Int),.bool x2] 139);have hpr3:=zH hA hpr2;have p0:(u2.alloc (.cells #[.int .i64 (x1:Int),.bool x2] 139)).cell? ⟨w.heap.size + 1,0,none⟩=some (.int .i64 (kind:Int)):=zE hpr3 rfl;have lp:=zB hpr3
  rcases hk with rfl | rfl<;>cases x2
  all_goals
   go_wp2_with fail;go_ret;exact ⟨by rw [zA HW];rfl,hB3⟩
theorem zFa {P:Program} {ops:Array Oper} {o:Oper} {a:Act} {w:World} {K:Act→World→Prop} {Q:Exit→Act→World→Prop} {E:Prop}
  (hg:o.guard=none) (f:FuncId) (xs:Array Operand) (ts:Array TypeId) (hop:o.op=Op.call { callee:=Callee.value (Operand.func f),args:=xs,argTypes:=ts })
  (args:Array Value) (hargs:xs.map a.eval=args) (hcf:∀ w,(callFunc f args).run P w=.ok (.enter f args) w) (h:Calls P f args w (fun e w'=>∃ v,e=.returned v∧K (a.put o.dst v) w')) :
  if Region.wanted o (yielded ops a.tmps)=true then Oper.wp P o a w K Q else E:=by
 have hw:Region.wanted o (yielded ops a.tmps)=true:=(by simp [Region.wanted,hg]);rw [if_pos hw];unfold Oper.wp;have he:(execOp a.eval o).run P w=.ok (.enter f args) w:=by
  unfold execOp;rw [hop];subst hargs;simp [go_sem];exact hcf w
 rw [he,Oper.upon_enter];refine h.mono ?_;rintro e w' ⟨v,rfl,hk⟩;exact hk
theorem zQP (args:Array Value) (w:World):(callFunc 50 args).run Tryz.prog w=.ok (.enter 50 args) w:=by kernel_rfl
end Go.Proofs.YtgipjjhkhfihpaaGreatDoor
