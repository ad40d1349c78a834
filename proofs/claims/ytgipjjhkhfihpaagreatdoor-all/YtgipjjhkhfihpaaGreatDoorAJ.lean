import Derived.Test.YtgipjjhkhfihpaaGreatDoorAI
import Derived.Test.YtgipjjhkhfihpaaGreatDoorAA
import Derived.Deep.RegionLaw
import Derived.Test.YtgipjjhkhfihpaaGreatDoorAH
import Derived.Test.YtgipjjhkhfihpaaGreatDoorAC
set_option maxRecDepth 100000
set_option maxHeartbeats 6400000
namespace Go.Proofs.YtgipjjhkhfihpaaGreatDoor
open Go.RowKit
def zCo (c:Nat × Nat) (k:Nat):List Value:=(List.range 8).map (fun i=>Value.int .i64 (if i < k then zBC c (i + 1) else 0))
theorem zM2 (c:Nat × Nat):(zCo c 0).toArray=#[.int .i64 0,.int .i64 0,.int .i64 0,.int .i64 0,.int .i64 0,.int .i64 0,.int .i64 0,.int .i64 0]:=rfl
theorem zD0 (c:Nat × Nat) (k i:Nat) (hi:i < 8):(zCo c k).toArray[i]?=some (.int .i64 (if i < k then zBC c (i + 1) else 0)):=by
 unfold zCo;simp [hi]
theorem zG9 (c:Nat × Nat) (k:Nat) (hk:k < 8):(zCo c k).toArray.set! k (.int .i64 (zBC c (k + 1)))=(zCo c (k + 1)).toArray:=by
 apply Array.ext
 ·simp [zCo]
 ·intro i h1 h2;have hi:i < 8:=(by simpa [zCo] using h2);have e2:=zD0 c (k + 1) i hi;rw [Array.getElem?_eq_getElem h2] at e2;injection e2 with e2;rw [e2]
  by_cases e:i=k
  ·subst e;simp [Array.set!]
  ·have e1:=zD0 c k i hi;rw [Array.getElem?_eq_getElem (by simpa [zCo] using hi)] at e1;injection e1 with e1;simp only [Array.set!];rw [Array.getElem_setIfInBounds_ne (by simpa [zCo] using hi) (fun h=>e h.symm),e1]
   by_cases h:i < k
   ·rw [if_pos h,if_pos (by omega)]
   ·rw [if_neg h,if_neg (by omega)]
theorem zMV (c:Nat × Nat) (k:Nat) (h0:zBC c (k + 1)=0):zCo c k=zCo c (k + 1):=by
 unfold zCo
 apply List.map_congr_left
 intro i _
 by_cases e:i=k
 ·subst e;rw [if_neg (by omega),if_pos (by omega),h0]
 ·by_cases h:i < k
  ·rw [if_pos h,if_pos (by omega)]
  ·rw [if_neg h,if_neg (by omega)]
theorem zLz (b:Nat) (t:TypeId) (bl:BL) (rs:List zAB) (g:GS) (gv:GV) (w:World) (hG:GameAt w b t bl rs g gv) (hp:g.vals.1 < 512∧g.vals.2 < 512) :
  Calls Tryz.prog 60 #[.pointer (some ⟨b,0,none⟩)] w fun e w'=>∃ k,e=.returned (.slice (some ⟨k,0,none⟩) 8 8)∧w.heap.size≤k∧w'.heap[k]?=some (.cells (zCo g.vals 8).toArray 3 (0,0))∧Below w.heap.size w w':=by
 obtain ⟨turn,p,n⟩:=g;dsimp only at hp;have lb:=zB hG.fb;have hmk:∀ w:World,(Instr.makeSlice 25 (.int .i64 8) (.int .i64 8)).run Tryz.prog w=.ok (.slice (some ⟨w.heap.size,0,none⟩) 8 8) (w.alloc (.cells #[.int .i64 0,.int .i64 0,.int .i64 0,.int .i64 0,.int .i64 0,.int .i64 0,.int .i64 0,.int .i64 0] 3)):=fun _=>by kernel_rfl
 go_enter Tryz.func60,Tryz.ntmps60
 go_wp2_with fail;clear hmk
 go_loopg [8] 8 (fun m i wx=>∃ (k:Nat),i=.int .i64 k∧k + m=8∧Below w.heap.size w wx∧wx.heap[w.heap.size]?=some (.cells (zCo (p,n) k).toArray 3 (0,0)))
 case atStart=>exact ⟨0,rfl,by omega,(Below.refl _ _).alloc (Nat.le_refl _) _,by rw [zM2];exact heap_alloc_new _ _⟩
 case round=>
  obtain ⟨k,rfl,hk,hb,hblk⟩:=hrel;have hGr:=hG.later hb;have lbr:=zB hGr.fb;have lk:=zB hblk
  by_cases hlt:k < 8
  ·have HV:Hid (zBC (p,n) (k + 1)=if zj (p,n) (-(k:Int) - 1) then -1 else if zj (p,n) ((k:Int) + 1) then 1 else 0):=zF (by
    unfold zBC;rw [← zBm (p,n) (k + 1) false (by omega) (by omega),← zBm (p,n) (k + 1) true (by omega) (by omega)];rw [show zAF (k + 1) false=-(k:Int) - 1 from by unfold zAF;simp;omega,show zAF (k + 1) true=(k:Int) + 1 from by unfold zAF;simp])
   have m3:wr.cell? ⟨b,3,none⟩=some (.int .i64 (p:Int)):=zE hGr.fb rfl;have m4:wr.cell? ⟨b,4,none⟩=some (.int .i64 (n:Int)):=zE hGr.fb rfl;have hd:decide ((k:Int) < 8)=true:=decide_eq_true (by omega);have hwn:IntKind.i64.wrap (-(k:Int))=-(k:Int):=zDg k (by omega);go_wp2_with fail;refine (zCw p n ((k:Int) + 1) _ hp.1 hp.2 (by omega) (by omega)).mono ?_;rintro e w1 ⟨rfl,hb1⟩;have hG1:=hGr.later hb1;have hblk1:=(hb1.block _ lk).trans hblk;have hB1:=hb.trans (hb1.mono hb.size);have lb1:=zB hG1.fb;have l1:=zB hblk1;have n3:w1.cell? ⟨b,3,none⟩=some (.int .i64 (p:Int)):=zE hG1.fb rfl;have n4:w1.cell? ⟨b,4,none⟩=some (.int .i64 (n:Int)):=zE hG1.fb rfl;have j0:w1.cell? ⟨w.heap.size,k,none⟩=some (.int .i64 0):=(by rw [zC hblk1,zD0 _ _ _ hlt,if_neg (by omega)]);have z0:=zD hblk1 k;have hne:b≠w.heap.size:=by omega
   cases h1:zj (p,n) ((k:Int) + 1) with
   | true=>
    have hblk2:=zI hblk1 k (.int .i64 1);have hB2:=hB1.setCell (p:=⟨w.heap.size,k,none⟩) (Nat.le_refl _) (.int .i64 1);have hfb2:(w1.setCell ⟨w.heap.size,k,none⟩ (.int .i64 1)).heap[b]?=_:=(Below.heap_setCell _ _ _ _ hne).trans hG1.fb;have q3:(w1.setCell ⟨w.heap.size,k,none⟩ (.int .i64 1)).cell? ⟨b,3,none⟩=some (.int .i64 (p:Int)):=zE hfb2 rfl;have q4:(w1.setCell ⟨w.heap.size,k,none⟩ (.int .i64 1)).cell? ⟨b,4,none⟩=some (.int .i64 (n:Int)):=zE hfb2 rfl;have lb2:=zB hfb2;go_wp2_with fail;refine (zCw p n (-(k:Int) - 1) _ hp.1 hp.2 (by omega) (by omega)).mono ?_;rintro e w3 ⟨rfl,hb3⟩;have hblk3:=zH hb3 hblk2;have hB3:=hB2.trans (hb3.mono hB2.size);have l3:=zB hblk3;have i0:w3.cell? ⟨w.heap.size,k,none⟩=some (.int .i64 1):=(by rw [zC hblk3,Array.getElem?_setIfInBounds_self_of_lt (by simp [zCo];omega)]);have z3:=zD hblk3 k
    cases h2:zj (p,n) (-(k:Int) - 1) with
    | true=>
     have HX:Hid (zBC (p,n) (k + 1)=-1):=zF (by rw [zA HV,h2];rfl);have HB4:=zF (zI hblk3 k (.int .i64 (-1)));have HBB:=zF (hB3.setCell (p:=⟨w.heap.size,k,none⟩) (Nat.le_refl _) (.int .i64 (-1)));go_wp2_with fail
     go_roundg (gk - 1)
     case measure=>omega
     case rel=>exact ⟨k + 1,by go_num,by omega,zA HBB,by rw [← zG9 _ _ hlt,zA HX];have h:=zA HB4;rw [show ((zCo (p,n) k).toArray.setIfInBounds k (Value.int .i64 1)).setIfInBounds k (Value.int .i64 (-1))=(zCo (p,n) k).toArray.setIfInBounds k (Value.int .i64 (-1)) from by simp] at h;exact h⟩
    | false=>
     have HX:Hid (zBC (p,n) (k + 1)=1):=zF (by rw [zA HV,h2,h1];rfl);go_wp2_with fail
     go_roundg (gk - 1)
     case measure=>omega
     case rel=>exact ⟨k + 1,by go_num,by omega,hB3,by rw [← zG9 _ _ hlt,zA HX];exact hblk3⟩
   | false=>
    go_wp2_with fail;refine (zCw p n (-(k:Int) - 1) _ hp.1 hp.2 (by omega) (by omega)).mono ?_;rintro e w3 ⟨rfl,hb3⟩;have hblk3:=zH hb3 hblk1;have hB3:=hB1.trans (hb3.mono hB1.size);have l3:=zB hblk3;have i0:w3.cell? ⟨w.heap.size,k,none⟩=some (.int .i64 0):=(by rw [zC hblk3,zD0 _ _ _ hlt,if_neg (by omega)]);have z3:=zD hblk3 k
    cases h2:zj (p,n) (-(k:Int) - 1) with
    | true=>
     have HX:Hid (zBC (p,n) (k + 1)=-1):=zF (by rw [zA HV,h2];rfl);have HB4:=zF (zI hblk3 k (.int .i64 (-1)));have HBB:=zF (hB3.setCell (p:=⟨w.heap.size,k,none⟩) (Nat.le_refl _) (.int .i64 (-1)));go_wp2_with fail
     go_roundg (gk - 1)
     case measure=>omega
     case rel=>exact ⟨k + 1,by go_num,by omega,zA HBB,by rw [← zG9 _ _ hlt,zA HX];have h:=zA HB4;exact h⟩
    | false=>
     have HX:Hid (zBC (p,n) (k + 1)=0):=zF (by rw [zA HV,h2,h1];rfl);go_wp2_with fail
     go_roundg (gk - 1)
     case measure=>omega
     case rel=>exact ⟨k + 1,by go_num,by omega,hB3,by rw [← zMV _ _ (zA HX)];exact hblk3⟩
  ·have hk8:k=8:=(by omega);subst hk8;go_wp2_with fail;go_ret;exact ⟨_,rfl,Nat.le_refl _,hblk,hb⟩
theorem zOb (b:Nat) (t:TypeId) (bl:BL) (rs:List zAB) (g:GS) (gv:GV) (w:World) (hG:GameAt w b t bl rs g gv) :
  Calls Tryz.prog 59 #[.pointer (some ⟨b,0,none⟩)] w fun e w'=>e=.returned (.int .i64 (g.turn:Int))∧w'=w:=by
 have lb:=zB hG.fb;have c2:w.cell? ⟨b,2,none⟩=some (.int .i64 (g.turn:Int)):=zE hG.fb rfl
 go_enter Tryz.func59,Tryz.ntmps59
 go_wp2_with fail;go_ret;exact ⟨rfl,rfl⟩
theorem zQv (q:QS) (aV aC aS:Option Addr) (cV nC cC nS cS kind:Nat) (row:List Nat) (vX:Value) (w:World) (hV:w.ownsRow 0 139 2 (.slice aV q.vars.length cV) q.vars.length (zd q.vars)) (hl:q.vars.length≤8) (hk:kind=1∨kind=2)
  (hX:w.ownsRow 0 3 1 vX row.length (zu row)) (hr:row.length≤8) :
  Calls Tryz.prog 50 #[.agg #[.slice aV q.vars.length cV,.slice aC nC cC],.agg #[.int .i64 (kind:Int),.slice aS nS cS],vX] w fun e w'=>e=.returned (.bool (zBq q kind row))∧Below w.heap.size w w':=by
 obtain ⟨aX,cX,rfl⟩:=zN hX
 cases row with
 | nil=>
  go_enter Tryz.func50,Tryz.ntmps50
  go_wp2_with fail;go_ret;exact ⟨rfl,((Below.refl _ _).alloc (Nat.le_refl _) _).alloc (by simp) _⟩
 | cons v r=>
  have HW:Hid (zBq q kind (v :: r)=(((zBY q.vars v).getD (0,false)).2 == (kind == 1))):=zF (by
   show (zPE q v == _)=_;unfold zPE
   cases zBY q.vars v<;>rfl)
  obtain ⟨g,cap,hVe,hg,hg',_,hcell⟩:=zS hX (by simp);injection hVe with hVe _ hV2;subst hVe hV2;have hx0:w.cell? ⟨g,0,none⟩=some (.int .i64 (v:Int)):=hcell 0 _ rfl;clear hcell;have hne0:(((r.length + 1:Nat):Int) == 0)=false:=by rw [beq_eq_false_iff_ne];omega
  go_enter Tryz.func50,Tryz.ntmps50
  go_wp2_with fail;generalize hw0:((w.alloc (.cells #[.slice aV q.vars.length cV,.slice aC nC cC] 60)).alloc (.cells #[.int .i64 (kind:Int),.slice aS nS cS] 67))=u1;have hB:Below w.heap.size w u1:=(by rw [← hw0];exact ((Below.refl _ _).alloc (Nat.le_refl _) _).alloc (by simp) _);have hf:u1.heap[w.heap.size]?=some (.cells #[.slice aV q.vars.length cV,.slice aC nC cC] 60 (0,0)):=(by rw [← hw0,heap_alloc_old _ _ (by simp)];exact heap_alloc_new _ _);have hpr:u1.heap[w.heap.size + 1]?=some (.cells #[.int .i64 (kind:Int),.slice aS nS cS] 67 (0,0)):=(by rw [← hw0];exact zP (by simp));clear hw0;refine (zFQ 0 w.heap.size q.vars _ v _ (by rw [zC hf];rfl) (zO hV hB) (by omega)).mono ?_;rintro e u2 ⟨hb2,rfl⟩;have hB2:=hB.trans (hb2.mono hB.size);have hpr2:=zH hb2 hpr;generalize (zBY q.vars v).getD (0,false)=x at *;generalize (zBY q.vars v).isSome=ok at *;obtain ⟨x1,x2⟩:=x;have hA:Below u2.heap.size u2 (u2.alloc (.cells #[.int .i64 (x1:Int),.bool x2] 139)):=(Below.refl _ _).alloc (Nat.le_refl _) _;have hB3:=hB2.trans (hA.mono hB2.size);have hv3:=heap_alloc_new u2 (.cells #[.int .i64 (x1:Int),.bool x2] 139);have hpr3:=zH hA hpr2;have p0:(u2.alloc (.cells #[.int .i64 (x1:Int),.bool x2] 139)).cell? ⟨w.heap.size + 1,0,none⟩=some (.int .i64 (kind:Int)):=zE hpr3 rfl;have lp:=zB hpr3
  rcases hk with rfl | rfl<;>cases x2
  all_goals
   go_wp2_with fail;go_ret;exact ⟨by rw [zA HW];rfl,hB3⟩
theorem zFa {P:Program} {ops:Array Oper} {o:Oper} {a:Act} {w:World} {K:Act→World→Prop} {Q:Exit→Act→World→Prop} {E:Prop}
  (hg:o.guard=none) (f:FuncId) (xs:Array Operand) (ts:Array TypeId) (hop:o.op=Op.call { callee:=Callee.value (Operand.func f),args:=xs,argTypes:=ts })
  (args:Array Value) (hargs:xs.map a.eval=args) (hcf:∀ w,(callFunc f args).run P w=.ok (.enter f args) w) (h:Calls P f args w (fun e w'=>∃ v,e=.returned v∧K (a.put o.dst v) w')) :
  if Region.wanted o (yielded ops a.tmps)=true then Oper.wp P o a w K Q else E:=by
 have hw:Region.wanted o (yielded ops a.tmps)=true:=(by simp [Region.wanted,hg]);rw [if_pos hw];unfold Oper.wp;have he:(execOp a.eval o).run P w=.ok (.enter f args) w:=by
  unfold execOp;rw [hop];subst hargs;simp [go_sem];exact hcf w
 rw [he,Oper.upon_enter];refine h.mono ?_;rintro e w' ⟨v,rfl,hk⟩;exact hk
theorem zQP (args:Array Value) (w:World):(callFunc 50 args).run Tryz.prog w=.ok (.enter 50 args) w:=by kernel_rfl
theorem zLR (args:Array Value) (w:World):(callFunc 75 args).run Tryz.prog w=.ok (.enter 75 args) w:=by kernel_rfl
theorem zId (args:Array Value) (w:World):(callFunc 76 args).run Tryz.prog w=.ok (.enter 76 args) w:=by kernel_rfl
theorem zRP:(Tryz.prog.info? 149).map (fun i=>(i.zero,i.size,i.bytes))=some (some (.agg #[.int .i64 0,.int .i64 0,.int .i64 0,.int .i64 0]),4,32):=by kernel_rfl
theorem zOk:(Tryz.prog.info? 111).map (fun i=>(i.zero,i.size,i.bytes))=some (some (.agg #[.slice none 0 0,.bool false]),2,32):=by kernel_rfl
def zAr (kind:Nat) (p:List Stp) (k:Nat):List zAB:=((p.take k).filter (fun s=>s.rule == 4)).map (zB5 kind p)
theorem zKD (kind:Nat) (p:List Stp) (k:Nat) (h:k < p.length):zAr kind p (k + 1)=zAr kind p k ++ (if p[k].rule == 4 then [zB5 kind p p[k]] else []):=by
 unfold zAr;rw [List.take_succ_eq_append_getElem h,List.filter_append,List.map_append,List.filter_cons]
 congr 1
 split<;>rfl
theorem zHc (kind:Nat) (p:List Stp) (k:Nat):(zAr kind p k).length≤k:=by
 unfold zAr;rw [List.length_map];exact Nat.le_trans (List.length_filter_le _ _) (by simp;omega)
theorem zFA (l:List zAB) (r:zAB):zCY (l ++ [r])=zCY l ++ [Value.int .i64 (r.1.1:Int),Value.int .i64 (r.1.2:Int),Value.int .i64 (r.2.1:Int),Value.int .i64 (r.2.2:Int)]:=by simp [zCY]
def zPp (kind:Nat) (ss:List Stp) (w:World) (e:Ending) (w':World):Prop:=∃ vR,e=.returned vR∧w'.ownsRow w.heap.size 149 4 vR (zAQ kind ss).length (zCY (zAQ kind ss))∧Below w.heap.size w w'
theorem zL5 (ss:List Stp) (aS:Option Addr) (cS kind:Nat) (w:World) (hS:w.ownsRow 0 134 6 (.slice aS ss.length cS) ss.length (zAk ss)) (hSB:SBs ss) (hk:kind=1∨kind=2) :
  Calls Tryz.prog 48 #[.agg #[.int .i64 (kind:Int),.slice aS ss.length cS]] w fun e w'=>zPp kind ss w e w':=by
 obtain ⟨i1,hi1,hz10,hz11,hz12⟩:=info_parts zRP;have hsl:=hSB.len
 go_enter Tryz.func48,Tryz.ntmps48
 go_wp2_with fail
 go_loopg [3,11] (ss.length) (fun m vl i wx=>∃ (k:Nat),i=.int .i64 k∧k + m=ss.length∧wx.ownsRow (w.heap.size + 1) 149 4 vl (zAr kind ss k).length (zCY (zAr kind ss k))∧Below w.heap.size w wx∧wx.heap[w.heap.size]?=some (.cells #[.int .i64 (kind:Int),.slice aS ss.length cS] 67 (0,0)))
 case atStart=>exact ⟨0,rfl,by omega,World.ownsRow_nil _ _ _ _,(Below.refl _ _).alloc (Nat.le_refl _) _,heap_alloc_new _ _⟩
 case round=>
  obtain ⟨k,rfl,hkm,hown,hb,hpb⟩:=hrel;have lp:=zB hpb;have hln:=zHc kind ss k;obtain ⟨aL,cL,rfl⟩:=zN hown
  by_cases hlt:k < ss.length
  ·have HRS:=zF (zKD kind ss k hlt);have hsb:=hSB.bits _ (List.getElem_mem hlt);obtain ⟨g,cap,hVe,hg,hg',_,hcell⟩:=zS hS (by omega);injection hVe with hVe _ hV2;subst hVe hV2;have hc:∀ j (hj:j < 6) u,[Value.int .i64 (ss[k].rule:Int),Value.int .i64 (ss[k].first:Int),Value.int .i64 (ss[k].second:Int),Value.int .i64 (ss[k].var:Int),Value.int .i64 (ss[k].lits.1:Int),Value.int .i64 (ss[k].lits.2:Int)][j]?=some u→wr.cell? ⟨g,k * 6 + j,none⟩=some u:=fun j hj u hu=>by
    rw [hb.cell (p:=⟨g,k * 6 + j,none⟩) hg'];exact hcell _ _ (by rw [zh ss k j hlt hj];exact hu)
   have hx0:wr.cell? ⟨g,k * 6,none⟩=some (.int .i64 (ss[k].rule:Int)):=hc 0 (by omega) _ rfl;have hx1:wr.cell? ⟨g,k * 6 + 1,none⟩=some (.int .i64 (ss[k].first:Int)):=hc 1 (by omega) _ rfl;have hx2:wr.cell? ⟨g,k * 6 + 2,none⟩=some (.int .i64 (ss[k].second:Int)):=hc 2 (by omega) _ rfl;have hx3:wr.cell? ⟨g,k * 6 + 3,none⟩=some (.int .i64 (ss[k].var:Int)):=hc 3 (by omega) _ rfl;have hx4:wr.cell? ⟨g,k * 6 + 4,none⟩=some (.int .i64 (ss[k].lits.1:Int)):=hc 4 (by omega) _ rfl;have hx5:wr.cell? ⟨g,k * 6 + 5,none⟩=some (.int .i64 (ss[k].lits.2:Int)):=hc 5 (by omega) _ rfl;have hgw:g < wr.heap.size:=Nat.lt_of_lt_of_le hg' hb.size;clear hc hcell;have HRW:Hid (∀ s,ss[k]=s→zB5 kind ss ss[k]=if kind=1 then (zDj s.lits,zDj (zAz (zM ss s.first) s.lits)) else (s.lits,zAz (zM ss s.first) s.lits)):=zF (fun s e=>by rw [e];rfl);generalize hsk:ss[k]=st at *;have HSK:=zF hsk;clear hsk;obtain ⟨sr,sf,s2,sv,sl1,sl2⟩:=st;dsimp only at *;have hA:Below wr.heap.size wr (wr.alloc (.cells #[.int .i64 (sr:Int),.int .i64 (sf:Int),.int .i64 (s2:Int),.int .i64 (sv:Int),.int .i64 (sl1:Int),.int .i64 (sl2:Int)] 134)):=(Below.refl _ _).alloc (Nat.le_refl _) _;have hst:=heap_alloc_new wr (.cells #[.int .i64 (sr:Int),.int .i64 (sf:Int),.int .i64 (s2:Int),.int .i64 (sv:Int),.int .i64 (sl1:Int),.int .i64 (sl2:Int)] 134);have hpa:=(hA.block _ lp).trans hpb;have hBa:=hb.trans (hA.mono hb.size);have howna:=zO hown hA
   by_cases hr4:sr=4
   ·subst hr4;have HRN:Hid (zAr kind ss (k + 1)=zAr kind ss k ++ [if kind=1 then (zDj (sl1,sl2),zDj (zAz (zM ss sf) (sl1,sl2))) else ((sl1,sl2),zAz (zM ss sf) (sl1,sl2))]):=zF (by rw [zA HRS,zA HRW _ rfl];rfl);clear HRS HRW;go_wp2_with fail;generalize wr.alloc (.cells #[.int .i64 4,.int .i64 (sf:Int),.int .i64 (s2:Int),.int .i64 (sv:Int),.int .i64 (sl1:Int),.int .i64 (sl2:Int)] 134)=wz at *;have hB:=hBa;obtain ⟨cst0,cst1,cst2,cst3,cst4,cst5⟩:=zAH hst;have lst:=zB hst;have cpa0:wz.cell? ⟨w.heap.size,0,none⟩=some (.int .i64 (kind:Int)):=zE hpa rfl;have cpa1:wz.cell? ⟨w.heap.size,1,none⟩=some (.slice (some ⟨g,0,none⟩) ss.length cS):=zE hpa rfl;have lpa:=zB hpa;refine (zBW 0 w.heap.size 0 ss _ sf _ (by rw [zC hpa];rfl) (zO hS hB) (by omega)).mono ?_;rintro e u1 ⟨rfl,b1⟩;replace hB:=hB.trans (b1.mono hB.size);replace hst:=zH b1 hst;clear cst0 cst1 cst2 cst3 cst4 cst5;obtain ⟨cst0,cst1,cst2,cst3,cst4,cst5⟩:=zAH hst;replace lst:=zB hst;replace hpa:=zH b1 hpa;replace cpa0:u1.cell? ⟨w.heap.size,0,none⟩=some (.int .i64 (kind:Int)):=zE hpa rfl;replace cpa1:u1.cell? ⟨w.heap.size,1,none⟩=some (.slice (some ⟨g,0,none⟩) ss.length cS):=zE hpa rfl;replace lpa:=zB hpa;replace howna:=zO howna b1;have hla:=zAX ss hSB.bits sf;generalize zM ss sf=c at *;obtain ⟨c1,c2⟩:=c;dsimp only at hla;go_wp2_with fail;generalize hw0:u1.alloc (.cells #[.int .i64 (c1:Int),.int .i64 (c2:Int)] 74)=u2;have b2:Below u1.heap.size u1 u2:=(by rw [← hw0];exact (Below.refl _ _).alloc (Nat.le_refl _) _);have hwh:u2.heap[u1.heap.size]?=some (.cells #[.int .i64 (c1:Int),.int .i64 (c2:Int)] 74 (0,0)):=(by rw [← hw0];exact heap_alloc_new _ _);clear hw0;replace hB:=hB.trans (b2.mono hB.size);replace hst:=zH b2 hst;clear cst0 cst1 cst2 cst3 cst4 cst5;obtain ⟨cst0,cst1,cst2,cst3,cst4,cst5⟩:=zAH hst;replace lst:=zB hst;replace hpa:=zH b2 hpa;replace cpa0:u2.cell? ⟨w.heap.size,0,none⟩=some (.int .i64 (kind:Int)):=zE hpa rfl;replace cpa1:u2.cell? ⟨w.heap.size,1,none⟩=some (.slice (some ⟨g,0,none⟩) ss.length cS):=zE hpa rfl;replace lpa:=zB hpa;replace howna:=zO howna b2;obtain ⟨cwh0,cwh1⟩:=zJ hwh;have lwh:=zB hwh;have hm:=zDe (c1,c2) (sl1,sl2) hla;obtain ⟨wo,rfl⟩:∃ wo,wo=wr:=⟨_,rfl⟩
    go_cut [7] (fun s7 wx=>∃ lr,s7=.pointer (some ⟨lr,0,none⟩)∧u2.heap.size≤lr∧Below u2.heap.size u2 wx∧wx.heap[lr]?=some (.cells #[.int .i64 (sl1:Int),.int .i64 (sl2:Int),.int .i64 ((zAz (c1,c2) (sl1,sl2)).1:Int),.int .i64 ((zAz (c1,c2) (sl1,sl2)).2:Int)] 149 (0,0)))
    case first=>
     clear hx0 hx1 hx2 hx3 hx4 hx5 hg hg' hgw hS hi1 hz10 hz11 hz12 hsl hln hown howna hb hpb lp hA hBa hB hpa cpa0 cpa1 lpa HSK HRN hkm b1 b2
     go_region_law (refine zFa rfl 75 _ _ rfl #[zAj (c1,c2),zAj (sl1,sl2)] (by simp [Act.eval]) (zLR _) ?_;refine (zC5 c1 c2 sl1 sl2 _ hla.1 hla.2 hsb.1 hsb.2).mono ?_;rintro e v1 ⟨rfl,y1⟩;refine ⟨_,rfl,?_⟩;have x1:Below u2.heap.size u2 v1:=Below.trans (by first | exact Below.refl _ _ | exact (Below.refl _ _).drew | exact (Below.refl _ _).alloc (Nat.le_refl _) _ | exact ((Below.refl _ _).alloc (Nat.le_refl _) _).drew | exact ((Below.refl _ _).drew).alloc (Nat.le_refl _) _) (y1.mono (by simp));have hst1:=zH x1 hst;have lst1:=zB hst1;have e4:v1.cell? ⟨wo.heap.size,4,none⟩=some (.int .i64 (sl1:Int)):=(by rw [zC hst1];rfl);have e5:v1.cell? ⟨wo.heap.size,5,none⟩=some (.int .i64 (sl2:Int)):=(by rw [zC hst1];rfl);(try (have hq:v1.heap[u2.heap.size]?=some (.cells #[.int .i64 0,.int .i64 0,.int .i64 0,.int .i64 0] 149 (0,0)):=(by first | exact (y1.block u2.heap.size (by simp)).trans (heap_alloc_new u2 _) | exact (y1.block u2.heap.size (by simp)).trans (heap_alloc_new u2.drew _));have lq:=zB hq;have q0:v1.cell? ⟨u2.heap.size,0,none⟩=some (.int .i64 0):=(by rw [zC hq];rfl);have q1:v1.cell? ⟨u2.heap.size,1,none⟩=some (.int .i64 0):=(by rw [zC hq];rfl);have q2:v1.cell? ⟨u2.heap.size,2,none⟩=some (.int .i64 0):=(by rw [zC hq];rfl);have q3:v1.cell? ⟨u2.heap.size,3,none⟩=some (.int .i64 0):=(by rw [zC hq];rfl);have z0:=zD hq 0;have z1:=zD hq 1;have z2:=zD hq 2;have z3:=zD hq 3)))
     all_goals
      go_wp2_with fail
      go_meet
      first
       | exact ⟨_,rfl,x1.size,x1.alloc x1.size _,heap_alloc_new _ _⟩
       | exact ⟨_,rfl,Nat.le_refl _,(((x1.setCell (p:=⟨u2.heap.size,0,none⟩) (Nat.le_refl _) _).setCell (p:=⟨u2.heap.size,1,none⟩) (Nat.le_refl _) _).setCell (p:=⟨u2.heap.size,2,none⟩) (Nat.le_refl _) _).setCell (p:=⟨u2.heap.size,3,none⟩) (Nat.le_refl _) _,zI (zI (zI (zI hq 0 _) 1 _) 2 _) 3 _⟩
    case rest=>
    obtain ⟨lr,rfl,hlr,hbc,hr⟩:=hcut;have hpc:=zH hbc hpa;have pc0:wc.cell? ⟨w.heap.size,0,none⟩=some (.int .i64 (kind:Int)):=zE hpc rfl;have lpc:=zB hpc;generalize zAz (c1,c2) (sl1,sl2)=cm at *;obtain ⟨d1,d2⟩:=cm;dsimp only at hm hr;have howlt:w.heap.size < u2.heap.size:=lpa
    rcases hk with rfl | rfl
    ·have HRN2:Hid (zAr 1 ss (k + 1)=zAr 1 ss k ++ [((sl2,sl1),(d2,d1))]):=zF (by rw [zA HRN,if_pos rfl];rfl);have r0:wc.cell? ⟨lr,0,none⟩=some (.int .i64 (sl1:Int)):=zE hr rfl;have r1:wc.cell? ⟨lr,1,none⟩=some (.int .i64 (sl2:Int)):=zE hr rfl;have r2:wc.cell? ⟨lr,2,none⟩=some (.int .i64 (d1:Int)):=zE hr rfl;have r3:wc.cell? ⟨lr,3,none⟩=some (.int .i64 (d2:Int)):=zE hr rfl;have lrr:=zB hr;clear HRN;obtain ⟨wq,rfl⟩:∃ x,x=wc:=⟨_,rfl⟩
     go_upto_region 20 with fail
     go_cut [] (fun wx=>Below u2.heap.size u2 wx∧wx.heap[lr]?=some (.cells #[.int .i64 (sl2:Int),.int .i64 (sl1:Int),.int .i64 (d2:Int),.int .i64 (d1:Int)] 149 (0,0)))
     case first=>
      clear hx0 hx1 hx2 hx3 hx4 hx5 hg hg' hgw hS hi1 hz10 hz11 hz12 hsl hln hown howna hb hpb lp hA hBa hB hpa cpa0 cpa1 lpa HSK hkm b1 b2 HRN2
      go_region_law (first | (refine zFa rfl 76 _ _ rfl #[zAj (sl1,sl2)] (by simp [Act.eval]) (zId _) ?_;refine (zF6 sl1 sl2 _).mono ?_;rintro e v1 ⟨rfl,y1⟩;refine ⟨_,rfl,?_⟩;have x1:Below wq.heap.size wq v1:=Below.trans (by first | exact Below.refl _ _ | exact (Below.refl _ _).drew) (y1.mono (by simp));have hr_v1:=(x1.block _ lrr).trans hr;have l_v1:=zB hr_v1;have v1c0:v1.cell? ⟨lr,0,none⟩=some (.int .i64 (sl1:Int)):=(by rw [zC hr_v1];rfl);have v1c1:v1.cell? ⟨lr,1,none⟩=some (.int .i64 (sl2:Int)):=(by rw [zC hr_v1];rfl);have v1c2:v1.cell? ⟨lr,2,none⟩=some (.int .i64 (d1:Int)):=(by rw [zC hr_v1];rfl);have v1c3:v1.cell? ⟨lr,3,none⟩=some (.int .i64 (d2:Int)):=(by rw [zC hr_v1];rfl);have v1z0:=zD hr_v1 0;have v1z1:=zD hr_v1 1;have v1z2:=zD hr_v1 2;have v1z3:=zD hr_v1 3) | (refine zFa rfl 76 _ _ rfl #[zAj (d1,d2)] (by simp [Act.eval]) (zId _) ?_;refine (zF6 d1 d2 _).mono ?_;rintro e v2 ⟨rfl,y2⟩;refine ⟨_,rfl,?_⟩;have x2:Below v1.heap.size v1 v2:=Below.trans (by first | exact Below.refl _ _ | exact (Below.refl _ _).drew) (y2.mono (by simp));have hr_v2:=((x1.trans (x2.mono x1.size)).block _ lrr).trans hr;have l_v2:=zB hr_v2;have v2c0:v2.cell? ⟨lr,0,none⟩=some (.int .i64 (sl1:Int)):=(by rw [zC hr_v2];rfl);have v2c1:v2.cell? ⟨lr,1,none⟩=some (.int .i64 (sl2:Int)):=(by rw [zC hr_v2];rfl);have v2c2:v2.cell? ⟨lr,2,none⟩=some (.int .i64 (d1:Int)):=(by rw [zC hr_v2];rfl);have v2c3:v2.cell? ⟨lr,3,none⟩=some (.int .i64 (d2:Int)):=(by rw [zC hr_v2];rfl);have v2z0:=zD hr_v2 0;have v2z1:=zD hr_v2 1;have v2z2:=zD hr_v2 2;have v2z3:=zD hr_v2 3))
      all_goals
       go_wp2_with fail
       go_meet
       have xx:=hbc.trans ((x1.trans (x2.mono x1.size)).mono hbc.size);exact ⟨(((xx.setCell (p:=⟨lr,0,none⟩) hlr _).setCell (p:=⟨lr,1,none⟩) hlr _).setCell (p:=⟨lr,2,none⟩) hlr _).setCell (p:=⟨lr,3,none⟩) hlr _,zI (zI (zI (zI hr_v2 0 _) 1 _) 2 _) 3 _⟩
     case rest=>
     obtain ⟨hbd,hrd⟩:=hcut;clear r0 r1 r2 r3 lrr pc0 lpc hpc hbc hr;have r0:wc.cell? ⟨lr,0,none⟩=some (.int .i64 (sl2:Int)):=zE hrd rfl;have r1:wc.cell? ⟨lr,1,none⟩=some (.int .i64 (sl1:Int)):=zE hrd rfl;have r2:wc.cell? ⟨lr,2,none⟩=some (.int .i64 (d2:Int)):=zE hrd rfl;have r3:wc.cell? ⟨lr,3,none⟩=some (.int .i64 (d1:Int)):=zE hrd rfl;have lrr:=zB hrd;have hrl:(zAr 1 ss k).length≤9000:=(by omega);have hownc:=zO howna hbd;have lc:w.heap.size + 1≤wc.heap.size:=(by have:=hbd.size;have:=howlt;omega);have hBc:=hB.trans (hbd.mono hB.size);have HSN:=zF (zFA (zAr 1 ss k) ((sl2,sl1),(d2,d1)))
     go_wp2_with (at_builtin;refine zV rfl _ _ 72 rfl (w.heap.size + 1) i1 (.agg #[.int .i64 0,.int .i64 0,.int .i64 0,.int .i64 0]) 4 32 Tryz.underlying72 hi1 hz10 hz11 hz12 rfl (by decide) _ _ _ hownc rfl rfl rfl (by simp [Value.oneCell']) (by unfold maxLen;omega) (by omega) lc ?_;intro v4 w4 hown4 hgrow4 hnn4)
     have hB4:Below w.heap.size w w4:=za hBc hgrow4 hownc (Nat.le_succ _) hBc.size;have hp4:w4.heap[w.heap.size]?=some (.cells #[.int .i64 ((1:Nat):Int),.slice (some ⟨g,0,none⟩) ss.length cS] 67 (0,0)):=(hgrow4.block _ (zB (zH hbd hpa)) (fun e=>by have:=(hownc.lt _ e.symm).1;omega)).trans (zH hbd hpa);obtain ⟨a4,c4,rfl⟩:=zN hown4;go_wp2_with fail
     go_roundg (gk - 1)
     case measure=>omega
     case rel=>exact ⟨k + 1,by go_num,by omega,by rw [zA HRN2,zA HSN];simpa using hown4,hB4,hp4⟩
    ·have HRN2:Hid (zAr 2 ss (k + 1)=zAr 2 ss k ++ [((sl1,sl2),(d1,d2))]):=zF (by rw [zA HRN,if_neg (by decide)]);have r0:wc.cell? ⟨lr,0,none⟩=some (.int .i64 (sl1:Int)):=zE hr rfl;have r1:wc.cell? ⟨lr,1,none⟩=some (.int .i64 (sl2:Int)):=zE hr rfl;have r2:wc.cell? ⟨lr,2,none⟩=some (.int .i64 (d1:Int)):=zE hr rfl;have r3:wc.cell? ⟨lr,3,none⟩=some (.int .i64 (d2:Int)):=zE hr rfl;have lrr:=zB hr;have hrl:(zAr 2 ss k).length≤9000:=(by omega);have hownc:=zO howna hbc;have lc:w.heap.size + 1≤wc.heap.size:=(by have:=hbc.size;have:=howlt;omega);have hBc:=hB.trans (hbc.mono hB.size);have HSN:=zF (zFA (zAr 2 ss k) ((sl1,sl2),(d1,d2)))
     go_wp2_with (at_builtin;refine zV rfl _ _ 72 rfl (w.heap.size + 1) i1 (.agg #[.int .i64 0,.int .i64 0,.int .i64 0,.int .i64 0]) 4 32 Tryz.underlying72 hi1 hz10 hz11 hz12 rfl (by decide) _ _ _ hownc rfl rfl rfl (by simp [Value.oneCell']) (by unfold maxLen;omega) (by omega) lc ?_;intro v4 w4 hown4 hgrow4 hnn4)
     have hB4:Below w.heap.size w w4:=za hBc hgrow4 hownc (Nat.le_succ _) hBc.size;have hp4:w4.heap[w.heap.size]?=some (.cells #[.int .i64 ((2:Nat):Int),.slice (some ⟨g,0,none⟩) ss.length cS] 67 (0,0)):=(hgrow4.block _ (zB (zH hbc hpa)) (fun e=>by have:=(hownc.lt _ e.symm).1;omega)).trans (zH hbc hpa);obtain ⟨a4,c4,rfl⟩:=zN hown4;go_wp2_with fail
     go_roundg (gk - 1)
     case measure=>omega
     case rel=>exact ⟨k + 1,by go_num,by omega,by rw [zA HRN2,zA HSN];simpa using hown4,hB4,hp4⟩
   ·have hne:((sr:Int) != 4)=true:=(by rw [bne_iff_ne];omega);have HRN:Hid (zAr kind ss (k + 1)=zAr kind ss k):=zF (by rw [zA HRS,if_neg (by simpa using hr4),List.append_nil]);clear HRS HRW hr4;go_wp2_with fail
    go_roundg (gk - 1)
    case measure=>omega
    case rel=>exact ⟨k + 1,by go_num,by omega,by rw [zA HRN];exact howna,hBa,hpa⟩
  ·have hke:k=ss.length:=(by omega);subst hke;have HR:Hid (zAQ kind ss=zAr kind ss ss.length):=zF (by unfold zAQ zAr;rw [List.take_length]);go_wp2_with fail;go_ret;exact ⟨_,rfl,by rw [zA HR];exact zAG hown (by omega),hb⟩
theorem zJT (b:Nat) (t:TypeId) (bl:BL) (rs:List zAB) (g:GS) (gv:GV) (w:World) (hG:GameAt w b t bl rs g gv) :
  Calls Tryz.prog 36 #[.pointer (some ⟨b,0,none⟩)] w fun e w'=>e=.returned (.int .i64 (g.turn:Int))∧w'=w:=by
 have lb:=zB hG.fb
 go_enter Tryz.func36,Tryz.ntmps36
 go_wp2_with fail;refine (zOb b t bl rs g gv w hG).mono ?_;rintro e w1 ⟨rfl,hw1⟩;subst hw1;go_wp2_with fail;go_ret;exact ⟨rfl,rfl⟩
theorem zHt (b:Nat) (t:TypeId) (bl:BL) (rs:List zAB) (g:GS) (gv:GV) (w:World) (hG:GameAt w b t bl rs g gv) (hp:g.vals.1 < 512∧g.vals.2 < 512) :
  Calls Tryz.prog 37 #[.pointer (some ⟨b,0,none⟩)] w fun e w'=>∃ k,e=.returned (.slice (some ⟨k,0,none⟩) 8 8)∧w.heap.size≤k∧w'.heap[k]?=some (.cells (zCo g.vals 8).toArray 3 (0,0))∧Below w.heap.size w w':=by
 have lb:=zB hG.fb
 go_enter Tryz.func37,Tryz.ntmps37
 go_wp2_with fail;refine (zLz b t bl rs g gv w hG hp).mono ?_;rintro e w1 ⟨k,rfl,h1,h2,h3⟩;go_wp2_with fail;go_ret;exact ⟨k,rfl,h1,h2,h3⟩
theorem zFg (b:Nat) (t:TypeId) (bl:BL) (rs:List zAB) (g:GS) (gv:GV) (bits:Int) (w:World) (hG:GameAt w b t bl rs g gv) (hR:RBd rs) (hB:BBd bl) (hp:g.vals.1 < 512∧g.vals.2 < 512) (ht:g.turn≤bl.length) (hbi:zE8 bits) :
  Calls Tryz.prog 53 #[.pointer (some ⟨b,0,none⟩),.int .i64 bits] w fun e w'=>e=.returned (.int .i64 (zBv bl g bits:Nat))∧GameAt w' b t bl rs (zC2 rs bl g bits) gv∧Only (·=b) w w':=by
 have lb:=zB hG.fb
 go_enter Tryz.func53,Tryz.ntmps53
 go_wp2_with fail;refine (zPy b t bl rs g gv bits w hG hR hB hp ht hbi).mono ?_;rintro e w1 ⟨rfl,h2,h3⟩;go_wp2_with fail;go_ret;exact ⟨rfl,h2,h3⟩
def zI1 (n:Nat) (gv:GV):Prop:=(∀ k,gv.vB.ownBlock=some k→n≤k)∧(∀ k,gv.vR.ownBlock=some k→n≤k)∧∀ j (hj:j < gv.hdrs.length) k,gv.hdrs[j].ownBlock=some k→n≤k
def zN5 (g:GS) (gv:GV):Value:=.agg #[gv.vB,gv.vR,.int .i64 (g.turn:Int),.int .i64 (g.vals.1:Int),.int .i64 (g.vals.2:Int)]
def zRd (q:QS) (kind:Nat) (ss:List Stp) (w:World) (e:Ending) (w':World):Prop:=
 ∃ gv,e=.returned (zN5 (zBO q kind ss) gv)∧GRows w' (blW q kind) (zAQ kind ss) gv∧zI1 w.heap.size gv∧Below w.heap.size w w'
theorem zQL (bs:List (List Nat)) (h:∀ b∈bs,b≠[]):bs.length≤bs.flatten.length:=by
 induction bs with
 | nil=>simp
 | cons b bs ih=>
  have h1:=ih (fun x hx=>h x (List.mem_cons_of_mem _ hx));have h2:0 < b.length:=List.length_pos_iff.2 (h b (by simp));simp only [List.flatten_cons,List.length_append,List.length_cons];omega
theorem zDR (vs:List (Nat × Bool)) (h:vs.length≤8):(zG vs).length≤8:=by
 have:=zQL (zG vs) (fun b hb=>(zB6 vs b hb).1)
 rw [zAA,List.length_map] at this;omega
theorem zEg (vs:List (Nat × Bool)) (h:vs.length≤8) (b:List Nat) (hb:b∈zG vs):b.length≤8:=by
 have h1:b.length≤(zG vs).flatten.length:=by
  have:=(List.sublist_flatten_of_mem hb).length_le
  exact this
 rw [zAA,List.length_map] at h1;omega
theorem zE0 {q:QS} (hQ:QB q) (kind:Nat):BBd (blW q kind):=by
 refine ⟨by rw [zBB];exact zDR q.vars hQ.vl,fun x hx=>?_⟩;obtain ⟨b,hb,rfl⟩:=List.mem_map.1 (show x∈(zG q.vars).map _ from hx);refine ⟨zEg q.vars hQ.vl b hb,fun v hv=>?_⟩;have hm:v∈(zG q.vars).flatten:=List.mem_flatten.2 ⟨b,hb,hv⟩;rw [zAA] at hm;obtain ⟨y,hy,rfl⟩:=List.mem_map.1 hm;exact hQ.names y hy
theorem zIA {ss:List Stp} (h:SBs ss) (kind:Nat):RBd (zAQ kind ss):=by
 refine ⟨?_,fun r hr=>?_⟩
 ·unfold zAQ;rw [List.length_map];exact Nat.le_trans (List.length_filter_le _ _) h.len
 ·unfold zAQ at hr;obtain ⟨s,hs,rfl⟩:=List.mem_map.1 hr;have hs':=h.bits s (List.mem_filter.1 hs).1;have hm:=zDe (zM ss s.first) s.lits (zAX ss h.bits s.first);unfold zB5 zDj
  split
  ·exact ⟨⟨hs'.2,hs'.1⟩,hm.2,hm.1⟩
  ·exact ⟨hs',hm⟩
structure OAt (u wx:World) (gb:Nat) (bl:BL) (hdrs:List Value) (vR:Value) (k:Nat) (vB:Value):Prop where
 gg:wx.heap[gb]?=some (.cells #[vB,vR,.int .i64 0,.int .i64 0,.int .i64 0] 76 (0,0))
 oB:wx.ownsRow u.heap.size 111 2 vB k (zDV (bl.take k) (hdrs.take k))
 only:Only (·=gb) u wx
theorem zKC (bl:BL) (hdrs:List Value) (k:Nat) (h:k < bl.length) (hh:k < hdrs.length):zDV (bl.take (k + 1)) (hdrs.take (k + 1))=zDV (bl.take k) (hdrs.take k) ++ [hdrs[k],.bool bl[k].2]:=by
 unfold zDV;rw [List.take_succ_eq_append_getElem h,List.take_succ_eq_append_getElem hh,List.zip_append (by simp;omega),List.flatMap_append]
 simp
theorem zOh (q:QS) (ss:List Stp) (aV aC aS:Option Addr) (cV cC cS kind:Nat) (w:World) (hV:w.ownsRow 0 139 2 (.slice aV q.vars.length cV) q.vars.length (zd q.vars)) (hl:q.vars.length≤8)
  (hS:w.ownsRow 0 134 6 (.slice aS ss.length cS) ss.length (zAk ss)) (hSB:SBs ss) (hk:kind=1∨kind=2) (hQ:QB q) :
  Calls Tryz.prog 26 #[.agg #[.slice aV q.vars.length cV,.slice aC q.cl.length cC],.agg #[.int .i64 (kind:Int),.slice aS ss.length cS]] w fun e w'=>zRd q kind ss w e w':=by
 obtain ⟨i1,hi1,hz10,hz11,hz12⟩:=info_parts zOk
 go_enter Tryz.func26,Tryz.ntmps26
 go_wp2_with fail;generalize hw0:(((w.alloc (.cells #[.slice aV q.vars.length cV,.slice aC q.cl.length cC] 60)).alloc (.cells #[.int .i64 (kind:Int),.slice aS ss.length cS] 67)).alloc (.cells #[.slice none 0 0,.slice none 0 0,.int .i64 0,.int .i64 0,.int .i64 0] 76))=u1;have hB:Below w.heap.size w u1:=(by rw [← hw0];exact (((Below.refl _ _).alloc (Nat.le_refl _) _).alloc (by simp;try omega) _).alloc (by simp;try omega) _);have hff:u1.heap[w.heap.size]?=some (.cells #[.slice aV q.vars.length cV,.slice aC q.cl.length cC] 60 (0,0)):=(by rw [← hw0,heap_alloc_old _ _ (by simp;try omega),heap_alloc_old _ _ (by simp;try omega)];exact zP (by simp));have hpp:u1.heap[w.heap.size + 1]?=some (.cells #[.int .i64 (kind:Int),.slice aS ss.length cS] 67 (0,0)):=(by rw [← hw0,heap_alloc_old _ _ (by simp;try omega)];exact zP (by simp));have hrs:u1.heap[w.heap.size + 1 + 1]?=some (.cells #[.slice none 0 0,.slice none 0 0,.int .i64 0,.int .i64 0,.int .i64 0] 76 (0,0)):=(by rw [← hw0];exact zP (by simp));clear hw0;obtain ⟨cff0,cff1⟩:=zJ hff;have lff:=zB hff;obtain ⟨cpp0,cpp1⟩:=zJ hpp;have lpp:=zB hpp;obtain ⟨crs0,crs1,crs2,crs3,crs4⟩:=zGc hrs;have lrs:=zB hrs;have hsz1:w.heap.size≤u1.heap.size:=hB.size;refine (zL5 ss aS cS kind _ (zO hS hB) hSB hk).mono ?_;rintro e u2 ⟨vR,rfl,hoR,b2⟩;replace hB:=hB.trans (b2.mono hB.size);replace hff:=zH b2 hff;clear cff0 cff1;obtain ⟨cff0,cff1⟩:=zJ hff;replace lff:=zB hff;replace hpp:=zH b2 hpp;clear cpp0 cpp1;obtain ⟨cpp0,cpp1⟩:=zJ hpp;replace lpp:=zB hpp;replace hrs:=zH b2 hrs;clear crs0 crs1 crs2 crs3 crs4;obtain ⟨crs0,crs1,crs2,crs3,crs4⟩:=zGc hrs;replace lrs:=zB hrs;have hsz2:w.heap.size + 1 + 1 < u2.heap.size:=lrs;obtain ⟨aR,cR,rfl⟩:=zN hoR;have HRlt:Hid (∀ k,(Value.slice aR (zAQ kind ss).length cR).ownBlock=some k→u1.heap.size≤k∧k < u2.heap.size):=zF (fun k hk=>hoR.lt k hk);have hRl:(zAQ kind ss).length≤9000:=(by have h1:=zHc kind ss ss.length;have h2:=hSB.len;unfold zAr at h1;rw [List.take_length] at h1;unfold zAQ;omega);generalize hrw:zAQ kind ss=rs at *;have HRW:=zF hrw;clear hrw;go_wp2_with fail;generalize hw0:u2.alloc (.cells #[.slice none 0 0,.slice aR rs.length cR,.int .i64 0,.int .i64 0,.int .i64 0] 76)=u3;have b3:Below u2.heap.size u2 u3:=(by rw [← hw0];exact (Below.refl _ _).alloc (Nat.le_refl _) _);have hgg:u3.heap[u2.heap.size]?=some (.cells #[.slice none 0 0,.slice aR rs.length cR,.int .i64 0,.int .i64 0,.int .i64 0] 76 (0,0)):=(by rw [← hw0];exact heap_alloc_new _ _);clear hw0;replace hB:=hB.trans (b3.mono hB.size);replace hff:=zH b3 hff;clear cff0 cff1;obtain ⟨cff0,cff1⟩:=zJ hff;replace lff:=zB hff;replace hpp:=zH b3 hpp;clear cpp0 cpp1;obtain ⟨cpp0,cpp1⟩:=zJ hpp;replace lpp:=zB hpp;replace hrs:=zH b3 hrs;clear crs0 crs1 crs2 crs3 crs4;obtain ⟨crs0,crs1,crs2,crs3,crs4⟩:=zGc hrs;replace lrs:=zB hrs;replace hoR:=zO hoR b3;obtain ⟨cgg0,cgg1,cgg2,cgg3,cgg4⟩:=zGc hgg;have lgg:=zB hgg;have hsz3:u2.heap.size < u3.heap.size:=lgg;refine (zHs 0 w.heap.size q _ aV cV cff0 lff (zO hV hB) (by omega)).mono ?_;rintro e u4 ⟨v,hdrs,rfl,hoH,hRA,b4⟩;replace hB:=hB.trans (b4.mono hB.size);replace hff:=zH b4 hff;clear cff0 cff1;obtain ⟨cff0,cff1⟩:=zJ hff;replace lff:=zB hff;replace hpp:=zH b4 hpp;clear cpp0 cpp1;obtain ⟨cpp0,cpp1⟩:=zJ hpp;replace lpp:=zB hpp;replace hrs:=zH b4 hrs;clear crs0 crs1 crs2 crs3 crs4;obtain ⟨crs0,crs1,crs2,crs3,crs4⟩:=zGc hrs;replace lrs:=zB hrs;replace hgg:=zH b4 hgg;clear cgg0 cgg1 cgg2 cgg3 cgg4;obtain ⟨cgg0,cgg1,cgg2,cgg3,cgg4⟩:=zGc hgg;replace lgg:=zB hgg;replace hoR:=zO hoR b4;obtain ⟨aH,cH,rfl⟩:=zN hoH;go_wp2_with fail;have hHl:=hRA.len;have hbl:(zG q.vars).length≤8:=zDR q.vars hl;obtain ⟨bl,hbl0⟩:∃ bl,blW q kind=bl:=⟨_,rfl⟩;have hbll:bl.length=(zG q.vars).length:=(by rw [← hbl0,zBB]);have HBL:=zF hbl0;clear hbl0
 go_loopg [13] ((zG q.vars).length) (fun m i wx=>∃ (k:Nat) (vB:Value),i=.int .i64 k∧k + m=(zG q.vars).length∧OAt u4 wx u2.heap.size bl hdrs (.slice aR rs.length cR) k vB)
 case atStart=>exact ⟨0,.slice none 0 0,rfl,by omega,hgg,World.ownsRow_nil _ _ _ _,Only.refl _ _⟩
 case round=>
  obtain ⟨k,vB,rfl,hkm,⟨hgr,hoB,hon⟩⟩:=hrel;have lgr:=zB hgr;have hBr:Below w.heap.size w wr:=hB.trans (hon.below (B:=w.heap.size) hB.size (fun j hj e=>by omega));have hffr:=(hon.block _ lff (by omega)).trans hff;have hppr:=(hon.block _ lpp (by omega)).trans hpp;have f0:wr.cell? ⟨w.heap.size,0,none⟩=some (.slice aV q.vars.length cV):=zE hffr rfl;have f1:wr.cell? ⟨w.heap.size,1,none⟩=some (.slice aC q.cl.length cC):=zE hffr rfl;have p0:wr.cell? ⟨w.heap.size + 1,0,none⟩=some (.int .i64 (kind:Int)):=zE hppr rfl;have p1:wr.cell? ⟨w.heap.size + 1,1,none⟩=some (.slice aS ss.length cS):=zE hppr rfl;have lf:=zB hffr;have lp:=zB hppr;obtain ⟨aB,cB,rfl⟩:=zN hoB;have g0:wr.cell? ⟨u2.heap.size,0,none⟩=some (.slice aB k cB):=zE hgr rfl;have hoHr:=zY hoH hon (fun j hj e=>by have:=(hoH.lt j hj).1;omega)
  by_cases hlt:k < (zG q.vars).length
  ·have hkh:k < hdrs.length:=(by omega);have hkb:k < bl.length:=(by omega);have hXr:=zY (hRA.row k hlt).1 hon (fun j hj e=>by have:=((hRA.row k hlt).1.lt j hj).1;omega);have hb8:=zEg q.vars hl _ (List.getElem_mem hlt);have HSN:=zF (zKC bl hdrs k hkb hkh);have HWN:Hid (bl[k].2=zBq q kind (zG q.vars)[k]):=zF (by
    have h:=zHN q kind k hlt;rw [zA HBL] at h;rw [show bl.getD k ([],false)=bl[k] from by simp [List.getD,hkb]] at h;rw [h])
   obtain ⟨gH,cap,hVe,hg,hg',_,hcell⟩:=zS hoHr (by omega);injection hVe with hVe _ hV2;subst hVe hV2;have hxk:wr.cell? ⟨gH,k,none⟩=some hdrs[k]:=hcell _ _ (by simp [hkh]);obtain ⟨aX,cX,hXf⟩:=zN hXr;rw [hXf] at hxk hXr;have HXF:=zF hXf;clear hcell hXf;have hX0:=zAG (lo:=0) hXr (Nat.zero_le _);have hne0:=zT hoB hgr (by decide);have HNE:=zF hne0;clear hne0;have hVr:=zO hV hBr;obtain ⟨wo,rfl⟩:∃ wo,wo=wr:=⟨_,rfl⟩
   go_upto_region 30 with fail
   go_region_law (first | (refine zFa rfl 50 _ _ rfl #[.agg #[.slice aV q.vars.length cV,.slice aC q.cl.length cC],.agg #[.int .i64 (kind:Int),.slice aS ss.length cS],.slice aX (zG q.vars)[k].length cX] (by simp [Act.eval]) (zQP _) ?_;refine (zQv q aV aC aS cV q.cl.length cC ss.length cS kind (zG q.vars)[k] _ _ (zO hVr (Below.refl _ wo).drew) hl hk (zO hX0 (Below.refl _ wo).drew) hb8).mono ?_;rintro e v1 ⟨rfl,y1⟩;refine ⟨_,rfl,?_⟩;have x1:Below wo.heap.size wo v1:=Below.trans (Below.refl _ wo).drew y1;have hgv:=(x1.block _ lgr).trans hgr;have gv0:v1.cell? ⟨u2.heap.size,0,none⟩=some (.slice aB k cB):=(by rw [zC hgv];rfl);have lgv:=zB hgv) | (refine zDy rfl (.tmp 18) (.tmp 25) 71 rfl u4.heap.size 111 i1 (.agg #[.slice none 0 0,.bool false]) 2 32 Tryz.underlying71 hi1 hz10 hz11 hz12 rfl (by decide) (.slice aB k cB) k (zDV (bl.take k) (hdrs.take k)) ((zO hoB x1).alloc _) (by simp [Act.eval]) ⟨v1.heap.size,0,none⟩ 1 1 [.slice aX (zG q.vars)[k].length cX,.bool (zBq q kind (zG q.vars)[k])] (by simp [Act.eval]) rfl (zBX v1 [.slice aX (zG q.vars)[k].length cX,.bool (zBq q kind (zG q.vars)[k])] 111) (by simp [Value.oneCell']) (by decide) (by unfold maxLen;omega) (by omega) (by have:=x1.size;have:=hon.size;simp;omega) ?_;intro v' w' hown' hgrow hmv;obtain ⟨g4,cap4,rfl,hg4,hg4',hcap4,hcell4⟩:=zS hown' (by omega);have hgg':w'.heap[u2.heap.size]?=some (.cells #[.slice aB k cB,.slice aR rs.length cR,.int .i64 0,.int .i64 0,.int .i64 0] 76 (0,0)):=(hgrow.block _ (by simp;omega) (fun e=>zA HNE e.symm)).trans ((heap_alloc_old v1 _ lgv).trans hgv);have gw0:w'.cell? ⟨u2.heap.size,0,none⟩=some (.slice aB k cB):=(by rw [zC hgg'];rfl);have gz0:=zD hgg' 0;have lgw:=zB hgg'))
   all_goals
    have hns:=zT hown' hgg' (by decide);have HO:Hid (OAt u4 (w'.setCell ⟨u2.heap.size,0,none⟩ (.slice (some ⟨g4,0,none⟩) (k + 1) cap4)) u2.heap.size bl hdrs (.slice aR rs.length cR) (k + 1) (.slice (some ⟨g4,0,none⟩) (k + 1) cap4)):=zF ⟨zI hgg' 0 _,by rw [zA HSN,zA HXF,zA HWN];exact zR hown' (p:=⟨u2.heap.size,0,none⟩) hns _,(((hon.trans (Only.of_below x1)).alloc _).grown hgrow (fun j hj=>Or.inr (hoB.lt j hj).1)).setAt 0 _⟩;clear hown' hgrow hmv hcell4 hns;go_wp2_with fail
    go_roundg (gk - 1)
    case measure=>omega
    case rel=>exact ⟨k + 1,_,by go_num,by omega,zA HO⟩
  ·have hkn:k=(zG q.vars).length:=(by omega);subst hkn;have hdk:decide (((zG q.vars).length:Int) < ((zG q.vars).length:Int))=false:=(by simp);have hRr:=zY hoR hon (fun j hj e=>by have:=(zA HRlt j hj).2;omega);have hG:GameAt wr u2.heap.size 76 bl rs ⟨0,(0,0)⟩ ⟨.slice aB (zG q.vars).length cB,.slice aR rs.length cR,hdrs⟩:=by
    refine ⟨hgr,Or.inl rfl,?_,zAG hRr (Nat.zero_le _),by rw [hbll];exact hHl,fun j hj=>?_⟩
    ·have h:=zAG (lo:=0) hoB (Nat.zero_le _);rw [List.take_of_length_le (by omega),List.take_of_length_le (by omega)] at h;rw [hbll];exact h
    ·have hj':j < (zG q.vars).length:=(by omega);have h:=zAG (lo:=0) (zY (hRA.row j hj').1 hon (fun i hi e=>by have:=((hRA.row j hj').1.lt i hi).1;omega)) (Nat.zero_le _);have hrow:bl[j].1=(zG q.vars)[j]:=by
      have h2:=zHN q kind j hj';rw [zA HBL] at h2;rw [show bl.getD j ([],false)=bl[j] from by simp [List.getD,hj]] at h2;rw [h2]
     rw [hrow];exact h
   have hFr:zI1 w.heap.size ⟨.slice aB (zG q.vars).length cB,.slice aR rs.length cR,hdrs⟩:=by
    refine ⟨fun j hj=>?_,fun j hj=>?_,fun i hi j hj=>?_⟩
    ·have:=(hoB.lt j hj).1;have:=hB.size;omega
    ·have:=(zA HRlt j hj).1;omega
    ·have hi':i < (zG q.vars).length:=by rw [← hHl];exact hi
     have:=((hRA.row i hi').1.lt j hj).1;omega
   have HFR:=zF hFr;have hbd:=zE0 hQ kind;rw [zA HBL] at hbd;have hrbd:=zIA hSB kind;rw [zA HRW] at hrbd;have hrsr:=(hon.block _ lrs (by omega)).trans hrs;clear hFr hRr hoHr f0 f1 p0 p1 g0;go_wp2_with fail;refine (zIV u2.heap.size _ bl rs ⟨0,(0,0)⟩ _ _ hG hrbd hbd ⟨by decide,by decide⟩ (Nat.zero_le _)).mono ?_;rintro e w8 ⟨rfl,hG8,ho8⟩;have HOW:Hid (zBO q kind ss=zEM rs bl ⟨0,(0,0)⟩):=zF (by unfold zBO;rw [zA HRW,zA HBL]);generalize zEM rs bl ⟨0,(0,0)⟩=g8 at *;obtain ⟨t8,v1,v2⟩:=g8;have hrs8:=(ho8.block _ (zB hrsr) (by omega)).trans hrsr;have x0:w8.cell? ⟨u2.heap.size,0,none⟩=some (.slice aB (zG q.vars).length cB):=zE hG8.fb rfl;have x1:w8.cell? ⟨u2.heap.size,1,none⟩=some (.slice aR rs.length cR):=zE hG8.fb rfl;have x2:w8.cell? ⟨u2.heap.size,2,none⟩=some (.int .i64 (t8:Int)):=zE hG8.fb rfl;have x3:w8.cell? ⟨u2.heap.size,3,none⟩=some (.int .i64 (v1:Int)):=zE hG8.fb rfl;have x4:w8.cell? ⟨u2.heap.size,4,none⟩=some (.int .i64 (v2:Int)):=zE hG8.fb rfl;have lx:=zB hG8.fb;have ly:=zB hrs8;have y0:w8.cell? ⟨w.heap.size + 1 + 1,0,none⟩=some (.slice none 0 0):=zE hrs8 rfl;have y1:w8.cell? ⟨w.heap.size + 1 + 1,1,none⟩=some (.slice none 0 0):=zE hrs8 rfl;have y2:w8.cell? ⟨w.heap.size + 1 + 1,2,none⟩=some (.int .i64 0):=zE hrs8 rfl;have y3:w8.cell? ⟨w.heap.size + 1 + 1,3,none⟩=some (.int .i64 0):=zE hrs8 rfl;have y4:w8.cell? ⟨w.heap.size + 1 + 1,4,none⟩=some (.int .i64 0):=zE hrs8 rfl;have z0:=zD hrs8 0;have z1:=zD hrs8 1;have z2:=zD hrs8 2;have z3:=zD hrs8 3;have z4:=zD hrs8 4;have hR:=zI (zI (zI (zI (zI hrs8 0 (.slice aB (zG q.vars).length cB)) 1 (.slice aR rs.length cR)) 2 (.int .i64 (t8:Int))) 3 (.int .i64 (v1:Int))) 4 (.int .i64 (v2:Int));have j0:=zC hR 0;have j1:=zC hR 1;have j2:=zC hR 2;have j3:=zC hR 3;have j4:=zC hR 4;have hB8:Below w.heap.size w w8:=hBr.trans (ho8.below (B:=w.heap.size) hBr.size (fun j hj e=>by omega));go_wp2_with fail;refine bodyPost_ret (v:=zN5 ⟨t8,(v1,v2)⟩ ⟨.slice aB (zG q.vars).length cB,.slice aR rs.length cR,hdrs⟩) (by simp [results,Tryz.results26,go_sem,j0,j1,j2,j3,j4,zN5]) rfl ⟨⟨.slice aB (zG q.vars).length cB,.slice aR rs.length cR,hdrs⟩,by rw [zA HOW],?_,zA HFR,?_⟩
   ·rw [zA HBL,zA HRW];have ho9:Only (·=w.heap.size + 1 + 1) w8 (((((w8.setCell ⟨w.heap.size + 1 + 1,0,none⟩ (.slice aB (zG q.vars).length cB)).setCell ⟨w.heap.size + 1 + 1,1,none⟩ (.slice aR rs.length cR)).setCell ⟨w.heap.size + 1 + 1,2,none⟩ (.int .i64 (t8:Int))).setCell ⟨w.heap.size + 1 + 1,3,none⟩ (.int .i64 (v1:Int))).setCell ⟨w.heap.size + 1 + 1,4,none⟩ (.int .i64 (v2:Int))):=(((((Only.refl (·=w.heap.size + 1 + 1) w8).setAt 0 _).setAt 1 _).setAt 2 _).setAt 3 _).setAt 4 _;refine hG8.rows.keep ho9 (fun j cs e hj ht hjb=>?_);subst hjb;have he:=zc hj hrs8
    rcases ht with h2 | h2 | ⟨h2,_⟩<;>(rw [he] at h2;revert h2;decide)
   ·exact ((((hB8.setCell (p:=⟨w.heap.size + 1 + 1,0,none⟩) (by show w.heap.size≤w.heap.size + 1 + 1;omega) _).setCell (p:=⟨w.heap.size + 1 + 1,1,none⟩) (by show w.heap.size≤w.heap.size + 1 + 1;omega) _).setCell (p:=⟨w.heap.size + 1 + 1,2,none⟩) (by show w.heap.size≤w.heap.size + 1 + 1;omega) _).setCell (p:=⟨w.heap.size + 1 + 1,3,none⟩) (by show w.heap.size≤w.heap.size + 1 + 1;omega) _).setCell (p:=⟨w.heap.size + 1 + 1,4,none⟩) (by show w.heap.size≤w.heap.size + 1 + 1;omega) _
def zP3 (q:QS) (l:List UInt8) (w:World) (e:Ending) (w':World):Prop:=
 Below w.heap.size w w'∧match zA1 q l with
  | .inl (x,i)=>e=.returned (.tuple #[.pointer none,.int .i64 (x:Int),.int .i64 (i:Int)])
  | .inr (kind,ls)=>∃ ss db gv,ze ss=ls∧zFT q kind l ss∧SBs ss∧e=.returned (.tuple #[.pointer (some ⟨db,0,none⟩),.int .i64 0,.int .i64 0])∧
   GameAt w' db 79 (blW q kind) (zAQ kind ss) (zBO q kind ss) gv∧w.heap.size≤db∧zI1 w.heap.size gv
theorem zOg {q:QS} {l:List UInt8} {x i:Nat} (h:zA1 q l=.inl (x,i)):0 < x:=by
 unfold zA1 at h
 split at h
 ·injection h with h;injection h with h1 h2;omega
 ·unfold zGA at h
  split at h
  ·injection h with h;injection h with h1 h2;omega
  ·split at h
   ·unfold goQ at h
    split at h
    ·injection h with h;injection h with h1 h2;omega
    ·split at h
     ·cases h
     ·injection h with h;injection h with h1 h2;omega
   ·injection h with h;injection h with h1 h2;omega
theorem zDO {q:QS} {l:List UInt8} {kind:Nat} {ls:List (Nat × Nat)} (h:zA1 q l=.inr (kind,ls)):kind=1∨kind=2:=by
 unfold zA1 at h
 split at h
 ·cases h
 ·unfold zGA at h
  split at h
  ·cases h
  ·split at h
   ·unfold goQ at h
    split at h
    ·cases h
    ·split at h
     ·injection h with h;injection h with h1 h2;rw [← h1];unfold zFK;split
      ·exact Or.inr rfl
      ·exact Or.inl rfl
     ·cases h
   ·cases h
theorem zHR (lo b:Nat) (q:QS) (l:List UInt8) (w:World) (hP:ProgAt lo w b q) (hQ:QB q) :
  Calls Tryz.prog 18 #[.pointer (some ⟨b,0,none⟩),.string ⟨l.toArray⟩] w fun e w'=>zP3 q l w e w':=by
 obtain ⟨_,vV,vC,hfb,hV,hC⟩:=hP;have hbw:=zB hfb;have k0:w.cell? ⟨b,0,none⟩=some vV:=zE hfb rfl;have k1:w.cell? ⟨b,1,none⟩=some vC:=zE hfb rfl;obtain ⟨aV,cV,rfl⟩:=zN hV;obtain ⟨aC,cC,rfl⟩:=zN hC
 go_enter Tryz.func18,Tryz.ntmps18
 go_wp2_with fail;refine (zEI b _ _ aV aC _ cV _ cC rfl rfl w hfb).mono ?_;rintro e w0 ⟨rfl,hA⟩;go_wp2_with fail;have hfm:=heap_alloc_new w0 (.cells #[.slice aV q.vars.length cV,.slice aC q.cl.length cC] 60);have hA1:Below w.heap.size w (w0.alloc (.cells #[.slice aV q.vars.length cV,.slice aC q.cl.length cC] 60)):=hA.alloc hA.size _;generalize w0.alloc (.cells #[.slice aV q.vars.length cV,.slice aC q.cl.length cC] 60)=u1 at *;refine (zJq q _ _ l _ (zAG (lo:=0) (zO hV hA1) (Nat.zero_le _)) (zAG (lo:=0) (zO hC hA1) (Nat.zero_le _)) hQ).mono ?_;rintro e w1 ⟨hb1,hp⟩;have hB1:Below w.heap.size w w1:=hA1.trans (hb1.mono hA1.size)
 cases hq:zA1 q l with
 | inl xi=>
  obtain ⟨x,i⟩:=xi;rw [hq] at hp;have hp':e=.returned (.tuple #[.agg #[.int .i64 0,.slice none 0 0],.int .i64 (x:Int),.int .i64 (i:Int)]):=hp;subst hp';have HC:=zF hq;have hx:=zOg hq;have hxb:((x:Int) != 0)=true:=(by rw [bne_iff_ne];omega);clear hp hq;go_wp2_with fail;go_ret3;exact ⟨hB1.alloc hB1.size _,by rw [zA HC];rfl⟩
 | inr ks=>
  obtain ⟨kind,ls⟩:=ks;rw [hq] at hp;obtain ⟨ss,vS,hls,htg,hsb,rfl,hS⟩:=hp;have HC:=zF hq;have hk:=zDO hq;clear hq;obtain ⟨aS,cS,rfl⟩:=zN hS;have hA2:Below w1.heap.size w1 (w1.alloc (.cells #[.int .i64 (kind:Int),.slice aS ss.length cS] 67)):=(Below.refl _ _).alloc (Nat.le_refl _) _;have hpr:=heap_alloc_new w1 (.cells #[.int .i64 (kind:Int),.slice aS ss.length cS] 67);have hfm1:=zH hb1 hfm;have hfm2:=zH hA2 hfm1;have hB2:=hB1.trans (hA2.mono hB1.size);have hV2:=zAG (lo:=0) (zO hV hB2) (Nat.zero_le _);have hS2:=zAG (lo:=0) (zO hS hA2) (Nat.zero_le _);have f0:(w1.alloc (.cells #[.int .i64 (kind:Int),.slice aS ss.length cS] 67)).cell? ⟨w0.heap.size,0,none⟩=some (.slice aV q.vars.length cV):=zE hfm2 rfl;have f1:(w1.alloc (.cells #[.int .i64 (kind:Int),.slice aS ss.length cS] 67)).cell? ⟨w0.heap.size,1,none⟩=some (.slice aC q.cl.length cC):=zE hfm2 rfl;obtain ⟨p0,p1⟩:=zJ hpr;have lf:=zB hfm2;have lp:=zB hpr;go_wp2_with fail;refine (zOh q ss aV aC aS cV cC cS kind _ hV2 hQ.vl hS2 hsb hk hQ).mono ?_;rintro e w3 ⟨⟨vB,vR,hdrs⟩,rfl,hrows,hfr,hb3⟩;have hB3:=hB2.trans (hb3.mono hB2.size);obtain ⟨aB,cB,hBf⟩:=zN hrows.oB;obtain ⟨aR,cR,hRf⟩:=zN hrows.oR;dsimp only at hBf hRf;subst hBf hRf;have HRO:Hid (∀ w',Below w3.heap.size w3 w'→GRows w' (blW q kind) (zAQ kind ss) ⟨.slice aB (blW q kind).length cB,.slice aR (zAQ kind ss).length cR,hdrs⟩):=zF (fun w' h=>hrows.later h);have HFR:Hid (zI1 w.heap.size ⟨.slice aB (blW q kind).length cB,.slice aR (zAQ kind ss).length cR,hdrs⟩):=zF ⟨fun k hk=>Nat.le_trans hB2.size (hfr.1 k hk),fun k hk=>Nat.le_trans hB2.size (hfr.2.1 k hk),fun j hj k hk=>Nat.le_trans hB2.size (hfr.2.2 j hj k hk)⟩;have hs3:=hB3.size;have HT:=zF htg;have HS:=zF hsb;clear hrows hfr htg hsb;generalize hgo:zBO q kind ss=go at *;have HGO:=zF hgo;clear hgo;obtain ⟨t0,v0,v1⟩:=go;unfold zN5;dsimp only;go_wp2_with fail;go_ret3;have hA3:Below w3.heap.size w3 (w3.alloc (.cells #[.slice aB (blW q kind).length cB,.slice aR (zAQ kind ss).length cR,.int .i64 (t0:Int),.int .i64 (v0:Int),.int .i64 (v1:Int)] 79)):=(Below.refl _ _).alloc (Nat.le_refl _) _;refine ⟨hB3.trans (hA3.mono hB3.size),?_⟩;rw [zA HC];exact ⟨ss,w3.heap.size,⟨.slice aB (blW q kind).length cB,.slice aR (zAQ kind ss).length cR,hdrs⟩,hls,zA HT,zA HS,rfl,by rw [zA HGO];exact ⟨heap_alloc_new _ _,Or.inr rfl,zA HRO _ hA3⟩,hs3,zA HFR⟩
def zGx (n:Nat) (x:Int):Array Value:=(List.replicate n (Value.int .i64 x)).toArray
def zCA (cur:Array Value) (i:Nat) (x:Int):Array Value:=(List.replicate i (Value.int .i64 x) ++ cur.toList.drop i).toArray
theorem zIK (cur:Array Value) (x:Int):zCA cur 0 x=cur:=by simp [zCA]
theorem zJA (cur:Array Value) (x:Int):zCA cur cur.size x=zGx cur.size x:=by
 unfold zCA zGx;rw [List.drop_of_length_le (by simp)];simp
theorem zIW (cur:Array Value) (i:Nat) (x:Int) (h:i≤cur.size):(zCA cur i x).size=cur.size:=by
 simp [zCA];omega
theorem zIf (cur:Array Value) (i:Nat) (x:Int) (h:i < cur.size):(zCA cur i x).setIfInBounds i (.int .i64 x)=zCA cur (i + 1) x:=by
 unfold zCA
 apply Array.ext'
 rw [Array.toList_setIfInBounds];simp only;rw [List.set_append_right _ _ (by simp)];simp only [List.length_replicate,Nat.sub_self];rw [List.drop_eq_getElem_cons (by simpa using h),List.set_cons_zero,List.replicate_succ',List.append_assoc];rfl
theorem Tryz.info25:(Tryz.prog.info? 25).map (fun i=>(i.zero,i.size,i.bytes))=some (some (.slice none 0 0),1,24):=by kernel_rfl
structure zIL (bw g:Nat) (cap:Nat) (nls:Nat) (hdrs:List Value) (vls:Value) (text:List UInt8) (px pf:Option Addr) (proof:List UInt8) (c4 c6:Value) (w:World) (e:Ending) (w':World):Prop where
 ret:e=.returned (.tuple #[])
 only:Only (fun k=>k=bw∨k=g∨vls.ownBlock=some k) w w'
 row:w'.heap[g]?=some (.cells (zGx cap (-10 - (nls:Int))) 3 (0,0))
 at_:∃ vls',WAt w' bw text px pf proof c4 vls' c6∧w'.ownsRow (bw + 1) 25 1 vls' (nls + 1) (hdrs ++ [.slice (some ⟨g,0,none⟩) cap cap])∧(vls'.ownBlock=vls.ownBlock∨∃ k,vls'.ownBlock=some k∧w.heap.size≤k)
theorem zMK (bw g n cap:Nat) (cur:Array Value) (nls:Nat) (hdrs:List Value) (vls:Value) (text:List UInt8) (px pf:Option Addr) (proof:List UInt8) (c4 c6:Value) (w:World)
  (hw:WAt w bw text px pf proof c4 vls c6) (hg:w.heap[g]?=some (.cells cur 3 (0,0))) (hcs:cur.size=cap) (hnc:n≤cap) (hcm:cap≤maxLen) (hls:w.ownsRow (bw + 1) 25 1 vls nls hdrs) (hnl:nls≤1073741824) :
  Calls Tryz.prog 39 #[.pointer (some ⟨bw,0,none⟩),.slice (some ⟨g,0,none⟩) n cap] w fun e w'=>zIL bw g cap nls hdrs vls text px pf proof c4 c6 w e w':=by
 have hbw:bw < w.heap.size:=zB hw;have hgs:g < w.heap.size:=zB hg;have hne:g≠bw:=by
  intro e;subst e;unfold WAt at hw;rw [hg] at hw;simp at hw
 have hapart:vls.ownBlock≠some g:=fun e=>by
  rcases hls.2 with ⟨rfl,_⟩ | ⟨g',c',cur',rfl,_,hh,_⟩
  ·simp [Value.ownBlock] at e
  ·simp [Value.ownBlock] at e;subst e;rw [hg] at hh;simp at hh
 have hapw:vls.ownBlock≠some bw:=fun e=>by have:=hls.lt _ e;omega
 have HCS:=zF hcs;clear hcs;obtain ⟨al,cl,rfl⟩:=zN hls;have hcm':=hcm;unfold maxLen at hcm;obtain ⟨i0,hi,hz0,hz1,hz2⟩:=info_parts Tryz.info25;have h5:w.cell? ⟨bw,5,none⟩=some (.slice al nls cl):=zE hw rfl
 go_enter Tryz.func39,Tryz.ntmps39
 go_wp2_with fail
 go_loopg [4] cap (fun q i wx=>∃ k:Nat,i=.int .i64 k∧k + q=cap∧Only (·=g) w wx∧wx.heap[g]?=some (.cells (zCA cur k (-10 - (nls:Int))) 3 (0,0)))
 case atStart=>exact ⟨0,rfl,by omega,Only.refl _ _,by rw [zIK];exact hg⟩
 case round=>
  obtain ⟨k,rfl,hk,ho,hgx⟩:=hrel;have hwx:WAt wr bw text px pf proof c4 (.slice al nls cl) c6:=(ho.block bw hbw (fun e=>hne e.symm)).trans hw;have k5:wr.cell? ⟨bw,5,none⟩=some (.slice al nls cl):=zE hwx rfl
  by_cases hlt:k < cap
  ·have hsz:=zIW cur k (-10 - (nls:Int)) (by have:=zA HCS;omega);obtain ⟨u,hu⟩:∃ u,wr.cell? ⟨g,k,none⟩=some u:=by
    rw [zC hgx];exact ⟨_,Array.getElem?_eq_getElem (by rw [hsz];have:=zA HCS;omega)⟩
   have hz:=zD hgx k;have HHS:=zF (zIf cur k (-10 - (nls:Int)) (by have:=zA HCS;omega));have HST:=zF (zI hgx k (.int .i64 (-10 - (nls:Int))));clear hsz;go_wp2_with fail
   go_roundg (gk - 1)
   case measure=>omega
   case rel=>exact ⟨k + 1,by go_num,by omega,ho.setAt _ _,by rw [← zA HHS];exact zA HST⟩
  ·have hkl:k=cap:=(by omega);subst hkl;have hgm:wr.heap[g]?=some (.cells (zGx k (-10 - (nls:Int))) 3 (0,0)):=by
    have h1:=zJA cur (-10 - (nls:Int));rw [zA HCS] at h1;rw [← h1];exact hgx
   have hlsx:wr.ownsRow (bw + 1) 25 1 (.slice al nls cl) nls hdrs:=hls.kept (row:=some g) ⟨ho.os,ho.tape,ho.output,ho.size,fun j hj hne=>ho.block j hj (fun e=>hne (by rw [e]))⟩ (Or.inr hapart);have hbs:bw + 1≤wr.heap.size:=by have:=ho.size;omega
   go_wp2_with (at_builtin;refine zp rfl (.tmp 28) (.tmp 30) 45 rfl (bw + 1) i0 (.slice none 0 0) 1 24 Tryz.underlying45 hi hz0 hz1 hz2 rfl (by decide) _ _ _ hlsx rfl rfl rfl (by simp [Value.oneCell']) (by unfold maxLen;omega) (by omega) hbs ?_;intro v' w4 hown4 hgrow hat;have hw4:WAt w4 bw text px pf proof c4 (.slice al nls cl) c6:=(hgrow.block bw (zB hwx) (fun e=>hapw e.symm)).trans hwx;obtain ⟨g3,cap3,rfl,hg3,hg3',hcap3,hcell3⟩:=zS hown4 (by omega);have hq5:w4.cell? ⟨bw,5,none⟩=some (.slice al nls cl):=(by rw [zC hw4];rfl);have hqz:=zD hw4 5)
   go_end0
   refine ⟨rfl,?_,?_,_,zI hw4 5 _,ownsRow_setCell_below hown4 (a:=⟨bw,5,none⟩) (Nat.lt_succ_self bw) _,?_⟩
   ·refine Only.setCell ?_ (p:=⟨bw,5,none⟩) (Or.inl (Or.inl rfl)) _;exact (ho.mono (fun k _ h=>Or.inr (Or.inl h))).grown hgrow (fun k hk=>Or.inl (Or.inr (Or.inr hk)))
   ·rw [Below.heap_setCell _ _ _ _ hne];rw [hgrow.block g (zB hgm) (fun e=>hapart e.symm)];exact hgm
   ·rcases hat with h | ⟨k',h1,h2⟩
    ·exact Or.inl h
    ·exact Or.inr ⟨k',h1,by have:=ho.size;omega⟩
def LsAt (w:World) (hdrs:List Value):Prop:=∀ i (hi:i < hdrs.length),∃ g n,hdrs[i]=.slice (some ⟨g,0,none⟩) n n∧n≤maxLen∧w.heap[g]?=some (.cells (zGx n (-10 - (i:Int))) 3 (0,0))
def LssAt (w:World) (hdrs:List Value):Prop:=∀ i (hi:i < hdrs.length),hdrs[i]=.slice none 0 0∨∃ h n cs,hdrs[i]=.slice (some ⟨h,0,none⟩) n n∧n≤maxLen∧w.heap[h]?=some (.cells cs 25 (0,0))∧
 ∀ k,k < n→∃ x,cs[k]?=some (.slice (some ⟨x,0,none⟩) 2 2)∧w.heap[x]?=some (.cells #[.int .i64 (i:Int),.int .i64 (k:Int)] 3 (0,0))
theorem zRD (n:Nat) (x:Int) (k:Nat) (h:k < n):(zGx n x)[k]?=some (.int .i64 x):=by
 unfold zGx;simp [h]
theorem zPf (bw:Nat) (text:List UInt8) (px pf:Option Addr) (proof:List UInt8) (c4 v5 v6:Value) (h5s h6s:List Value) (b5 b6:Nat) (w:World) (hw:WAt w bw text px pf proof c4 v5 v6)
  (h5:w.ownsRow b5 25 1 v5 h5s.length h5s) (h6:w.ownsRow b6 45 1 v6 h6s.length h6s) (hls:LsAt w h5s) (hlss:LssAt w h6s) (hn5:h5s.length≤1073741824) (hn6:h6s.length≤1073741824) :
  Calls Tryz.prog 20 #[.pointer (some ⟨bw,0,none⟩)] w fun e w'=>e=.returned (.bool true)∧w'=w:=by
 have k5:w.cell? ⟨bw,5,none⟩=some v5:=zE hw rfl;have k6:w.cell? ⟨bw,6,none⟩=some v6:=zE hw rfl;have HLS:=zF hls;have HLSS:=zF hlss;clear hls hlss;obtain ⟨a5,c5,rfl⟩:=zN h5;obtain ⟨a6,c6,rfl⟩:=zN h6
 go_enter Tryz.func20,Tryz.ntmps20
 go_wp2_with fail
 go_loopg [3] (h5s.length) (fun q i wx=>∃ k:Nat,i=.int .i64 k∧k + q=h5s.length∧wx=w)
 case atStart=>exact ⟨0,rfl,by omega,rfl⟩
 case round=>
  obtain ⟨k,rfl,hk,hwx⟩:=hrel;subst hwx;obtain ⟨go,rfl⟩:∃ go,go=gk:=⟨_,rfl⟩
  by_cases hlt:k < h5s.length
  ·obtain ⟨g5,c5',hV,hg5,hg5',_,hcell⟩:=zS h5 (by omega);injection hV with hV _ hV2;subst hV hV2;obtain ⟨g,n,he,hnm,hg⟩:=zA HLS k hlt;have hck:wr.cell? ⟨g5,k,none⟩=some (.slice (some ⟨g,0,none⟩) n n):=hcell k _ (by rw [List.getElem?_eq_getElem hlt,he]);have hdk:decide ((k:Int) < (h5s.length:Int))=true:=(by simp;omega);have HE:=zF he;clear he hcell;unfold maxLen at hnm;go_wp2_with fail
   go_loopg [4] n (fun q i wx=>∃ j:Nat,i=.int .i64 j∧j + q=n∧wx=wr)
   case atStart=>exact ⟨0,rfl,by omega,rfl⟩
   case round=>
    obtain ⟨j,rfl,hj,hwx⟩:=hrel;subst hwx
    by_cases hjl:j < n
    ·have hcj:wr.cell? ⟨g,j,none⟩=some (.int .i64 (-10 - (k:Int))):=(by rw [zC hg];exact zRD n _ j hjl);have hdj:decide ((j:Int) < (n:Int))=true:=(by simp;omega);have hmk:(-10 - (k:Int) != -10 - (k:Int))=false:=(by simp);go_wp2_with fail
     go_roundg (gk - 1)
     case measure=>omega
     case rel=>exact ⟨j + 1,by go_num,by omega,rfl⟩
    ·have hdj:decide ((j:Int) < (n:Int))=false:=(by simp;omega);have hjn:j≤n:=(by omega);go_wp2_with fail
     go_roundg (go - 1)
     case measure=>omega
     case rel=>exact ⟨k + 1,by go_num,by omega,rfl⟩
  ·have hkl:k=h5s.length:=(by omega);subst hkl;have hdk:decide ((h5s.length:Int) < (h5s.length:Int))=false:=(by simp);go_wp2_with fail
   go_loopg [5] (h6s.length) (fun q i wx=>∃ k:Nat,i=.int .i64 k∧k + q=h6s.length∧wx=wr)
   case atStart=>exact ⟨0,rfl,by omega,rfl⟩
   case round=>
    obtain ⟨k,rfl,hk6,hwx⟩:=hrel;subst hwx;obtain ⟨go6,rfl⟩:∃ go6,go6=gk:=⟨_,rfl⟩
    by_cases hlt6:k < h6s.length
    ·obtain ⟨g6,c6',hV,hg6,hg6',_,hcell⟩:=zS h6 (by omega);injection hV with hV _ hV2;subst hV hV2;have hdk6:decide ((k:Int) < (h6s.length:Int))=true:=by simp;omega
     rcases zA HLSS k hlt6 with he | ⟨h,n,cs,he,hnm,hh,hx⟩
     ·have hck:wr.cell? ⟨g6,k,none⟩=some (.slice none 0 0):=hcell k _ (by rw [List.getElem?_eq_getElem hlt6,he]);clear he hcell;go_wp2_with fail;refine wp_loop_rounds 1 ?_;rw [rounds_succ];go_wp2_with fail
      go_roundg (go6 - 1)
      case measure=>omega
      case rel=>exact ⟨k + 1,by go_num,by omega,rfl⟩
     ·have hck:wr.cell? ⟨g6,k,none⟩=some (.slice (some ⟨h,0,none⟩) n n):=hcell k _ (by rw [List.getElem?_eq_getElem hlt6,he]);have HX:=zF hx;clear he hcell hx;unfold maxLen at hnm;go_wp2_with fail
      go_loopg [6] n (fun q i wx=>∃ j:Nat,i=.int .i64 j∧j + q=n∧wx=wr)
      case atStart=>exact ⟨0,rfl,by omega,rfl⟩
      case round=>
       obtain ⟨j,rfl,hj,hwx⟩:=hrel;subst hwx
       by_cases hjl:j < n
       ·obtain ⟨x,hx1,hx2⟩:=zA HX j hjl;have hcj:wr.cell? ⟨h,j,none⟩=some (.slice (some ⟨x,0,none⟩) 2 2):=(by rw [zC hh];exact hx1);have hy0:wr.cell? ⟨x,0,none⟩=some (.int .i64 (k:Int)):=zE hx2 rfl;have hy1:wr.cell? ⟨x,1,none⟩=some (.int .i64 (j:Int)):=zE hx2 rfl;have hdj:decide ((j:Int) < (n:Int))=true:=(by simp;omega);have hm1:((k:Int) != (k:Int))=false:=(by simp);have hm2:((j:Int) != (j:Int))=false:=(by simp);go_wp2_with fail
        go_roundg (gk - 1)
        case measure=>omega
        case rel=>exact ⟨j + 1,by go_num,by omega,rfl⟩
       ·have hdj:decide ((j:Int) < (n:Int))=false:=(by simp;omega);have hjn:j≤n:=(by omega);go_wp2_with fail
        go_roundg (go6 - 1)
        case measure=>omega
        case rel=>exact ⟨k + 1,by go_num,by omega,rfl⟩
    ·have hkl:k=h6s.length:=(by omega);subst hkl;have hdk6:decide ((h6s.length:Int) < (h6s.length:Int))=false:=(by simp);go_wp2_with fail;go_ret;exact ⟨rfl,rfl⟩
end Go.Proofs.YtgipjjhkhfihpaaGreatDoor
