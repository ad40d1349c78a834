import Derived.Test.YtgipjjhkhfihpaaGreatDoorAV
import Derived.Test.YtgipjjhkhfihpaaGreatDoorAA
import Derived.Deep.RegionLaw
import Derived.Test.YtgipjjhkhfihpaaGreatDoorAK
import Derived.Test.YtgipjjhkhfihpaaGreatDoorAI
import Derived.Test.YtgipjjhkhfihpaaGreatDoorAC
import Derived.Test.YtgipjjhkhfihpaaGreatDoorAL
set_option maxRecDepth 100000
set_option maxHeartbeats 6400000
namespace Go.Proofs.YtgipjjhkhfihpaaGreatDoor
open Go.RowKit
theorem zQv (q:QS) (aV aC aS:Option Addr) (cV nC cC nS cS kind:Nat) (row:List Nat) (vX:Value) (w:World) (hV:w.ownsRow 0 139 2 (.slice aV q.vars.length cV) q.vars.length (zd q.vars)) (hl:q.vars.length≤8) (hk:kind=1∨kind=2)
  (hX:w.ownsRow 0 3 1 vX row.length (zu row)) (hr:row.length≤8) :
  Calls Tryz.prog 50 #[.agg #[.slice aV q.vars.length cV,.slice aC nC cC],.agg #[.int .i64 (kind:Int),.slice aS nS cS],vX] w fun e w'=>e=.returned (.bool (zBq q kind row))∧Below w.heap.size w w':=by
 obtain ⟨aX,cX,rfl⟩:=zN hX
 cases row with
 | nil=>
  go_enter Tryz.func50,Tryz.ntmps50
  go_wp2_with fail;go_ret;exact ⟨rfl,((Below.refl _ _).alloc (Nat.le_refl _) _).alloc (by simp) _⟩
 | cons v r=>
  have HW:Hid (zBq q kind (v :: r)=(((zBY q.vars v).getD (0,false)).2 == (kind == 1))):=zF (by
   show (zPE q v == _)=_;unfold zPE
   cases zBY q.vars v<;>rfl)
  obtain ⟨g,cap,hVe,hg,hg',_,hcell⟩:=zS hX (by simp);injection hVe with hVe _ hV2;subst hVe hV2;have hx0:w.cell? ⟨g,0,none⟩=some (.int .i64 (v:Int)):=hcell 0 _ rfl;clear hcell;have hne0:(((r.length + 1:Nat):Int) == 0)=false:=by rw [beq_eq_false_iff_ne];omega
  go_enter Tryz.func50,Tryz.ntmps50
  go_wp2_with fail;generalize hw0:((w.alloc (.cells #[.slice aV q.vars.length cV,.slice aC nC cC] 60)).alloc (.cells #[.int .i64 (kind:Int),.slice aS nS cS] 67))=u1;have hB:Below w.heap.size w u1:=(by rw [← hw0];exact ((Below.refl _ _).alloc (Nat.le_refl _) _).alloc (by simp) _);have hf:u1.heap[w.heap.size]?=some (.cells #[.slice aV q.vars.length cV,.slice aC nC cC] 60 (0,0)):=(by rw [← hw0,heap_alloc_old _ _ (by simp)];exact heap_alloc_new _ _);have hpr:u1.heap[w.heap.size + 1]?=some (.cells #[.int .i64 (kind:Int),.slice aS nS cS] 67 (0,0)):=(by rw [← hw0];exact zP (by simp));clear hw0;refine (zFQ 0 w.heap.size q.vars _ v _ (by rw [zC hf];rfl) (zO hV hB) (by omega)).mono ?_;rintro e u2 ⟨hb2,rfl⟩;have hB2:=hB.trans (hb2.mono hB.size);have hpr2:=zH hb2 hpr;generalize (zBY q.vars v).getD (0,false)=x at *;generalize (zBY q.vars v).isSome=ok at *;obtain ⟨x1,x2⟩:=x;have hA:Below u2.heap.size u2 (u2.alloc (.cells #[.int .i64 (x1:Int),.bool x2] 139)):=(Below.refl _ _).alloc (Nat.le_refl _) _;have hB3:=hB2.trans (hA.mono hB2.size);have hv3:=heap_alloc_new u2 (.cells #[.int .i64 (x1:Int),.bool x2] 139);have hpr3:=zH hA hpr2;have p0:(u2.alloc (.cells #[.int .i64 (x1:Int),.bool x2] 139)).cell? ⟨w.heap.size + 1,0,none⟩=some (.int .i64 (kind:Int)):=zE hpr3 rfl;have lp:=zB hpr3
  rcases hk with rfl | rfl<;>cases x2
  all_goals
   go_wp2_with fail;go_ret;exact ⟨by rw [zA HW];rfl,hB3⟩
theorem zFa {P:Program} {ops:Array Oper} {o:Oper} {a:Act} {w:World} {K:Act→World→Prop} {Q:Exit→Act→World→Prop} {E:Prop}
  (hg:o.guard=none) (f:FuncId) (xs:Array Operand) (ts:Array TypeId) (hop:o.op=Op.call { callee:=Callee.value (Operand.func f),args:=xs,argTypes:=ts })
  (args:Array Value) (hargs:xs.map a.eval=args) (hcf:∀ w,(callFunc f args).run P w=.ok (.enter f args) w) (h:Calls P f args w (fun e w'=>∃ v,e=.returned v∧K (a.put o.dst v) w')) :
  if Region.wanted o (yielded ops a.tmps)=true then Oper.wp P o a w K Q else E:=by
 have hw:Region.wanted o (yielded ops a.tmps)=true:=(by simp [Region.wanted,hg]);rw [if_pos hw];unfold Oper.wp;have he:(execOp a.eval o).run P w=.ok (.enter f args) w:=by
  unfold execOp;rw [hop];subst hargs;simp [go_sem];exact hcf w
 rw [he,Oper.upon_enter];refine h.mono ?_;rintro e w' ⟨v,rfl,hk⟩;exact hk
theorem zQP (args:Array Value) (w:World):(callFunc 50 args).run Tryz.prog w=.ok (.enter 50 args) w:=by kernel_rfl
theorem zLR (args:Array Value) (w:World):(callFunc 75 args).run Tryz.prog w=.ok (.enter 75 args) w:=by kernel_rfl
theorem zId (args:Array Value) (w:World):(callFunc 76 args).run Tryz.prog w=.ok (.enter 76 args) w:=by kernel_rfl
theorem zRP:(Tryz.prog.info? 149).map (fun i=>(i.zero,i.size,i.bytes))=some (some (.agg #[.int .i64 0,.int .i64 0,.int .i64 0,.int .i64 0]),4,32):=by kernel_rfl
theorem zOk:(Tryz.prog.info? 111).map (fun i=>(i.zero,i.size,i.bytes))=some (some (.agg #[.slice none 0 0,.bool false]),2,32):=by kernel_rfl
def zAr (kind:Nat) (p:List Stp) (k:Nat):List zAB:=((p.take k).filter (fun s=>s.rule == 4)).map (zB5 kind p)
theorem zKD (kind:Nat) (p:List Stp) (k:Nat) (h:k < p.length):zAr kind p (k + 1)=zAr kind p k ++ (if p[k].rule == 4 then [zB5 kind p p[k]] else []):=by
 unfold zAr;rw [List.take_succ_eq_append_getElem h,List.filter_append,List.map_append,List.filter_cons]
 congr 1
 split<;>rfl
theorem zHc (kind:Nat) (p:List Stp) (k:Nat):(zAr kind p k).length≤k:=by
 unfold zAr;rw [List.length_map];exact Nat.le_trans (List.length_filter_le _ _) (by simp;omega)
theorem zFA (l:List zAB) (r:zAB):zCY (l ++ [r])=zCY l ++ [Value.int .i64 (r.1.1:Int),Value.int .i64 (r.1.2:Int),Value.int .i64 (r.2.1:Int),Value.int .i64 (r.2.2:Int)]:=by simp [zCY]
def zPp (kind:Nat) (ss:List Stp) (w:World) (e:Ending) (w':World):Prop:=∃ vR,e=.returned vR∧w'.ownsRow w.heap.size 149 4 vR (zAQ kind ss).length (zCY (zAQ kind ss))∧Below w.heap.size w w'
theorem zL5 (ss:List Stp) (aS:Option Addr) (cS kind:Nat) (w:World) (hS:w.ownsRow 0 134 6 (.slice aS ss.length cS) ss.length (zAk ss)) (hSB:SBs ss) (hk:kind=1∨kind=2) :
  Calls Tryz.prog 48 #[.agg #[.int .i64 (kind:Int),.slice aS ss.length cS]] w fun e w'=>zPp kind ss w e w':=by
 obtain ⟨i1,hi1,hz10,hz11,hz12⟩:=info_parts zRP;have hsl:=hSB.len
 go_enter Tryz.func48,Tryz.ntmps48
 go_wp2_with fail
 go_loopg [3,11] (ss.length) (fun m vl i wx=>∃ (k:Nat),i=.int .i64 k∧k + m=ss.length∧wx.ownsRow (w.heap.size + 1) 149 4 vl (zAr kind ss k).length (zCY (zAr kind ss k))∧Below w.heap.size w wx∧wx.heap[w.heap.size]?=some (.cells #[.int .i64 (kind:Int),.slice aS ss.length cS] 67 (0,0)))
 case atStart=>exact ⟨0,rfl,by omega,World.ownsRow_nil _ _ _ _,(Below.refl _ _).alloc (Nat.le_refl _) _,heap_alloc_new _ _⟩
 case round=>
  obtain ⟨k,rfl,hkm,hown,hb,hpb⟩:=hrel;have lp:=zB hpb;have hln:=zHc kind ss k;obtain ⟨aL,cL,rfl⟩:=zN hown
  by_cases hlt:k < ss.length
  ·have HRS:=zF (zKD kind ss k hlt);have hsb:=hSB.bits _ (List.getElem_mem hlt);obtain ⟨g,cap,hVe,hg,hg',_,hcell⟩:=zS hS (by omega);injection hVe with hVe _ hV2;subst hVe hV2;have hc:∀ j (hj:j < 6) u,[Value.int .i64 (ss[k].rule:Int),Value.int .i64 (ss[k].first:Int),Value.int .i64 (ss[k].second:Int),Value.int .i64 (ss[k].var:Int),Value.int .i64 (ss[k].lits.1:Int),Value.int .i64 (ss[k].lits.2:Int)][j]?=some u→wr.cell? ⟨g,k * 6 + j,none⟩=some u:=fun j hj u hu=>by
    rw [hb.cell (p:=⟨g,k * 6 + j,none⟩) hg'];exact hcell _ _ (by rw [zh ss k j hlt hj];exact hu)
   have hx0:wr.cell? ⟨g,k * 6,none⟩=some (.int .i64 (ss[k].rule:Int)):=hc 0 (by omega) _ rfl;have hx1:wr.cell? ⟨g,k * 6 + 1,none⟩=some (.int .i64 (ss[k].first:Int)):=hc 1 (by omega) _ rfl;have hx2:wr.cell? ⟨g,k * 6 + 2,none⟩=some (.int .i64 (ss[k].second:Int)):=hc 2 (by omega) _ rfl;have hx3:wr.cell? ⟨g,k * 6 + 3,none⟩=some (.int .i64 (ss[k].var:Int)):=hc 3 (by omega) _ rfl;have hx4:wr.cell? ⟨g,k * 6 + 4,none⟩=some (.int .i64 (ss[k].lits.1:Int)):=hc 4 (by omega) _ rfl;have hx5:wr.cell? ⟨g,k * 6 + 5,none⟩=some (.int .i64 (ss[k].lits.2:Int)):=hc 5 (by omega) _ rfl;have hgw:g < wr.heap.size:=Nat.lt_of_lt_of_le hg' hb.size;clear hc hcell;have HRW:Hid (∀ s,ss[k]=s→zB5 kind ss ss[k]=if kind=1 then (zDj s.lits,zDj (zAz (zM ss s.first) s.lits)) else (s.lits,zAz (zM ss s.first) s.lits)):=zF (fun s e=>by rw [e];rfl);generalize hsk:ss[k]=st at *;have HSK:=zF hsk;clear hsk;obtain ⟨sr,sf,s2,sv,sl1,sl2⟩:=st;dsimp only at *;have hA:Below wr.heap.size wr (wr.alloc (.cells #[.int .i64 (sr:Int),.int .i64 (sf:Int),.int .i64 (s2:Int),.int .i64 (sv:Int),.int .i64 (sl1:Int),.int .i64 (sl2:Int)] 134)):=(Below.refl _ _).alloc (Nat.le_refl _) _;have hst:=heap_alloc_new wr (.cells #[.int .i64 (sr:Int),.int .i64 (sf:Int),.int .i64 (s2:Int),.int .i64 (sv:Int),.int .i64 (sl1:Int),.int .i64 (sl2:Int)] 134);have hpa:=(hA.block _ lp).trans hpb;have hBa:=hb.trans (hA.mono hb.size);have howna:=zO hown hA
   by_cases hr4:sr=4
   ·subst hr4;have HRN:Hid (zAr kind ss (k + 1)=zAr kind ss k ++ [if kind=1 then (zDj (sl1,sl2),zDj (zAz (zM ss sf) (sl1,sl2))) else ((sl1,sl2),zAz (zM ss sf) (sl1,sl2))]):=zF (by rw [zA HRS,zA HRW _ rfl];rfl);clear HRS HRW;go_wp2_with fail;generalize wr.alloc (.cells #[.int .i64 4,.int .i64 (sf:Int),.int .i64 (s2:Int),.int .i64 (sv:Int),.int .i64 (sl1:Int),.int .i64 (sl2:Int)] 134)=wz at *;have hB:=hBa;obtain ⟨cst0,cst1,cst2,cst3,cst4,cst5⟩:=zAH hst;have lst:=zB hst;have cpa0:wz.cell? ⟨w.heap.size,0,none⟩=some (.int .i64 (kind:Int)):=zE hpa rfl;have cpa1:wz.cell? ⟨w.heap.size,1,none⟩=some (.slice (some ⟨g,0,none⟩) ss.length cS):=zE hpa rfl;have lpa:=zB hpa;refine (zBW 0 w.heap.size 0 ss _ sf _ (by rw [zC hpa];rfl) (zO hS hB) (by omega)).mono ?_;rintro e u1 ⟨rfl,b1⟩;replace hB:=hB.trans (b1.mono hB.size);replace hst:=zH b1 hst;clear cst0 cst1 cst2 cst3 cst4 cst5;obtain ⟨cst0,cst1,cst2,cst3,cst4,cst5⟩:=zAH hst;replace lst:=zB hst;replace hpa:=zH b1 hpa;replace cpa0:u1.cell? ⟨w.heap.size,0,none⟩=some (.int .i64 (kind:Int)):=zE hpa rfl;replace cpa1:u1.cell? ⟨w.heap.size,1,none⟩=some (.slice (some ⟨g,0,none⟩) ss.length cS):=zE hpa rfl;replace lpa:=zB hpa;replace howna:=zO howna b1;have hla:=zAX ss hSB.bits sf;generalize zM ss sf=c at *;obtain ⟨c1,c2⟩:=c;dsimp only at hla;go_wp2_with fail;generalize hw0:u1.alloc (.cells #[.int .i64 (c1:Int),.int .i64 (c2:Int)] 74)=u2;have b2:Below u1.heap.size u1 u2:=(by rw [← hw0];exact (Below.refl _ _).alloc (Nat.le_refl _) _);have hwh:u2.heap[u1.heap.size]?=some (.cells #[.int .i64 (c1:Int),.int .i64 (c2:Int)] 74 (0,0)):=(by rw [← hw0];exact heap_alloc_new _ _);clear hw0;replace hB:=hB.trans (b2.mono hB.size);replace hst:=zH b2 hst;clear cst0 cst1 cst2 cst3 cst4 cst5;obtain ⟨cst0,cst1,cst2,cst3,cst4,cst5⟩:=zAH hst;replace lst:=zB hst;replace hpa:=zH b2 hpa;replace cpa0:u2.cell? ⟨w.heap.size,0,none⟩=some (.int .i64 (kind:Int)):=zE hpa rfl;replace cpa1:u2.cell? ⟨w.heap.size,1,none⟩=some (.slice (some ⟨g,0,none⟩) ss.length cS):=zE hpa rfl;replace lpa:=zB hpa;replace howna:=zO howna b2;obtain ⟨cwh0,cwh1⟩:=zJ hwh;have lwh:=zB hwh;have hm:=zDe (c1,c2) (sl1,sl2) hla;obtain ⟨wo,rfl⟩:∃ wo,wo=wr:=⟨_,rfl⟩
    go_cut [7] (fun s7 wx=>∃ lr,s7=.pointer (some ⟨lr,0,none⟩)∧u2.heap.size≤lr∧Below u2.heap.size u2 wx∧wx.heap[lr]?=some (.cells #[.int .i64 (sl1:Int),.int .i64 (sl2:Int),.int .i64 ((zAz (c1,c2) (sl1,sl2)).1:Int),.int .i64 ((zAz (c1,c2) (sl1,sl2)).2:Int)] 149 (0,0)))
    case first=>
     clear hx0 hx1 hx2 hx3 hx4 hx5 hg hg' hgw hS hi1 hz10 hz11 hz12 hsl hln hown howna hb hpb lp hA hBa hB hpa cpa0 cpa1 lpa HSK HRN hkm b1 b2
     go_region_law (refine zFa rfl 75 _ _ rfl #[zAj (c1,c2),zAj (sl1,sl2)] (by simp [Act.eval]) (zLR _) ?_;refine (zC5 c1 c2 sl1 sl2 _ hla.1 hla.2 hsb.1 hsb.2).mono ?_;rintro e v1 ⟨rfl,y1⟩;refine ⟨_,rfl,?_⟩;have x1:Below u2.heap.size u2 v1:=Below.trans (by first | exact Below.refl _ _ | exact (Below.refl _ _).drew | exact (Below.refl _ _).alloc (Nat.le_refl _) _ | exact ((Below.refl _ _).alloc (Nat.le_refl _) _).drew | exact ((Below.refl _ _).drew).alloc (Nat.le_refl _) _) (y1.mono (by simp));have hst1:=zH x1 hst;have lst1:=zB hst1;have e4:v1.cell? ⟨wo.heap.size,4,none⟩=some (.int .i64 (sl1:Int)):=(by rw [zC hst1];rfl);have e5:v1.cell? ⟨wo.heap.size,5,none⟩=some (.int .i64 (sl2:Int)):=(by rw [zC hst1];rfl);(try (have hq:v1.heap[u2.heap.size]?=some (.cells #[.int .i64 0,.int .i64 0,.int .i64 0,.int .i64 0] 149 (0,0)):=(by first | exact (y1.block u2.heap.size (by simp)).trans (heap_alloc_new u2 _) | exact (y1.block u2.heap.size (by simp)).trans (heap_alloc_new u2.drew _));have lq:=zB hq;have q0:v1.cell? ⟨u2.heap.size,0,none⟩=some (.int .i64 0):=(by rw [zC hq];rfl);have q1:v1.cell? ⟨u2.heap.size,1,none⟩=some (.int .i64 0):=(by rw [zC hq];rfl);have q2:v1.cell? ⟨u2.heap.size,2,none⟩=some (.int .i64 0):=(by rw [zC hq];rfl);have q3:v1.cell? ⟨u2.heap.size,3,none⟩=some (.int .i64 0):=(by rw [zC hq];rfl);have z0:=zD hq 0;have z1:=zD hq 1;have z2:=zD hq 2;have z3:=zD hq 3)))
     all_goals
      go_wp2_with fail
      go_meet
      first
       | exact ⟨_,rfl,x1.size,x1.alloc x1.size _,heap_alloc_new _ _⟩
       | exact ⟨_,rfl,Nat.le_refl _,(((x1.setCell (p:=⟨u2.heap.size,0,none⟩) (Nat.le_refl _) _).setCell (p:=⟨u2.heap.size,1,none⟩) (Nat.le_refl _) _).setCell (p:=⟨u2.heap.size,2,none⟩) (Nat.le_refl _) _).setCell (p:=⟨u2.heap.size,3,none⟩) (Nat.le_refl _) _,zI (zI (zI (zI hq 0 _) 1 _) 2 _) 3 _⟩
    case rest=>
    obtain ⟨lr,rfl,hlr,hbc,hr⟩:=hcut;have hpc:=zH hbc hpa;have pc0:wc.cell? ⟨w.heap.size,0,none⟩=some (.int .i64 (kind:Int)):=zE hpc rfl;have lpc:=zB hpc;generalize zAz (c1,c2) (sl1,sl2)=cm at *;obtain ⟨d1,d2⟩:=cm;dsimp only at hm hr;have howlt:w.heap.size < u2.heap.size:=lpa
    rcases hk with rfl | rfl
    ·have HRN2:Hid (zAr 1 ss (k + 1)=zAr 1 ss k ++ [((sl2,sl1),(d2,d1))]):=zF (by rw [zA HRN,if_pos rfl];rfl);have r0:wc.cell? ⟨lr,0,none⟩=some (.int .i64 (sl1:Int)):=zE hr rfl;have r1:wc.cell? ⟨lr,1,none⟩=some (.int .i64 (sl2:Int)):=zE hr rfl;have r2:wc.cell? ⟨lr,2,none⟩=some (.int .i64 (d1:Int)):=zE hr rfl;have r3:wc.cell? ⟨lr,3,none⟩=some (.int .i64 (d2:Int)):=zE hr rfl;have lrr:=zB hr;clear HRN;obtain ⟨wq,rfl⟩:∃ x,x=wc:=⟨_,rfl⟩
     go_upto_region 20 with fail
     go_cut [] (fun wx=>Below u2.heap.size u2 wx∧wx.heap[lr]?=some (.cells #[.int .i64 (sl2:Int),.int .i64 (sl1:Int),.int .i64 (d2:Int),.int .i64 (d1:Int)] 149 (0,0)))
     case first=>
      clear hx0 hx1 hx2 hx3 hx4 hx5 hg hg' hgw hS hi1 hz10 hz11 hz12 hsl hln hown howna hb hpb lp hA hBa hB hpa cpa0 cpa1 lpa HSK hkm b1 b2 HRN2
      go_region_law (first | (refine zFa rfl 76 _ _ rfl #[zAj (sl1,sl2)] (by simp [Act.eval]) (zId _) ?_;refine (zF6 sl1 sl2 _).mono ?_;rintro e v1 ⟨rfl,y1⟩;refine ⟨_,rfl,?_⟩;have x1:Below wq.heap.size wq v1:=Below.trans (by first | exact Below.refl _ _ | exact (Below.refl _ _).drew) (y1.mono (by simp));have hr_v1:=(x1.block _ lrr).trans hr;have l_v1:=zB hr_v1;have v1c0:v1.cell? ⟨lr,0,none⟩=some (.int .i64 (sl1:Int)):=(by rw [zC hr_v1];rfl);have v1c1:v1.cell? ⟨lr,1,none⟩=some (.int .i64 (sl2:Int)):=(by rw [zC hr_v1];rfl);have v1c2:v1.cell? ⟨lr,2,none⟩=some (.int .i64 (d1:Int)):=(by rw [zC hr_v1];rfl);have v1c3:v1.cell? ⟨lr,3,none⟩=some (.int .i64 (d2:Int)):=(by rw [zC hr_v1];rfl);have v1z0:=zD hr_v1 0;have v1z1:=zD hr_v1 1;have v1z2:=zD hr_v1 2;have v1z3:=zD hr_v1 3) | (refine zFa rfl 76 _ _ rfl #[zAj (d1,d2)] (by simp [Act.eval]) (zId _) ?_;refine (zF6 d1 d2 _).mono ?_;rintro e v2 ⟨rfl,y2⟩;refine ⟨_,rfl,?_⟩;have x2:Below v1.heap.size v1 v2:=Below.trans (by first | exact Below.refl _ _ | exact (Below.refl _ _).drew) (y2.mono (by simp));have hr_v2:=((x1.trans (x2.mono x1.size)).block _ lrr).trans hr;have l_v2:=zB hr_v2;have v2c0:v2.cell? ⟨lr,0,none⟩=some (.int .i64 (sl1:Int)):=(by rw [zC hr_v2];rfl);have v2c1:v2.cell? ⟨lr,1,none⟩=some (.int .i64 (sl2:Int)):=(by rw [zC hr_v2];rfl);have v2c2:v2.cell? ⟨lr,2,none⟩=some (.int .i64 (d1:Int)):=(by rw [zC hr_v2];rfl);have v2c3:v2.cell? ⟨lr,3,none⟩=some (.int .i64 (d2:Int)):=(by rw [zC hr_v2];rfl);have v2z0:=zD hr_v2 0;have v2z1:=zD hr_v2 1;have v2z2:=zD hr_v2 2;have v2z3:=zD hr_v2 3))
      all_goals
       go_wp2_with fail
       go_meet
       have xx:=hbc.trans ((x1.trans (x2.mono x1.size)).mono hbc.size);exact ⟨(((xx.setCell (p:=⟨lr,0,none⟩) hlr _).setCell (p:=⟨lr,1,none⟩) hlr _).setCell (p:=⟨lr,2,none⟩) hlr _).setCell (p:=⟨lr,3,none⟩) hlr _,zI (zI (zI (zI hr_v2 0 _) 1 _) 2 _) 3 _⟩
     case rest=>
     obtain ⟨hbd,hrd⟩:=hcut;clear r0 r1 r2 r3 lrr pc0 lpc hpc hbc hr;have r0:wc.cell? ⟨lr,0,none⟩=some (.int .i64 (sl2:Int)):=zE hrd rfl;have r1:wc.cell? ⟨lr,1,none⟩=some (.int .i64 (sl1:Int)):=zE hrd rfl;have r2:wc.cell? ⟨lr,2,none⟩=some (.int .i64 (d2:Int)):=zE hrd rfl;have r3:wc.cell? ⟨lr,3,none⟩=some (.int .i64 (d1:Int)):=zE hrd rfl;have lrr:=zB hrd;have hrl:(zAr 1 ss k).length≤9000:=(by omega);have hownc:=zO howna hbd;have lc:w.heap.size + 1≤wc.heap.size:=(by have:=hbd.size;have:=howlt;omega);have hBc:=hB.trans (hbd.mono hB.size);have HSN:=zF (zFA (zAr 1 ss k) ((sl2,sl1),(d2,d1)))
     go_wp2_with (at_builtin;refine zV rfl _ _ 72 rfl (w.heap.size + 1) i1 (.agg #[.int .i64 0,.int .i64 0,.int .i64 0,.int .i64 0]) 4 32 Tryz.underlying72 hi1 hz10 hz11 hz12 rfl (by decide) _ _ _ hownc rfl rfl rfl (by simp [Value.oneCell']) (by unfold maxLen;omega) (by omega) lc ?_;intro v4 w4 hown4 hgrow4 hnn4)
     have hB4:Below w.heap.size w w4:=za hBc hgrow4 hownc (Nat.le_succ _) hBc.size;have hp4:w4.heap[w.heap.size]?=some (.cells #[.int .i64 ((1:Nat):Int),.slice (some ⟨g,0,none⟩) ss.length cS] 67 (0,0)):=(hgrow4.block _ (zB (zH hbd hpa)) (fun e=>by have:=(hownc.lt _ e.symm).1;omega)).trans (zH hbd hpa);obtain ⟨a4,c4,rfl⟩:=zN hown4;go_wp2_with fail
     go_roundg (gk - 1)
     case measure=>omega
     case rel=>exact ⟨k + 1,by go_num,by omega,by rw [zA HRN2,zA HSN];simpa using hown4,hB4,hp4⟩
    ·have HRN2:Hid (zAr 2 ss (k + 1)=zAr 2 ss k ++ [((sl1,sl2),(d1,d2))]):=zF (by rw [zA HRN,if_neg (by decide)]);have r0:wc.cell? ⟨lr,0,none⟩=some (.int .i64 (sl1:Int)):=zE hr rfl;have r1:wc.cell? ⟨lr,1,none⟩=some (.int .i64 (sl2:Int)):=zE hr rfl;have r2:wc.cell? ⟨lr,2,none⟩=some (.int .i64 (d1:Int)):=zE hr rfl;have r3:wc.cell? ⟨lr,3,none⟩=some (.int .i64 (d2:Int)):=zE hr rfl;have lrr:=zB hr;have hrl:(zAr 2 ss k).length≤9000:=(by omega);have hownc:=zO howna hbc;have lc:w.heap.size + 1≤wc.heap.size:=(by have:=hbc.size;have:=howlt;omega);have hBc:=hB.trans (hbc.mono hB.size);have HSN:=zF (zFA (zAr 2 ss k) ((sl1,sl2),(d1,d2)))
     go_wp2_with (at_builtin;refine zV rfl _ _ 72 rfl (w.heap.size + 1) i1 (.agg #[.int .i64 0,.int .i64 0,.int .i64 0,.int .i64 0]) 4 32 Tryz.underlying72 hi1 hz10 hz11 hz12 rfl (by decide) _ _ _ hownc rfl rfl rfl (by simp [Value.oneCell']) (by unfold maxLen;omega) (by omega) lc ?_;intro v4 w4 hown4 hgrow4 hnn4)
     have hB4:Below w.heap.size w w4:=za hBc hgrow4 hownc (Nat.le_succ _) hBc.size;have hp4:w4.heap[w.heap.size]?=some (.cells #[.int .i64 ((2:Nat):Int),.slice (some ⟨g,0,none⟩) ss.length cS] 67 (0,0)):=(hgrow4.block _ (zB (zH hbc hpa)) (fun e=>by have:=(hownc.lt _ e.symm).1;omega)).trans (zH hbc hpa);obtain ⟨a4,c4,rfl⟩:=zN hown4;go_wp2_with fail
     go_roundg (gk - 1)
     case measure=>omega
     case rel=>exact ⟨k + 1,by go_num,by omega,by rw [zA HRN2,zA HSN];simpa using hown4,hB4,hp4⟩
   ·have hne:((sr:Int) != 4)=true:=(by rw [bne_iff_ne];omega);have HRN:Hid (zAr kind ss (k + 1)=zAr kind ss k):=zF (by rw [zA HRS,if_neg (by simpa using hr4),List.append_nil]);clear HRS HRW hr4;go_wp2_with fail
    go_roundg (gk - 1)
    case measure=>omega
    case rel=>exact ⟨k + 1,by go_num,by omega,by rw [zA HRN];exact howna,hBa,hpa⟩
  ·have hke:k=ss.length:=(by omega);subst hke;have HR:Hid (zAQ kind ss=zAr kind ss ss.length):=zF (by unfold zAQ zAr;rw [List.take_length]);go_wp2_with fail;go_ret;exact ⟨_,rfl,by rw [zA HR];exact zAG hown (by omega),hb⟩
theorem zJT (b:Nat) (t:TypeId) (bl:BL) (rs:List zAB) (g:GS) (gv:GV) (w:World) (hG:GameAt w b t bl rs g gv) :
  Calls Tryz.prog 36 #[.pointer (some ⟨b,0,none⟩)] w fun e w'=>e=.returned (.int .i64 (g.turn:Int))∧w'=w:=by
 have lb:=zB hG.fb
 go_enter Tryz.func36,Tryz.ntmps36
 go_wp2_with fail;refine (zOb b t bl rs g gv w hG).mono ?_;rintro e w1 ⟨rfl,hw1⟩;subst hw1;go_wp2_with fail;go_ret;exact ⟨rfl,rfl⟩
theorem zHt (b:Nat) (t:TypeId) (bl:BL) (rs:List zAB) (g:GS) (gv:GV) (w:World) (hG:GameAt w b t bl rs g gv) (hp:g.vals.1 < 512∧g.vals.2 < 512) :
  Calls Tryz.prog 37 #[.pointer (some ⟨b,0,none⟩)] w fun e w'=>∃ k,e=.returned (.slice (some ⟨k,0,none⟩) 8 8)∧w.heap.size≤k∧w'.heap[k]?=some (.cells (zCo g.vals 8).toArray 3 (0,0))∧Below w.heap.size w w':=by
 have lb:=zB hG.fb
 go_enter Tryz.func37,Tryz.ntmps37
 go_wp2_with fail;refine (zLz b t bl rs g gv w hG hp).mono ?_;rintro e w1 ⟨k,rfl,h1,h2,h3⟩;go_wp2_with fail;go_ret;exact ⟨k,rfl,h1,h2,h3⟩
theorem zFg (b:Nat) (t:TypeId) (bl:BL) (rs:List zAB) (g:GS) (gv:GV) (bits:Int) (w:World) (hG:GameAt w b t bl rs g gv) (hR:RBd rs) (hB:BBd bl) (hp:g.vals.1 < 512∧g.vals.2 < 512) (ht:g.turn≤bl.length) (hbi:zE8 bits) :
  Calls Tryz.prog 53 #[.pointer (some ⟨b,0,none⟩),.int .i64 bits] w fun e w'=>e=.returned (.int .i64 (zBv bl g bits:Nat))∧GameAt w' b t bl rs (zC2 rs bl g bits) gv∧Only (·=b) w w':=by
 have lb:=zB hG.fb
 go_enter Tryz.func53,Tryz.ntmps53
 go_wp2_with fail;refine (zPy b t bl rs g gv bits w hG hR hB hp ht hbi).mono ?_;rintro e w1 ⟨rfl,h2,h3⟩;go_wp2_with fail;go_ret;exact ⟨rfl,h2,h3⟩
def zI1 (n:Nat) (gv:GV):Prop:=(∀ k,gv.vB.ownBlock=some k→n≤k)∧(∀ k,gv.vR.ownBlock=some k→n≤k)∧∀ j (hj:j < gv.hdrs.length) k,gv.hdrs[j].ownBlock=some k→n≤k
def zN5 (g:GS) (gv:GV):Value:=.agg #[gv.vB,gv.vR,.int .i64 (g.turn:Int),.int .i64 (g.vals.1:Int),.int .i64 (g.vals.2:Int)]
def zRd (q:QS) (kind:Nat) (ss:List Stp) (w:World) (e:Ending) (w':World):Prop:=
 ∃ gv,e=.returned (zN5 (zBO q kind ss) gv)∧GRows w' (blW q kind) (zAQ kind ss) gv∧zI1 w.heap.size gv∧Below w.heap.size w w'
theorem zQL (bs:List (List Nat)) (h:∀ b∈bs,b≠[]):bs.length≤bs.flatten.length:=by
 induction bs with
 | nil=>simp
 | cons b bs ih=>
  have h1:=ih (fun x hx=>h x (List.mem_cons_of_mem _ hx));have h2:0 < b.length:=List.length_pos_iff.2 (h b (by simp));simp only [List.flatten_cons,List.length_append,List.length_cons];omega
theorem zDR (vs:List (Nat × Bool)) (h:vs.length≤8):(zG vs).length≤8:=by
 have:=zQL (zG vs) (fun b hb=>(zB6 vs b hb).1)
 rw [zAA,List.length_map] at this;omega
theorem zEg (vs:List (Nat × Bool)) (h:vs.length≤8) (b:List Nat) (hb:b∈zG vs):b.length≤8:=by
 have h1:b.length≤(zG vs).flatten.length:=by
  have:=(List.sublist_flatten_of_mem hb).length_le
  exact this
 rw [zAA,List.length_map] at h1;omega
theorem zE0 {q:QS} (hQ:QB q) (kind:Nat):BBd (blW q kind):=by
 refine ⟨by rw [zBB];exact zDR q.vars hQ.vl,fun x hx=>?_⟩;obtain ⟨b,hb,rfl⟩:=List.mem_map.1 (show x∈(zG q.vars).map _ from hx);refine ⟨zEg q.vars hQ.vl b hb,fun v hv=>?_⟩;have hm:v∈(zG q.vars).flatten:=List.mem_flatten.2 ⟨b,hb,hv⟩;rw [zAA] at hm;obtain ⟨y,hy,rfl⟩:=List.mem_map.1 hm;exact hQ.names y hy
theorem zIA {ss:List Stp} (h:SBs ss) (kind:Nat):RBd (zAQ kind ss):=by
 refine ⟨?_,fun r hr=>?_⟩
 ·unfold zAQ;rw [List.length_map];exact Nat.le_trans (List.length_filter_le _ _) h.len
 ·unfold zAQ at hr;obtain ⟨s,hs,rfl⟩:=List.mem_map.1 hr;have hs':=h.bits s (List.mem_filter.1 hs).1;have hm:=zDe (zM ss s.first) s.lits (zAX ss h.bits s.first);unfold zB5 zDj
  split
  ·exact ⟨⟨hs'.2,hs'.1⟩,hm.2,hm.1⟩
  ·exact ⟨hs',hm⟩
structure OAt (u wx:World) (gb:Nat) (bl:BL) (hdrs:List Value) (vR:Value) (k:Nat) (vB:Value):Prop where
 gg:wx.heap[gb]?=some (.cells #[vB,vR,.int .i64 0,.int .i64 0,.int .i64 0] 76 (0,0))
 oB:wx.ownsRow u.heap.size 111 2 vB k (zDV (bl.take k) (hdrs.take k))
 only:Only (·=gb) u wx
theorem zKC (bl:BL) (hdrs:List Value) (k:Nat) (h:k < bl.length) (hh:k < hdrs.length):zDV (bl.take (k + 1)) (hdrs.take (k + 1))=zDV (bl.take k) (hdrs.take k) ++ [hdrs[k],.bool bl[k].2]:=by
 unfold zDV;rw [List.take_succ_eq_append_getElem h,List.take_succ_eq_append_getElem hh,List.zip_append (by simp;omega),List.flatMap_append]
 simp
theorem zOh (q:QS) (ss:List Stp) (aV aC aS:Option Addr) (cV cC cS kind:Nat) (w:World) (hV:w.ownsRow 0 139 2 (.slice aV q.vars.length cV) q.vars.length (zd q.vars)) (hl:q.vars.length≤8)
  (hS:w.ownsRow 0 134 6 (.slice aS ss.length cS) ss.length (zAk ss)) (hSB:SBs ss) (hk:kind=1∨kind=2) (hQ:QB q) :
  Calls Tryz.prog 26 #[.agg #[.slice aV q.vars.length cV,.slice aC q.cl.length cC],.agg #[.int .i64 (kind:Int),.slice aS ss.length cS]] w fun e w'=>zRd q kind ss w e w':=by
 obtain ⟨i1,hi1,hz10,hz11,hz12⟩:=info_parts zOk
 go_enter Tryz.func26,Tryz.ntmps26
 go_wp2_with fail;generalize hw0:(((w.alloc (.cells #[.slice aV q.vars.length cV,.slice aC q.cl.length cC] 60)).alloc (.cells #[.int .i64 (kind:Int),.slice aS ss.length cS] 67)).alloc (.cells #[.slice none 0 0,.slice none 0 0,.int .i64 0,.int .i64 0,.int .i64 0] 76))=u1;have hB:Below w.heap.size w u1:=(by rw [← hw0];exact (((Below.refl _ _).alloc (Nat.le_refl _) _).alloc (by simp;try omega) _).alloc (by simp;try omega) _);have hff:u1.heap[w.heap.size]?=some (.cells #[.slice aV q.vars.length cV,.slice aC q.cl.length cC] 60 (0,0)):=(by rw [← hw0,heap_alloc_old _ _ (by simp;try omega),heap_alloc_old _ _ (by simp;try omega)];exact zP (by simp));have hpp:u1.heap[w.heap.size + 1]?=some (.cells #[.int .i64 (kind:Int),.slice aS ss.length cS] 67 (0,0)):=(by rw [← hw0,heap_alloc_old _ _ (by simp;try omega)];exact zP (by simp));have hrs:u1.heap[w.heap.size + 1 + 1]?=some (.cells #[.slice none 0 0,.slice none 0 0,.int .i64 0,.int .i64 0,.int .i64 0] 76 (0,0)):=(by rw [← hw0];exact zP (by simp));clear hw0;obtain ⟨cff0,cff1⟩:=zJ hff;have lff:=zB hff;obtain ⟨cpp0,cpp1⟩:=zJ hpp;have lpp:=zB hpp;obtain ⟨crs0,crs1,crs2,crs3,crs4⟩:=zGc hrs;have lrs:=zB hrs;have hsz1:w.heap.size≤u1.heap.size:=hB.size;refine (zL5 ss aS cS kind _ (zO hS hB) hSB hk).mono ?_;rintro e u2 ⟨vR,rfl,hoR,b2⟩;replace hB:=hB.trans (b2.mono hB.size);replace hff:=zH b2 hff;clear cff0 cff1;obtain ⟨cff0,cff1⟩:=zJ hff;replace lff:=zB hff;replace hpp:=zH b2 hpp;clear cpp0 cpp1;obtain ⟨cpp0,cpp1⟩:=zJ hpp;replace lpp:=zB hpp;replace hrs:=zH b2 hrs;clear crs0 crs1 crs2 crs3 crs4;obtain ⟨crs0,crs1,crs2,crs3,crs4⟩:=zGc hrs;replace lrs:=zB hrs;have hsz2:w.heap.size + 1 + 1 < u2.heap.size:=lrs;obtain ⟨aR,cR,rfl⟩:=zN hoR;have HRlt:Hid (∀ k,(Value.slice aR (zAQ kind ss).length cR).ownBlock=some k→u1.heap.size≤k∧k < u2.heap.size):=zF (fun k hk=>hoR.lt k hk);have hRl:(zAQ kind ss).length≤9000:=(by have h1:=zHc kind ss ss.length;have h2:=hSB.len;unfold zAr at h1;rw [List.take_length] at h1;unfold zAQ;omega);generalize hrw:zAQ kind ss=rs at *;have HRW:=zF hrw;clear hrw;go_wp2_with fail;generalize hw0:u2.alloc (.cells #[.slice none 0 0,.slice aR rs.length cR,.int .i64 0,.int .i64 0,.int .i64 0] 76)=u3;have b3:Below u2.heap.size u2 u3:=(by rw [← hw0];exact (Below.refl _ _).alloc (Nat.le_refl _) _);have hgg:u3.heap[u2.heap.size]?=some (.cells #[.slice none 0 0,.slice aR rs.length cR,.int .i64 0,.int .i64 0,.int .i64 0] 76 (0,0)):=(by rw [← hw0];exact heap_alloc_new _ _);clear hw0;replace hB:=hB.trans (b3.mono hB.size);replace hff:=zH b3 hff;clear cff0 cff1;obtain ⟨cff0,cff1⟩:=zJ hff;replace lff:=zB hff;replace hpp:=zH b3 hpp;clear cpp0 cpp1;obtain ⟨cpp0,cpp1⟩:=zJ hpp;replace lpp:=zB hpp;replace hrs:=zH b3 hrs;clear crs0 crs1 crs2 crs3 crs4;obtain ⟨crs0,crs1,crs2,crs3,crs4⟩:=zGc hrs;replace lrs:=zB hrs;replace hoR:=zO hoR b3;obtain ⟨cgg0,cgg1,cgg2,cgg3,cgg4⟩:=zGc hgg;have lgg:=zB hgg;have hsz3:u2.heap.size < u3.heap.size:=lgg;refine (zHs 0 w.heap.size q _ aV cV cff0 lff (zO hV hB) (by omega)).mono ?_;rintro e u4 ⟨v,hdrs,rfl,hoH,hRA,b4⟩;replace hB:=hB.trans (b4.mono hB.size);replace hff:=zH b4 hff;clear cff0 cff1;obtain ⟨cff0,cff1⟩:=zJ hff;replace lff:=zB hff;replace hpp:=zH b4 hpp;clear cpp0 cpp1;obtain ⟨cpp0,cpp1⟩:=zJ hpp;replace lpp:=zB hpp;replace hrs:=zH b4 hrs;clear crs0 crs1 crs2 crs3 crs4;obtain ⟨crs0,crs1,crs2,crs3,crs4⟩:=zGc hrs;replace lrs:=zB hrs;replace hgg:=zH b4 hgg;clear cgg0 cgg1 cgg2 cgg3 cgg4;obtain ⟨cgg0,cgg1,cgg2,cgg3,cgg4⟩:=zGc hgg;replace lgg:=zB hgg;replace hoR:=zO hoR b4;obtain ⟨aH,cH,rfl⟩:=zN hoH;go_wp2_with fail;have hHl:=hRA.len;have hbl:(zG q.vars).length≤8:=zDR q.vars hl;obtain ⟨bl,hbl0⟩:∃ bl,blW q kind=bl:=⟨_,rfl⟩;have hbll:bl.length=(zG q.vars).length:=(by rw [← hbl0,zBB]);have HBL:=zF hbl0;clear hbl0
 go_loopg [13] ((zG q.vars).length) (fun m i wx=>∃ (k:Nat) (vB:Value),i=.int .i64 k∧k + m=(zG q.vars).length∧OAt u4 wx u2.heap.size bl hdrs (.slice aR rs.length cR) k vB)
 case atStart=>exact ⟨0,.slice none 0 0,rfl,by omega,hgg,World.ownsRow_nil _ _ _ _,Only.refl _ _⟩
 case round=>
  obtain ⟨k,vB,rfl,hkm,⟨hgr,hoB,hon⟩⟩:=hrel;have lgr:=zB hgr;have hBr:Below w.heap.size w wr:=hB.trans (hon.below (B:=w.heap.size) hB.size (fun j hj e=>by omega));have hffr:=(hon.block _ lff (by omega)).trans hff;have hppr:=(hon.block _ lpp (by omega)).trans hpp;have f0:wr.cell? ⟨w.heap.size,0,none⟩=some (.slice aV q.vars.length cV):=zE hffr rfl;have f1:wr.cell? ⟨w.heap.size,1,none⟩=some (.slice aC q.cl.length cC):=zE hffr rfl;have p0:wr.cell? ⟨w.heap.size + 1,0,none⟩=some (.int .i64 (kind:Int)):=zE hppr rfl;have p1:wr.cell? ⟨w.heap.size + 1,1,none⟩=some (.slice aS ss.length cS):=zE hppr rfl;have lf:=zB hffr;have lp:=zB hppr;obtain ⟨aB,cB,rfl⟩:=zN hoB;have g0:wr.cell? ⟨u2.heap.size,0,none⟩=some (.slice aB k cB):=zE hgr rfl;have hoHr:=zY hoH hon (fun j hj e=>by have:=(hoH.lt j hj).1;omega)
  by_cases hlt:k < (zG q.vars).length
  ·have hkh:k < hdrs.length:=(by omega);have hkb:k < bl.length:=(by omega);have hXr:=zY (hRA.row k hlt).1 hon (fun j hj e=>by have:=((hRA.row k hlt).1.lt j hj).1;omega);have hb8:=zEg q.vars hl _ (List.getElem_mem hlt);have HSN:=zF (zKC bl hdrs k hkb hkh);have HWN:Hid (bl[k].2=zBq q kind (zG q.vars)[k]):=zF (by
    have h:=zHN q kind k hlt;rw [zA HBL] at h;rw [show bl.getD k ([],false)=bl[k] from by simp [List.getD,hkb]] at h;rw [h])
   obtain ⟨gH,cap,hVe,hg,hg',_,hcell⟩:=zS hoHr (by omega);injection hVe with hVe _ hV2;subst hVe hV2;have hxk:wr.cell? ⟨gH,k,none⟩=some hdrs[k]:=hcell _ _ (by simp [hkh]);obtain ⟨aX,cX,hXf⟩:=zN hXr;rw [hXf] at hxk hXr;have HXF:=zF hXf;clear hcell hXf;have hX0:=zAG (lo:=0) hXr (Nat.zero_le _);have hne0:=zT hoB hgr (by decide);have HNE:=zF hne0;clear hne0;have hVr:=zO hV hBr;obtain ⟨wo,rfl⟩:∃ wo,wo=wr:=⟨_,rfl⟩
   go_upto_region 30 with fail
   go_region_law (first | (refine zFa rfl 50 _ _ rfl #[.agg #[.slice aV q.vars.length cV,.slice aC q.cl.length cC],.agg #[.int .i64 (kind:Int),.slice aS ss.length cS],.slice aX (zG q.vars)[k].length cX] (by simp [Act.eval]) (zQP _) ?_;refine (zQv q aV aC aS cV q.cl.length cC ss.length cS kind (zG q.vars)[k] _ _ (zO hVr (Below.refl _ wo).drew) hl hk (zO hX0 (Below.refl _ wo).drew) hb8).mono ?_;rintro e v1 ⟨rfl,y1⟩;refine ⟨_,rfl,?_⟩;have x1:Below wo.heap.size wo v1:=Below.trans (Below.refl _ wo).drew y1;have hgv:=(x1.block _ lgr).trans hgr;have gv0:v1.cell? ⟨u2.heap.size,0,none⟩=some (.slice aB k cB):=(by rw [zC hgv];rfl);have lgv:=zB hgv) | (refine zDy rfl (.tmp 18) (.tmp 25) 71 rfl u4.heap.size 111 i1 (.agg #[.slice none 0 0,.bool false]) 2 32 Tryz.underlying71 hi1 hz10 hz11 hz12 rfl (by decide) (.slice aB k cB) k (zDV (bl.take k) (hdrs.take k)) ((zO hoB x1).alloc _) (by simp [Act.eval]) ⟨v1.heap.size,0,none⟩ 1 1 [.slice aX (zG q.vars)[k].length cX,.bool (zBq q kind (zG q.vars)[k])] (by simp [Act.eval]) rfl (zBX v1 [.slice aX (zG q.vars)[k].length cX,.bool (zBq q kind (zG q.vars)[k])] 111) (by simp [Value.oneCell']) (by decide) (by unfold maxLen;omega) (by omega) (by have:=x1.size;have:=hon.size;simp;omega) ?_;intro v' w' hown' hgrow hmv;obtain ⟨g4,cap4,rfl,hg4,hg4',hcap4,hcell4⟩:=zS hown' (by omega);have hgg':w'.heap[u2.heap.size]?=some (.cells #[.slice aB k cB,.slice aR rs.length cR,.int .i64 0,.int .i64 0,.int .i64 0] 76 (0,0)):=(hgrow.block _ (by simp;omega) (fun e=>zA HNE e.symm)).trans ((heap_alloc_old v1 _ lgv).trans hgv);have gw0:w'.cell? ⟨u2.heap.size,0,none⟩=some (.slice aB k cB):=(by rw [zC hgg'];rfl);have gz0:=zD hgg' 0;have lgw:=zB hgg'))
   all_goals
    have hns:=zT hown' hgg' (by decide);have HO:Hid (OAt u4 (w'.setCell ⟨u2.heap.size,0,none⟩ (.slice (some ⟨g4,0,none⟩) (k + 1) cap4)) u2.heap.size bl hdrs (.slice aR rs.length cR) (k + 1) (.slice (some ⟨g4,0,none⟩) (k + 1) cap4)):=zF ⟨zI hgg' 0 _,by rw [zA HSN,zA HXF,zA HWN];exact zR hown' (p:=⟨u2.heap.size,0,none⟩) hns _,(((hon.trans (Only.of_below x1)).alloc _).grown hgrow (fun j hj=>Or.inr (hoB.lt j hj).1)).setAt 0 _⟩;clear hown' hgrow hmv hcell4 hns;go_wp2_with fail
    go_roundg (gk - 1)
    case measure=>omega
    case rel=>exact ⟨k + 1,_,by go_num,by omega,zA HO⟩
  ·have hkn:k=(zG q.vars).length:=(by omega);subst hkn;have hdk:decide (((zG q.vars).length:Int) < ((zG q.vars).length:Int))=false:=(by simp);have hRr:=zY hoR hon (fun j hj e=>by have:=(zA HRlt j hj).2;omega);have hG:GameAt wr u2.heap.size 76 bl rs ⟨0,(0,0)⟩ ⟨.slice aB (zG q.vars).length cB,.slice aR rs.length cR,hdrs⟩:=by
    refine ⟨hgr,Or.inl rfl,?_,zAG hRr (Nat.zero_le _),by rw [hbll];exact hHl,fun j hj=>?_⟩
    ·have h:=zAG (lo:=0) hoB (Nat.zero_le _);rw [List.take_of_length_le (by omega),List.take_of_length_le (by omega)] at h;rw [hbll];exact h
    ·have hj':j < (zG q.vars).length:=(by omega);have h:=zAG (lo:=0) (zY (hRA.row j hj').1 hon (fun i hi e=>by have:=((hRA.row j hj').1.lt i hi).1;omega)) (Nat.zero_le _);have hrow:bl[j].1=(zG q.vars)[j]:=by
      have h2:=zHN q kind j hj';rw [zA HBL] at h2;rw [show bl.getD j ([],false)=bl[j] from by simp [List.getD,hj]] at h2;rw [h2]
     rw [hrow];exact h
   have hFr:zI1 w.heap.size ⟨.slice aB (zG q.vars).length cB,.slice aR rs.length cR,hdrs⟩:=by
    refine ⟨fun j hj=>?_,fun j hj=>?_,fun i hi j hj=>?_⟩
    ·have:=(hoB.lt j hj).1;have:=hB.size;omega
    ·have:=(zA HRlt j hj).1;omega
    ·have hi':i < (zG q.vars).length:=by rw [← hHl];exact hi
     have:=((hRA.row i hi').1.lt j hj).1;omega
   have HFR:=zF hFr;have hbd:=zE0 hQ kind;rw [zA HBL] at hbd;have hrbd:=zIA hSB kind;rw [zA HRW] at hrbd;have hrsr:=(hon.block _ lrs (by omega)).trans hrs;clear hFr hRr hoHr f0 f1 p0 p1 g0;go_wp2_with fail;refine (zIV u2.heap.size _ bl rs ⟨0,(0,0)⟩ _ _ hG hrbd hbd ⟨by decide,by decide⟩ (Nat.zero_le _)).mono ?_;rintro e w8 ⟨rfl,hG8,ho8⟩;have HOW:Hid (zBO q kind ss=zEM rs bl ⟨0,(0,0)⟩):=zF (by unfold zBO;rw [zA HRW,zA HBL]);generalize zEM rs bl ⟨0,(0,0)⟩=g8 at *;obtain ⟨t8,v1,v2⟩:=g8;have hrs8:=(ho8.block _ (zB hrsr) (by omega)).trans hrsr;have x0:w8.cell? ⟨u2.heap.size,0,none⟩=some (.slice aB (zG q.vars).length cB):=zE hG8.fb rfl;have x1:w8.cell? ⟨u2.heap.size,1,none⟩=some (.slice aR rs.length cR):=zE hG8.fb rfl;have x2:w8.cell? ⟨u2.heap.size,2,none⟩=some (.int .i64 (t8:Int)):=zE hG8.fb rfl;have x3:w8.cell? ⟨u2.heap.size,3,none⟩=some (.int .i64 (v1:Int)):=zE hG8.fb rfl;have x4:w8.cell? ⟨u2.heap.size,4,none⟩=some (.int .i64 (v2:Int)):=zE hG8.fb rfl;have lx:=zB hG8.fb;have ly:=zB hrs8;have y0:w8.cell? ⟨w.heap.size + 1 + 1,0,none⟩=some (.slice none 0 0):=zE hrs8 rfl;have y1:w8.cell? ⟨w.heap.size + 1 + 1,1,none⟩=some (.slice none 0 0):=zE hrs8 rfl;have y2:w8.cell? ⟨w.heap.size + 1 + 1,2,none⟩=some (.int .i64 0):=zE hrs8 rfl;have y3:w8.cell? ⟨w.heap.size + 1 + 1,3,none⟩=some (.int .i64 0):=zE hrs8 rfl;have y4:w8.cell? ⟨w.heap.size + 1 + 1,4,none⟩=some (.int .i64 0):=zE hrs8 rfl;have z0:=zD hrs8 0;have z1:=zD hrs8 1;have z2:=zD hrs8 2;have z3:=zD hrs8 3;have z4:=zD hrs8 4;have hR:=zI (zI (zI (zI (zI hrs8 0 (.slice aB (zG q.vars).length cB)) 1 (.slice aR rs.length cR)) 2 (.int .i64 (t8:Int))) 3 (.int .i64 (v1:Int))) 4 (.int .i64 (v2:Int));have j0:=zC hR 0;have j1:=zC hR 1;have j2:=zC hR 2;have j3:=zC hR 3;have j4:=zC hR 4;have hB8:Below w.heap.size w w8:=hBr.trans (ho8.below (B:=w.heap.size) hBr.size (fun j hj e=>by omega));go_wp2_with fail;refine bodyPost_ret (v:=zN5 ⟨t8,(v1,v2)⟩ ⟨.slice aB (zG q.vars).length cB,.slice aR rs.length cR,hdrs⟩) (by simp [results,Tryz.results26,go_sem,j0,j1,j2,j3,j4,zN5]) rfl ⟨⟨.slice aB (zG q.vars).length cB,.slice aR rs.length cR,hdrs⟩,by rw [zA HOW],?_,zA HFR,?_⟩
   ·rw [zA HBL,zA HRW];have ho9:Only (·=w.heap.size + 1 + 1) w8 (((((w8.setCell ⟨w.heap.size + 1 + 1,0,none⟩ (.slice aB (zG q.vars).length cB)).setCell ⟨w.heap.size + 1 + 1,1,none⟩ (.slice aR rs.length cR)).setCell ⟨w.heap.size + 1 + 1,2,none⟩ (.int .i64 (t8:Int))).setCell ⟨w.heap.size + 1 + 1,3,none⟩ (.int .i64 (v1:Int))).setCell ⟨w.heap.size + 1 + 1,4,none⟩ (.int .i64 (v2:Int))):=(((((Only.refl (·=w.heap.size + 1 + 1) w8).setAt 0 _).setAt 1 _).setAt 2 _).setAt 3 _).setAt 4 _;refine hG8.rows.keep ho9 (fun j cs e hj ht hjb=>?_);subst hjb;have he:=zc hj hrs8
    rcases ht with h2 | h2 | ⟨h2,_⟩<;>(rw [he] at h2;revert h2;decide)
   ·exact ((((hB8.setCell (p:=⟨w.heap.size + 1 + 1,0,none⟩) (by show w.heap.size≤w.heap.size + 1 + 1;omega) _).setCell (p:=⟨w.heap.size + 1 + 1,1,none⟩) (by show w.heap.size≤w.heap.size + 1 + 1;omega) _).setCell (p:=⟨w.heap.size + 1 + 1,2,none⟩) (by show w.heap.size≤w.heap.size + 1 + 1;omega) _).setCell (p:=⟨w.heap.size + 1 + 1,3,none⟩) (by show w.heap.size≤w.heap.size + 1 + 1;omega) _).setCell (p:=⟨w.heap.size + 1 + 1,4,none⟩) (by show w.heap.size≤w.heap.size + 1 + 1;omega) _
def zP3 (q:QS) (l:List UInt8) (w:World) (e:Ending) (w':World):Prop:=
 Below w.heap.size w w'∧match zA1 q l with
  | .inl (x,i)=>e=.returned (.tuple #[.pointer none,.int .i64 (x:Int),.int .i64 (i:Int)])
  | .inr (kind,ls)=>∃ ss db gv,ze ss=ls∧zFT q kind l ss∧SBs ss∧e=.returned (.tuple #[.pointer (some ⟨db,0,none⟩),.int .i64 0,.int .i64 0])∧
   GameAt w' db 79 (blW q kind) (zAQ kind ss) (zBO q kind ss) gv∧w.heap.size≤db∧zI1 w.heap.size gv
theorem zOg {q:QS} {l:List UInt8} {x i:Nat} (h:zA1 q l=.inl (x,i)):0 < x:=by
 unfold zA1 at h
 split at h
 ·injection h with h;injection h with h1 h2;omega
 ·unfold zGA at h
  split at h
  ·injection h with h;injection h with h1 h2;omega
  ·split at h
   ·unfold goQ at h
    split at h
    ·injection h with h;injection h with h1 h2;omega
    ·split at h
     ·cases h
     ·injection h with h;injection h with h1 h2;omega
   ·injection h with h;injection h with h1 h2;omega
theorem zDO {q:QS} {l:List UInt8} {kind:Nat} {ls:List (Nat × Nat)} (h:zA1 q l=.inr (kind,ls)):kind=1∨kind=2:=by
 unfold zA1 at h
 split at h
 ·cases h
 ·unfold zGA at h
  split at h
  ·cases h
  ·split at h
   ·unfold goQ at h
    split at h
    ·cases h
    ·split at h
     ·injection h with h;injection h with h1 h2;rw [← h1];unfold zFK;split
      ·exact Or.inr rfl
      ·exact Or.inl rfl
     ·cases h
   ·cases h
theorem zHR (lo b:Nat) (q:QS) (l:List UInt8) (w:World) (hP:ProgAt lo w b q) (hQ:QB q) :
  Calls Tryz.prog 18 #[.pointer (some ⟨b,0,none⟩),.string ⟨l.toArray⟩] w fun e w'=>zP3 q l w e w':=by
 obtain ⟨_,vV,vC,hfb,hV,hC⟩:=hP;have hbw:=zB hfb;have k0:w.cell? ⟨b,0,none⟩=some vV:=zE hfb rfl;have k1:w.cell? ⟨b,1,none⟩=some vC:=zE hfb rfl;obtain ⟨aV,cV,rfl⟩:=zN hV;obtain ⟨aC,cC,rfl⟩:=zN hC
 go_enter Tryz.func18,Tryz.ntmps18
 go_wp2_with fail;refine (zEI b _ _ aV aC _ cV _ cC rfl rfl w hfb).mono ?_;rintro e w0 ⟨rfl,hA⟩;go_wp2_with fail;have hfm:=heap_alloc_new w0 (.cells #[.slice aV q.vars.length cV,.slice aC q.cl.length cC] 60);have hA1:Below w.heap.size w (w0.alloc (.cells #[.slice aV q.vars.length cV,.slice aC q.cl.length cC] 60)):=hA.alloc hA.size _;generalize w0.alloc (.cells #[.slice aV q.vars.length cV,.slice aC q.cl.length cC] 60)=u1 at *;refine (zJq q _ _ l _ (zAG (lo:=0) (zO hV hA1) (Nat.zero_le _)) (zAG (lo:=0) (zO hC hA1) (Nat.zero_le _)) hQ).mono ?_;rintro e w1 ⟨hb1,hp⟩;have hB1:Below w.heap.size w w1:=hA1.trans (hb1.mono hA1.size)
 cases hq:zA1 q l with
 | inl xi=>
  obtain ⟨x,i⟩:=xi;rw [hq] at hp;have hp':e=.returned (.tuple #[.agg #[.int .i64 0,.slice none 0 0],.int .i64 (x:Int),.int .i64 (i:Int)]):=hp;subst hp';have HC:=zF hq;have hx:=zOg hq;have hxb:((x:Int) != 0)=true:=(by rw [bne_iff_ne];omega);clear hp hq;go_wp2_with fail;go_ret3;exact ⟨hB1.alloc hB1.size _,by rw [zA HC];rfl⟩
 | inr ks=>
  obtain ⟨kind,ls⟩:=ks;rw [hq] at hp;obtain ⟨ss,vS,hls,htg,hsb,rfl,hS⟩:=hp;have HC:=zF hq;have hk:=zDO hq;clear hq;obtain ⟨aS,cS,rfl⟩:=zN hS;have hA2:Below w1.heap.size w1 (w1.alloc (.cells #[.int .i64 (kind:Int),.slice aS ss.length cS] 67)):=(Below.refl _ _).alloc (Nat.le_refl _) _;have hpr:=heap_alloc_new w1 (.cells #[.int .i64 (kind:Int),.slice aS ss.length cS] 67);have hfm1:=zH hb1 hfm;have hfm2:=zH hA2 hfm1;have hB2:=hB1.trans (hA2.mono hB1.size);have hV2:=zAG (lo:=0) (zO hV hB2) (Nat.zero_le _);have hS2:=zAG (lo:=0) (zO hS hA2) (Nat.zero_le _);have f0:(w1.alloc (.cells #[.int .i64 (kind:Int),.slice aS ss.length cS] 67)).cell? ⟨w0.heap.size,0,none⟩=some (.slice aV q.vars.length cV):=zE hfm2 rfl;have f1:(w1.alloc (.cells #[.int .i64 (kind:Int),.slice aS ss.length cS] 67)).cell? ⟨w0.heap.size,1,none⟩=some (.slice aC q.cl.length cC):=zE hfm2 rfl;obtain ⟨p0,p1⟩:=zJ hpr;have lf:=zB hfm2;have lp:=zB hpr;go_wp2_with fail;refine (zOh q ss aV aC aS cV cC cS kind _ hV2 hQ.vl hS2 hsb hk hQ).mono ?_;rintro e w3 ⟨⟨vB,vR,hdrs⟩,rfl,hrows,hfr,hb3⟩;have hB3:=hB2.trans (hb3.mono hB2.size);obtain ⟨aB,cB,hBf⟩:=zN hrows.oB;obtain ⟨aR,cR,hRf⟩:=zN hrows.oR;dsimp only at hBf hRf;subst hBf hRf;have HRO:Hid (∀ w',Below w3.heap.size w3 w'→GRows w' (blW q kind) (zAQ kind ss) ⟨.slice aB (blW q kind).length cB,.slice aR (zAQ kind ss).length cR,hdrs⟩):=zF (fun w' h=>hrows.later h);have HFR:Hid (zI1 w.heap.size ⟨.slice aB (blW q kind).length cB,.slice aR (zAQ kind ss).length cR,hdrs⟩):=zF ⟨fun k hk=>Nat.le_trans hB2.size (hfr.1 k hk),fun k hk=>Nat.le_trans hB2.size (hfr.2.1 k hk),fun j hj k hk=>Nat.le_trans hB2.size (hfr.2.2 j hj k hk)⟩;have hs3:=hB3.size;have HT:=zF htg;have HS:=zF hsb;clear hrows hfr htg hsb;generalize hgo:zBO q kind ss=go at *;have HGO:=zF hgo;clear hgo;obtain ⟨t0,v0,v1⟩:=go;unfold zN5;dsimp only;go_wp2_with fail;go_ret3;have hA3:Below w3.heap.size w3 (w3.alloc (.cells #[.slice aB (blW q kind).length cB,.slice aR (zAQ kind ss).length cR,.int .i64 (t0:Int),.int .i64 (v0:Int),.int .i64 (v1:Int)] 79)):=(Below.refl _ _).alloc (Nat.le_refl _) _;refine ⟨hB3.trans (hA3.mono hB3.size),?_⟩;rw [zA HC];exact ⟨ss,w3.heap.size,⟨.slice aB (blW q kind).length cB,.slice aR (zAQ kind ss).length cR,hdrs⟩,hls,zA HT,zA HS,rfl,by rw [zA HGO];exact ⟨heap_alloc_new _ _,Or.inr rfl,zA HRO _ hA3⟩,hs3,zA HFR⟩
def Firm (Z:Nat→Prop) (A:World→Prop) (w:World):Prop:=∀ (T:Nat→Prop) (w':World),Only T w w'→(∀ k,Z k→¬ T k)→A w'
theorem Firm.now {Z:Nat→Prop} {A:World→Prop} {w:World} (h:Firm Z A w):A w:=h (fun _=>False) w (Only.refl _ _) (fun _ _ h=>h)
theorem Only.join {T T':Nat→Prop} {a b c:World} (h:Only T a b) (k:Only T' b c):Only (fun i=>T i∨T' i) a c:=
 ⟨k.os.trans h.os,k.tape.trans h.tape,k.output.trans h.output,Nat.le_trans h.size k.size,fun i hi ht=>(k.block i (Nat.lt_of_lt_of_le hi h.size) (fun e=>ht (Or.inr e))).trans (h.block i hi (fun e=>ht (Or.inl e)))⟩
theorem Firm.step {Z T:Nat→Prop} {A:World→Prop} {w w':World} (h:Firm Z A w) (ho:Only T w w') (hT:∀ k,Z k→¬ T k):Firm Z A w':=
 fun _ w2 ho2 hT2=>h _ w2 (ho.join ho2) (fun k hk e=>e.elim (hT k hk) (hT2 k hk))
theorem Firm.grow {Z Z':Nat→Prop} {A:World→Prop} {w:World} (h:Firm Z A w) (hz:∀ k,Z k→Z' k):Firm Z' A w:=
 fun T w' ho hT=>h T w' ho (fun k hk=>hT k (hz k hk))
theorem Firm.imp {Z:Nat→Prop} {A B:World→Prop} {w:World} (h:Firm Z A w) (f:∀ w,A w→B w):Firm Z B w:=fun T w' ho hT=>f w' (h T w' ho hT)
theorem zFG {Z:Nat→Prop} {w:World} {base:Nat} {e:TypeId} {size:Nat} {v:Value} {n:Nat} {xs:List Value} (h:w.ownsRow base e size v n xs) (hz:∀ k,v.ownBlock=some k→Z k):Firm Z (fun w=>w.ownsRow base e size v n xs) w:=
 fun _ _ ho hT=>zY h ho (fun k hk=>hT k (hz k hk))
theorem zKx {Z:Nat→Prop} {w:World} {k:Nat} {o:Obj} (h:w.heap[k]?=some o) (hz:Z k):Firm Z (fun w=>w.heap[k]?=some o) w:=
 fun _ _ ho hT=>(ho.block k (zB h) (hT k hz)).trans h
theorem zOQ {Z:Nat→Prop} {w:World} {lo b:Nat} {q:QS} (h:ProgAt lo w b q) (hz:∀ k,lo≤k→k < w.heap.size→Z k):Firm Z (fun w=>ProgAt lo w b q) w:=by
 obtain ⟨h1,vV,vC,h2,h3,h4⟩:=h;intro T w' ho hT;refine ⟨h1,vV,vC,zKx h2 (hz b h1 (zB h2)) T w' ho hT,zFG h3 (fun k hk=>hz k (h3.lt k hk).1 (h3.lt k hk).2) T w' ho hT,zFG h4 (fun k hk=>hz k (h4.lt k hk).1 (h4.lt k hk).2) T w' ho hT⟩
theorem zQc {Z:Nat→Prop} {w:World} {lo b:Nat} {F:zv} (h:RefAt lo w b F) (hz:∀ k,lo≤k→k < w.heap.size→Z k):Firm Z (fun w=>RefAt lo w b F) w:=by
 obtain ⟨h1,vO,vE,vC,h2,h3,h4,h5⟩:=h;intro T w' ho hT;exact ⟨h1,vO,vE,vC,zKx h2 (hz b h1 (zB h2)) T w' ho hT,zFG h3 (fun k hk=>hz k (h3.lt k hk).1 (h3.lt k hk).2) T w' ho hT,zFG h4 (fun k hk=>hz k (h4.lt k hk).1 (h4.lt k hk).2) T w' ho hT,zFG h5 (fun k hk=>hz k (h5.lt k hk).1 (h5.lt k hk).2) T w' ho hT⟩
theorem zPb {Z:Nat→Prop} {w:World} {bl:BL} {rs:List zAB} {v:GV} (h:GRows w bl rs v) (h1:∀ k,v.vB.ownBlock=some k→Z k) (h2:∀ k,v.vR.ownBlock=some k→Z k) (h3:∀ j (hj:j < v.hdrs.length) k,v.hdrs[j].ownBlock=some k→Z k):Firm Z (fun w=>GRows w bl rs v) w:=by
 intro T w' ho hT;have hl:=h.len;exact ⟨zY h.oB ho (fun k hk=>hT k (h1 k hk)),zY h.oR ho (fun k hk=>hT k (h2 k hk)),h.len,fun j hj=>zY (h.row j hj) ho (fun k hk=>hT k (h3 j (by omega) k hk))⟩
structure GG where
 gb:Nat
 db:Nat
 b1:Nat
 b2:Nat
 st:RS
 q0:QS
 proof:List UInt8
 kind:Nat
 ss:List Stp
 mv:List Nat
 bs:List Bool
 g:GS
 gv:GV
 vM:Value
 vb:Nat
 val:List Int
def GG.q (G:GG):QS:=zK G.q0
def GG.rs (G:GG):List zAB:=zAQ G.kind G.ss
def GG.bl (G:GG):BL:=blW G.q G.kind
def zC1 (l:List Int):List Value:=l.map (fun x=>Value.int .i64 x)
structure GPure (G:GG):Prop where
 same:zEA G.st G.q0
 cl:G.q0.cl.length≤24
 nice:zCf G.q0
 read:zA1 G.q G.proof=.inr (G.kind,ze G.ss)
 tags:zFT G.q G.kind G.proof G.ss
 sbs:SBs G.ss
 play:G.g=G.mv.foldl (fun g m=>zAh G.rs G.bl g m) (zBO G.q G.kind G.ss)
 ok:∀ i,i < G.mv.length→zBv G.bl ((G.mv.take i).foldl (fun g m=>zAh G.rs G.bl g m) (zBO G.q G.kind G.ss)) ((G.mv.getD i 0:Nat):Int)=0
 run:Run G.q G.kind G.rs G.g G.bs
 stands:zHJ G.q G.kind G.g
 mlen:G.mv.length≤G.g.turn
 vlen:G.val.length=8
 vok:∀ v,1≤v→v≤8→G.val.getD (v - 1) 0=0∨G.val.getD (v - 1) 0=zBC G.g.vals v
structure GInv (Z:Nat→Prop) (w:World) (G:GG):Prop where
 fb:w.heap[G.gb]?=some (.cells #[.pointer (some ⟨G.db,0,none⟩),.pointer (some ⟨G.b1,0,none⟩),.pointer (some ⟨G.b2,0,none⟩),S G.proof,.int .i64 (G.kind:Int),G.vM,.int .i64 (G.g.turn:Int),.slice (some ⟨G.vb,0,none⟩) 8 8] 87 (0,0))
 db:w.heap[G.db]?=some (.cells #[G.gv.vB,G.gv.vR,.int .i64 (G.g.turn:Int),.int .i64 (G.g.vals.1:Int),.int .i64 (G.g.vals.2:Int)] 79 (0,0))
 firm:Firm Z (fun w=>ProgAt 0 w G.b1 G.q∧RefAt 0 w G.b2 (zW G.st)∧GRows w G.bl G.rs G.gv) w
 oM:w.ownsRow 0 3 1 G.vM G.mv.length (zu G.mv)
 val:w.heap[G.vb]?=some (.cells (zC1 G.val).toArray 3 (0,0))
 mvb:G.vM.ownBlock≠some G.vb
 pure:GPure G
def GG.mut (G:GG) (k:Nat):Prop:=k=G.gb∨k=G.db∨k=G.vb∨G.vM.ownBlock=some k
theorem GInv.game {Z:Nat→Prop} {w:World} {G:GG} (h:GInv Z w G):GameAt w G.db 79 G.bl G.rs G.g G.gv:=⟨h.db,Or.inr rfl,h.firm.now.2.2⟩
theorem GInv.keep {Z T:Nat→Prop} {w w':World} {G:GG} (h:GInv Z w G) (ho:Only T w w') (hZ:∀ k,Z k→¬ T k) (hm:∀ k,G.mut k→¬ T k):GInv Z w' G:=
 ⟨(ho.block _ (zB h.fb) (hm _ (Or.inl rfl))).trans h.fb,(ho.block _ (zB h.db) (hm _ (Or.inr (Or.inl rfl)))).trans h.db,h.firm.step ho hZ,zY h.oM ho (fun k hk=>hm k (Or.inr (Or.inr (Or.inr hk)))),(ho.block _ (zB h.val) (hm _ (Or.inr (Or.inr (Or.inl rfl))))).trans h.val,h.mvb,h.pure⟩
theorem GInv.grow {Z Z':Nat→Prop} {w:World} {G:GG} (h:GInv Z w G) (hz:∀ k,Z k→Z' k):GInv Z' w G:=⟨h.fb,h.db,h.firm.grow hz,h.oM,h.val,h.mvb,h.pure⟩
theorem GInv.lt {Z:Nat→Prop} {w:World} {G:GG} (h:GInv Z w G) {k:Nat} (hk:G.mut k):k < w.heap.size:=by
 rcases hk with rfl | rfl | rfl | hk
 ·exact zB h.fb
 ·exact zB h.db
 ·exact zB h.val
 ·exact (h.oM.lt k hk).2
theorem GInv.apart {Z:Nat→Prop} {w:World} {G:GG} (h:GInv Z w G):G.gb≠G.db∧G.gb≠G.vb∧G.db≠G.vb∧G.vM.ownBlock≠some G.gb∧G.vM.ownBlock≠some G.db:=by
 refine ⟨fun e=>?_,fun e=>?_,fun e=>?_,fun e=>?_,fun e=>?_⟩
 ·have:=h.db;rw [← e] at this;exact absurd (zc h.fb this) (by decide)
 ·have:=h.val;rw [← e] at this;exact absurd (zc h.fb this) (by decide)
 ·have:=h.val;rw [← e] at this;exact absurd (zc h.db this) (by decide)
 ·obtain ⟨c,hc⟩:=zr h.oM _ e;exact absurd (zc h.fb hc) (by decide)
 ·obtain ⟨c,hc⟩:=zr h.oM _ e;exact absurd (zc h.db hc) (by decide)
def FPairF (Z:Nat→Prop) (bw:Nat) (w:World) (text:List UInt8) (px pf:Option Addr):Prop:=
 (px=none∧pf=none)∨∃ b b' st q0,px=some ⟨b,0,none⟩∧pf=some ⟨b',0,none⟩∧Firm Z (fun w=>ProgAt (bw + 1) w b (zK q0)∧RefAt (bw + 1) w b' (zW st)) w∧zEA st q0∧q0.cl.length≤24∧zCf q0∧zAb text=.inr (zK q0)
theorem FPairF.now {Z:Nat→Prop} {bw:Nat} {w:World} {text:List UInt8} {px pf:Option Addr} (h:FPairF Z bw w text px pf):FPair (bw + 1) w px pf:=by
 rcases h with h | ⟨b,b',st,q0,h1,h2,h3,h4⟩
 ·exact Or.inl h
 ·exact Or.inr ⟨b,b',st,q0,h1,h2,h3.now.1,h3.now.2,h4.1,h4.2.1,h4.2.2.1⟩
theorem FPairF.step {Z T:Nat→Prop} {bw:Nat} {w w':World} {text:List UInt8} {px pf:Option Addr} (h:FPairF Z bw w text px pf) (ho:Only T w w') (hT:∀ k,Z k→¬ T k):FPairF Z bw w' text px pf:=by
 rcases h with h | ⟨b,b',st,q0,h1,h2,h3,h4⟩
 ·exact Or.inl h
 ·exact Or.inr ⟨b,b',st,q0,h1,h2,h3.step ho hT,h4⟩
theorem FPairF.grow {Z Z':Nat→Prop} {bw:Nat} {w:World} {text:List UInt8} {px pf:Option Addr} (h:FPairF Z bw w text px pf) (hz:∀ k,Z k→Z' k):FPairF Z' bw w text px pf:=by
 rcases h with h | ⟨b,b',st,q0,h1,h2,h3,h4⟩
 ·exact Or.inl h
 ·exact Or.inr ⟨b,b',st,q0,h1,h2,h3.grow hz,h4⟩
theorem FPairF.new {Z:Nat→Prop} {bw n:Nat} {w:World} {text:List UInt8} {px pf:Option Addr} (h:FTxt n w text px pf) (hn:bw < n) (hz:∀ k,n≤k→k < w.heap.size→Z k):FPairF Z bw w text px pf:=by
 rcases h with h | ⟨b,b',st,q0,h1,h2,h3,h4,h5,h6,h7⟩
 ·exact Or.inl h
 ·exact Or.inr ⟨b,b',st,q0,h1,h2,fun T w' ho hT=>⟨(zOQ h3 hz T w' ho hT).lo hn,(zQc h4 hz T w' ho hT).lo hn⟩,h5,h6.1,h6.2,h7⟩
structure DW where
 text:List UInt8
 proof:List UInt8
 px:Option Addr
 pf:Option Addr
 v4:Value
 v5:Value
 v6:Value
 h5s:List Value
 h6s:List Value
 gs:List GG
 Z:Nat→Prop
def zIi (G:GG):Value:=.pointer (some ⟨G.gb,0,none⟩)
structure DInv (bw:Nat) (w:World) (D:DW):Prop where
 wat:WAt w bw D.text D.px D.pf D.proof D.v4 D.v5 D.v6
 o4:w.ownsRow (bw + 1) 51 1 D.v4 D.gs.length (D.gs.map zIi)
 o5:w.ownsRow (bw + 1) 25 1 D.v5 D.h5s.length D.h5s
 o6:w.ownsRow (bw + 1) 45 1 D.v6 D.h6s.length D.h6s
 zin:∀ k,D.Z k→bw < k∧k < w.heap.size
 form:FPairF D.Z bw w D.text D.px D.pf
 ls:Firm D.Z (fun w=>LsAt w D.h5s) w
 lss:Firm D.Z (fun w=>LssAt w D.h6s) w
 n4:∀ k,D.v4.ownBlock=some k→¬ D.Z k
 n5:∀ k,D.v5.ownBlock=some k→¬ D.Z k
 n6:∀ k,D.v6.ownBlock=some k→¬ D.Z k
 games:∀ G∈D.gs,GInv D.Z w G
 gz:∀ G∈D.gs,∀ k,G.mut k→bw < k∧¬ D.Z k
 gap:∀ i j (hi:i < D.gs.length) (hj:j < D.gs.length),i≠j→∀ k,D.gs[i].mut k→¬ D.gs[j].mut k
def DW.free (D:DW) (bw k:Nat):Prop:=k≠bw∧D.v4.ownBlock≠some k∧D.v5.ownBlock≠some k∧D.v6.ownBlock≠some k
theorem DInv.frame {bw:Nat} {w w':World} {D:DW} {T:Nat→Prop} (h:DInv bw w D) (ho:Only T w w') (hT:∀ k,k < w.heap.size→T k→D.free bw k∧¬ D.Z k∧∀ G∈D.gs,¬ G.mut k):DInv bw w' D:=by
 have ho':Only (fun k=>T k∧k < w.heap.size) w w':=ho.mono (fun k hk ht=>⟨ht,hk⟩);have hz:∀ k,D.Z k→¬ (T k∧k < w.heap.size):=fun k hk ht=>(hT k ht.2 ht.1).2.1 hk
 exact ⟨(ho'.block bw (zB h.wat) (fun e=>(hT bw e.2 e.1).1.1 rfl)).trans h.wat,zY h.o4 ho' (fun k hk e=>(hT k e.2 e.1).1.2.1 hk),zY h.o5 ho' (fun k hk e=>(hT k e.2 e.1).1.2.2.1 hk),zY h.o6 ho' (fun k hk e=>(hT k e.2 e.1).1.2.2.2 hk),
  fun k hk=>⟨(h.zin k hk).1,Nat.lt_of_lt_of_le (h.zin k hk).2 ho.size⟩,h.form.step ho' hz,h.ls.step ho' hz,h.lss.step ho' hz,h.n4,h.n5,h.n6,fun G hG=>(h.games G hG).keep ho' hz (fun k hk e=>(hT k e.2 e.1).2.2 G hG hk),h.gz,h.gap⟩
theorem DInv.later {bw:Nat} {w w':World} {D:DW} (h:DInv bw w D) (hb:Below w.heap.size w w'):DInv bw w' D:=
 h.frame (T:=fun _=>False) (Only.of_below hb) (fun _ _ h=>h.elim)
structure Pair (st:RS) (q0:QS):Prop where
 same:zEA st q0
 cl:q0.cl.length≤24
 nice:zCf q0
theorem Pair.fq {st:RS} {q0:QS} (h:Pair st q0):FQ (zW st) (zK q0):=(zLP h.same h.nice h.cl).1
theorem Pair.fo {st:RS} {q0:QS} (h:Pair st q0):FOk (zW st):=(zLP h.same h.nice h.cl).2.1
theorem Pair.fw {st:RS} {q0:QS} (h:Pair st q0):FW (zW st):=(zLP h.same h.nice h.cl).2.2
theorem Pair.qb {st:RS} {q0:QS} (h:Pair st q0):QB (zK q0):=zQN h.nice h.cl
theorem Pair.qg {st:RS} {q0:QS} (h:Pair st q0):QGood (zK q0):=zQK h.fq h.qb
theorem GPure.pair {G:GG} (h:GPure G):Pair G.st G.q0:=⟨h.same,h.cl,h.nice⟩
theorem Pair.ends {st:RS} {q0:QS} (h:Pair st q0):(zW st).ends.length=(zG (zK q0).vars).length:=by rw [zCR h.same h.nice,zCV]
theorem zFH {lo b:Nat} {w:World} {F:zv} (h:RefAt lo w b F):∃ a c,w.cell? ⟨b,2,none⟩=some (.slice a F.ends.length c)∧b < w.heap.size:=by
 obtain ⟨_,vO,vE,vC,h2,h3,h4,h5⟩:=h;obtain ⟨a,c,rfl⟩:=zN h4;exact ⟨a,c,by rw [zC h2];rfl,zB h2⟩
theorem zEm {lo b k:Nat} {st:RS} {q0:QS} {w:World} (hP:Pair st q0) (hF:RefAt lo w b (zW st)) (hk:k < (zG (zK q0).vars).length) :
  Calls Tryz.prog 38 #[.pointer (some ⟨b,0,none⟩),.int .i64 k] w fun e w'=>∃ v,e=.returned v∧zHF w' v (zG (zK q0).vars)[k]∧Below w.heap.size w w'∧zKN w b v:=by
 have he:=hP.ends;have hv8:=zCp hP.nice;have hol:(zW st).order.length=(zK q0).vars.length:=(by rw [zDv hP.same,List.length_map]);have hk':k < (zBR (zK q0).vars).length:=(by rw [← zCV];exact hk);have hpos:0 < (zK q0).vars.length:=by
  have:=zGt (zK q0).vars;omega
 have hel:=zGt (zK q0).vars;rw [← zIo hP.same hP.nice k hk];refine zJa lo b k (zW st) w hF (by omega) ?_ ?_ (by omega) (by omega) (by rw [zCR hP.same hP.nice];omega)
 ·unfold zD3;rw [zCR hP.same hP.nice];exact zLd _ k hk'
 ·rw [zCR hP.same hP.nice,hol];exact zQY _ k hk'
theorem zHj {Z:Nat→Prop} {w:World} {b vb gO n c:Nat} {F:zv} {cs:Array Value} (h:Firm Z (fun w=>RefAt 0 w b F) w) (hv:¬ Z vb) (hvb:w.heap[vb]?=some (.cells cs 3 (0,0))) (h0:w.cell? ⟨b,0,none⟩=some (.slice (some ⟨gO,0,none⟩) n c)) (hpos:0 < F.order.length):gO≠vb:=by
 intro e;subst e;have hR':=h (·=gO) _ ((Only.refl (·=gO) w).setAt 0 (.bool true)) (fun k hk e=>hv (e ▸ hk));obtain ⟨_,vO,vE,vC,h2,h3,_⟩:=h.now;obtain ⟨_,vO',vE',vC',h2',h3',_⟩:=hR';have hne:b≠gO:=fun e=>by rw [e] at h2;exact absurd (zc h2 hvb) (by decide)
 rw [Below.heap_setCell _ _ _ _ hne,h2] at h2';have hvO:vO=.slice (some ⟨gO,0,none⟩) n c:=by
  rw [zC h2] at h0;injection h0
 have hvO':vO'=vO:=by
  injection h2' with h2';injection h2' with h2' _ _
  have:=congrArg (fun a=>a[0]?) h2'
  simpa using this.symm
 rw [hvO',hvO] at h3';rw [hvO] at h3;obtain ⟨g1,c1,e1,_,_,_,hc1⟩:=zS h3 hpos;obtain ⟨g2,c2,e2,_,_,_,hc2⟩:=zS h3' hpos;injection e1 with e1 _ _;injection e1 with e1;injection e1 with e1;injection e2 with e2 _ _;injection e2 with e2;injection e2 with e2;subst e1 e2;have a1:=hc1 0 _ (show (zu F.order)[0]?=some (.int .i64 (F.order[0]:Int)) by simp [zu,hpos]);have a2:=hc2 0 _ (show (zu F.order)[0]?=some (.int .i64 (F.order[0]:Int)) by simp [zu,hpos]);have hs:=zI hvb 0 (.bool true);rw [zC hvb] at a1;rw [zC hs] at a2;have hsz:0 < cs.size:=(Array.getElem?_eq_some_iff.1 a1).1;rw [Array.getElem?_setIfInBounds_self_of_lt hsz] at a2
 cases a2
theorem zO6 {st:RS} {q0:QS} (hP:Pair st q0) {b:List Nat} (hb:b∈zG (zK q0).vars) (kind:Nat) (hk:kind=1∨kind=2) (v:Nat) (hv:b.head?=some v):((zW st).all.testBit v == (kind == 2))=!zBq (zK q0) kind b:=by
 have hvb:v∈b:=List.mem_of_mem_head? (by rw [hv];simp);have hm:v∈(zG (zK q0).vars).flatten:=List.mem_flatten.2 ⟨b,hb,hvb⟩;rw [zAA] at hm;obtain ⟨x,hx,rfl⟩:=List.mem_map.1 hm;have h:=zK9 hP.qg hk hb hx hvb;rw [← h,zIm hP.same hP.nice x hx];rfl
theorem zIF {lo b k:Nat} {st:RS} {q0:QS} {w:World} (hP:Pair st q0) (hF:RefAt lo w b (zW st)) (hk:k < (zG (zK q0).vars).length) (kind:Nat) (hkd:kind=1∨kind=2) :
  Calls Tryz.prog 84 #[.pointer (some ⟨b,0,none⟩),.int .i64 k] w fun e w'=>∃ u,e=.returned (.bool u)∧(u == (kind == 2))=!zBq (zK q0) kind (zG (zK q0).vars)[k]∧Below w.heap.size w w':=by
 have hb:=List.getElem_mem hk;obtain ⟨hne,_⟩:=zB6 (zK q0).vars _ hb;have HU:Hid (∀ v,(zG (zK q0).vars)[k].head?=some v→((zW st).all.testBit v == (kind == 2))=!zBq (zK q0) kind (zG (zK q0).vars)[k]):=zF (fun v hv=>zO6 hP hb kind hkd v hv);have h9:(zW st).all < 512:=hP.fw.all;have hvr:∀ v∈(zG (zK q0).vars)[k],v≤8:=fun v hv=>((zE0 hP.qb 1).row ((zG (zK q0).vars)[k],_) (List.mem_map.2 ⟨_,hb,rfl⟩)).2 v hv |>.2
 go_enter Tryz.func84,Tryz.ntmps84
 go_wp2_with fail;refine (zEm hP hF hk).mono ?_;rintro e w1 ⟨v,rfl,hI,hb1,_⟩;have hF1:=hF.later hb1;have h1:w1.cell? ⟨b,1,none⟩=some (.int .i64 ((zW st).all:Int)):=by
  obtain ⟨_,vO,vE,vC,h2,_⟩:=hF1;rw [zC h2];rfl
 have lb:=zAm h1;have HW:Hid (∀ u,(u == (kind == 2))=!zBq (zK q0) kind (zG (zK q0).vars)[k]→∀ e w',e=Ending.returned (.bool u)→Below w.heap.size w w'→∃ u,e=.returned (.bool u)∧(u == (kind == 2))=!zBq (zK q0) kind (zG (zK q0).vars)[k]∧Below w.heap.size w w'):=zF (fun u hu e w' he hb=>⟨u,he,hu,hb⟩);obtain ⟨row,hrow⟩:∃ row,(zG (zK q0).vars)[k]=row:=⟨_,rfl⟩;rw [hrow] at hI hvr hne;have HRO:=zF hrow;clear hrow
 cases row with
 | nil=>exact absurd rfl hne
 | cons v r=>
  obtain ⟨ao,cap,rfl,hI2⟩:=hI;obtain ⟨g,off,rfl,hc⟩:=hI2 0 (by simp);have hc0:w1.cell? ⟨g,off,none⟩=some (.int .i64 (v:Int)):=hc;have lg:=zAm hc0;have hv8:=hvr v (by simp);clear hI2 hc;go_wp2_with fail;refine (zDW b (zW st).all v _ h9 hv8 h1).mono ?_;rintro e w2 ⟨rfl,hw2⟩;subst hw2;go_wp2_with fail;go_ret;exact zA HW _ (zA HU v (by rw [zA HRO];rfl)) _ _ rfl hb1
def zEw (q:QS) (kind:Nat):Nat→Nat→Nat
 | 0,k=>k
 | m + 1,k=>if zBq q kind ((zG q.vars).getD k []) then zEw q kind m (k + 1) else k
def zFw (q:QS) (kind k:Nat):Nat:=zEw q kind ((zG q.vars).length - k) k
theorem zPm (q:QS) (kind:Nat):∀ (m k t:Nat),k + m=(zG q.vars).length→k≤t→t≤(zG q.vars).length→(∀ j (hj:j < (zG q.vars).length),k≤j→j < t→zBq q kind (zG q.vars)[j]=true)→(∀ h:t < (zG q.vars).length,zBq q kind (zG q.vars)[t]=false)→zEw q kind m k=t:=by
 intro m
 induction m with
 | zero=>intro k t h1 h2 h3 _ _;show k=t;omega
 | succ m ih=>
  intro k t h1 h2 h3 h4 h5;have hk:k < (zG q.vars).length:=(by omega);have hg:(zG q.vars).getD k []=(zG q.vars)[k]:=(by simp [List.getD,hk]);rw [zEw,hg]
  by_cases e:k=t
  ·subst e;rw [h5 hk];rfl
  ·rw [h4 k hk (Nat.le_refl _) (by omega),if_pos rfl];exact ih (k + 1) t (by omega) (by omega) h3 (fun j hj a b=>h4 j hj (by omega) b) h5
theorem zL0 (q:QS) (kind k t:Nat) (h1:k≤t) (h2:t≤(zG q.vars).length) (h3:∀ j (hj:j < (zG q.vars).length),k≤j→j < t→zBq q kind (zG q.vars)[j]=true) (h4:∀ h:t < (zG q.vars).length,zBq q kind (zG q.vars)[t]=false):zFw q kind k=t:=
 zPm q kind _ k t (by omega) h1 h2 h3 h4
theorem zLB {gb b2 kind k:Nat} {st:RS} {q0:QS} {w:World} {cells:Array Value} (hP:Pair st q0) (hg:w.heap[gb]?=some (.cells cells 87 (0,0))) (hg2:cells[2]?=some (.pointer (some ⟨b2,0,none⟩))) (hg4:cells[4]?=some (.int .i64 (kind:Int))) (hF:RefAt 0 w b2 (zW st)) (hkd:kind=1∨kind=2) (hk:k≤(zG (zK q0).vars).length) :
  Calls Tryz.prog 54 #[.pointer (some ⟨gb,0,none⟩),.int .i64 k] w fun e w'=>e=.returned (.int .i64 (zFw (zK q0) kind k:Nat))∧Below w.heap.size w w':=by
 have lg:=zB hg;have c2:w.cell? ⟨gb,2,none⟩=some (.pointer (some ⟨b2,0,none⟩)):=(by rw [zC hg];exact hg2);obtain ⟨aE,cE,hE,lb⟩:=zFH hF;rw [hP.ends] at hE;have hn8:=zDR (zK q0).vars (zCp hP.nice)
 go_enter Tryz.func54,Tryz.ntmps54
 go_wp2_with fail
 go_loopg [1] ((zG (zK q0).vars).length - k) (fun m i wx=>∃ (j:Nat),i=.int .i64 j∧j + m=(zG (zK q0).vars).length∧zFw (zK q0) kind k=zEw (zK q0) kind m j∧Below w.heap.size w wx)
 case atStart=>exact ⟨k,rfl,by omega,rfl,Below.refl _ _⟩
 case round=>
  obtain ⟨j,rfl,hjm,hnx,hb⟩:=hrel;have HNX:=zF hnx;clear hnx;have hgr:=(hb.block _ lg).trans hg;have d2:wr.cell? ⟨gb,2,none⟩=some (.pointer (some ⟨b2,0,none⟩)):=(by rw [zC hgr];exact hg2);have d4:wr.cell? ⟨gb,4,none⟩=some (.int .i64 (kind:Int)):=(by rw [zC hgr];exact hg4);have lgr:=zB hgr
  by_cases hlt:j < (zG (zK q0).vars).length
  ·obtain ⟨m,rfl⟩:∃ m,gk=m + 1:=⟨gk - 1,by omega⟩;have hgd:(zG (zK q0).vars).getD j []=(zG (zK q0).vars)[j]:=(by simp [List.getD,hlt]);have HST:Hid (zEw (zK q0) kind (m + 1) j=if zBq (zK q0) kind (zG (zK q0).vars)[j] then zEw (zK q0) kind m (j + 1) else j):=zF (by rw [zEw,hgd]);clear hgd;go_wp2_with fail;refine (zIF hP (hF.later hb) hlt kind hkd).mono ?_;rintro e w1 ⟨u,rfl,hu,hb1⟩;have hB1:=hb.trans (hb1.mono hb.size);have hg1:=(hb1.block _ lgr).trans hgr;have e4:w1.cell? ⟨gb,4,none⟩=some (.int .i64 (kind:Int)):=(by rw [zC hg1];exact hg4);have lg1:=zB hg1
   cases hw:zBq (zK q0) kind (zG (zK q0).vars)[j] with
   | true=>
    have HF2:Hid (zFw (zK q0) kind k=zEw (zK q0) kind m (j + 1)):=zF (by rw [zA HNX,zA HST,hw];rfl);rw [hw] at hu
    rcases hkd with rfl | rfl<;>cases u<;>simp at hu
    all_goals
     go_wp2_with fail
     go_roundg m
     case measure=>omega
     case rel=>exact ⟨j + 1,by go_num,by omega,zA HF2,hB1⟩
   | false=>
    have HF2:Hid (zFw (zK q0) kind k=j):=zF (by rw [zA HNX,zA HST,hw];rfl);rw [hw] at hu
    rcases hkd with rfl | rfl<;>cases u<;>simp at hu
    all_goals
     go_wp2_with fail;go_ret;exact ⟨by rw [zA HF2];rfl,hB1⟩
  ·have hj:j=(zG (zK q0).vars).length:=(by omega);have hm0:gk=0:=(by omega);have HF2:Hid (zFw (zK q0) kind k=(zG (zK q0).vars).length):=zF (by rw [zA HNX,hm0];exact hj);clear hm0;subst hj;go_wp2_with fail;go_ret;exact ⟨by rw [zA HF2];rfl,hb⟩
def zEK (l:List Nat):Nat:=l.foldl (fun a v=>a ||| 2 ^ v) 0
def zDs (c:Nat × Nat) (l:List Nat):Nat:=l.foldl (fun a v=>if zBC c v=1 then a ||| 2 ^ v else a) 0
def zEU (c:Nat × Nat) (val:List Int) (l:List Nat):List Int:=l.foldl (fun a v=>a.set (v - 1) (zBC c v)) val
theorem zNa (l:List Nat) (v:Nat):zEK (l ++ [v])=zEK l ||| 2 ^ v:=by unfold zEK;rw [List.foldl_append];rfl
theorem zNL (c:Nat × Nat) (l:List Nat) (v:Nat):zDs c (l ++ [v])=if zBC c v=1 then zDs c l ||| 2 ^ v else zDs c l:=by unfold zDs;rw [List.foldl_append];rfl
theorem zPA (c:Nat × Nat) (val:List Int) (l:List Nat) (v:Nat):zEU c val (l ++ [v])=(zEU c val l).set (v - 1) (zBC c v):=by unfold zEU;rw [List.foldl_append];rfl
theorem zPg (l:List Nat):∀ a v,(l.foldl (fun a v=>a ||| 2 ^ v) a).testBit v=(a.testBit v || decide (v∈l)):=by
 induction l with
 | nil=>intro a v;simp
 | cons u l ih=>
  intro a v;rw [List.foldl_cons,ih,Nat.testBit_or,zDc]
  by_cases e:u=v
  ·subst e;simp
  ·have:(v∈u :: l)↔v∈l:=⟨fun h=>(List.mem_cons.1 h).elim (fun h=>(e h.symm).elim) id,List.mem_cons_of_mem _⟩
   have e2:(u == v)=false:=(by simpa using e);simp [e2,this]
theorem zQ6 (l:List Nat) (v:Nat):(zEK l).testBit v=decide (v∈l):=by unfold zEK;rw [zPg];simp
theorem zPS (c:Nat × Nat) (l:List Nat):∀ a v,(l.foldl (fun a v=>if zBC c v=1 then a ||| 2 ^ v else a) a).testBit v=(a.testBit v || (decide (v∈l) && decide (zBC c v=1))):=by
 induction l with
 | nil=>intro a v;simp
 | cons u l ih=>
  intro a v;rw [List.foldl_cons,ih]
  by_cases e:u=v
  ·subst e
   by_cases h:zBC c u=1
   ·rw [if_pos h,Nat.testBit_or,zDc];simp [h]
   ·rw [if_neg h];simp [h]
  ·have:(v∈u :: l)↔v∈l:=⟨fun h=>(List.mem_cons.1 h).elim (fun h=>(e h.symm).elim) id,List.mem_cons_of_mem _⟩
   have e2:(u == v)=false:=by simpa using e
   split
   ·rw [Nat.testBit_or,zDc];simp [e2,this]
   ·simp [this]
theorem zQV (c:Nat × Nat) (l:List Nat) (v:Nat):(zDs c l).testBit v=(decide (v∈l) && decide (zBC c v=1)):=by unfold zDs;rw [zPS];simp
theorem zJZ (a v:Nat) (ha:a < 512) (hv:v≤8):a ||| 2 ^ v < 512:=by
 refine Nat.or_lt_two_pow (n:=9) ha ?_;exact Nat.pow_lt_pow_right (by decide) (by omega)
theorem zK0 (l:List Nat) (h:∀ v∈l,v≤8):zEK l < 512:=by
 unfold zEK
 suffices hh:∀ a,a < 512→l.foldl (fun a v=>a ||| 2 ^ v) a < 512 from hh 0 (by decide)
 induction l with
 | nil=>intro a ha;exact ha
 | cons u l ih=>intro a ha;exact ih (fun v hv=>h v (List.mem_cons_of_mem _ hv)) _ (zJZ a u ha (h u (by simp)))
theorem zK6 (c:Nat × Nat) (l:List Nat) (h:∀ v∈l,v≤8):zDs c l < 512:=by
 unfold zDs
 suffices hh:∀ a,a < 512→l.foldl (fun a v=>if zBC c v=1 then a ||| 2 ^ v else a) a < 512 from hh 0 (by decide)
 induction l with
 | nil=>intro a ha;exact ha
 | cons u l ih=>
  intro a ha;rw [List.foldl_cons];refine ih (fun v hv=>h v (List.mem_cons_of_mem _ hv)) _ ?_
  split
  ·exact zJZ a u ha (h u (by simp))
  ·exact ha
theorem zKs (c:Nat × Nat) (l:List Nat):∀ val,(zEU c val l).length=val.length:=by
 unfold zEU
 induction l with
 | nil=>intro val;rfl
 | cons u l ih=>intro val;rw [List.foldl_cons,ih];simp
theorem zNw (c:Nat × Nat) (l:List Nat) (h:∀ v∈l,1≤v∧v≤8) (v:Nat) (h1:1≤v) (h8:v≤8):∀ val:List Int,val.length=8→(zEU c val l).getD (v - 1) 0=if v∈l then zBC c v else val.getD (v - 1) 0:=by
 unfold zEU
 induction l with
 | nil=>intro val _;simp
 | cons u l ih=>
  intro val hl;rw [List.foldl_cons,ih (fun v hv=>h v (List.mem_cons_of_mem _ hv)) _ (by simpa using hl)];have hu:=h u (by simp)
  by_cases hv:v∈l
  ·rw [if_pos hv,if_pos (List.mem_cons_of_mem _ hv)]
  ·rw [if_neg hv]
   by_cases e:v=u
   ·subst e;rw [if_pos (by simp),List.getD,List.getElem?_set_self (by omega)];rfl
   ·rw [if_neg (by simp [e,hv]),List.getD,List.getElem?_set_ne (by omega)];rfl
def zFP (c:Nat × Nat):List Int:=(List.range 8).map (fun i=>zBC c (i + 1))
theorem zIy (c:Nat × Nat) (v:Nat) (h1:1≤v) (h8:v≤8):(zFP c).getD (v - 1) 0=zBC c v:=by
 unfold zFP;rw [List.getD,List.getElem?_map,List.getElem?_range (by omega)];simp [show v - 1 + 1=v from by omega]
theorem zOS {a b:List Int} (ha:a.length=8) (hb:b.length=8) (h:∀ v,1≤v→v≤8→a.getD (v - 1) 0=b.getD (v - 1) 0):a=b:=by
 apply List.ext_getElem (by omega)
 intro i h1 h2
 have:=h (i + 1) (by omega) (by omega)
 rw [Nat.add_sub_cancel,List.getD,List.getD,List.getElem?_eq_getElem h1,List.getElem?_eq_getElem h2] at this;exact this
theorem zRU {q:QS} (hq:QGood q) {kind:Nat} {rs:List zAB} {g:GS} {bs:List Bool} (h:Run q kind rs g bs) {val:List Int} (hl:val.length=8) (hok:∀ v,1≤v→v≤8→val.getD (v - 1) 0=0∨val.getD (v - 1) 0=zBC g.vals v):zEU g.vals val ((q.vars.map (·.1)).take bs.length)=zFP g.vals:=by
 refine zOS (by rw [zKs];exact hl) (by simp [zFP]) (fun v h1 h8=>?_);rw [zNw _ _ (fun v hv=>hq.name (List.mem_of_mem_take hv)) v h1 h8 val hl,zIy _ v h1 h8]
 split
 ·rfl
 ·next hn=>
  have h0:zBC g.vals v=0:=zID hq h (fun j hj hjb e=>hn (by
   rw [List.mem_take_iff_getElem];exact ⟨j,by simp;omega,by simpa using e⟩))
  rcases hok v h1 h8 with e | e
  ·rw [e,h0]
  ·exact e
theorem zPN {q:QS} (hq:QGood q) {kind:Nat} {rs:List zAB} {g:GS} {bs:List Bool} (h:Run q kind rs g bs) (ht:g.turn=(zG q.vars).length):zDs g.vals (q.vars.map (·.1))=g.vals.1:=by
 have hl:bs.length=q.vars.length:=by rw [h.len,ht,zIG,zAA,List.length_map]
 apply Nat.eq_of_testBit_eq
 intro v;rw [zQV]
 cases hv:g.vals.1.testBit v with
 | true=>
  obtain ⟨j,hj,hb,e1,e2⟩:=(zK1 hq h true v).1 hv;have hval:=zGO hq h hj hb;rw [e2,e1] at hval;rw [hval,Bool.and_eq_true];exact ⟨decide_eq_true (by rw [← e1];exact List.mem_map_of_mem (List.getElem_mem hj)),by decide⟩
 | false=>
  cases hc:(decide (v∈q.vars.map (·.1)) && decide (zBC g.vals v=1)) with
  | false=>rfl
  | true=>
   rw [Bool.and_eq_true] at hc;have h1:zBC g.vals v=1:=(by simpa using hc.2);unfold zBC at h1
   split at h1
   ·omega
   ·split at h1
    ·next hh=>rw [show L g.vals true v=g.vals.1.testBit v from rfl,hv] at hh;cases hh
    ·omega
end Go.Proofs.YtgipjjhkhfihpaaGreatDoor
