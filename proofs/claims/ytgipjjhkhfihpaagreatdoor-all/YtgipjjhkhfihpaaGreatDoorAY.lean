import Derived.Test.YtgipjjhkhfihpaaGreatDoorAX
import Derived.Deep.QuietTactic
import Derived.BigQuiet
import Derived.Test.YtgipjjhkhfihpaaGreatDoorAD
import Derived.Test.YtgipjjhkhfihpaaGreatDoorAK
import Derived.BigRegion
import Derived.Deep.DeepCutAuto
import Derived.Test.YtgipjjhkhfihpaaGreatDoorAI
set_option maxRecDepth 100000
set_option maxHeartbeats 6400000
namespace Go.Proofs.YtgipjjhkhfihpaaGreatDoor
open Go.RowKit
theorem zNP (bw:Nat) (D:DW) (o:OpV) (w:World) (hD:DInv bw w D) (hk:zGj o.kind=true) (hok:o.Ok) (hpl:D.proof.length≤1048576) (htl:D.text.length≤1048576) (hsl:o.s.length≤1048576) :
  Calls Tryz.prog 19 #[.pointer (some ⟨bw,0,none⟩),.agg #[.int .i64 o.kind,.int .i64 o.a,.int .i64 o.b,.int .i64 o.c,S o.s,S o.t]] w fun e w'=>StepD bw D (o.s.length + 1) w e w':=by
 refine (zLW bw D.text D.px D.pf D.proof o D.v4 D.v5 D.v6 w hD.wat hk hok hpl htl hsl).mono ?_;rintro e w' ⟨h1,ho,text',px',pf',proof',hw',h2,h3,h4⟩;refine ⟨h1,ho.below (Nat.le_of_lt (zB hD.wat)) (fun k hk e=>by omega),_,hD.base ho hw' h4,by show text'.length≤_;omega,by show proof'.length≤_;omega,by show D.gs.length≤_;omega,by show D.h5s.length≤_;omega,by show D.h6s.length≤_;omega⟩
theorem zR1 (bw i:Nat) (D:DW) (bits:Int) (ask:Bool) (w:World) (hD:DInv bw w D) (hi:i < D.gs.length) (hbi:zE8 bits) (hn5:D.h5s.length≤1073741824) :
  Calls Tryz.prog 30 #[.pointer (some ⟨bw,0,none⟩),.pointer (some ⟨D.gs[i].gb,0,none⟩),.int .i64 bits,.bool ask] w fun e w'=>StepD bw D 0 w e w':=by
 have hG:=hD.games _ (List.getElem_mem hi);obtain ⟨G,hGe⟩:∃ G,D.gs[i]=G:=⟨_,rfl⟩;rw [hGe] at hG ⊢;have ht:G.g.turn≤(zG (zK G.q0).vars).length:=hG.pure.run.turn
 by_cases hov:G.g.turn=(zG (zK G.q0).vars).length
 ·exact zMz bw i D G bits ask w hD hi hGe hbi hn5 hov
 ·have htl:G.g.turn < (zG (zK G.q0).vars).length:=by omega
  by_cases hbad:bits < 0∨(2:Int) ^ (zG (zK G.q0).vars)[G.g.turn].length≤bits
  ·exact zOd bw i D G bits ask w hD hi hGe hbi hn5 htl hbad
  ·simp only [not_or] at hbad;obtain ⟨b,rfl⟩:∃ b:Nat,bits=(b:Int):=⟨bits.toNat,by omega⟩;exact zRS bw i D G b ask w hD hi hGe hn5 htl (by omega)
theorem DInv.v4f {bw:Nat} {w:World} {D:DW} (hD:DInv bw w D):∃ a c,D.v4=.slice a D.gs.length c∧w.cell? ⟨bw,4,none⟩=some (.slice a D.gs.length c):=by
 obtain ⟨a,c,h⟩:=zN hD.o4;exact ⟨a,c,h,by rw [zC hD.wat];exact congrArg some h⟩
theorem DInv.gat {bw:Nat} {w:World} {D:DW} (hD:DInv bw w D) {a:Option Addr} {c:Nat} (hf:D.v4=.slice a D.gs.length c) {i:Nat} (hi:i < D.gs.length):∃ g,a=some ⟨g,0,none⟩∧g < w.heap.size∧w.cell? ⟨g,i,none⟩=some (.pointer (some ⟨D.gs[i].gb,0,none⟩)):=by
 have h:=hD.o4;rw [hf] at h;obtain ⟨g,cap,e,_,hg,_,hc⟩:=zS h (by omega);injection e with e _ _;exact ⟨g,e,hg,hc i _ (by simp [hi,zIi])⟩
def zGg (c:Int) (n:Nat):Nat:=if c < 0 then ((-(c + 1)) % n).toNat else (c % n).toNat
theorem zQo (c:Int) (n:Nat) (hn:0 < n):zGg c n < n:=by
 unfold zGg
 split
 ·have:=Int.emod_nonneg (-(c + 1)) (show (n:Int)≠0 by omega)
  have:=Int.emod_lt_of_pos (-(c + 1)) (show (0:Int) < n by omega)
  omega
 ·have:=Int.emod_nonneg c (show (n:Int)≠0 by omega)
  have:=Int.emod_lt_of_pos c (show (0:Int) < n by omega)
  omega
theorem zSN (c:Int) (n:Nat) (w:World) (hn:0 < n) (hn2:n≤1048576) (h1:-9223372036854775808≤c) (h2:c≤9223372036854775807) :
  Calls Tryz.prog 29 #[.int .i64 c,.int .i64 n] w fun e w'=>e=.returned (.int .i64 (zGg c n:Nat))∧w'=w:=by
 by_cases hc:c < 0
 ·have hd:decide (c < 0)=true:=(by simpa using hc);have HP:Hid (zGg c n=((-(c + 1)) % n).toNat):=zF (by unfold zGg;rw [if_pos hc])
  go_enter Tryz.func29,Tryz.ntmps29
  go_wp2_with fail;go_ret;have e:-((c + 1).tmod n)=(-(c + 1)) % n:=(by rw [← Int.neg_tmod,Int.tmod_eq_emod_of_nonneg (by omega)]);have e1:=Int.emod_nonneg (-(c + 1)) (show (n:Int)≠0 by omega);refine ⟨zA7 ?_,rfl⟩;rw [zA HP];omega
 ·have hd:decide (c < 0)=false:=(by simpa using hc);have HP:Hid (zGg c n=(c % n).toNat):=zF (by unfold zGg;rw [if_neg hc])
  go_enter Tryz.func29,Tryz.ntmps29
  go_wp2_with fail;go_ret;refine ⟨zA7 ?_,rfl⟩;rw [zA HP]
  have:=Int.emod_nonneg c (show (n:Int)≠0 by omega)
  omega
def zJj (k:Int):Bool:=k == 8 || k == 9 || k == 11
theorem zLq (bw:Nat) (D:DW) (o:OpV) (w:World) (hD:DInv bw w D) (hk:zJj o.kind=true) (h0:D.gs=[]) :
  Calls Tryz.prog 19 #[.pointer (some ⟨bw,0,none⟩),.agg #[.int .i64 o.kind,.int .i64 o.a,.int .i64 o.b,.int .i64 o.c,S o.s,S o.t]] w fun e w'=>StepD bw D (o.s.length + 1) w e w':=by
 obtain ⟨a4,c4,hf,h4⟩:=hD.v4f;rw [h0] at h4;have hbw:=zB hD.wat;have HQ:Hid (∀ w',Below w.heap.size w w'→StepD bw D (o.s.length + 1) w (.returned (.bool true)) w'):=zF (fun w' h=>(StepD.quiet (h.mono (Nat.le_of_lt hbw)) (hD.later h) rfl rfl (by omega) rfl rfl).more (by omega));obtain ⟨kind,a,b,c,s,t⟩:=o;unfold zJj at hk;simp only [Bool.or_eq_true,beq_iff_eq] at hk;dsimp only at hk HQ ⊢
 rcases hk with (rfl | rfl) | rfl
 all_goals
  go_enter Tryz.func19,Tryz.ntmps19
  go_wp2_with fail;go_ret;exact zA HQ _ ((Below.refl _ _).alloc (Nat.le_refl _) _)
theorem zOL {bw i:Nat} {D:DW} {w w':World} {e:Ending} (hs:zGS bw i D w e w') (hi:i < D.gs.length):e=.returned (.bool true)∧Below bw w w'∧∃ D',DInv bw w' D'∧D'.text=D.text∧D'.proof=D.proof∧D'.gs.length=D.gs.length∧D'.h5s.length=D.h5s.length + 1∧D'.h6s=D.h6s∧GInv D'.Z w' D.gs[i].told:=by
 obtain ⟨he,hb,_,v5',hdr,Z',hD'⟩:=hs;refine ⟨he,hb,_,hD',rfl,rfl,by simp,by simp,rfl,?_⟩;exact hD'.games _ (List.mem_iff_getElem.2 ⟨i,by simpa using hi,by simp⟩)
theorem zOU (bw:Nat) (D:DW) (o:OpV) (w:World) (hD:DInv bw w D) (hk:zJj o.kind=true) (h0:0 < D.gs.length) (hok:o.Ok) (hn4:D.gs.length≤1048576) (hn5:D.h5s.length≤1073741824) :
  Calls Tryz.prog 19 #[.pointer (some ⟨bw,0,none⟩),.agg #[.int .i64 o.kind,.int .i64 o.a,.int .i64 o.b,.int .i64 o.c,S o.s,S o.t]] w fun e w'=>StepD bw D (o.s.length + 1) w e w':=by
 have hbw:=zB hD.wat;obtain ⟨kind,a,b,c,s,t⟩:=o;obtain ⟨_,⟨ha1,ha2⟩,hb64,⟨hc1,hc2⟩⟩:=hok;dsimp only at hk ha1 ha2 hb64 hc1 hc2 ⊢;have hA:Below w.heap.size w (w.alloc (.cells #[.int .i64 kind,.int .i64 a,.int .i64 b,.int .i64 c,S s,S t] 29)):=(Below.refl _ _).alloc (Nat.le_refl _) _;have hop:=heap_alloc_new w (.cells #[.int .i64 kind,.int .i64 a,.int .i64 b,.int .i64 c,S s,S t] 29);have hDA:=hD.later hA;obtain ⟨a4,c4,hf,h4A⟩:=hDA.v4f;have hne:((D.gs.length:Int) == 0)=false:=(by rw [beq_eq_false_iff_ne];omega);have hr:=zQo a D.gs.length h0;have HPK:Hid (∀ w,Calls Tryz.prog 29 #[.int .i64 a,.int .i64 D.gs.length] w fun e w'=>e=.returned (.int .i64 (zGg a D.gs.length:Nat))∧w'=w):=zF (fun w=>zSN a D.gs.length w h0 hn4 ha1 ha2);generalize zGg a D.gs.length=r at *;obtain ⟨g,rfl,hg,hcell⟩:=hDA.gat hf hr;have hMb:bw≤w.heap.size:=Nat.le_of_lt hbw;have HD:Hid (∀ w1,Below w.heap.size w w1→DInv bw w1 D):=zF (fun w1 h=>hD.later h);have HFIN:Hid (∀ e w1 w2,Below w.heap.size w w1→StepD bw D 0 w1 e w2→e=.returned (.bool true)∧StepD bw D (s.length + 1) w (.returned (.bool true)) w2):=zF (fun e w1 w2 hb h=>by
  have he:=h.ret;subst he;exact ⟨rfl,(h.after (hb.mono hMb)).more (by omega)⟩)
 clear hD hDA hf;have h4w:w.cell? ⟨bw,4,none⟩=some (.slice (some ⟨g,0,none⟩) D.gs.length c4):=(by rw [← hA.cell (p:=⟨bw,4,none⟩) hbw];exact h4A);have lbA:=Nat.lt_of_lt_of_le hbw hA.size;have lop:=zB hop;unfold zJj at hk;simp only [Bool.or_eq_true,beq_iff_eq] at hk;have HREST:Hid (∀ w1,Below (w.alloc (.cells #[.int .i64 kind,.int .i64 a,.int .i64 b,.int .i64 c,S s,S t] 29)).heap.size (w.alloc (.cells #[.int .i64 kind,.int .i64 a,.int .i64 b,.int .i64 c,S s,S t] 29)) w1→Below w.heap.size w w1∧w1.heap[w.heap.size]?=some (.cells #[.int .i64 kind,.int .i64 a,.int .i64 b,.int .i64 c,S s,S t] 29 (0,0))):=zF (fun w1 hb=>⟨hA.trans (hb.mono hA.size),(hb.block _ lop).trans hop⟩)
 rcases hk with (rfl | rfl) | rfl
 ·go_enter Tryz.func19,Tryz.ntmps19
  go_wp2_with fail
  go_quiet (first | (go_at_call 29;refine Calls.quiet_of_same (zA HPK _)))
  obtain ⟨hB1,hop1⟩:=zA HREST _ (below_drewN (Below.refl _ _) nq);clear HREST hA hop h4A hg hcell lbA lop h4w;generalize (w.alloc (.cells #[.int .i64 8,.int .i64 a,.int .i64 b,.int .i64 c,S s,S t] 29)).drewN nq=w1 at *;have o2:w1.cell? ⟨w.heap.size,2,none⟩=some (.int .i64 b):=zE hop1 rfl;have o3:w1.cell? ⟨w.heap.size,3,none⟩=some (.int .i64 c):=zE hop1 rfl;have o0:w1.cell? ⟨w.heap.size,0,none⟩=some (.int .i64 8):=zE hop1 rfl;have lop1:=zB hop1;go_wp2_with fail;refine (zR1 bw r D b _ _ (zA HD _ hB1) hr hb64 hn5).mono ?_;intro e w2 hs;obtain ⟨rfl,hfin⟩:=zA HFIN _ _ _ hB1 hs;clear hs;go_wp2_with fail;go_ret;exact hfin
 ·go_enter Tryz.func19,Tryz.ntmps19
  go_wp2_with fail
  go_quiet (first | (go_at_call 29;refine Calls.quiet_of_same (zA HPK _)))
  obtain ⟨hB1,hop1⟩:=zA HREST _ (below_drewN (Below.refl _ _) nq);clear HREST hA hop h4A hg hcell lbA lop h4w;generalize (w.alloc (.cells #[.int .i64 9,.int .i64 a,.int .i64 b,.int .i64 c,S s,S t] 29)).drewN nq=w1 at *;have o0:w1.cell? ⟨w.heap.size,0,none⟩=some (.int .i64 9):=zE hop1 rfl;have lop1:=zB hop1;go_wp2_with fail;refine (zD8 bw r _ D w1 (zA HD _ hB1) hr rfl hn5).mono ?_;intro e w2 hs;obtain ⟨rfl,hfin⟩:=StepD.fin (D:=D) (D2:=D) (hB1.mono hMb) rfl rfl (by omega) rfl rfl hs;clear hs;go_wp2_with fail;go_ret;exact hfin.more (by omega)
 ·go_enter Tryz.func19,Tryz.ntmps19
  go_wp2_with fail
  go_quiet (first | (go_at_call 29;refine Calls.quiet_of_same (zA HPK _)))
  obtain ⟨hB1,hop1⟩:=zA HREST _ (below_drewN (Below.refl _ _) nq);clear HREST hA hop h4A hg hcell lbA lop h4w;generalize (w.alloc (.cells #[.int .i64 11,.int .i64 a,.int .i64 b,.int .i64 c,S s,S t] 29)).drewN nq=w1 at *;have o0:w1.cell? ⟨w.heap.size,0,none⟩=some (.int .i64 11):=zE hop1 rfl;have lop1:=zB hop1;go_wp2_with fail;refine (zD8 bw r _ D w1 (zA HD _ hB1) hr rfl hn5).mono ?_;intro e w2 hs;obtain ⟨rfl,hb2,D',hD',e1,e2,e3,e4,e5,hGt⟩:=zOL hs hr;clear hs;go_wp2_with fail;refine (zPJ D'.Z bw D.gs[r].told w2 hGt rfl).mono ?_;rintro e w3 ⟨rfl,hb3⟩;have hbw2:=zB hD'.wat;have hD3:=hD'.later hb3;have hB3:Below bw w w3:=((hB1.mono hMb).trans hb2).trans (hb3.mono (Nat.le_of_lt hbw2));have HF3:Hid (StepD bw D (s.length + 1) w (.returned (.bool true)) w3):=zF ⟨rfl,hB3,D',hD3,by rw [e1];omega,by rw [e2];omega,by omega,by omega,by rw [e5];omega⟩;clear e1 e2 e3 e4 e5;go_wp2_with fail;go_ret;exact zA HF3
theorem zOq {q:QS} {l:List UInt8} {x i:Nat} (h:zCM q l=(0,x,i)) (hx:0 < x):zA1 q l=.inl (x,i):=by
 unfold zCM at h
 cases hr:zA1 q l with
 | inl y=>
  obtain ⟨y1,y2⟩:=y;rw [hr] at h;injection h with _ h;injection h with h1 h2;subst h1 h2;rfl
 | inr y=>
  obtain ⟨k,ls⟩:=y;rw [hr] at h;injection h with _ h;injection h with h1 h2;omega
theorem zPV {q:QS} {l:List UInt8} {k:Nat} (h:zCM q l=(k,0,0)) (hk:0 < k):∃ ls,zA1 q l=.inr (k,ls):=by
 unfold zCM at h
 cases hr:zA1 q l with
 | inl y=>
  obtain ⟨y1,y2⟩:=y;rw [hr] at h;injection h with h1 _;omega
 | inr y=>
  obtain ⟨k',ls⟩:=y;rw [hr] at h;injection h with h1 _;subst h1;exact ⟨ls,rfl⟩
theorem zRN:(Tryz.prog.info? 51).map (fun i=>(i.zero,i.size,i.bytes))=some (some (.pointer none),1,8):=by kernel_rfl
def vals0:List Int:=[0,0,0,0,0,0,0,0]
theorem zPP {st:RS} {q0:QS} (hP:Pair st q0) {proof:List UInt8} {kind:Nat} {ss:List Stp} (hr:zA1 (zK q0) proof=.inr (kind,ze ss)) (ht:zFT (zK q0) kind proof ss) (hs:SBs ss) (gb db b1 b2 vb:Nat) (gv:GV) :
  ∃ bs,GPure ⟨gb,db,b1,b2,st,q0,proof,kind,ss,[],bs,zBO (zK q0) kind ss,gv,.slice none 0 0,vb,vals0⟩∧zFw (zK q0) kind 0=(zBO (zK q0) kind ss).turn:=by
 have hk:=zDO hr;obtain ⟨bs,r1,r2,r3⟩:=zLX hP.qg hk ss;refine ⟨bs,⟨hP.same,hP.cl,hP.nice,hr,ht,hs,rfl,fun i hi=>by simp at hi,r1,r2,by simp,rfl,fun v h1 h8=>Or.inl ?_⟩,?_⟩
 ·show vals0.getD (v - 1) 0=0
  have:∀ k:Fin 8,vals0.getD k.val 0=0:=by decide
  exact this ⟨v - 1,by omega⟩
 ·exact zL0 _ kind 0 _ (Nat.zero_le _) r2.le (fun j hj _ h=>r3 j hj h) r2.lose
def GZ (gv:GV) (k:Nat):Prop:=gv.vB.ownBlock=some k∨gv.vR.ownBlock=some k∨∃ j,∃ hj:j < gv.hdrs.length,gv.hdrs[j].ownBlock=some k
theorem zNq {bw b1 b2:Nat} {st:RS} {q0:QS} {D:DW} {w w2 wc w4:World} {kind:Nat} {ss:List Stp} {gv:GV} {db gb vb:Nat} {v':Value} {bs:List Bool} (hD:DInv bw w D) (hF:Firm D.Z (fun w=>ProgAt (bw + 1) w b1 (zK q0)∧RefAt (bw + 1) w b2 (zW st)) w)
  (hB2:Below w.heap.size w w2) (hGA:GameAt w2 db 79 (blW (zK q0) kind) (zAQ kind ss) (zBO (zK q0) kind ss) gv) (hdb:w.heap.size≤db) (hfr:zI1 w.heap.size gv) (hb3:Below w2.heap.size w2 wc) (hgb:w2.heap.size≤gb) (hvb:w2.heap.size≤vb)
  (hgB:wc.heap[gb]?=some (.cells #[.pointer (some ⟨db,0,none⟩),.pointer (some ⟨b1,0,none⟩),.pointer (some ⟨b2,0,none⟩),S D.proof,.int .i64 (kind:Int),.slice none 0 0,.int .i64 0,.slice (some ⟨vb,0,none⟩) 8 8] 87 (0,0)))
  (hvB:wc.heap[vb]?=some (.cells #[.int .i64 0,.int .i64 0,.int .i64 0,.int .i64 0,.int .i64 0,.int .i64 0,.int .i64 0,.int .i64 0] 3 (0,0)))
  (hown4:w4.ownsRow (bw + 1) 51 1 v' (D.gs.length + 1) (D.gs.map zIi ++ [.pointer (some ⟨gb,0,none⟩)])) (hgrow:wc.grownBy w4 D.v4.ownBlock) (hat:v'.ownBlock=D.v4.ownBlock∨∃ k,v'.ownBlock=some k∧wc.heap.size≤k)
  (hpure:GPure ⟨gb,db,b1,b2,st,q0,D.proof,kind,ss,[],bs,zBO (zK q0) kind ss,gv,.slice none 0 0,vb,vals0⟩) :
  (w4.setCell ⟨bw,4,none⟩ v').heap[gb]?=some (.cells #[.pointer (some ⟨db,0,none⟩),.pointer (some ⟨b1,0,none⟩),.pointer (some ⟨b2,0,none⟩),S D.proof,.int .i64 (kind:Int),.slice none 0 0,.int .i64 0,.slice (some ⟨vb,0,none⟩) 8 8] 87 (0,0))∧RefAt 0 (w4.setCell ⟨bw,4,none⟩ v') b2 (zW st)∧
  ∀ w7,Below (w4.setCell ⟨bw,4,none⟩ v').heap.size (w4.setCell ⟨bw,4,none⟩ v') w7→
   DInv bw (w7.setCell ⟨gb,6,none⟩ (.int .i64 ((zBO (zK q0) kind ss).turn:Int))) { D with v4:=v',gs:=D.gs ++ [⟨gb,db,b1,b2,st,q0,D.proof,kind,ss,[],bs,zBO (zK q0) kind ss,gv,.slice none 0 0,vb,vals0⟩],Z:=fun k=>D.Z k∨GZ gv k }∧Below bw w (w7.setCell ⟨gb,6,none⟩ (.int .i64 ((zBO (zK q0) kind ss).turn:Int))):=by
 have hw:=hD.wat;unfold WAt at hw;have hbw:=zB hw;have s2:=hB2.size;have s3:=hb3.size;have hBc:Below w.heap.size w wc:=hB2.trans (hb3.mono hB2.size);have hwc:=(hBc.block _ hbw).trans hw;have h4lt:∀ k,D.v4.ownBlock=some k→bw < k∧k < w.heap.size:=fun k hk=>by have:=hD.o4.lt k hk;omega
 have h4ty:∀ k,D.v4.ownBlock=some k→∃ c,wc.heap[k]?=some (.cells c 51 (0,0)):=fun k hk=>by
  obtain ⟨c,hc⟩:=zr hD.o4 k hk;exact ⟨c,(hBc.block k (zB hc)).trans hc⟩
 have hdbc:=(hb3.block _ (zB hGA.fb)).trans hGA.fb;have hne4:∀ k c t,wc.heap[k]?=some (.cells c t (0,0))→t≠51→D.v4.ownBlock≠some k:=fun k c t hk ht e=>by
  obtain ⟨c',hc'⟩:=h4ty k e;exact ht (zc hk hc')
 have keep5:∀ k c t,wc.heap[k]?=some (.cells c t (0,0))→t≠51→k≠bw→(w4.setCell ⟨bw,4,none⟩ v').heap[k]?=some (.cells c t (0,0)):=fun k c t hk ht hb=>by
  rw [Below.heap_setCell _ _ _ _ hb];exact (hgrow.block k (zB hk) (fun e=>hne4 k c t hk ht e.symm)).trans hk
 have hgb5:=keep5 gb _ _ hgB (by decide) (by omega);have hdb5:=keep5 db _ _ hdbc (by decide) (by omega);have hvb5:=keep5 vb _ _ hvB (by decide) (by omega);have hO5:Only (fun k=>k=bw∨D.v4.ownBlock=some k) w (w4.setCell ⟨bw,4,none⟩ v'):=by
  have hx:Only (fun k=>k=bw∨D.v4.ownBlock=some k) w w4:=(Only.of_below hBc).grown hgrow (fun k hk=>Or.inl (Or.inr hk));exact hx.setCell (p:=⟨bw,4,none⟩) (Or.inl (Or.inl rfl)) v'
 have hgs:=hgrow.size;have hs45:(w4.setCell ⟨bw,4,none⟩ v').heap.size=w4.heap.size:=(by simp [World.setCell]);have hZT:∀ k,D.Z k→¬ (k=bw∨D.v4.ownBlock=some k):=fun k hk h=>by
  rcases h with h | h
  ·have:=(hD.zin k hk).1;omega
  ·exact hD.n4 k h hk
 have s5:=hO5.size;have hF5:=hF.step hO5 hZT;refine ⟨hgb5,hF5.now.2.lo (Nat.zero_le _),fun w7 hb7=>?_⟩;have s7:=hb7.size;generalize hu:(Value.int .i64 ((zBO (zK q0) kind ss).turn:Int))=u;have hO8:Only (fun k=>k=bw∨D.v4.ownBlock=some k) w (w7.setCell ⟨gb,6,none⟩ u):=(hO5.trans (Only.of_below hb7)).setCell (p:=⟨gb,6,none⟩) (Or.inr (by show w.heap.size≤gb;omega)) u;have keep8:∀ k o,k≠gb→(w4.setCell ⟨bw,4,none⟩ v').heap[k]?=some o→(w7.setCell ⟨gb,6,none⟩ u).heap[k]?=some o:=fun k o hk ho=>(Below.heap_setCell _ _ _ _ hk).trans (zH hb7 ho)
 have hdg:db≠gb:=fun e=>by rw [e] at hdb5;exact absurd (zc hdb5 hgb5) (by decide)
 have hvg:vb≠gb:=fun e=>by rw [e] at hvb5;exact absurd (zc hvb5 hgb5) (by decide)
 have hbg:bw≠gb:=(by omega);have hgb8:(w7.setCell ⟨gb,6,none⟩ u).heap[gb]?=some (.cells #[.pointer (some ⟨db,0,none⟩),.pointer (some ⟨b1,0,none⟩),.pointer (some ⟨b2,0,none⟩),S D.proof,.int .i64 (kind:Int),.slice none 0 0,u,.slice (some ⟨vb,0,none⟩) 8 8] 87 (0,0)):=zI (zH hb7 hgb5) 6 u;have hdb8:=keep8 db _ hdg hdb5;have hvb8:=keep8 vb _ hvg hvb5;have hv'bw:v'.ownBlock≠some bw:=fun e=>by have:=(hown4.lt _ e).1;omega
 have hv'gb:v'.ownBlock≠some gb:=fun e=>by
  obtain ⟨c,hc⟩:=zr (zR hown4 (p:=⟨bw,4,none⟩) hv'bw v') _ e;exact absurd (zc hc hgb5) (by decide)
 have h48:=zR (zO (zR hown4 (p:=⟨bw,4,none⟩) hv'bw v') hb7) (p:=⟨gb,6,none⟩) hv'gb u;have hbw4:D.v4.ownBlock≠some bw:=fun e=>by have:=h4lt _ e;omega
 have hw5:(w4.setCell ⟨bw,4,none⟩ v').heap[bw]?=_:=zI ((hgrow.block bw (zB hwc) (fun e=>hbw4 e.symm)).trans hwc) 4 v';have hw8:=keep8 bw _ hbg hw5;have hrows:=hGA.rows;have hgz2:∀ k,GZ gv k→w.heap.size≤k∧k < w2.heap.size∧∃ c t,w2.heap[k]?=some (.cells c t (0,0))∧(t=111∨t=149∨t=3):=fun k hk=>by
  rcases hk with h | h | ⟨j,hj,h⟩
  ·obtain ⟨c,hc⟩:=zr hrows.oB k h;exact ⟨hfr.1 k h,zB hc,c,_,hc,Or.inl rfl⟩
  ·obtain ⟨c,hc⟩:=zr hrows.oR k h;exact ⟨hfr.2.1 k h,zB hc,c,_,hc,Or.inr (Or.inl rfl)⟩
  ·obtain ⟨c,hc⟩:=zr (hrows.row j (by have:=hrows.len;omega)) k h;exact ⟨hfr.2.2 j hj k h,zB hc,c,_,hc,Or.inr (Or.inr rfl)⟩
 have hgzc:∀ k,GZ gv k→¬ (k=bw∨D.v4.ownBlock=some k):=fun k hk h=>by
  have h1:=hgz2 k hk
  rcases h with h | h
  ·omega
  ·have:=h4lt k h;omega
 have hO28:Only (fun k=>k=bw∨D.v4.ownBlock=some k) w2 (w7.setCell ⟨gb,6,none⟩ u):=by
  have hx:Only (fun k=>k=bw∨D.v4.ownBlock=some k) w2 w4:=(Only.of_below hb3).grown hgrow (fun k hk=>Or.inl (Or.inr hk));exact ((hx.setCell (p:=⟨bw,4,none⟩) (Or.inl (Or.inl rfl)) v').trans (Only.of_below hb7)).setCell (p:=⟨gb,6,none⟩) (Or.inr hgb) u
 have hR8:GRows (w7.setCell ⟨gb,6,none⟩ u) (blW (zK q0) kind) (zAQ kind ss) gv:=by
  have hl:=hrows.len;exact ⟨zY hrows.oB hO28 (fun k hk=>hgzc k (Or.inl hk)),zY hrows.oR hO28 (fun k hk=>hgzc k (Or.inr (Or.inl hk))),hrows.len,fun j hj=>zY (hrows.row j hj) hO28 (fun k hk=>hgzc k (Or.inr (Or.inr ⟨j,by omega,hk⟩)))⟩
 have hR8f:Firm (fun k=>D.Z k∨GZ gv k) (fun w=>GRows w (blW (zK q0) kind) (zAQ kind ss) gv) (w7.setCell ⟨gb,6,none⟩ u):=zPb hR8 (fun k hk=>Or.inr (Or.inl hk)) (fun k hk=>Or.inr (Or.inr (Or.inl hk))) (fun j hj k hk=>Or.inr (Or.inr (Or.inr ⟨j,hj,hk⟩)));have hF8:=(hF.step hO8 hZT).grow (Z':=fun k=>D.Z k∨GZ gv k) (fun k hk=>Or.inl hk);refine ⟨hD.push ⟨gb,db,b1,b2,st,q0,D.proof,kind,ss,[],bs,zBO (zK q0) kind ss,gv,.slice none 0 0,vb,vals0⟩ v' (fun k=>D.Z k∨GZ gv k) _ hO8 (fun k _ h=>h) hw8 h48 (fun k hk=>Or.inl hk) (fun k hk=>?_) (fun k hk h=>?_) ?_ (fun k hk=>?_),hO8.below (Nat.le_of_lt hbw) (fun k hk h=>?_)⟩
 ·rcases hk with h | h
  ·exact Or.inl h
  ·have:=hgz2 k h
   have:(w7.setCell ⟨gb,6,none⟩ u).heap.size=w7.heap.size:=by simp [World.setCell]
   exact Or.inr ⟨by omega,by omega⟩
 ·rcases h with h | h
  ·rcases hat with e | ⟨j,e,hj⟩
   ·rw [e] at hk;exact hD.n4 k hk h
   ·rw [e] at hk;injection hk with hk;subst hk
    have:=(hD.zin _ h).2;omega
  ·have h1:=hgz2 k h
   rcases hat with e | ⟨j,e,hj⟩
   ·rw [e] at hk;have:=h4lt k hk;omega
   ·rw [e] at hk;injection hk with hk;subst hk;omega
 ·refine ⟨?_,hdb8,fun T w' ho hT=>⟨(hF8 T w' ho hT).1.lo (Nat.zero_le _),(hF8 T w' ho hT).2.lo (Nat.zero_le _),hR8f T w' ho hT⟩,World.ownsRow_nil _ _ _ _,hvb8,fun e=>(by cases e),hpure⟩;rw [hgb8,← hu]
 ·have hk':k=gb∨k=db∨k=vb∨(Value.slice none 0 0).ownBlock=some k:=hk;have hnz:∀ k,w.heap.size≤k→¬ GZ gv k→¬ (D.Z k∨GZ gv k):=fun k h1 h2 h=>by
   rcases h with h | h
   ·have:=(hD.zin k h).2;omega
   ·exact h2 h
  rcases hk' with rfl | rfl | rfl | h
  ·exact ⟨by omega,hnz k (by omega) (fun h=>by have:=hgz2 k h;omega)⟩
  ·refine ⟨hdb,hnz k hdb (fun h=>?_)⟩;obtain ⟨_,_,c,t',hc,ht⟩:=hgz2 k h;have e:=zc hc hGA.fb
   rcases ht with h1 | h1 | h1<;>(rw [h1] at e;exact absurd e (by decide))
  ·exact ⟨by omega,hnz k (by omega) (fun h=>by have:=hgz2 k h;omega)⟩
  ·cases h
 ·rcases h with h | h
  ·omega
  ·have:=h4lt k h;omega
theorem zNd (bw b1 b2:Nat) (st:RS) (q0:QS) (D:DW) (ask:Bool) (x i:Nat) (w:World) (hD:DInv bw w D) (hpx:D.px=some ⟨b1,0,none⟩) (hpf:D.pf=some ⟨b2,0,none⟩) (hPr:Pair st q0) (hP:ProgAt (bw + 1) w b1 (zK q0)) (hR:RefAt (bw + 1) w b2 (zW st)) (hpr:zw (zW st) D.proof=.inl (x,i)) :
  Calls Tryz.prog 34 #[.pointer (some ⟨bw,0,none⟩),.bool ask] w fun e w'=>StepD bw D 0 w e w':=by
 have hce:=zIC hPr.fq hPr.fo D.proof;rw [hpr] at hce;have hx:=zHi _ _ _ _ hpr;have HRQ:Hid (zA1 (zK q0) D.proof=.inl (x,i)):=zF (zOq hce hx);have HPR:=zF hpr;have hw:=hD.wat;rw [hpx,hpf] at hw;have hbw:bw < w.heap.size:=zB hw;have k1:w.cell? ⟨bw,1,none⟩=some (.pointer (some ⟨b1,0,none⟩)):=zE hw rfl;have k3:w.cell? ⟨bw,3,none⟩=some (S D.proof):=zE hw rfl;have HD:Hid (∀ w',Below w.heap.size w w'→StepD bw D 0 w (.returned (.bool true)) w'):=zF (fun w' h=>StepD.quiet (h.mono (Nat.le_of_lt hbw)) (hD.later h) rfl rfl (by omega) rfl rfl);clear hce hpr
 go_enter Tryz.func34,Tryz.ntmps34
 go_wp2_with fail
 go_region_with (go_at_call 18;refine (zHR (bw + 1) b1 (zK q0) D.proof _ (hP.later (Below.refl _ w).drew) hPr.qb).mono ?_;rintro e w1 ⟨hb1,hp⟩;rw [zA HRQ] at hp;have hp1:e=.returned (.tuple #[.pointer none,.int .i64 (x:Int),.int .i64 (i:Int)]):=hp;subst hp1;clear hp;have hB1:Below w.heap.size w w1:=(Below.refl _ w).drew.trans hb1)
 all_goals
  have hw1:=hw.later hB1;have j2:w1.cell? ⟨bw,2,none⟩=some (.pointer (some ⟨b2,0,none⟩)):=zE hw1 rfl;have j3:w1.cell? ⟨bw,3,none⟩=some (S D.proof):=zE hw1 rfl;have hbw1:=zB hw1;have hR1:=hR.later hB1;go_wp2_with fail
  go_region_with (go_at_call 57;refine (zB2 (bw + 1) b2 (zW st) D.proof _ (hR1.later (Below.refl _ w1).drew) hPr.fw).mono ?_;rintro e w2 ⟨hb2,hp⟩;rw [zA HPR] at hp;have hp2:e=.returned (.tuple #[.int .i64 0,.int .i64 (x:Int),.int .i64 (i:Int),.int .i64 0]):=hp;subst hp2;clear hp;have hB2:Below w.heap.size w w2:=hB1.trans (((Below.refl _ w1).drew.trans hb2).mono hB1.size))
  all_goals
   have hxb:((x:Int) != 0)=true:=(by rw [bne_iff_ne];omega);have hx1:((x:Int) != (x:Int))=false:=(by simp);have hi1:((i:Int) != (i:Int))=false:=(by simp);go_wp2_with fail;go_ret;exact zA HD w2 hB2
theorem zMg (bw b1 b2:Nat) (st:RS) (q0:QS) (D:DW) (ask:Bool) (truth:Bool) (two kind:Nat) (w:World) (hD:DInv bw w D) (hpx:D.px=some ⟨b1,0,none⟩) (hpf:D.pf=some ⟨b2,0,none⟩) (hPr:Pair st q0) (hF:Firm D.Z (fun w=>ProgAt (bw + 1) w b1 (zK q0)∧RefAt (bw + 1) w b2 (zW st)) w) (hpr:zw (zW st) D.proof=.inr (truth,two)) (hkd:kind=kd truth) (hn5:D.h5s.length≤1073741824) (hn4:D.gs.length≤1073741824) :
  Calls Tryz.prog 34 #[.pointer (some ⟨bw,0,none⟩),.bool ask] w fun e w'=>StepD bw D 0 w e w':=by
 have hce:=zIC hPr.fq hPr.fo D.proof;rw [hpr] at hce;have hk12:kind=1∨kind=2:=(by subst hkd;cases truth<;>simp [kd]);have hce2:zCM (zK q0) D.proof=(kind,0,0):=(by subst hkd;cases truth<;>exact hce);obtain ⟨ls,hrq⟩:=zPV hce2 (by omega);have HPR:Hid (∀ w w' e,zI4 (zW st) D.proof w e w'→Below w.heap.size w w'∧e=.returned (.tuple #[.int .i64 (kind:Int),.int .i64 0,.int .i64 0,.int .i64 (two:Int)])):=zF (fun w w' e h=>by
  obtain ⟨h1,h2⟩:=h;rw [hpr] at h2;subst hkd
  cases truth<;>exact ⟨h1,h2⟩)
 have HRQ:=zF hrq;have hP:=hF.now.1;have hR:=hF.now.2;have hw:=hD.wat;rw [hpx,hpf] at hw;have hbw:bw < w.heap.size:=zB hw;have k1:w.cell? ⟨bw,1,none⟩=some (.pointer (some ⟨b1,0,none⟩)):=zE hw rfl;have k3:w.cell? ⟨bw,3,none⟩=some (S D.proof):=zE hw rfl;obtain ⟨i1,hi1,hz10,hz11,hz12⟩:=info_parts zRN;obtain ⟨a4,c4,h4f⟩:=zN hD.o4;have hmk:∀ w:World,(Instr.makeSlice 25 (.int .i64 8) (.int .i64 8)).run Tryz.prog w=.ok (.slice (some ⟨w.heap.size,0,none⟩) 8 8) (w.alloc (.cells #[.int .i64 0,.int .i64 0,.int .i64 0,.int .i64 0,.int .i64 0,.int .i64 0,.int .i64 0,.int .i64 0] 3)):=fun _=>by kernel_rfl
 clear hce hce2 hpr hrq hkd
 go_enter Tryz.func34,Tryz.ntmps34
 go_wp2_with fail
 go_region_with (go_at_call 18;refine (zHR (bw + 1) b1 (zK q0) D.proof _ (hP.later (Below.refl _ w).drew) hPr.qb).mono ?_;rintro e w1 ⟨hb1,hp⟩;rw [zA HRQ] at hp;obtain ⟨ss,db,gv,hls,htg,hsb,rfl,hGA,hdb,hfr⟩:=hp;have hB1:Below w.heap.size w w1:=(Below.refl _ w).drew.trans hb1)
 all_goals
  have hw1:=hw.later hB1;have j2:w1.cell? ⟨bw,2,none⟩=some (.pointer (some ⟨b2,0,none⟩)):=zE hw1 rfl;have j3:w1.cell? ⟨bw,3,none⟩=some (S D.proof):=zE hw1 rfl;have hbw1:=zB hw1;have hR1:=hR.later hB1;go_wp2_with fail
  go_region_with (go_at_call 57;refine (zB2 (bw + 1) b2 (zW st) D.proof _ (hR1.later (Below.refl _ w1).drew) hPr.fw).mono ?_;intro e w2 hp;obtain ⟨hb2',rfl⟩:=zA HPR _ _ _ hp;clear hp;have hb2:Below w1.heap.size w1 w2:=(Below.refl _ w1).drew.trans hb2')
  all_goals
   have hB2:Below w.heap.size w w2:=hB1.trans (hb2.mono hB1.size);have hw2:=hw.later hB2;have j1:w2.cell? ⟨bw,1,none⟩=some (.pointer (some ⟨b1,0,none⟩)):=zE hw2 rfl;have m2:w2.cell? ⟨bw,2,none⟩=some (.pointer (some ⟨b2,0,none⟩)):=zE hw2 rfl;have m3:w2.cell? ⟨bw,3,none⟩=some (S D.proof):=zE hw2 rfl;have hbw2:=zB hw2;have hGA2:=hGA.later hb2;clear j2 j3 hw1 hR1;go_wp2_with fail
   go_cut [12] (fun s12 wx=>∃ gb vb,s12=.pointer (some ⟨gb,0,none⟩)∧w2.heap.size≤gb∧w2.heap.size≤vb∧Below w2.heap.size w2 wx∧wx.heap[gb]?=some (.cells #[.pointer (some ⟨db,0,none⟩),.pointer (some ⟨b1,0,none⟩),.pointer (some ⟨b2,0,none⟩),S D.proof,.int .i64 (kind:Int),.slice none 0 0,.int .i64 0,.slice (some ⟨vb,0,none⟩) 8 8] 87 (0,0))∧wx.heap[vb]?=some (.cells #[.int .i64 0,.int .i64 0,.int .i64 0,.int .i64 0,.int .i64 0,.int .i64 0,.int .i64 0,.int .i64 0] 3 (0,0)))
   case first=>
    clear hD hF HPR HRQ hP hR hGA hGA2 hB1 hb1 hb2 hb2' hw htg hsb hfr hls hPr hi1 hz10 hz11 hz12 h4f k1 k3 hw2
    go_region
    all_goals
     go_wp2_with fail
     go_meet
     exact ⟨w2.heap.size + 1,w2.heap.size,rfl,Nat.le_succ _,Nat.le_refl _,((((Below.refl _ _).alloc (Nat.le_refl _) _).alloc (by simp) _)).drew,zP (by simp),(heap_alloc_old _ _ (by simp)).trans (heap_alloc_new _ _)⟩
   case rest=>
   obtain ⟨gb,vb,rfl,hgb,hvb,hb3,hgB,hvB⟩:=hcut;have hB3:Below w.heap.size w wc:=hB2.trans (hb3.mono hB2.size);have hwc:=hw.later hB3;have lbw:=zB hwc;have n4:wc.cell? ⟨bw,4,none⟩=some (.slice a4 D.gs.length c4):=(by rw [zC hwc];exact congrArg some h4f);have ho4:=zO hD.o4 hB3;obtain ⟨bs,hpure,hnx⟩:=zPP hPr (by rw [hls];exact zA HRQ) htg hsb gb db b1 b2 vb gv;have HTL:Hid (∀ w4 v',w4.ownsRow (bw + 1) 51 1 v' (D.gs.length + 1) (D.gs.map zIi ++ [.pointer (some ⟨gb,0,none⟩)])→wc.grownBy w4 (Value.slice a4 D.gs.length c4).ownBlock→(v'.ownBlock=(Value.slice a4 D.gs.length c4).ownBlock∨∃ k,v'.ownBlock=some k∧wc.heap.size≤k)→
    (w4.setCell ⟨bw,4,none⟩ v').heap[gb]?=some (.cells #[.pointer (some ⟨db,0,none⟩),.pointer (some ⟨b1,0,none⟩),.pointer (some ⟨b2,0,none⟩),S D.proof,.int .i64 (kind:Int),.slice none 0 0,.int .i64 0,.slice (some ⟨vb,0,none⟩) 8 8] 87 (0,0))∧RefAt 0 (w4.setCell ⟨bw,4,none⟩ v') b2 (zW st)∧
    ∀ w7,Below (w4.setCell ⟨bw,4,none⟩ v').heap.size (w4.setCell ⟨bw,4,none⟩ v') w7→
     DInv bw (w7.setCell ⟨gb,6,none⟩ (.int .i64 ((zBO (zK q0) kind ss).turn:Int))) { D with v4:=v',gs:=D.gs ++ [⟨gb,db,b1,b2,st,q0,D.proof,kind,ss,[],bs,zBO (zK q0) kind ss,gv,.slice none 0 0,vb,vals0⟩],Z:=fun k=>D.Z k∨GZ gv k }∧Below bw w (w7.setCell ⟨gb,6,none⟩ (.int .i64 ((zBO (zK q0) kind ss).turn:Int)))):=zF (fun w4 v' h1 h2 h3=>zNq hD hF hB2 hGA2 hdb hfr hb3 hgb hvb hgB hvB h1 (by rw [h4f];exact h2) (by rw [h4f];exact h3) hpure)
   have HNX:=zF hnx;have HO4:Hid (wc.ownsRow (bw + 1) 51 1 (.slice a4 D.gs.length c4) D.gs.length (D.gs.map zIi)):=zF (by rw [← h4f];exact ho4);have HWC:=zF hwc;have H4F:=zF h4f;have hbs:bw + 1≤wc.heap.size:=lbw;have h4b:(Value.slice a4 D.gs.length c4).ownBlock≠some bw:=fun e=>by have:=((zA HO4).lt _ e).1;omega
   have H4B:=zF h4b;have hnb:=zDR (zK q0).vars (zCp hPr.nice);have HPRR:=zF hPr;clear hD hF HPR HRQ hP hR hGA hGA2 hB1 hb1 hb2 hb2' hB2 hB3 hw htg hsb hfr hls hPr h4f k1 k3 hw2 hwc ho4 hpure hnx hgB hvB hb3 hgb hvb hdb j1 m2 m3 h4b hmk
   go_wp2_with (at_builtin;refine zp rfl (.tmp 79) (.tmp 81) 44 rfl (bw + 1) i1 (.pointer none) 1 8 Tryz.underlying44 hi1 hz10 hz11 hz12 rfl (by decide) _ _ _ (zA HO4) rfl rfl rfl (by simp [Value.oneCell']) (by unfold maxLen;omega) (by omega) hbs ?_;intro v' w4 hown4 hgrow hat;have hw4:=(hgrow.block bw lbw (fun e=>zA H4B e.symm)).trans (zA HWC);have hq4:w4.cell? ⟨bw,4,none⟩=some (.slice a4 D.gs.length c4):=(by rw [zC hw4];exact congrArg some (zA H4F));have hqz:=zD hw4 4;have lb4:=zB hw4;have HT2:=zF (zA HTL w4 v' hown4 hgrow hat);obtain ⟨a5,c5,rfl⟩:=zN hown4)
   obtain ⟨hgb5,hR5,hfin⟩:=zA HT2;have HFIN:=zF hfin;clear hfin HT2 HTL hown4 hgrow hat hw4 hq4 hqz HO4 HWC H4F H4B;generalize w4.setCell ⟨bw,4,none⟩ (.slice a5 (D.gs.length + 1) c5)=w5 at *;have lg5:=zB hgb5;refine (zLB (k:=0) (zA HPRR) hgb5 rfl rfl hR5 hk12 (Nat.zero_le _)).mono ?_;rintro e w7 ⟨rfl,hb7⟩;have hgb7:=(hb7.block _ lg5).trans hgb5;have c76:w7.cell? ⟨gb,6,none⟩=some (.int .i64 0):=zE hgb7 rfl;have z76:=zD hgb7 6;have lg7:=zB hgb7;rw [zA HNX];obtain ⟨hD8,hB8⟩:=zA HFIN w7 hb7;have HD8:=zF hD8;have HB8:=zF hB8;clear hD8 hB8 HFIN HNX;generalize (zBO (zK q0) kind ss).turn=tn at *
   cases ask with
   | true=>
    go_wp2_with fail;refine (zD8 bw D.gs.length gb _ _ (zA HD8) (by simp) (by simp) hn5).mono ?_;intro e w9 hs;obtain ⟨rfl,hfin⟩:=StepD.fin (D:=D) (D2:={ D with v4:=.slice a5 (D.gs.length + 1) c5,gs:=D.gs ++ [⟨gb,db,b1,b2,st,q0,D.proof,kind,ss,[],bs,zBO (zK q0) kind ss,gv,.slice none 0 0,vb,vals0⟩],Z:=fun k=>D.Z k∨GZ gv k }) (zA HB8) rfl rfl (by simp) rfl rfl hs;clear hs;go_wp2_with fail;go_ret;exact hfin
   | false=>
    go_wp2_with fail;go_ret;exact StepD.quiet (zA HB8) (zA HD8) rfl rfl (by simp) rfl rfl
theorem zPi (bw:Nat) (D:DW) (o:OpV) (w:World) (hD:DInv bw w D) (hk:o.kind=7) (hn4:D.gs.length≤1048576) (hn5:D.h5s.length≤1073741824) :
  Calls Tryz.prog 19 #[.pointer (some ⟨bw,0,none⟩),.agg #[.int .i64 o.kind,.int .i64 o.a,.int .i64 o.b,.int .i64 o.c,S o.s,S o.t]] w fun e w'=>StepD bw D (o.s.length + 1) w e w':=by
 have hbw:=zB hD.wat;obtain ⟨kind,a,b,c,s,t⟩:=o;dsimp only at hk ⊢;subst hk;have h1:w.cell? ⟨bw,1,none⟩=some (.pointer D.px):=zE hD.wat rfl;have hbel:Below w.heap.size w (w.alloc (.cells #[.int .i64 7,.int .i64 a,.int .i64 b,.int .i64 c,S s,S t] 29)):=(Below.refl _ _).alloc (Nat.le_refl _) _;have hDA:=hD.later hbel;have HFIN:Hid (∀ e w2,StepD bw D 0 (w.alloc (.cells #[.int .i64 7,.int .i64 a,.int .i64 b,.int .i64 c,S s,S t] 29)) e w2→e=.returned (.bool true)∧StepD bw D (s.length + 1) w (.returned (.bool true)) w2):=zF (fun e w2 h=>by
  have he:=h.ret;subst he;exact ⟨rfl,(h.after (hbel.mono (Nat.le_of_lt hbw))).more (by omega)⟩)
 rcases hDA.form with ⟨hpx,hpf⟩ | ⟨b1,b2,st,q0,hpx,hpf,hF,hSm,h24,hN,_⟩
 ·rw [hpx] at h1;have HQ:Hid (StepD bw D (s.length + 1) w (.returned (.bool true)) (w.alloc (.cells #[.int .i64 7,.int .i64 a,.int .i64 b,.int .i64 c,S s,S t] 29))):=zF ((StepD.quiet (hbel.mono (Nat.le_of_lt hbw)) hDA rfl rfl (by omega) rfl rfl).more (by omega))
  go_enter Tryz.func19,Tryz.ntmps19
  go_wp2_with fail;go_ret;exact zA HQ
 ·rw [hpx] at h1;have hPr:Pair st q0:=⟨hSm,h24,hN⟩;have HOP:Hid (∀ ask,Calls Tryz.prog 34 #[.pointer (some ⟨bw,0,none⟩),.bool ask] (w.alloc (.cells #[.int .i64 7,.int .i64 a,.int .i64 b,.int .i64 c,S s,S t] 29)) fun e w'=>StepD bw D 0 (w.alloc (.cells #[.int .i64 7,.int .i64 a,.int .i64 b,.int .i64 c,S s,S t] 29)) e w'):=zF (fun ask=>by
   cases hpr:zw (zW st) D.proof with
   | inl xi=>exact zNd bw b1 b2 st q0 D ask xi.1 xi.2 _ hDA hpx hpf hPr hF.now.1 hF.now.2 hpr
   | inr tt=>exact zMg bw b1 b2 st q0 D ask tt.1 tt.2 _ _ hDA hpx hpf hPr hF hpr rfl hn5 (by omega))
  clear hDA hF hSm h24 hN hPr hD hbel
  go_enter Tryz.func19,Tryz.ntmps19
  go_wp2_with fail;refine (zA HOP _).mono ?_;intro e w2 hs;obtain ⟨rfl,hfin⟩:=zA HFIN _ _ hs;clear hs;go_wp2_with fail;go_ret;exact hfin
def zNs (R:World→Prop) (P:Int→Bool):Prop:=∀ (bw:Nat) (D:DW) (o:OpV) (w:World),R w→DInv bw w D→P o.kind=true→o.Ok→D.proof.length≤1048576→D.text.length≤1048576→o.s.length≤1048576→D.gs.length≤1048576→D.h5s.length≤1048576000→D.h6s.length≤1073741823→
 Calls Tryz.prog 19 #[.pointer (some ⟨bw,0,none⟩),.agg #[.int .i64 o.kind,.int .i64 o.a,.int .i64 o.b,.int .i64 o.c,S o.s,S o.t]] w fun e w'=>StepD bw D (o.s.length + 1) w e w'
theorem zMc (w:World):DInv w.heap.size (w.alloc (.cells #[S [],.pointer none,.pointer none,S [],.slice none 0 0,.slice none 0 0,.slice none 0 0] 48)) ⟨[],[],none,none,.slice none 0 0,.slice none 0 0,.slice none 0 0,[],[],[],fun _=>False⟩:=
 ⟨heap_alloc_new _ _,World.ownsRow_nil _ _ _ _,World.ownsRow_nil _ _ _ _,World.ownsRow_nil _ _ _ _,(fun k h=>h.elim),Or.inl ⟨rfl,rfl⟩,(fun _ _ _ _ i hi=>by simp at hi),(fun _ _ _ _ i hi=>by simp at hi),(fun k h=>by cases h),(fun k h=>by cases h),(fun k h=>by cases h),(fun G h=>by simp at h),(fun G h=>by simp at h),(fun i j hi=>by simp at hi)⟩
theorem zSo (R:World→Prop) (P:Int→Bool) (hst:zNs R P) (base:Nat) (ops:List OpV) (v:Value) (w:World) (hown:w.ownsRow base 29 6 v ops.length (zDX ops)) (hall:∀ o∈ops,P o.kind=true∧o.Ok) (hsz:zDP ops ops.length≤524288) (hln:ops.length≤524288) (hR:∀ wx,Below w.heap.size w wx→R wx) :
  Calls Tryz.prog 14 #[v] w fun e w'=>e=.returned (.int .i64 (-1))∧Below w.heap.size w w':=by
 obtain ⟨aS,cS,rfl⟩:=zN hown;have HRX:=zF hR;clear hR;have HALL:=zF hall;clear hall;have HST:=zF hst;clear hst
 go_enter Tryz.func14,Tryz.ntmps14
 go_wp2_with fail
 go_loopg [4] (ops.length) (fun n i wx=>∃ (k:Nat) (D:DW),i=.int .i64 k∧k + n=ops.length∧DInv w.heap.size wx D∧D.text.length≤zDP ops k∧D.proof.length≤262144 + zDP ops k∧Below w.heap.size w wx∧D.gs.length≤k∧D.h5s.length≤8 * k∧D.h6s.length≤k)
 case atStart=>exact ⟨0,_,rfl,by omega,zMc w,by simp,by simp,(Below.refl _ _).alloc (Nat.le_refl _) _,by simp,by simp,by simp⟩
 case round=>
  obtain ⟨k,D,rfl,hk,hD,htl,hpl,hb,hl4,hl5,hl6⟩:=hrel
  by_cases hlt:k < ops.length
  ·obtain ⟨g,cap,hV,hg,hg',_,hcell⟩:=zS hown (by omega);injection hV with hV _ hV2;subst hV hV2;have hc:∀ j (hj:j < 6) u,ops[k].cells[j]?=some u→wr.cell? ⟨g,k * 6 + j,none⟩=some u:=fun j hj u hu=>by
    rw [hb.cell (p:=⟨g,k * 6 + j,none⟩) hg'];exact hcell _ _ (by rw [zMf ops k j hlt hj];exact hu)
   have hc0:wr.cell? ⟨g,k * 6,none⟩=some (.int .i64 ops[k].kind):=hc 0 (by omega) _ rfl;have hc1:wr.cell? ⟨g,k * 6 + 1,none⟩=some (.int .i64 ops[k].a):=hc 1 (by omega) _ rfl;have hc2:wr.cell? ⟨g,k * 6 + 2,none⟩=some (.int .i64 ops[k].b):=hc 2 (by omega) _ rfl;have hc3:wr.cell? ⟨g,k * 6 + 3,none⟩=some (.int .i64 ops[k].c):=hc 3 (by omega) _ rfl;have hc4:wr.cell? ⟨g,k * 6 + 4,none⟩=some (S ops[k].s):=hc 4 (by omega) _ rfl;have hc5:wr.cell? ⟨g,k * 6 + 5,none⟩=some (S ops[k].t):=hc 5 (by omega) _ rfl;obtain ⟨hbase,hok⟩:=zA HALL _ (List.getElem_mem hlt);have hss:=zMM ops k hlt;have hsl:=zPl ops (k + 1) (by omega);have hl1:ops[k].s.length≤1048576:=(by omega);have HSS:=zF hss;have hsk:zDP ops k≤524288:=(by omega);have HB:=zF hbase;have hmx:max D.proof.length 262144≤262144 + zDP ops k:=(by omega);clear hc hcell hss hbase;generalize ops[k]=o at *;go_wp2_with fail;refine (zA HST w.heap.size D o wr (zA HRX wr hb) hD (zA HB) hok (by omega) (by omega) hl1 (by omega) (by omega) (by omega)).mono ?_;intro e w2 hp;obtain ⟨rfl,hbel,D',hD',ht2,hp2,hg2,h52,h62⟩:=hp;have hb2:Below w.heap.size w w2:=hb.trans hbel;go_wp2_with fail;refine (zPf w.heap.size D'.text D'.px D'.pf D'.proof _ D'.v5 D'.v6 D'.h5s D'.h6s (w.heap.size + 1) (w.heap.size + 1) w2 hD'.wat hD'.o5 hD'.o6 hD'.ls.now hD'.lss.now (by omega) (by omega)).mono ?_;rintro e w3 ⟨rfl,hw3⟩;subst hw3;go_wp2_with fail
   go_roundg (gk - 1)
   case measure=>omega
   case rel=>
    have:=zA HSS
    exact ⟨k + 1,D',by go_num,by omega,hD',by omega,by omega,hb2,by omega,by omega,by omega⟩
  ·have hkl:k=ops.length:=(by omega);subst hkl;obtain ⟨wo,rfl⟩:∃ wo,wo=wr:=⟨_,rfl⟩;obtain ⟨n4,hn4⟩:∃ n,D.gs.length=n:=⟨_,rfl⟩;have HN4:=zF hn4;obtain ⟨a4,c4,hf,h4⟩:=hD.v4f;rw [hn4] at h4 hl4;clear hn4;go_wp2_with fail
   go_loopg [6] n4 (fun m i wx=>∃ (j:Nat) (D:DW),i=.int .i64 j∧j + m=n4∧D.gs.length=n4∧DInv w.heap.size wx D∧D.h5s.length≤8 * ops.length + j∧Below w.heap.size w wx)
   case atStart=>exact ⟨0,D,rfl,by omega,zA HN4,hD,by omega,hb⟩
   case round=>
    obtain ⟨j,E,rfl,hj,hEn,hE,hE5,hbe⟩:=hrel;have HEN:=zF hEn;obtain ⟨a5,c5,hf5,h45⟩:=hE.v4f;rw [hEn] at h45;have lbw:=zB hE.wat
    by_cases hjl:j < n4
    ·have hjE:j < E.gs.length:=(by omega);obtain ⟨g,rfl,hg,hcell⟩:=hE.gat hf5 hjE;clear hEn hf5;go_wp2_with fail;refine (zD8 w.heap.size j _ E wr hE hjE rfl (by omega)).mono ?_;intro e w2 hs;obtain ⟨rfl,hb2,D',hD',e1,e2,e3,e4,e5,_⟩:=zOL hs hjE;clear hs;have hB2:=hbe.trans hb2;have HE3:Hid (D'.gs.length=n4):=zF (by rw [e3];exact zA HEN);have h5':D'.h5s.length≤8 * ops.length + (j + 1):=(by omega);clear e1 e2 e3 e4 e5;go_wp2_with fail
     go_roundg (gk - 1)
     case measure=>omega
     case rel=>exact ⟨j + 1,D',by go_num,by omega,zA HE3,hD',h5',hB2⟩
    ·have hje:j=n4:=(by omega);clear hEn hf5;subst hje;go_wp2_with fail;go_ret;exact ⟨rfl,hbe⟩
def zNx (k:Int):Bool:=zGj k || zJj k || k == 7
theorem zJx:zNs (fun _=>True) zNx:=by
 intro bw D o w _ hD hk hok hpl htl hsl hn4 hn5 hn6;unfold zNx at hk;simp only [Bool.or_eq_true] at hk
 rcases hk with (hk | hk) | hk
 ·exact zNP bw D o w hD hk hok hpl htl hsl
 ·by_cases h0:D.gs=[]
  ·exact zLq bw D o w hD hk h0
  ·exact zOU bw D o w hD hk (List.length_pos_iff.2 h0) hok hn4 (by omega)
 ·exact zPi bw D o w hD (by simpa using hk) hn4 (by omega)
end Go.Proofs.YtgipjjhkhfihpaaGreatDoor
