import Derived.Test.YtgipjjhkhfihpaaGreatDoorKM
import Derived.Test.YtgipjjhkhfihpaaGreatDoorKL
import Derived.ArgAppend
import Derived.Deep.RegionLaw
set_option maxRecDepth 100000
set_option maxHeartbeats 6400000
namespace Go.Proofs.YtgipjjhkhfihpaaGreatDoor
open Go.RowKit
structure PAt (w:World) (b o:Nat) (cells:Array Value) (t:TypeId) (p:List Stp) (vS:Value) (kind:Nat):Prop where
 fb:w.heap[b]?=some (.cells cells t (0,0))
 ck:cells[o]?=some (.int .i64 (kind:Int))
 cs:cells[o + 1]?=some vS
 own:w.ownsRow 0 134 6 vS p.length (zAk p)
 ty:134≠t
theorem PAt.later {w w':World} {b o:Nat} {cells:Array Value} {t:TypeId} {p:List Stp} {vS:Value} {kind:Nat} (h:PAt w b o cells t p vS kind) (hb:Below w.heap.size w w'):PAt w' b o cells t p vS kind:=
 ⟨(hb.block _ (zB h.fb)).trans h.fb,h.ck,h.cs,zO h.own hb,h.ty⟩
def PGo (b o:Nat) (cells:Array Value) (t:TypeId) (p':List Stp) (vS:Value) (w w':World):Prop:=
 ∃ v',w'.ownsRow 0 134 6 v' p'.length (zAk p')∧w'.heap[b]?=some (.cells (cells.setIfInBounds (o + 1) v') t (0,0))∧Only (fun k=>k=b∨vS.ownBlock=some k) w w'∧Moved w vS v'
theorem PGo.before {b o:Nat} {cells:Array Value} {t:TypeId} {p':List Stp} {vS:Value} {w0 w w':World} (h:PGo b o cells t p' vS w w') (hb:Below w0.heap.size w0 w):PGo b o cells t p' vS w0 w':=by
 obtain ⟨v',h1,h2,h3,h4⟩:=h;refine ⟨v',h1,h2,(Only.of_below hb).trans h3,?_⟩
 rcases h4 with h4 | ⟨k,h4,h5⟩
 ·exact Or.inl h4
 ·exact Or.inr ⟨k,h4,Nat.le_trans hb.size h5⟩
theorem PGo.later {b o:Nat} {cells:Array Value} {t:TypeId} {p':List Stp} {vS:Value} {w w1 w':World} (h:PGo b o cells t p' vS w w1) (hb:Below w1.heap.size w1 w'):PGo b o cells t p' vS w w':=by
 obtain ⟨v',h1,h2,h3,h4⟩:=h;exact ⟨v',zO h1 hb,zH hb h2,h3.trans (Only.of_below hb),h4⟩
theorem PAt.same {w w':World} {b o:Nat} {cells:Array Value} {t:TypeId} {p:List Stp} {vS:Value} {kind:Nat} (h:PAt w b o cells t p vS kind) (hb:Below w.heap.size w w'):PGo b o cells t p vS w w':=by
 have h':=h.later hb;have e:cells.setIfInBounds (o + 1) vS=cells:=by
  apply Array.ext_getElem?
  intro i;rw [Array.getElem?_setIfInBounds]
  split
  ·next hi=>subst hi;rw [h.cs];simp [(Array.getElem?_eq_some_iff.1 h.cs).1]
  ·rfl
 exact ⟨vS,h'.own,by rw [e];exact h'.fb,Only.of_below hb,Or.inl rfl⟩
theorem PAt.add {w w':World} {b o:Nat} {cells:Array Value} {t:TypeId} {p:List Stp} {vS:Value} {s:Stp} {e:Ending} (h:zKg 0 b o p vS s cells t w e w'):e=.returned (.int .i64 ((p.length:Int) + 1))∧PGo b o cells t (p ++ [s]) vS w w':=by
 obtain ⟨v',h0,h1,h2,h3,h4⟩:=h;exact ⟨h0,v',by simpa using h1,h2,h3,h4⟩
theorem zLc (b o:Nat) (cells:Array Value) (t:TypeId) (q:QS) (vV vC:Value) (p:List Stp) (vS:Value) (kind n:Nat) (w:World) (hP:PAt w b o cells t p vS kind) (hoV:w.ownsRow 0 139 2 vV q.vars.length (zd q.vars)) (hCf:∃ aC nC cC,vC=.slice aC nC cC) (hQ:QB q) (hl:p.length≤100000) (hlt:∀ s∈p,s.lits.1 < 512∧s.lits.2 < 512) (_hn:n≤1048576) :
  Calls Tryz.prog 133 #[.pointer (some ⟨b,o,none⟩),.agg #[vV,vC],.int .i64 (n:Int)] w fun e w'=>e=.returned (.int .i64 ((zBz q kind p n).2:Nat))∧PGo b o cells t (zBz q kind p n).1 vS w w':=by
 obtain ⟨aV,cV,rfl⟩:=zN hoV;obtain ⟨aC,nC,cC,rfl⟩:=hCf;have hbw:=zB hP.fb;have hla:=zAX p hlt n;have hlr:=zH3 kind q.vars.reverse _ hla
 go_enter Tryz.func133,Tryz.ntmps133
 go_wp2_with fail;generalize hw0:(w.alloc (.cells #[.slice aV q.vars.length cV,.slice aC nC cC] 60))=u1;have hB:Below w.heap.size w u1:=(by rw [← hw0];exact (Below.refl _ _).alloc (Nat.le_refl _) _);have hfo:u1.heap[w.heap.size]?=some (.cells #[.slice aV q.vars.length cV,.slice aC nC cC] 60 (0,0)):=(by rw [← hw0];exact zP (by simp));clear hw0;obtain ⟨cfo0,cfo1⟩:=zJ hfo;have lfo:=zB hfo;have hP1:=hP.later hB;refine (zBW 0 b o p vS n _ (by rw [zC hP1.fb];exact hP1.cs) hP1.own (by omega)).mono ?_;rintro e u2 ⟨rfl,b2⟩;replace hB:=hB.trans (b2.mono hB.size);replace hfo:=zH b2 hfo;clear cfo0 cfo1;obtain ⟨cfo0,cfo1⟩:=zJ hfo;replace lfo:=zB hfo;replace hP1:=hP1.later b2;have HR:Hid (zBz q kind p n=if zAR kind q.vars.reverse (zM p n)=zM p n then (p,n) else (p ++ [⟨4,n,0,0,zAR kind q.vars.reverse (zM p n)⟩],p.length + 1)):=zF rfl;generalize hea:zM p n=c at *;have HEA:=zF hea;clear hea HR;obtain ⟨a1,a2⟩:=c;dsimp only at hla hlr;go_wp2_with fail;generalize hw0:u2.alloc (.cells #[.int .i64 (a1:Int),.int .i64 (a2:Int)] 74)=u3;have b3:Below u2.heap.size u2 u3:=(by rw [← hw0];exact (Below.refl _ _).alloc (Nat.le_refl _) _);have hwh:u3.heap[u2.heap.size]?=some (.cells #[.int .i64 (a1:Int),.int .i64 (a2:Int)] 74 (0,0)):=(by rw [← hw0];exact heap_alloc_new _ _);clear hw0;replace hB:=hB.trans (b3.mono hB.size);replace hfo:=zH b3 hfo;clear cfo0 cfo1;obtain ⟨cfo0,cfo1⟩:=zJ hfo;replace lfo:=zB hfo;replace hP1:=hP1.later b3;obtain ⟨cwh0,cwh1⟩:=zJ hwh;have lwh:=zB hwh;refine (zGQ 0 b o q kind _ _ (a1,a2) _ (by rw [zC hP1.fb];exact hP1.ck) (zO hoV hB) hQ hla ⟨aC,nC,cC,rfl⟩).mono ?_;rintro e u4 ⟨rfl,b4⟩;replace hB:=hB.trans (b4.mono hB.size);replace hfo:=zH b4 hfo;clear cfo0 cfo1;obtain ⟨cfo0,cfo1⟩:=zJ hfo;replace lfo:=zB hfo;replace hwh:=zH b4 hwh;clear cwh0 cwh1;obtain ⟨cwh0,cwh1⟩:=zJ hwh;replace lwh:=zB hwh;replace hP1:=hP1.later b4;generalize hea:zAR kind q.vars.reverse (a1,a2)=c at *;have HEB:Hid (zAR kind q.vars.reverse (zM p n)=c):=zF (by rw [zA HEA];exact hea);clear hea;obtain ⟨d1,d2⟩:=c;dsimp only at hlr;have HDN:∀ {x y:Nat},x≠y→((x:Int) == (y:Int))=false:=fun h=>by rw [beq_eq_false_iff_ne];omega
 have hrr:∀ r1 r2:Nat,(r1,r2)≠(a1,a2)→Hid (zAR kind q.vars.reverse (zM p n)=(r1,r2))→Hid (zBz q kind p n=(p ++ [⟨4,n,0,0,(r1,r2)⟩],p.length + 1)):=fun r1 r2 hne he=>zF (by unfold zBz;rw [zA he,zA HEA,if_neg hne])
 by_cases e1:d1=a1
 ·subst e1
  by_cases e2:d2=a2
  ·subst e2;have HF:Hid (zBz q kind p n=(p,n)):=zF (by unfold zBz;rw [zA HEB,zA HEA,if_pos rfl]);clear HDN hrr;go_wp2_with fail;go_ret;refine ⟨?_,?_⟩
   ·rw [zA HF];rfl
   ·rw [zA HF];exact hP.same (hB.alloc hB.size _)
  ·have hne:=HDN e2;have HF:=hrr d1 d2 (fun e=>e2 (by injection e)) HEB;clear HDN hrr e2;go_wp2_with fail;generalize hw0:u4.alloc (.cells #[.int .i64 (d1:Int),.int .i64 (d2:Int)] 74)=u5;have b5:Below u4.heap.size u4 u5:=(by rw [← hw0];exact (Below.refl _ _).alloc (Nat.le_refl _) _);have hre:u5.heap[u4.heap.size]?=some (.cells #[.int .i64 (d1:Int),.int .i64 (d2:Int)] 74 (0,0)):=(by rw [← hw0];exact heap_alloc_new _ _);clear hw0;replace hB:=hB.trans (b5.mono hB.size);replace hfo:=zH b5 hfo;clear cfo0 cfo1;obtain ⟨cfo0,cfo1⟩:=zJ hfo;replace lfo:=zB hfo;replace hwh:=zH b5 hwh;clear cwh0 cwh1;obtain ⟨cwh0,cwh1⟩:=zJ hwh;replace lwh:=zB hwh;replace hP1:=hP1.later b5;obtain ⟨cre0,cre1⟩:=zJ hre;have lre:=zB hre;refine (zCZ 0 b o p vS ⟨4,n,0,0,(d1,d2)⟩ cells t _ hP1.fb hP1.cs hP1.ty hP1.own (by omega) (Nat.zero_le _)).mono ?_;intro e uz hadd;obtain ⟨rfl,hgo⟩:=PAt.add hadd;have hgo2:=hgo.before hB;clear hadd hgo;go_wp2_with fail;go_ret;refine ⟨?_,?_⟩
   ·rw [zA HF];exact zA7 (by simp)
   ·rw [zA HF];exact hgo2
 ·have hne:=HDN e1;have HF:=hrr d1 d2 (fun e=>e1 (by injection e)) HEB;clear HDN hrr e1;go_wp2_with fail;generalize hw0:u4.alloc (.cells #[.int .i64 (d1:Int),.int .i64 (d2:Int)] 74)=u5;have b5:Below u4.heap.size u4 u5:=(by rw [← hw0];exact (Below.refl _ _).alloc (Nat.le_refl _) _);have hre:u5.heap[u4.heap.size]?=some (.cells #[.int .i64 (d1:Int),.int .i64 (d2:Int)] 74 (0,0)):=(by rw [← hw0];exact heap_alloc_new _ _);clear hw0;replace hB:=hB.trans (b5.mono hB.size);replace hfo:=zH b5 hfo;clear cfo0 cfo1;obtain ⟨cfo0,cfo1⟩:=zJ hfo;replace lfo:=zB hfo;replace hwh:=zH b5 hwh;clear cwh0 cwh1;obtain ⟨cwh0,cwh1⟩:=zJ hwh;replace lwh:=zB hwh;replace hP1:=hP1.later b5;obtain ⟨cre0,cre1⟩:=zJ hre;have lre:=zB hre;refine (zCZ 0 b o p vS ⟨4,n,0,0,(d1,d2)⟩ cells t _ hP1.fb hP1.cs hP1.ty hP1.own (by omega) (Nat.zero_le _)).mono ?_;intro e uz hadd;obtain ⟨rfl,hgo⟩:=PAt.add hadd;have hgo2:=hgo.before hB;clear hadd hgo;go_wp2_with fail;go_ret;refine ⟨?_,?_⟩
  ·rw [zA HF];exact zA7 (by simp)
  ·rw [zA HF];exact hgo2
theorem zGV (b o:Nat) (cells:Array Value) (t:TypeId) (p:List Stp) (vS:Value) (kind i j v:Nat) (w:World) (hP:PAt w b o cells t p vS kind) (hl:p.length≤100000) (hlt:∀ s∈p,s.lits.1 < 512∧s.lits.2 < 512) (hv:v≤1048576) :
  Calls Tryz.prog 113 #[.pointer (some ⟨b,o,none⟩),.int .i64 (i:Int),.int .i64 (j:Int),.int .i64 (v:Int)] w fun e w'=>e=.returned (.int .i64 ((zCC p i j v).2:Nat))∧PGo b o cells t (zCC p i j v).1 vS w w':=by
 have hbw:=zB hP.fb;have hla:=zAX p hlt i
 go_enter Tryz.func113,Tryz.ntmps113
 go_wp2_with fail;refine (zBW 0 b o p vS i _ (by rw [zC hP.fb];exact hP.cs) hP.own (by omega)).mono ?_;rintro e u1 ⟨rfl,b1⟩;have hB:Below w.heap.size w u1:=b1;have hP1:=hP.later hB;have HR:Hid (zCC p i j v=if zj (zM p i) v then (p ++ [⟨3,i,j,v,zi (zM p i) (zM p j) v⟩],p.length + 1) else (p ++ [⟨3,j,i,v,zi (zM p j) (zM p i) v⟩],p.length + 1)):=zF rfl;generalize hea:zM p i=c at *;have HEA:=zF hea;clear hea;obtain ⟨a1,a2⟩:=c;dsimp only at hla;go_wp2_with fail;generalize hw0:u1.alloc (.cells #[.int .i64 (a1:Int),.int .i64 (a2:Int)] 74)=u2;have b2:Below u1.heap.size u1 u2:=(by rw [← hw0];exact (Below.refl _ _).alloc (Nat.le_refl _) _);have how:u2.heap[u1.heap.size]?=some (.cells #[.int .i64 (a1:Int),.int .i64 (a2:Int)] 74 (0,0)):=(by rw [← hw0];exact heap_alloc_new _ _);clear hw0;replace hB:=hB.trans (b2.mono hB.size);replace hP1:=hP1.later b2;obtain ⟨cow0,cow1⟩:=zJ how;have low:=zB how;refine (zCw a1 a2 v _ hla.1 hla.2 (by omega) (by omega)).mono ?_;rintro e u3 ⟨rfl,b3⟩;replace hB:=hB.trans (b3.mono hB.size);replace how:=zH b3 how;clear cow0 cow1;obtain ⟨cow0,cow1⟩:=zJ how;replace low:=zB how;replace hP1:=hP1.later b3
 cases hh:zj (a1,a2) (v:Int) with
 | true=>
  have HF:Hid (zCC p i j v=(p ++ [⟨3,i,j,v,zi (zM p i) (zM p j) v⟩],p.length + 1)):=zF (by rw [zA HR,hh];rw [← zA HEA];rfl);clear hh;go_wp2_with fail;have hsl0:=hB.size;generalize hw0:u3.alloc (.cells #[.int .i64 3,.int .i64 (i:Int),.int .i64 (j:Int),.int .i64 (v:Int),.int .i64 0,.int .i64 0] 134)=u4;have b4:Below u3.heap.size u3 u4:=(by rw [← hw0];exact (Below.refl _ _).alloc (Nat.le_refl _) _);have hst:u4.heap[u3.heap.size]?=some (.cells #[.int .i64 3,.int .i64 (i:Int),.int .i64 (j:Int),.int .i64 (v:Int),.int .i64 0,.int .i64 0] 134 (0,0)):=(by rw [← hw0];exact heap_alloc_new _ _);clear hw0;replace hB:=hB.trans (b4.mono hB.size);replace how:=zH b4 how;clear cow0 cow1;obtain ⟨cow0,cow1⟩:=zJ how;replace low:=zB how;replace hP1:=hP1.later b4;obtain ⟨cst0,cst1,cst2,cst3,cst4,cst5⟩:=zAH hst;have lst:=zB hst;refine (zER 0 b o p vS ⟨3,i,j,v,(0,0)⟩ _ (by rw [zC hP1.fb];exact hP1.cs) hP1.own (by omega) hlt).mono ?_;rintro e u5 ⟨rfl,b5⟩;replace hB:=hB.trans (b5.mono hB.size);replace how:=zH b5 how;clear cow0 cow1;obtain ⟨cow0,cow1⟩:=zJ how;replace low:=zB how;replace hst:=zH b5 hst;clear cst0 cst1 cst2 cst3 cst4 cst5;obtain ⟨cst0,cst1,cst2,cst3,cst4,cst5⟩:=zAH hst;replace lst:=zB hst;replace hP1:=hP1.later b5;dsimp only;generalize hea:zi (zM p i) (zM p j) v=c at *;obtain ⟨d1,d2⟩:=c;clear hea;have hsl:w.heap.size≤u3.heap.size:=(by have h1:=hsl0;omega);have z4:=zD hst 4;have z5:=zD hst 5;have hx1:(u5.setCell ⟨u3.heap.size,4,none⟩ (.int .i64 (d1:Int))).heap[u3.heap.size]?=some (.cells #[.int .i64 3,.int .i64 (i:Int),.int .i64 (j:Int),.int .i64 (v:Int),.int .i64 (d1:Int),.int .i64 0] 134 (0,0)):=zI hst 4 _;have hx2:((u5.setCell ⟨u3.heap.size,4,none⟩ (.int .i64 (d1:Int))).setCell ⟨u3.heap.size,5,none⟩ (.int .i64 (d2:Int))).heap[u3.heap.size]?=some (.cells #[.int .i64 3,.int .i64 (i:Int),.int .i64 (j:Int),.int .i64 (v:Int),.int .i64 (d1:Int),.int .i64 (d2:Int)] 134 (0,0)):=zI hx1 5 _;generalize hwz:((u5.setCell ⟨u3.heap.size,4,none⟩ (.int .i64 (d1:Int))).setCell ⟨u3.heap.size,5,none⟩ (.int .i64 (d2:Int)))=wz at *;have hBz:Below w.heap.size w wz:=by
   rw [← hwz];exact (hB.setCell (p:=⟨u3.heap.size,4,none⟩) hsl _).setCell (p:=⟨u3.heap.size,5,none⟩) hsl _
  have hPz:=hP.later hBz;obtain ⟨q0,q1,q2,q3,q4,q5⟩:=zAH hx2;have lz:=zB hx2;have hbz:=zB hPz.fb;clear hx1;go_wp2_with fail;refine (zCZ 0 b o p vS ⟨3,i,j,v,(d1,d2)⟩ cells t _ hPz.fb hPz.cs hPz.ty hPz.own (by omega) (Nat.zero_le _)).mono ?_;intro e uz hadd;obtain ⟨rfl,hgo⟩:=PAt.add hadd;have hgo2:=hgo.before hBz;clear hadd hgo;go_wp2_with fail;go_ret;refine ⟨?_,?_⟩
  ·rw [zA HF];exact zA7 (by simp)
  ·rw [zA HF];exact hgo2
 | false=>
  have HF:Hid (zCC p i j v=(p ++ [⟨3,j,i,v,zi (zM p j) (zM p i) v⟩],p.length + 1)):=zF (by rw [zA HR,hh];rw [← zA HEA];rfl);clear hh;go_wp2_with fail;have hsl0:=hB.size;generalize hw0:u3.alloc (.cells #[.int .i64 3,.int .i64 (j:Int),.int .i64 (i:Int),.int .i64 (v:Int),.int .i64 0,.int .i64 0] 134)=u4;have b4:Below u3.heap.size u3 u4:=(by rw [← hw0];exact (Below.refl _ _).alloc (Nat.le_refl _) _);have hst:u4.heap[u3.heap.size]?=some (.cells #[.int .i64 3,.int .i64 (j:Int),.int .i64 (i:Int),.int .i64 (v:Int),.int .i64 0,.int .i64 0] 134 (0,0)):=(by rw [← hw0];exact heap_alloc_new _ _);clear hw0;replace hB:=hB.trans (b4.mono hB.size);replace how:=zH b4 how;clear cow0 cow1;obtain ⟨cow0,cow1⟩:=zJ how;replace low:=zB how;replace hP1:=hP1.later b4;obtain ⟨cst0,cst1,cst2,cst3,cst4,cst5⟩:=zAH hst;have lst:=zB hst;refine (zER 0 b o p vS ⟨3,j,i,v,(0,0)⟩ _ (by rw [zC hP1.fb];exact hP1.cs) hP1.own (by omega) hlt).mono ?_;rintro e u5 ⟨rfl,b5⟩;replace hB:=hB.trans (b5.mono hB.size);replace how:=zH b5 how;clear cow0 cow1;obtain ⟨cow0,cow1⟩:=zJ how;replace low:=zB how;replace hst:=zH b5 hst;clear cst0 cst1 cst2 cst3 cst4 cst5;obtain ⟨cst0,cst1,cst2,cst3,cst4,cst5⟩:=zAH hst;replace lst:=zB hst;replace hP1:=hP1.later b5;dsimp only;generalize hea:zi (zM p j) (zM p i) v=c at *;obtain ⟨d1,d2⟩:=c;clear hea;have hsl:w.heap.size≤u3.heap.size:=(by have h1:=hsl0;omega);have z4:=zD hst 4;have z5:=zD hst 5;have hx1:(u5.setCell ⟨u3.heap.size,4,none⟩ (.int .i64 (d1:Int))).heap[u3.heap.size]?=some (.cells #[.int .i64 3,.int .i64 (j:Int),.int .i64 (i:Int),.int .i64 (v:Int),.int .i64 (d1:Int),.int .i64 0] 134 (0,0)):=zI hst 4 _;have hx2:((u5.setCell ⟨u3.heap.size,4,none⟩ (.int .i64 (d1:Int))).setCell ⟨u3.heap.size,5,none⟩ (.int .i64 (d2:Int))).heap[u3.heap.size]?=some (.cells #[.int .i64 3,.int .i64 (j:Int),.int .i64 (i:Int),.int .i64 (v:Int),.int .i64 (d1:Int),.int .i64 (d2:Int)] 134 (0,0)):=zI hx1 5 _;generalize hwz:((u5.setCell ⟨u3.heap.size,4,none⟩ (.int .i64 (d1:Int))).setCell ⟨u3.heap.size,5,none⟩ (.int .i64 (d2:Int)))=wz at *;have hBz:Below w.heap.size w wz:=by
   rw [← hwz];exact (hB.setCell (p:=⟨u3.heap.size,4,none⟩) hsl _).setCell (p:=⟨u3.heap.size,5,none⟩) hsl _
  have hPz:=hP.later hBz;obtain ⟨q0,q1,q2,q3,q4,q5⟩:=zAH hx2;have lz:=zB hx2;have hbz:=zB hPz.fb;clear hx1;go_wp2_with fail;refine (zCZ 0 b o p vS ⟨3,j,i,v,(d1,d2)⟩ cells t _ hPz.fb hPz.cs hPz.ty hPz.own (by omega) (Nat.zero_le _)).mono ?_;intro e uz hadd;obtain ⟨rfl,hgo⟩:=PAt.add hadd;have hgo2:=hgo.before hBz;clear hadd hgo;go_wp2_with fail;go_ret;refine ⟨?_,?_⟩
  ·rw [zA HF];exact zA7 (by simp)
  ·rw [zA HF];exact hgo2
theorem SAt.pat {w:World} {b:Nat} {C:SC} {S:SS} {V:SV} (h:SAt w b C S V) {kind:Nat} (hk:kind=1∨kind=2):PAt w b (zI8 kind) (zCc C S V) 126 (S.proof kind) (if kind=2 then V.a else V.r) kind:=by
 rcases hk with rfl | rfl
 ·exact ⟨h.fb,rfl,rfl,h.oR,by decide⟩
 ·exact ⟨h.fb,rfl,rfl,h.oA,by decide⟩
theorem SAt.put {w w':World} {b:Nat} {C:SC} {S:SS} {V:SV} (h:SAt w b C S V) {kind:Nat} (hk:kind=1∨kind=2) {p:List Stp} (hg:PGo b (zI8 kind) (zCc C S V) 126 p (if kind=2 then V.a else V.r) w w'):SPost b C (S.put kind p) V w w':=by
 obtain ⟨v',h1,h2,h3,h4⟩:=hg;have hS:∀ k,(if kind=2 then V.a else V.r).ownBlock=some k→∃ c,w.heap[k]?=some (.cells c 134 (0,0)):=by
  rcases hk with rfl | rfl
  ·exact zr h.oR
  ·exact zr h.oA
 have hne:∀ {e:TypeId} {k:Nat},e≠126→e≠134→(∃ c,w.heap[k]?=some (.cells c e (0,0)))→¬ (k=b∨(if kind=2 then V.a else V.r).ownBlock=some k):=by
  rintro e k h5 h6 ⟨c,hc⟩ (e2 | e2)
  ·subst e2;exact h5 (zc hc h.fb)
  ·obtain ⟨c',hc'⟩:=hS k e2;exact h6 (zc hc hc')
 have honly:Only (TS b V) w w':=h3.mono (fun k _ hh=>by
  rcases hh with hh | hh
  ·exact Or.inl hh
  ·rcases hk with rfl | rfl
   ·exact Or.inr (Or.inl hh)
   ·exact Or.inr (Or.inr (Or.inl hh)))
 have oV:=zY h.oV h3 (fun k hk2=>hne (by decide) (by decide) (zr h.oV k hk2));have oC:=zY h.oC h3 (fun k hk2=>hne (by decide) (by decide) (zr h.oC k hk2));have oK:=h.oK.keep h3 (fun k hk2=>hne (by decide) (by decide) (h.oK.blk k hk2))
 rcases hk with rfl | rfl
 ·have oA:=zY h.oA h3 (fun k hk2 hh=>by
   rcases hh with e | e
   ·subst e;exact zT h.oA h.fb (by decide) hk2
   ·exact h.ap k e hk2)
  refine ⟨{ V with r:=v' },⟨h2,oV,oC,h1,oA,oK,fun k hk1 hk2=>?_⟩,honly,rfl,rfl,h4,Or.inl rfl,Or.inl rfl⟩;have hlt:=(h.oA.lt k hk2).2;exact h4.ne hlt (fun e=>h.ap k e hk2) hk1
 ·have oR:=zY h.oR h3 (fun k hk2 hh=>by
   rcases hh with e | e
   ·subst e;exact zT h.oR h.fb (by decide) hk2
   ·exact h.ap k hk2 e)
  refine ⟨{ V with a:=v' },⟨h2,oV,oC,oR,h1,oK,fun k hk1 hk2=>?_⟩,honly,rfl,rfl,Or.inl rfl,h4,Or.inl rfl⟩;have hlt:=(h.oR.lt k hk1).2;exact h4.ne hlt (fun e=>h.ap k hk1 e) hk2
theorem SPost.before {b:Nat} {C:SC} {S':SS} {V V1:SV} {w w1 w':World} (h:SPost b C S' V1 w1 w') (hm:SMoved b w w1 V V1):SPost b C S' V w w':=by
 obtain ⟨V',h1,h2⟩:=h;exact ⟨V',h1,hm.trans h2⟩
theorem zFI (b:Nat) (C:SC) (S:SS) (V:SV) (f:Nat × Nat) (w:World) (hS:SAt w b C S V) (hB:SBd C S) (hk:f.1=1∨f.1=2) (hf:f.2≤1048576) :
  Calls Tryz.prog 114 #[.pointer (some ⟨b,0,none⟩),zAv f] w fun e w'=>e=.returned (zAv (S.reduce C.q f).2)∧SPost b C (S.reduce C.q f).1 V w w':=by
 obtain ⟨fk,fs⟩:=f;obtain ⟨aV,cV,hVf⟩:=zN hS.oV;obtain ⟨aC,cC,hCf⟩:=zN hS.oC;have HR:Hid (S.reduce C.q (fk,fs)=(S.put fk (zBz C.q fk (S.proof fk) fs).1,(fk,(zBz C.q fk (S.proof fk) fs).2))):=zF rfl
 go_enter Tryz.func114,Tryz.ntmps114
 go_wp2_with fail;generalize hw0:((w.alloc (.cells #[.int .i64 (fk:Int),.int .i64 (fs:Int)] 129)).alloc (.cells #[.int .i64 0,.int .i64 0] 129))=u1;have hb0:Below w.heap.size w u1:=(by rw [← hw0];exact ((Below.refl _ _).alloc (Nat.le_refl _) _).alloc (by simp;try omega) _);have hfa:u1.heap[w.heap.size]?=some (.cells #[.int .i64 (fk:Int),.int .i64 (fs:Int)] 129 (0,0)):=(by rw [← hw0,heap_alloc_old _ _ (by simp;try omega)];exact zP (by simp));have nfa:Far b V (w.heap.size):=hS.fresh (by omega);have hrs:u1.heap[w.heap.size + 1]?=some (.cells #[.int .i64 0,.int .i64 0] 129 (0,0)):=(by rw [← hw0];exact zP (by simp));have nrs:Far b V (w.heap.size + 1):=hS.fresh (by omega);clear hw0;have hM:SMoved b w u1 V V:=SMoved.of_below hb0;replace hS:=hS.later hb0;have lb:=zB hS.fb;obtain ⟨cfa0,cfa1⟩:=zJ hfa;have lfa:=zB hfa;obtain ⟨crs0,crs1⟩:=zJ hrs;have lrs:=zB hrs;refine (zF3 b fk _ lb).mono ?_;rintro e w2 ⟨rfl,hw2⟩;subst hw2;have q0:w2.cell? ⟨b,0,none⟩=some (.slice aV C.q.vars.length cV):=(by rw [zC hS.fb];exact congrArg some hVf);have q1:w2.cell? ⟨b,1,none⟩=some (.slice aC C.q.cl.length cC):=(by rw [zC hS.fb];exact congrArg some hCf);have hoV:w2.ownsRow 0 139 2 (.slice aV C.q.vars.length cV) C.q.vars.length (zd C.q.vars):=(by rw [← hVf];exact hS.oV);go_wp2_with fail;have hb9:Below w2.heap.size w2 w2.drew:=(Below.refl _ w2).drew
 go_region_with (go_at_call 133;refine (zLc b (zI8 fk) _ _ C.q _ (.slice aC C.q.cl.length cC) _ _ fk fs _ ((hS.later hb9).pat hk) (zO hoV hb9) ⟨_,_,_,rfl⟩ hB.qb (hB.proof fk).1 (hB.proof fk).2 hf).mono ?_;rintro e w3 ⟨rfl,hgo⟩;obtain ⟨V2,hS2,hM1⟩:=(hS.later hb9).put hk hgo;have hM2:=(SMoved.of_below hb9).trans hM1;clear hgo;have hrs2:=hM2.blk hrs nrs;have nrs2:=hM2.far lrs nrs;have hM3:=hM.trans hM2;have crs20:w3.cell? ⟨w.heap.size + 1,0,none⟩=some (.int .i64 0):=(by rw [zC hrs2];rfl);have crs21:w3.cell? ⟨w.heap.size + 1,1,none⟩=some (.int .i64 0):=(by rw [zC hrs2];rfl);have hfa2:=hM2.blk hfa nfa;have cfa20:w3.cell? ⟨w.heap.size,0,none⟩=some (.int .i64 (fk:Int)):=(by rw [zC hfa2];rfl);have l3:=zB hrs2;have l4:w.heap.size < w3.heap.size:=(by omega);have z0:=zD hrs2 0;have z1:=zD hrs2 1)
 all_goals
  generalize hrn:(zBz C.q fk (S.proof fk) fs).2=rn at *;have HF:Hid (S.reduce C.q (fk,fs)=(S.put fk (zBz C.q fk (S.proof fk) fs).1,(fk,rn))):=HR;have hR:=zI (zI hrs2 0 (.int .i64 (fk:Int))) 1 (.int .i64 (rn:Int));have j0:=zC hR 0;have j1:=zC hR 1;clear hrn HR;go_wp2_with fail;refine bodyPost_ret (v:=zAv (fk,rn)) (by simp [results,Tryz.results114,go_sem,j0,j1]) rfl ⟨by rw [zA HF],?_⟩;rw [zA HF];exact ⟨V2,(hS2.set nrs2 0 _).set nrs2 1 _,(hM3.set (Nat.le_succ _) 0 _).set (Nat.le_succ _) 1 _⟩
section
variable {P:Program}
theorem zGl {w:World} {base:Nat} {e:TypeId} {size:Nat} {v:Value} {n:Nat} {xs:List Value} (h:w.ownsRow base e size v n xs):RowAt w e size v n xs:=by
 obtain ⟨h1,h2⟩:=h;refine ⟨h1,?_⟩
 rcases h2 with ⟨rfl,rfl⟩ | ⟨g,cap,cur,rfl,_,hg,hc,hm,hs,ht⟩
 ·exact Or.inl ⟨rfl,none,rfl,fun k hk=>by cases hk⟩
 ·refine Or.inr ⟨g,0,cap,cur,rfl,hg,hc,hm,by omega,fun j u hj=>?_⟩;rw [← ht,List.getElem?_take] at hj
  split at hj
  ·simpa using hj
  ·cases hj
theorem zHw (w:World) (t ty e:TypeId) (i:TypeInfo) (z:Value) (bytes:Nat) (ht:P.underlying t=some (.slice e)) (hi:P.info? e=some i) (hz:i.zero=some z) (hsize:i.size=2) (hby:i.bytes=bytes) (hzs:z.cells.size=2)
  (v:Value) (n:Nat) (xs:List Value) (h:RowAt w e 2 v n xs) (a:Addr) (c:Nat) (x y:Value) (hx:w.cell? a=some x) (hy:w.cell? (a.add 1)=some y) (ox:x.oneCell'=true) (oy:y.oneCell'=true) (h63:n + 1≤1048576) (hbytes:bytes≤1024) :
  ∃ v' w',(Builtin.append_ #[t,t] ty #[v,.slice (some a) 1 c]).run P w=.ok v' w'∧RowAt w' e 2 v' (n + 1) (xs ++ [x,y])∧Only (fun k=>v.ownBlock=some k) w w'∧Moved w v v':=by
 have hl:[x,y].length=1 * 2:=rfl;have ha0:a.add 0=a:=(by unfold Addr.add;split<;>simp_all);have hnews:∀ j u,[x,y][j]?=some u→w.cell? (a.add j)=some u:=by
  intro j u hj
  match j,hj with
  | 0,hj=>simp at hj;subst hj;rw [ha0];exact hx
  | 1,hj=>simp at hj;subst hj;exact hy
  | j + 2,hj=>simp at hj
 have hb1:(n + 1) * bytes≤140737488355328:=by
  have:(n + 1) * bytes≤1048576 * 1024:=Nat.mul_le_mul h63 hbytes
  omega
 have hmax:n + 1≤maxLen:=(by unfold maxLen;omega);obtain ⟨hlen,hh⟩:=h;have grow:∀ (b:Addr) (cap:Nat),v=.slice (some b) n cap→cap < n + 1→(∀ j u,xs[j]?=some u→w.cell? (b.add j)=some u)→∃ v' w',(Builtin.append_ #[t,t] ty #[v,.slice (some a) 1 c]).run P w=.ok v' w'∧RowAt w' e 2 v' (n + 1) (xs ++ [x,y])∧Only (fun k=>v.ownBlock=some k) w w'∧Moved w v v':=by
  intro b cap hv hcap holds;subst hv;obtain ⟨v',w',h1,h2,h3⟩:=run_append_arg_grows (P:=P) w t ty e i z 2 bytes ht hi hz hsize hby hzs (by decide) b n cap xs hlen holds a 1 c [x,y] hl hnews hcap hmax hb1;refine ⟨v',w',h1,zGl h2,⟨h3.os,h3.tape,h3.output,h3.size,fun k hk _=>h3.block k hk (by simp)⟩,?_⟩
  rcases h2.2 with ⟨_,h0⟩ | ⟨g,cap',cur,rfl,hg,_⟩
  ·omega
  ·exact Or.inr ⟨g,rfl,hg⟩
 rcases hh with ⟨hn0,a0,hv,hbk⟩ | ⟨g,off,cap,cur,hv,hg,hnc,hcm,hcs,hcells⟩
 ·subst hn0;have hxs:xs=[]:=List.eq_nil_of_length_eq_zero (by simpa using hlen)
  cases a0 with
  | none=>
   subst hv hxs;obtain ⟨v',w',h1,h2,h3,h4⟩:=zFt (P:=P) w w.heap.size t ty e i z 2 bytes ht hi hz hsize hby hzs (by decide) (.slice none 0 0) 0 [] (World.ownsRow_nil _ _ _ _) a 1 c [x,y] hl hnews (by simp [ox,oy]) (by decide) hmax hb1 (Nat.le_refl _);refine ⟨v',w',h1,zGl h2,⟨h3.os,h3.tape,h3.output,h3.size,fun k hk _=>h3.block k hk (fun e=>by cases e)⟩,h4⟩
  | some b=>exact grow b 0 hv (by omega) (fun j u hj=>by rw [hxs] at hj;simp at hj)
 ·by_cases hroom:n + 1≤cap
  ·subst hv;have hsz:off + n * 2 + 1 < cur.size:=(by omega);have hr:=run_append_room_cells (P:=P) w t ty e i ht hi g off n cap a 1 c [x,y] (by rw [hsize];rfl) hnews (by simp [ox,oy]) hroom (by
    intro j hj;rw [hsize,zC hg]
    have:off + n * 2 + j < cur.size:=by simp at hj;omega
    simp [this]) (by intro j hj;exact zD hg _)
   rw [hsize] at hr;have hset:w.setCells g (off + n * 2) [x,y]=(w.setCell ⟨g,off + n * 2,none⟩ x).setCell ⟨g,off + n * 2 + 1,none⟩ y:=rfl;rw [hset] at hr;have hg2:=zI (zI hg (off + n * 2) x) (off + n * 2 + 1) y;refine ⟨_,_,hr,⟨by simp [hlen];omega,Or.inr ⟨g,off,cap,_,rfl,hg2,hroom,hcm,by simpa using hcs,?_⟩⟩,((Only.refl (fun k=>(Value.slice (some ⟨g,off,none⟩) n cap).ownBlock=some k) w).setCell (p:=⟨g,off + n * 2,none⟩) (Or.inl rfl) x).setCell (p:=⟨g,off + n * 2 + 1,none⟩) (Or.inl rfl) y,Or.inl rfl⟩;intro j u hj;rw [Array.getElem?_setIfInBounds,Array.getElem?_setIfInBounds]
   rcases Nat.lt_or_ge j (n * 2) with h1 | h1
   ·rw [List.getElem?_append_left (by omega)] at hj;rw [if_neg (by omega),if_neg (by omega)];exact hcells j u hj
   ·rw [List.getElem?_append_right (by omega),hlen] at hj
    have:j - n * 2=0∨j - n * 2=1:=by
     rcases Nat.lt_or_ge (j - n * 2) 2 with h2 | h2
     ·omega
     ·rw [List.getElem?_eq_none (by simpa using h2)] at hj;cases hj
    rcases this with h2 | h2
    ·rw [h2] at hj;simp at hj;subst hj;have e1:j=n * 2:=(by omega);subst e1;rw [if_neg (by omega),if_pos rfl,if_pos (by omega)]
    ·rw [h2] at hj;simp at hj;subst hj;have e1:j=n * 2 + 1:=(by omega);subst e1;rw [if_pos (by omega),if_pos (by simp;omega)]
  ·exact grow ⟨g,off,none⟩ cap hv (by omega) (fun j u hj=>by
    have hadd:(⟨g,off,none⟩:Addr).add j=⟨g,off + j,none⟩:=(by unfold Addr.add;split<;>simp_all);rw [hadd,zC hg];exact hcells j u hj)
theorem zDQ {ops:Array Oper} {o:Oper} {a:Act} {w:World} {K:Act→World→Prop} {Q:Exit→Act→World→Prop} {E:Prop}
  (hg:o.guard=none) (s x:Operand) (t:TypeId) (hop:o.op=Op.call { callee:=Callee.builtin Builtin.append,args:=#[s,x],argTypes:=#[t,t] })
  (e:TypeId) (i:TypeInfo) (z:Value) (bytes:Nat) (ht:P.underlying t=some (.slice e)) (hi:P.info? e=some i) (hz:i.zero=some z) (hsize:i.size=2) (hby:i.bytes=bytes) (hzs:z.cells.size=2)
  (v:Value) (n:Nat) (xs:List Value) (hrow:RowAt w e 2 v n xs) (hs:a.eval s=v) (ad:Addr) (c:Nat) (p q:Value) (hx:a.eval x=.slice (some ad) 1 c) (hp:w.cell? ad=some p) (hq:w.cell? (ad.add 1)=some q) (op:p.oneCell'=true) (oq:q.oneCell'=true) (h63:n + 1≤1048576) (hbytes:bytes≤1024)
  (hK:∀ v' w',RowAt w' e 2 v' (n + 1) (xs ++ [p,q])→Only (fun k=>v.ownBlock=some k) w w'→Moved w v v'→K (a.put o.dst v') w') :
  if Region.wanted o (yielded ops a.tmps)=true then Oper.wp P o a w K Q else E:=by
 have hw:Region.wanted o (yielded ops a.tmps)=true:=(by simp [Region.wanted,hg]);rw [if_pos hw];obtain ⟨v',w',hr,h2,h3,h4⟩:=zHw (P:=P) w t o.type e i z bytes ht hi hz hsize hby hzs v n xs hrow ad c p q hp hq op oq h63 hbytes;unfold Oper.wp execOp;simp only [hop,resolve,invoke,builtin,Sem.run_bind,Sem.run_pure,Result.andThen_ok,List.map_toArray,List.map_cons,List.map_nil,hs,hx,hr];exact hK v' w' h2 h3 h4
end
theorem RowAt.tail {w:World} {e:TypeId} {g off cap m:Nat} {l:List (Nat × Nat)} (h:RowAt w e 2 (.slice (some ⟨g,off,none⟩) l.length cap) l.length (zAK l)) (hm:l.length=m + 1) (v:Value) (hv:(cap=1∧v=.slice (some ⟨g,off,none⟩) m 0)∨v=.slice (some ⟨g,off + 2,none⟩) m (cap - 1)):RowAt w e 2 v (l.drop 1).length (zAK (l.drop 1)):=by
 have hlen:(l.drop 1).length=m:=(by simp;omega);have hpl:(zAK (l.drop 1)).length=(l.drop 1).length * 2:=zKM _;obtain ⟨h1,h2⟩:=h
 rcases h2 with ⟨h0,_⟩ | ⟨g',off',cap',cur,he,hg,hc,hcm,hcs,hcells⟩
 ·omega
 injection he with he _ e3;injection he with he;injection he with e1 e2 _;subst e1 e2 e3;refine ⟨hpl,?_⟩;rw [hlen]
 rcases hv with ⟨hc1,rfl⟩ | rfl
 ·left
  have hm0:m=0:=(by omega);subst hm0;exact ⟨rfl,_,rfl,fun k hk=>by injection hk with hk;subst hk;exact ⟨cur,hg⟩⟩
 ·right
  refine ⟨g,off + 2,cap - 1,cur,rfl,hg,by omega,by omega,by omega,fun j u hj=>?_⟩
  have:=hcells (j + 2) u (by
   cases l with
   | nil=>simp at hm
   | cons x l=>simp only [zAK,List.flatMap_cons] at hj ⊢;simpa using hj)
  rw [← this];congr 1;omega
theorem zQC:(Tryz.prog.info? 129).map (fun i=>(i.zero,i.size,i.bytes))=some (some (.agg #[.int .i64 0,.int .i64 0]),2,16):=by kernel_rfl
theorem SAt.setKept {w:World} {b:Nat} {C:SC} {S:SS} {V:SV} (h:SAt w b C S V) {l:List (Nat × Nat)} {v:Value} (hr:RowAt (w.setCell ⟨b,11,none⟩ v) 129 2 v l.length (zAK l)):SAt (w.setCell ⟨b,11,none⟩ v) b C { S with kept:=l } { V with k:=v }:=
 ⟨zI h.fb 11 v,zR h.oV (zT h.oV h.fb (by decide)) v,zR h.oC (zT h.oC h.fb (by decide)) v,zR h.oR (zT h.oR h.fb (by decide)) v,zR h.oA (zT h.oA h.fb (by decide)) v,hr,h.ap⟩
theorem SAt.setMost {w:World} {b:Nat} {C:SC} {S:SS} {V:SV} (h:SAt w b C S V) (n:Nat):SAt (w.setCell ⟨b,12,none⟩ (.int .i64 (n:Int))) b C { S with most:=n } V:=
 ⟨zI h.fb 12 _,zR h.oV (zT h.oV h.fb (by decide)) _,zR h.oC (zT h.oC h.fb (by decide)) _,zR h.oR (zT h.oR h.fb (by decide)) _,zR h.oA (zT h.oA h.fb (by decide)) _,
  h.oK.keep (T:=fun j=>j=b) ((Only.refl (fun j=>j=b) w).setCell (p:=⟨b,12,none⟩) (Or.inl rfl) _) (fun j hj e=>by subst e;obtain ⟨c,hc⟩:=h.oK.blk j hj;exact absurd (zc hc h.fb) (by decide)),h.ap⟩
theorem zLo {w:World} {b:Nat} {C:SC} {S:SS} {V:SV} (h:SAt w b C S V) {v:Value} {n:Nat} {xs:List Value} (hr:RowAt w 129 2 v n xs) (o:Nat) (u:Value):RowAt (w.setCell ⟨b,o,none⟩ u) 129 2 v n xs:=
 hr.keep (T:=fun j=>j=b) ((Only.refl (fun j=>j=b) w).setCell (p:=⟨b,o,none⟩) (Or.inl rfl) _) (fun j hj e=>by subst e;obtain ⟨c,hc⟩:=hr.blk j hj;exact absurd (zc hc h.fb) (by decide))
theorem SMoved.setB {b:Nat} {w w':World} {V V':SV} (h:SMoved b w w' V V') (o:Nat) (u:Value):SMoved b w (w'.setCell ⟨b,o,none⟩ u) V V':=
 ⟨h.only.setCell (p:=⟨b,o,none⟩) (Or.inl (Or.inl rfl)) u,h.v,h.c,h.r,h.a,h.k⟩
theorem SAt.grownK {ux wz w':World} {b:Nat} {C:SC} {S:SS} {V:SV} {aX:Option Addr} {nX cX:Nat} (h:SAt ux b C S V) (hV:V.k=.slice aX nX cX) (hn:S.kept.length=nX) (hbz:Below ux.heap.size ux wz) {v':Value} {f:Nat × Nat} (hrow:RowAt w' 129 2 v' (nX + 1) (zAK S.kept ++ [.int .i64 (f.1:Int),.int .i64 (f.2:Int)])) (ho:Only (fun k=>(Value.slice aX nX cX).ownBlock=some k) wz w') (hm:Moved wz (.slice aX nX cX) v') :
  w'.heap[b]?=some (.cells (zCc C S V) 126 (0,0))∧SAt (w'.setCell ⟨b,11,none⟩ v') b C { S with kept:=S.kept ++ [f] } { V with k:=v' }∧SMoved b ux (w'.setCell ⟨b,11,none⟩ v') V { V with k:=v' }:=by
 rw [← hV] at ho hm;subst hn;have hz:=h.later hbz;have hne:∀ {e:TypeId} {k:Nat},e≠129→(∃ c,wz.heap[k]?=some (.cells c e (0,0)))→¬ V.k.ownBlock=some k:=by
  rintro e k h5 ⟨c,hc⟩ e2;obtain ⟨c',hc'⟩:=hz.oK.blk k e2;exact h5 (zc hc hc')
 have hfb:w'.heap[b]?=some (.cells (zCc C S V) 126 (0,0)):=(ho.block b (zB hz.fb) (hne (by decide) ⟨_,hz.fb⟩)).trans hz.fb;have oV:=zY hz.oV ho (fun k hk=>hne (by decide) (zr hz.oV k hk));have oC:=zY hz.oC ho (fun k hk=>hne (by decide) (zr hz.oC k hk));have oR:=zY hz.oR ho (fun k hk=>hne (by decide) (zr hz.oR k hk));have oA:=zY hz.oA ho (fun k hk=>hne (by decide) (zr hz.oA k hk));have hrow2:RowAt w' 129 2 v' (S.kept ++ [f]).length (zAK (S.kept ++ [f])):=(by rw [zD5];simpa using hrow);refine ⟨hfb,⟨zI hfb 11 v',zR oV (zT oV hfb (by decide)) v',zR oC (zT oC hfb (by decide)) v',zR oR (zT oR hfb (by decide)) v',zR oA (zT oA hfb (by decide)) v',?_,h.ap⟩,?_⟩
 ·exact hrow2.keep (T:=fun j=>j=b) ((Only.refl (fun j=>j=b) w').setCell (p:=⟨b,11,none⟩) (Or.inl rfl) _) (fun j hj e=>by subst e;obtain ⟨c,hc⟩:=hrow2.blk j hj;exact absurd (zc hc hfb) (by decide))
 ·have h9:Only (TS b V) wz w':=ho.mono (fun k _ hk=>Or.inr (Or.inr (Or.inr hk)));refine ⟨((Only.of_below hbz).trans h9).setCell (p:=⟨b,11,none⟩) (Or.inl (Or.inl rfl)) v',rfl,rfl,Or.inl rfl,Or.inl rfl,?_⟩
  rcases hm with hm | ⟨k,h1,h2⟩
  ·exact Or.inl hm
  ·exact Or.inr ⟨k,h1,Nat.le_trans hbz.size h2⟩
def zCq (S1:SS) (f:Nat × Nat):SS:=if S1.most < S1.kept.length + 1 then { ({ S1 with kept:=S1.kept ++ [f] }:SS) with most:=S1.kept.length + 1 } else { S1 with kept:=S1.kept ++ [f] }
theorem zM7 (room:Nat) (S:SS) (f:Nat × Nat) (h0:room≠0) (hf:room≤S.kept.length):S.store room f=zCq { S with kept:=S.kept.drop 1 } f:=by
 unfold SS.store zDi zHD zCq zDi;simp only [h0,hf,if_true,if_false,List.length_append,List.length_cons,List.length_nil]
 split<;>rfl
theorem zNg (room:Nat) (S:SS) (f:Nat × Nat) (h0:room≠0) (hf:¬ room≤S.kept.length):S.store room f=zCq S f:=by
 unfold SS.store zDi zHD zCq zDi;simp only [h0,hf,if_false,List.length_append,List.length_cons,List.length_nil]
 split<;>rfl
theorem zP2 (b:Nat) (C:SC) (S:SS) (V:SV) (f:Nat × Nat) (w:World) (hS:SAt w b C S V) (hB:SBd C S) :
  Calls Tryz.prog 135 #[.pointer (some ⟨b,10,none⟩),zAv f] w fun e w'=>e=.returned (.tuple #[])∧SPost b C (S.store C.room f) V w w':=by
 obtain ⟨fk,fs⟩:=f;obtain ⟨i1,hi1,hz10,hz11,hz12⟩:=info_parts zQC;have hbw:=zB hS.fb;obtain ⟨aK,cK,hKf⟩:=hS.oK.form;have c10:w.cell? ⟨b,10,none⟩=some (.int .i64 (C.room:Int)):=zE hS.fb rfl;have c11:w.cell? ⟨b,11,none⟩=some (.slice aK S.kept.length cK):=(by rw [zC hS.fb];exact congrArg some hKf);have c12:w.cell? ⟨b,12,none⟩=some (.int .i64 (S.most:Int)):=zE hS.fb rfl;have z11:=zD hS.fb 11;have z12:=zD hS.fb 12;have hkl:=hB.kept;have hrm:=hB.room
 by_cases hr:C.room=0
 ·have HF:Hid (S.store C.room (fk,fs)=S):=zF (by unfold SS.store zDi zHD;rw [if_pos hr,if_pos hr]);have hd:decide ((C.room:Int)≤0)=true:=(by simp;omega);have hd2:decide (C.room≤0)=true:=(by simp;omega);have hd0:decide (C.room=0)=true:=(by simp [hr]);clear hr
  go_enter Tryz.func135,Tryz.ntmps135
  go_wp2_with fail;refine bodyPost_ret (v:=.tuple #[]) (by simp [results,Tryz.results135,go_sem]) rfl ⟨rfl,?_⟩;rw [zA HF];have hb0:Below w.heap.size w (w.alloc (.cells #[.int .i64 (fk:Int),.int .i64 (fs:Int)] 129)):=(Below.refl _ _).alloc (Nat.le_refl _) _;exact ⟨V,hS.later hb0,SMoved.of_below hb0⟩
 ·have hd:decide ((C.room:Int)≤0)=false:=(by simp;omega);have hd2:decide (C.room≤0)=false:=(by simp;omega);have hd0:decide (C.room=0)=false:=by simp [hr]
  by_cases hfull:C.room≤S.kept.length
  ·have hd3:decide ((C.room:Int)≤(S.kept.length:Int))=true:=(by simp;omega);have hd4:decide (C.room≤S.kept.length)=true:=(by simp;omega);have hpos:0 < S.kept.length:=by omega
   rcases hS.oK.2 with ⟨h0,_⟩ | ⟨g,off,cap,cur,hv,hg,hnc,hcm,hcs,hcells⟩
   ·omega
   have hgw:=zB hg;rw [hKf] at hv;injection hv with e1 e2 e3;subst e1 e3;obtain ⟨m,hm⟩:∃ m,S.kept.length=m + 1:=⟨S.kept.length - 1,by omega⟩
   go_enter Tryz.func135,Tryz.ntmps135
   go_wp2_with fail;have hb0:Below w.heap.size w (w.alloc (.cells #[.int .i64 (fk:Int),.int .i64 (fs:Int)] 129)):=(Below.refl _ _).alloc (Nat.le_refl _) _;have hfa:=heap_alloc_new w (.cells #[.int .i64 (fk:Int),.int .i64 (fs:Int)] 129);generalize w.alloc (.cells #[.int .i64 (fk:Int),.int .i64 (fs:Int)] 129)=u1 at *;have d10:u1.cell? ⟨b,10,none⟩=some (.int .i64 (C.room:Int)):=(by rw [hb0.cell (p:=⟨b,10,none⟩) hbw];exact c10);have d11:u1.cell? ⟨b,11,none⟩=some (.slice (some ⟨g,off,none⟩) S.kept.length cK):=(by rw [hb0.cell (p:=⟨b,11,none⟩) hbw];exact c11);have d12:u1.cell? ⟨b,12,none⟩=some (.int .i64 (S.most:Int)):=(by rw [hb0.cell (p:=⟨b,12,none⟩) hbw];exact c12);have lb:=Nat.lt_of_lt_of_le hbw hb0.size;have lf:=zB hfa
   go_quiet (fail)
   have hb1:Below w.heap.size w (u1.drewN nq):=below_drewN hb0 nq;have hfa1:(u1.drewN nq).heap[w.heap.size]?=some (.cells #[.int .i64 (fk:Int),.int .i64 (fs:Int)] 129 (0,0)):=(by rw [World.heap_drewN];exact hfa);generalize u1.drewN nq=u2 at *;clear hb0 hfa d10 d11 d12 lb lf;have hS2:=hS.later hb1;have d10:u2.cell? ⟨b,10,none⟩=some (.int .i64 (C.room:Int)):=(by rw [hb1.cell (p:=⟨b,10,none⟩) hbw];exact c10);have d11:u2.cell? ⟨b,11,none⟩=some (.slice (some ⟨g,off,none⟩) S.kept.length cK):=(by rw [hb1.cell (p:=⟨b,11,none⟩) hbw];exact c11);have d12:u2.cell? ⟨b,12,none⟩=some (.int .i64 (S.most:Int)):=(by rw [hb1.cell (p:=⟨b,12,none⟩) hbw];exact c12);have y11:=zD hS2.fb 11;have y12:=zD hS2.fb 12;have lb:=Nat.lt_of_lt_of_le hbw hb1.size;have lf:=zB hfa1;obtain ⟨f0,f1⟩:=zJ hfa1;have HST:Hid (S.store C.room (fk,fs)=zCq { S with kept:=S.kept.drop 1 } (fk,fs)):=zF (zM7 _ _ _ hr hfull);have hrowk:RowAt u2 129 2 (.slice (some ⟨g,off,none⟩) S.kept.length cK) S.kept.length (zAK S.kept):=(by rw [← hKf];exact hS2.oK);have hmx:SMoved b w u2 V V:=SMoved.of_below hb1;rw [hm] at d11
   by_cases hc1:cK=1
   ·subst hc1;go_wp2_with fail;have hvt:RowAt u2 129 2 (.slice (some ⟨g,off,none⟩) m (0)) (S.kept.drop 1).length (zAK (S.kept.drop 1)):=hrowk.tail hm _ (Or.inl ⟨rfl,rfl⟩);have hnX:({ S with kept:=S.kept.drop 1 }:SS).kept.length=m:=(by simp;omega);have hSx:=hS2.setKept (zLo hS2 hvt 11 (.slice (some ⟨g,off,none⟩) m (0)));have hMx:SMoved b w (u2.setCell ⟨b,11,none⟩ (.slice (some ⟨g,off,none⟩) m (0))) V { V with k:=.slice (some ⟨g,off,none⟩) m (0) }:=⟨hmx.only.setCell (p:=⟨b,11,none⟩) (Or.inl (Or.inl rfl)) _,rfl,rfl,Or.inl rfl,Or.inl rfl,Or.inl (by rw [hKf];rfl)⟩;have hfx:(u2.setCell ⟨b,11,none⟩ (.slice (some ⟨g,off,none⟩) m (0))).heap[w.heap.size]?=some (.cells #[.int .i64 (fk:Int),.int .i64 (fs:Int)] 129 (0,0)):=(by rw [Below.heap_setCell _ _ _ _ (by intro e;simp at e;omega)];exact hfa1);have hVX:({ V with k:=.slice (some ⟨g,off,none⟩) m (0) }:SV).k=.slice (some ⟨g,off,none⟩) m (0):=rfl;generalize u2.setCell ⟨b,11,none⟩ (.slice (some ⟨g,off,none⟩) m (0))=ux at *;clear hvt d10 d11 d12 y11 y12 f0 f1 hrowk hmx hS2 hfa1 hb1 lb lf;have lbx:=zB hSx.fb;have e10:ux.cell? ⟨b,10,none⟩=some (.int .i64 (C.room:Int)):=zE hSx.fb rfl;have e11:ux.cell? ⟨b,11,none⟩=some (.slice (some ⟨g,off,none⟩) (m) (0)):=(by rw [zC hSx.fb];exact congrArg some hVX);have e12:ux.cell? ⟨b,12,none⟩=some (.int .i64 (S.most:Int)):=zE hSx.fb rfl;have y11:=zD hSx.fb 11;obtain ⟨g0,g1⟩:=zJ hfx;have lfx:=zB hfx;have hrowx:RowAt ux 129 2 (.slice (some ⟨g,off,none⟩) (m) (0)) (m) (zAK ({ S with kept:=S.kept.drop 1 }:SS).kept):=(by have h:=hSx.oK;rw [hVX] at h;rw [hnX] at h;exact h);have hbz:Below ux.heap.size ux ((ux.alloc (.cells #[.int .i64 (fk:Int),.int .i64 (fs:Int)] 129)).drew):=((Below.refl _ ux).alloc (Nat.le_refl _) _).drew
    go_region_law (refine zDQ rfl (.tmp 31) (.tmp 33) 122 rfl 129 i1 (.agg #[.int .i64 0,.int .i64 0]) 16 Tryz.underlying122 hi1 hz10 hz11 hz12 rfl (.slice (some ⟨g,off,none⟩) (m) (0)) (m) (zAK ({ S with kept:=S.kept.drop 1 }:SS).kept) (hrowx.keep (Only.of_below (T:=fun _=>False) hbz) (fun _ _ h=>h)) rfl ⟨ux.heap.size,0,none⟩ 1 (.int .i64 (fk:Int)) (.int .i64 (fs:Int)) rfl (zBX ux [.int .i64 (fk:Int),.int .i64 (fs:Int)] 129 0 _ rfl) (zBX ux [.int .i64 (fk:Int),.int .i64 (fs:Int)] 129 1 _ rfl) rfl rfl (by omega) (by omega) ?_;intro v' w' hrow' honly' hmv';have hS4:=SAt.grownK (f:=(fk,fs)) hSx hVX hnX hbz hrow' honly' hmv';obtain ⟨a4,c4,hv4⟩:=hrow'.form;subst hv4;have j11:w'.cell? ⟨b,11,none⟩=some (.slice (some ⟨g,off,none⟩) (m) (0)):=(by rw [zC hS4.1];exact congrArg some hVX);have j12:w'.cell? ⟨b,12,none⟩=some (.int .i64 (S.most:Int)):=(by rw [zC hS4.1];rfl);have x11:=zD hS4.1 11;have x12:=zD hS4.1 12;have lb4:=zB hS4.1)
    all_goals
     obtain ⟨hfb4,hS5,hM5⟩:=hS4;have hM6:=hMx.trans hM5;clear hM5 hmv' honly' hrow';have k11:(w'.setCell ⟨b,11,none⟩ (.slice a4 (m + 1) c4)).cell? ⟨b,11,none⟩=some (.slice a4 (m + 1) c4):=zE (zI hfb4 11 _) rfl;have k12:(w'.setCell ⟨b,11,none⟩ (.slice a4 (m + 1) c4)).cell? ⟨b,12,none⟩=some (.int .i64 (S.most:Int)):=zE (zI hfb4 11 _) rfl;have r11:=zD (zI hfb4 11 (.slice a4 (m + 1) c4)) 11;have r12:=zD (zI hfb4 11 (.slice a4 (m + 1) c4)) 12;have lb5:b < (w'.setCell ⟨b,11,none⟩ (.slice a4 (m + 1) c4)).heap.size:=zB (zI hfb4 11 _);go_wp2_with fail;generalize w'.setCell ⟨b,11,none⟩ (.slice a4 (m + 1) c4)=u5 at *
     go_quiet (fail)
     have hb6:Below u5.heap.size u5 (u5.drewN nq):=below_drewN (Below.refl _ _) nq;have hS6:=hS5.later hb6;have hM7:=hM6.trans (SMoved.of_below hb6);have t11:(u5.drewN nq).cell? ⟨b,11,none⟩=some (.slice a4 (m + 1) c4):=(by rw [hb6.cell (p:=⟨b,11,none⟩) lb5];exact k11);have t12:(u5.drewN nq).cell? ⟨b,12,none⟩=some (.int .i64 (S.most:Int)):=(by rw [hb6.cell (p:=⟨b,12,none⟩) lb5];exact k12);have s12:=zD hS6.fb 12;have lb7:=zB hS6.fb;generalize u5.drewN nq=u6 at *;clear k11 k12 r11 r12 lb5 hb6 hM6 hS5
     by_cases hgt:S.most < m + 1
     ·have hg1:decide ((S.most:Int) < (m:Int) + 1)=true:=(by simp;omega);have hg2:decide (S.most < m + 1)=true:=(by simp;omega);have HF:Hid (S.store C.room (fk,fs)={ ({ ({ S with kept:=S.kept.drop 1 }:SS) with kept:=({ S with kept:=S.kept.drop 1 }:SS).kept ++ [(fk,fs)] }:SS) with most:=m + 1 }):=zF (by rw [zA HST];unfold zCq;rw [if_pos (by rw [hnX];exact hgt)];rw [hnX]);have hfin:=hS6.setMost (m + 1);go_wp2_with fail
      go_end0
      refine ⟨rfl,?_⟩;rw [zA HF];exact ⟨_,by simpa using hfin,hM7.setB 12 _⟩
     ·have hg1:decide ((S.most:Int) < (m:Int) + 1)=false:=(by simp;omega);have hg2:decide (S.most < m + 1)=false:=(by simp;omega);have HF:Hid (S.store C.room (fk,fs)={ ({ S with kept:=S.kept.drop 1 }:SS) with kept:=({ S with kept:=S.kept.drop 1 }:SS).kept ++ [(fk,fs)] }):=zF (by rw [zA HST];unfold zCq;rw [if_neg (by rw [hnX];exact hgt)]);go_wp2_with fail
      go_end0
      refine ⟨rfl,?_⟩;rw [zA HF];exact ⟨_,hS6,hM7⟩
   ·have hc2:1 < cK:=(by omega);have hc3:decide (cK≤1)=false:=(by simp;omega);go_wp2_with fail
    all_goals first | (exfalso;omega) | skip
    have hvt:RowAt u2 129 2 (.slice (some ⟨g,off + 2,none⟩) m (cK - 1)) (S.kept.drop 1).length (zAK (S.kept.drop 1)):=hrowk.tail hm _ (Or.inr rfl);have hnX:({ S with kept:=S.kept.drop 1 }:SS).kept.length=m:=(by simp;omega);have hSx:=hS2.setKept (zLo hS2 hvt 11 (.slice (some ⟨g,off + 2,none⟩) m (cK - 1)));have hMx:SMoved b w (u2.setCell ⟨b,11,none⟩ (.slice (some ⟨g,off + 2,none⟩) m (cK - 1))) V { V with k:=.slice (some ⟨g,off + 2,none⟩) m (cK - 1) }:=⟨hmx.only.setCell (p:=⟨b,11,none⟩) (Or.inl (Or.inl rfl)) _,rfl,rfl,Or.inl rfl,Or.inl rfl,Or.inl (by rw [hKf];rfl)⟩;have hfx:(u2.setCell ⟨b,11,none⟩ (.slice (some ⟨g,off + 2,none⟩) m (cK - 1))).heap[w.heap.size]?=some (.cells #[.int .i64 (fk:Int),.int .i64 (fs:Int)] 129 (0,0)):=(by rw [Below.heap_setCell _ _ _ _ (by intro e;simp at e;omega)];exact hfa1);have hVX:({ V with k:=.slice (some ⟨g,off + 2,none⟩) m (cK - 1) }:SV).k=.slice (some ⟨g,off + 2,none⟩) m (cK - 1):=rfl;generalize u2.setCell ⟨b,11,none⟩ (.slice (some ⟨g,off + 2,none⟩) m (cK - 1))=ux at *;clear hvt d10 d11 d12 y11 y12 f0 f1 hrowk hmx hS2 hfa1 hb1 lb lf;have lbx:=zB hSx.fb;have e10:ux.cell? ⟨b,10,none⟩=some (.int .i64 (C.room:Int)):=zE hSx.fb rfl;have e11:ux.cell? ⟨b,11,none⟩=some (.slice (some ⟨g,off + 2,none⟩) (m) (cK - 1)):=(by rw [zC hSx.fb];exact congrArg some hVX);have e12:ux.cell? ⟨b,12,none⟩=some (.int .i64 (S.most:Int)):=zE hSx.fb rfl;have y11:=zD hSx.fb 11;obtain ⟨g0,g1⟩:=zJ hfx;have lfx:=zB hfx;have hrowx:RowAt ux 129 2 (.slice (some ⟨g,off + 2,none⟩) (m) (cK - 1)) (m) (zAK ({ S with kept:=S.kept.drop 1 }:SS).kept):=(by have h:=hSx.oK;rw [hVX] at h;rw [hnX] at h;exact h);have hbz:Below ux.heap.size ux ((ux.alloc (.cells #[.int .i64 (fk:Int),.int .i64 (fs:Int)] 129)).drew):=((Below.refl _ ux).alloc (Nat.le_refl _) _).drew
    go_region_law (refine zDQ rfl (.tmp 31) (.tmp 33) 122 rfl 129 i1 (.agg #[.int .i64 0,.int .i64 0]) 16 Tryz.underlying122 hi1 hz10 hz11 hz12 rfl (.slice (some ⟨g,off + 2,none⟩) (m) (cK - 1)) (m) (zAK ({ S with kept:=S.kept.drop 1 }:SS).kept) (hrowx.keep (Only.of_below (T:=fun _=>False) hbz) (fun _ _ h=>h)) rfl ⟨ux.heap.size,0,none⟩ 1 (.int .i64 (fk:Int)) (.int .i64 (fs:Int)) rfl (zBX ux [.int .i64 (fk:Int),.int .i64 (fs:Int)] 129 0 _ rfl) (zBX ux [.int .i64 (fk:Int),.int .i64 (fs:Int)] 129 1 _ rfl) rfl rfl (by omega) (by omega) ?_;intro v' w' hrow' honly' hmv';have hS4:=SAt.grownK (f:=(fk,fs)) hSx hVX hnX hbz hrow' honly' hmv';obtain ⟨a4,c4,hv4⟩:=hrow'.form;subst hv4;have j11:w'.cell? ⟨b,11,none⟩=some (.slice (some ⟨g,off + 2,none⟩) (m) (cK - 1)):=(by rw [zC hS4.1];exact congrArg some hVX);have j12:w'.cell? ⟨b,12,none⟩=some (.int .i64 (S.most:Int)):=(by rw [zC hS4.1];rfl);have x11:=zD hS4.1 11;have x12:=zD hS4.1 12;have lb4:=zB hS4.1)
    all_goals
     obtain ⟨hfb4,hS5,hM5⟩:=hS4;have hM6:=hMx.trans hM5;clear hM5 hmv' honly' hrow';have k11:(w'.setCell ⟨b,11,none⟩ (.slice a4 (m + 1) c4)).cell? ⟨b,11,none⟩=some (.slice a4 (m + 1) c4):=zE (zI hfb4 11 _) rfl;have k12:(w'.setCell ⟨b,11,none⟩ (.slice a4 (m + 1) c4)).cell? ⟨b,12,none⟩=some (.int .i64 (S.most:Int)):=zE (zI hfb4 11 _) rfl;have r11:=zD (zI hfb4 11 (.slice a4 (m + 1) c4)) 11;have r12:=zD (zI hfb4 11 (.slice a4 (m + 1) c4)) 12;have lb5:b < (w'.setCell ⟨b,11,none⟩ (.slice a4 (m + 1) c4)).heap.size:=zB (zI hfb4 11 _);go_wp2_with fail;generalize w'.setCell ⟨b,11,none⟩ (.slice a4 (m + 1) c4)=u5 at *
     go_quiet (fail)
     have hb6:Below u5.heap.size u5 (u5.drewN nq):=below_drewN (Below.refl _ _) nq;have hS6:=hS5.later hb6;have hM7:=hM6.trans (SMoved.of_below hb6);have t11:(u5.drewN nq).cell? ⟨b,11,none⟩=some (.slice a4 (m + 1) c4):=(by rw [hb6.cell (p:=⟨b,11,none⟩) lb5];exact k11);have t12:(u5.drewN nq).cell? ⟨b,12,none⟩=some (.int .i64 (S.most:Int)):=(by rw [hb6.cell (p:=⟨b,12,none⟩) lb5];exact k12);have s12:=zD hS6.fb 12;have lb7:=zB hS6.fb;generalize u5.drewN nq=u6 at *;clear k11 k12 r11 r12 lb5 hb6 hM6 hS5
     by_cases hgt:S.most < m + 1
     ·have hg1:decide ((S.most:Int) < (m:Int) + 1)=true:=(by simp;omega);have hg2:decide (S.most < m + 1)=true:=(by simp;omega);have HF:Hid (S.store C.room (fk,fs)={ ({ ({ S with kept:=S.kept.drop 1 }:SS) with kept:=({ S with kept:=S.kept.drop 1 }:SS).kept ++ [(fk,fs)] }:SS) with most:=m + 1 }):=zF (by rw [zA HST];unfold zCq;rw [if_pos (by rw [hnX];exact hgt)];rw [hnX]);have hfin:=hS6.setMost (m + 1);go_wp2_with fail
      go_end0
      refine ⟨rfl,?_⟩;rw [zA HF];exact ⟨_,by simpa using hfin,hM7.setB 12 _⟩
     ·have hg1:decide ((S.most:Int) < (m:Int) + 1)=false:=(by simp;omega);have hg2:decide (S.most < m + 1)=false:=(by simp;omega);have HF:Hid (S.store C.room (fk,fs)={ ({ S with kept:=S.kept.drop 1 }:SS) with kept:=({ S with kept:=S.kept.drop 1 }:SS).kept ++ [(fk,fs)] }):=zF (by rw [zA HST];unfold zCq;rw [if_neg (by rw [hnX];exact hgt)]);go_wp2_with fail
      go_end0
      refine ⟨rfl,?_⟩;rw [zA HF];exact ⟨_,hS6,hM7⟩
  ·have hd3:decide ((C.room:Int)≤(S.kept.length:Int))=false:=(by simp;omega);have hd4:decide (C.room≤S.kept.length)=false:=by simp;omega
   go_enter Tryz.func135,Tryz.ntmps135
   go_wp2_with fail;have hb0:Below w.heap.size w (w.alloc (.cells #[.int .i64 (fk:Int),.int .i64 (fs:Int)] 129)):=(Below.refl _ _).alloc (Nat.le_refl _) _;have hfa:=heap_alloc_new w (.cells #[.int .i64 (fk:Int),.int .i64 (fs:Int)] 129);generalize w.alloc (.cells #[.int .i64 (fk:Int),.int .i64 (fs:Int)] 129)=u1 at *;have d10:u1.cell? ⟨b,10,none⟩=some (.int .i64 (C.room:Int)):=(by rw [hb0.cell (p:=⟨b,10,none⟩) hbw];exact c10);have d11:u1.cell? ⟨b,11,none⟩=some (.slice aK S.kept.length cK):=(by rw [hb0.cell (p:=⟨b,11,none⟩) hbw];exact c11);have d12:u1.cell? ⟨b,12,none⟩=some (.int .i64 (S.most:Int)):=(by rw [hb0.cell (p:=⟨b,12,none⟩) hbw];exact c12);have lb:=Nat.lt_of_lt_of_le hbw hb0.size;have lf:=zB hfa
   go_quiet (fail)
   have hb1:Below w.heap.size w (u1.drewN nq):=below_drewN hb0 nq;have hfa1:(u1.drewN nq).heap[w.heap.size]?=some (.cells #[.int .i64 (fk:Int),.int .i64 (fs:Int)] 129 (0,0)):=(by rw [World.heap_drewN];exact hfa);generalize u1.drewN nq=u2 at *;clear hb0 hfa d10 d11 d12 lb lf;have hS2:=hS.later hb1;have d10:u2.cell? ⟨b,10,none⟩=some (.int .i64 (C.room:Int)):=(by rw [hb1.cell (p:=⟨b,10,none⟩) hbw];exact c10);have d11:u2.cell? ⟨b,11,none⟩=some (.slice aK S.kept.length cK):=(by rw [hb1.cell (p:=⟨b,11,none⟩) hbw];exact c11);have d12:u2.cell? ⟨b,12,none⟩=some (.int .i64 (S.most:Int)):=(by rw [hb1.cell (p:=⟨b,12,none⟩) hbw];exact c12);have y11:=zD hS2.fb 11;have y12:=zD hS2.fb 12;have lb:=Nat.lt_of_lt_of_le hbw hb1.size;have lf:=zB hfa1;obtain ⟨f0,f1⟩:=zJ hfa1;go_wp2_with fail;have HST:Hid (S.store C.room (fk,fs)=zCq S (fk,fs)):=zF (zNg _ _ _ hr hfull);have hMx:SMoved b w u2 V V:=SMoved.of_below hb1;have hSx:=hS2;have hfx:=hfa1;have hVX:=hKf;generalize u2=ux at *;clear d10 d11 d12 y11 y12 f0 f1 hS2 hfa1 hb1 lb lf;have lbx:=zB hSx.fb;have e10:ux.cell? ⟨b,10,none⟩=some (.int .i64 (C.room:Int)):=zE hSx.fb rfl;have e11:ux.cell? ⟨b,11,none⟩=some (.slice (aK) (S.kept.length) (cK)):=(by rw [zC hSx.fb];exact congrArg some hVX);have e12:ux.cell? ⟨b,12,none⟩=some (.int .i64 (S.most:Int)):=zE hSx.fb rfl;have y11:=zD hSx.fb 11;obtain ⟨g0,g1⟩:=zJ hfx;have lfx:=zB hfx;have hrowx:RowAt ux 129 2 (.slice (aK) (S.kept.length) (cK)) (S.kept.length) (zAK (S:SS).kept):=(by have h:=hSx.oK;rw [hVX] at h;exact h);have hbz:Below ux.heap.size ux ((ux.alloc (.cells #[.int .i64 (fk:Int),.int .i64 (fs:Int)] 129)).drew):=((Below.refl _ ux).alloc (Nat.le_refl _) _).drew
   go_region_law (refine zDQ rfl (.tmp 31) (.tmp 33) 122 rfl 129 i1 (.agg #[.int .i64 0,.int .i64 0]) 16 Tryz.underlying122 hi1 hz10 hz11 hz12 rfl (.slice (aK) (S.kept.length) (cK)) (S.kept.length) (zAK (S:SS).kept) (hrowx.keep (Only.of_below (T:=fun _=>False) hbz) (fun _ _ h=>h)) rfl ⟨ux.heap.size,0,none⟩ 1 (.int .i64 (fk:Int)) (.int .i64 (fs:Int)) rfl (zBX ux [.int .i64 (fk:Int),.int .i64 (fs:Int)] 129 0 _ rfl) (zBX ux [.int .i64 (fk:Int),.int .i64 (fs:Int)] 129 1 _ rfl) rfl rfl (by omega) (by omega) ?_;intro v' w' hrow' honly' hmv';have hS4:=SAt.grownK (f:=(fk,fs)) hSx hVX rfl hbz hrow' honly' hmv';obtain ⟨a4,c4,hv4⟩:=hrow'.form;subst hv4;have j11:w'.cell? ⟨b,11,none⟩=some (.slice (aK) (S.kept.length) (cK)):=(by rw [zC hS4.1];exact congrArg some hVX);have j12:w'.cell? ⟨b,12,none⟩=some (.int .i64 (S.most:Int)):=(by rw [zC hS4.1];rfl);have x11:=zD hS4.1 11;have x12:=zD hS4.1 12;have lb4:=zB hS4.1)
   all_goals
    obtain ⟨hfb4,hS5,hM5⟩:=hS4;have hM6:=hMx.trans hM5;clear hM5 hmv' honly' hrow';have k11:(w'.setCell ⟨b,11,none⟩ (.slice a4 (S.kept.length + 1) c4)).cell? ⟨b,11,none⟩=some (.slice a4 (S.kept.length + 1) c4):=zE (zI hfb4 11 _) rfl;have k12:(w'.setCell ⟨b,11,none⟩ (.slice a4 (S.kept.length + 1) c4)).cell? ⟨b,12,none⟩=some (.int .i64 (S.most:Int)):=zE (zI hfb4 11 _) rfl;have r11:=zD (zI hfb4 11 (.slice a4 (S.kept.length + 1) c4)) 11;have r12:=zD (zI hfb4 11 (.slice a4 (S.kept.length + 1) c4)) 12;have lb5:b < (w'.setCell ⟨b,11,none⟩ (.slice a4 (S.kept.length + 1) c4)).heap.size:=zB (zI hfb4 11 _);go_wp2_with fail;generalize w'.setCell ⟨b,11,none⟩ (.slice a4 (S.kept.length + 1) c4)=u5 at *
    go_quiet (fail)
    have hb6:Below u5.heap.size u5 (u5.drewN nq):=below_drewN (Below.refl _ _) nq;have hS6:=hS5.later hb6;have hM7:=hM6.trans (SMoved.of_below hb6);have t11:(u5.drewN nq).cell? ⟨b,11,none⟩=some (.slice a4 (S.kept.length + 1) c4):=(by rw [hb6.cell (p:=⟨b,11,none⟩) lb5];exact k11);have t12:(u5.drewN nq).cell? ⟨b,12,none⟩=some (.int .i64 (S.most:Int)):=(by rw [hb6.cell (p:=⟨b,12,none⟩) lb5];exact k12);have s12:=zD hS6.fb 12;have lb7:=zB hS6.fb;generalize u5.drewN nq=u6 at *;clear k11 k12 r11 r12 lb5 hb6 hM6 hS5
    by_cases hgt:S.most < S.kept.length + 1
    ·have hg1:decide ((S.most:Int) < (S.kept.length:Int) + 1)=true:=(by simp;omega);have hg2:decide (S.most < S.kept.length + 1)=true:=(by simp;omega);have HF:Hid (S.store C.room (fk,fs)={ ({ (S:SS) with kept:=(S:SS).kept ++ [(fk,fs)] }:SS) with most:=S.kept.length + 1 }):=zF (by rw [zA HST];unfold zCq;rw [if_pos hgt]);have hfin:=hS6.setMost (S.kept.length + 1);go_wp2_with fail
     go_end0
     refine ⟨rfl,?_⟩;rw [zA HF];exact ⟨_,by simpa using hfin,hM7.setB 12 _⟩
    ·have hg1:decide ((S.most:Int) < (S.kept.length:Int) + 1)=false:=(by simp;omega);have hg2:decide (S.most < S.kept.length + 1)=false:=(by simp;omega);have HF:Hid (S.store C.room (fk,fs)={ (S:SS) with kept:=(S:SS).kept ++ [(fk,fs)] }):=zF (by rw [zA HST];unfold zCq;rw [if_neg hgt]);go_wp2_with fail
     go_end0
     refine ⟨rfl,?_⟩;rw [zA HF];exact ⟨_,hS6,hM7⟩
theorem zPX {w w':World} {k o:Nat} (h:w'.heap[k]?=w.heap[k]?):w'.cell? ⟨k,o,none⟩=w.cell? ⟨k,o,none⟩:=by
 unfold World.cell?;rw [h]
def zD1 (k:Nat):List Nat:=(List.range k).map (· + 1)
theorem zNK (k:Nat):zD1 (k + 1)=zD1 k ++ [k + 1]:=by unfold zD1;rw [List.range_succ,List.map_append];rfl
theorem zOp (k:Nat):(zD1 k).length=k:=by simp [zD1]
def zET (kept:List (Nat × Nat)) (k:Nat):List Nat:=((kept.take k).filter (fun f=>f.1 == 1)).map (·.2)
theorem zL7 (kept:List (Nat × Nat)) (k:Nat) (h:k < kept.length):zET kept (k + 1)=zET kept k ++ (if kept[k].1 == 1 then [kept[k].2] else []):=by
 unfold zET;rw [List.take_succ_eq_append_getElem h,List.filter_append,List.map_append]
 congr 1
 cases hh:(kept[k].1 == 1)<;>simp [hh]
theorem zMp (kept:List (Nat × Nat)) (k:Nat):(zET kept k).length≤k:=by
 unfold zET;rw [List.length_map];exact Nat.le_trans (List.length_filter_le _ _) (by simp;omega)
theorem zJb (l:List Nat) (n:Nat):zu (l ++ [n])=zu l ++ [.int .i64 (n:Int)]:=by simp [zu]
theorem zRQ:(Tryz.prog.info? 3).map (fun i=>(i.zero,i.size,i.bytes))=some (some (.int .i64 0),1,8):=by kernel_rfl
def zLf (C:SC) (S:SS) (w:World) (e:Ending) (w':World):Prop:=∃ v,e=.returned v∧w'.ownsRow w.heap.size 3 1 v (zg C.q S.kept).length (zu (zg C.q S.kept))∧Below w.heap.size w w'
theorem zKz (b:Nat) (C:SC) (S:SS) (V:SV) (w:World) (hS:SAt w b C S V) (hB:SBd C S) :
  Calls Tryz.prog 109 #[.pointer (some ⟨b,0,none⟩)] w fun e w'=>zLf C S w e w':=by
 obtain ⟨aC,cC,hCf⟩:=zN hS.oC;obtain ⟨aK,cK,hKf⟩:=hS.oK.form;obtain ⟨i1,hi1,hz10,hz11,hz12⟩:=info_parts zRQ;have hbw:=zB hS.fb;have c1:w.cell? ⟨b,1,none⟩=some (.slice aC C.q.cl.length cC):=(by rw [zC hS.fb];exact congrArg some hCf);have hcl:=hB.qb.cl;have hkl:=hB.kept
 go_enter Tryz.func109,Tryz.ntmps109
 go_wp2_with fail
 go_loopg [3,13] (C.q.cl.length) (fun m vl i wx=>∃ (k:Nat),i=.int .i64 k∧k + m=C.q.cl.length∧wx.ownsRow w.heap.size 3 1 vl (zD1 k).length (zu (zD1 k))∧Below w.heap.size w wx)
 case atStart=>exact ⟨0,rfl,by omega,World.ownsRow_nil _ _ _ _,Below.refl _ _⟩
 case round=>
  obtain ⟨k,rfl,hkm,hown,hb⟩:=hrel;have hlk:=zOp k;have hbs:=hb.size;obtain ⟨aL,cL,rfl⟩:=zN hown
  by_cases hlt:k < C.q.cl.length
  ·have hd1:decide ((k:Int) < (C.q.cl.length:Int))=true:=decide_eq_true (by omega);have hd2:decide (k < C.q.cl.length)=true:=decide_eq_true hlt;have HSU:Hid (zD1 (k + 1)=zD1 k ++ [k + 1]):=zF (zNK k);have HIS:=zF (zJb (zD1 k) (k + 1))
   go_wp2_with (at_builtin;refine zV rfl (.tmp 16) (.tmp 19) 25 rfl w.heap.size i1 (.int .i64 0) 1 8 Tryz.underlying25 hi1 hz10 hz11 hz12 rfl (by decide) _ _ _ hown rfl rfl rfl (by simp [Value.oneCell']) (by unfold maxLen;omega) (by omega) hbs ?_;intro v4 w4 hown4 hgrow4 hnn4)
   have hB4:Below w.heap.size w w4:=za hb hgrow4 hown (Nat.le_refl _) hbs;obtain ⟨a4,c4,rfl⟩:=zN hown4;go_wp2_with fail
   go_roundg (gk - 1)
   case measure=>omega
   case rel=>exact ⟨k + 1,by go_num,by omega,by rw [zA HSU,zA HIS];simpa using hown4,hB4⟩
  ·have hke:k=C.q.cl.length:=(by omega);subst hke;have hd1:decide ((C.q.cl.length:Int) < (C.q.cl.length:Int))=false:=(by simp);have hSr:=hS.later hb;have c11:wr.cell? ⟨b,11,none⟩=some (.slice aK S.kept.length cK):=(by rw [zC hSr.fb];exact congrArg some hKf);have lbr:=zB hSr.fb;have hrow:=hSr.oK;rw [hKf] at hrow;go_wp2_with fail;have hA2:Below w.heap.size w wr:=hb;obtain ⟨wo,rfl⟩:∃ wo,wo=wr:=⟨_,rfl⟩
   go_loopg [3,28] (S.kept.length) (fun m vl i wx=>∃ (k:Nat) (L:List Nat),L=zD1 C.q.cl.length ++ zET S.kept k∧i=.int .i64 k∧k + m=S.kept.length∧wx.ownsRow w.heap.size 3 1 vl L.length (zu L)∧Below w.heap.size w wx)
   case atStart=>exact ⟨0,zD1 C.q.cl.length,by simp [zET],rfl,by omega,hown,hb⟩
   case round=>
    obtain ⟨k,L,hL,rfl,hkm,hown2,hb2⟩:=hrel;have hlk2:=zMp S.kept k;have hlen2:L.length≤1000:=(by rw [hL,List.length_append];omega);have HL:=zF hL;clear hL;have hbs2:=hb2.size;obtain ⟨aM,cM,rfl⟩:=zN hown2
    by_cases hlt2:k < S.kept.length
    ·have hd3:decide ((k:Int) < (S.kept.length:Int))=true:=decide_eq_true (by omega);have hd4:decide (k < S.kept.length)=true:=decide_eq_true hlt2;have hSx:=hS.later hb2;have hrowx:=hSx.oK;rw [hKf] at hrowx;obtain ⟨g,off,cap,hVe,hg',hcell⟩:=hrowx.cell (by omega);injection hVe with hVe _ hV2;subst hVe hV2;obtain ⟨e0,e1⟩:=zAc S.kept k hlt2;have hx0:=hcell _ _ e0;have hx1:=hcell _ _ e1;have HSU:=zF (zL7 S.kept k hlt2);clear hcell e0 e1;generalize S.kept[k]=f at *;obtain ⟨fk,fs⟩:=f;dsimp only at *;have hA:Below wr.heap.size wr (wr.alloc (.cells #[.int .i64 (fk:Int),.int .i64 (fs:Int)] 129)):=(Below.refl _ _).alloc (Nat.le_refl _) _;have hfa:=heap_alloc_new wr (.cells #[.int .i64 (fk:Int),.int .i64 (fs:Int)] 129);have hown3:=zO hown2 hA;have hb3:=hb2.trans (hA.mono hb2.size);rw [← Nat.add_assoc] at hx1
     by_cases hk1:fk=1
     ·subst hk1;have HS2:Hid (L ++ [fs]=zD1 C.q.cl.length ++ zET S.kept (k + 1)):=zF (by rw [zA HSU,zA HL];simp);have HIS:=zF (zJb L fs);have hbs3:=hb3.size
      go_wp2_with (at_builtin;refine zBL rfl _ _ 25 rfl w.heap.size i1 (.int .i64 0) 1 8 Tryz.underlying25 hi1 hz10 hz11 hz12 rfl (by decide) _ _ _ hown3 rfl _ rfl (by simp) rfl (by simp [Value.oneCell']) (by unfold maxLen;omega) (by omega) hbs3 ?_;intro v4 w4 hown4 hgrow4 hnn4)
      have hB4:Below w.heap.size w w4:=za hb3 hgrow4 hown3 (Nat.le_refl _) hbs3;obtain ⟨a4,c4,rfl⟩:=zN hown4;go_wp2_with fail
      go_roundg (gk - 1)
      case measure=>omega
      case rel=>exact ⟨k + 1,L ++ [fs],zA HS2,by go_num,by omega,by rw [zA HIS];simpa using hown4,hB4⟩
     ·have HS2:Hid (L=zD1 C.q.cl.length ++ zET S.kept (k + 1)):=zF (by rw [zA HSU,if_neg (by simpa using hk1),List.append_nil];exact zA HL);have hq:((fk:Int) == 1)=false:=(by rw [beq_eq_false_iff_ne];omega);clear hk1;go_wp2_with fail
      go_roundg (gk - 1)
      case measure=>omega
      case rel=>exact ⟨k + 1,L,zA HS2,by go_num,by omega,hown3,hb3⟩
    ·have hke:k=S.kept.length:=(by omega);subst hke;have hd3:decide ((S.kept.length:Int) < (S.kept.length:Int))=false:=(by simp);have HR:Hid (zg C.q S.kept=L):=zF (by rw [zA HL];unfold zg zD1 zET;rw [List.take_length]);go_wp2_with fail;go_ret;exact ⟨_,rfl,by rw [zA HR];exact hown2,hb2⟩
end Go.Proofs.YtgipjjhkhfihpaaGreatDoor
