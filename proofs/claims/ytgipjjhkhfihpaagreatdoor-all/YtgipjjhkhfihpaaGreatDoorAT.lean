import Derived.Test.YtgipjjhkhfihpaaGreatDoorAP
import Derived.Test.YtgipjjhkhfihpaaGreatDoorAQ
import Derived.Test.YtgipjjhkhfihpaaGreatDoorAR
import Derived.Test.YtgipjjhkhfihpaaGreatDoorAS
import Derived.Shelf.Strconv.Itoa3
import Derived.Ground.NamesProg
import Derived.Test.YtgipjjhkhfihpaaGreatDoorAF
import Derived.Test.YtgipjjhkhfihpaaGreatDoorAL
import Derived.Test.YtgipjjhkhfihpaaGreatDoorAN
import Derived.Lib.AppendIntMem
import Derived.Lib.ItoaLen
import Derived.Test.YtgipjjhkhfihpaaGreatDoorAM
import Derived.Lib.AppendStr
import Derived.Test.YtgipjjhkhfihpaaGreatDoorAE
set_option maxRecDepth 100000
set_option maxHeartbeats 6400000
namespace Go.Proofs.YtgipjjhkhfihpaaGreatDoor
open Go.RowKit
theorem zQh:∀ m,LookSpec m:=by
 intro m
 induction m with
 | zero=>exact zFL 0 zLy
 | succ m ih=>exact zFL (m + 1) (zLe m ih)
theorem zQR (vs:List (Nat × Bool)) (u:Nat × Nat) (h:u.1 < 512∧u.2 < 512):(zDL vs u).1 < 512∧(zDL vs u).2 < 512:=by
 unfold zDL
 induction vs generalizing u with
 | nil=>exact h
 | cons v vs ih=>
  rw [List.foldl_cons]
  apply ih
  split
  ·have h1:=zAZ u v.1 h.1 h.2;exact zAZ _ _ h1.1 h1.2
  ·exact h
theorem zON {q:QS} (hq:QGood q) {budget room:Nat} (hb:budget≤1048576) (hr:room≤64):CBd (zAo q budget room):=⟨hq,zIP hq,zQR _ _ ⟨by decide,by decide⟩,hb,hr⟩
theorem zLS {q:QS} (hq:QGood q) (budget room:Nat):LookIn (zAo q budget room) q.vars.length 0 (0,0) (zAf q):=by
 have h1:=hq.qb.vl;have h2:=hq.qb.cl;refine ⟨⟨zG7 hq budget room,?_,Nat.zero_le _⟩,zHA _,Nat.zero_add _,?_⟩
 ·show (z7 q.cl).length + 0≤100 + 12 * 0;rw [zBx];omega
 ·have h3:2 ^ (q.vars.length + 1)≤2 ^ 9:=Nat.pow_le_pow_right (by decide) (by omega);have h4:(2:Nat) ^ 9=512:=(by decide);show 0 + 2 ^ (q.vars.length + 1)≤2001;omega
def zBe (r:SS × (Nat × Nat)):Nat × List Stp:=if r.2.1=1 then (1,z6 r.1.ref r.2.2) else if r.2.1=2 then (2,z6 r.1.aff r.2.2) else (0,[])
theorem zOa {C:SC} {m:Nat} {path:Nat × Nat} {S:SS} {r:SS × (Nat × Nat)} (h:LookOk C m path S r):r.2.1=0∨r.2.1=1∨r.2.1=2:=by
 by_cases h0:r.2.1=0
 ·exact Or.inl h0
 ·exact Or.inr (h.fact h0).inn.kind
def zPY (r:SS × (Nat × Nat)) (w:World) (e:Ending) (w':World):Prop:=∃ v,e=.returned (.agg #[.int .i64 (r.2.1:Int),.int .i64 (r.1.nodes:Int),.int .i64 (r.1.most:Int),.int .i64 ((zBe r).1:Int),v])∧w'.ownsRow w.heap.size 134 6 v (zBe r).2.length (zAk (zBe r).2)∧Below w.heap.size w w'
theorem zNS (q:QS) (aV aC:Option Addr) (cV cC budget room:Nat) (w:World) (hoV:w.ownsRow 0 139 2 (.slice aV q.vars.length cV) q.vars.length (zd q.vars)) (hoC:w.ownsRow 0 74 2 (.slice aC q.cl.length cC) q.cl.length (zAK q.cl)) (hq:QGood q) (hbu:budget≤1048576) (hro:room≤64) :
  Calls Tryz.prog 41 #[.agg #[.slice aV q.vars.length cV,.slice aC q.cl.length cC],.int .i64 (budget:Int),.int .i64 (room:Int)] w fun e w'=>zPY (zAC q budget room) w e w':=by
 have hvl:=hq.qb.vl;have hcl:=hq.qb.cl;have hcb:=zON hq hbu hro;have hin:=zLS hq budget room;have hlk:=hin.lk hcb;have hlo:=hin.out hcb;have HSM:Hid (zAC q budget room=z8 (zAo q budget room) q.vars.length (0,0) 0 (zAf q)):=zF rfl
 go_enter Tryz.func41,Tryz.ntmps41
 go_wp2_with fail;generalize hw0:((w.alloc (.cells #[.slice aV q.vars.length cV,.slice aC q.cl.length cC] 60)).alloc (.cells #[.int .i64 0,.int .i64 0,.int .i64 0,.int .i64 0,.slice none 0 0] 97))=u1;have hB:Below w.heap.size w u1:=(by rw [← hw0];exact ((Below.refl _ _).alloc (Nat.le_refl _) _).alloc (by simp;try omega) _);have hfo:u1.heap[w.heap.size]?=some (.cells #[.slice aV q.vars.length cV,.slice aC q.cl.length cC] 60 (0,0)):=(by rw [← hw0,heap_alloc_old _ _ (by simp;try omega)];exact zP (by simp));have hrs:u1.heap[w.heap.size + 1]?=some (.cells #[.int .i64 0,.int .i64 0,.int .i64 0,.int .i64 0,.slice none 0 0] 97 (0,0)):=(by rw [← hw0];exact zP (by simp));clear hw0;obtain ⟨cfo0,cfo1⟩:=zJ hfo;have lfo:=zB hfo;obtain ⟨crs0,crs1,crs2,crs3,crs4⟩:=zGc hrs;have lrs:=zB hrs;have hoV1:=zO hoV hB;have hoC1:=zO hoC hB;refine (zPh q aV aC cV cC budget room _ hoV1 hoC1 hq.qb hbu hro).mono ?_;rintro e u2 ⟨b0,V,rfl,hS0,hVv,hVc,hfr,hfa,hfk,b2⟩;replace hB:=hB.trans (b2.mono hB.size);replace hrs:=zH b2 hrs;have hrl:w.heap.size + 1 < u1.heap.size:=lrs;clear hfo cfo0 cfo1 lfo crs0 crs1 crs2 crs3 crs4 lrs;obtain ⟨aR,cR,hVR⟩:=zN hS0.oR;obtain ⟨aA,cA,hVA⟩:=zN hS0.oA;obtain ⟨aK,cK,hVK⟩:=hS0.oK.form;have HCS:Hid (zCc (zAo q budget room) (zAf q) V=#[.slice aV q.vars.length cV,.slice aC q.cl.length cC,.int .i64 ((zAo q budget room).uni.1:Int),.int .i64 ((zAo q budget room).uni.2:Int),.int .i64 (budget:Int),.int .i64 0,.int .i64 1,.slice aR (zAf q).ref.length cR,.int .i64 2,.slice aA (zAf q).aff.length cA,.int .i64 (room:Int),.slice aK (zAf q).kept.length cK,.int .i64 0]):=zF (by simp only [zCc,hVv,hVc,hVR,hVA,hVK];rfl);rw [zA HCS];obtain ⟨C,hCe⟩:∃ X,X=zAo q budget room:=⟨_,rfl⟩;obtain ⟨S,hSe⟩:∃ X,X=zAf q:=⟨_,rfl⟩;have hCq:C.q=q:=(by rw [hCe];rfl);rw [← hCe] at hcb hin hlk hlo HSM hS0 HCS ⊢;rw [← hSe] at hin hlk hlo HSM hS0 HCS ⊢;clear hCe hSe;obtain ⟨⟨n1,n2⟩,hne⟩:∃ X,X=C.uni:=⟨_,rfl⟩;rw [← hne] at HCS ⊢;clear hne;dsimp only at HCS ⊢;generalize hLR:S.ref.length=lr at *;generalize hLA:S.aff.length=la at *;generalize hLK:S.kept.length=lk at *;go_wp2_with fail;have hA3:Below u2.heap.size u2 (u2.alloc (.cells #[.slice aV q.vars.length cV,.slice aC q.cl.length cC,.int .i64 (n1:Int),.int .i64 (n2:Int),.int .i64 (budget:Int),.int .i64 0,.int .i64 1,.slice aR lr cR,.int .i64 2,.slice aA la cA,.int .i64 (room:Int),.slice aK lk cK,.int .i64 0] 126)):=(Below.refl _ _).alloc (Nat.le_refl _) _;have hSb:(u2.alloc (.cells #[.slice aV q.vars.length cV,.slice aC q.cl.length cC,.int .i64 (n1:Int),.int .i64 (n2:Int),.int .i64 (budget:Int),.int .i64 0,.int .i64 1,.slice aR lr cR,.int .i64 2,.slice aA la cA,.int .i64 (room:Int),.slice aK lk cK,.int .i64 0] 126)).heap[u2.heap.size]?=some (.cells (zCc C S V) 126 (0,0)):=(by rw [zA HCS];exact heap_alloc_new _ _);have hS9:=hS0.later hA3;have hS:SAt (u2.alloc (.cells #[.slice aV q.vars.length cV,.slice aC q.cl.length cC,.int .i64 (n1:Int),.int .i64 (n2:Int),.int .i64 (budget:Int),.int .i64 0,.int .i64 1,.slice aR lr cR,.int .i64 2,.slice aA la cA,.int .i64 (room:Int),.slice aK lk cK,.int .i64 0] 126)) u2.heap.size C S V:=⟨hSb,hS9.oV,hS9.oC,hS9.oR,hS9.oA,hS9.oK,hS9.ap⟩;have hl2:w.heap.size + 1 < u2.heap.size:=zB hrs;replace hrs:=(hA3.block _ hl2).trans hrs;replace hB:=hB.trans (hA3.mono hB.size);have nrs:Far u2.heap.size V (w.heap.size + 1):=⟨by omega,fun e=>(by rw [hVv] at e;have:=(hoV.lt _ e).2;omega),fun e=>(by rw [hVc] at e;have:=(hoC.lt _ e).2;omega),fun e=>(by have:=hfr _ e;omega),fun e=>(by have:=hfa _ e;omega),fun e=>(by have:=hfk _ e;omega)⟩;have HFR:Hid ((∀ k,V.r.ownBlock=some k→w.heap.size≤k)∧(∀ k,V.a.ownBlock=some k→w.heap.size≤k)∧(∀ k,V.k.ownBlock=some k→w.heap.size≤k)):=zF ⟨fun k hk=>(by have:=hfr _ hk;omega),fun k hk=>(by have:=hfa _ hk;omega),fun k hk=>(by have:=hfk _ hk;omega)⟩;clear hSb hS9 hS0 HCS hfr hfa hfk hVR hVA hVK;generalize (u2.alloc (.cells #[.slice aV q.vars.length cV,.slice aC q.cl.length cC,.int .i64 (n1:Int),.int .i64 (n2:Int),.int .i64 (budget:Int),.int .i64 0,.int .i64 1,.slice aR lr cR,.int .i64 2,.slice aA la cA,.int .i64 (room:Int),.slice aK lk cK,.int .i64 0] 126))=u3 at *;clear hA3;refine (zQh q.vars.length u2.heap.size C S V (0,0) 0 _ hcb hin hS).mono ?_;rintro e u4 ⟨rfl,V2,hS2,hM2⟩;have lrs:=zB hrs;replace hrs:=hM2.blk hrs nrs;replace nrs:=hM2.far lrs nrs;have hB4:=hM2.only.under hB (Nat.le_refl _) (fun k hk=>by
  rcases hk with hk | hk | hk | hk
  ·omega
  ·exact (zA HFR).1 k hk
  ·exact (zA HFR).2.1 k hk
  ·exact (zA HFR).2.2 k hk)
 replace hB:=hB4;replace hS:=hS2;clear hB4 hS2 hM2 lrs HFR;generalize z8 C q.vars.length (0,0) 0 S=R at *;obtain ⟨S4,f1,f2⟩:=R;have hki:=zOa hlk;have hpl1:=hlo.plen 1;have hpl2:=hlo.plen 2;dsimp only at hS hlo hki hpl1 hpl2 ⊢;have HSX:Hid (zAC q budget room=(S4,f1,f2)):=HSM;have cb5:u4.cell? ⟨u2.heap.size,5,none⟩=some (.int .i64 (S4.nodes:Int)):=zE hS.fb rfl;have cb12:u4.cell? ⟨u2.heap.size,12,none⟩=some (.int .i64 (S4.most:Int)):=zE hS.fb rfl;have lb:=zB hS.fb
 rcases hki with hki | hki | hki
 ·have hd1:((f1:Int) == 1)=false:=(by rw [beq_eq_false_iff_ne];omega);have hn1:(f1 == 1)=false:=(by rw [beq_eq_false_iff_ne];omega);have hd2:((f1:Int) == 2)=false:=(by rw [beq_eq_false_iff_ne];omega);have hn2:(f1 == 2)=false:=(by rw [beq_eq_false_iff_ne];omega);have HSP:Hid (zBe (S4,f1,f2)=(0,[])):=zF (by unfold zBe;rw [if_neg (show ¬ f1=1 by omega),if_neg (show ¬ f1=2 by omega)]);clear hki;have hA5:Below u4.heap.size u4 ((u4.alloc (.cells #[.int .i64 (f1:Int),.int .i64 (f2:Int)] 129)).alloc (.cells #[.int .i64 (f1:Int),.int .i64 (S4.nodes:Int),.int .i64 (S4.most:Int),.int .i64 0,.slice none 0 0] 97)):=((Below.refl _ _).alloc (Nat.le_refl _) _).alloc (by simp) _;have hrs5:=zH hA5 hrs;have hB5:=hB.trans (hA5.mono hB.size)
  go_wp2_with (refine wpList_store_row rfl 97 _ _ rfl (w.heap.size + 1) _ rfl rfl 97 _ hrs5 (by kernel_rfl) rfl (by simp [Value.oneCell']) ?_)
  refine bodyPost_ret (v:=.agg #[.int .i64 (f1:Int),.int .i64 (S4.nodes:Int),.int .i64 (S4.most:Int),.int .i64 0,.slice none 0 0]) (results_cell_row rfl _ _ (w.heap.size + 1) 97 _ (0,0) _ rfl (setRow_heap _ _ _ _ _ _ hrs5) Tryz.underlying97 rfl (by kernel_rfl)) rfl ?_;rw [zA HSX];refine ⟨.slice none 0 0,by rw [zA HSP];rfl,by rw [zA HSP];exact World.ownsRow_nil _ _ _ _,below_setRow hB5 (Nat.le_succ _) _⟩
 ·have hd1:((f1:Int) == 1)=true:=(by rw [beq_iff_eq];omega);have hn1:(f1 == 1)=true:=(by rw [beq_iff_eq];exact hki);have hd2:((f1:Int) == 2)=false:=(by rw [beq_eq_false_iff_ne];omega);have hn2:(f1 == 2)=false:=(by rw [beq_eq_false_iff_ne];omega);have HSP:Hid (zBe (S4,f1,f2)=(1,z6 S4.ref f2)):=zF (by unfold zBe;rw [if_pos (show f1=1 from hki)]);clear hki;have hA5:Below u4.heap.size u4 ((u4.alloc (.cells #[.int .i64 (f1:Int),.int .i64 (f2:Int)] 129)).alloc (.cells #[.int .i64 (f1:Int),.int .i64 (S4.nodes:Int),.int .i64 (S4.most:Int),.int .i64 0,.slice none 0 0] 97)):=((Below.refl _ _).alloc (Nat.le_refl _) _).alloc (by simp) _;have hrs5:=zH hA5 hrs;have hB5:=hB.trans (hA5.mono hB.size);have hfd:((u4.alloc (.cells #[.int .i64 (f1:Int),.int .i64 (f2:Int)] 129)).alloc (.cells #[.int .i64 (f1:Int),.int .i64 (S4.nodes:Int),.int .i64 (S4.most:Int),.int .i64 0,.slice none 0 0] 97)).heap[u4.heap.size]?=some (.cells #[.int .i64 (f1:Int),.int .i64 (f2:Int)] 129 (0,0)):=(by rw [heap_alloc_old _ _ (by simp)];exact zP (by simp));have han:((u4.alloc (.cells #[.int .i64 (f1:Int),.int .i64 (f2:Int)] 129)).alloc (.cells #[.int .i64 (f1:Int),.int .i64 (S4.nodes:Int),.int .i64 (S4.most:Int),.int .i64 0,.slice none 0 0] 97)).heap[u4.heap.size + 1]?=some (.cells #[.int .i64 (f1:Int),.int .i64 (S4.nodes:Int),.int .i64 (S4.most:Int),.int .i64 0,.slice none 0 0] 97 (0,0)):=zP (by simp);have hS5:=hS.later hA5;go_wp2_with fail;have hz45:u4.heap.size + 2=((u4.alloc (.cells #[.int .i64 (f1:Int),.int .i64 (f2:Int)] 129)).alloc (.cells #[.int .i64 (f1:Int),.int .i64 (S4.nodes:Int),.int .i64 (S4.most:Int),.int .i64 0,.slice none 0 0] 97)).heap.size:=(by simp);generalize ((u4.alloc (.cells #[.int .i64 (f1:Int),.int .i64 (f2:Int)] 129)).alloc (.cells #[.int .i64 (f1:Int),.int .i64 (S4.nodes:Int),.int .i64 (S4.most:Int),.int .i64 0,.slice none 0 0] 97))=u5 at *;refine (zJm u2.heap.size 6 (zCc C S4 V2) 126 S4.ref V2.r 1 f2 _ (hS5.pat (Or.inl rfl)) (by have:=hpl1;exact Nat.le_trans this (by decide))).mono ?_;rintro e u6 ⟨v6,rfl,ho6,b6⟩;replace hrs5:=zH b6 hrs5;replace han:=zH b6 han;replace hB5:=hB5.trans (b6.mono hB5.size);obtain ⟨a6,c6,rfl⟩:=zN ho6;generalize hSL:z6 S4.ref f2=sl at *;have z3:=zD han 3;have z4:=zD han 4;obtain ⟨-,-,-,q3,q4⟩:=zGc han;have lan:=zB han;have hanS:((u6.setCell ⟨u4.heap.size + 1,3,none⟩ (.int .i64 1)).setCell ⟨u4.heap.size + 1,4,none⟩ (.slice a6 sl.length c6)).heap[u4.heap.size + 1]?=some (.cells #[.int .i64 (f1:Int),.int .i64 (S4.nodes:Int),.int .i64 (S4.most:Int),.int .i64 1,.slice a6 sl.length c6] 97 (0,0)):=zI (zI han 3 (.int .i64 1)) 4 (.slice a6 sl.length c6);have hl4:w.heap.size + 1 < u4.heap.size:=zB hrs;have hrsS:=zf (zf hrs5 (c:=u4.heap.size + 1) (by omega) 3 (.int .i64 1)) (c:=u4.heap.size + 1) (by omega) 4 (.slice a6 sl.length c6);have hne:(Value.slice a6 sl.length c6).ownBlock≠some (u4.heap.size + 1):=fun e=>(by have:=zA0 ho6 e;omega)
  have hne2:(Value.slice a6 sl.length c6).ownBlock≠some (w.heap.size + 1):=fun e=>(by have:=zA0 ho6 e;omega)
  have hoS:=zR (zR ho6 (p:=⟨u4.heap.size + 1,3,none⟩) hne (.int .i64 1)) (p:=⟨u4.heap.size + 1,4,none⟩) hne (.slice a6 sl.length c6);have hBS:=(hB5.setCell (p:=⟨u4.heap.size + 1,3,none⟩) (show w.heap.size≤u4.heap.size + 1 by omega) (.int .i64 1)).setCell (p:=⟨u4.heap.size + 1,4,none⟩) (show w.heap.size≤u4.heap.size + 1 by omega) (.slice a6 sl.length c6)
  go_wp2_with (first | (refine wpList_load_row rfl 97 _ rfl (u4.heap.size + 1) rfl 97 _ (0,0) _ hanS Tryz.underlying97 rfl (by kernel_rfl) ?_) | (refine wpList_store_row rfl 97 _ _ rfl (w.heap.size + 1) _ rfl rfl 97 _ hrsS (by kernel_rfl) rfl (by simp [Value.oneCell']) ?_))
  refine bodyPost_ret (v:=.agg #[.int .i64 (f1:Int),.int .i64 (S4.nodes:Int),.int .i64 (S4.most:Int),.int .i64 1,.slice a6 sl.length c6]) (results_cell_row rfl _ _ (w.heap.size + 1) 97 _ (0,0) _ rfl (setRow_heap _ _ _ _ _ _ hrsS) Tryz.underlying97 rfl (by kernel_rfl)) rfl ?_;rw [zA HSX];refine ⟨.slice a6 sl.length c6,by rw [zA HSP];rfl,?_,below_setRow hBS (Nat.le_succ _) _⟩;rw [zA HSP];exact zAG (zY hoS (zFN _ (w.heap.size + 1) _) (fun k hk e=>hne2 (by rw [hk,e]))) (by omega)
 ·have hd1:((f1:Int) == 1)=false:=(by rw [beq_eq_false_iff_ne];omega);have hn1:(f1 == 1)=false:=(by rw [beq_eq_false_iff_ne];omega);have hd2:((f1:Int) == 2)=true:=(by rw [beq_iff_eq];omega);have hn2:(f1 == 2)=true:=(by rw [beq_iff_eq];exact hki);have HSP:Hid (zBe (S4,f1,f2)=(2,z6 S4.aff f2)):=zF (by unfold zBe;rw [if_neg (show ¬ f1=1 by omega),if_pos (show f1=2 from hki)]);clear hki;have hA5:Below u4.heap.size u4 ((u4.alloc (.cells #[.int .i64 (f1:Int),.int .i64 (f2:Int)] 129)).alloc (.cells #[.int .i64 (f1:Int),.int .i64 (S4.nodes:Int),.int .i64 (S4.most:Int),.int .i64 0,.slice none 0 0] 97)):=((Below.refl _ _).alloc (Nat.le_refl _) _).alloc (by simp) _;have hrs5:=zH hA5 hrs;have hB5:=hB.trans (hA5.mono hB.size);have hfd:((u4.alloc (.cells #[.int .i64 (f1:Int),.int .i64 (f2:Int)] 129)).alloc (.cells #[.int .i64 (f1:Int),.int .i64 (S4.nodes:Int),.int .i64 (S4.most:Int),.int .i64 0,.slice none 0 0] 97)).heap[u4.heap.size]?=some (.cells #[.int .i64 (f1:Int),.int .i64 (f2:Int)] 129 (0,0)):=(by rw [heap_alloc_old _ _ (by simp)];exact zP (by simp));have han:((u4.alloc (.cells #[.int .i64 (f1:Int),.int .i64 (f2:Int)] 129)).alloc (.cells #[.int .i64 (f1:Int),.int .i64 (S4.nodes:Int),.int .i64 (S4.most:Int),.int .i64 0,.slice none 0 0] 97)).heap[u4.heap.size + 1]?=some (.cells #[.int .i64 (f1:Int),.int .i64 (S4.nodes:Int),.int .i64 (S4.most:Int),.int .i64 0,.slice none 0 0] 97 (0,0)):=zP (by simp);have hS5:=hS.later hA5;go_wp2_with fail;have hz45:u4.heap.size + 2=((u4.alloc (.cells #[.int .i64 (f1:Int),.int .i64 (f2:Int)] 129)).alloc (.cells #[.int .i64 (f1:Int),.int .i64 (S4.nodes:Int),.int .i64 (S4.most:Int),.int .i64 0,.slice none 0 0] 97)).heap.size:=(by simp);generalize ((u4.alloc (.cells #[.int .i64 (f1:Int),.int .i64 (f2:Int)] 129)).alloc (.cells #[.int .i64 (f1:Int),.int .i64 (S4.nodes:Int),.int .i64 (S4.most:Int),.int .i64 0,.slice none 0 0] 97))=u5 at *;refine (zJm u2.heap.size 8 (zCc C S4 V2) 126 S4.aff V2.a 2 f2 _ (hS5.pat (Or.inr rfl)) (by have:=hpl2;exact Nat.le_trans this (by decide))).mono ?_;rintro e u6 ⟨v6,rfl,ho6,b6⟩;replace hrs5:=zH b6 hrs5;replace han:=zH b6 han;replace hB5:=hB5.trans (b6.mono hB5.size);obtain ⟨a6,c6,rfl⟩:=zN ho6;generalize hSL:z6 S4.aff f2=sl at *;have z3:=zD han 3;have z4:=zD han 4;obtain ⟨-,-,-,q3,q4⟩:=zGc han;have lan:=zB han;have hanS:((u6.setCell ⟨u4.heap.size + 1,3,none⟩ (.int .i64 2)).setCell ⟨u4.heap.size + 1,4,none⟩ (.slice a6 sl.length c6)).heap[u4.heap.size + 1]?=some (.cells #[.int .i64 (f1:Int),.int .i64 (S4.nodes:Int),.int .i64 (S4.most:Int),.int .i64 2,.slice a6 sl.length c6] 97 (0,0)):=zI (zI han 3 (.int .i64 2)) 4 (.slice a6 sl.length c6);have hl4:w.heap.size + 1 < u4.heap.size:=zB hrs;have hrsS:=zf (zf hrs5 (c:=u4.heap.size + 1) (by omega) 3 (.int .i64 2)) (c:=u4.heap.size + 1) (by omega) 4 (.slice a6 sl.length c6);have hne:(Value.slice a6 sl.length c6).ownBlock≠some (u4.heap.size + 1):=fun e=>(by have:=zA0 ho6 e;omega)
  have hne2:(Value.slice a6 sl.length c6).ownBlock≠some (w.heap.size + 1):=fun e=>(by have:=zA0 ho6 e;omega)
  have hoS:=zR (zR ho6 (p:=⟨u4.heap.size + 1,3,none⟩) hne (.int .i64 2)) (p:=⟨u4.heap.size + 1,4,none⟩) hne (.slice a6 sl.length c6);have hBS:=(hB5.setCell (p:=⟨u4.heap.size + 1,3,none⟩) (show w.heap.size≤u4.heap.size + 1 by omega) (.int .i64 2)).setCell (p:=⟨u4.heap.size + 1,4,none⟩) (show w.heap.size≤u4.heap.size + 1 by omega) (.slice a6 sl.length c6)
  go_wp2_with (first | (refine wpList_load_row rfl 97 _ rfl (u4.heap.size + 1) rfl 97 _ (0,0) _ hanS Tryz.underlying97 rfl (by kernel_rfl) ?_) | (refine wpList_store_row rfl 97 _ _ rfl (w.heap.size + 1) _ rfl rfl 97 _ hrsS (by kernel_rfl) rfl (by simp [Value.oneCell']) ?_))
  refine bodyPost_ret (v:=.agg #[.int .i64 (f1:Int),.int .i64 (S4.nodes:Int),.int .i64 (S4.most:Int),.int .i64 2,.slice a6 sl.length c6]) (results_cell_row rfl _ _ (w.heap.size + 1) 97 _ (0,0) _ rfl (setRow_heap _ _ _ _ _ _ hrsS) Tryz.underlying97 rfl (by kernel_rfl)) rfl ?_;rw [zA HSX];refine ⟨.slice a6 sl.length c6,by rw [zA HSP];rfl,?_,below_setRow hBS (Nat.le_succ _) _⟩;rw [zA HSP];exact zAG (zY hoS (zFN _ (w.heap.size + 1) _) (fun k hk e=>hne2 (by rw [hk,e]))) (by omega)
end Go.Proofs.YtgipjjhkhfihpaaGreatDoor
namespace Go.Proofs
open Go.Shelf
def Tryz.laysItoa_ren:Go.Shelf.Ren:=⟨fun | 171=>94 | 243=>121 | 246=>137 | 283=>141 | 284=>142 | 285=>143 | 286=>144 | 129=>146 | 317=>145 | 318=>147 | 319=>148 | 320=>149 | 337=>150 | 338=>151 | n=>n,fun | 3=>3 | 9=>9 | 2=>2 | 4=>4 | 171=>199 | 0=>0 | 53=>200 | 37=>114 | 5=>5 | 173=>203 | 212=>206 | 51=>207 | 20=>20 | 213=>208 | 46=>209 | 232=>212 | 233=>213 | n=>n,fun | 17=>0 | 18=>1 | 19=>2 | n=>n⟩
theorem Tryz.laysItoa:Go.Proofs.LaysM.n171 Tryz.prog Tryz.laysItoa_ren:={
 mixed:=by kernel_rfl
 f129:=Tryz.func146.trans (congrArg some (by kernel_rfl))
 f171:=Tryz.func94.trans (congrArg some (by kernel_rfl))
 f243:=Tryz.func121.trans (congrArg some (by kernel_rfl))
 f246:=Tryz.func137.trans (congrArg some (by kernel_rfl))
 f283:=Tryz.func141.trans (congrArg some (by kernel_rfl))
 f284:=Tryz.func142.trans (congrArg some (by kernel_rfl))
 f285:=Tryz.func143.trans (congrArg some (by kernel_rfl))
 f286:=Tryz.func144.trans (congrArg some (by kernel_rfl))
 f317:=Tryz.func145.trans (congrArg some (by kernel_rfl))
 f318:=Tryz.func147.trans (congrArg some (by kernel_rfl))
 f319:=Tryz.func148.trans (congrArg some (by kernel_rfl))
 f320:=Tryz.func149.trans (congrArg some (by kernel_rfl))
 f337:=Tryz.func150.trans (congrArg some (by kernel_rfl))
 f338:=Tryz.func151.trans (congrArg some (by kernel_rfl))
 t0:=Tryz.underlying0
 a0:=Tryz.isAgg0
 z0:=Tryz.sizeOf0
 v0:=Tryz.zeroValue0
 t2:=Tryz.underlying2
 a2:=Tryz.isAgg2
 z2:=Tryz.sizeOf2
 v2:=Tryz.zeroValue2
 t3:=Tryz.underlying3
 a3:=Tryz.isAgg3
 z3:=Tryz.sizeOf3
 v3:=Tryz.zeroValue3
 t4:=Tryz.underlying4
 a4:=Tryz.isAgg4
 z4:=Tryz.sizeOf4
 v4:=Tryz.zeroValue4
 t5:=Tryz.underlying5
 a5:=Tryz.isAgg5
 z5:=Tryz.sizeOf5
 v5:=Tryz.zeroValue5
 t9:=Tryz.underlying9
 a9:=Tryz.isAgg9
 z9:=Tryz.sizeOf9
 v9:=Tryz.zeroValue9
 t20:=Tryz.underlying20
 a20:=Tryz.isAgg20
 z20:=Tryz.sizeOf20
 v20:=Tryz.zeroValue20
 t37:=Tryz.underlying114
 a37:=Tryz.isAgg114
 z37:=Tryz.sizeOf114
 v37:=Tryz.zeroValue114
 t46:=Tryz.underlying209
 a46:=Tryz.isAgg209
 z46:=Tryz.sizeOf209
 v46:=Tryz.zeroValue209
 t51:=Tryz.underlying207
 a51:=Tryz.isAgg207
 z51:=Tryz.sizeOf207
 v51:=Tryz.zeroValue207
 t53:=Tryz.underlying200
 a53:=Tryz.isAgg200
 z53:=Tryz.sizeOf200
 v53:=Tryz.zeroValue200
 t171:=Tryz.underlying199
 a171:=Tryz.isAgg199
 z171:=Tryz.sizeOf199
 v171:=Tryz.zeroValue199
 t173:=Tryz.underlying203
 a173:=Tryz.isAgg203
 z173:=Tryz.sizeOf203
 v173:=Tryz.zeroValue203
 t212:=Tryz.underlying206
 a212:=Tryz.isAgg206
 z212:=Tryz.sizeOf206
 v212:=Tryz.zeroValue206
 t213:=Tryz.underlying208
 a213:=Tryz.isAgg208
 z213:=Tryz.sizeOf208
 t232:=Tryz.underlying212
 a232:=Tryz.isAgg212
 z232:=Tryz.sizeOf212
 v232:=Tryz.zeroValue212
 t233:=Tryz.underlying213
 a233:=Tryz.isAgg213
 z233:=Tryz.sizeOf213
 v233:=Tryz.zeroValue213
 g17:=by kernel_rfl
 g18:=by kernel_rfl
 g19:=by kernel_rfl
 i0:=by kernel_rfl
 i2:=by kernel_rfl
 i3:=by kernel_rfl
 i4:=by kernel_rfl
 i5:=by kernel_rfl
 i9:=by kernel_rfl
 i20:=by kernel_rfl
 i37:=by kernel_rfl
 i46:=by kernel_rfl
 i51:=by kernel_rfl
 i53:=by kernel_rfl
 i171:=by kernel_rfl
 i173:=by kernel_rfl
 i212:=by kernel_rfl
 i232:=by kernel_rfl
 i233:=by kernel_rfl
 m17:=by kernel_rfl
 m18:=by kernel_rfl
 m19:=by kernel_rfl }
end Go.Proofs
namespace Go.Proofs.YtgipjjhkhfihpaaGreatDoor
open Go.RowKit
def TabAt (w:World):Prop:=Lib.TabIs Tryz.prog w "internal/strconv.uint64pow10" .u64 Lib.pow10Tab
theorem zMv (w:World) (k:Nat) (os:Array Obj):Below w.heap.size w (Sort.grow (w.drewN k) os):=by
 have h:=below_drewN (Below.refl w.heap.size w) k;refine ⟨h.os,h.tape,h.output,?_,fun i hi=>?_⟩
 ·have h2:=h.size;show w.heap.size≤((w.drewN k).heap ++ os).size;rw [Array.size_append];omega
 ·show ((w.drewN k).heap ++ os)[i]?=_;rw [Array.getElem?_append_left (Nat.lt_of_lt_of_le hi h.size)];exact h.block i hi
theorem zEV (n:Int) (h0:-9223372036854775808≤n) (h1:n≤9223372036854775807) (w:World) (ht:TabAt w) :
  Calls Tryz.prog 94 #[.int .i64 n] w fun e w'=>e=.returned (.string ⟨(Lib.itoa n).toArray⟩)∧Below w.heap.size w w':=
 (Any.strconv_Itoa Tryz.laysItoa n h0 h1 w ht).mono fun e w' ⟨he,k,os,hw⟩=>⟨he,by rw [hw];exact zMv w k os⟩
theorem TabAt.later {w w':World} (h:TabAt w) (hb:Below w.heap.size w w'):TabAt w':=Lib.tabBelow_of_tabIs h w' hb
def zGn (s:Stp):List UInt8:=[114,32] ++ Lib.itoa s.first ++ [32] ++ Lib.itoa s.second ++ [32] ++ Lib.itoa s.var ++ [10]
theorem zJB (a b c:List UInt8):ByteArray.mk #[114,32] ++ ByteArray.mk a.toArray ++ ByteArray.mk #[32] ++ ByteArray.mk b.toArray ++ ByteArray.mk #[32] ++ ByteArray.mk c.toArray ++ ByteArray.mk #[10]=ByteArray.mk ([114,32] ++ a ++ [32] ++ b ++ [32] ++ c ++ [10]).toArray:=by
 rw [show (ByteArray.mk #[114,32])=ByteArray.mk ([114,32]:List UInt8).toArray from rfl,show (ByteArray.mk #[32])=ByteArray.mk ([32]:List UInt8).toArray from rfl,show (ByteArray.mk #[10])=ByteArray.mk ([10]:List UInt8).toArray from rfl];simp only [zBV]
theorem zGR (s:Stp) (w:World) (ht:TabAt w) (h1:s.first≤1048576) (h2:s.second≤1048576) (h3:s.var≤1048576) :
  Calls Tryz.prog 96 #[zCi s] w fun e w'=>e=.returned (.string ⟨(zGn s).toArray⟩)∧Below w.heap.size w w':=by
 obtain ⟨sr,sf,ss,sv,l1,l2⟩:=s;dsimp only at h1 h2 h3 ⊢;have HR:Hid (zGn ⟨sr,sf,ss,sv,(l1,l2)⟩=[114,32] ++ Lib.itoa (sf:Int) ++ [32] ++ Lib.itoa (ss:Int) ++ [32] ++ Lib.itoa (sv:Int) ++ [10]):=zF rfl
 go_enter Tryz.func96,Tryz.ntmps96
 go_wp2_with fail;generalize hw0:(w.alloc (.cells #[.int .i64 (sr:Int),.int .i64 (sf:Int),.int .i64 (ss:Int),.int .i64 (sv:Int),.int .i64 (l1:Int),.int .i64 (l2:Int)] 134))=u1;have hB:Below w.heap.size w u1:=(by rw [← hw0];exact (Below.refl _ _).alloc (Nat.le_refl _) _);have hst:u1.heap[w.heap.size]?=some (.cells #[.int .i64 (sr:Int),.int .i64 (sf:Int),.int .i64 (ss:Int),.int .i64 (sv:Int),.int .i64 (l1:Int),.int .i64 (l2:Int)] 134 (0,0)):=(by rw [← hw0];exact zP (by simp));clear hw0;obtain ⟨cst0,cst1,cst2,cst3,cst4,cst5⟩:=zAH hst;have lst:=zB hst;have ht0:=ht.later hB;refine (zEV (sf:Int) (by omega) (by omega) _ ht0).mono ?_;rintro e u2 ⟨rfl,b2⟩;replace hB:=hB.trans (b2.mono hB.size);replace hst:=zH b2 hst;clear cst0 cst1 cst2 cst3 cst4 cst5;obtain ⟨cst0,cst1,cst2,cst3,cst4,cst5⟩:=zAH hst;replace lst:=zB hst;have hx0:=Lib.itoa_length_le (sf:Int) (by omega) (by omega);generalize Lib.itoa (sf:Int)=x0 at *;go_wp2_with fail;have ht1:=ht.later hB;refine (zEV (ss:Int) (by omega) (by omega) _ ht1).mono ?_;rintro e u3 ⟨rfl,b3⟩;replace hB:=hB.trans (b3.mono hB.size);replace hst:=zH b3 hst;clear cst0 cst1 cst2 cst3 cst4 cst5;obtain ⟨cst0,cst1,cst2,cst3,cst4,cst5⟩:=zAH hst;replace lst:=zB hst;have hx1:=Lib.itoa_length_le (ss:Int) (by omega) (by omega);generalize Lib.itoa (ss:Int)=x1 at *;go_wp2_with fail;have ht2:=ht.later hB;refine (zEV (sv:Int) (by omega) (by omega) _ ht2).mono ?_;rintro e u4 ⟨rfl,b4⟩;replace hB:=hB.trans (b4.mono hB.size);replace hst:=zH b4 hst;clear cst0 cst1 cst2 cst3 cst4 cst5;obtain ⟨cst0,cst1,cst2,cst3,cst4,cst5⟩:=zAH hst;replace lst:=zB hst;have hx2:=Lib.itoa_length_le (sv:Int) (by omega) (by omega);generalize Lib.itoa (sv:Int)=x2 at *;go_wp2_with fail;have HE:=zF (zJB x0 x1 x2);go_ret;exact ⟨by rw [zA HE,zA HR];rfl,hB⟩
def zBK (l:List Int):List UInt8:=l.flatMap (fun x=>32 :: Lib.itoa x)
theorem zI7 (l:List Int) (x:Int):zBK (l ++ [x])=zBK l ++ 32 :: Lib.itoa x:=by simp [zBK]
def zIJ (s:Stp):List UInt8:=[99] ++ zBK (zAJ s.lits) ++ [10]
theorem zMX (a b:List UInt8):ByteArray.mk ([99] ++ a).toArray ++ (ByteArray.mk #[32] ++ ByteArray.mk b.toArray)=ByteArray.mk ([99] ++ (a ++ 32 :: b)).toArray:=by
 rw [show (ByteArray.mk #[32])=ByteArray.mk ([32]:List UInt8).toArray from rfl,zBV,zBV];simp
theorem zQI (a:List UInt8):ByteArray.mk ([99] ++ a).toArray ++ ByteArray.mk #[10]=ByteArray.mk ([99] ++ a ++ [10]).toArray:=by
 rw [show (ByteArray.mk #[10])=ByteArray.mk ([10]:List UInt8).toArray from rfl,zBV]
theorem zRn (l:List Int) (k:Nat) (h:k < l.length):(zHm l)[k]?=some (.int .i64 l[k]):=by simp [zHm,h]
theorem zOj (c:Nat × Nat):∀ x∈zAJ c,-8≤x∧x≤8:=zHo c 8 1 (by decide) (by decide)
theorem zKV (s:Stp) (w:World) (ht:TabAt w) (hl:s.lits.1 < 512∧s.lits.2 < 512) :
  Calls Tryz.prog 95 #[zCi s] w fun e w'=>e=.returned (.string ⟨(zIJ s).toArray⟩)∧Below w.heap.size w w':=by
 obtain ⟨sr,sf,ss,sv,l1,l2⟩:=s;dsimp only at hl ⊢;have HR:Hid (zIJ ⟨sr,sf,ss,sv,(l1,l2)⟩=[99] ++ zBK (zAJ (l1,l2)) ++ [10]):=zF rfl;have hbd:=zOj (l1,l2);have hll:(zAJ (l1,l2)).length≤16:=zGf (l1,l2) 8 1
 go_enter Tryz.func95,Tryz.ntmps95
 go_wp2_with fail;generalize hw0:(w.alloc (.cells #[.int .i64 (sr:Int),.int .i64 (sf:Int),.int .i64 (ss:Int),.int .i64 (sv:Int),.int .i64 (l1:Int),.int .i64 (l2:Int)] 134))=u1;have hB:Below w.heap.size w u1:=(by rw [← hw0];exact (Below.refl _ _).alloc (Nat.le_refl _) _);have hst:u1.heap[w.heap.size]?=some (.cells #[.int .i64 (sr:Int),.int .i64 (sf:Int),.int .i64 (ss:Int),.int .i64 (sv:Int),.int .i64 (l1:Int),.int .i64 (l2:Int)] 134 (0,0)):=(by rw [← hw0];exact zP (by simp));clear hw0;obtain ⟨cst0,cst1,cst2,cst3,cst4,cst5⟩:=zAH hst;have lst:=zB hst;refine (zLv l1 l2 _ hl.1 hl.2).mono ?_;rintro e u2 ⟨vL,rfl,hrow,b2⟩;replace hB:=hB.trans (b2.mono hB.size);replace hst:=zH b2 hst;clear cst0 cst1 cst2 cst3 cst4 cst5;obtain ⟨cst0,cst1,cst2,cst3,cst4,cst5⟩:=zAH hst;replace lst:=zB hst;generalize zAJ (l1,l2)=ls at *;have HBD:=zF hbd;clear hbd;obtain ⟨aL,cL,rfl⟩:=zN hrow;go_wp2_with fail
 go_loopg [3,10] (ls.length) (fun m sv i wx=>∃ (k:Nat) (bs:List UInt8),sv=.string ⟨bs.toArray⟩∧i=.int .i64 k∧k + m=ls.length∧bs=[99] ++ zBK (ls.take k)∧bs.length≤1 + 22 * k∧Below w.heap.size w wx∧Below u2.heap.size u2 wx)
 case atStart=>exact ⟨0,[99],rfl,rfl,by omega,rfl,by decide,hB,Below.refl _ _⟩
 case round=>
  obtain ⟨k,bs,rfl,rfl,hkm,hbs,hbl,hbw,hbu⟩:=hrel;have HBS:=zF hbs;clear hbs
  by_cases hlt:k < ls.length
  ·have hd3:decide ((k:Int) < (ls.length:Int))=true:=decide_eq_true (by omega);have hd4:decide (k < ls.length)=true:=decide_eq_true hlt;obtain ⟨g,cap,hVe,_,hg',_,hcell⟩:=zS (zO hrow hbu) (by omega);injection hVe with hVe _ hV2;subst hVe hV2;have hx:=hcell _ _ (zRn ls k hlt);have hb8:=zA HBD _ (List.getElem_mem hlt);have HTK:=zF (List.take_succ_eq_append_getElem hlt);clear hcell;generalize ls[k]=x at *;have htr:=ht.later hbw;have hxl:=Lib.itoa_length_le x (by omega) (by omega);go_wp2_with fail;refine (zEV x (by omega) (by omega) _ htr).mono ?_;rintro e u9 ⟨rfl,b9⟩;have HSN:=zF (zI7 (ls.take k) x);generalize Lib.itoa x=y at *;have HE:=zF (zMX (zBK (ls.take k)) y);rw [← zA HBS] at HE;have HN:Hid ([99] ++ (zBK (ls.take k) ++ 32 :: y)=[99] ++ zBK (ls.take (k + 1))):=zF (by rw [zA HTK,zA HSN]);go_wp2_with fail
   go_roundg (gk - 1)
   case measure=>omega
   case rel=>exact ⟨k + 1,[99] ++ (zBK (ls.take k) ++ 32 :: y),by rw [zA HE],by go_num,by omega,zA HN,by rw [← List.append_assoc,← zA HBS,List.length_append,List.length_cons];omega,hbw.trans (b9.mono hbw.size),hbu.trans (b9.mono hbu.size)⟩
  ·have hd3:decide ((k:Int) < (ls.length:Int))=false:=decide_eq_false (by omega);have hd4:decide (k < ls.length)=false:=decide_eq_false hlt;have HN:Hid (bs=[99] ++ zBK ls):=zF (by rw [zA HBS,List.take_of_length_le (by omega)]);have HE:=zF (zQI (zBK ls));rw [← zA HN] at HE;go_wp2_with fail;go_ret;exact ⟨by rw [zA HE,zA HR,← zA HN];rfl,hbw⟩
structure zJY (s:Stp):Prop where
 first:s.first≤1048576
 second:s.rule=3→s.second≤1048576
 var:s.rule=3→s.var≤1048576
 lits:s.lits.1 < 512∧s.lits.2 < 512
theorem zNo (l:List Int):∀ x:List UInt8,zDa (x :: l.map Lib.itoa)=x ++ zBK l:=by
 induction l with
 | nil=>intro x;simp [zDa,zBK]
 | cons a l ih=>
  intro x;rw [List.map_cons];show x ++ 32 :: zDa (Lib.itoa a :: l.map Lib.itoa)=_;rw [ih];simp [zBK]
theorem zGk (n:Nat):Lib.itoa (n:Int)=Lib.decDigits n:=zGr n
theorem zRm (c:UInt8) (s:Stp) (h:zCd s=[[c],Lib.decDigits s.first]):zA2 s ++ [10]=[c,32] ++ Lib.itoa (s.first:Int) ++ [10]:=by
 unfold zA2;rw [h,zGk];simp [zDa]
theorem zRf (s:Stp) (h:s.rule=3):zA2 s ++ [10]=zGn s:=by
 unfold zA2 zCd zGn;rw [if_neg (by omega),if_neg (by omega),if_pos h,zGk,zGk,zGk];simp [zDa]
theorem zO5 (s:Stp) (h:s.rule=2):zA2 s ++ [10]=zIJ s:=by
 unfold zA2 zCd zIJ;rw [if_neg (by omega),if_pos h,zNo]
theorem zJS (c:UInt8) (a:List UInt8):ByteArray.mk #[c,32] ++ ByteArray.mk a.toArray ++ ByteArray.mk #[10]=ByteArray.mk ([c,32] ++ a ++ [10]).toArray:=by
 rw [show (ByteArray.mk #[c,32])=ByteArray.mk ([c,32]:List UInt8).toArray from rfl,show (ByteArray.mk #[10])=ByteArray.mk ([10]:List UInt8).toArray from rfl];simp only [zBV]
theorem zLp (s:Stp) (w:World) (ht:TabAt w) (hs:zJY s) :
  Calls Tryz.prog 64 #[zCi s] w fun e w'=>e=.returned (.string ⟨(zA2 s ++ [10]).toArray⟩)∧Below w.heap.size w w':=by
 obtain ⟨h1,h2,h3,h4⟩:=hs;have HC:=zF (zKV s);have HRL:=zF (zGR s);have HL2:=zF (zO5 s);have HL3:=zF (zRf s);have HO:=zF (fun c h=>zRm c s h);have HWP:Hid (zCd s=if s.rule=1 then [[97],Lib.decDigits s.first] else if s.rule=2 then [99] :: (zAJ s.lits).map Lib.itoa else if s.rule=3 then [[114],Lib.decDigits s.first,Lib.decDigits s.second,Lib.decDigits s.var] else [[100],Lib.decDigits s.first]):=zF rfl;obtain ⟨sr,sf,ss,sv,l1,l2⟩:=s;dsimp only at h1 h2 h3 h4 HC HRL HL2 HL3 HO HWP ⊢
 rcases (show sr=1∨sr=2∨sr=3∨(sr≠1∧sr≠2∧sr≠3) by omega) with hr | hr | hr | hr
 ·have HF:Hid (zA2 ⟨sr,sf,ss,sv,(l1,l2)⟩ ++ [10]=[97,32] ++ Lib.itoa (sf:Int) ++ [10]):=zF (zA HO 97 (by rw [zA HWP,if_pos hr]));have hd1:((sr:Int) == 1)=true:=(by rw [beq_iff_eq];omega);have hn1:(sr == 1)=true:=(by rw [beq_iff_eq];exact hr);have hd2:((sr:Int) == 2)=false:=(by rw [beq_eq_false_iff_ne];omega);have hn2:(sr == 2)=false:=(by rw [beq_eq_false_iff_ne];omega);have hd3:((sr:Int) == 3)=false:=(by rw [beq_eq_false_iff_ne];omega);have hn3:(sr == 3)=false:=(by rw [beq_eq_false_iff_ne];omega);clear hr HL2 HL3 HO HWP h2 h3
  go_enter Tryz.func64,Tryz.ntmps64
  go_wp2_with fail;generalize hw0:(w.alloc (.cells #[.int .i64 (sr:Int),.int .i64 (sf:Int),.int .i64 (ss:Int),.int .i64 (sv:Int),.int .i64 (l1:Int),.int .i64 (l2:Int)] 134))=u1;have hB:Below w.heap.size w u1:=(by rw [← hw0];exact (Below.refl _ _).alloc (Nat.le_refl _) _);have hst:u1.heap[w.heap.size]?=some (.cells #[.int .i64 (sr:Int),.int .i64 (sf:Int),.int .i64 (ss:Int),.int .i64 (sv:Int),.int .i64 (l1:Int),.int .i64 (l2:Int)] 134 (0,0)):=(by rw [← hw0];exact zP (by simp));clear hw0;obtain ⟨cst0,cst1,cst2,cst3,cst4,cst5⟩:=zAH hst;have lst:=zB hst;have ht0:=ht.later hB;have hxl:=Lib.itoa_length_le (sf:Int) (by omega) (by omega);refine (zEV (sf:Int) (by omega) (by omega) _ ht0).mono ?_;rintro e u2 ⟨rfl,b2⟩;replace hB:=hB.trans (b2.mono hB.size);replace hst:=zH b2 hst;clear cst0 cst1 cst2 cst3 cst4 cst5;obtain ⟨cst0,cst1,cst2,cst3,cst4,cst5⟩:=zAH hst;replace lst:=zB hst;generalize Lib.itoa (sf:Int)=x at *;have HE:=zF (zJS 97 x);go_wp2_with fail;go_ret;exact ⟨by rw [zA HE,zA HF];rfl,hB⟩
 ·have HF:Hid (zA2 ⟨sr,sf,ss,sv,(l1,l2)⟩ ++ [10]=zIJ ⟨sr,sf,ss,sv,(l1,l2)⟩):=zF (zA HL2 hr);have hd1:((sr:Int) == 1)=false:=(by rw [beq_eq_false_iff_ne];omega);have hn1:(sr == 1)=false:=(by rw [beq_eq_false_iff_ne];omega);have hd2:((sr:Int) == 2)=true:=(by rw [beq_iff_eq];omega);have hn2:(sr == 2)=true:=(by rw [beq_iff_eq];exact hr);have hd3:((sr:Int) == 3)=false:=(by rw [beq_eq_false_iff_ne];omega);have hn3:(sr == 3)=false:=(by rw [beq_eq_false_iff_ne];omega);clear hr HL2 HL3 HO HWP h2 h3
  go_enter Tryz.func64,Tryz.ntmps64
  go_wp2_with fail;generalize hw0:(w.alloc (.cells #[.int .i64 (sr:Int),.int .i64 (sf:Int),.int .i64 (ss:Int),.int .i64 (sv:Int),.int .i64 (l1:Int),.int .i64 (l2:Int)] 134))=u1;have hB:Below w.heap.size w u1:=(by rw [← hw0];exact (Below.refl _ _).alloc (Nat.le_refl _) _);have hst:u1.heap[w.heap.size]?=some (.cells #[.int .i64 (sr:Int),.int .i64 (sf:Int),.int .i64 (ss:Int),.int .i64 (sv:Int),.int .i64 (l1:Int),.int .i64 (l2:Int)] 134 (0,0)):=(by rw [← hw0];exact zP (by simp));clear hw0;obtain ⟨cst0,cst1,cst2,cst3,cst4,cst5⟩:=zAH hst;have lst:=zB hst;have ht0:=ht.later hB;refine (zA HC _ ht0 h4).mono ?_;rintro e u2 ⟨rfl,b2⟩;replace hB:=hB.trans (b2.mono hB.size);replace hst:=zH b2 hst;clear cst0 cst1 cst2 cst3 cst4 cst5;obtain ⟨cst0,cst1,cst2,cst3,cst4,cst5⟩:=zAH hst;replace lst:=zB hst;go_wp2_with fail;go_ret;exact ⟨by rw [zA HF];rfl,hB⟩
 ·have HF:Hid (zA2 ⟨sr,sf,ss,sv,(l1,l2)⟩ ++ [10]=zGn ⟨sr,sf,ss,sv,(l1,l2)⟩):=zF (zA HL3 hr);replace h2:=h2 hr;replace h3:=h3 hr;have hd1:((sr:Int) == 1)=false:=(by rw [beq_eq_false_iff_ne];omega);have hn1:(sr == 1)=false:=(by rw [beq_eq_false_iff_ne];omega);have hd2:((sr:Int) == 2)=false:=(by rw [beq_eq_false_iff_ne];omega);have hn2:(sr == 2)=false:=(by rw [beq_eq_false_iff_ne];omega);have hd3:((sr:Int) == 3)=true:=(by rw [beq_iff_eq];omega);have hn3:(sr == 3)=true:=(by rw [beq_iff_eq];exact hr);clear hr HL2 HL3 HO HWP
  go_enter Tryz.func64,Tryz.ntmps64
  go_wp2_with fail;generalize hw0:(w.alloc (.cells #[.int .i64 (sr:Int),.int .i64 (sf:Int),.int .i64 (ss:Int),.int .i64 (sv:Int),.int .i64 (l1:Int),.int .i64 (l2:Int)] 134))=u1;have hB:Below w.heap.size w u1:=(by rw [← hw0];exact (Below.refl _ _).alloc (Nat.le_refl _) _);have hst:u1.heap[w.heap.size]?=some (.cells #[.int .i64 (sr:Int),.int .i64 (sf:Int),.int .i64 (ss:Int),.int .i64 (sv:Int),.int .i64 (l1:Int),.int .i64 (l2:Int)] 134 (0,0)):=(by rw [← hw0];exact zP (by simp));clear hw0;obtain ⟨cst0,cst1,cst2,cst3,cst4,cst5⟩:=zAH hst;have lst:=zB hst;have ht0:=ht.later hB;refine (zA HRL _ ht0 h1 h2 h3).mono ?_;rintro e u2 ⟨rfl,b2⟩;replace hB:=hB.trans (b2.mono hB.size);replace hst:=zH b2 hst;clear cst0 cst1 cst2 cst3 cst4 cst5;obtain ⟨cst0,cst1,cst2,cst3,cst4,cst5⟩:=zAH hst;replace lst:=zB hst;go_wp2_with fail;go_ret;exact ⟨by rw [zA HF];rfl,hB⟩
 ·have HF:Hid (zA2 ⟨sr,sf,ss,sv,(l1,l2)⟩ ++ [10]=[100,32] ++ Lib.itoa (sf:Int) ++ [10]):=zF (zA HO 100 (by rw [zA HWP,if_neg hr.1,if_neg hr.2.1,if_neg hr.2.2]));have hd1:((sr:Int) == 1)=false:=(by rw [beq_eq_false_iff_ne];omega);have hn1:(sr == 1)=false:=(by rw [beq_eq_false_iff_ne];omega);have hd2:((sr:Int) == 2)=false:=(by rw [beq_eq_false_iff_ne];omega);have hn2:(sr == 2)=false:=(by rw [beq_eq_false_iff_ne];omega);have hd3:((sr:Int) == 3)=false:=(by rw [beq_eq_false_iff_ne];omega);have hn3:(sr == 3)=false:=(by rw [beq_eq_false_iff_ne];omega);clear hr HL2 HL3 HO HWP h2 h3
  go_enter Tryz.func64,Tryz.ntmps64
  go_wp2_with fail;generalize hw0:(w.alloc (.cells #[.int .i64 (sr:Int),.int .i64 (sf:Int),.int .i64 (ss:Int),.int .i64 (sv:Int),.int .i64 (l1:Int),.int .i64 (l2:Int)] 134))=u1;have hB:Below w.heap.size w u1:=(by rw [← hw0];exact (Below.refl _ _).alloc (Nat.le_refl _) _);have hst:u1.heap[w.heap.size]?=some (.cells #[.int .i64 (sr:Int),.int .i64 (sf:Int),.int .i64 (ss:Int),.int .i64 (sv:Int),.int .i64 (l1:Int),.int .i64 (l2:Int)] 134 (0,0)):=(by rw [← hw0];exact zP (by simp));clear hw0;obtain ⟨cst0,cst1,cst2,cst3,cst4,cst5⟩:=zAH hst;have lst:=zB hst;have ht0:=ht.later hB;have hxl:=Lib.itoa_length_le (sf:Int) (by omega) (by omega);refine (zEV (sf:Int) (by omega) (by omega) _ ht0).mono ?_;rintro e u2 ⟨rfl,b2⟩;replace hB:=hB.trans (b2.mono hB.size);replace hst:=zH b2 hst;clear cst0 cst1 cst2 cst3 cst4 cst5;obtain ⟨cst0,cst1,cst2,cst3,cst4,cst5⟩:=zAH hst;replace lst:=zB hst;generalize Lib.itoa (sf:Int)=x at *;have HE:=zF (zJS 100 x);go_wp2_with fail;go_ret;exact ⟨by rw [zA HE,zA HF];rfl,hB⟩
def zAs (l:List UInt8):List Value:=l.map fun b=>Value.int .u8 b.toNat
theorem zFs (l:List UInt8):Lib.strCells ⟨l.toArray⟩=zAs l:=by simp [Lib.strCells,zAs]
theorem zE5 (a b:List UInt8):zAs (a ++ b)=zAs a ++ zAs b:=by simp [zAs]
def zEN (truth:Bool):List UInt8:=zGo truth ++ [10]
def zBy (truth:Bool) (p:List Stp):List UInt8:=zEN truth ++ p.flatMap (fun s=>zA2 s ++ [10])
theorem zJf (truth:Bool) (p:List Stp):zBy truth p=zDM truth p:=by
 unfold zBy zDM zFv zEN;simp [List.flatMap_map]
theorem zHl (truth:Bool) (p:List Stp) (s:Stp):zBy truth (p ++ [s])=zBy truth p ++ (zA2 s ++ [10]):=by simp [zBy]
theorem zQ5 (b o:Nat) (cells:Array Value) (t:TypeId) (p:List Stp) (vS:Value) (kind:Nat) (w:World) (hP:PAt w b o cells t p vS kind) (hk:kind=1∨kind=2) (ht:TabAt w) (hbd:∀ s∈p,zJY s) (hlen:∀ s∈p,(zA2 s).length≤400) (hl:p.length≤100000) :
  Calls Tryz.prog 42 #[.pointer (some ⟨b,o,none⟩)] w fun e w'=>e=.returned (.string ⟨(zDM (kind == 2) p).toArray⟩)∧Below w.heap.size w w':=by
 obtain ⟨aS,cS,rfl⟩:=zN hP.own;have hbw:=zB hP.fb;have ck1:w.cell? ⟨b,o,none⟩=some (.int .i64 (kind:Int)):=(by rw [zC hP.fb];exact hP.ck);have cs1:w.cell? ⟨b,o + 1,none⟩=some (.slice aS p.length cS):=(by rw [zC hP.fb];exact hP.cs);obtain ⟨i1,hi1,hz10,hz11,hz12⟩:=info_parts (show (Tryz.prog.info? 5).map (fun i=>(i.zero,i.size,i.bytes))=some (some (.int .u8 0),1,1) by kernel_rfl)
 rcases hk with hk | hk
 ·skip
  have hd1:((kind:Int) == 2)=false:=(by rw [beq_eq_false_iff_ne];omega);have hd2:(kind == 2)=false:=(by rw [beq_eq_false_iff_ne];omega);clear hk;have HTT:Hid (zDM false p=zBy false p):=zF (by rw [zJf])
  go_enter Tryz.func42,Tryz.ntmps42
  go_wp2_with (at_builtin;refine Lib.wpList_append_own_string _ rfl _ _ 114 9 rfl w.heap.size 5 i1 Tryz.underlying114 Tryz.underlying9 hi1 hz10 hz11 hz12 _ 0 [] rfl (World.ownsRow_nil _ _ _ _) _ rfl (by decide) (by decide) (Nat.le_refl _) ?_;intro v1 w1 hown1 hgrow1 hnn1;have hown2:w1.ownsRow w.heap.size 5 1 v1 (zEN false).length (zAs (zEN false)):=hown1;have hB1:Below w.heap.size w w1:=za (Below.refl _ _) hgrow1 (World.ownsRow_nil w w.heap.size 5 1) (Nat.le_refl _) (Nat.le_refl _);obtain ⟨a1,c1,rfl⟩:=zN hown2;have cs2:w1.cell? ⟨b,o + 1,none⟩=some (.slice aS p.length cS):=(by rw [hB1.cell (p:=⟨b,o + 1,none⟩) hbw];exact cs1);have lb1:b < w1.heap.size:=Nat.lt_of_lt_of_le hbw hB1.size;clear hown1 hgrow1 hnn1)
  go_loopg [4,21] (p.length) (fun m tv i wx=>∃ (k:Nat) (acc:List UInt8),i=.int .i64 k∧k + m=p.length∧acc=zBy false (p.take k)∧acc.length≤12 + 401 * k∧wx.ownsRow w.heap.size 5 1 tv acc.length (zAs acc)∧Below w.heap.size w wx)
  case atStart=>exact ⟨0,zEN false,rfl,by omega,by simp [zBy],by decide,hown2,hB1⟩
  case round=>
   clear cs2 lb1 hown2 hB1;obtain ⟨k,acc,rfl,hkm,hac,hal,hown,hB⟩:=hrel;have HAC:=zF hac;clear hac;obtain ⟨aV,cV,rfl⟩:=zN hown;have hPr:=hP.later hB;have hbs:=hB.size
   by_cases hlt:k < p.length
   ·have hd3:decide ((k:Int) < (p.length:Int))=true:=decide_eq_true (by omega);have hd4:decide (k < p.length)=true:=decide_eq_true hlt;obtain ⟨g2,cap,hVe,_,hg2',_,hcell⟩:=zS hPr.own (by omega);injection hVe with hVe _ hV2;subst hVe hV2;have e0:wr.cell? ⟨g2,k * 6,none⟩=some (.int .i64 (p[k].rule:Int)):=hcell _ _ (zh p k 0 hlt (by omega));have e1:wr.cell? ⟨g2,k * 6 + 1,none⟩=some (.int .i64 (p[k].first:Int)):=hcell _ _ (zh p k 1 hlt (by omega));have e2:wr.cell? ⟨g2,k * 6 + 2,none⟩=some (.int .i64 (p[k].second:Int)):=hcell _ _ (zh p k 2 hlt (by omega));have e3:wr.cell? ⟨g2,k * 6 + 3,none⟩=some (.int .i64 (p[k].var:Int)):=hcell _ _ (zh p k 3 hlt (by omega));have e4:wr.cell? ⟨g2,k * 6 + 4,none⟩=some (.int .i64 (p[k].lits.1:Int)):=hcell _ _ (zh p k 4 hlt (by omega));have e5:wr.cell? ⟨g2,k * 6 + 5,none⟩=some (.int .i64 (p[k].lits.2:Int)):=hcell _ _ (zh p k 5 hlt (by omega));have hsb:=hbd _ (List.getElem_mem hlt);have hsl:=hlen _ (List.getElem_mem hlt);have HTK:Hid (zBy false (p.take (k + 1))=zBy false (p.take k) ++ (zA2 p[k] ++ [10])):=zF (by rw [List.take_succ_eq_append_getElem hlt,zHl]);clear hcell;generalize p[k]=st at *;obtain ⟨sr,sf,ss,sv,l1,l2⟩:=st;dsimp only at e0 e1 e2 e3 e4 e5;go_wp2_with fail;have hA:Below wr.heap.size wr (wr.alloc (.cells #[.int .i64 (sr:Int),.int .i64 (sf:Int),.int .i64 (ss:Int),.int .i64 (sv:Int),.int .i64 (l1:Int),.int .i64 (l2:Int)] 134)):=(Below.refl _ _).alloc (Nat.le_refl _) _;have hBA:=hB.trans (hA.mono hB.size);refine (zLp ⟨sr,sf,ss,sv,(l1,l2)⟩ _ (ht.later hBA) hsb).mono ?_;rintro e u5 ⟨rfl,b5⟩;have hB5:=hBA.trans (b5.mono hBA.size);have hA5:Below wr.heap.size wr u5:=hA.trans (b5.mono hA.size);have hown5:=zO hown hA5;have hbs5:=hB5.size;clear hBA hA b5 e0 e1 e2 e3 e4 e5;have hsl2:(zA2 ⟨sr,sf,ss,sv,(l1,l2)⟩ ++ [10]).length≤401:=(by rw [List.length_append];exact Nat.add_le_add_right hsl 1);generalize zA2 ⟨sr,sf,ss,sv,(l1,l2)⟩ ++ [10]=ln at *;have hszl:(ByteArray.mk ln.toArray).size=ln.length:=(by simp [ByteArray.size]);have HBV:Hid (zAs acc ++ Lib.strCells ⟨ln.toArray⟩=zAs (acc ++ ln)):=zF (by rw [zFs,zE5])
    go_wp2_with (at_builtin;refine Lib.wpList_append_own_string _ rfl _ _ 114 9 rfl w.heap.size 5 i1 Tryz.underlying114 Tryz.underlying9 hi1 hz10 hz11 hz12 _ acc.length (zAs acc) rfl hown5 ⟨ln.toArray⟩ rfl (by unfold maxLen;rw [hszl];omega) (by rw [hszl];omega) hbs5 ?_;intro v6 w6 hown6 hgrow6 hnn6)
    have hB6:Below w.heap.size w w6:=za hB5 hgrow6 hown5 (Nat.le_refl _) hbs5;rw [hszl,zA HBV] at hown6;obtain ⟨a6,c6,rfl⟩:=zN hown6;go_wp2_with fail
    go_roundg (gk - 1)
    case measure=>omega
    case rel=>exact ⟨k + 1,acc ++ ln,by go_num,by omega,by rw [zA HTK,zA HAC],by rw [List.length_append];omega,by rw [List.length_append];exact hown6,hB6⟩
   ·have hd3:decide ((k:Int) < (p.length:Int))=false:=decide_eq_false (by omega);have hd4:decide (k < p.length)=false:=decide_eq_false hlt;have HF:Hid (acc=zBy false p):=zF (by rw [zA HAC,List.take_of_length_le (by omega)]);have hpos:0 < acc.length:=(by rw [zA HF];unfold zBy;rw [List.length_append];exact Nat.lt_of_lt_of_le (show 0 < (zEN false).length by decide) (Nat.le_add_right _ _));obtain ⟨g3,cap3,hVe,_,hg3',_,hcell⟩:=zS hown hpos;injection hVe with hVe _ hV2;subst hVe hV2;have hcv:=run_convert_bytes_back (P:=Tryz.prog) wr 114 9 5 ⟨g3,0,none⟩ cV acc Tryz.underlying114 Tryz.underlying5 Tryz.underlying9 (fun j hj=>by
     rw [show (⟨g3,0,none⟩:Addr).add j=⟨g3,j,none⟩ from by unfold Addr.add;split<;>simp_all];exact hcell j _ (by simp [zAs,hj]))
    clear hcell;go_wp2_with fail;go_ret;exact ⟨by rw [zA HTT,← zA HF];rfl,hB⟩
 ·skip
  have hd1:((kind:Int) == 2)=true:=(by rw [beq_iff_eq];omega);have hd2:(kind == 2)=true:=(by rw [beq_iff_eq];omega);clear hk;have HTT:Hid (zDM true p=zBy true p):=zF (by rw [zJf])
  go_enter Tryz.func42,Tryz.ntmps42
  go_wp2_with (at_builtin;refine Lib.wpList_append_own_string _ rfl _ _ 114 9 rfl w.heap.size 5 i1 Tryz.underlying114 Tryz.underlying9 hi1 hz10 hz11 hz12 _ 0 [] rfl (World.ownsRow_nil _ _ _ _) _ rfl (by decide) (by decide) (Nat.le_refl _) ?_;intro v1 w1 hown1 hgrow1 hnn1;have hown2:w1.ownsRow w.heap.size 5 1 v1 (zEN true).length (zAs (zEN true)):=hown1;have hB1:Below w.heap.size w w1:=za (Below.refl _ _) hgrow1 (World.ownsRow_nil w w.heap.size 5 1) (Nat.le_refl _) (Nat.le_refl _);obtain ⟨a1,c1,rfl⟩:=zN hown2;have cs2:w1.cell? ⟨b,o + 1,none⟩=some (.slice aS p.length cS):=(by rw [hB1.cell (p:=⟨b,o + 1,none⟩) hbw];exact cs1);have lb1:b < w1.heap.size:=Nat.lt_of_lt_of_le hbw hB1.size;clear hown1 hgrow1 hnn1)
  go_loopg [4,21] (p.length) (fun m tv i wx=>∃ (k:Nat) (acc:List UInt8),i=.int .i64 k∧k + m=p.length∧acc=zBy true (p.take k)∧acc.length≤12 + 401 * k∧wx.ownsRow w.heap.size 5 1 tv acc.length (zAs acc)∧Below w.heap.size w wx)
  case atStart=>exact ⟨0,zEN true,rfl,by omega,by simp [zBy],by decide,hown2,hB1⟩
  case round=>
   clear cs2 lb1 hown2 hB1;obtain ⟨k,acc,rfl,hkm,hac,hal,hown,hB⟩:=hrel;have HAC:=zF hac;clear hac;obtain ⟨aV,cV,rfl⟩:=zN hown;have hPr:=hP.later hB;have hbs:=hB.size
   by_cases hlt:k < p.length
   ·have hd3:decide ((k:Int) < (p.length:Int))=true:=decide_eq_true (by omega);have hd4:decide (k < p.length)=true:=decide_eq_true hlt;obtain ⟨g2,cap,hVe,_,hg2',_,hcell⟩:=zS hPr.own (by omega);injection hVe with hVe _ hV2;subst hVe hV2;have e0:wr.cell? ⟨g2,k * 6,none⟩=some (.int .i64 (p[k].rule:Int)):=hcell _ _ (zh p k 0 hlt (by omega));have e1:wr.cell? ⟨g2,k * 6 + 1,none⟩=some (.int .i64 (p[k].first:Int)):=hcell _ _ (zh p k 1 hlt (by omega));have e2:wr.cell? ⟨g2,k * 6 + 2,none⟩=some (.int .i64 (p[k].second:Int)):=hcell _ _ (zh p k 2 hlt (by omega));have e3:wr.cell? ⟨g2,k * 6 + 3,none⟩=some (.int .i64 (p[k].var:Int)):=hcell _ _ (zh p k 3 hlt (by omega));have e4:wr.cell? ⟨g2,k * 6 + 4,none⟩=some (.int .i64 (p[k].lits.1:Int)):=hcell _ _ (zh p k 4 hlt (by omega));have e5:wr.cell? ⟨g2,k * 6 + 5,none⟩=some (.int .i64 (p[k].lits.2:Int)):=hcell _ _ (zh p k 5 hlt (by omega));have hsb:=hbd _ (List.getElem_mem hlt);have hsl:=hlen _ (List.getElem_mem hlt);have HTK:Hid (zBy true (p.take (k + 1))=zBy true (p.take k) ++ (zA2 p[k] ++ [10])):=zF (by rw [List.take_succ_eq_append_getElem hlt,zHl]);clear hcell;generalize p[k]=st at *;obtain ⟨sr,sf,ss,sv,l1,l2⟩:=st;dsimp only at e0 e1 e2 e3 e4 e5;go_wp2_with fail;have hA:Below wr.heap.size wr (wr.alloc (.cells #[.int .i64 (sr:Int),.int .i64 (sf:Int),.int .i64 (ss:Int),.int .i64 (sv:Int),.int .i64 (l1:Int),.int .i64 (l2:Int)] 134)):=(Below.refl _ _).alloc (Nat.le_refl _) _;have hBA:=hB.trans (hA.mono hB.size);refine (zLp ⟨sr,sf,ss,sv,(l1,l2)⟩ _ (ht.later hBA) hsb).mono ?_;rintro e u5 ⟨rfl,b5⟩;have hB5:=hBA.trans (b5.mono hBA.size);have hA5:Below wr.heap.size wr u5:=hA.trans (b5.mono hA.size);have hown5:=zO hown hA5;have hbs5:=hB5.size;clear hBA hA b5 e0 e1 e2 e3 e4 e5;have hsl2:(zA2 ⟨sr,sf,ss,sv,(l1,l2)⟩ ++ [10]).length≤401:=(by rw [List.length_append];exact Nat.add_le_add_right hsl 1);generalize zA2 ⟨sr,sf,ss,sv,(l1,l2)⟩ ++ [10]=ln at *;have hszl:(ByteArray.mk ln.toArray).size=ln.length:=(by simp [ByteArray.size]);have HBV:Hid (zAs acc ++ Lib.strCells ⟨ln.toArray⟩=zAs (acc ++ ln)):=zF (by rw [zFs,zE5])
    go_wp2_with (at_builtin;refine Lib.wpList_append_own_string _ rfl _ _ 114 9 rfl w.heap.size 5 i1 Tryz.underlying114 Tryz.underlying9 hi1 hz10 hz11 hz12 _ acc.length (zAs acc) rfl hown5 ⟨ln.toArray⟩ rfl (by unfold maxLen;rw [hszl];omega) (by rw [hszl];omega) hbs5 ?_;intro v6 w6 hown6 hgrow6 hnn6)
    have hB6:Below w.heap.size w w6:=za hB5 hgrow6 hown5 (Nat.le_refl _) hbs5;rw [hszl,zA HBV] at hown6;obtain ⟨a6,c6,rfl⟩:=zN hown6;go_wp2_with fail
    go_roundg (gk - 1)
    case measure=>omega
    case rel=>exact ⟨k + 1,acc ++ ln,by go_num,by omega,by rw [zA HTK,zA HAC],by rw [List.length_append];omega,by rw [List.length_append];exact hown6,hB6⟩
   ·have hd3:decide ((k:Int) < (p.length:Int))=false:=decide_eq_false (by omega);have hd4:decide (k < p.length)=false:=decide_eq_false hlt;have HF:Hid (acc=zBy true p):=zF (by rw [zA HAC,List.take_of_length_le (by omega)]);have hpos:0 < acc.length:=(by rw [zA HF];unfold zBy;rw [List.length_append];exact Nat.lt_of_lt_of_le (show 0 < (zEN true).length by decide) (Nat.le_add_right _ _));obtain ⟨g3,cap3,hVe,_,hg3',_,hcell⟩:=zS hown hpos;injection hVe with hVe _ hV2;subst hVe hV2;have hcv:=run_convert_bytes_back (P:=Tryz.prog) wr 114 9 5 ⟨g3,0,none⟩ cV acc Tryz.underlying114 Tryz.underlying5 Tryz.underlying9 (fun j hj=>by
     rw [show (⟨g3,0,none⟩:Addr).add j=⟨g3,j,none⟩ from by unfold Addr.add;split<;>simp_all];exact hcell j _ (by simp [zAs,hj]))
    clear hcell;go_wp2_with fail;go_ret;exact ⟨by rw [zA HTT,← zA HF];rfl,hB⟩
theorem zSl {q:QS} (hq:QB q) {k:Nat} {p:List Stp} {s:Stp} (h:zRV q k p s) (hp:p.length≤100000):zJY s:=by
 obtain ⟨h1,h2⟩:=h;have hcl:=hq.cl;refine ⟨?_,fun h3=>?_,fun h3=>?_,h1.bd⟩
 ·rcases h2 with ⟨_,_,_,h4,_⟩ | ⟨_,_,h4,_⟩ | ⟨_,h4,_⟩ | ⟨_,h4,_⟩
  ·omega
  ·omega
  ·omega
  ·omega
 ·rcases h2 with ⟨h4,_⟩ | ⟨h4,_⟩ | ⟨_,_,h4,_⟩ | ⟨h4,_⟩
  ·omega
  ·omega
  ·omega
  ·omega
 ·rcases h2 with ⟨h4,_⟩ | ⟨h4,_⟩ | ⟨_,_,_,⟨x,hx,h4,_⟩,_⟩ | ⟨h4,_⟩
  ·omega
  ·omega
  ·have:=hq.names x hx;omega
  ·omega
theorem zQM {q:QS} (hq:QB q) {k:Nat} {p:List Stp} (hp:POk q k p) {last:Nat} (h1:1≤last) (hl:last≤p.length) (hf:Free (zM p last)) (hpl:p.length≤90000):(∀ s∈z6 p last,zJY s)∧(∀ s∈z6 p last,(zA2 s).length≤400)∧(z6 p last).length≤100000:=by
 obtain ⟨s1,s2,s3,_⟩:=zLZ hp h1 hl hf;have hb:∀ s∈z6 p last,zJY s:=by
  intro s hs;obtain ⟨i,hi,rfl⟩:=List.mem_iff_getElem.1 hs;exact zSl hq (s1 i hi) (by rw [List.length_take];omega)
 have hst:∀ s∈z6 p last,(s.rule≠2→s.first < 1000000)∧(s.rule=3→s.second < 1000000∧s.var < 1000000):=by
  intro s hs;obtain ⟨i,hi,rfl⟩:=List.mem_iff_getElem.1 hs;have h:=(s1 i hi).2;have hcl:=hq.cl;have ht:((z6 p last).take i).length≤100000:=by rw [List.length_take];omega
  rcases h with ⟨h4,_,_,h5,_⟩ | ⟨h4,_⟩ | ⟨_,h4,h5,⟨x,hx,h6,_⟩,_⟩ | ⟨h4,h5,_⟩
  ·exact ⟨fun _=>by omega,fun e=>by omega⟩
  ·exact ⟨fun e=>absurd h4 e,fun e=>by omega⟩
  ·have:=hq.names x hx
   exact ⟨fun _=>by omega,fun _=>⟨by omega,by omega⟩⟩
  ·exact ⟨fun _=>by omega,fun e=>by omega⟩
 refine ⟨hb,fun s hs=>?_,by omega⟩
 have:=zEZ (s2 s hs) (hst s hs).1 (hst s hs).2
 omega
abbrev VdV (v:Vd):Value:=.agg #[.int .i64 (v.kind:Int),.int .i64 (v.nodes:Int),.int .i64 (v.lemmas:Int),.string ⟨v.text.toArray⟩]
theorem zLG {q:QS} (hq:QGood q) (budget room:Nat) (h:(zAC q budget room).2.1≠0):(∀ s∈(zBe (zAC q budget room)).2,zJY s)∧(∀ s∈(zBe (zAC q budget room)).2,(zA2 s).length≤400)∧(zBe (zAC q budget room)).2.length≤100000∧(zBe (zAC q budget room)).1=(zAC q budget room).2.1∧((zAC q budget room).2.1=1∨(zAC q budget room).2.1=2)∧(zBe (zAC q budget room)).2=z6 ((zAC q budget room).1.proof (zAC q budget room).2.1) (zAC q budget room).2.2:=by
 have hin:=zLS hq budget room;have hl:=zKA (C:=zAo q budget room) hq (zIP hq) q.vars.length 0 (0,0) (zAf q) hin.lin.inv hin.path hin.dm;have hsz:=hl.size;have hmo:=hl.most;have hm:=hin.most;have h24:zAw (zAf q)≤100 + 12 * (zAf q).nodes:=hin.lin.size;unfold zAC at h ⊢;generalize z8 (zAo q budget room) q.vars.length (0,0) 0 (zAf q)=r at *;have hf:=hl.fact h;have h0:(zAf q).nodes=0:=rfl;rw [h0] at hsz hmo hm h24;have hplen:(r.1.proof r.2.1).length≤90000:=by
  have:(r.1.proof r.2.1).length≤zAw r.1:=by
   unfold SS.proof zAw
   split<;>omega
  generalize 2 ^ (q.vars.length + 1)=X at *;omega
 obtain ⟨b1,b2,b3⟩:=zQM hq.qb (hl.inv.pok hf.inn.kind) hf.inn.lo hf.inn.hi hf.inn.free hplen;have hsp:zBe r=(r.2.1,z6 (r.1.proof r.2.1) r.2.2):=by
  unfold zBe SS.proof
  rcases hf.inn.kind with e | e
  ·rw [if_pos e,e];rfl
  ·rw [if_neg (by omega),if_pos e,e];rfl
 rw [hsp];exact ⟨b1,b2,b3,rfl,hf.inn.kind,rfl⟩
theorem zIH (b:Nat) (a l:Int) (w:World) (h:a < 0∨1048576 < a∨l < 0∨64 < l) :
  Calls Tryz.prog 22 #[.pointer (some ⟨b,0,none⟩),.int .i64 a,.int .i64 l] w fun e w'=>e=.returned (.tuple #[VdV ⟨0,0,0,[]⟩,.int .i64 4])∧Below w.heap.size w w':=by
 have HV:Hid (VdV ⟨0,0,0,[]⟩=.agg #[.int .i64 0,.int .i64 0,.int .i64 0,.string ⟨#[]⟩]):=zF rfl
 rcases (show a < 0∨(¬ a < 0∧1048576 < a)∨(¬ a < 0∧¬ 1048576 < a∧l < 0)∨(¬ a < 0∧¬ 1048576 < a∧¬ l < 0∧64 < l) by omega) with h | h | h | h
 ·have d0:decide (a < 0)=true:=decide_eq_true (by omega);clear h
  go_enter Tryz.func22,Tryz.ntmps22
  go_wp2_with fail;generalize hw0:(w.alloc (.cells #[.int .i64 0,.int .i64 0,.int .i64 0,.string ⟨#[]⟩] 54))=u1;have hB:Below w.heap.size w u1:=(by rw [← hw0];exact (Below.refl _ _).alloc (Nat.le_refl _) _);have hrs:u1.heap[w.heap.size]?=some (.cells #[.int .i64 0,.int .i64 0,.int .i64 0,.string ⟨#[]⟩] 54 (0,0)):=(by rw [← hw0];exact zP (by simp));clear hw0;obtain ⟨crs0,crs1,crs2,crs3⟩:=zAi hrs;have lrs:=zB hrs;refine bodyPost_ret (v:=.tuple #[.agg #[.int .i64 0,.int .i64 0,.int .i64 0,.string ⟨#[]⟩],.int .i64 4]) (by simp [results,Tryz.results22,go_sem,crs0,crs1,crs2,crs3]) rfl ⟨by rw [zA HV],hB⟩
 ·have d0:decide (a < 0)=false:=decide_eq_false (by omega);have d1:decide ((1048576:Int) < a)=true:=decide_eq_true (by omega);clear h
  go_enter Tryz.func22,Tryz.ntmps22
  go_wp2_with fail;generalize hw0:(w.alloc (.cells #[.int .i64 0,.int .i64 0,.int .i64 0,.string ⟨#[]⟩] 54))=u1;have hB:Below w.heap.size w u1:=(by rw [← hw0];exact (Below.refl _ _).alloc (Nat.le_refl _) _);have hrs:u1.heap[w.heap.size]?=some (.cells #[.int .i64 0,.int .i64 0,.int .i64 0,.string ⟨#[]⟩] 54 (0,0)):=(by rw [← hw0];exact zP (by simp));clear hw0;obtain ⟨crs0,crs1,crs2,crs3⟩:=zAi hrs;have lrs:=zB hrs;refine bodyPost_ret (v:=.tuple #[.agg #[.int .i64 0,.int .i64 0,.int .i64 0,.string ⟨#[]⟩],.int .i64 4]) (by simp [results,Tryz.results22,go_sem,crs0,crs1,crs2,crs3]) rfl ⟨by rw [zA HV],hB⟩
 ·have d0:decide (a < 0)=false:=decide_eq_false (by omega);have d1:decide ((1048576:Int) < a)=false:=decide_eq_false (by omega);have d2:decide (l < 0)=true:=decide_eq_true (by omega);clear h
  go_enter Tryz.func22,Tryz.ntmps22
  go_wp2_with fail;generalize hw0:(w.alloc (.cells #[.int .i64 0,.int .i64 0,.int .i64 0,.string ⟨#[]⟩] 54))=u1;have hB:Below w.heap.size w u1:=(by rw [← hw0];exact (Below.refl _ _).alloc (Nat.le_refl _) _);have hrs:u1.heap[w.heap.size]?=some (.cells #[.int .i64 0,.int .i64 0,.int .i64 0,.string ⟨#[]⟩] 54 (0,0)):=(by rw [← hw0];exact zP (by simp));clear hw0;obtain ⟨crs0,crs1,crs2,crs3⟩:=zAi hrs;have lrs:=zB hrs;refine bodyPost_ret (v:=.tuple #[.agg #[.int .i64 0,.int .i64 0,.int .i64 0,.string ⟨#[]⟩],.int .i64 4]) (by simp [results,Tryz.results22,go_sem,crs0,crs1,crs2,crs3]) rfl ⟨by rw [zA HV],hB⟩
 ·have d0:decide (a < 0)=false:=decide_eq_false (by omega);have d1:decide ((1048576:Int) < a)=false:=decide_eq_false (by omega);have d2:decide (l < 0)=false:=decide_eq_false (by omega);have d3:decide ((64:Int) < l)=true:=decide_eq_true (by omega);clear h
  go_enter Tryz.func22,Tryz.ntmps22
  go_wp2_with fail;generalize hw0:(w.alloc (.cells #[.int .i64 0,.int .i64 0,.int .i64 0,.string ⟨#[]⟩] 54))=u1;have hB:Below w.heap.size w u1:=(by rw [← hw0];exact (Below.refl _ _).alloc (Nat.le_refl _) _);have hrs:u1.heap[w.heap.size]?=some (.cells #[.int .i64 0,.int .i64 0,.int .i64 0,.string ⟨#[]⟩] 54 (0,0)):=(by rw [← hw0];exact zP (by simp));clear hw0;obtain ⟨crs0,crs1,crs2,crs3⟩:=zAi hrs;have lrs:=zB hrs;refine bodyPost_ret (v:=.tuple #[.agg #[.int .i64 0,.int .i64 0,.int .i64 0,.string ⟨#[]⟩],.int .i64 4]) (by simp [results,Tryz.results22,go_sem,crs0,crs1,crs2,crs3]) rfl ⟨by rw [zA HV],hB⟩
theorem zNV (lo b:Nat) (q:QS) (bn ln:Nat) (w:World) (hP:ProgAt lo w b q) (hq:QGood q) (ht:TabAt w) (hbn:bn≤1048576) (hln:ln≤64) :
  Calls Tryz.prog 22 #[.pointer (some ⟨b,0,none⟩),.int .i64 (bn:Int),.int .i64 (ln:Int)] w fun e w'=>e=.returned (.tuple #[VdV (zEj q bn ln),.int .i64 0])∧Below w.heap.size w w':=by
 obtain ⟨_,vV,vC,hfb,hV,hC⟩:=hP;have hbw:=zB hfb;obtain ⟨aV,cV,rfl⟩:=zN hV;obtain ⟨aC,cC,rfl⟩:=zN hC;have d0:decide ((bn:Int) < 0)=false:=decide_eq_false (by omega);have d1:decide ((1048576:Int) < (bn:Int))=false:=decide_eq_false (by omega);have d2:decide ((ln:Int) < 0)=false:=decide_eq_false (by omega);have d3:decide ((64:Int) < (ln:Int))=false:=decide_eq_false (by omega);have d1n:decide (1048576 < bn)=false:=decide_eq_false (by omega);have d3n:decide (64 < ln)=false:=decide_eq_false (by omega);have HTX:=zF (zLG hq bn ln);have HVD:Hid (zEj q bn ln=⟨(zAC q bn ln).2.1,(zAC q bn ln).1.nodes,(zAC q bn ln).1.most,if (zAC q bn ln).2.1=0 then [] else zDM ((zAC q bn ln).2.1 == 2) (z6 ((zAC q bn ln).1.proof (zAC q bn ln).2.1) (zAC q bn ln).2.2)⟩):=zF rfl
 go_enter Tryz.func22,Tryz.ntmps22
 go_wp2_with fail;generalize hw0:(w.alloc (.cells #[.int .i64 0,.int .i64 0,.int .i64 0,.string ⟨#[]⟩] 54))=u1;have hB:Below w.heap.size w u1:=(by rw [← hw0];exact (Below.refl _ _).alloc (Nat.le_refl _) _);have hrs:u1.heap[w.heap.size]?=some (.cells #[.int .i64 0,.int .i64 0,.int .i64 0,.string ⟨#[]⟩] 54 (0,0)):=(by rw [← hw0];exact zP (by simp));clear hw0;obtain ⟨crs0,crs1,crs2,crs3⟩:=zAi hrs;have lrs:=zB hrs;refine (zEI b _ _ aV aC _ cV _ cC rfl rfl _ ((hB.block _ hbw).trans hfb)).mono ?_;rintro e u2 ⟨rfl,b2⟩;replace hB:=hB.trans (b2.mono hB.size);replace hrs:=zH b2 hrs;clear crs0 crs1 crs2 crs3;obtain ⟨crs0,crs1,crs2,crs3⟩:=zAi hrs;replace lrs:=zB hrs;go_wp2_with fail;refine (zNS q aV aC cV cC bn ln _ (zAG (lo:=0) (zO hV hB) (Nat.zero_le _)) (zAG (lo:=0) (zO hC hB) (Nat.zero_le _)) hq hbn hln).mono ?_;rintro e u3 ⟨v3,rfl,ho3,b3⟩;replace hB:=hB.trans (b3.mono hB.size);replace hrs:=zH b3 hrs;clear crs0 crs1 crs2 crs3;obtain ⟨crs0,crs1,crs2,crs3⟩:=zAi hrs;replace lrs:=zB hrs;generalize zAC q bn ln=r at *;obtain ⟨S4,f1,f2⟩:=r;dsimp only at ho3 HTX HVD ⊢;generalize zBe (S4,f1,f2)=sp at *;obtain ⟨pk,sl⟩:=sp;dsimp only at ho3 HTX ⊢;obtain ⟨a3,c3,rfl⟩:=zN ho3
 by_cases hf1:f1=0
 ·have hq1:((f1:Int) == 0)=true:=(by rw [beq_iff_eq];omega);have hq2:(f1 == 0)=true:=(by rw [beq_iff_eq];exact hf1);have HX:Hid (zEj q bn ln=⟨f1,S4.nodes,S4.most,[]⟩):=zF (by rw [zA HVD,if_pos hf1]);clear hf1;have hA5:Below u3.heap.size u3 ((u3.alloc (.cells #[.int .i64 (f1:Int),.int .i64 (S4.nodes:Int),.int .i64 (S4.most:Int),.int .i64 (pk:Int),.slice a3 sl.length c3] 97)).alloc (.cells #[.int .i64 (f1:Int),.int .i64 (S4.nodes:Int),.int .i64 (S4.most:Int),.string ⟨#[]⟩] 54)):=((Below.refl _ _).alloc (Nat.le_refl _) _).alloc (by simp) _;have hrs5:=zH hA5 hrs;have hB5:=hB.trans (hA5.mono hB.size);have hRW:=setRow_heap ((u3.alloc (.cells #[.int .i64 (f1:Int),.int .i64 (S4.nodes:Int),.int .i64 (S4.most:Int),.int .i64 (pk:Int),.slice a3 sl.length c3] 97)).alloc (.cells #[.int .i64 (f1:Int),.int .i64 (S4.nodes:Int),.int .i64 (S4.most:Int),.string ⟨#[]⟩] 54)) w.heap.size _ #[.int .i64 (f1:Int),.int .i64 (S4.nodes:Int),.int .i64 (S4.most:Int),.string ⟨#[]⟩] _ _ hrs5;have j0:(((u3.alloc (.cells #[.int .i64 (f1:Int),.int .i64 (S4.nodes:Int),.int .i64 (S4.most:Int),.int .i64 (pk:Int),.slice a3 sl.length c3] 97)).alloc (.cells #[.int .i64 (f1:Int),.int .i64 (S4.nodes:Int),.int .i64 (S4.most:Int),.string ⟨#[]⟩] 54)).setRow w.heap.size #[.int .i64 (f1:Int),.int .i64 (S4.nodes:Int),.int .i64 (S4.most:Int),.string ⟨#[]⟩]).cell? ⟨w.heap.size,0,none⟩=some (.int .i64 (f1:Int)):=zE hRW rfl;have j1:(((u3.alloc (.cells #[.int .i64 (f1:Int),.int .i64 (S4.nodes:Int),.int .i64 (S4.most:Int),.int .i64 (pk:Int),.slice a3 sl.length c3] 97)).alloc (.cells #[.int .i64 (f1:Int),.int .i64 (S4.nodes:Int),.int .i64 (S4.most:Int),.string ⟨#[]⟩] 54)).setRow w.heap.size #[.int .i64 (f1:Int),.int .i64 (S4.nodes:Int),.int .i64 (S4.most:Int),.string ⟨#[]⟩]).cell? ⟨w.heap.size,1,none⟩=some (.int .i64 (S4.nodes:Int)):=zE hRW rfl;have j2:(((u3.alloc (.cells #[.int .i64 (f1:Int),.int .i64 (S4.nodes:Int),.int .i64 (S4.most:Int),.int .i64 (pk:Int),.slice a3 sl.length c3] 97)).alloc (.cells #[.int .i64 (f1:Int),.int .i64 (S4.nodes:Int),.int .i64 (S4.most:Int),.string ⟨#[]⟩] 54)).setRow w.heap.size #[.int .i64 (f1:Int),.int .i64 (S4.nodes:Int),.int .i64 (S4.most:Int),.string ⟨#[]⟩]).cell? ⟨w.heap.size,2,none⟩=some (.int .i64 (S4.most:Int)):=zE hRW rfl;have j3:(((u3.alloc (.cells #[.int .i64 (f1:Int),.int .i64 (S4.nodes:Int),.int .i64 (S4.most:Int),.int .i64 (pk:Int),.slice a3 sl.length c3] 97)).alloc (.cells #[.int .i64 (f1:Int),.int .i64 (S4.nodes:Int),.int .i64 (S4.most:Int),.string ⟨#[]⟩] 54)).setRow w.heap.size #[.int .i64 (f1:Int),.int .i64 (S4.nodes:Int),.int .i64 (S4.most:Int),.string ⟨#[]⟩]).cell? ⟨w.heap.size,3,none⟩=some (.string ⟨#[]⟩):=zE hRW rfl;clear hRW
  go_wp2_with ((refine wpList_store_row rfl 54 _ _ rfl w.heap.size _ rfl rfl 54 _ hrs5 (by kernel_rfl) rfl (by simp [Value.oneCell']) ?_))
  refine bodyPost_ret (v:=.tuple #[.agg #[.int .i64 (f1:Int),.int .i64 (S4.nodes:Int),.int .i64 (S4.most:Int),.string ⟨#[]⟩],.int .i64 0]) (by simp [results,Tryz.results22,go_sem,j0,j1,j2,j3]) rfl ⟨by rw [zA HX],below_setRow hB5 (Nat.le_refl _) _⟩
 ·have hq1:((f1:Int) == 0)=false:=(by rw [beq_eq_false_iff_ne];omega);have hq2:(f1 == 0)=false:=(by rw [beq_eq_false_iff_ne];exact hf1);obtain ⟨t1,t2,t3,t4,t5,t6⟩:=zA HTX hf1;have HX:Hid (zEj q bn ln=⟨f1,S4.nodes,S4.most,zDM (pk == 2) sl⟩):=zF (by rw [zA HVD,if_neg hf1,← t6,t4]);have hpk:pk=1∨pk=2:=(by rw [t4];exact t5);clear hf1 HTX t4 t5 t6;have hA5:Below u3.heap.size u3 ((u3.alloc (.cells #[.int .i64 (f1:Int),.int .i64 (S4.nodes:Int),.int .i64 (S4.most:Int),.int .i64 (pk:Int),.slice a3 sl.length c3] 97)).alloc (.cells #[.int .i64 (f1:Int),.int .i64 (S4.nodes:Int),.int .i64 (S4.most:Int),.string ⟨#[]⟩] 54)):=((Below.refl _ _).alloc (Nat.le_refl _) _).alloc (by simp) _;have hrs5:=zH hA5 hrs;have hB5:=hB.trans (hA5.mono hB.size);have han:((u3.alloc (.cells #[.int .i64 (f1:Int),.int .i64 (S4.nodes:Int),.int .i64 (S4.most:Int),.int .i64 (pk:Int),.slice a3 sl.length c3] 97)).alloc (.cells #[.int .i64 (f1:Int),.int .i64 (S4.nodes:Int),.int .i64 (S4.most:Int),.string ⟨#[]⟩] 54)).heap[u3.heap.size]?=some (.cells #[.int .i64 (f1:Int),.int .i64 (S4.nodes:Int),.int .i64 (S4.most:Int),.int .i64 (pk:Int),.slice a3 sl.length c3] 97 (0,0)):=(by rw [heap_alloc_old _ _ (by simp)];exact zP (by simp));have hve:((u3.alloc (.cells #[.int .i64 (f1:Int),.int .i64 (S4.nodes:Int),.int .i64 (S4.most:Int),.int .i64 (pk:Int),.slice a3 sl.length c3] 97)).alloc (.cells #[.int .i64 (f1:Int),.int .i64 (S4.nodes:Int),.int .i64 (S4.most:Int),.string ⟨#[]⟩] 54)).heap[u3.heap.size + 1]?=some (.cells #[.int .i64 (f1:Int),.int .i64 (S4.nodes:Int),.int .i64 (S4.most:Int),.string ⟨#[]⟩] 54 (0,0)):=zP (by simp);have ho5:=zAG (lo:=0) (zO ho3 hA5) (Nat.zero_le _);have hrl:w.heap.size < u3.heap.size:=zB hrs;go_wp2_with fail;generalize ((u3.alloc (.cells #[.int .i64 (f1:Int),.int .i64 (S4.nodes:Int),.int .i64 (S4.most:Int),.int .i64 (pk:Int),.slice a3 sl.length c3] 97)).alloc (.cells #[.int .i64 (f1:Int),.int .i64 (S4.nodes:Int),.int .i64 (S4.most:Int),.string ⟨#[]⟩] 54))=u5 at *;refine (zQ5 u3.heap.size 3 _ 97 sl _ pk _ ⟨han,rfl,rfl,ho5,by decide⟩ hpk (ht.later hB5) t1 t2 t3).mono ?_;rintro e u6 ⟨rfl,b6⟩;generalize zDM (pk == 2) sl=tx at *;replace hrs5:=zH b6 hrs5;replace hve:=zH b6 hve;replace hB5:=hB5.trans (b6.mono hB5.size);have z3:=zD hve 3;obtain ⟨-,-,-,q3⟩:=zAi hve;have lve:=zB hve;have hveS:(u6.setCell ⟨u3.heap.size + 1,3,none⟩ (.string ⟨tx.toArray⟩)).heap[u3.heap.size + 1]?=some (.cells #[.int .i64 (f1:Int),.int .i64 (S4.nodes:Int),.int .i64 (S4.most:Int),.string ⟨tx.toArray⟩] 54 (0,0)):=zI hve 3 (.string ⟨tx.toArray⟩);have hrsS:=zf hrs5 (c:=u3.heap.size + 1) (by omega) 3 (.string ⟨tx.toArray⟩);have hBS:=hB5.setCell (p:=⟨u3.heap.size + 1,3,none⟩) (show w.heap.size≤u3.heap.size + 1 by omega) (.string ⟨tx.toArray⟩);have hRW:=setRow_heap (u6.setCell ⟨u3.heap.size + 1,3,none⟩ (.string ⟨tx.toArray⟩)) w.heap.size _ #[.int .i64 (f1:Int),.int .i64 (S4.nodes:Int),.int .i64 (S4.most:Int),.string ⟨tx.toArray⟩] _ _ hrsS;have j0:((u6.setCell ⟨u3.heap.size + 1,3,none⟩ (.string ⟨tx.toArray⟩)).setRow w.heap.size #[.int .i64 (f1:Int),.int .i64 (S4.nodes:Int),.int .i64 (S4.most:Int),.string ⟨tx.toArray⟩]).cell? ⟨w.heap.size,0,none⟩=some (.int .i64 (f1:Int)):=zE hRW rfl;have j1:((u6.setCell ⟨u3.heap.size + 1,3,none⟩ (.string ⟨tx.toArray⟩)).setRow w.heap.size #[.int .i64 (f1:Int),.int .i64 (S4.nodes:Int),.int .i64 (S4.most:Int),.string ⟨tx.toArray⟩]).cell? ⟨w.heap.size,1,none⟩=some (.int .i64 (S4.nodes:Int)):=zE hRW rfl;have j2:((u6.setCell ⟨u3.heap.size + 1,3,none⟩ (.string ⟨tx.toArray⟩)).setRow w.heap.size #[.int .i64 (f1:Int),.int .i64 (S4.nodes:Int),.int .i64 (S4.most:Int),.string ⟨tx.toArray⟩]).cell? ⟨w.heap.size,2,none⟩=some (.int .i64 (S4.most:Int)):=zE hRW rfl;have j3:((u6.setCell ⟨u3.heap.size + 1,3,none⟩ (.string ⟨tx.toArray⟩)).setRow w.heap.size #[.int .i64 (f1:Int),.int .i64 (S4.nodes:Int),.int .i64 (S4.most:Int),.string ⟨tx.toArray⟩]).cell? ⟨w.heap.size,3,none⟩=some (.string ⟨tx.toArray⟩):=zE hRW rfl;clear hRW
  go_wp2_with (first | (refine wpList_load_row rfl 54 _ rfl (u3.heap.size + 1) rfl 54 _ (0,0) _ hveS Tryz.underlying54 rfl (by kernel_rfl) ?_) | (refine wpList_store_row rfl 54 _ _ rfl w.heap.size _ rfl rfl 54 _ hrsS (by kernel_rfl) rfl (by simp [Value.oneCell']) ?_))
  refine bodyPost_ret (v:=.tuple #[.agg #[.int .i64 (f1:Int),.int .i64 (S4.nodes:Int),.int .i64 (S4.most:Int),.string ⟨tx.toArray⟩],.int .i64 0]) (by simp [results,Tryz.results22,go_sem,j0,j1,j2,j3]) rfl ⟨by rw [zA HX],below_setRow hBS (Nat.le_refl _) _⟩
end Go.Proofs.YtgipjjhkhfihpaaGreatDoor
