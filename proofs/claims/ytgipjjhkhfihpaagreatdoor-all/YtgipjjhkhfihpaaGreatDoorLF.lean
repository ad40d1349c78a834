import Derived.Test.YtgipjjhkhfihpaaGreatDoorLE
import Derived.Deep.DeepCutAuto
import Derived.Deep.RegionWith
import Derived.Deep.QuietTactic
import Derived.BigQuiet
import Derived.Test.YtgipjjhkhfihpaaGreatDoorKD
import Derived.Test.YtgipjjhkhfihpaaGreatDoorKK
set_option maxRecDepth 100000
set_option maxHeartbeats 6400000
namespace Go.Proofs.YtgipjjhkhfihpaaGreatDoor
open Go.RowKit
theorem GInv.mut_type {Z:Nat→Prop} {w:World} {G:GG} (h:GInv Z w G) {k:Nat} (hk:G.mut k):∃ cs t,w.heap[k]?=some (.cells cs t (0,0))∧(t=87∨t=79∨t=3):=by
 rcases hk with rfl | rfl | rfl | hk
 ·exact ⟨_,_,h.fb,Or.inl rfl⟩
 ·exact ⟨_,_,h.db,Or.inr (Or.inl rfl)⟩
 ·exact ⟨_,_,h.val,Or.inr (Or.inr rfl)⟩
 ·obtain ⟨c,hc⟩:=zr h.oM k hk;exact ⟨c,_,hc,Or.inr (Or.inr rfl)⟩
theorem zEt {Z:Nat→Prop} {w:World} {G:GG} (h:GInv Z w G) {k:Nat} {c:Array Value} {t:TypeId} (hk:w.heap[k]?=some (.cells c t (0,0))) (h1:t≠87) (h2:t≠79) (h3:t≠3):¬ G.mut k:=fun hm=>by
 obtain ⟨cs,t',hb,ht⟩:=h.mut_type hm;have e:=zc hk hb
 rcases ht with e1 | e1 | e1
 ·exact h1 (e.trans e1)
 ·exact h2 (e.trans e1)
 ·exact h3 (e.trans e1)
theorem DInv.upd {bw:Nat} {w w':World} {D:DW} (hD:DInv bw w D) (i:Nat) (hi:i < D.gs.length) (G':GG) (v5':Value) (h5s':List Value) (Z':Nat→Prop) (T:Nat→Prop) (ho:Only T w w')
  (hT:∀ k,k < w.heap.size→T k→D.gs[i].mut k∨k=bw∨D.v5.ownBlock=some k) (hw':WAt w' bw D.text D.px D.pf D.proof D.v4 v5' D.v6) (h5':w'.ownsRow (bw + 1) 25 1 v5' h5s'.length h5s')
  (hZ1:∀ k,D.Z k→Z' k) (hZ2:∀ k,Z' k→D.Z k∨(w.heap.size≤k∧k < w'.heap.size)) (hls:Firm Z' (fun w=>LsAt w h5s') w') (hn5':∀ k,v5'.ownBlock=some k→¬ Z' k)
  (hgb:G'.gb=D.gs[i].gb) (hG':GInv Z' w' G') (hm:∀ k,G'.mut k→(D.gs[i].mut k∨w.heap.size≤k)∧¬ Z' k) :
  DInv bw w' { D with v5:=v5',h5s:=h5s',gs:=D.gs.set i G',Z:=Z' }:=by
 have ho':Only (fun k=>T k∧k < w.heap.size) w w':=ho.mono (fun k hk ht=>⟨ht,hk⟩);have hGi:=hD.games _ (List.getElem_mem hi);have hbw:=zB hD.wat;have hsz:=ho.size;have hTZ:∀ k,D.Z k→¬ (T k∧k < w.heap.size):=fun k hk ht=>by
  rcases hT k ht.2 ht.1 with h | h | h
  ·exact (hD.gz _ (List.getElem_mem hi) k h).2 hk
  ·have:=(hD.zin k hk).1;omega
  ·exact hD.n5 k h hk
 have hT4:∀ k,D.v4.ownBlock=some k→¬ (T k∧k < w.heap.size):=fun k hk ht=>by
  obtain ⟨c,hc⟩:=zr hD.o4 k hk
  rcases hT k ht.2 ht.1 with h | h | h
  ·exact zEt hGi hc (by decide) (by decide) (by decide) h
  ·have:=(hD.o4.lt k hk).1;omega
  ·obtain ⟨c',hc'⟩:=zr hD.o5 k h;exact absurd (zc hc hc') (by decide)
 have hT6:∀ k,D.v6.ownBlock=some k→¬ (T k∧k < w.heap.size):=fun k hk ht=>by
  obtain ⟨c,hc⟩:=zr hD.o6 k hk
  rcases hT k ht.2 ht.1 with h | h | h
  ·exact zEt hGi hc (by decide) (by decide) (by decide) h
  ·have:=(hD.o6.lt k hk).1;omega
  ·obtain ⟨c',hc'⟩:=zr hD.o5 k h;exact absurd (zc hc hc') (by decide)
 have hnz:∀ k,k < w.heap.size→¬ D.Z k→¬ Z' k:=fun k hk hz h=>by
  rcases hZ2 k h with h | h
  ·exact hz h
  ·omega
 have hmap:(D.gs.set i G').map zIi=D.gs.map zIi:=by
  rw [List.map_set]
  apply List.ext_getElem (by simp)
  intro j h1 h2;rw [List.getElem_set]
  split
  ·next e=>subst e;simp [zIi,hgb]
  ·rfl
 have hother:∀ j (hj:j < D.gs.length),j≠i→GInv Z' w' D.gs[j]:=fun j hj hji=>by
  refine ((hD.games _ (List.getElem_mem hj)).keep ho' hTZ (fun k hk ht=>?_)).grow hZ1
  rcases hT k ht.2 ht.1 with h | h | h
  ·exact hD.gap j i hj hi hji k hk h
  ·have:=(hD.gz _ (List.getElem_mem hj) k hk).1;omega
  ·obtain ⟨c',hc'⟩:=zr hD.o5 k h;exact zEt (hD.games _ (List.getElem_mem hj)) hc' (by decide) (by decide) (by decide) hk
 have hat:∀ j (hj:j < (D.gs.set i G').length),(D.gs.set i G')[j]=if i=j then G' else D.gs[j]'(by simpa using hj):=fun j hj=>List.getElem_set _
 have hlt:∀ j (hj:j < D.gs.length) k,D.gs[j].mut k→k < w.heap.size:=fun j hj k hk=>(hD.games _ (List.getElem_mem hj)).lt hk
 refine ⟨hw',?_,h5',zY hD.o6 ho' hT6,?_,(hD.form.step ho' hTZ).grow hZ1,hls,(hD.lss.step ho' hTZ).grow hZ1,fun k hk=>?_,hn5',fun k hk=>?_,?_,?_,?_⟩
 ·have h:=zY hD.o4 ho' hT4;show w'.ownsRow (bw + 1) _ 1 D.v4 (D.gs.set i G').length ((D.gs.set i G').map zIi);rw [hmap,List.length_set];exact h
 ·intro k hk
  rcases hZ2 k hk with h | h
  ·have:=hD.zin k h;omega
  ·omega
 ·exact hnz k (hD.o4.lt k hk).2 (hD.n4 k hk)
 ·exact hnz k (hD.o6.lt k hk).2 (hD.n6 k hk)
 ·intro G hG;obtain ⟨j,hj,rfl⟩:=List.mem_iff_getElem.1 hG;rw [hat j hj]
  split
  ·exact hG'
  ·next e=>exact hother j (by simpa using hj) (fun h=>e h.symm)
 ·intro G hG k hk;obtain ⟨j,hj,rfl⟩:=List.mem_iff_getElem.1 hG;rw [hat j hj] at hk;have hj':j < D.gs.length:=by simpa using hj
  split at hk
  ·refine ⟨?_,(hm k hk).2⟩
   rcases (hm k hk).1 with h | h
   ·exact (hD.gz _ (List.getElem_mem hi) k h).1
   ·omega
  ·exact ⟨(hD.gz _ (List.getElem_mem hj') k hk).1,hnz k (hlt j hj' k hk) (hD.gz _ (List.getElem_mem hj') k hk).2⟩
 ·intro a b ha hb hab k hka hkb;have ha':a < D.gs.length:=(by simpa using ha);have hb':b < D.gs.length:=(by simpa using hb);have e1:=hat a ha;have e2:=hat b hb;dsimp only at hka hkb;rw [e1] at hka;rw [e2] at hkb
  split at hka<;>split at hkb
  ·omega
  ·next h1 h2=>
   subst h1
   rcases (hm k hka).1 with h | h
   ·exact hD.gap i b hi hb' (fun e=>h2 e) k h hkb
   ·have:=hlt b hb' k hkb;omega
  ·next h1 h2=>
   subst h2
   rcases (hm k hkb).1 with h | h
   ·exact hD.gap a i ha' hi (fun e=>h1 e.symm) k hka h
   ·have:=hlt a ha' k hka;omega
  ·exact hD.gap a b ha' hb' hab k hka hkb
theorem zSM {w:World} {hdrs:List Value} {k n:Nat} (h:LsAt w hdrs) (hn:n≤maxLen) (hk:w.heap[k]?=some (.cells (zGx n (-10 - (hdrs.length:Int))) 3 (0,0))):LsAt w (hdrs ++ [.slice (some ⟨k,0,none⟩) n n]):=by
 intro j hj
 by_cases e:j < hdrs.length
 ·obtain ⟨g,m,h1,h2,h3⟩:=h j e;exact ⟨g,m,by rw [List.getElem_append_left e];exact h1,h2,h3⟩
 ·have e2:j=hdrs.length:=(by simp at hj;omega);subst e2;exact ⟨k,n,by simp,hn,hk⟩
def GG.told (G:GG):GG:={ G with val:=zFP G.g.vals }
theorem zPK {G:GG} (h:GPure G):GPure G.told:=
 ⟨h.same,h.cl,h.nice,h.read,h.tags,h.sbs,h.play,h.ok,h.run,h.stands,h.mlen,by simp [GG.told,zFP],fun v h1 h8=>Or.inr (zIy _ v h1 h8)⟩
structure zGS (bw i:Nat) (D:DW) (w:World) (e:Ending) (w':World):Prop where
 ret:e=.returned (.bool true)
 below:Below bw w w'
 at_:∃ (hi:i < D.gs.length) (v5' hdr:Value) (Z':Nat→Prop),DInv bw w' { D with v5:=v5',h5s:=D.h5s ++ [hdr],gs:=D.gs.set i D.gs[i].told,Z:=Z' }
theorem zRa (bw i:Nat) (D:DW) (w:World) (hD:DInv bw w D) (hi:i < D.gs.length) (hn5:D.h5s.length≤1073741824) :
  Calls Tryz.prog 21 #[.pointer (some ⟨D.gs[i].gb,0,none⟩),.pointer (some ⟨bw,0,none⟩)] w fun e w'=>zGS bw i D w e w':=by
 have hG:=hD.games _ (List.getElem_mem hi);have hz:=hD.gz _ (List.getElem_mem hi);have hbw:=zB hD.wat;refine (zNn D.Z bw D.gs[i] D.text D.px D.pf D.proof D.v4 D.v5 D.v6 D.h5s w hG hD.wat hD.o5 hn5 (hz _ (Or.inr (Or.inr (Or.inl rfl)))).2 (fun h=>by have:=(hD.zin _ h).1;omega) hD.n5).mono ?_;rintro e w' ⟨he,ho,hval,kL,v5',hkL,hmk,hw',h5',hv5⟩;have hsz:=ho.size;have hT:∀ k,k < w.heap.size→(k=D.gs[i].vb∨k=bw∨D.v5.ownBlock=some k)→D.gs[i].mut k∨k=bw∨D.v5.ownBlock=some k:=fun k _ h=>by
  rcases h with h | h
  ·exact Or.inl (Or.inr (Or.inr (Or.inl h)))
  ·exact Or.inr h
 have hZT:∀ k,D.Z k→¬ (k=D.gs[i].vb∨k=bw∨D.v5.ownBlock=some k):=fun k hk h=>by
  rcases h with h | h | h
  ·exact (hz k (Or.inr (Or.inr (Or.inl h)))).2 hk
  ·have:=(hD.zin k hk).1;omega
  ·exact hD.n5 k h hk
 obtain ⟨q1,q2,q3,q4,q5⟩:=hG.apart;have hTg:∀ k c t,w.heap[k]?=some (.cells c t (0,0))→t≠3→t≠48→t≠25→¬ (k=D.gs[i].vb∨k=bw∨D.v5.ownBlock=some k):=fun k c t hk h1 h2 h3 h=>by
  rcases h with rfl | rfl | h
  ·exact h1 (zc hk hG.val)
  ·exact h2 (zc hk hD.wat)
  ·obtain ⟨c',hc'⟩:=zr hD.o5 k h;exact h3 (zc hk hc')
 refine ⟨he,ho.below (Nat.le_of_lt hbw) (fun k hk h=>?_),hi,v5',.slice (some ⟨kL,0,none⟩) 8 8,fun k=>D.Z k∨k=kL,?_⟩
 ·rcases h with h | h | h
  ·have:=(hz k (Or.inr (Or.inr (Or.inl h)))).1;omega
  ·omega
  ·have:=(hD.o5.lt k h).1;omega
 refine hD.upd i hi D.gs[i].told v5' _ (fun k=>D.Z k∨k=kL) _ ho hT hw' (by simpa using h5') (fun k hk=>Or.inl hk) (fun k hk=>?_) ?_ (fun k hk h=>?_) rfl ?_ (fun k hk=>?_)
 ·rcases hk with h | h
  ·exact Or.inl h
  ·exact Or.inr ⟨by omega,by rw [h];exact zB hmk⟩
 ·intro T2 w2 ho2 hT2;refine zSM ((hD.ls.step ho hZT) T2 w2 ho2 (fun k hk=>hT2 k (Or.inl hk))) (by unfold maxLen;omega) ?_;exact (ho2.block _ (zB hmk) (hT2 kL (Or.inr rfl))).trans hmk
 ·rcases hv5 with e | ⟨k',e,hk'⟩
  ·rw [e] at hk
   rcases h with h | h
   ·exact hD.n5 k hk h
   ·have:=(hD.o5.lt k hk).2;omega
  ·rw [e] at hk;injection hk with hk;subst hk
   rcases h with h | h
   ·have:=(hD.zin _ h).2;omega
   ·subst h;obtain ⟨c',hc'⟩:=zr h5' _ e;exact absurd (zc hmk hc') (by decide)
 ·refine ⟨(ho.block _ (zB hG.fb) (hTg _ _ _ hG.fb (by decide) (by decide) (by decide))).trans hG.fb,(ho.block _ (zB hG.db) (hTg _ _ _ hG.db (by decide) (by decide) (by decide))).trans hG.db,(hG.firm.step ho hZT).grow (fun k hk=>Or.inl hk),zY hG.oM ho (fun k hk h=>?_),hval,hG.mvb,zPK hG.pure⟩
  rcases h with h | h | h
  ·exact hG.mvb (by rw [← h];exact hk)
  ·have:=(hz k (Or.inr (Or.inr (Or.inr hk)))).1;omega
  ·obtain ⟨c1,hc1⟩:=zr hG.oM k hk;obtain ⟨c2,hc2⟩:=zr hD.o5 k h;exact absurd (zc hc1 hc2) (by decide)
 ·have hk':D.gs[i].mut k:=hk;refine ⟨Or.inl hk',fun h=>?_⟩
  rcases h with h | h
  ·exact (hz k hk').2 h
  ·have:=hG.lt hk';omega
theorem DInv.base {bw:Nat} {w w':World} {D:DW} (hD:DInv bw w D) (ho:Only (·=bw) w w') {text' proof':List UInt8} {px' pf':Option Addr} (hw':WAt w' bw text' px' pf' proof' D.v4 D.v5 D.v6) (hp:(text'=D.text∧px'=D.px∧pf'=D.pf)∨FTxt w.heap.size w' text' px' pf') :
  DInv bw w' { D with text:=text',px:=px',pf:=pf',proof:=proof',Z:=fun k=>D.Z k∨(w.heap.size≤k∧k < w'.heap.size) }:=by
 have hbw:=zB hD.wat;have hsz:=ho.size;have hz:∀ k,D.Z k→¬ k=bw:=fun k hk e=>by have:=(hD.zin k hk).1;omega
 have hlt:∀ G∈D.gs,∀ k,G.mut k→k < w.heap.size:=fun G hG k hk=>(hD.games G hG).lt hk
 refine ⟨hw',zY hD.o4 ho (fun k hk e=>by have:=(hD.o4.lt k hk).1;omega),zY hD.o5 ho (fun k hk e=>by have:=(hD.o5.lt k hk).1;omega),zY hD.o6 ho (fun k hk e=>by have:=(hD.o6.lt k hk).1;omega),?_,?_,
  (hD.ls.step ho hz).grow (fun k hk=>Or.inl hk),(hD.lss.step ho hz).grow (fun k hk=>Or.inl hk),?_,?_,?_,?_,?_,hD.gap⟩
 ·intro k hk
  rcases hk with hk | hk
  ·have:=hD.zin k hk;omega
  ·omega
 ·rcases hp with ⟨rfl,rfl,rfl⟩ | hp
  ·exact (hD.form.step ho hz).grow (fun k hk=>Or.inl hk)
  ·exact FPairF.new hp hbw (fun k a b=>Or.inr ⟨a,b⟩)
 ·intro k hk h
  rcases h with h | h
  ·exact hD.n4 k hk h
  ·have:=(hD.o4.lt k hk).2;omega
 ·intro k hk h
  rcases h with h | h
  ·exact hD.n5 k hk h
  ·have:=(hD.o5.lt k hk).2;omega
 ·intro k hk h
  rcases h with h | h
  ·exact hD.n6 k hk h
  ·have:=(hD.o6.lt k hk).2;omega
 ·intro G hG;exact ((hD.games G hG).keep ho hz (fun k hk e=>by have:=(hD.gz G hG k hk).1;omega)).grow (fun k hk=>Or.inl hk)
 ·intro G hG k hk;refine ⟨(hD.gz G hG k hk).1,fun h=>?_⟩
  rcases h with h | h
  ·exact (hD.gz G hG k hk).2 h
  ·have:=hlt G hG k hk;omega
theorem DInv.push {bw:Nat} {w w':World} {D:DW} (hD:DInv bw w D) (G:GG) (v4':Value) (Z' T:Nat→Prop) (ho:Only T w w') (hT:∀ k,k < w.heap.size→T k→k=bw∨D.v4.ownBlock=some k) (hw':WAt w' bw D.text D.px D.pf D.proof v4' D.v5 D.v6)
  (h4':w'.ownsRow (bw + 1) 51 1 v4' (D.gs.length + 1) (D.gs.map zIi ++ [zIi G])) (hZ1:∀ k,D.Z k→Z' k) (hZ2:∀ k,Z' k→D.Z k∨(w.heap.size≤k∧k < w'.heap.size)) (hn4':∀ k,v4'.ownBlock=some k→¬ Z' k)
  (hG:GInv Z' w' G) (hm:∀ k,G.mut k→w.heap.size≤k∧¬ Z' k):DInv bw w' { D with v4:=v4',gs:=D.gs ++ [G],Z:=Z' }:=by
 have ho':Only (fun k=>T k∧k < w.heap.size) w w':=ho.mono (fun k hk ht=>⟨ht,hk⟩);have hbw:=zB hD.wat;have hsz:=ho.size;have hlt:∀ G∈D.gs,∀ k,G.mut k→k < w.heap.size:=fun G hG k hk=>(hD.games G hG).lt hk
 have hTZ:∀ k,D.Z k→¬ (T k∧k < w.heap.size):=fun k hk ht=>by
  rcases hT k ht.2 ht.1 with h | h
  ·have:=(hD.zin k hk).1;omega
  ·exact hD.n4 k h hk
 have hT5:∀ k,D.v5.ownBlock=some k→¬ (T k∧k < w.heap.size):=fun k hk ht=>by
  obtain ⟨c,hc⟩:=zr hD.o5 k hk
  rcases hT k ht.2 ht.1 with h | h
  ·have:=(hD.o5.lt k hk).1;omega
  ·obtain ⟨c',hc'⟩:=zr hD.o4 k h;exact absurd (zc hc hc') (by decide)
 have hT6:∀ k,D.v6.ownBlock=some k→¬ (T k∧k < w.heap.size):=fun k hk ht=>by
  obtain ⟨c,hc⟩:=zr hD.o6 k hk
  rcases hT k ht.2 ht.1 with h | h
  ·have:=(hD.o6.lt k hk).1;omega
  ·obtain ⟨c',hc'⟩:=zr hD.o4 k h;exact absurd (zc hc hc') (by decide)
 have hnz:∀ k,k < w.heap.size→¬ D.Z k→¬ Z' k:=fun k hk hz h=>by
  rcases hZ2 k h with h | h
  ·exact hz h
  ·omega
 have hold:∀ G0∈D.gs,GInv Z' w' G0:=fun G0 hG0=>by
  refine ((hD.games _ hG0).keep ho' hTZ (fun k hk ht=>?_)).grow hZ1
  rcases hT k ht.2 ht.1 with h | h
  ·have:=(hD.gz _ hG0 k hk).1;omega
  ·obtain ⟨c',hc'⟩:=zr hD.o4 k h;exact zEt (hD.games _ hG0) hc' (by decide) (by decide) (by decide) hk
 refine ⟨hw',by simpa using h4',zY hD.o5 ho' hT5,zY hD.o6 ho' hT6,?_,(hD.form.step ho' hTZ).grow hZ1,(hD.ls.step ho' hTZ).grow hZ1,(hD.lss.step ho' hTZ).grow hZ1,hn4',fun k hk=>hnz k (hD.o5.lt k hk).2 (hD.n5 k hk),fun k hk=>hnz k (hD.o6.lt k hk).2 (hD.n6 k hk),?_,?_,?_⟩
 ·intro k hk
  rcases hZ2 k hk with h | h
  ·have:=hD.zin k h;omega
  ·omega
 ·intro G0 hG0
  rcases List.mem_append.1 hG0 with h | h
  ·exact hold G0 h
  ·simp at h;subst h;exact hG
 ·intro G0 hG0 k hk
  rcases List.mem_append.1 hG0 with h | h
  ·exact ⟨(hD.gz G0 h k hk).1,hnz k (hlt G0 h k hk) (hD.gz G0 h k hk).2⟩
  ·simp at h;subst h
   have:=hm k hk
   exact ⟨by omega,this.2⟩
 ·intro i j hi hj hij k h1 h2;simp only [List.length_append,List.length_cons,List.length_nil] at hi hj;dsimp only at h1 h2
  by_cases ei:i < D.gs.length
  ·rw [List.getElem_append_left ei] at h1
   by_cases ej:j < D.gs.length
   ·rw [List.getElem_append_left ej] at h2;exact hD.gap i j ei ej hij k h1 h2
   ·have e2:j=D.gs.length:=(by omega);subst e2;have h2':G.mut k:=by simpa using h2
    have:=hlt _ (List.getElem_mem ei) k h1
    have:=(hm k h2').1
    omega
  ·have e1:i=D.gs.length:=(by omega);subst e1;have h1':G.mut k:=by simpa using h1
   by_cases ej:j < D.gs.length
   ·rw [List.getElem_append_left ej] at h2
    have:=hlt _ (List.getElem_mem ej) k h2
    have:=(hm k h1').1
    omega
   ·omega
def zOP (bits i:Nat):Int:=if bits.testBit i then 1 else -1
def zED (row:List Nat) (bits:Nat) (val:List Int):Nat→List Int
 | 0=>val
 | i + 1=>(zED row bits val i).set (row.getD i 0 - 1) (zOP bits i)
theorem zIh (row:List Nat) (bits:Nat) (val:List Int):∀ i,(zED row bits val i).length=val.length:=by
 intro i
 induction i with
 | zero=>rfl
 | succ i ih=>rw [zED,List.length_set,ih]
theorem zRx {row:List Nat} {bits:Nat} {val:List Int} (hr:∀ v∈row,1≤v∧v≤8):∀ i,i≤row.length→∀ j (_:j < i) (hjl:j < row.length),val.length=8→row.Nodup→(zED row bits val i).getD (row[j] - 1) 0=zOP bits j:=by
 intro i
 induction i with
 | zero=>intro _ j hj;omega
 | succ i ih=>
  intro hi j hj hjl hl hnd;have hil:i < row.length:=(by omega);have hgi:row.getD i 0=row[i]:=(by simp [List.getD,hil]);have h1:=hr _ (List.getElem_mem hjl);have h2:=hr _ (List.getElem_mem hil);rw [zED,hgi]
  by_cases e:j=i
  ·subst e;rw [List.getD,List.getElem?_set_self (by rw [zIh];omega)];rfl
  ·have hne:row[j]≠row[i]:=fun h=>e ((List.getElem_inj hnd).1 h)
   rw [List.getD,List.getElem?_set_ne (by omega)];exact ih (by omega) j (by omega) hjl hl hnd
theorem zQZ {row:List Nat} {bits:Nat} {val:List Int} (hr:∀ v∈row,1≤v∧v≤8) {v:Nat} (h1:1≤v) (hv:v∉row):∀ i,i≤row.length→(zED row bits val i).getD (v - 1) 0=val.getD (v - 1) 0:=by
 intro i
 induction i with
 | zero=>intro _;rfl
 | succ i ih=>
  intro hi;have hil:i < row.length:=(by omega);have hgi:row.getD i 0=row[i]:=(by simp [List.getD,hil]);have h2:=hr _ (List.getElem_mem hil);have hne:row[i]≠v:=fun e=>hv (by rw [← e];exact List.getElem_mem hil)
  rw [zED,hgi,List.getD,List.getElem?_set_ne (by omega)];exact ih (by omega)
theorem zLw {q:QS} (hq:QGood q) {b:List Nat} (hb:b∈zG q.vars):b.Nodup:=by
 have h:(zG q.vars).flatten.Nodup:=(by rw [zAA];exact hq.nodup);exact (List.pairwise_flatten.1 h).1 b hb
theorem zMS {bl:BL} {g:GS} {b:Nat} (ht:g.turn < bl.length) (hb:b < 2 ^ (bl.getD g.turn ([],false)).1.length):zBv bl g (b:Int)=0:=by
 unfold zBv;rw [if_neg (by omega),if_neg];rintro (h | h)
 ·omega
 ·have h':((2 ^ (bl.getD g.turn ([],false)).1.length:Nat):Int)≤(b:Int):=(by push_cast;exact h);omega
def GG.moved (G:GG) (b:Nat) (bs':List Bool) (v':Value):GG:=
 {G with mv:=G.mv ++ [b],bs:=bs',g:=zAh G.rs G.bl G.g b,vM:=v',val:=zED ((zG G.q.vars).getD G.g.turn []) b G.val ((zG G.q.vars).getD G.g.turn []).length }
theorem zNh {G:GG} (h:GPure G) (ht:G.g.turn < (zG G.q.vars).length) (b:Nat) (hb:b < 2 ^ ((zG G.q.vars).getD G.g.turn []).length) (v':Value) :
  ∃ bs',GPure (G.moved b bs' v')∧zFw G.q G.kind (G.g.turn + 1)=(zAh G.rs G.bl G.g b).turn:=by
 have hq:QGood G.q:=h.pair.qg;have hk:G.kind=1∨G.kind=2:=zDO h.read;have hgd:(zG G.q.vars).getD G.g.turn []=(zG G.q.vars)[G.g.turn]:=(by simp [List.getD,ht]);have hbl:(blW G.q G.kind).getD G.g.turn ([],false)=_:=zHN G.q G.kind G.g.turn ht;obtain ⟨b2,r1,r2,r3,r4,r5⟩:=zLF hq hk h.run h.stands ht b;have hr8:∀ v∈(zG G.q.vars)[G.g.turn],1≤v∧v≤8:=fun v hv=>by
  have hm:v∈(zG G.q.vars).flatten:=List.mem_flatten.2 ⟨_,List.getElem_mem ht,hv⟩;rw [zAA] at hm;exact hq.name hm
 refine ⟨b2 ++ G.bs,⟨h.same,h.cl,h.nice,h.read,h.tags,h.sbs,?_,?_,r1,r2,?_,?_,?_⟩,?_⟩
 ·show zAh G.rs G.bl G.g b=(G.mv ++ [b]).foldl _ _;rw [List.foldl_append];show _=zAh G.rs G.bl (G.mv.foldl _ _) b;exact congrArg (fun g=>zAh G.rs G.bl g b) h.play
 ·intro i hi;have hi':i < (G.mv ++ [b]).length:=hi;show zBv G.bl (((G.mv ++ [b]).take i).foldl _ _) (((G.mv ++ [b]).getD i 0:Nat):Int)=0
  by_cases e:i < G.mv.length
  ·have h1:=h.ok i e;rw [List.take_append_of_le_length (by omega)];rw [show (G.mv ++ [b]).getD i 0=G.mv.getD i 0 from by simp [List.getD,List.getElem?_append_left e]];exact h1
  ·have e2:i=G.mv.length:=(by simp at hi';omega);subst e2;rw [List.take_append_of_le_length (Nat.le_refl _),List.take_length];show zBv G.bl (G.mv.foldl (fun g m=>zAh G.rs G.bl g m) (zBO G.q G.kind G.ss)) (((G.mv ++ [b]).getD G.mv.length 0:Nat):Int)=0;rw [← h.play];rw [show (G.mv ++ [b]).getD G.mv.length 0=b from by simp [List.getD]];refine zMS ?_ ?_
   ·show G.g.turn < (blW G.q G.kind).length;rw [zBB];exact ht
   ·show b < 2 ^ ((blW G.q G.kind).getD G.g.turn ([],false)).1.length;rw [hbl];rw [hgd] at hb;exact hb
 ·show (G.mv ++ [b]).length≤(zAh G.rs G.bl G.g b).turn;have h1:=h.mlen;have h2:G.g.turn + 1≤(zAh G.rs G.bl G.g b).turn:=r3
  simp;omega
 ·show (zED _ _ _ _).length=8;rw [zIh];exact h.vlen
 ·intro v h1 h8;show (zED _ _ _ _).getD (v - 1) 0=0∨(zED _ _ _ _).getD (v - 1) 0=zBC (zAh G.rs G.bl G.g b).vals v;rw [hgd]
  by_cases hv:v∈(zG G.q.vars)[G.g.turn]
  ·obtain ⟨j,hj,rfl⟩:=List.mem_iff_getElem.1 hv;refine Or.inr ?_;rw [zRx hr8 _ (Nat.le_refl _) j hj hj h.vlen (zLw hq (List.getElem_mem ht))];exact (r5 j hj).symm
  ·rw [zQZ hr8 h1 hv _ (Nat.le_refl _)]
   rcases h.vok v h1 h8 with e | e
   ·exact Or.inl e
   ·rcases zQr hq h.run r1 v with e2 | e2
    ·exact Or.inl (by rw [e,e2])
    ·exact Or.inr (by rw [e,← e2];rfl)
 ·exact zL0 G.q G.kind _ _ r3 r2.le r4 r2.lose
structure StepD (bw:Nat) (D:DW) (n:Nat) (w:World) (e:Ending) (w':World):Prop where
 ret:e=.returned (.bool true)
 below:Below bw w w'
 at_:∃ D',DInv bw w' D'∧D'.text.length≤D.text.length + n∧D'.proof.length≤max D.proof.length 262144 + n∧D'.gs.length≤D.gs.length + 1∧D'.h5s.length≤D.h5s.length + 8∧D'.h6s.length≤D.h6s.length + 1
theorem StepD.quiet {bw:Nat} {D D2:DW} {w w2:World} (hb:Below bw w w2) (hD:DInv bw w2 D2) (h1:D2.text=D.text) (h2:D2.proof=D.proof) (h3:D2.gs.length≤D.gs.length + 1) (h4:D2.h5s=D.h5s) (h5:D2.h6s=D.h6s):StepD bw D 0 w (.returned (.bool true)) w2:=
 ⟨rfl,hb,D2,hD,by rw [h1];omega,by rw [h2];omega,h3,by rw [h4];omega,by rw [h5];omega⟩
theorem StepD.fin {bw i:Nat} {D D2:DW} {w w2 w3:World} {e:Ending} (hb:Below bw w w2) (h1:D2.text=D.text) (h2:D2.proof=D.proof) (h3:D2.gs.length≤D.gs.length + 1) (h4:D2.h5s=D.h5s) (h5:D2.h6s=D.h6s) (hs:zGS bw i D2 w2 e w3):e=.returned (.bool true)∧StepD bw D 0 w (.returned (.bool true)) w3:=by
 obtain ⟨he,hb3,hi,v5',hdr,Z',hD3⟩:=hs;refine ⟨he,rfl,hb.trans hb3,_,hD3,?_,?_,?_,?_,?_⟩
 ·show D2.text.length≤_;rw [h1];omega
 ·show D2.proof.length≤_;rw [h2];omega
 ·show (D2.gs.set i _).length≤_;rw [List.length_set];exact h3
 ·show (D2.h5s ++ [hdr]).length≤_;rw [h4];simp
 ·show D2.h6s.length≤_;rw [h5];omega
theorem StepD.more {bw n m:Nat} {D:DW} {w w':World} {e:Ending} (h:StepD bw D n w e w') (hn:n≤m):StepD bw D m w e w':=by
 obtain ⟨h1,h2,D',h3,h4,h5,h6⟩:=h;exact ⟨h1,h2,D',h3,by omega,by omega,h6⟩
theorem StepD.after {bw n:Nat} {D:DW} {w w1 w':World} {e:Ending} (h:StepD bw D n w1 e w') (hb:Below bw w w1):StepD bw D n w e w':=⟨h.ret,hb.trans h.below,h.at_⟩
theorem zD8 (bw i gb:Nat) (D:DW) (w:World) (hD:DInv bw w D) (hi:i < D.gs.length) (hgb:D.gs[i].gb=gb) (hn5:D.h5s.length≤1073741824) :
  Calls Tryz.prog 21 #[.pointer (some ⟨gb,0,none⟩),.pointer (some ⟨bw,0,none⟩)] w fun e w'=>zGS bw i D w e w':=by
 subst hgb;exact zRa bw i D w hD hi hn5
theorem zMy {w w1:World} {k:Nat} {o:Obj} (hb:w.heap[k]?=some o) (h1:w1.heap[k]?=some o) (ho:Only (·=k) w w1):Below w.heap.size w w1:=
 ⟨ho.os,ho.tape,ho.output,ho.size,fun j hj=>by
  by_cases e:j=k
  ·subst e;rw [h1,hb]
  ·exact ho.block j hj e⟩
theorem zL3 {G:GG} (ht:G.g.turn < (zG (zK G.q0).vars).length) (bits:Int):zBv G.bl G.g bits=if bits < 0∨(2:Int) ^ (zG (zK G.q0).vars)[G.g.turn].length≤bits then 6 else 0:=by
 have h1:G.bl.length=(zG (zK G.q0).vars).length:=zBB G.q G.kind;have h2:(G.bl.getD G.g.turn ([],false)).1=(zG (zK G.q0).vars)[G.g.turn]:=by
  show ((blW G.q G.kind).getD G.g.turn ([],false)).1=_;rw [zHN G.q G.kind _ ht];rfl
 unfold zBv;rw [if_neg (by omega),h2]
theorem zMY {G:GG} (ht:G.g.turn=(zG (zK G.q0).vars).length) (bits:Int):zBv G.bl G.g bits=7:=by
 have h1:G.bl.length=(zG (zK G.q0).vars).length:=zBB G.q G.kind;unfold zBv;rw [if_pos (by omega)]
theorem zMx {G:GG} {bits:Int} {n:Nat} (h:zBv G.bl G.g bits=n) (hn:n≠0):zC2 G.rs G.bl G.g bits=G.g:=by
 unfold zC2;rw [h,if_neg hn]
theorem zF0 {bw i:Nat} {D:DW} {G:GG} {bits:Int} {w w1:World} {n:Nat} (hD:DInv bw w D) (hi:i < D.gs.length) (hGe:D.gs[i]=G) (h:zBv G.bl G.g bits=n) (hn:n≠0) (hG1:GameAt w1 G.db 79 G.bl G.rs (zC2 G.rs G.bl G.g bits) G.gv) (ho1:Only (·=G.db) w w1):Below w.heap.size w w1∧DInv bw w1 D:=by
 have hG:=hD.games _ (List.getElem_mem hi);rw [hGe] at hG;rw [zMx h hn] at hG1;have hb:=zMy hG.db hG1.fb ho1;exact ⟨hb,hD.later hb⟩
theorem zMz (bw i:Nat) (D:DW) (G:GG) (bits:Int) (ask:Bool) (w:World) (hD:DInv bw w D) (hi:i < D.gs.length) (hGe:D.gs[i]=G) (hbi:zE8 bits) (hn5:D.h5s.length≤1073741824) (hov:G.g.turn=(zG (zK G.q0).vars).length) :
  Calls Tryz.prog 30 #[.pointer (some ⟨bw,0,none⟩),.pointer (some ⟨G.gb,0,none⟩),.int .i64 bits,.bool ask] w fun e w'=>StepD bw D 0 w e w':=by
 have hG:=hD.games _ (List.getElem_mem hi);rw [hGe] at hG;have hPr:=hG.pure.pair;have hrun:Run (zK G.q0) G.kind G.rs G.g G.bs:=hG.pure.run;have hbl:G.g.turn≤G.bl.length:=by show _≤(blW G.q G.kind).length;rw [zBB];exact hrun.turn
 have hbw:=zB hD.wat;have lg:=zB hG.fb;have g0:w.cell? ⟨G.gb,0,none⟩=some (.pointer (some ⟨G.db,0,none⟩)):=zE hG.fb rfl;have hE:=zMY hov bits;have HR:Hid (∀ w1,GameAt w1 G.db 79 G.bl G.rs (zC2 G.rs G.bl G.g bits) G.gv→Only (·=G.db) w w1→Below w.heap.size w w1∧DInv bw w1 D):=zF (fun w1 h1 h2=>zF0 hD hi hGe hE (by decide) h1 h2);have HE:=zF hE;have hq:((G.g.turn:Int) == ((zG (zK G.q0).vars).length:Int))=true:=(by rw [beq_iff_eq];omega);clear hov hE
 go_enter Tryz.func30,Tryz.ntmps30
 go_wp2_with fail;refine (zFg G.db _ G.bl G.rs G.g G.gv bits w hG.game (zIA hG.pure.sbs _) (zE0 hPr.qb _) hrun.lt hbl hbi).mono ?_;rintro e w1 ⟨rfl,hG1,ho1⟩;obtain ⟨hb1,hD1⟩:=zA HR w1 hG1 ho1;rw [zA HE,show ((7:Nat):Int)=7 from rfl];clear hG1 ho1 HR;have hfb1:=(hb1.block _ lg).trans hG.fb;have q2:w1.cell? ⟨G.gb,2,none⟩=some (.pointer (some ⟨G.b2,0,none⟩)):=zE hfb1 rfl;have q6:w1.cell? ⟨G.gb,6,none⟩=some (.int .i64 (G.g.turn:Int)):=zE hfb1 rfl;have lg1:=zB hfb1;obtain ⟨aE,cE,hE,lb⟩:=zFH (hG.firm.now.2.1.later hb1);rw [hPr.ends] at hE;have hBb:Below bw w w1:=hb1.mono (Nat.le_of_lt hbw)
 cases ask with
 | true=>
  go_wp2_with fail;refine (zD8 bw i G.gb D w1 hD1 hi (by rw [hGe]) hn5).mono ?_;intro e w2 hs;obtain ⟨rfl,hfin⟩:=StepD.fin (D:=D) hBb rfl rfl (by omega) rfl rfl hs;clear hs;go_wp2_with fail;go_ret;exact hfin
 | false=>
  go_wp2_with fail;go_ret;exact StepD.quiet hBb hD1 rfl rfl (by omega) rfl rfl
theorem zOd (bw i:Nat) (D:DW) (G:GG) (bits:Int) (ask:Bool) (w:World) (hD:DInv bw w D) (hi:i < D.gs.length) (hGe:D.gs[i]=G) (hbi:zE8 bits) (hn5:D.h5s.length≤1073741824) (ht:G.g.turn < (zG (zK G.q0).vars).length) (hbad:bits < 0∨(2:Int) ^ (zG (zK G.q0).vars)[G.g.turn].length≤bits) :
  Calls Tryz.prog 30 #[.pointer (some ⟨bw,0,none⟩),.pointer (some ⟨G.gb,0,none⟩),.int .i64 bits,.bool ask] w fun e w'=>StepD bw D 0 w e w':=by
 have hG:=hD.games _ (List.getElem_mem hi);rw [hGe] at hG;have hPr:=hG.pure.pair;have hrun:Run (zK G.q0) G.kind G.rs G.g G.bs:=hG.pure.run;have hbl:G.g.turn≤G.bl.length:=by show _≤(blW G.q G.kind).length;rw [zBB];exact hrun.turn
 have hbw:=zB hD.wat;have lg:=zB hG.fb;have g0:w.cell? ⟨G.gb,0,none⟩=some (.pointer (some ⟨G.db,0,none⟩)):=zE hG.fb rfl;have hE:zBv G.bl G.g bits=6:=(by rw [zL3 ht,if_pos hbad]);have HR:Hid (∀ w1,GameAt w1 G.db 79 G.bl G.rs (zC2 G.rs G.bl G.g bits) G.gv→Only (·=G.db) w w1→Below w.heap.size w w1∧DInv bw w1 D):=zF (fun w1 h1 h2=>zF0 hD hi hGe hE (by decide) h1 h2);have HE:=zF hE;have hq:((G.g.turn:Int) == ((zG (zK G.q0).vars).length:Int))=false:=(by rw [beq_eq_false_iff_ne];omega);have hrl:=zEg _ (zCp hPr.nice) _ (List.getElem_mem ht);clear hE
 go_enter Tryz.func30,Tryz.ntmps30
 go_wp2_with fail;refine (zFg G.db _ G.bl G.rs G.g G.gv bits w hG.game (zIA hG.pure.sbs _) (zE0 hPr.qb _) hrun.lt hbl hbi).mono ?_;rintro e w1 ⟨rfl,hG1,ho1⟩;obtain ⟨hb1,hD1⟩:=zA HR w1 hG1 ho1;rw [zA HE,show ((6:Nat):Int)=6 from rfl];clear hG1 ho1 HR;have hfb1:=(hb1.block _ lg).trans hG.fb;have q2:w1.cell? ⟨G.gb,2,none⟩=some (.pointer (some ⟨G.b2,0,none⟩)):=zE hfb1 rfl;have q6:w1.cell? ⟨G.gb,6,none⟩=some (.int .i64 (G.g.turn:Int)):=zE hfb1 rfl;have lg1:=zB hfb1;have hF1:=hG.firm.now.2.1.later hb1;obtain ⟨aE,cE,hE,lb⟩:=zFH hF1;rw [hPr.ends] at hE;go_wp2_with fail;have hdr:Below w1.heap.size w1 w1.drew:=(Below.refl _ w1).drew
 go_region_with (go_at_call 38;refine (zEm hPr (hF1.later hdr) ht).mono ?_;rintro e w2 ⟨vX,rfl,hI,hb2',_⟩;have hb2:Below w1.heap.size w1 w2:=hdr.trans hb2')
 all_goals
  have hB2:Below w.heap.size w w2:=zBw hb1 hb2;have hBb:Below bw w w2:=hB2.mono (Nat.le_of_lt hbw);have hD2:=hD.later hB2;generalize (zG (zK G.q0).vars)[G.g.turn]=row at *;obtain ⟨ao,cap,rfl,_⟩:=hI;have hw64:wrap64 (2 ^ row.length)=(2:Int) ^ row.length:=zG3 row.length hrl;have HFS:Hid (∀ e w3,zGS bw i D w2 e w3→e=.returned (.bool true)∧StepD bw D 0 w (.returned (.bool true)) w3):=zF (fun e w3 hs=>StepD.fin (D:=D) hBb rfl rfl (by omega) rfl rfl hs);have HFQ:Hid (StepD bw D 0 w (.returned (.bool true)) w2):=zF (StepD.quiet hBb hD2 rfl rfl (by omega) rfl rfl);have hex:∃ b1 b2:Bool,decide (bits < 0)=b1∧decide ((2:Int) ^ row.length≤bits)=b2∧(b1 || b2)=true:=⟨_,_,rfl,rfl,by
   rcases hbad with h | h
   ·rw [decide_eq_true h];rfl
   ·rw [decide_eq_true h];simp⟩
  obtain ⟨d1,d2,hd1,hd2,hd3⟩:=hex;clear hbad
  cases d1<;>cases d2<;>first | (exfalso;revert hd3;decide) | skip
  all_goals
   try clear hd3
   cases ask with
   | true=>
    go_wp2_with fail;refine (zD8 bw i G.gb D w2 hD2 hi (by rw [hGe]) hn5).mono ?_;intro e w3 hs;obtain ⟨rfl,hfin⟩:=zA HFS e w3 hs;clear hs;go_wp2_with fail;go_ret;exact hfin
   | false=>
    go_wp2_with fail;go_ret;exact zA HFQ
theorem zP6 {bw i:Nat} {D:DW} {G:GG} {w w5:World} (hD:DInv bw w D) (hi:i < D.gs.length) (hGe:D.gs[i]=G) (b:Nat) (bs':List Bool) (v':Value) (hpure:GPure (G.moved b bs' v'))
  (ho:Only (fun k=>k=G.db∨k=G.vb∨k=G.gb∨G.vM.ownBlock=some k) w w5)
  (hfb:w5.heap[G.gb]?=some (.cells #[.pointer (some ⟨G.db,0,none⟩),.pointer (some ⟨G.b1,0,none⟩),.pointer (some ⟨G.b2,0,none⟩),S G.proof,.int .i64 (G.kind:Int),v',.int .i64 ((zAh G.rs G.bl G.g b).turn:Int),.slice (some ⟨G.vb,0,none⟩) 8 8] 87 (0,0)))
  (hdb:w5.heap[G.db]?=some (.cells #[G.gv.vB,G.gv.vR,.int .i64 ((zAh G.rs G.bl G.g b).turn:Int),.int .i64 ((zAh G.rs G.bl G.g b).vals.1:Int),.int .i64 ((zAh G.rs G.bl G.g b).vals.2:Int)] 79 (0,0)))
  (hoM:w5.ownsRow 0 3 1 v' (G.mv.length + 1) (zu G.mv ++ [.int .i64 (b:Int)]))
  (hval:w5.heap[G.vb]?=some (.cells (zC1 (zED ((zG (zK G.q0).vars).getD G.g.turn []) b G.val ((zG (zK G.q0).vars).getD G.g.turn []).length)).toArray 3 (0,0)))
  (hmv:v'.ownBlock=G.vM.ownBlock∨∃ k,v'.ownBlock=some k∧w.heap.size≤k):DInv bw w5 { D with gs:=D.gs.set i (G.moved b bs' v') }:=by
 have hG:=hD.games _ (List.getElem_mem hi);have hz:=hD.gz _ (List.getElem_mem hi);rw [hGe] at hG hz;have hbw:=zB hD.wat;have hmut:∀ k,(k=G.db∨k=G.vb∨k=G.gb∨G.vM.ownBlock=some k)→G.mut k:=fun k h=>by
  rcases h with h | h | h | h
  ·exact Or.inr (Or.inl h)
  ·exact Or.inr (Or.inr (Or.inl h))
  ·exact Or.inl h
  ·exact Or.inr (Or.inr (Or.inr h))
 have hZ:∀ k,D.Z k→¬ (k=G.db∨k=G.vb∨k=G.gb∨G.vM.ownBlock=some k):=fun k hk h=>(hz k (hmut k h)).2 hk
 have hw5:WAt w5 bw D.text D.px D.pf D.proof D.v4 D.v5 D.v6:=(ho.block bw hbw (fun h=>by have:=(hz _ (hmut _ h)).1;omega)).trans hD.wat;have h5:=zY hD.o5 ho (fun k hk h=>by
  obtain ⟨c,hc⟩:=zr hD.o5 k hk;exact zEt hG hc (by decide) (by decide) (by decide) (hmut k h))
 refine hD.upd i hi (G.moved b bs' v') D.v5 D.h5s D.Z _ ho (fun k _ h=>Or.inl (by rw [hGe];exact hmut k h)) hw5 h5 (fun k hk=>hk) (fun k hk=>Or.inl hk) (hD.ls.step ho hZ) hD.n5 (by rw [hGe];rfl) ?_ ?_
 ·refine ⟨hfb,hdb,hG.firm.step ho hZ,?_,hval,?_,hpure⟩
  ·show w5.ownsRow 0 3 1 v' (G.mv ++ [b]).length (zu (G.mv ++ [b]));rw [List.length_append,show zu (G.mv ++ [b])=zu G.mv ++ [.int .i64 (b:Int)] from by simp [zu]];exact hoM
  ·show v'.ownBlock≠some G.vb
   rcases hmv with h | ⟨k,h,hk⟩
   ·rw [h];exact hG.mvb
   ·rw [h];intro e;injection e with e;have:=zB hG.val;omega
 ·intro k hk;rw [hGe];have hk':k=G.gb∨k=G.db∨k=G.vb∨v'.ownBlock=some k:=hk
  rcases hk' with h | h | h | h
  ·exact ⟨Or.inl (Or.inl h),(hz k (Or.inl h)).2⟩
  ·exact ⟨Or.inl (Or.inr (Or.inl h)),(hz k (Or.inr (Or.inl h))).2⟩
  ·exact ⟨Or.inl (Or.inr (Or.inr (Or.inl h))),(hz k (Or.inr (Or.inr (Or.inl h)))).2⟩
  ·rcases hmv with e | ⟨j,e,hj⟩
   ·rw [e] at h;exact ⟨Or.inl (Or.inr (Or.inr (Or.inr h))),(hz k (Or.inr (Or.inr (Or.inr h)))).2⟩
   ·rw [e] at h;injection h with h;subst h;exact ⟨Or.inr hj,fun hk=>by have:=(hD.zin _ hk).2;omega⟩
theorem zMj {bw i:Nat} {D:DW} {G:GG} {w w1 wr w':World} (hD:DInv bw w D) (hi:i < D.gs.length) (hGe:D.gs[i]=G) (b:Nat) (v':Value) (hG1:GameAt w1 G.db 79 G.bl G.rs (zAh G.rs G.bl G.g b) G.gv) (ho1:Only (·=G.db) w w1) (ho3:Only (·=G.vb) w1 wr)
  (hval:wr.heap[G.vb]?=some (.cells (zC1 (zED ((zG (zK G.q0).vars).getD G.g.turn []) b G.val ((zG (zK G.q0).vars).getD G.g.turn []).length)).toArray 3 (0,0)))
  (hown':w'.ownsRow 0 3 1 v' (G.mv.length + 1) (zu G.mv ++ [.int .i64 (b:Int)])) (hgrow:wr.grownBy w' G.vM.ownBlock) (hmv:v'.ownBlock=G.vM.ownBlock∨∃ k,v'.ownBlock=some k∧wr.heap.size≤k) :
  (w'.setCell ⟨G.gb,5,none⟩ v').heap[G.gb]?=some (.cells #[.pointer (some ⟨G.db,0,none⟩),.pointer (some ⟨G.b1,0,none⟩),.pointer (some ⟨G.b2,0,none⟩),S G.proof,.int .i64 (G.kind:Int),v',.int .i64 (G.g.turn:Int),.slice (some ⟨G.vb,0,none⟩) 8 8] 87 (0,0))∧
  RefAt 0 (w'.setCell ⟨G.gb,5,none⟩ v') G.b2 (zW G.st)∧
  ∀ w7 bs',Below (w'.setCell ⟨G.gb,5,none⟩ v').heap.size (w'.setCell ⟨G.gb,5,none⟩ v') w7→GPure (G.moved b bs' v')→DInv bw (w7.setCell ⟨G.gb,6,none⟩ (.int .i64 ((zAh G.rs G.bl G.g b).turn:Int))) { D with gs:=D.gs.set i (G.moved b bs' v') }∧Below bw w (w7.setCell ⟨G.gb,6,none⟩ (.int .i64 ((zAh G.rs G.bl G.g b).turn:Int))):=by
 have hG:=hD.games _ (List.getElem_mem hi);have hz:=hD.gz _ (List.getElem_mem hi);rw [hGe] at hG hz;obtain ⟨hgd,hgv,hdv,hM1,hM2⟩:=hG.apart;have hbw:=zB hD.wat;have hs1:=ho1.size;have hs3:=ho3.size;have lg:=zB hG.fb;have lv:=zB hG.val;have ld:=zB hG.db;have hfb1:=(ho1.block _ lg hgd).trans hG.fb;have hfb3:=(ho3.block _ (zB hfb1) hgv).trans hfb1;have hdb3:=(ho3.block _ (zB hG1.fb) hdv).trans hG1.fb;have hkeep:∀ k o,k < wr.heap.size→G.vM.ownBlock≠some k→wr.heap[k]?=some o→w'.heap[k]?=some o:=fun k o hk hne ho=>(hgrow.block k hk (fun e=>hne e.symm)).trans ho
 have hfb':=hkeep _ _ (zB hfb3) hM1 hfb3;have hdb':=hkeep _ _ (zB hdb3) hM2 hdb3;have hval':=hkeep _ _ (zB hval) hG.mvb hval;have hfb6:(w'.setCell ⟨G.gb,5,none⟩ v').heap[G.gb]?=some (.cells #[.pointer (some ⟨G.db,0,none⟩),.pointer (some ⟨G.b1,0,none⟩),.pointer (some ⟨G.b2,0,none⟩),S G.proof,.int .i64 (G.kind:Int),v',.int .i64 (G.g.turn:Int),.slice (some ⟨G.vb,0,none⟩) 8 8] 87 (0,0)):=zI hfb' 5 v';have hO:Only (fun k=>k=G.db∨k=G.vb∨k=G.gb∨G.vM.ownBlock=some k) w (w'.setCell ⟨G.gb,5,none⟩ v'):=by
  have h1:Only (fun k=>k=G.db∨k=G.vb∨k=G.gb∨G.vM.ownBlock=some k) w w1:=ho1.mono (fun k _ h=>Or.inl h);have h2:Only (fun k=>k=G.db∨k=G.vb∨k=G.gb∨G.vM.ownBlock=some k) w1 wr:=ho3.mono (fun k _ h=>Or.inr (Or.inl h));have h4:=(h1.trans h2).grown hgrow (fun k hk=>Or.inl (Or.inr (Or.inr (Or.inr hk))));exact h4.setCell (p:=⟨G.gb,5,none⟩) (Or.inl (Or.inr (Or.inr (Or.inl rfl)))) v'
 have hmut:∀ k,(k=G.db∨k=G.vb∨k=G.gb∨G.vM.ownBlock=some k)→G.mut k:=fun k h=>by
  rcases h with h | h | h | h
  ·exact Or.inr (Or.inl h)
  ·exact Or.inr (Or.inr (Or.inl h))
  ·exact Or.inl h
  ·exact Or.inr (Or.inr (Or.inr h))
 have hZ:∀ k,D.Z k→¬ (k=G.db∨k=G.vb∨k=G.gb∨G.vM.ownBlock=some k):=fun k hk h=>(hz k (hmut k h)).2 hk
 refine ⟨hfb6,(hG.firm _ _ hO hZ).2.1,fun w7 bs' hb7 hpure=>?_⟩;have hO7:=(hO.trans (Only.of_below hb7)).setCell (p:=⟨G.gb,6,none⟩) (Or.inl (Or.inr (Or.inr (Or.inl rfl)))) (.int .i64 ((zAh G.rs G.bl G.g b).turn:Int));have hfb7:=zH hb7 hfb6;have hset:∀ k o,k≠G.gb→w'.heap[k]?=some o→(w7.setCell ⟨G.gb,6,none⟩ (.int .i64 ((zAh G.rs G.bl G.g b).turn:Int))).heap[k]?=some o:=fun k o hne ho=>by
  have h1:(w'.setCell ⟨G.gb,5,none⟩ v').heap[k]?=some o:=(Below.heap_setCell _ _ _ _ hne).trans ho;exact (Below.heap_setCell _ _ _ _ hne).trans (zH hb7 h1)
 have hvgb:v'.ownBlock≠some G.gb:=fun e=>by
  obtain ⟨c,hc⟩:=zr hown' _ e;exact absurd (zc hc hfb') (by decide)
 have hoM7:=zR (zO (zR hown' (p:=⟨G.gb,5,none⟩) hvgb v') hb7) (p:=⟨G.gb,6,none⟩) hvgb (.int .i64 ((zAh G.rs G.bl G.g b).turn:Int));refine ⟨zP6 hD hi hGe b bs' v' hpure hO7 (zI hfb7 6 _) (hset _ _ (fun e=>hgd e.symm) hdb') hoM7 (hset _ _ (fun e=>hgv e.symm) hval') ?_,hO7.below (Nat.le_of_lt hbw) (fun k hk h=>by have:=(hz k (hmut k h)).1;omega)⟩
 rcases hmv with h | ⟨k,h1,h2⟩
 ·exact Or.inl h
 ·exact Or.inr ⟨k,h1,by omega⟩
theorem zPW (l:List Int) (u:Nat) (x y:Int):((zC1 l).toArray.setIfInBounds u (.int .i64 x)).setIfInBounds u (.int .i64 y)=(zC1 (l.set u y)).toArray:=by
 rw [zHE]
 apply Array.ext'
 simp
theorem zRz:(Tryz.prog.info? 3).map (fun i=>(i.zero,i.size,i.bytes))=some (some (.int .i64 0),1,8):=by kernel_rfl
theorem zRS (bw i:Nat) (D:DW) (G:GG) (b:Nat) (ask:Bool) (w:World) (hD:DInv bw w D) (hi:i < D.gs.length) (hGe:D.gs[i]=G) (hn5:D.h5s.length≤1073741824) (ht:G.g.turn < (zG (zK G.q0).vars).length) (hb:(b:Int) < (2:Int) ^ (zG (zK G.q0).vars)[G.g.turn].length) :
  Calls Tryz.prog 30 #[.pointer (some ⟨bw,0,none⟩),.pointer (some ⟨G.gb,0,none⟩),.int .i64 (b:Int),.bool ask] w fun e w'=>StepD bw D 0 w e w':=by
 have hG:=hD.games _ (List.getElem_mem hi);have hz:=hD.gz _ (List.getElem_mem hi);rw [hGe] at hG hz;have hPr:=hG.pure.pair;have hQg:=hPr.qg;have hrun:Run (zK G.q0) G.kind G.rs G.g G.bs:=hG.pure.run;have hkd:=zDO hG.pure.read;have hbl:G.g.turn≤G.bl.length:=by show _≤(blW G.q G.kind).length;rw [zBB];exact hrun.turn
 have hbw:=zB hD.wat;have lg:=zB hG.fb;obtain ⟨hgd,hgv,hdv,hM1,hM2⟩:=hG.apart;have hrl:=zEg _ (zCp hPr.nice) _ (List.getElem_mem ht);have hn8:=zDR (zK G.q0).vars (zCp hPr.nice);have hml:=hG.pure.mlen;have hgd2:(zG (zK G.q0).vars).getD G.g.turn []=(zG (zK G.q0).vars)[G.g.turn]:=(by simp [List.getD,ht]);have hb8:(b:Int) < 256:=Int.lt_of_lt_of_le hb (zH6 _ hrl);have HBI:=zF hb;clear hb;have hb9:b < 512:=(by omega);have HBN:Hid (b < 2 ^ ((zG G.q.vars).getD G.g.turn []).length):=zF (by
  rw [show (zG G.q.vars).getD G.g.turn []=(zG (zK G.q0).vars)[G.g.turn] from hgd2];have h:=zA HBI;refine Int.ofNat_lt.1 ?_;rw [Int.natCast_pow];exact h)
 have hbi:zE8 (b:Int):=⟨by omega,by omega⟩;have HPU:Hid (∀ v',∃ bs',GPure (G.moved b bs' v')∧zFw G.q G.kind (G.g.turn + 1)=(zAh G.rs G.bl G.g b).turn):=zF (fun v'=>zNh hG.pure ht b (zA HBN) v');have hE:zBv G.bl G.g (b:Int)=0:=(by rw [zL3 ht,if_neg (fun h=>h.elim (fun h=>by omega) (fun h=>Int.not_le.2 (zA HBI) h))]);have HMG:Hid (zC2 G.rs G.bl G.g (b:Int)=zAh G.rs G.bl G.g b):=zF (by unfold zC2;rw [hE,if_pos rfl,Int.toNat_natCast]);have HE:=zF hE;have hq:((G.g.turn:Int) == ((zG (zK G.q0).vars).length:Int))=false:=(by rw [beq_eq_false_iff_ne];omega);have hne2:=(zB6 (zK G.q0).vars _ (List.getElem_mem ht)).1;have hr8:∀ v∈(zG (zK G.q0).vars)[G.g.turn],1≤v∧v≤8:=fun v hv=>((zE0 hPr.qb 1).row ((zG (zK G.q0).vars)[G.g.turn],_) (List.mem_map.2 ⟨_,List.getElem_mem ht,rfl⟩)).2 v hv
 have g0:w.cell? ⟨G.gb,0,none⟩=some (.pointer (some ⟨G.db,0,none⟩)):=zE hG.fb rfl;clear hE HBN
 go_enter Tryz.func30,Tryz.ntmps30
 go_wp2_with fail;refine (zFg G.db _ G.bl G.rs G.g G.gv (b:Int) w hG.game (zIA hG.pure.sbs _) (zE0 hPr.qb _) hrun.lt hbl hbi).mono ?_;rintro e w1 ⟨rfl,hG1,ho1⟩;rw [zA HMG] at hG1;rw [zA HE,show ((0:Nat):Int)=0 from rfl];have hZ1:∀ k,D.Z k→¬ k=G.db:=fun k hk e=>(hz k (Or.inr (Or.inl e))).2 hk
 have hfirm1:=hG.firm.step ho1 hZ1;have hfb1:=(ho1.block _ lg hgd).trans hG.fb;have hval1:=(ho1.block _ (zB hG.val) (fun e=>hdv e.symm)).trans hG.val;have hoM1:=zY hG.oM ho1 (fun k hk e=>hM2 (by rw [hk,e]));have hdb1:=hG1.fb;have q2:w1.cell? ⟨G.gb,2,none⟩=some (.pointer (some ⟨G.b2,0,none⟩)):=zE hfb1 rfl;have q6:w1.cell? ⟨G.gb,6,none⟩=some (.int .i64 (G.g.turn:Int)):=zE hfb1 rfl;have lg1:=zB hfb1;have hF1:=hfirm1.now.2.1;obtain ⟨aE,cE,hE,lb⟩:=zFH hF1;rw [hPr.ends] at hE;have hsz1:=ho1.size;go_wp2_with fail;have hdr:Below w1.heap.size w1 w1.drew:=(Below.refl _ w1).drew;have hfirm2:=hfirm1.step (T:=fun _=>False) (Only.of_below hdr) (fun _ _ h=>h);have hvald:=zH hdr hval1;have HOA:Hid (∀ vX,zKN w1.drew G.b2 vX→∀ ad n c,vX=.slice (some ad) n c→ad.block≠G.vb):=zF (fun vX hIO ad n c e=>by
  obtain ⟨gO,n0,c0,h0,h1⟩:=hIO;rw [h1 ad n c e];exact zHj (Z:=D.Z) (fun T w' ho hT=>(hfirm2 T w' ho hT).2.1) (hz _ (Or.inr (Or.inr (Or.inl rfl)))).2 hvald h0 (by rw [zDv hPr.same];have:=zFi G.g.turn 0 ht (List.length_pos_iff.2 hne2);simp;omega))
 go_cut [12] (fun s12 wx=>zHF wx s12 (zG (zK G.q0).vars)[G.g.turn]∧Below w1.heap.size w1 wx∧∀ ad n c,s12=.slice (some ad) n c→ad.block≠G.vb)
 case first=>
  go_region_with (go_at_call 38;refine (zEm hPr (hF1.later hdr) ht).mono ?_;rintro e w2 ⟨vX,rfl,hI,hb2',hIO⟩;have hb2:Below w1.heap.size w1 w2:=hdr.trans hb2';have hoa:=zA HOA vX hIO)
  all_goals
   go_wp2_with fail
   go_meet
   exact ⟨hI,hb2,hoa⟩
 case rest=>
 obtain ⟨hI,hb2,hgO⟩:=hcut;obtain ⟨w2,rfl⟩:∃ x,x=wc:=⟨_,rfl⟩;have HGD:Hid ((zG (zK G.q0).vars).getD G.g.turn []=(zG (zK G.q0).vars)[G.g.turn]):=zF hgd2;clear hgd2 q2 q6 hE hfirm2 hvald hdr HOA;generalize (zG (zK G.q0).vars)[G.g.turn]=row at *;obtain ⟨ao,cap,rfl,hcI⟩:=hI;obtain ⟨gX,off,rfl,_⟩:=hcI 0 (List.length_pos_iff.2 hne2);have hgX:gX≠G.vb:=hgO _ _ _ rfl;have hcI2:∀ i (hi:i < row.length),w2.cell? ⟨gX,off + i,none⟩=some (.int .i64 (row[i]:Int)):=fun i hi=>by
  obtain ⟨g',o',e1,e2⟩:=hcI i hi;injection e1 with e1;injection e1 with e1 e3;subst e1 e3;exact e2
 have ho2:Only (·=G.vb) w1 w2:=Only.of_below hb2;have hval2:=zH hb2 hval1;have hw64:wrap64 (2 ^ row.length)=(2:Int) ^ row.length:=zG3 row.length hrl;have hd3:decide ((b:Int) < 0)=false:=decide_eq_false (by omega);have hd4:decide ((2:Int) ^ row.length≤(b:Int))=false:=decide_eq_false (Int.not_le.2 (zA HBI));have HR8:=zF hr8;have HGe:=zF hGe;clear hcI hgO hr8 hGe;go_wp2_with fail;clear hw64 hd3 hd4
 go_loopg [14] (row.length) (fun m ii wx=>∃ (k:Nat),ii=.int .i64 k∧k + m=row.length∧wx.heap[G.vb]?=some (.cells (zC1 (zED row b G.val k)).toArray 3 (0,0))∧Only (·=G.vb) w1 wx∧∀ i (hi:i < row.length),wx.cell? ⟨gX,off + i,none⟩=some (.int .i64 (row[i]:Int)))
 case atStart=>exact ⟨0,rfl,by omega,hval2,ho2,hcI2⟩
 case round=>
  obtain ⟨k,rfl,hkm,hval3,ho3,hc3⟩:=hrel;have hfb3:=(ho3.block _ lg1 hgv).trans hfb1;have lg3:=zB hfb3;have lv3:=zB hval3
  by_cases hkl:k < row.length
  ·have hv18:=zA HR8 _ (List.getElem_mem hkl);have hri:=hc3 k hkl;have HMV:Hid (zED row b G.val (k + 1)=(zED row b G.val k).set (row[k] - 1) (zOP b k)):=zF (by rw [zED];simp [List.getD,hkl]);have hml8:(zED row b G.val k).length=8:=(by rw [zIh];exact hG.pure.vlen);generalize row[k]=v at hv18 hri HMV;obtain ⟨u,rfl⟩:∃ u,v=u + 1:=⟨v - 1,by omega⟩;have hu8:u < 8:=(by omega);have hri':wr.cell? ⟨gX,off + k,none⟩=some (.int .i64 ((u:Int) + 1)):=(by rw [hri];rfl);have HMV2:Hid (zED row b G.val (k + 1)=(zED row b G.val k).set u (zOP b k)):=HMV;have d7:wr.cell? ⟨G.gb,7,none⟩=some (.slice (some ⟨G.vb,0,none⟩) 8 8):=zE hfb3 rfl;have hvu:∃ x,wr.cell? ⟨G.vb,u,none⟩=some x:=by
    rw [zC hval3];exact ⟨_,Array.getElem?_eq_getElem (by simp [zC1];omega)⟩
   obtain ⟨x0,hvu⟩:=hvu;have lX:=zAm hri';have z0:=zD hval3 u;have HC3:=zF hc3;have hsb:=zCx b k hb9 (by omega);clear hri hc3 hcI2 HMV;have HBV:Hid (∀ t,b.testBit k=t→zOP b k=if t then 1 else -1):=zF (fun t h=>by unfold zOP;rw [h]);go_wp2_with fail
   go_region
   have hval4:(wr.setCell ⟨G.vb,u,none⟩ (.int .i64 (-1))).drew.heap[G.vb]?=_:=zI hval3 u (.int .i64 (-1));have ho4:Only (·=G.vb) w1 (wr.setCell ⟨G.vb,u,none⟩ (.int .i64 (-1))).drew:=(ho3.setAt u _).drew;have HC4:Hid (∀ i (hi:i < row.length),(wr.setCell ⟨G.vb,u,none⟩ (.int .i64 (-1))).drew.cell? ⟨gX,off + i,none⟩=some (.int .i64 (row[i]:Int))):=zF (fun i hi=>by
    have h:=zA HC3 i hi;have hb:=Below.heap_setCell wr ⟨G.vb,u,none⟩ (.int .i64 (-1)) gX hgX;show (wr.setCell ⟨G.vb,u,none⟩ (.int .i64 (-1))).cell? ⟨gX,off + i,none⟩=_;rw [zCj hb];exact h)
   have r4:(wr.setCell ⟨G.vb,u,none⟩ (.int .i64 (-1))).drew.cell? ⟨gX,off + k,none⟩=some (.int .i64 ((u:Int) + 1)):=by
    have hb:=Below.heap_setCell wr ⟨G.vb,u,none⟩ (.int .i64 (-1)) gX hgX;show (wr.setCell ⟨G.vb,u,none⟩ (.int .i64 (-1))).cell? ⟨gX,off + k,none⟩=_;rw [zCj hb];exact hri'
   clear hval3 ho3 hri' d7 hvu HC3 z0 lX lv3 lg3 hfb3;generalize (wr.setCell ⟨G.vb,u,none⟩ (.int .i64 (-1))).drew=w4 at *;have hfb4:=(ho4.block _ lg1 hgv).trans hfb1;have d7:w4.cell? ⟨G.gb,7,none⟩=some (.slice (some ⟨G.vb,0,none⟩) 8 8):=zE hfb4 rfl;have lg4:=zB hfb4;have lv4:=zB hval4;have lX:=zAm r4;have z4:=zD hval4 u;have hvu:w4.cell? ⟨G.vb,u,none⟩=some (.int .i64 (-1)):=by
    rw [zC hval4];rw [Array.getElem?_setIfInBounds_self_of_lt (by simp [zC1];omega)]
   cases htb:b.testBit k with
   | true=>
    rw [htb] at hsb;have HV5:Hid ((w4.setCell ⟨G.vb,u,none⟩ (.int .i64 1)).drew.heap[G.vb]?=some (.cells (zC1 (zED row b G.val (k + 1))).toArray 3 (0,0))):=zF (by
     show (w4.setCell ⟨G.vb,u,none⟩ (.int .i64 1)).heap[G.vb]?=_;rw [zA HMV2,zA HBV true htb,if_pos rfl,← zPW _ u (-1) 1];exact zI hval4 u (.int .i64 1))
    have HO5:Hid (Only (·=G.vb) w1 (w4.setCell ⟨G.vb,u,none⟩ (.int .i64 1)).drew):=zF ((ho4.setAt u _).drew);have HC5:Hid (∀ i (hi:i < row.length),(w4.setCell ⟨G.vb,u,none⟩ (.int .i64 1)).drew.cell? ⟨gX,off + i,none⟩=some (.int .i64 (row[i]:Int))):=zF (fun i hi=>by
     have h:=zA HC4 i hi;have hb:=Below.heap_setCell w4 ⟨G.vb,u,none⟩ (.int .i64 1) gX hgX;show (w4.setCell ⟨G.vb,u,none⟩ (.int .i64 1)).cell? ⟨gX,off + i,none⟩=_;rw [zCj hb];exact h)
    clear htb hval4;go_wp2_with fail
    go_region
    go_wp2_with fail
    go_roundg (gk - 1)
    case measure=>omega
    case rel=>exact ⟨k + 1,by go_num,by omega,zA HV5,zA HO5,zA HC5⟩
   | false=>
    rw [htb] at hsb;have HV5:Hid (w4.heap[G.vb]?=some (.cells (zC1 (zED row b G.val (k + 1))).toArray 3 (0,0))):=zF (by
     rw [zA HMV2,zA HBV false htb,if_neg (by decide),zHE];exact hval4)
    clear htb hval4;go_wp2_with fail
    go_roundg (gk - 1)
    case measure=>omega
    case rel=>exact ⟨k + 1,by go_num,by omega,zA HV5,ho4,zA HC4⟩
  ·have hke:k=row.length:=(by omega);subst hke;have hdk:decide ((row.length:Int) < (row.length:Int))=false:=(by simp);obtain ⟨i1,hi1,hz10,hz11,hz12⟩:=info_parts zRz;obtain ⟨aM,cM,hMf⟩:=zN hG.oM;have hoM3:=zY hoM1 ho3 (fun j hj e=>hG.mvb (by rw [hj,e]));rw [hMf] at hoM3;have c5:wr.cell? ⟨G.gb,5,none⟩=some (.slice aM G.mv.length cM):=(by rw [zC hfb3];exact congrArg some hMf);have c6:wr.cell? ⟨G.gb,6,none⟩=some (.int .i64 (G.g.turn:Int)):=zE hfb3 rfl;have HTL:Hid (∀ w' v',w'.ownsRow 0 3 1 v' (G.mv.length + 1) (zu G.mv ++ [.int .i64 (b:Int)])→wr.grownBy w' (Value.slice aM G.mv.length cM).ownBlock→(v'.ownBlock=(Value.slice aM G.mv.length cM).ownBlock∨∃ k,v'.ownBlock=some k∧wr.heap.size≤k)→
     (w'.setCell ⟨G.gb,5,none⟩ v').heap[G.gb]?=some (.cells #[.pointer (some ⟨G.db,0,none⟩),.pointer (some ⟨G.b1,0,none⟩),.pointer (some ⟨G.b2,0,none⟩),S G.proof,.int .i64 (G.kind:Int),v',.int .i64 (G.g.turn:Int),.slice (some ⟨G.vb,0,none⟩) 8 8] 87 (0,0))∧
     RefAt 0 (w'.setCell ⟨G.gb,5,none⟩ v') G.b2 (zW G.st)∧
     ∀ w7 bs',Below (w'.setCell ⟨G.gb,5,none⟩ v').heap.size (w'.setCell ⟨G.gb,5,none⟩ v') w7→GPure (G.moved b bs' v')→DInv bw (w7.setCell ⟨G.gb,6,none⟩ (.int .i64 ((zAh G.rs G.bl G.g b).turn:Int))) { D with gs:=D.gs.set i (G.moved b bs' v') }∧Below bw w (w7.setCell ⟨G.gb,6,none⟩ (.int .i64 ((zAh G.rs G.bl G.g b).turn:Int)))):=zF (fun w' v' h1 h2 h3=>zMj hD hi (zA HGe) b v' hG1 ho1 ho3 (by rw [zA HGD];exact hval3) h1 (by rw [hMf];exact h2) (by rw [hMf];exact h3))
   have hMb:(Value.slice aM G.mv.length cM).ownBlock≠some G.gb:=(by rw [← hMf];exact hM1);have hne5:(zG (zK G.q0).vars).length≤8:=hn8;have HMB:=zF hMb;have HMF:=zF hMf;have HOM3:=zF hoM3;have HFB3:=zF hfb3;have HPR:=zF hPr;have HD:=zF hD;clear hMf hMb hoM3 hfb3 hval3 ho3 hc3 hG1 ho1 hG hz hrun hval2 ho2 hval1 hoM1 hdb1 hfirm1 hF1 hfb1 hb2 hcI2 hPr hQg hD hn8 hZ1 hM1 hM2 hgd hgv hdv hrl hb8 HBI HGD HR8 hgX lb
   go_wp2_with (at_builtin;refine zp rfl (.tmp 114) (.tmp 116) 25 rfl 0 i1 (.int .i64 0) 1 8 Tryz.underlying25 hi1 hz10 hz11 hz12 rfl (by decide) _ _ _ (zA HOM3) rfl rfl rfl (by simp [Value.oneCell']) (by unfold maxLen;omega) (by omega) (Nat.zero_le _) ?_;intro v' w' hown' hgrow hmv;have hfb':=(hgrow.block G.gb lg3 (fun e=>zA HMB e.symm)).trans (zA HFB3);have hq5:w'.cell? ⟨G.gb,5,none⟩=some (.slice aM G.mv.length cM):=(by rw [zC hfb'];exact congrArg some (zA HMF));have hqz:=zD hfb' 5;have hq6:w'.cell? ⟨G.gb,6,none⟩=some (.int .i64 (G.g.turn:Int)):=(by rw [zC hfb'];rfl);have HT2:=zF (zA HTL w' v' hown' hgrow hmv);obtain ⟨a5,c5',rfl⟩:=zN hown';have lg5:=zB hfb')
   obtain ⟨hfb6,hR6,hfin⟩:=zA HT2;have HFIN:=zF hfin;have hs6:(w'.setCell ⟨G.gb,5,none⟩ (.slice a5 (G.mv.length + 1) c5')).heap.size=w'.heap.size:=(by simp [World.setCell]);clear hfin HT2 HTL hown' hgrow hmv hfb' hq5 hq6 hqz HOM3 HFB3 HMB;generalize w'.setCell ⟨G.gb,5,none⟩ (.slice a5 (G.mv.length + 1) c5')=w6 at *;have lg6:=zB hfb6;have c66:w6.cell? ⟨G.gb,6,none⟩=some (.int .i64 (G.g.turn:Int)):=zE hfb6 rfl;refine (zLB (k:=G.g.turn + 1) (zA HPR) hfb6 rfl rfl hR6 hkd ht).mono ?_;rintro e w7 ⟨rfl,hb7⟩;have hfb7:=(hb7.block _ lg6).trans hfb6;have c76:w7.cell? ⟨G.gb,6,none⟩=some (.int .i64 (G.g.turn:Int)):=zE hfb7 rfl;have z76:=zD hfb7 6;have lg7:=zB hfb7;obtain ⟨bs',hpu,hnx⟩:=zA HPU (.slice a5 (G.mv.length + 1) c5');have hnx2:zFw (zK G.q0) G.kind (G.g.turn + 1)=(zAh G.rs G.bl G.g b).turn:=hnx;rw [hnx2];obtain ⟨hD8,hB8⟩:=zA HFIN w7 bs' hb7 hpu;clear hnx hnx2 HFIN hpu;generalize (zAh G.rs G.bl G.g b).turn=tn at *;have HD8:=zF hD8;have HB8:=zF hB8;have HGB:Hid ((D.gs.set i (G.moved b bs' (.slice a5 (G.mv.length + 1) c5')))[i]'(by simpa using hi)=G.moved b bs' (.slice a5 (G.mv.length + 1) c5')):=zF (by simp);clear hD8 hB8
   cases ask with
   | true=>
    go_wp2_with fail;refine (zD8 bw i G.gb _ _ (zA HD8) (by simpa using hi) (by show ((D.gs.set i (G.moved b bs' (.slice a5 (G.mv.length + 1) c5')))[i]'(by simpa using hi)).gb=G.gb;rw [zA HGB];rfl) hn5).mono ?_;intro e w9 hs;obtain ⟨rfl,hfin⟩:=StepD.fin (D:=D) (D2:={ D with gs:=D.gs.set i (G.moved b bs' (.slice a5 (G.mv.length + 1) c5')) }) (zA HB8) rfl rfl (by show (D.gs.set i _).length≤_;rw [List.length_set];omega) rfl rfl hs;clear hs;go_wp2_with fail;go_ret;exact hfin
   | false=>
    go_wp2_with fail;go_ret;exact StepD.quiet (zA HB8) (zA HD8) rfl rfl (by show (D.gs.set i _).length≤_;rw [List.length_set];omega) rfl rfl
theorem zQt (p:List Stp) (n:Nat):zM p n=if n=0 then (0,0) else ((ze p)[n - 1]?).getD (0,0):=by
 unfold zM ze
 split
 ·rfl
 ·rw [List.getElem?_map]
  cases p[n - 1]?<;>rfl
def zQi (kind:Nat) (ls:List (Nat × Nat)) (n:Nat) (l:Nat × Nat):zAB:=
 if kind=1 then (zDj l,zDj (zAz (if n=0 then (0,0) else (ls[n - 1]?).getD (0,0)) l)) else (l,zAz (if n=0 then (0,0) else (ls[n - 1]?).getD (0,0)) l)
theorem zLT (kind:Nat) (p0:List Stp):∀ p:List Stp,(p.filter (fun s=>s.rule == 4)).map (zB5 kind p0)=(p.map (fun s=>(zC7 s,s.lits))).filterMap (fun x=>x.1.map (fun n=>zQi kind (ze p0) n x.2)):=by
 intro p
 induction p with
 | nil=>rfl
 | cons s p ih=>
  rw [List.filter_cons,List.map_cons,List.filterMap_cons]
  by_cases h:s.rule=4
  ·have h1:(s.rule == 4)=true:=(by simpa using h);have h2:zC7 s=some s.first:=(by unfold zC7;rw [if_pos h]);rw [if_pos h1,List.map_cons,ih,h2];show zB5 kind p0 s :: _=zQi kind (ze p0) s.first s.lits :: _
   congr 1
   unfold zB5 zQi;rw [zQt]
  ·have h1:(s.rule == 4)=false:=(by simpa using h);have h2:zC7 s=none:=(by unfold zC7;rw [if_neg h]);rw [h1,if_neg (by decide),ih,h2];rfl
theorem zMe {rows:List (List UInt8)} {ss ss':List Stp} (h:Marks rows ss) (h':Marks rows ss') (hl:ze ss=ze ss'):ss.map (fun s=>(zC7 s,s.lits))=ss'.map (fun s=>(zC7 s,s.lits)):=by
 have hlen:ss.length=ss'.length:=by simpa [ze] using congrArg List.length hl
 apply List.ext_getElem (by simpa using hlen)
 intro i h1 h2;simp only [List.length_map] at h1 h2;have e1:=h i h1;have e2:=h' i h2;have e3:ss[i].lits=ss'[i].lits:=by
  have:=congrArg (fun l=>l[i]?) hl
  simp only [ze,List.getElem?_map,List.getElem?_eq_getElem h1,List.getElem?_eq_getElem h2,Option.map_some,Option.some.injEq] at this;exact this
 simp only [List.getElem_map];rw [e1,e2,e3]
theorem zHp {q:QS} {kind:Nat} {l:List UInt8} {ss ss':List Stp} (h:zFT q kind l ss) (h':zFT q kind l ss') (hl:ze ss=ze ss'):zAQ kind ss=zAQ kind ss':=by
 unfold zAQ;rw [zLT,zLT,zMe h.2 h'.2 hl,hl]
theorem zMW {q:QS} {kind:Nat} {l:List UInt8} {ss ss':List Stp} (h:zFT q kind l ss) (h':zFT q kind l ss') (hl:ze ss=ze ss'):zBO q kind ss=zBO q kind ss':=by
 unfold zBO;rw [zHp h h' hl]
def GG.at_ (G:GG) (i:Nat):GS:=(G.mv.take i).foldl (fun g m=>zAh G.rs G.bl g m) (zBO G.q G.kind G.ss)
theorem zN2 (G:GG) (i:Nat) (h:i < G.mv.length):G.at_ (i + 1)=zAh G.rs G.bl (G.at_ i) G.mv[i]:=by
 unfold GG.at_;rw [List.take_succ_eq_append_getElem h,List.foldl_append];rfl
theorem zSn {G:GG} (h:GPure G):G.at_ G.mv.length=G.g:=by unfold GG.at_;rw [List.take_length];exact h.play.symm
theorem zRo {G:GG} (h:GPure G) (i:Nat) (hi:i < G.mv.length):zBv G.bl (G.at_ i) ((G.mv[i]:Nat):Int)=0:=by
 have:=h.ok i hi
 rw [show G.mv.getD i 0=G.mv[i] from by simp [List.getD,hi]] at this;exact this
theorem zSs {G:GG} (h:GPure G):∀ i,i≤G.mv.length→∃ bs,Run G.q G.kind G.rs (G.at_ i) bs∧zHJ G.q G.kind (G.at_ i):=by
 have hq:QGood G.q:=h.pair.qg;have hk:G.kind=1∨G.kind=2:=zDO h.read;intro i
 induction i with
 | zero=>
  intro _;obtain ⟨bs,h1,h2,_⟩:=zLX hq hk G.ss;exact ⟨bs,h1,h2⟩
 | succ i ih=>
  intro hi;obtain ⟨bs,h1,h2⟩:=ih (by omega);have ho:=zRo h i hi;have ht:(G.at_ i).turn < (zG G.q.vars).length:=by
   have hl:G.bl.length=(zG G.q.vars).length:=zBB G.q G.kind
   by_cases e:G.bl.length≤(G.at_ i).turn
   ·unfold zBv at ho;rw [if_pos e] at ho;cases ho
   ·omega
  obtain ⟨b2,r1,r2,_⟩:=zLF hq hk h1 h2 ht G.mv[i];rw [zN2 G i hi];exact ⟨_,r1,r2⟩
theorem zRT {G:GG} (h:GPure G) (i:Nat) (hi:i < G.mv.length):zE8 ((G.mv[i]:Nat):Int):=by
 have ho:=zRo h i hi;unfold zBv at ho
 split at ho
 ·cases ho
 ·next hl=>
  split at ho
  ·cases ho
  ·next hb=>
   simp only [not_or] at hb;have h8:(G.bl.getD (G.at_ i).turn ([],false)).1.length≤8:=by
    have hB:=zE0 h.pair.qb G.kind;have hlt:(G.at_ i).turn < (blW G.q G.kind).length:=(by have h1:¬ (blW G.q G.kind).length≤(G.at_ i).turn:=hl;omega);show ((blW G.q G.kind).getD _ _).1.length≤8;rw [show (blW G.q G.kind).getD (G.at_ i).turn ([],false)=(blW G.q G.kind)[(G.at_ i).turn] from by simp [List.getD,hlt]];exact (hB.row _ (List.getElem_mem hlt)).1
   have hp:=zH6 _ h8;exact ⟨by omega,by omega⟩
theorem zPJ (Z:Nat→Prop) (bw:Nat) (G:GG) (w:World) (hG:GInv Z w G) (hv:G.val=zFP G.g.vals) :
  Calls Tryz.prog 31 #[.pointer (some ⟨bw,0,none⟩),.pointer (some ⟨G.gb,0,none⟩)] w fun e w'=>e=.returned (.bool true)∧Below w.heap.size w w':=by
 have hPr:=hG.pure.pair;have lg:=zB hG.fb;have g1:w.cell? ⟨G.gb,1,none⟩=some (.pointer (some ⟨G.b1,0,none⟩)):=zE hG.fb rfl;have g3:w.cell? ⟨G.gb,3,none⟩=some (S G.proof):=zE hG.fb rfl;have hP:=hG.firm.now.1;have hpu:=hG.pure;have hml:=hpu.mlen;have hn8:=zDR (zK G.q0).vars (zCp hPr.nice);have htn:G.g.turn≤(zG (zK G.q0).vars).length:=hpu.run.turn;have HRD:=zF hpu.read;have HPU:=zF hpu
 go_enter Tryz.func31,Tryz.ntmps31
 go_wp2_with fail;have hdr:Below w.heap.size w w.drew:=(Below.refl _ w).drew
 go_region_with (go_at_call 18;refine (zHR 0 G.b1 G.q G.proof _ (hP.later hdr) hPr.qb).mono ?_;rintro e w1 ⟨hb1,hp⟩;rw [zA HRD] at hp;obtain ⟨ss',db,gv,hls,htg,hsb,rfl,hGA,hdb,hfr⟩:=hp;have hB1:Below w.heap.size w w1:=hdr.trans hb1)
 all_goals
  have HRS:Hid (zAQ G.kind ss'=G.rs):=zF (zHp htg (zA HPU).tags hls);have HOS:Hid (zBO G.q G.kind ss'=G.at_ 0):=zF (zMW htg (zA HPU).tags hls);have hGA1:GameAt w1 db 79 G.bl G.rs (G.at_ 0) gv:=(by rw [← zA HRS,← zA HOS];exact hGA);have hdb':w.heap.size≤db:=hdb;clear hGA htg hls hsb hfr hdb;have hfb1:=(hB1.block _ lg).trans hG.fb;obtain ⟨aM,cM,hMf⟩:=zN hG.oM;have hoM:=hG.oM;rw [hMf] at hoM;have hvb:=hG.val;have lvb:=zB hvb;go_wp2_with fail
  go_loopg [8] (G.mv.length) (fun m ii wx=>∃ (k:Nat),ii=.int .i64 k∧k + m=G.mv.length∧GameAt wx db 79 G.bl G.rs (G.at_ k) gv∧Below w.heap.size w wx)
  case atStart=>exact ⟨0,rfl,by omega,hGA1,hB1⟩
  case round=>
   obtain ⟨k,rfl,hkm,hGk,hbk⟩:=hrel;have hfbk:=(hbk.block _ lg).trans hG.fb;have lgk:=zB hfbk;have c5:wr.cell? ⟨G.gb,5,none⟩=some (.slice aM G.mv.length cM):=(by rw [zC hfbk];exact congrArg some hMf);obtain ⟨bs,hrun,hst⟩:=zSs (zA HPU) k (by omega);have ldb:=zB hGk.fb
   by_cases hkl:k < G.mv.length
   ·obtain ⟨gM,cap,hVe,_,hgM',_,hcell⟩:=zS hoM (by omega);injection hVe with hVe _ hV2;subst hVe hV2;have hck:wr.cell? ⟨gM,k,none⟩=some (.int .i64 (G.mv[k]:Int)):=by
     rw [hbk.cell (p:=⟨gM,k,none⟩) hgM'];exact hcell k _ (by simp [zu,hkl])
    have lM:gM < wr.heap.size:=Nat.lt_of_lt_of_le hgM' hbk.size;have HOK:=zF (zRo (zA HPU) k hkl);have hbi:=zRT (zA HPU) k hkl;have HSU:=zF (zN2 G k hkl);have hbl:(G.at_ k).turn≤G.bl.length:=by show _≤(blW G.q G.kind).length;rw [zBB];exact hrun.turn
    clear hcell;go_wp2_with fail;have hdr2:Below wr.heap.size wr wr:=Below.refl _ wr;refine (zFg db _ G.bl G.rs (G.at_ k) gv (G.mv[k]:Int) _ (hGk.later hdr2) (zIA hpu.sbs _) (zE0 hPr.qb _) hrun.lt hbl hbi).mono ?_;rintro e w2 ⟨rfl,hG2,ho2⟩;rw [zA HOK,show ((0:Nat):Int)=0 from rfl]
    all_goals
     have HG2:Hid (GameAt w2 db 79 G.bl G.rs (G.at_ (k + 1)) gv):=zF (by
      rw [zA HSU]
      have:zC2 G.rs G.bl (G.at_ k) (G.mv[k]:Int)=zAh G.rs G.bl (G.at_ k) G.mv[k]:=by unfold zC2;rw [zA HOK,if_pos rfl,Int.toNat_natCast]
      rw [← this];exact hG2)
     have hB2:Below w.heap.size w w2:=hbk.trans ((Only.below (T:=(·=db)) ((Only.of_below hdr2).trans ho2) hbk.size (fun j hj e=>by omega)));clear hG2;go_wp2_with fail
     go_roundg (gk - 1)
     case measure=>omega
     case rel=>exact ⟨k + 1,by go_num,by omega,zA HG2,hB2⟩
   ·have hke:k=G.mv.length:=(by omega);subst hke;have hdk:decide ((G.mv.length:Int) < (G.mv.length:Int))=false:=(by simp);rw [zSn (zA HPU)] at hGk hrun;go_wp2_with fail;refine (zHt db _ G.bl G.rs G.g gv _ hGk hrun.lt).mono ?_;rintro e w3 ⟨kL,rfl,hkL,hL,hb3⟩;have hG3:=hGk.later hb3;have hB3:Below w.heap.size w w3:=hbk.trans (hb3.mono hbk.size);have ldb3:=zB hG3.fb;go_wp2_with fail;refine (zJT db _ G.bl G.rs G.g gv w3 hG3).mono ?_;rintro e w4 ⟨rfl,hw4⟩;subst hw4;go_wp2_with fail;obtain ⟨wo,rfl⟩:∃ wo,wo=wr:=⟨_,rfl⟩
    go_loopg [12] 8 (fun m vv wx=>∃ (j:Nat),vv=.int .i64 (j:Int)∧j + m=8∧Below w4.heap.size w4 wx)
    case atStart=>exact ⟨0,rfl,by omega,Below.refl _ _⟩
    case round=>
     obtain ⟨j,rfl,hjm,hbo⟩:=hrel;have hB5:Below w.heap.size w wr:=hB3.trans (hbo.mono hB3.size);have hLx:=zH hbo hL;have lLx:=zB hLx;have hfb5:=(hB5.block _ lg).trans hG.fb;have lg5:=zB hfb5;have hvb5:=(hB5.block _ lvb).trans hvb;have lv5:=zB hvb5;have d7:wr.cell? ⟨G.gb,7,none⟩=some (.slice (some ⟨G.vb,0,none⟩) 8 8):=zE hfb5 rfl;have d6:wr.cell? ⟨G.gb,6,none⟩=some (.int .i64 (G.g.turn:Int)):=zE hfb5 rfl
     by_cases hj8:j < 8
     ·have hd:decide ((j:Int) < 8)=true:=decide_eq_true (by omega);have hlj:wr.cell? ⟨kL,j,none⟩=some (.int .i64 (zBC G.g.vals (j + 1))):=(by rw [zC hLx,zD0 _ _ _ hj8,if_pos hj8]);have hvj:wr.cell? ⟨G.vb,j,none⟩=some (.int .i64 (zBC G.g.vals (j + 1))):=by
       rw [zC hvb5,hv];have h8:(zFP G.g.vals).length=8:=by simp [zFP]
       have:=zIy G.g.vals (j + 1) (by omega) (by omega)
       rw [Nat.add_sub_cancel] at this;rw [← this];simp [zC1,List.getD,h8,hj8]
      have hne:(zBC G.g.vals (j + 1) != zBC G.g.vals (j + 1))=false:=(by simp);generalize zBC G.g.vals (j + 1)=y at *;go_wp2_with fail
      go_quiet (fail)
      have b6:Below wr.heap.size wr (wr.drewN nq):=below_drewN (Below.refl _ _) nq;have hbo6:=hbo.trans (b6.mono hbo.size);generalize wr.drewN nq=w6 at *;go_wp2_with fail
      go_roundg (gk - 1)
      case measure=>omega
      case rel=>exact ⟨j + 1,by go_num,by omega,hbo6⟩
     ·have hj:j=8:=(by omega);subst hj;have hq:((G.g.turn:Int) == (G.g.turn:Int))=true:=(by simp);go_wp2_with fail;go_ret;exact ⟨rfl,hB5⟩
theorem zNP (bw:Nat) (D:DW) (o:OpV) (w:World) (hD:DInv bw w D) (hk:zGj o.kind=true) (hok:o.Ok) (hpl:D.proof.length≤1048576) (htl:D.text.length≤1048576) (hsl:o.s.length≤1048576) :
  Calls Tryz.prog 19 #[.pointer (some ⟨bw,0,none⟩),.agg #[.int .i64 o.kind,.int .i64 o.a,.int .i64 o.b,.int .i64 o.c,S o.s,S o.t]] w fun e w'=>StepD bw D (o.s.length + 1) w e w':=by
 refine (zLW bw D.text D.px D.pf D.proof o D.v4 D.v5 D.v6 w hD.wat hk hok hpl htl hsl).mono ?_;rintro e w' ⟨h1,ho,text',px',pf',proof',hw',h2,h3,h4⟩;refine ⟨h1,ho.below (Nat.le_of_lt (zB hD.wat)) (fun k hk e=>by omega),_,hD.base ho hw' h4,by show text'.length≤_;omega,by show proof'.length≤_;omega,by show D.gs.length≤_;omega,by show D.h5s.length≤_;omega,by show D.h6s.length≤_;omega⟩
theorem zR1 (bw i:Nat) (D:DW) (bits:Int) (ask:Bool) (w:World) (hD:DInv bw w D) (hi:i < D.gs.length) (hbi:zE8 bits) (hn5:D.h5s.length≤1073741824) :
  Calls Tryz.prog 30 #[.pointer (some ⟨bw,0,none⟩),.pointer (some ⟨D.gs[i].gb,0,none⟩),.int .i64 bits,.bool ask] w fun e w'=>StepD bw D 0 w e w':=by
 have hG:=hD.games _ (List.getElem_mem hi);obtain ⟨G,hGe⟩:∃ G,D.gs[i]=G:=⟨_,rfl⟩;rw [hGe] at hG ⊢;have ht:G.g.turn≤(zG (zK G.q0).vars).length:=hG.pure.run.turn
 by_cases hov:G.g.turn=(zG (zK G.q0).vars).length
 ·exact zMz bw i D G bits ask w hD hi hGe hbi hn5 hov
 ·have htl:G.g.turn < (zG (zK G.q0).vars).length:=by omega
  by_cases hbad:bits < 0∨(2:Int) ^ (zG (zK G.q0).vars)[G.g.turn].length≤bits
  ·exact zOd bw i D G bits ask w hD hi hGe hbi hn5 htl hbad
  ·simp only [not_or] at hbad;obtain ⟨b,rfl⟩:∃ b:Nat,bits=(b:Int):=⟨bits.toNat,by omega⟩;exact zRS bw i D G b ask w hD hi hGe hn5 htl (by omega)
theorem DInv.v4f {bw:Nat} {w:World} {D:DW} (hD:DInv bw w D):∃ a c,D.v4=.slice a D.gs.length c∧w.cell? ⟨bw,4,none⟩=some (.slice a D.gs.length c):=by
 obtain ⟨a,c,h⟩:=zN hD.o4;exact ⟨a,c,h,by rw [zC hD.wat];exact congrArg some h⟩
theorem DInv.gat {bw:Nat} {w:World} {D:DW} (hD:DInv bw w D) {a:Option Addr} {c:Nat} (hf:D.v4=.slice a D.gs.length c) {i:Nat} (hi:i < D.gs.length):∃ g,a=some ⟨g,0,none⟩∧g < w.heap.size∧w.cell? ⟨g,i,none⟩=some (.pointer (some ⟨D.gs[i].gb,0,none⟩)):=by
 have h:=hD.o4;rw [hf] at h;obtain ⟨g,cap,e,_,hg,_,hc⟩:=zS h (by omega);injection e with e _ _;exact ⟨g,e,hg,hc i _ (by simp [hi,zIi])⟩
def zGg (c:Int) (n:Nat):Nat:=if c < 0 then ((-(c + 1)) % n).toNat else (c % n).toNat
theorem zQo (c:Int) (n:Nat) (hn:0 < n):zGg c n < n:=by
 unfold zGg
 split
 ·have:=Int.emod_nonneg (-(c + 1)) (show (n:Int)≠0 by omega)
  have:=Int.emod_lt_of_pos (-(c + 1)) (show (0:Int) < n by omega)
  omega
 ·have:=Int.emod_nonneg c (show (n:Int)≠0 by omega)
  have:=Int.emod_lt_of_pos c (show (0:Int) < n by omega)
  omega
theorem zSN (c:Int) (n:Nat) (w:World) (hn:0 < n) (hn2:n≤1048576) (h1:-9223372036854775808≤c) (h2:c≤9223372036854775807) :
  Calls Tryz.prog 29 #[.int .i64 c,.int .i64 n] w fun e w'=>e=.returned (.int .i64 (zGg c n:Nat))∧w'=w:=by
 by_cases hc:c < 0
 ·have hd:decide (c < 0)=true:=(by simpa using hc);have HP:Hid (zGg c n=((-(c + 1)) % n).toNat):=zF (by unfold zGg;rw [if_pos hc])
  go_enter Tryz.func29,Tryz.ntmps29
  go_wp2_with fail;go_ret;have e:-((c + 1).tmod n)=(-(c + 1)) % n:=(by rw [← Int.neg_tmod,Int.tmod_eq_emod_of_nonneg (by omega)]);have e1:=Int.emod_nonneg (-(c + 1)) (show (n:Int)≠0 by omega);refine ⟨zA7 ?_,rfl⟩;rw [zA HP];omega
 ·have hd:decide (c < 0)=false:=(by simpa using hc);have HP:Hid (zGg c n=(c % n).toNat):=zF (by unfold zGg;rw [if_neg hc])
  go_enter Tryz.func29,Tryz.ntmps29
  go_wp2_with fail;go_ret;refine ⟨zA7 ?_,rfl⟩;rw [zA HP]
  have:=Int.emod_nonneg c (show (n:Int)≠0 by omega)
  omega
def zJj (k:Int):Bool:=k == 8 || k == 9 || k == 11
theorem zLq (bw:Nat) (D:DW) (o:OpV) (w:World) (hD:DInv bw w D) (hk:zJj o.kind=true) (h0:D.gs=[]) :
  Calls Tryz.prog 19 #[.pointer (some ⟨bw,0,none⟩),.agg #[.int .i64 o.kind,.int .i64 o.a,.int .i64 o.b,.int .i64 o.c,S o.s,S o.t]] w fun e w'=>StepD bw D (o.s.length + 1) w e w':=by
 obtain ⟨a4,c4,hf,h4⟩:=hD.v4f;rw [h0] at h4;have hbw:=zB hD.wat;have HQ:Hid (∀ w',Below w.heap.size w w'→StepD bw D (o.s.length + 1) w (.returned (.bool true)) w'):=zF (fun w' h=>(StepD.quiet (h.mono (Nat.le_of_lt hbw)) (hD.later h) rfl rfl (by omega) rfl rfl).more (by omega));obtain ⟨kind,a,b,c,s,t⟩:=o;unfold zJj at hk;simp only [Bool.or_eq_true,beq_iff_eq] at hk;dsimp only at hk HQ ⊢
 rcases hk with (rfl | rfl) | rfl
 all_goals
  go_enter Tryz.func19,Tryz.ntmps19
  go_wp2_with fail;go_ret;exact zA HQ _ ((Below.refl _ _).alloc (Nat.le_refl _) _)
theorem zOL {bw i:Nat} {D:DW} {w w':World} {e:Ending} (hs:zGS bw i D w e w') (hi:i < D.gs.length):e=.returned (.bool true)∧Below bw w w'∧∃ D',DInv bw w' D'∧D'.text=D.text∧D'.proof=D.proof∧D'.gs.length=D.gs.length∧D'.h5s.length=D.h5s.length + 1∧D'.h6s=D.h6s∧GInv D'.Z w' D.gs[i].told:=by
 obtain ⟨he,hb,_,v5',hdr,Z',hD'⟩:=hs;refine ⟨he,hb,_,hD',rfl,rfl,by simp,by simp,rfl,?_⟩;exact hD'.games _ (List.mem_iff_getElem.2 ⟨i,by simpa using hi,by simp⟩)
theorem zOU (bw:Nat) (D:DW) (o:OpV) (w:World) (hD:DInv bw w D) (hk:zJj o.kind=true) (h0:0 < D.gs.length) (hok:o.Ok) (hn4:D.gs.length≤1048576) (hn5:D.h5s.length≤1073741824) :
  Calls Tryz.prog 19 #[.pointer (some ⟨bw,0,none⟩),.agg #[.int .i64 o.kind,.int .i64 o.a,.int .i64 o.b,.int .i64 o.c,S o.s,S o.t]] w fun e w'=>StepD bw D (o.s.length + 1) w e w':=by
 have hbw:=zB hD.wat;obtain ⟨kind,a,b,c,s,t⟩:=o;obtain ⟨_,⟨ha1,ha2⟩,hb64,⟨hc1,hc2⟩⟩:=hok;dsimp only at hk ha1 ha2 hb64 hc1 hc2 ⊢;have hA:Below w.heap.size w (w.alloc (.cells #[.int .i64 kind,.int .i64 a,.int .i64 b,.int .i64 c,S s,S t] 29)):=(Below.refl _ _).alloc (Nat.le_refl _) _;have hop:=heap_alloc_new w (.cells #[.int .i64 kind,.int .i64 a,.int .i64 b,.int .i64 c,S s,S t] 29);have hDA:=hD.later hA;obtain ⟨a4,c4,hf,h4A⟩:=hDA.v4f;have hne:((D.gs.length:Int) == 0)=false:=(by rw [beq_eq_false_iff_ne];omega);have hr:=zQo a D.gs.length h0;have HPK:Hid (∀ w,Calls Tryz.prog 29 #[.int .i64 a,.int .i64 D.gs.length] w fun e w'=>e=.returned (.int .i64 (zGg a D.gs.length:Nat))∧w'=w):=zF (fun w=>zSN a D.gs.length w h0 hn4 ha1 ha2);generalize zGg a D.gs.length=r at *;obtain ⟨g,rfl,hg,hcell⟩:=hDA.gat hf hr;have hMb:bw≤w.heap.size:=Nat.le_of_lt hbw;have HD:Hid (∀ w1,Below w.heap.size w w1→DInv bw w1 D):=zF (fun w1 h=>hD.later h);have HFIN:Hid (∀ e w1 w2,Below w.heap.size w w1→StepD bw D 0 w1 e w2→e=.returned (.bool true)∧StepD bw D (s.length + 1) w (.returned (.bool true)) w2):=zF (fun e w1 w2 hb h=>by
  have he:=h.ret;subst he;exact ⟨rfl,(h.after (hb.mono hMb)).more (by omega)⟩)
 clear hD hDA hf;have h4w:w.cell? ⟨bw,4,none⟩=some (.slice (some ⟨g,0,none⟩) D.gs.length c4):=(by rw [← hA.cell (p:=⟨bw,4,none⟩) hbw];exact h4A);have lbA:=Nat.lt_of_lt_of_le hbw hA.size;have lop:=zB hop;unfold zJj at hk;simp only [Bool.or_eq_true,beq_iff_eq] at hk;have HREST:Hid (∀ w1,Below (w.alloc (.cells #[.int .i64 kind,.int .i64 a,.int .i64 b,.int .i64 c,S s,S t] 29)).heap.size (w.alloc (.cells #[.int .i64 kind,.int .i64 a,.int .i64 b,.int .i64 c,S s,S t] 29)) w1→Below w.heap.size w w1∧w1.heap[w.heap.size]?=some (.cells #[.int .i64 kind,.int .i64 a,.int .i64 b,.int .i64 c,S s,S t] 29 (0,0))):=zF (fun w1 hb=>⟨hA.trans (hb.mono hA.size),(hb.block _ lop).trans hop⟩)
 rcases hk with (rfl | rfl) | rfl
 ·go_enter Tryz.func19,Tryz.ntmps19
  go_wp2_with fail
  go_quiet (first | (go_at_call 29;refine Calls.quiet_of_same (zA HPK _)))
  obtain ⟨hB1,hop1⟩:=zA HREST _ (below_drewN (Below.refl _ _) nq);clear HREST hA hop h4A hg hcell lbA lop h4w;generalize (w.alloc (.cells #[.int .i64 8,.int .i64 a,.int .i64 b,.int .i64 c,S s,S t] 29)).drewN nq=w1 at *;have o2:w1.cell? ⟨w.heap.size,2,none⟩=some (.int .i64 b):=zE hop1 rfl;have o3:w1.cell? ⟨w.heap.size,3,none⟩=some (.int .i64 c):=zE hop1 rfl;have o0:w1.cell? ⟨w.heap.size,0,none⟩=some (.int .i64 8):=zE hop1 rfl;have lop1:=zB hop1;go_wp2_with fail;refine (zR1 bw r D b _ _ (zA HD _ hB1) hr hb64 hn5).mono ?_;intro e w2 hs;obtain ⟨rfl,hfin⟩:=zA HFIN _ _ _ hB1 hs;clear hs;go_wp2_with fail;go_ret;exact hfin
 ·go_enter Tryz.func19,Tryz.ntmps19
  go_wp2_with fail
  go_quiet (first | (go_at_call 29;refine Calls.quiet_of_same (zA HPK _)))
  obtain ⟨hB1,hop1⟩:=zA HREST _ (below_drewN (Below.refl _ _) nq);clear HREST hA hop h4A hg hcell lbA lop h4w;generalize (w.alloc (.cells #[.int .i64 9,.int .i64 a,.int .i64 b,.int .i64 c,S s,S t] 29)).drewN nq=w1 at *;have o0:w1.cell? ⟨w.heap.size,0,none⟩=some (.int .i64 9):=zE hop1 rfl;have lop1:=zB hop1;go_wp2_with fail;refine (zD8 bw r _ D w1 (zA HD _ hB1) hr rfl hn5).mono ?_;intro e w2 hs;obtain ⟨rfl,hfin⟩:=StepD.fin (D:=D) (D2:=D) (hB1.mono hMb) rfl rfl (by omega) rfl rfl hs;clear hs;go_wp2_with fail;go_ret;exact hfin.more (by omega)
 ·go_enter Tryz.func19,Tryz.ntmps19
  go_wp2_with fail
  go_quiet (first | (go_at_call 29;refine Calls.quiet_of_same (zA HPK _)))
  obtain ⟨hB1,hop1⟩:=zA HREST _ (below_drewN (Below.refl _ _) nq);clear HREST hA hop h4A hg hcell lbA lop h4w;generalize (w.alloc (.cells #[.int .i64 11,.int .i64 a,.int .i64 b,.int .i64 c,S s,S t] 29)).drewN nq=w1 at *;have o0:w1.cell? ⟨w.heap.size,0,none⟩=some (.int .i64 11):=zE hop1 rfl;have lop1:=zB hop1;go_wp2_with fail;refine (zD8 bw r _ D w1 (zA HD _ hB1) hr rfl hn5).mono ?_;intro e w2 hs;obtain ⟨rfl,hb2,D',hD',e1,e2,e3,e4,e5,hGt⟩:=zOL hs hr;clear hs;go_wp2_with fail;refine (zPJ D'.Z bw D.gs[r].told w2 hGt rfl).mono ?_;rintro e w3 ⟨rfl,hb3⟩;have hbw2:=zB hD'.wat;have hD3:=hD'.later hb3;have hB3:Below bw w w3:=((hB1.mono hMb).trans hb2).trans (hb3.mono (Nat.le_of_lt hbw2));have HF3:Hid (StepD bw D (s.length + 1) w (.returned (.bool true)) w3):=zF ⟨rfl,hB3,D',hD3,by rw [e1];omega,by rw [e2];omega,by omega,by omega,by rw [e5];omega⟩;clear e1 e2 e3 e4 e5;go_wp2_with fail;go_ret;exact zA HF3
theorem zOq {q:QS} {l:List UInt8} {x i:Nat} (h:zCM q l=(0,x,i)) (hx:0 < x):zA1 q l=.inl (x,i):=by
 unfold zCM at h
 cases hr:zA1 q l with
 | inl y=>
  obtain ⟨y1,y2⟩:=y;rw [hr] at h;injection h with _ h;injection h with h1 h2;subst h1 h2;rfl
 | inr y=>
  obtain ⟨k,ls⟩:=y;rw [hr] at h;injection h with _ h;injection h with h1 h2;omega
theorem zPV {q:QS} {l:List UInt8} {k:Nat} (h:zCM q l=(k,0,0)) (hk:0 < k):∃ ls,zA1 q l=.inr (k,ls):=by
 unfold zCM at h
 cases hr:zA1 q l with
 | inl y=>
  obtain ⟨y1,y2⟩:=y;rw [hr] at h;injection h with h1 _;omega
 | inr y=>
  obtain ⟨k',ls⟩:=y;rw [hr] at h;injection h with h1 _;subst h1;exact ⟨ls,rfl⟩
theorem zRN:(Tryz.prog.info? 51).map (fun i=>(i.zero,i.size,i.bytes))=some (some (.pointer none),1,8):=by kernel_rfl
def vals0:List Int:=[0,0,0,0,0,0,0,0]
theorem zPP {st:RS} {q0:QS} (hP:Pair st q0) {proof:List UInt8} {kind:Nat} {ss:List Stp} (hr:zA1 (zK q0) proof=.inr (kind,ze ss)) (ht:zFT (zK q0) kind proof ss) (hs:SBs ss) (gb db b1 b2 vb:Nat) (gv:GV) :
  ∃ bs,GPure ⟨gb,db,b1,b2,st,q0,proof,kind,ss,[],bs,zBO (zK q0) kind ss,gv,.slice none 0 0,vb,vals0⟩∧zFw (zK q0) kind 0=(zBO (zK q0) kind ss).turn:=by
 have hk:=zDO hr;obtain ⟨bs,r1,r2,r3⟩:=zLX hP.qg hk ss;refine ⟨bs,⟨hP.same,hP.cl,hP.nice,hr,ht,hs,rfl,fun i hi=>by simp at hi,r1,r2,by simp,rfl,fun v h1 h8=>Or.inl ?_⟩,?_⟩
 ·show vals0.getD (v - 1) 0=0
  have:∀ k:Fin 8,vals0.getD k.val 0=0:=by decide
  exact this ⟨v - 1,by omega⟩
 ·exact zL0 _ kind 0 _ (Nat.zero_le _) r2.le (fun j hj _ h=>r3 j hj h) r2.lose
def GZ (gv:GV) (k:Nat):Prop:=gv.vB.ownBlock=some k∨gv.vR.ownBlock=some k∨∃ j,∃ hj:j < gv.hdrs.length,gv.hdrs[j].ownBlock=some k
theorem zNq {bw b1 b2:Nat} {st:RS} {q0:QS} {D:DW} {w w2 wc w4:World} {kind:Nat} {ss:List Stp} {gv:GV} {db gb vb:Nat} {v':Value} {bs:List Bool} (hD:DInv bw w D) (hF:Firm D.Z (fun w=>ProgAt (bw + 1) w b1 (zK q0)∧RefAt (bw + 1) w b2 (zW st)) w)
  (hB2:Below w.heap.size w w2) (hGA:GameAt w2 db 79 (blW (zK q0) kind) (zAQ kind ss) (zBO (zK q0) kind ss) gv) (hdb:w.heap.size≤db) (hfr:zI1 w.heap.size gv) (hb3:Below w2.heap.size w2 wc) (hgb:w2.heap.size≤gb) (hvb:w2.heap.size≤vb)
  (hgB:wc.heap[gb]?=some (.cells #[.pointer (some ⟨db,0,none⟩),.pointer (some ⟨b1,0,none⟩),.pointer (some ⟨b2,0,none⟩),S D.proof,.int .i64 (kind:Int),.slice none 0 0,.int .i64 0,.slice (some ⟨vb,0,none⟩) 8 8] 87 (0,0)))
  (hvB:wc.heap[vb]?=some (.cells #[.int .i64 0,.int .i64 0,.int .i64 0,.int .i64 0,.int .i64 0,.int .i64 0,.int .i64 0,.int .i64 0] 3 (0,0)))
  (hown4:w4.ownsRow (bw + 1) 51 1 v' (D.gs.length + 1) (D.gs.map zIi ++ [.pointer (some ⟨gb,0,none⟩)])) (hgrow:wc.grownBy w4 D.v4.ownBlock) (hat:v'.ownBlock=D.v4.ownBlock∨∃ k,v'.ownBlock=some k∧wc.heap.size≤k)
  (hpure:GPure ⟨gb,db,b1,b2,st,q0,D.proof,kind,ss,[],bs,zBO (zK q0) kind ss,gv,.slice none 0 0,vb,vals0⟩) :
  (w4.setCell ⟨bw,4,none⟩ v').heap[gb]?=some (.cells #[.pointer (some ⟨db,0,none⟩),.pointer (some ⟨b1,0,none⟩),.pointer (some ⟨b2,0,none⟩),S D.proof,.int .i64 (kind:Int),.slice none 0 0,.int .i64 0,.slice (some ⟨vb,0,none⟩) 8 8] 87 (0,0))∧RefAt 0 (w4.setCell ⟨bw,4,none⟩ v') b2 (zW st)∧
  ∀ w7,Below (w4.setCell ⟨bw,4,none⟩ v').heap.size (w4.setCell ⟨bw,4,none⟩ v') w7→
   DInv bw (w7.setCell ⟨gb,6,none⟩ (.int .i64 ((zBO (zK q0) kind ss).turn:Int))) { D with v4:=v',gs:=D.gs ++ [⟨gb,db,b1,b2,st,q0,D.proof,kind,ss,[],bs,zBO (zK q0) kind ss,gv,.slice none 0 0,vb,vals0⟩],Z:=fun k=>D.Z k∨GZ gv k }∧Below bw w (w7.setCell ⟨gb,6,none⟩ (.int .i64 ((zBO (zK q0) kind ss).turn:Int))):=by
 have hw:=hD.wat;unfold WAt at hw;have hbw:=zB hw;have s2:=hB2.size;have s3:=hb3.size;have hBc:Below w.heap.size w wc:=hB2.trans (hb3.mono hB2.size);have hwc:=(hBc.block _ hbw).trans hw;have h4lt:∀ k,D.v4.ownBlock=some k→bw < k∧k < w.heap.size:=fun k hk=>by have:=hD.o4.lt k hk;omega
 have h4ty:∀ k,D.v4.ownBlock=some k→∃ c,wc.heap[k]?=some (.cells c 51 (0,0)):=fun k hk=>by
  obtain ⟨c,hc⟩:=zr hD.o4 k hk;exact ⟨c,(hBc.block k (zB hc)).trans hc⟩
 have hdbc:=(hb3.block _ (zB hGA.fb)).trans hGA.fb;have hne4:∀ k c t,wc.heap[k]?=some (.cells c t (0,0))→t≠51→D.v4.ownBlock≠some k:=fun k c t hk ht e=>by
  obtain ⟨c',hc'⟩:=h4ty k e;exact ht (zc hk hc')
 have keep5:∀ k c t,wc.heap[k]?=some (.cells c t (0,0))→t≠51→k≠bw→(w4.setCell ⟨bw,4,none⟩ v').heap[k]?=some (.cells c t (0,0)):=fun k c t hk ht hb=>by
  rw [Below.heap_setCell _ _ _ _ hb];exact (hgrow.block k (zB hk) (fun e=>hne4 k c t hk ht e.symm)).trans hk
 have hgb5:=keep5 gb _ _ hgB (by decide) (by omega);have hdb5:=keep5 db _ _ hdbc (by decide) (by omega);have hvb5:=keep5 vb _ _ hvB (by decide) (by omega);have hO5:Only (fun k=>k=bw∨D.v4.ownBlock=some k) w (w4.setCell ⟨bw,4,none⟩ v'):=by
  have hx:Only (fun k=>k=bw∨D.v4.ownBlock=some k) w w4:=(Only.of_below hBc).grown hgrow (fun k hk=>Or.inl (Or.inr hk));exact hx.setCell (p:=⟨bw,4,none⟩) (Or.inl (Or.inl rfl)) v'
 have hgs:=hgrow.size;have hs45:(w4.setCell ⟨bw,4,none⟩ v').heap.size=w4.heap.size:=(by simp [World.setCell]);have hZT:∀ k,D.Z k→¬ (k=bw∨D.v4.ownBlock=some k):=fun k hk h=>by
  rcases h with h | h
  ·have:=(hD.zin k hk).1;omega
  ·exact hD.n4 k h hk
 have s5:=hO5.size;have hF5:=hF.step hO5 hZT;refine ⟨hgb5,hF5.now.2.lo (Nat.zero_le _),fun w7 hb7=>?_⟩;have s7:=hb7.size;generalize hu:(Value.int .i64 ((zBO (zK q0) kind ss).turn:Int))=u;have hO8:Only (fun k=>k=bw∨D.v4.ownBlock=some k) w (w7.setCell ⟨gb,6,none⟩ u):=(hO5.trans (Only.of_below hb7)).setCell (p:=⟨gb,6,none⟩) (Or.inr (by show w.heap.size≤gb;omega)) u;have keep8:∀ k o,k≠gb→(w4.setCell ⟨bw,4,none⟩ v').heap[k]?=some o→(w7.setCell ⟨gb,6,none⟩ u).heap[k]?=some o:=fun k o hk ho=>(Below.heap_setCell _ _ _ _ hk).trans (zH hb7 ho)
 have hdg:db≠gb:=fun e=>by rw [e] at hdb5;exact absurd (zc hdb5 hgb5) (by decide)
 have hvg:vb≠gb:=fun e=>by rw [e] at hvb5;exact absurd (zc hvb5 hgb5) (by decide)
 have hbg:bw≠gb:=(by omega);have hgb8:(w7.setCell ⟨gb,6,none⟩ u).heap[gb]?=some (.cells #[.pointer (some ⟨db,0,none⟩),.pointer (some ⟨b1,0,none⟩),.pointer (some ⟨b2,0,none⟩),S D.proof,.int .i64 (kind:Int),.slice none 0 0,u,.slice (some ⟨vb,0,none⟩) 8 8] 87 (0,0)):=zI (zH hb7 hgb5) 6 u;have hdb8:=keep8 db _ hdg hdb5;have hvb8:=keep8 vb _ hvg hvb5;have hv'bw:v'.ownBlock≠some bw:=fun e=>by have:=(hown4.lt _ e).1;omega
 have hv'gb:v'.ownBlock≠some gb:=fun e=>by
  obtain ⟨c,hc⟩:=zr (zR hown4 (p:=⟨bw,4,none⟩) hv'bw v') _ e;exact absurd (zc hc hgb5) (by decide)
 have h48:=zR (zO (zR hown4 (p:=⟨bw,4,none⟩) hv'bw v') hb7) (p:=⟨gb,6,none⟩) hv'gb u;have hbw4:D.v4.ownBlock≠some bw:=fun e=>by have:=h4lt _ e;omega
 have hw5:(w4.setCell ⟨bw,4,none⟩ v').heap[bw]?=_:=zI ((hgrow.block bw (zB hwc) (fun e=>hbw4 e.symm)).trans hwc) 4 v';have hw8:=keep8 bw _ hbg hw5;have hrows:=hGA.rows;have hgz2:∀ k,GZ gv k→w.heap.size≤k∧k < w2.heap.size∧∃ c t,w2.heap[k]?=some (.cells c t (0,0))∧(t=111∨t=149∨t=3):=fun k hk=>by
  rcases hk with h | h | ⟨j,hj,h⟩
  ·obtain ⟨c,hc⟩:=zr hrows.oB k h;exact ⟨hfr.1 k h,zB hc,c,_,hc,Or.inl rfl⟩
  ·obtain ⟨c,hc⟩:=zr hrows.oR k h;exact ⟨hfr.2.1 k h,zB hc,c,_,hc,Or.inr (Or.inl rfl)⟩
  ·obtain ⟨c,hc⟩:=zr (hrows.row j (by have:=hrows.len;omega)) k h;exact ⟨hfr.2.2 j hj k h,zB hc,c,_,hc,Or.inr (Or.inr rfl)⟩
 have hgzc:∀ k,GZ gv k→¬ (k=bw∨D.v4.ownBlock=some k):=fun k hk h=>by
  have h1:=hgz2 k hk
  rcases h with h | h
  ·omega
  ·have:=h4lt k h;omega
 have hO28:Only (fun k=>k=bw∨D.v4.ownBlock=some k) w2 (w7.setCell ⟨gb,6,none⟩ u):=by
  have hx:Only (fun k=>k=bw∨D.v4.ownBlock=some k) w2 w4:=(Only.of_below hb3).grown hgrow (fun k hk=>Or.inl (Or.inr hk));exact ((hx.setCell (p:=⟨bw,4,none⟩) (Or.inl (Or.inl rfl)) v').trans (Only.of_below hb7)).setCell (p:=⟨gb,6,none⟩) (Or.inr hgb) u
 have hR8:GRows (w7.setCell ⟨gb,6,none⟩ u) (blW (zK q0) kind) (zAQ kind ss) gv:=by
  have hl:=hrows.len;exact ⟨zY hrows.oB hO28 (fun k hk=>hgzc k (Or.inl hk)),zY hrows.oR hO28 (fun k hk=>hgzc k (Or.inr (Or.inl hk))),hrows.len,fun j hj=>zY (hrows.row j hj) hO28 (fun k hk=>hgzc k (Or.inr (Or.inr ⟨j,by omega,hk⟩)))⟩
 have hR8f:Firm (fun k=>D.Z k∨GZ gv k) (fun w=>GRows w (blW (zK q0) kind) (zAQ kind ss) gv) (w7.setCell ⟨gb,6,none⟩ u):=zPb hR8 (fun k hk=>Or.inr (Or.inl hk)) (fun k hk=>Or.inr (Or.inr (Or.inl hk))) (fun j hj k hk=>Or.inr (Or.inr (Or.inr ⟨j,hj,hk⟩)));have hF8:=(hF.step hO8 hZT).grow (Z':=fun k=>D.Z k∨GZ gv k) (fun k hk=>Or.inl hk);refine ⟨hD.push ⟨gb,db,b1,b2,st,q0,D.proof,kind,ss,[],bs,zBO (zK q0) kind ss,gv,.slice none 0 0,vb,vals0⟩ v' (fun k=>D.Z k∨GZ gv k) _ hO8 (fun k _ h=>h) hw8 h48 (fun k hk=>Or.inl hk) (fun k hk=>?_) (fun k hk h=>?_) ?_ (fun k hk=>?_),hO8.below (Nat.le_of_lt hbw) (fun k hk h=>?_)⟩
 ·rcases hk with h | h
  ·exact Or.inl h
  ·have:=hgz2 k h
   have:(w7.setCell ⟨gb,6,none⟩ u).heap.size=w7.heap.size:=by simp [World.setCell]
   exact Or.inr ⟨by omega,by omega⟩
 ·rcases h with h | h
  ·rcases hat with e | ⟨j,e,hj⟩
   ·rw [e] at hk;exact hD.n4 k hk h
   ·rw [e] at hk;injection hk with hk;subst hk
    have:=(hD.zin _ h).2;omega
  ·have h1:=hgz2 k h
   rcases hat with e | ⟨j,e,hj⟩
   ·rw [e] at hk;have:=h4lt k hk;omega
   ·rw [e] at hk;injection hk with hk;subst hk;omega
 ·refine ⟨?_,hdb8,fun T w' ho hT=>⟨(hF8 T w' ho hT).1.lo (Nat.zero_le _),(hF8 T w' ho hT).2.lo (Nat.zero_le _),hR8f T w' ho hT⟩,World.ownsRow_nil _ _ _ _,hvb8,fun e=>(by cases e),hpure⟩;rw [hgb8,← hu]
 ·have hk':k=gb∨k=db∨k=vb∨(Value.slice none 0 0).ownBlock=some k:=hk;have hnz:∀ k,w.heap.size≤k→¬ GZ gv k→¬ (D.Z k∨GZ gv k):=fun k h1 h2 h=>by
   rcases h with h | h
   ·have:=(hD.zin k h).2;omega
   ·exact h2 h
  rcases hk' with rfl | rfl | rfl | h
  ·exact ⟨by omega,hnz k (by omega) (fun h=>by have:=hgz2 k h;omega)⟩
  ·refine ⟨hdb,hnz k hdb (fun h=>?_)⟩;obtain ⟨_,_,c,t',hc,ht⟩:=hgz2 k h;have e:=zc hc hGA.fb
   rcases ht with h1 | h1 | h1<;>(rw [h1] at e;exact absurd e (by decide))
  ·exact ⟨by omega,hnz k (by omega) (fun h=>by have:=hgz2 k h;omega)⟩
  ·cases h
 ·rcases h with h | h
  ·omega
  ·have:=h4lt k h;omega
theorem zNd (bw b1 b2:Nat) (st:RS) (q0:QS) (D:DW) (ask:Bool) (x i:Nat) (w:World) (hD:DInv bw w D) (hpx:D.px=some ⟨b1,0,none⟩) (hpf:D.pf=some ⟨b2,0,none⟩) (hPr:Pair st q0) (hP:ProgAt (bw + 1) w b1 (zK q0)) (hR:RefAt (bw + 1) w b2 (zW st)) (hpr:zw (zW st) D.proof=.inl (x,i)) :
  Calls Tryz.prog 34 #[.pointer (some ⟨bw,0,none⟩),.bool ask] w fun e w'=>StepD bw D 0 w e w':=by
 have hce:=zIC hPr.fq hPr.fo D.proof;rw [hpr] at hce;have hx:=zHi _ _ _ _ hpr;have HRQ:Hid (zA1 (zK q0) D.proof=.inl (x,i)):=zF (zOq hce hx);have HPR:=zF hpr;have hw:=hD.wat;rw [hpx,hpf] at hw;have hbw:bw < w.heap.size:=zB hw;have k1:w.cell? ⟨bw,1,none⟩=some (.pointer (some ⟨b1,0,none⟩)):=zE hw rfl;have k3:w.cell? ⟨bw,3,none⟩=some (S D.proof):=zE hw rfl;have HD:Hid (∀ w',Below w.heap.size w w'→StepD bw D 0 w (.returned (.bool true)) w'):=zF (fun w' h=>StepD.quiet (h.mono (Nat.le_of_lt hbw)) (hD.later h) rfl rfl (by omega) rfl rfl);clear hce hpr
 go_enter Tryz.func34,Tryz.ntmps34
 go_wp2_with fail
 go_region_with (go_at_call 18;refine (zHR (bw + 1) b1 (zK q0) D.proof _ (hP.later (Below.refl _ w).drew) hPr.qb).mono ?_;rintro e w1 ⟨hb1,hp⟩;rw [zA HRQ] at hp;have hp1:e=.returned (.tuple #[.pointer none,.int .i64 (x:Int),.int .i64 (i:Int)]):=hp;subst hp1;clear hp;have hB1:Below w.heap.size w w1:=(Below.refl _ w).drew.trans hb1)
 all_goals
  have hw1:=hw.later hB1;have j2:w1.cell? ⟨bw,2,none⟩=some (.pointer (some ⟨b2,0,none⟩)):=zE hw1 rfl;have j3:w1.cell? ⟨bw,3,none⟩=some (S D.proof):=zE hw1 rfl;have hbw1:=zB hw1;have hR1:=hR.later hB1;go_wp2_with fail
  go_region_with (go_at_call 57;refine (zB2 (bw + 1) b2 (zW st) D.proof _ (hR1.later (Below.refl _ w1).drew) hPr.fw).mono ?_;rintro e w2 ⟨hb2,hp⟩;rw [zA HPR] at hp;have hp2:e=.returned (.tuple #[.int .i64 0,.int .i64 (x:Int),.int .i64 (i:Int),.int .i64 0]):=hp;subst hp2;clear hp;have hB2:Below w.heap.size w w2:=hB1.trans (((Below.refl _ w1).drew.trans hb2).mono hB1.size))
  all_goals
   have hxb:((x:Int) != 0)=true:=(by rw [bne_iff_ne];omega);have hx1:((x:Int) != (x:Int))=false:=(by simp);have hi1:((i:Int) != (i:Int))=false:=(by simp);go_wp2_with fail;go_ret;exact zA HD w2 hB2
end Go.Proofs.YtgipjjhkhfihpaaGreatDoor
