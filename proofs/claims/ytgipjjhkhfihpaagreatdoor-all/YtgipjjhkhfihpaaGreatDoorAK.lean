import Derived.Test.YtgipjjhkhfihpaaGreatDoorAJ
import Derived.Test.YtgipjjhkhfihpaaGreatDoorAH
import Derived.Test.YtgipjjhkhfihpaaGreatDoorAC
import Derived.Test.YtgipjjhkhfihpaaGreatDoorAI
import Derived.Deep.QuietTactic
import Derived.BigQuiet
set_option maxRecDepth 100000
set_option maxHeartbeats 6400000
namespace Go.Proofs.YtgipjjhkhfihpaaGreatDoor
open Go.RowKit
def zHO:List TypeId:=[3,25,45]
theorem zFk {w:World} {base:Nat} {e:TypeId} {size:Nat} {v:Value} {n:Nat} {xs:List Value} (h:w.ownsRow base e size v n xs) {k:Nat} (hk:v.ownBlock=some k):∃ cur,w.heap[k]?=some (.cells cur e (0,0)):=by
 rcases h.2 with ⟨rfl,_⟩ | ⟨g,cap,cur,rfl,_,hh,_⟩
 ·simp [Value.ownBlock] at hk
 ·simp [Value.ownBlock] at hk;subst hk;exact ⟨cur,hh⟩
theorem zB7 {w:World} {k:Nat} {c1 c2:Array Value} {t1 t2:TypeId} {f1 f2:Nat × Nat} (h1:w.heap[k]?=some (.cells c1 t1 f1)) (h2:w.heap[k]?=some (.cells c2 t2 f2)):t1=t2:=by
 rw [h1] at h2;simp at h2;exact h2.2.1
theorem zJ3 {w w':World} {T:Nat→Prop} {hdrs:List Value} (h:LsAt w hdrs) (ho:Only T w w') (hT:∀ i (hi:i < hdrs.length) g cs,hdrs[i].ownBlock=some g→w.heap[g]?=some (.cells cs 3 (0,0))→¬ T g):LsAt w' hdrs:=by
 intro i hi;obtain ⟨g,n,h1,h2,h3⟩:=h i hi;refine ⟨g,n,h1,h2,?_⟩;rw [ho.block g (zB h3) (hT i hi g _ (by rw [h1];rfl) h3)];exact h3
theorem LsAt.only {w w':World} {T:Nat→Prop} {hdrs:List Value} (h:LsAt w hdrs) (ho:Only T w w') (hT:∀ k,k < w.heap.size→T k→zCW 0 w [3] k):LsAt w' hdrs:=by
 refine zJ3 h ho fun i hi g cs h1 h2 ht=>?_
 rcases hT g (zB h2) ht with h | ⟨c,t,fr,h4,h5⟩
 ·omega
 ·exact h5 (by rw [zB7 h4 h2];simp)
theorem LsAt.later {w w':World} {hdrs:List Value} (h:LsAt w hdrs) (hb:Below w.heap.size w w'):LsAt w' hdrs:=
 h.only (T:=fun _=>False) (Only.of_below hb) (fun _ _ h=>h.elim)
theorem zFM {w w':World} {T:Nat→Prop} {hdrs:List Value} (h:LssAt w hdrs) (ho:Only T w w') (hT:∀ i (hi:i < hdrs.length) g cs,hdrs[i].ownBlock=some g→w.heap[g]?=some (.cells cs 25 (0,0))→¬ T g) (hI:∀ k,k < w.heap.size→T k→zCW 0 w [3] k):LssAt w' hdrs:=by
 intro i hi
 rcases h i hi with h0 | ⟨h',n,cs,h1,h2,h3,h4⟩
 ·exact Or.inl h0
 ·refine Or.inr ⟨h',n,cs,h1,h2,?_,fun k hk=>?_⟩
  ·rw [ho.block h' (zB h3) (hT i hi h' _ (by rw [h1];rfl) h3)];exact h3
  ·obtain ⟨x,h5,h6⟩:=h4 k hk;exact ⟨x,h5,zEC h6 (Nat.zero_le _) ho (by simp) hI⟩
theorem LssAt.later {w w':World} {hdrs:List Value} (h:LssAt w hdrs) (hb:Below w.heap.size w w'):LssAt w' hdrs:=
 zFM h (T:=fun _=>False) (Only.of_below hb) (fun _ _ _ _ _ _ h=>h.elim) (fun _ _ h=>h.elim)
structure ListsAt (bw:Nat) (w:World) (v5 v6:Value) (h5s h6s:List Value):Prop where
 o5:w.ownsRow (bw + 1) 25 1 v5 h5s.length h5s
 o6:w.ownsRow (bw + 1) 45 1 v6 h6s.length h6s
 ls:LsAt w h5s
 lss:LssAt w h6s
 ap:∀ i (hi:i < h6s.length),apart v5 h6s[i]
theorem ListsAt.only {bw:Nat} {w w':World} {v5 v6:Value} {h5s h6s:List Value} {T:Nat→Prop} (h:ListsAt bw w v5 v6 h5s h6s) (ho:Only T w w') (hT:∀ k,k < w.heap.size→T k→zCW 0 w zHO k):ListsAt bw w' v5 v6 h5s h6s:=by
 have hw:∀ (b:Nat) (ts:List TypeId),(∀ t,t∈ts→t∈zHO)→∀ k,k < w.heap.size→T k→zCW b w ts k:=fun b ts hts k hk ht=>by
  rcases hT k hk ht with h | ⟨c,t,fr,h4,h5⟩
  ·omega
  ·exact Or.inr ⟨c,t,fr,h4,fun h=>h5 (hts t h)⟩
 have hin:∀ t,t∈[3]→t∈zHO:=(by decide);refine ⟨zCJ h.o5 ho (ts:=[25]) (by simp) (hw _ _ (by decide)),zCJ h.o6 ho (ts:=[45]) (by simp) (hw _ _ (by decide)),h.ls.only ho (hw _ _ hin),zFM h.lss ho ?_ (hw _ _ hin),h.ap⟩;intro i hi g cs h1 h2 ht
 rcases hw 0 [25] (by decide) g (zB h2) ht with h | ⟨c,t,fr,h4,h5⟩
 ·omega
 ·exact h5 (by rw [zB7 h4 h2];simp)
theorem ListsAt.later {bw:Nat} {w w':World} {v5 v6:Value} {h5s h6s:List Value} (h:ListsAt bw w v5 v6 h5s h6s) (hb:Below w.heap.size w w'):ListsAt bw w' v5 v6 h5s h6s:=
 h.only (T:=fun _=>False) (Only.of_below hb) (fun _ _ h=>h.elim)
structure Marking (bw h:Nat) (w0:World) (v5:Value) (text:List UInt8) (px pf:Option Addr) (proof:List UInt8) (c4 v6:Value) (hdrs:List Value) (cur:Array Value) (k:Nat) (v5x:Value) (h5x:List Value) (wx:World):Prop where
 at_:WAt wx bw text px pf proof c4 v5x v6
 only:Only (fun j=>j=bw∨v5.ownBlock=some j) w0 wx
 o5:wx.ownsRow (bw + 1) 25 1 v5x h5x.length h5x
 ls:LsAt wx h5x
 old:v5x.ownBlock=v5.ownBlock∨∃ j,v5x.ownBlock=some j∧w0.heap.size≤j
 noth:v5x.ownBlock≠some h
 row:wx.heap[h]?=some (.cells cur 25 (0,0))
 fresh:∀ j,k≤j→(hj:j < hdrs.length)→∃ g n cap cu,hdrs[j]=.slice (some ⟨g,0,none⟩) n cap∧w0.heap.size≤g∧wx.heap[g]?=some (.cells cu 3 (0,0))∧cu.size=cap∧n≤cap∧cap≤maxLen
 sep:∀ i (hi:i < h5x.length) j,k≤j→(hj:j < hdrs.length)→apart h5x[i] hdrs[j]
theorem Marking.start {bw h base:Nat} {w0 wx:World} {v5 v6:Value} {h5s h6s:List Value} {text:List UInt8} {px pf:Option Addr} {proof:List UInt8} {c4:Value} {hdrs:List Value} {cur:Array Value} {bs:List (List Nat)} (hw:WAt w0 bw text px pf proof c4 v5 v6) (hL:ListsAt bw w0 v5 v6 h5s h6s) (hb:Below w0.heap.size w0 wx)
  (hbase:w0.heap.size=base) (hh:base≤h) (hrow:wx.heap[h]?=some (.cells cur 25 (0,0))) (hR:RowsAt base wx bs hdrs):Marking bw h w0 v5 text px pf proof c4 v6 hdrs cur 0 v5 h5s wx:=by
 subst hbase;have h5lt:=hL.o5.lt;refine ⟨hw.later hb,Only.of_below hb,zO hL.o5 hb,hL.ls.later hb,Or.inl rfl,fun e=>?_,hrow,fun j _ hj=>?_,fun i hi j _ hj k h1 h2=>?_⟩
 ·have:=(h5lt h e).2;omega
 ·have hl:=hR.len;obtain ⟨hr,hne⟩:=hR.row j (by omega)
  rcases hr.2 with ⟨_,h0⟩ | ⟨g,cap,cu,h1,h2,h3,h4,h5,h6,_⟩
  ·exact absurd (List.length_eq_zero_iff.1 h0) hne
  ·exact ⟨g,_,cap,cu,h1,h2,h3,by simpa using h6,h4,h5⟩
 ·obtain ⟨g,n,e1,_,e2⟩:=hL.ls i hi;have hl:=hR.len
  have:=((hR.row j (by omega)).1.lt k h2).1
  rw [e1] at h1;simp [Value.ownBlock] at h1;subst h1
  have:=zB e2
  omega
theorem Marking.mine {bw h g n cap k:Nat} {w0 wx w':World} {v5 v6 v5x:Value} {h5x:List Value} {text:List UInt8} {px pf:Option Addr} {proof:List UInt8} {c4:Value} {hdrs:List Value} {cur:Array Value} {e:Ending} (hM:Marking bw h w0 v5 text px pf proof c4 v6 hdrs cur k v5x h5x wx)
  (_hhw:w0.heap.size≤h) (hk:k < hdrs.length) (hkg:hdrs[k]=.slice (some ⟨g,0,none⟩) n cap) (hg0:w0.heap.size≤g) (hgt:∃ cu,wx.heap[g]?=some (.cells cu 3 (0,0))) (hcm:cap≤maxLen) (hapart:∀ i j (hi:i < hdrs.length) (hj:j < hdrs.length),i≠j→apart hdrs[i] hdrs[j])
  (hP:zIL bw g cap h5x.length h5x v5x text px pf proof c4 v6 wx e w'):∃ v5',Marking bw h w0 v5 text px pf proof c4 v6 hdrs cur (k + 1) v5' (h5x ++ [.slice (some ⟨g,0,none⟩) cap cap]) w':=by
 obtain ⟨v5',hw',ho',hat⟩:=hP.at_;obtain ⟨cug,hcug⟩:=hgt;have hwt:=hM.at_;unfold WAt at hwt;have hv5t:∀ j,v5x.ownBlock=some j→∃ cur,wx.heap[j]?=some (.cells cur 25 (0,0)):=fun j hj=>zFk hM.o5 hj
 have hgown:(Value.slice (some ⟨g,0,none⟩) cap cap).ownBlock=some g:=rfl;have hgown':hdrs[k].ownBlock=some g:=(by rw [hkg];rfl);have hnT:∀ x cs,wx.heap[x]?=some (.cells cs 3 (0,0))→x≠g→¬ (x=bw∨x=g∨v5x.ownBlock=some x):=by
  intro x cs hx hne ht
  rcases ht with rfl | h | h
  ·exact absurd (zB7 hwt hx) (by decide)
  ·exact hne h
  ·obtain ⟨c,hc⟩:=hv5t x h;exact absurd (zB7 hc hx) (by decide)
 have hls:LsAt w' h5x:=zJ3 hM.ls hP.only fun i hi x cs h1 h2=>hnT x cs h2 (fun e=>hM.sep i hi k (Nat.le_refl _) hk x h1 (by rw [hgown',e]))
 refine ⟨v5',hw',?_,by simpa using ho',?_,?_,?_,?_,?_,?_⟩
 ·have h1:Only (fun j=>j=bw∨v5.ownBlock=some j) wx w'→Only (fun j=>j=bw∨v5.ownBlock=some j) w0 w':=fun h=>hM.only.trans h
  refine ⟨hP.only.os.trans hM.only.os,hP.only.tape.trans hM.only.tape,hP.only.output.trans hM.only.output,Nat.le_trans hM.only.size hP.only.size,fun j hj ht=>?_⟩;rw [hP.only.block j (Nat.lt_of_lt_of_le hj hM.only.size) (fun h=>?_),hM.only.block j hj ht]
  rcases h with h | h | h
  ·exact ht (Or.inl h)
  ·omega
  ·rcases hM.old with h2 | ⟨x,h2,h3⟩
   ·exact ht (Or.inr (by rw [← h2];exact h))
   ·rw [h2] at h;simp at h;omega
 ·intro i hi
  by_cases hil:i < h5x.length
  ·obtain ⟨g',n',h1,h2,h3⟩:=hls i hil;exact ⟨g',n',by rw [List.getElem_append_left hil];exact h1,h2,h3⟩
  ·have hie:i=h5x.length:=(by simp at hi;omega);subst hie;exact ⟨g,cap,by simp,hcm,hP.row⟩
 ·rcases hat with h1 | ⟨x,h1,h2⟩
  ·rw [h1];exact hM.old
  ·exact Or.inr ⟨x,h1,Nat.le_trans hM.only.size h2⟩
 ·rcases hat with h1 | ⟨x,h1,h2⟩
  ·rw [h1];exact hM.noth
  ·rw [h1];intro e;simp at e
   have:=zB hM.row
   omega
 ·rw [hP.only.block h (zB hM.row) (fun ht=>?_)]
  ·exact hM.row
  ·rcases ht with rfl | rfl | ht
   ·exact absurd (zB7 hwt hM.row) (by decide)
   ·exact absurd (zB7 hcug hM.row) (by decide)
   ·exact hM.noth ht
 ·intro j hkj hj;obtain ⟨g2,n2,cap2,cu2,h1,h2,h3,h4⟩:=hM.fresh j (by omega) hj;refine ⟨g2,n2,cap2,cu2,h1,h2,?_,h4⟩;have hne:g2≠g:=fun e=>hapart k j hk hj (by omega) g hgown' (by rw [h1,← e];rfl)
  rw [hP.only.block g2 (zB h3) (hnT g2 cu2 h3 hne)];exact h3
 ·intro i hi j hkj hj
  by_cases hil:i < h5x.length
  ·rw [List.getElem_append_left hil];exact hM.sep i hil j (by omega) hj
  ·have hie:i=h5x.length:=(by simp at hi;omega);subst hie;intro x hx;have hx':x=g:=(by simp [Value.ownBlock] at hx;exact hx.symm);subst hx';exact hapart k j hk hj (by omega) x hgown'
structure Heading (bw h cap n6:Nat) (w0:World) (v5:Value) (text:List UInt8) (px pf:Option Addr) (proof:List UInt8) (c4 v6:Value) (i:Nat) (v5x:Value) (h5x:List Value) (wx:World):Prop where
 at_:WAt wx bw text px pf proof c4 v5x v6
 only:Only (fun j=>j=bw∨v5.ownBlock=some j) w0 wx
 o5:wx.ownsRow (bw + 1) 25 1 v5x h5x.length h5x
 ls:LsAt wx h5x
 old:v5x.ownBlock=v5.ownBlock∨∃ j,v5x.ownBlock=some j∧w0.heap.size≤j
 noth:v5x.ownBlock≠some h
 row:∃ cs,wx.heap[h]?=some (.cells cs 25 (0,0))∧cs.size=cap∧∀ j,j < i→∃ x,cs[j]?=some (.slice (some ⟨x,0,none⟩) 2 2)∧wx.heap[x]?=some (.cells #[.int .i64 (n6:Int),.int .i64 (j:Int)] 3 (0,0))∧w0.heap.size≤x
theorem Heading.start {bw h cap n6 k:Nat} {w0 wx:World} {v5 v6 v5x:Value} {h5x:List Value} {text:List UInt8} {px pf:Option Addr} {proof:List UInt8} {c4:Value} {hdrs:List Value} {cur:Array Value} (hM:Marking bw h w0 v5 text px pf proof c4 v6 hdrs cur k v5x h5x wx) (hc:cur.size=cap):Heading bw h cap n6 w0 v5 text px pf proof c4 v6 0 v5x h5x wx:=
 ⟨hM.at_,hM.only,hM.o5,hM.ls,hM.old,hM.noth,cur,hM.row,hc,fun j hj=>by omega⟩
theorem Heading.later {bw h cap n6 i:Nat} {w0 wx w':World} {v5 v6 v5x:Value} {h5x:List Value} {text:List UInt8} {px pf:Option Addr} {proof:List UInt8} {c4:Value} (hM:Heading bw h cap n6 w0 v5 text px pf proof c4 v6 i v5x h5x wx) (hb:Below wx.heap.size wx w'):Heading bw h cap n6 w0 v5 text px pf proof c4 v6 i v5x h5x w':=by
 obtain ⟨cs,h1,h2,h3⟩:=hM.row;refine ⟨hM.at_.later hb,hM.only.trans (Only.of_below hb),zO hM.o5 hb,hM.ls.later hb,hM.old,hM.noth,cs,(hb.block h (zB h1)).trans h1,h2,fun j hj=>?_⟩;obtain ⟨x,h4,h5,h6⟩:=h3 j hj;exact ⟨x,h4,(hb.block x (zB h5)).trans h5,h6⟩
theorem Heading.set {bw h cap n6 i x:Nat} {w0 wx:World} {v5 v6 v5x:Value} {h5x:List Value} {text:List UInt8} {px pf:Option Addr} {proof:List UInt8} {c4:Value} (hM:Heading bw h cap n6 w0 v5 text px pf proof c4 v6 i v5x h5x wx) (hhw:w0.heap.size≤h) (hi:i < cap)
  (hx:wx.heap[x]?=some (.cells #[.int .i64 (n6:Int),.int .i64 (i:Int)] 3 (0,0))) (hx0:w0.heap.size≤x):Heading bw h cap n6 w0 v5 text px pf proof c4 v6 (i + 1) v5x h5x (wx.setCell ⟨h,i,none⟩ (.slice (some ⟨x,0,none⟩) 2 2)):=by
 obtain ⟨cs,h1,h2,h3⟩:=hM.row;have hwt:=hM.at_;unfold WAt at hwt;have ho:Only (·=h) wx (wx.setCell ⟨h,i,none⟩ (.slice (some ⟨x,0,none⟩) 2 2)):=(Only.refl _ _).setAt _ _;have hint:∀ (y:Nat) (c:Array Value),wx.heap[y]?=some (.cells c 3 (0,0))→(wx.setCell ⟨h,i,none⟩ (.slice (some ⟨x,0,none⟩) 2 2)).heap[y]?=some (.cells c 3 (0,0)):=fun y c hy=>by
  rw [ho.block y (zB hy) (fun e=>by subst e;exact absurd (zB7 hy h1) (by decide))];exact hy
 refine ⟨(ho.block bw (zB hwt) (fun e=>by subst e;exact absurd (zB7 hwt h1) (by decide))).trans hwt,hM.only.setCell (p:=⟨h,i,none⟩) (Or.inr hhw) _,?_,?_,hM.old,hM.noth,_,zI h1 i _,by simpa using h2,?_⟩
 ·exact hM.o5.kept (row:=some h) ⟨ho.os,ho.tape,ho.output,ho.size,fun j hj hne=>ho.block j hj (fun e=>hne (by rw [e]))⟩ (Or.inr hM.noth)
 ·refine zJ3 hM.ls ho fun j hj g c hg hc e=>?_
  subst e;exact absurd (zB7 hc h1) (by decide)
 ·intro j hj
  by_cases hji:j=i
  ·subst hji;exact ⟨x,by simp [h2,hi],hint _ _ hx,hx0⟩
  ·obtain ⟨y,h4,h5,h6⟩:=h3 j (by omega);exact ⟨y,by rw [Array.getElem?_setIfInBounds_ne (by omega)];exact h4,hint _ _ h5,h6⟩
def zQ4 (n:Nat) (w:World) (x:Value):Prop:=x=.slice none 0 0∨∃ h cap cs,x=.slice (some ⟨h,0,none⟩) cap cap∧n≤h∧w.heap[h]?=some (.cells cs 25 (0,0))∧∀ k,k < cap→∃ y,cs[k]?=some (.slice (some ⟨y,0,none⟩) 2 2)∧n≤y∧∃ c,w.heap[y]?=some (.cells c 3 (0,0))
theorem Heading.done {bw h cap:Nat} {w0 wx w4:World} {v5 v6 v5x v6':Value} {h5s h6s h5x:List Value} {text:List UInt8} {px pf:Option Addr} {proof:List UInt8} {c4:Value} (hL:ListsAt bw w0 v5 v6 h5s h6s) (hw0:WAt w0 bw text px pf proof c4 v5 v6) (hcm:cap≤maxLen) (hM:Heading bw h cap h6s.length w0 v5 text px pf proof c4 v6 cap v5x h5x wx)
  (hg:wx.grownBy w4 v6.ownBlock) (ho6:w4.ownsRow (bw + 1) 45 1 v6' (h6s.length + 1) (h6s ++ [.slice (some ⟨h,0,none⟩) cap cap])) (hhw:w0.heap.size≤h) :
  WAt (w4.setCell ⟨bw,6,none⟩ v6') bw text px pf proof c4 v5x v6'∧ListsAt bw (w4.setCell ⟨bw,6,none⟩ v6') v5x v6' h5x (h6s ++ [.slice (some ⟨h,0,none⟩) cap cap])∧Only (fun j=>j=bw∨v5.ownBlock=some j∨v6.ownBlock=some j) w0 (w4.setCell ⟨bw,6,none⟩ v6')∧zQ4 w0.heap.size (w4.setCell ⟨bw,6,none⟩ v6') (.slice (some ⟨h,0,none⟩) cap cap):=by
 have hwt:=hM.at_;have hwt':=hwt;unfold WAt at hwt';have hw0':=hw0;unfold WAt at hw0';have hT:∀ k,k < w0.heap.size→(k=bw∨v5.ownBlock=some k)→zCW 0 w0 [3] k:=fun k _ ht=>by
  rcases ht with rfl | ht
  ·exact Or.inr ⟨_,_,_,hw0',by decide⟩
  ·obtain ⟨c,hc⟩:=zFk hL.o5 ht;exact Or.inr ⟨_,_,_,hc,by decide⟩
 have ho6x:wx.ownsRow (bw + 1) 45 1 v6 h6s.length h6s:=zCJ (ts:=[45]) hL.o6 hM.only (by simp) (fun k _ ht=>by
  rcases ht with rfl | ht
  ·exact Or.inr ⟨_,_,_,hw0',by decide⟩
  ·obtain ⟨c,hc⟩:=zFk hL.o5 ht;exact Or.inr ⟨_,_,_,hc,by decide⟩)
 have hlssx:LssAt wx h6s:=zFM hL.lss hM.only (fun i hi g cs h1 h2 ht=>by
  rcases ht with rfl | ht
  ·exact absurd (zB7 hw0' h2) (by decide)
  ·exact hL.ap i hi g ht h1) hT
 have hapx:∀ i (hi:i < h6s.length),apart v5x h6s[i]:=fun i hi x h1 h2=>by
  rcases hM.old with h3 | ⟨j,h3,h4⟩
  ·exact hL.ap i hi x (by rw [← h3];exact h1) h2
  ·rw [h3] at h1;simp at h1;subst h1
   rcases hL.lss i hi with h5 | ⟨h',n,cs,h5,_,h6,_⟩
   ·rw [h5] at h2;simp [Value.ownBlock] at h2
   ·rw [h5] at h2;simp [Value.ownBlock] at h2;subst h2
    have:=zB h6
    omega
 have ho4:Only (fun j=>v6.ownBlock=some j) wx w4:=⟨hg.os,hg.tape,hg.output,hg.size,fun k hk ht=>hg.block k hk (fun e=>ht e.symm)⟩;have hbw6:v6.ownBlock≠some bw:=fun e=>by have:=(hL.o6.lt _ e).1;omega
 have hw4:WAt w4 bw text px pf proof c4 v5x v6:=(ho4.block bw (zB hwt') hbw6).trans hwt';have hoS:Only (fun j=>j=bw∨v6.ownBlock=some j) wx (w4.setCell ⟨bw,6,none⟩ v6'):=(ho4.mono (T':=fun j=>j=bw∨v6.ownBlock=some j) (fun k _ h=>Or.inr h)).setCell (p:=⟨bw,6,none⟩) (Or.inl (Or.inl rfl)) _;have hTS:∀ ts:List TypeId,48∉ts→45∉ts→∀ b k,k < wx.heap.size→(k=bw∨v6.ownBlock=some k)→zCW b wx ts k:=fun ts h1 h2 b k _ ht=>by
  rcases ht with rfl | ht
  ·exact Or.inr ⟨_,_,_,hwt',h1⟩
  ·obtain ⟨c,hc⟩:=zFk ho6x ht;exact Or.inr ⟨_,_,_,hc,h2⟩
 obtain ⟨cs,hr1,hr2,hr3⟩:=hM.row;refine ⟨zI hw4 6 _,⟨zCJ (ts:=[25]) hM.o5 hoS (by simp) (hTS _ (by decide) (by decide) _),by simpa using ownsRow_setCell_below ho6 (a:=⟨bw,6,none⟩) (Nat.lt_succ_self bw) _,hM.ls.only hoS (hTS _ (by decide) (by decide) _),?_,?_⟩,?_,?_⟩
 ·have hold:LssAt (w4.setCell ⟨bw,6,none⟩ v6') h6s:=zFM hlssx hoS (fun i hi g c h1 h2 ht=>by
   rcases hTS [25] (by decide) (by decide) 0 g (zB h2) ht with h | ⟨c',t,fr,h4,h5⟩
   ·omega
   ·exact h5 (by rw [zB7 h4 h2];simp)) (hTS _ (by decide) (by decide) _)
  intro i hi
  by_cases hil:i < h6s.length
  ·rw [List.getElem_append_left hil];exact hold i hil
  ·have hie:i=h6s.length:=(by simp at hi;omega);subst hie;rw [List.getElem_concat_length rfl];refine Or.inr ⟨h,cap,cs,rfl,hcm,zEC (ts:=[25]) hr1 (Nat.zero_le _) hoS (by simp) (hTS _ (by decide) (by decide) _),fun k hk=>?_⟩;obtain ⟨x,h4,h5,_⟩:=hr3 k hk;exact ⟨x,h4,zEC (ts:=[3]) h5 (Nat.zero_le _) hoS (by simp) (hTS _ (by decide) (by decide) _)⟩
 ·intro i hi
  by_cases hil:i < h6s.length
  ·rw [List.getElem_append_left hil];exact hapx i hil
  ·have hie:i=h6s.length:=(by simp at hi;omega);subst hie;rw [List.getElem_concat_length rfl];intro x h1 h2;simp [Value.ownBlock] at h2;subst h2;exact hM.noth h1
 ·refine (hM.only.mono (T':=fun j=>j=bw∨v5.ownBlock=some j∨v6.ownBlock=some j) (fun k _ h=>h.elim Or.inl (fun h=>Or.inr (Or.inl h)))).trans (hoS.mono (fun k _ h=>h.elim Or.inl (fun h=>Or.inr (Or.inr h))))
 ·refine Or.inr ⟨h,cap,cs,rfl,hhw,zEC (ts:=[25]) hr1 (Nat.zero_le _) hoS (by simp) (hTS _ (by decide) (by decide) _),fun k hk=>?_⟩;obtain ⟨x,h4,h5,h6⟩:=hr3 k hk;exact ⟨x,h4,h6,_,zEC (ts:=[3]) h5 (Nat.zero_le _) hoS (by simp) (hTS _ (by decide) (by decide) _)⟩
def FTxt (lo:Nat) (w:World) (text:List UInt8) (px pf:Option Addr):Prop:=
 (px=none∧pf=none)∨∃ b b' st q0,px=some ⟨b,0,none⟩∧pf=some ⟨b',0,none⟩∧ProgAt lo w b (zK q0)∧RefAt lo w b' (zW st)∧zEA st q0∧(q0.cl.length≤24∧zCf q0)∧zAb text=.inr (zK q0)
theorem FTxt.set {lo bw o:Nat} {w:World} {text:List UInt8} {px pf:Option Addr} {u:Value} (h:FTxt lo w text px pf) (hlt:bw < lo):FTxt lo (w.setCell ⟨bw,o,none⟩ u) text px pf:=by
 rcases h with h | ⟨b,b',st,q0,h1,h2,h3,h4,h5,h6,h7⟩
 ·exact Or.inl h
 ·exact Or.inr ⟨b,b',st,q0,h1,h2,h3.set hlt,h4.set hlt,h5,h6,h7⟩
theorem FTxt.only {lo:Nat} {w w':World} {text:List UInt8} {px pf:Option Addr} {T:Nat→Prop} (h:FTxt lo w text px pf) (ho:Only T w w') (hT:∀ k,k < w.heap.size→T k→zCW lo w zFe k):FTxt lo w' text px pf:=by
 rcases h with h | ⟨b,b',st,q0,h1,h2,h3,h4,h5,h6,h7⟩
 ·exact Or.inl h
 ·exact Or.inr ⟨b,b',st,q0,h1,h2,h3.only ho hT,h4.only ho hT,h5,h6,h7⟩
theorem FTxt.lo {lo lo':Nat} {w:World} {text:List UInt8} {px pf:Option Addr} (h:FTxt lo w text px pf) (hl:lo'≤lo):FTxt lo' w text px pf:=by
 rcases h with h | ⟨b,b',st,q0,h1,h2,h3,h4,h5,h6,h7⟩
 ·exact Or.inl h
 ·exact Or.inr ⟨b,b',st,q0,h1,h2,h3.lo hl,h4.lo hl,h5,h6,h7⟩
def zNA (bw:Nat) (text proof:List UInt8) (c4 c5 c6:Value) (w:World) (e:Ending) (w':World):Prop:=
 e=.returned (.bool true)∧Only (·=bw) w w'∧∃ px pf,WAt w' bw text px pf proof c4 c5 c6∧FTxt w.heap.size w' text px pf
theorem zJd (bw:Nat) (text:List UInt8) (px pf:Option Addr) (proof:List UInt8) (c4 c5 c6:Value) (w:World) (hw:WAt w bw text px pf proof c4 c5 c6) :
  Calls Tryz.prog 27 #[.pointer (some ⟨bw,0,none⟩)] w fun e w'=>zNA bw text proof c4 c5 c6 w e w':=by
 have hbw:bw < w.heap.size:=zB hw;have h0:w.cell? ⟨bw,0,none⟩=some (S text):=zE hw rfl
 go_enter Tryz.func27,Tryz.ntmps27
 go_wp2_with fail;refine (zIe text w).mono ?_;rintro e w1 ⟨hb1,hp1⟩;have hw1:=hw.later hb1;have h1:w1.cell? ⟨bw,0,none⟩=some (S text):=zE hw1 rfl;have hse:=zSZ text
 cases hq:zAb text with
 | inl a=>
  obtain ⟨x,i⟩:=a;rw [hq] at hp1 hse;have hp1':e=.returned (.tuple #[.pointer none,.int .i64 (x:Int),.int .i64 (i:Int)]):=hp1;subst hp1';have HSE:Hid (zCU text=.inl (x,i)):=zF hse;clear hse hq hp1;go_wp2_with fail;refine (zLU text w1).mono ?_;rintro e w2 ⟨hb2,hp2⟩;rw [zA HSE] at hp2;have hp2':e=.returned (.tuple #[.pointer none,.int .i64 (x:Int),.int .i64 (i:Int)]):=hp2;subst hp2';clear hp2;have hw2:=hw1.later hb2;have k1:w2.cell? ⟨bw,1,none⟩=some (.pointer px):=zE hw2 rfl;have k2:w2.cell? ⟨bw,2,none⟩=some (.pointer pf):=zE hw2 rfl;have z1:=zD hw2 1;have z2:=zD hw2 2;have hx:((x:Int) != (x:Int))=false:=(by simp);have hi:((i:Int) != (i:Int))=false:=(by simp);go_wp2_with fail;go_ret;refine ⟨rfl,(((Only.of_below (zBw hb1 hb2)).setAt _ _).setAt _ _),none,none,?_,Or.inl ⟨rfl,rfl⟩⟩;exact zI (zI hw2 1 _) 2 _
 | inr q=>
  rw [hq] at hp1 hse;obtain ⟨b,rfl,hP⟩:=hp1;obtain ⟨st,q0,hse,hsame,rfl,h24⟩:=hse;have HSE:=zF hse;have HLN:=zF hq;clear hse hq;go_wp2_with fail;refine (zLU text w1).mono ?_;rintro e w2 ⟨hb2,hp2⟩;rw [zA HSE] at hp2;obtain ⟨b',rfl,hR⟩:=hp2;have hw2:=hw1.later hb2;have hP2:=hP.later hb2;have hR2:=hR.lo (lo':=w.heap.size) hb1.size;have hFP:FTxt w.heap.size w2 text (some ⟨b,0,none⟩) (some ⟨b',0,none⟩):=Or.inr ⟨b,b',st,q0,rfl,rfl,hP2,hR2,hsame,h24,zA HLN⟩;have k1:w2.cell? ⟨bw,1,none⟩=some (.pointer px):=zE hw2 rfl;have k2:w2.cell? ⟨bw,2,none⟩=some (.pointer pf):=zE hw2 rfl;have z1:=zD hw2 1;have z2:=zD hw2 2;go_wp2_with fail;go_ret;refine ⟨rfl,(((((Only.of_below (zBw hb1 hb2)).setAt _ _).setAt _ _).setAt _ _).setAt _ _),some ⟨b,0,none⟩,some ⟨b',0,none⟩,?_,(((hFP.set hbw).set hbw).set hbw).set hbw⟩;exact zI (zI (zI (zI hw2 1 _) 2 _) 1 _) 2 _
def zEW (bw:Nat) (text proof:List UInt8) (px pf:Option Addr) (o:OpV) (c4 c5 c6:Value) (w:World) (e:Ending) (w':World):Prop:=
 e=.returned (.bool true)∧Only (·=bw) w w'∧∃ text' px' pf' proof',WAt w' bw text' px' pf' proof' c4 c5 c6∧text'.length≤text.length + o.s.length + 1∧proof'.length≤proof.length + o.s.length + 1∧((text'=text∧px'=px∧pf'=pf)∨FTxt w.heap.size w' text' px' pf')
theorem zNk (bw:Nat) (text:List UInt8) (px pf:Option Addr) (proof:List UInt8) (o:OpV) (c4 c5 c6:Value) (w:World) (hw:WAt w bw text px pf proof c4 c5 c6) (hk:o.kind=1) :
  Calls Tryz.prog 19 #[.pointer (some ⟨bw,0,none⟩),.agg #[.int .i64 o.kind,.int .i64 o.a,.int .i64 o.b,.int .i64 o.c,S o.s,S o.t]] w fun e w'=>zEW bw text proof px pf o c4 c5 c6 w e w':=by
 obtain ⟨kind,a,b,c,s,t⟩:=o;dsimp only at hk ⊢;subst hk;have hbw:bw < w.heap.size:=zB hw;have h0:w.cell? ⟨bw,0,none⟩=some (S text):=zE hw rfl;have z0:=zD hw 0
 go_enter Tryz.func19,Tryz.ntmps19
 go_wp2_with fail;have hw1:WAt (w.setCell ⟨bw,0,none⟩ (S s)) bw s px pf proof c4 c5 c6:=zI hw 0 _;refine (zJd bw s px pf proof c4 c5 c6 _ (hw1.later ((Below.refl _ _).alloc (Nat.le_refl _) _))).mono ?_;rintro e w2 ⟨rfl,ho,px',pf',hw2,hF2⟩;go_wp2_with fail;go_ret;refine ⟨rfl,?_,s,px',pf',proof,hw2,by simp;omega,by simp;omega,Or.inr (hF2.lo (by simp))⟩;exact (((Only.refl _ w).setAt 0 (S s)).alloc _).trans (ho.mono (fun k _ h=>h))
theorem zNJ (bw:Nat) (text:List UInt8) (px pf:Option Addr) (proof:List UInt8) (o:OpV) (c4 c5 c6:Value) (w:World) (hw:WAt w bw text px pf proof c4 c5 c6) (hk:o.kind=2) (htl:text.length≤1048576) (hsl:o.s.length≤1048576) :
  Calls Tryz.prog 19 #[.pointer (some ⟨bw,0,none⟩),.agg #[.int .i64 o.kind,.int .i64 o.a,.int .i64 o.b,.int .i64 o.c,S o.s,S o.t]] w fun e w'=>zEW bw text proof px pf o c4 c5 c6 w e w':=by
 obtain ⟨kind,a,b,c,s,t⟩:=o;dsimp only at hk hsl ⊢;subst hk;have hbw:bw < w.heap.size:=zB hw;have h0:w.cell? ⟨bw,0,none⟩=some (S text):=zE hw rfl;have z0:=zD hw 0;have HE:Hid (ByteArray.mk text.toArray ++ ByteArray.mk s.toArray ++ ⟨#[10]⟩=⟨(text ++ s ++ [10]).toArray⟩):=zF (by
  rw [zBV text s];exact zBV (text ++ s) [10])
 go_enter Tryz.func19,Tryz.ntmps19
 go_wp2_with fail
 go_region
 all_goals go_wp2_with fail
 have hw1:WAt (w.setCell ⟨bw,0,none⟩ (S (text ++ s ++ [10]))) bw (text ++ s ++ [10]) px pf proof c4 c5 c6:=zI hw 0 _
 all_goals
  rw [zA HE];refine (zJd bw (text ++ s ++ [10]) px pf proof c4 c5 c6 _ (hw1.later (((Below.refl _ _).alloc (Nat.le_refl _) _).drew))).mono ?_;rintro e w2 ⟨rfl,ho,px',pf',hw2,hF2⟩;go_wp2_with fail;go_ret;refine ⟨rfl,?_,_,px',pf',proof,hw2,by simp;omega,by simp;omega,Or.inr (hF2.lo (by simp))⟩;exact ((((Only.refl _ w).setAt 0 (S (text ++ s ++ [10]))).alloc _).drew).trans (ho.mono (fun k _ h=>h))
theorem zMD (bw:Nat) (text:List UInt8) (px pf:Option Addr) (proof:List UInt8) (o:OpV) (c4 c5 c6:Value) (w:World) (hw:WAt w bw text px pf proof c4 c5 c6) (hk:o.kind=4) :
  Calls Tryz.prog 19 #[.pointer (some ⟨bw,0,none⟩),.agg #[.int .i64 o.kind,.int .i64 o.a,.int .i64 o.b,.int .i64 o.c,S o.s,S o.t]] w fun e w'=>zEW bw text proof px pf o c4 c5 c6 w e w':=by
 obtain ⟨kind,a,b,c,s,t⟩:=o;dsimp only at hk ⊢;subst hk;have hbw:bw < w.heap.size:=zB hw;have h3:w.cell? ⟨bw,3,none⟩=some (S proof):=zE hw rfl;have z3:=zD hw 3
 go_enter Tryz.func19,Tryz.ntmps19
 go_wp2_with fail;go_ret;have ho:=((Only.refl (·=bw) w).setAt 3 (S s)).alloc (.cells #[.int .i64 4,.int .i64 a,.int .i64 b,.int .i64 c,S s,S t] 29);refine ⟨rfl,ho,text,px,pf,s,(hw.setProof s).later ((Below.refl _ _).alloc (Nat.le_refl _) _),by simp;omega,by simp;omega,Or.inl ⟨rfl,rfl,rfl⟩⟩
theorem zMo (bw:Nat) (text:List UInt8) (px pf:Option Addr) (proof:List UInt8) (o:OpV) (c4 c5 c6:Value) (w:World) (hw:WAt w bw text px pf proof c4 c5 c6) (hk:o.kind=5) (hok:o.Ok) (hpl:proof.length≤1048576) :
  Calls Tryz.prog 19 #[.pointer (some ⟨bw,0,none⟩),.agg #[.int .i64 o.kind,.int .i64 o.a,.int .i64 o.b,.int .i64 o.c,S o.s,S o.t]] w fun e w'=>zEW bw text proof px pf o c4 c5 c6 w e w':=by
 obtain ⟨kind,a,b,c,s,t⟩:=o;obtain ⟨_,⟨ha1,ha2⟩,_,⟨hc1,hc2⟩⟩:=hok;dsimp only at hk ha1 ha2 hc1 hc2 ⊢;subst hk;have hbw:bw < w.heap.size:=zB hw
 go_enter Tryz.func19,Tryz.ntmps19
 go_wp2_with fail;refine (zQ9 bw text px pf proof c4 c5 c6 a c _ (hw.later ((Below.refl _ _).alloc (Nat.le_refl _) _)) hpl ha1 ha2 hc1 hc2).mono ?_;rintro e w2 ⟨rfl,ho,proof',hpl',hw2⟩;go_wp2_with fail;go_ret;have ho3:=((Only.refl (·=bw) w).alloc (.cells #[.int .i64 5,.int .i64 a,.int .i64 b,.int .i64 c,S s,S t] 29)).trans ho;exact ⟨rfl,ho3,text,px,pf,proof',hw2,by simp;omega,by simp;omega,Or.inl ⟨rfl,rfl,rfl⟩⟩
theorem zLW (bw:Nat) (text:List UInt8) (px pf:Option Addr) (proof:List UInt8) (o:OpV) (c4 c5 c6:Value) (w:World) (hw:WAt w bw text px pf proof c4 c5 c6) (hk:zGj o.kind=true)
  (hok:o.Ok) (hpl:proof.length≤1048576) (htl:text.length≤1048576) (hsl:o.s.length≤1048576) :
  Calls Tryz.prog 19 #[.pointer (some ⟨bw,0,none⟩),.agg #[.int .i64 o.kind,.int .i64 o.a,.int .i64 o.b,.int .i64 o.c,S o.s,S o.t]] w fun e w'=>zEW bw text proof px pf o c4 c5 c6 w e w':=by
 unfold zGj at hk;simp only [Bool.or_eq_true,beq_iff_eq] at hk
 rcases hk with ((hk | hk) | hk) | hk
 ·exact zNk bw text px pf proof o c4 c5 c6 w hw hk
 ·exact zNJ bw text px pf proof o c4 c5 c6 w hw hk htl hsl
 ·exact zMD bw text px pf proof o c4 c5 c6 w hw hk
 ·exact zMo bw text px pf proof o c4 c5 c6 w hw hk hok hpl
def Firm (Z:Nat→Prop) (A:World→Prop) (w:World):Prop:=∀ (T:Nat→Prop) (w':World),Only T w w'→(∀ k,Z k→¬ T k)→A w'
theorem Firm.now {Z:Nat→Prop} {A:World→Prop} {w:World} (h:Firm Z A w):A w:=h (fun _=>False) w (Only.refl _ _) (fun _ _ h=>h)
theorem Only.join {T T':Nat→Prop} {a b c:World} (h:Only T a b) (k:Only T' b c):Only (fun i=>T i∨T' i) a c:=
 ⟨k.os.trans h.os,k.tape.trans h.tape,k.output.trans h.output,Nat.le_trans h.size k.size,fun i hi ht=>(k.block i (Nat.lt_of_lt_of_le hi h.size) (fun e=>ht (Or.inr e))).trans (h.block i hi (fun e=>ht (Or.inl e)))⟩
theorem Firm.step {Z T:Nat→Prop} {A:World→Prop} {w w':World} (h:Firm Z A w) (ho:Only T w w') (hT:∀ k,Z k→¬ T k):Firm Z A w':=
 fun _ w2 ho2 hT2=>h _ w2 (ho.join ho2) (fun k hk e=>e.elim (hT k hk) (hT2 k hk))
theorem Firm.grow {Z Z':Nat→Prop} {A:World→Prop} {w:World} (h:Firm Z A w) (hz:∀ k,Z k→Z' k):Firm Z' A w:=
 fun T w' ho hT=>h T w' ho (fun k hk=>hT k (hz k hk))
theorem Firm.imp {Z:Nat→Prop} {A B:World→Prop} {w:World} (h:Firm Z A w) (f:∀ w,A w→B w):Firm Z B w:=fun T w' ho hT=>f w' (h T w' ho hT)
theorem zFG {Z:Nat→Prop} {w:World} {base:Nat} {e:TypeId} {size:Nat} {v:Value} {n:Nat} {xs:List Value} (h:w.ownsRow base e size v n xs) (hz:∀ k,v.ownBlock=some k→Z k):Firm Z (fun w=>w.ownsRow base e size v n xs) w:=
 fun _ _ ho hT=>zY h ho (fun k hk=>hT k (hz k hk))
theorem zKx {Z:Nat→Prop} {w:World} {k:Nat} {o:Obj} (h:w.heap[k]?=some o) (hz:Z k):Firm Z (fun w=>w.heap[k]?=some o) w:=
 fun _ _ ho hT=>(ho.block k (zB h) (hT k hz)).trans h
theorem zOQ {Z:Nat→Prop} {w:World} {lo b:Nat} {q:QS} (h:ProgAt lo w b q) (hz:∀ k,lo≤k→k < w.heap.size→Z k):Firm Z (fun w=>ProgAt lo w b q) w:=by
 obtain ⟨h1,vV,vC,h2,h3,h4⟩:=h;intro T w' ho hT;refine ⟨h1,vV,vC,zKx h2 (hz b h1 (zB h2)) T w' ho hT,zFG h3 (fun k hk=>hz k (h3.lt k hk).1 (h3.lt k hk).2) T w' ho hT,zFG h4 (fun k hk=>hz k (h4.lt k hk).1 (h4.lt k hk).2) T w' ho hT⟩
theorem zQc {Z:Nat→Prop} {w:World} {lo b:Nat} {F:zv} (h:RefAt lo w b F) (hz:∀ k,lo≤k→k < w.heap.size→Z k):Firm Z (fun w=>RefAt lo w b F) w:=by
 obtain ⟨h1,vO,vE,vC,h2,h3,h4,h5⟩:=h;intro T w' ho hT;exact ⟨h1,vO,vE,vC,zKx h2 (hz b h1 (zB h2)) T w' ho hT,zFG h3 (fun k hk=>hz k (h3.lt k hk).1 (h3.lt k hk).2) T w' ho hT,zFG h4 (fun k hk=>hz k (h4.lt k hk).1 (h4.lt k hk).2) T w' ho hT,zFG h5 (fun k hk=>hz k (h5.lt k hk).1 (h5.lt k hk).2) T w' ho hT⟩
theorem zPb {Z:Nat→Prop} {w:World} {bl:BL} {rs:List zAB} {v:GV} (h:GRows w bl rs v) (h1:∀ k,v.vB.ownBlock=some k→Z k) (h2:∀ k,v.vR.ownBlock=some k→Z k) (h3:∀ j (hj:j < v.hdrs.length) k,v.hdrs[j].ownBlock=some k→Z k):Firm Z (fun w=>GRows w bl rs v) w:=by
 intro T w' ho hT;have hl:=h.len;exact ⟨zY h.oB ho (fun k hk=>hT k (h1 k hk)),zY h.oR ho (fun k hk=>hT k (h2 k hk)),h.len,fun j hj=>zY (h.row j hj) ho (fun k hk=>hT k (h3 j (by omega) k hk))⟩
structure GG where
 gb:Nat
 db:Nat
 b1:Nat
 b2:Nat
 st:RS
 q0:QS
 proof:List UInt8
 kind:Nat
 ss:List Stp
 mv:List Nat
 bs:List Bool
 g:GS
 gv:GV
 vM:Value
 vb:Nat
 val:List Int
def GG.q (G:GG):QS:=zK G.q0
def GG.rs (G:GG):List zAB:=zAQ G.kind G.ss
def GG.bl (G:GG):BL:=blW G.q G.kind
def zC1 (l:List Int):List Value:=l.map (fun x=>Value.int .i64 x)
structure GPure (G:GG):Prop where
 same:zEA G.st G.q0
 cl:G.q0.cl.length≤24
 nice:zCf G.q0
 read:zA1 G.q G.proof=.inr (G.kind,ze G.ss)
 tags:zFT G.q G.kind G.proof G.ss
 sbs:SBs G.ss
 play:G.g=G.mv.foldl (fun g m=>zAh G.rs G.bl g m) (zBO G.q G.kind G.ss)
 ok:∀ i,i < G.mv.length→zBv G.bl ((G.mv.take i).foldl (fun g m=>zAh G.rs G.bl g m) (zBO G.q G.kind G.ss)) ((G.mv.getD i 0:Nat):Int)=0
 run:Run G.q G.kind G.rs G.g G.bs
 stands:zHJ G.q G.kind G.g
 mlen:G.mv.length≤G.g.turn
 vlen:G.val.length=8
 vok:∀ v,1≤v→v≤8→G.val.getD (v - 1) 0=0∨G.val.getD (v - 1) 0=zBC G.g.vals v
structure GInv (Z:Nat→Prop) (w:World) (G:GG):Prop where
 fb:w.heap[G.gb]?=some (.cells #[.pointer (some ⟨G.db,0,none⟩),.pointer (some ⟨G.b1,0,none⟩),.pointer (some ⟨G.b2,0,none⟩),S G.proof,.int .i64 (G.kind:Int),G.vM,.int .i64 (G.g.turn:Int),.slice (some ⟨G.vb,0,none⟩) 8 8] 87 (0,0))
 db:w.heap[G.db]?=some (.cells #[G.gv.vB,G.gv.vR,.int .i64 (G.g.turn:Int),.int .i64 (G.g.vals.1:Int),.int .i64 (G.g.vals.2:Int)] 79 (0,0))
 firm:Firm Z (fun w=>ProgAt 0 w G.b1 G.q∧RefAt 0 w G.b2 (zW G.st)∧GRows w G.bl G.rs G.gv) w
 oM:w.ownsRow 0 3 1 G.vM G.mv.length (zu G.mv)
 val:w.heap[G.vb]?=some (.cells (zC1 G.val).toArray 3 (0,0))
 mvb:G.vM.ownBlock≠some G.vb
 pure:GPure G
def GG.mut (G:GG) (k:Nat):Prop:=k=G.gb∨k=G.db∨k=G.vb∨G.vM.ownBlock=some k
theorem GInv.game {Z:Nat→Prop} {w:World} {G:GG} (h:GInv Z w G):GameAt w G.db 79 G.bl G.rs G.g G.gv:=⟨h.db,Or.inr rfl,h.firm.now.2.2⟩
theorem GInv.keep {Z T:Nat→Prop} {w w':World} {G:GG} (h:GInv Z w G) (ho:Only T w w') (hZ:∀ k,Z k→¬ T k) (hm:∀ k,G.mut k→¬ T k):GInv Z w' G:=
 ⟨(ho.block _ (zB h.fb) (hm _ (Or.inl rfl))).trans h.fb,(ho.block _ (zB h.db) (hm _ (Or.inr (Or.inl rfl)))).trans h.db,h.firm.step ho hZ,zY h.oM ho (fun k hk=>hm k (Or.inr (Or.inr (Or.inr hk)))),(ho.block _ (zB h.val) (hm _ (Or.inr (Or.inr (Or.inl rfl))))).trans h.val,h.mvb,h.pure⟩
theorem GInv.grow {Z Z':Nat→Prop} {w:World} {G:GG} (h:GInv Z w G) (hz:∀ k,Z k→Z' k):GInv Z' w G:=⟨h.fb,h.db,h.firm.grow hz,h.oM,h.val,h.mvb,h.pure⟩
theorem GInv.lt {Z:Nat→Prop} {w:World} {G:GG} (h:GInv Z w G) {k:Nat} (hk:G.mut k):k < w.heap.size:=by
 rcases hk with rfl | rfl | rfl | hk
 ·exact zB h.fb
 ·exact zB h.db
 ·exact zB h.val
 ·exact (h.oM.lt k hk).2
theorem GInv.apart {Z:Nat→Prop} {w:World} {G:GG} (h:GInv Z w G):G.gb≠G.db∧G.gb≠G.vb∧G.db≠G.vb∧G.vM.ownBlock≠some G.gb∧G.vM.ownBlock≠some G.db:=by
 refine ⟨fun e=>?_,fun e=>?_,fun e=>?_,fun e=>?_,fun e=>?_⟩
 ·have:=h.db;rw [← e] at this;exact absurd (zc h.fb this) (by decide)
 ·have:=h.val;rw [← e] at this;exact absurd (zc h.fb this) (by decide)
 ·have:=h.val;rw [← e] at this;exact absurd (zc h.db this) (by decide)
 ·obtain ⟨c,hc⟩:=zr h.oM _ e;exact absurd (zc h.fb hc) (by decide)
 ·obtain ⟨c,hc⟩:=zr h.oM _ e;exact absurd (zc h.db hc) (by decide)
def FPairF (Z:Nat→Prop) (bw:Nat) (w:World) (text:List UInt8) (px pf:Option Addr):Prop:=
 (px=none∧pf=none)∨∃ b b' st q0,px=some ⟨b,0,none⟩∧pf=some ⟨b',0,none⟩∧Firm Z (fun w=>ProgAt (bw + 1) w b (zK q0)∧RefAt (bw + 1) w b' (zW st)) w∧zEA st q0∧q0.cl.length≤24∧zCf q0∧zAb text=.inr (zK q0)
theorem FPairF.now {Z:Nat→Prop} {bw:Nat} {w:World} {text:List UInt8} {px pf:Option Addr} (h:FPairF Z bw w text px pf):FPair (bw + 1) w px pf:=by
 rcases h with h | ⟨b,b',st,q0,h1,h2,h3,h4⟩
 ·exact Or.inl h
 ·exact Or.inr ⟨b,b',st,q0,h1,h2,h3.now.1,h3.now.2,h4.1,h4.2.1,h4.2.2.1⟩
theorem FPairF.step {Z T:Nat→Prop} {bw:Nat} {w w':World} {text:List UInt8} {px pf:Option Addr} (h:FPairF Z bw w text px pf) (ho:Only T w w') (hT:∀ k,Z k→¬ T k):FPairF Z bw w' text px pf:=by
 rcases h with h | ⟨b,b',st,q0,h1,h2,h3,h4⟩
 ·exact Or.inl h
 ·exact Or.inr ⟨b,b',st,q0,h1,h2,h3.step ho hT,h4⟩
theorem FPairF.grow {Z Z':Nat→Prop} {bw:Nat} {w:World} {text:List UInt8} {px pf:Option Addr} (h:FPairF Z bw w text px pf) (hz:∀ k,Z k→Z' k):FPairF Z' bw w text px pf:=by
 rcases h with h | ⟨b,b',st,q0,h1,h2,h3,h4⟩
 ·exact Or.inl h
 ·exact Or.inr ⟨b,b',st,q0,h1,h2,h3.grow hz,h4⟩
theorem FPairF.new {Z:Nat→Prop} {bw n:Nat} {w:World} {text:List UInt8} {px pf:Option Addr} (h:FTxt n w text px pf) (hn:bw < n) (hz:∀ k,n≤k→k < w.heap.size→Z k):FPairF Z bw w text px pf:=by
 rcases h with h | ⟨b,b',st,q0,h1,h2,h3,h4,h5,h6,h7⟩
 ·exact Or.inl h
 ·exact Or.inr ⟨b,b',st,q0,h1,h2,fun T w' ho hT=>⟨(zOQ h3 hz T w' ho hT).lo hn,(zQc h4 hz T w' ho hT).lo hn⟩,h5,h6.1,h6.2,h7⟩
structure DW where
 text:List UInt8
 proof:List UInt8
 px:Option Addr
 pf:Option Addr
 v4:Value
 v5:Value
 v6:Value
 h5s:List Value
 h6s:List Value
 gs:List GG
 Z:Nat→Prop
def zIi (G:GG):Value:=.pointer (some ⟨G.gb,0,none⟩)
structure DInv (bw:Nat) (w:World) (D:DW):Prop where
 wat:WAt w bw D.text D.px D.pf D.proof D.v4 D.v5 D.v6
 o4:w.ownsRow (bw + 1) 51 1 D.v4 D.gs.length (D.gs.map zIi)
 o5:w.ownsRow (bw + 1) 25 1 D.v5 D.h5s.length D.h5s
 o6:w.ownsRow (bw + 1) 45 1 D.v6 D.h6s.length D.h6s
 zin:∀ k,D.Z k→bw < k∧k < w.heap.size
 form:FPairF D.Z bw w D.text D.px D.pf
 ls:Firm D.Z (fun w=>LsAt w D.h5s) w
 lss:Firm D.Z (fun w=>LssAt w D.h6s) w
 n4:∀ k,D.v4.ownBlock=some k→¬ D.Z k
 n5:∀ k,D.v5.ownBlock=some k→¬ D.Z k
 n6:∀ k,D.v6.ownBlock=some k→¬ D.Z k
 games:∀ G∈D.gs,GInv D.Z w G
 gz:∀ G∈D.gs,∀ k,G.mut k→bw < k∧¬ D.Z k
 gap:∀ i j (hi:i < D.gs.length) (hj:j < D.gs.length),i≠j→∀ k,D.gs[i].mut k→¬ D.gs[j].mut k
def DW.free (D:DW) (bw k:Nat):Prop:=k≠bw∧D.v4.ownBlock≠some k∧D.v5.ownBlock≠some k∧D.v6.ownBlock≠some k
theorem DInv.frame {bw:Nat} {w w':World} {D:DW} {T:Nat→Prop} (h:DInv bw w D) (ho:Only T w w') (hT:∀ k,k < w.heap.size→T k→D.free bw k∧¬ D.Z k∧∀ G∈D.gs,¬ G.mut k):DInv bw w' D:=by
 have ho':Only (fun k=>T k∧k < w.heap.size) w w':=ho.mono (fun k hk ht=>⟨ht,hk⟩);have hz:∀ k,D.Z k→¬ (T k∧k < w.heap.size):=fun k hk ht=>(hT k ht.2 ht.1).2.1 hk
 exact ⟨(ho'.block bw (zB h.wat) (fun e=>(hT bw e.2 e.1).1.1 rfl)).trans h.wat,zY h.o4 ho' (fun k hk e=>(hT k e.2 e.1).1.2.1 hk),zY h.o5 ho' (fun k hk e=>(hT k e.2 e.1).1.2.2.1 hk),zY h.o6 ho' (fun k hk e=>(hT k e.2 e.1).1.2.2.2 hk),
  fun k hk=>⟨(h.zin k hk).1,Nat.lt_of_lt_of_le (h.zin k hk).2 ho.size⟩,h.form.step ho' hz,h.ls.step ho' hz,h.lss.step ho' hz,h.n4,h.n5,h.n6,fun G hG=>(h.games G hG).keep ho' hz (fun k hk e=>(hT k e.2 e.1).2.2 G hG hk),h.gz,h.gap⟩
theorem DInv.later {bw:Nat} {w w':World} {D:DW} (h:DInv bw w D) (hb:Below w.heap.size w w'):DInv bw w' D:=
 h.frame (T:=fun _=>False) (Only.of_below hb) (fun _ _ h=>h.elim)
def zHF (w:World) (v:Value) (l:List Nat):Prop:=∃ ao cap,v=.slice ao l.length cap∧∀ i (hi:i < l.length),∃ g off,ao=some ⟨g,off,none⟩∧w.cell? ⟨g,off + i,none⟩=some (.int .i64 (l[i]:Int))
def zD3 (F:zv) (k:Nat):Nat:=if 0 < k then F.ends.getD (k - 1) 0 else 0
def zEJ (F:zv) (k:Nat):List Nat:=(F.order.drop (zD3 F k)).take (F.ends.getD k 0 - zD3 F k)
def zKN (w:World) (b:Nat) (v:Value):Prop:=∃ gO n0 c0,w.cell? ⟨b,0,none⟩=some (.slice (some ⟨gO,0,none⟩) n0 c0)∧∀ a n c,v=.slice (some a) n c→a.block=gO
def zPe (b:Nat) (F:zv) (k:Nat) (w:World) (e:Ending) (w':World):Prop:=∃ v,e=.returned v∧zHF w' v (zEJ F k)∧Below w.heap.size w w'∧zKN w b v
theorem zIx {w w':World} {gO lo1 hi1 cap:Nat} {l:List Nat} (hc:∀ j u,(zu l)[j]?=some u→w.cell? ⟨gO,j,none⟩=some u) (hw:∀ j,w'.cell? ⟨gO,j,none⟩=w.cell? ⟨gO,j,none⟩) (h1:lo1≤hi1) (h2:hi1≤l.length) :
  zHF w' (.slice (some ⟨gO,lo1,none⟩) (hi1 - lo1) cap) ((l.drop lo1).take (hi1 - lo1)):=by
 have hl:((l.drop lo1).take (hi1 - lo1)).length=hi1 - lo1:=(by simp;omega);refine ⟨_,_,by rw [hl],fun i hi=>⟨gO,lo1,rfl,?_⟩⟩;rw [hw];refine hc _ _ ?_;rw [hl] at hi;simp [zu,show lo1 + i < l.length by omega]
theorem zNI (w:World) (ao:Option Addr) (cap:Nat):zHF w (.slice ao 0 cap) []:=⟨ao,cap,rfl,fun i hi=>by simp at hi⟩
theorem zJa (lo b k:Nat) (F:zv) (w:World) (hF:RefAt lo w b F) (hk:k < F.ends.length) (hle:zD3 F k≤F.ends.getD k 0) (hel:F.ends.getD k 0≤F.order.length) (_hol:F.order.length≤1073741824) (hpos:0 < F.order.length) (hen:F.ends.length≤1073741824) :
  Calls Tryz.prog 38 #[.pointer (some ⟨b,0,none⟩),.int .i64 k] w fun e w'=>zPe b F k w e w':=by
 obtain ⟨_,vO,vE,vC,hfb,hO,hE,_⟩:=hF;obtain ⟨gO,cO,rfl,_,_,hcO,hcellO⟩:=zS hO hpos;obtain ⟨gE,cE,rfl,_,_,hcE,hcellE⟩:=zS hE (by omega);have k0:w.cell? ⟨b,0,none⟩=some (.slice (some ⟨gO,0,none⟩) F.order.length cO):=zE hfb rfl;have k2:w.cell? ⟨b,2,none⟩=some (.slice (some ⟨gE,0,none⟩) F.ends.length cE):=zE hfb rfl;have ek:w.cell? ⟨gE,k,none⟩=some (.int .i64 (F.ends.getD k 0:Nat)):=hcellE k _ (by simp [zu,List.getD,hk]);have HCO:=zF hcellO;have HK0:=zF k0;have hkb:k≤1073741824:=by omega
 by_cases h0:0 < k
 ·have ek1:w.cell? ⟨gE,k - 1,none⟩=some (.int .i64 (F.ends.getD (k - 1) 0:Nat)):=hcellE (k - 1) _ (by simp [zu,List.getD,show k - 1 < F.ends.length by omega]);have HFR:Hid (zD3 F k=F.ends.getD (k - 1) 0):=zF (by unfold zD3;rw [if_pos h0]);have HBL:Hid (zEJ F k=(F.order.drop (F.ends.getD (k - 1) 0)).take (F.ends.getD k 0 - F.ends.getD (k - 1) 0)):=zF (by unfold zEJ;rw [zA HFR]);rw [zA HFR] at hle;have hd0:decide (0 < k)=true:=(by simpa using h0);clear hcellE hcellO;generalize F.ends.getD (k - 1) 0=lo1 at *;generalize F.ends.getD k 0=hi1 at *
  go_enter Tryz.func38,Tryz.ntmps38
  go_wp2_with fail
  go_quiet (fail)
  go_wp2_with fail
  ·next hce=>
   have hz:hi1 - lo1=0:=(by omega);have HZ:=zF hz;clear hz;go_ret;refine ⟨_,rfl,?_,below_drewN (Below.refl _ _) nq,gO,_,_,zA HK0,fun a n c e=>by injection e with e _ _;injection e with e;rw [← e]⟩;rw [zA HBL,zA HZ];show zHF _ (.slice (some ⟨gO,0,none⟩) 0 0) _
   simpa using zNI _ _ _
  ·go_ret;refine ⟨_,rfl,?_,below_drewN (Below.refl _ _) nq,gO,_,_,zA HK0,fun a n c e=>by injection e with e _ _;injection e with e;rw [← e]⟩;rw [zA HBL];exact zIx (zA HCO) (fun j=>rfl) hle hel
 ·have HFR:Hid (zD3 F k=0):=zF (by unfold zD3;rw [if_neg h0]);have HBL:Hid (zEJ F k=(F.order.drop 0).take (F.ends.getD k 0 - 0)):=zF (by unfold zEJ;rw [zA HFR]);have hd0:decide (0 < k)=false:=(by simpa using h0);clear hcellE hcellO hle;generalize F.ends.getD k 0=hi1 at *
  go_enter Tryz.func38,Tryz.ntmps38
  go_wp2_with fail
  go_quiet (fail)
  go_wp2_with fail;go_ret;refine ⟨_,rfl,?_,below_drewN (Below.refl _ _) nq,gO,_,_,zA HK0,fun a n c e=>by injection e with e _ _;injection e with e;rw [← e]⟩;rw [zA HBL];exact zIx (lo1:=0) (zA HCO) (fun j=>rfl) (Nat.zero_le _) hel
theorem zI2 {vs:List (Nat × Bool)} {w w0 w':World} {e:Ending} (h:zEF vs w0 e w') (hb:Below w.heap.size w w0):zEF vs w e w':=by
 obtain ⟨v,hdrs,h0,h1,h2,h3⟩:=h;exact ⟨v,hdrs,h0,zAG h1 hb.size,⟨h2.len,fun j hj=>⟨zAG (h2.row j hj).1 hb.size,(h2.row j hj).2⟩,h2.apart⟩,hb.trans (h3.mono hb.size)⟩
theorem zK7 (lo b:Nat) (q:QS) (w:World) (hP:ProgAt lo w b q) (hl:q.vars.length≤1048576) :
  Calls Tryz.prog 58 #[.pointer (some ⟨b,0,none⟩)] w fun e w'=>zEF q.vars w e w':=by
 obtain ⟨_,vV,vC,hb,hV,hC⟩:=hP;obtain ⟨aV,cV,rfl⟩:=zN hV;obtain ⟨aC,cC,rfl⟩:=zN hC;have hbl:=zB hb
 go_enter Tryz.func58,Tryz.ntmps58
 go_wp2_with fail;refine (zEI b _ _ aV aC _ cV _ cC rfl rfl w hb).mono ?_;rintro e w0 ⟨rfl,hb0⟩;go_wp2_with fail;have hB:Below w.heap.size w (w0.alloc (.cells #[.slice aV q.vars.length cV,.slice aC q.cl.length cC] 60)):=hb0.alloc hb0.size _;have hf:(w0.alloc (.cells #[.slice aV q.vars.length cV,.slice aC q.cl.length cC] 60)).cell? ⟨w0.heap.size,0,none⟩=some (.slice aV q.vars.length cV):=zE (heap_alloc_new _ _) rfl;refine (zHs lo w0.heap.size q _ aV cV hf (by simp) (zO hV hB) hl).mono ?_;intro e w1 hp;have hp:=zI2 hp hB;obtain ⟨v,hdrs,rfl,h1,h2,h3⟩:=hp;obtain ⟨av,cv,rfl⟩:=zN h1;go_wp2_with fail;go_ret;exact ⟨_,hdrs,rfl,h1,h2,h3⟩
theorem zPx {bw:Nat} {wx w4:World} {v5 v6 v6':Value} {h5s h6s:List Value} {text:List UInt8} {px pf:Option Addr} {proof:List UInt8} {c4:Value} (hL:ListsAt bw wx v5 v6 h5s h6s) (hw:WAt wx bw text px pf proof c4 v5 v6)
  (hg:wx.grownBy w4 v6.ownBlock) (ho6:w4.ownsRow (bw + 1) 45 1 v6' (h6s.length + 1) (h6s ++ [.slice none 0 0])) :
  WAt (w4.setCell ⟨bw,6,none⟩ v6') bw text px pf proof c4 v5 v6'∧ListsAt bw (w4.setCell ⟨bw,6,none⟩ v6') v5 v6' h5s (h6s ++ [.slice none 0 0])∧Only (fun j=>j=bw∨v5.ownBlock=some j∨v6.ownBlock=some j) wx (w4.setCell ⟨bw,6,none⟩ v6'):=by
 have hwt:=hw;unfold WAt at hwt;have ho4:Only (fun j=>v6.ownBlock=some j) wx w4:=⟨hg.os,hg.tape,hg.output,hg.size,fun k hk ht=>hg.block k hk (fun e=>ht e.symm)⟩;have hbw6:v6.ownBlock≠some bw:=fun e=>by have:=(hL.o6.lt _ e).1;omega
 have hw4:WAt w4 bw text px pf proof c4 v5 v6:=(ho4.block bw (zB hwt) hbw6).trans hwt;have hoS:Only (fun j=>j=bw∨v6.ownBlock=some j) wx (w4.setCell ⟨bw,6,none⟩ v6'):=(ho4.mono (T':=fun j=>j=bw∨v6.ownBlock=some j) (fun k _ h=>Or.inr h)).setCell (p:=⟨bw,6,none⟩) (Or.inl (Or.inl rfl)) _;have hTS:∀ ts:List TypeId,48∉ts→45∉ts→∀ b k,k < wx.heap.size→(k=bw∨v6.ownBlock=some k)→zCW b wx ts k:=fun ts h1 h2 b k _ ht=>by
  rcases ht with rfl | ht
  ·exact Or.inr ⟨_,_,_,hwt,h1⟩
  ·obtain ⟨c,hc⟩:=zFk hL.o6 ht;exact Or.inr ⟨_,_,_,hc,h2⟩
 refine ⟨zI hw4 6 _,⟨zCJ (ts:=[25]) hL.o5 hoS (by simp) (hTS _ (by decide) (by decide) _),by simpa using ownsRow_setCell_below ho6 (a:=⟨bw,6,none⟩) (Nat.lt_succ_self bw) _,hL.ls.only hoS (hTS _ (by decide) (by decide) _),?_,?_⟩,hoS.mono (fun k _ h=>h.elim Or.inl (fun h=>Or.inr (Or.inr h)))⟩
 ·have hold:LssAt (w4.setCell ⟨bw,6,none⟩ v6') h6s:=zFM hL.lss hoS (fun i hi g c h1 h2 ht=>by
   rcases hTS [25] (by decide) (by decide) 0 g (zB h2) ht with h | ⟨c',t,fr,h4,h5⟩
   ·omega
   ·exact h5 (by rw [zB7 h4 h2];simp)) (hTS _ (by decide) (by decide) _)
  intro i hi
  by_cases hil:i < h6s.length
  ·rw [List.getElem_append_left hil];exact hold i hil
  ·have hie:i=h6s.length:=(by simp at hi;omega);subst hie;rw [List.getElem_concat_length rfl];exact Or.inl rfl
 ·intro i hi
  by_cases hil:i < h6s.length
  ·rw [List.getElem_append_left hil];exact hL.ap i hil
  ·have hie:i=h6s.length:=(by simp at hi;omega);subst hie;rw [List.getElem_concat_length rfl];exact (zEf _).symm
theorem Tryz.infoIntss:(Tryz.prog.info? 45).map (fun i=>(i.zero,i.size,i.bytes))=some (some (.slice none 0 0),1,24):=by kernel_rfl
theorem zIo {st:RS} {q:QS} (h:zEA st q) (hn:zCf q) (k:Nat) (hk:k < (zG (zK q).vars).length):zEJ (zW st) k=(zG (zK q).vars)[k]:=by
 have e:=zFu (zK q).vars;unfold zEJ zD3;rw [zCR h hn,zDv h];simp only [e,List.getElem_map,List.getElem_range];rfl
theorem zRw {w:World} {base:Nat} {e:TypeId} {size:Nat} {v:Value} {n:Nat} {xs:List Value} (h:w.ownsRow base e size v n xs):n≤maxLen:=by
 rcases h.2 with ⟨_,h⟩ | ⟨g,cap,cur,_,_,_,h1,h2,_⟩<;>omega
def zLi (n:Nat) (v v':Value):Prop:=v'.ownBlock=v.ownBlock∨∃ j,v'.ownBlock=some j∧n≤j
structure zHk (bw:Nat) (text:List UInt8) (px pf:Option Addr) (proof:List UInt8) (c4 v5 v6:Value) (h5s h6s:List Value) (w:World) (e:Ending) (w':World):Prop where
 ret:e=.returned (.bool true)
 only:Only (fun j=>j=bw∨v5.ownBlock=some j∨v6.ownBlock=some j) w w'
 at_:∃ v5' v6' n5 x6,WAt w' bw text px pf proof c4 v5' v6'∧ListsAt bw w' v5' v6' (h5s ++ n5) (h6s ++ [x6])∧n5.length≤8∧(∀ v∈n5,∀ k,v.ownBlock=some k→w.heap.size≤k)∧zQ4 w.heap.size w' x6∧zLi w.heap.size v5 v5'∧zLi w.heap.size v6 v6'
theorem zLD (bw b b':Nat) (st:RS) (q0:QS) (text:List UInt8) (proof:List UInt8) (c4 v5 v6:Value) (h5s h6s:List Value) (w:World)
  (hw:WAt w bw text (some ⟨b,0,none⟩) (some ⟨b',0,none⟩) proof c4 v5 v6) (hP:ProgAt (bw + 1) w b (zK q0)) (hR:RefAt (bw + 1) w b' (zW st)) (hS:zEA st q0) (hN:zCf q0) (hL:ListsAt bw w v5 v6 h5s h6s)
  (hn5:h5s.length≤1048576000) (hn6:h6s.length≤1073741823) :
  Calls Tryz.prog 35 #[.pointer (some ⟨bw,0,none⟩)] w fun e w'=>zHk bw text (some ⟨b,0,none⟩) (some ⟨b',0,none⟩) proof c4 v5 v6 h5s h6s w e w':=by
 have hbw:bw < w.heap.size:=zB hw;have k1:w.cell? ⟨bw,1,none⟩=some (.pointer (some ⟨b,0,none⟩)):=zE hw rfl;have hvl:=zCp hN;have HPB:Hid (∀ k (hk:k < (zG (zK q0).vars).length),zEJ (zW st) k=(zG (zK q0).vars)[k]):=zF (fun k hk=>zIo hS hN k hk);have hel:(zW st).ends.length=(zG (zK q0).vars).length:=(by rw [zCR hS hN,zCV]);have hel8:(zG (zK q0).vars).length≤8:=(by rw [zCV];have:=zGt (zK q0).vars;omega);have hol:(zW st).order.length=(zK q0).vars.length:=(by rw [zDv hS];simp);have HFE:Hid (∀ k,k < (zG (zK q0).vars).length→zD3 (zW st) k≤(zW st).ends.getD k 0∧(zW st).ends.getD k 0≤(zW st).order.length∧0 < (zW st).order.length):=zF (fun k hk=>by
  have hk':k < (zBR (zK q0).vars).length:=(by rw [← zCV];exact hk);have h1:=zLd _ k hk';have h2:=zQY _ k hk';have h3:=zGt (zK q0).vars;unfold zD3;rw [zCR hS hN,hol];exact ⟨h1,h2,by omega⟩)
 obtain ⟨i0,hi,hz0,hz1,hz2⟩:=info_parts Tryz.infoIntss
 go_enter Tryz.func35,Tryz.ntmps35
 go_wp2_with fail;refine (zK7 (bw + 1) b (zK q0) w hP (by omega)).mono ?_;rintro e w1 ⟨v,hdrs,rfl,hown,hrows,hb1⟩;have hw1:=hw.later hb1;have hR1:=hR.later hb1;have hbs1:=hb1.size;clear hP hS hN;generalize zG (zK q0).vars=pb at *;generalize zW st=F at *;obtain ⟨_,vO,vE,vC,hfb,hO,hE,_⟩:=id hR1;obtain ⟨aE,cE,rfl⟩:=zN hE;rw [hel] at hfb;have k2:w1.cell? ⟨bw,2,none⟩=some (.pointer (some ⟨b',0,none⟩)):=zE hw1 rfl;have kE:w1.cell? ⟨b',2,none⟩=some (.slice aE pb.length cE):=zE hfb rfl;have hne:((pb.length:Int) != (pb.length:Int))=false:=(by simp);have hdl:=hrows.len
 rcases hown.2 with ⟨rfl,hz⟩ | ⟨h,cap,cur,rfl,hhb,hhr,hnc,hcm,hcs,htk⟩
 ·obtain rfl:pb=[]:=List.length_eq_zero_iff.1 hz;have kE':w1.cell? ⟨b',2,none⟩=some (.slice aE 0 cE):=kE;clear kE hne;have h6:w1.cell? ⟨bw,6,none⟩=some v6:=zE hw1 rfl;have hL1:=hL.later hb1;obtain ⟨a6,c6,rfl⟩:=zN hL1.o6;have hbs:bw + 1≤w1.heap.size:=(by omega);go_wp2_with fail;refine wp_loop_rounds 1 ?_;rw [rounds_succ];go_wp2_with fail;refine wp_loop_rounds 1 ?_;rw [rounds_succ];go_wp2_with fail;refine wp_loop_rounds 1 ?_;rw [rounds_succ];have hbw6:(Value.slice a6 h6s.length c6).ownBlock≠some bw:=fun e=>by have:=(hL1.o6.lt _ e).1;omega
  go_wp2_with (at_builtin;refine zp rfl (.tmp 100) (.tmp 102) 46 rfl (bw + 1) i0 (.slice none 0 0) 1 24 Tryz.underlying46 hi hz0 hz1 hz2 rfl (by decide) _ _ _ hL1.o6 rfl rfl rfl (by simp [Value.oneCell']) (by unfold maxLen;omega) (by omega) hbs ?_;intro v' w4 hown4 hgrow hat;have hw4:WAt w4 bw text (some ⟨b,0,none⟩) (some ⟨b',0,none⟩) proof c4 v5 (.slice a6 h6s.length c6):=(hgrow.block bw (zB hw1) (fun e=>hbw6 e.symm)).trans hw1;obtain ⟨g3,cap3,rfl,hg3,hg3',hcap3,hcell3⟩:=zS hown4 (by omega);have hq6:w4.cell? ⟨bw,6,none⟩=some (.slice a6 h6s.length c6):=(by rw [zC hw4];rfl);have hqz:=zD hw4 6)
  go_ret;obtain ⟨hA,hB,hC⟩:=zPx hL1 hw1 hgrow hown4;exact ⟨rfl,(Only.of_below hb1).trans hC,v5,_,[],.slice none 0 0,hA,by rw [List.append_nil];exact hB,by simp,by simp,Or.inl rfl,Or.inl rfl,hat.imp id (fun ⟨j,h1,h2⟩=>⟨j,h1,by omega⟩)⟩
 ·have HB1:=zF hb1;have hw1':=hw1;unfold WAt at hw1';go_wp2_with fail
  go_loopg [4] pb.length (fun q i wx=>∃ k:Nat,i=.int .i64 k∧k + q=pb.length∧Below w1.heap.size w1 wx)
  case atStart=>exact ⟨0,rfl,by omega,Below.refl _ _⟩
  case round=>
   obtain ⟨k,rfl,hk,hbx⟩:=hrel;obtain ⟨wo,rfl⟩:∃ wo,wo=wr:=⟨_,rfl⟩;obtain ⟨go,rfl⟩:∃ go,go=gk:=⟨_,rfl⟩;have hbsx:=hbx.size
   by_cases hlt:k < pb.length
   ·have x2:wo.cell? ⟨bw,2,none⟩=some (.pointer (some ⟨b',0,none⟩)):=(by rw [hbx.cell (p:=⟨bw,2,none⟩) (by show bw < _;omega)];exact k2);have hdk:decide ((k:Int) < (pb.length:Int))=true:=(by simp;omega);obtain ⟨hf1,hf2,hf3⟩:=zA HFE k hlt;go_wp2_with fail;refine (zJa (bw + 1) b' k F wo (hR1.later hbx) (by omega) hf1 hf2 (by omega) hf3 (by omega)).mono ?_;rintro e w2 ⟨vb,rfl,hints,hb2,_⟩;have hbx2:Below w1.heap.size w1 w2:=hbx.trans (hb2.mono hbsx);rw [zA HPB k hlt] at hints;obtain ⟨ab,cb,rfl,hcb⟩:=hints;obtain ⟨hrk,hrne⟩:=hrows.row k hlt;obtain ⟨gk',ck',hke,hgk,hgk',_,hcellk⟩:=zS hrk (List.length_pos_iff.2 hrne);have hhk:w2.cell? ⟨h,k,none⟩=some (.slice (some ⟨gk',0,none⟩) pb[k].length ck'):=by
     rw [hbx2.cell (p:=⟨h,k,none⟩) (zB hhr),zC hhr];have e1:(cur.toList.take (pb.length * 1))[k]?=some hdrs[k]:=(by rw [htk];exact List.getElem?_eq_getElem (by omega));rw [List.getElem?_take,if_pos (by omega)] at e1;rw [hke] at e1
     simpa using e1
    have hne2:((pb[k].length:Int) != (pb[k].length:Int))=false:=(by simp);have hbs2:=hbx2.size;have hpl:=zRw hrk;unfold maxLen at hpl;go_wp2_with fail
    go_loopg [6] pb[k].length (fun q i wx=>∃ j:Nat,i=.int .i64 j∧j + q=pb[k].length∧Below w2.heap.size w2 wx)
    case atStart=>exact ⟨0,rfl,by omega,Below.refl _ _⟩
    case round=>
     obtain ⟨j,rfl,hj,hby⟩:=hrel;have hbys:=hby.size
     by_cases hjl:j < pb[k].length
     ·obtain ⟨gb,ob,rfl,hcj⟩:=hcb j hjl;have y1:wr.cell? ⟨gb,ob + j,none⟩=some (.int .i64 (pb[k][j]:Int)):=(by rw [hby.cell (p:=⟨gb,ob + j,none⟩) (zAm hcj)];exact hcj);have y2:wr.cell? ⟨gk',j,none⟩=some (.int .i64 (pb[k][j]:Int)):=by
       rw [hby.cell (p:=⟨gk',j,none⟩) (by show gk' < _;omega),hbx2.cell (p:=⟨gk',j,none⟩) hgk'];exact hcellk j _ (by simp [zu,hjl])
      have y3:wr.cell? ⟨h,k,none⟩=some (.slice (some ⟨gk',0,none⟩) pb[k].length ck'):=by
       rw [hby.cell (p:=⟨h,k,none⟩) (zAm hhk)];exact hhk
      have hdj:decide ((j:Int) < (pb[k].length:Int))=true:=(by simp;omega);have hne3:((pb[k][j]:Int) != (pb[k][j]:Int))=false:=(by simp);generalize pb[k][j]=x at *;go_wp2_with fail
      go_quiet (fail)
      go_wp2_with fail
      go_roundg (gk - 1)
      case measure=>omega
      case rel=>exact ⟨j + 1,by go_num,by omega,below_drewN hby nq⟩
     ·have hdj:decide ((j:Int) < (pb[k].length:Int))=false:=(by simp;omega);have hjk:j≤pb[k].length:=(by omega);go_wp2_with fail
      go_roundg (go - 1)
      case measure=>omega
      case rel=>exact ⟨k + 1,by go_num,by omega,hbx2.trans (hby.mono hbs2)⟩
   ·have hkl:k=pb.length:=(by omega);subst hkl;have hdk:decide ((pb.length:Int) < (pb.length:Int))=false:=(by simp);have hb0:Below w.heap.size w wo:=hb1.trans (hbx.mono hbs1);have hrow0:wo.heap[h]?=some (.cells cur 25 (0,0)):=(hbx.block h (zB hhr)).trans hhr;have hM0:=Marking.start hw hL hb0 rfl hhb hrow0 (hrows.later hbx);have hcs':cur.size=cap:=(by simpa using hcs);have HCS:=zF hcs';have HTK:=zF htk;have HAP:=zF hrows.apart;clear hcs hcs' htk;go_wp2_with fail
    go_loopg [7] pb.length (fun q i wx=>∃ (k:Nat) (v5x:Value) (h5x:List Value),i=.int .i64 k∧k + q=pb.length∧(∃ n5,h5x=h5s ++ n5∧n5.length=k∧∀ v∈n5,∀ j,v.ownBlock=some j→w.heap.size≤j)∧Marking bw h w v5 text (some ⟨b,0,none⟩) (some ⟨b',0,none⟩) proof c4 v6 hdrs cur k v5x h5x wx)
    case atStart=>exact ⟨0,v5,h5s,rfl,by omega,⟨[],by simp,rfl,by simp⟩,hM0⟩
    case round=>
     obtain ⟨k,v5x,h5x,rfl,hk2,hn5x,hM⟩:=hrel;have hl5:h5x.length=h5s.length + k:=(by obtain ⟨n5,e1,e2,_⟩:=hn5x;rw [e1,List.length_append,e2]);have HN5:=zF hn5x;clear hn5x;obtain ⟨gm,rfl⟩:∃ gm,gm=gk:=⟨_,rfl⟩
     by_cases hlt2:k < pb.length
     ·have hkd:k < hdrs.length:=(by omega);obtain ⟨g,n,capg,cu,he,hg0,hgt,hcu,hnc2,hcm2⟩:=hM.fresh k (Nat.le_refl _) hkd;have hhk:wr.cell? ⟨h,k,none⟩=some (.slice (some ⟨g,0,none⟩) n capg):=by
       rw [zC hM.row];have e1:(cur.toList.take (pb.length * 1))[k]?=some hdrs[k]:=(by rw [zA HTK];exact List.getElem?_eq_getElem hkd);rw [List.getElem?_take,if_pos (by omega)] at e1;rw [he] at e1
       simpa using e1
      have hdk2:decide ((k:Int) < (pb.length:Int))=true:=(by simp;omega);have HE:=zF he;clear he;go_wp2_with fail;refine (zMK bw g n capg cu h5x.length h5x v5x text _ _ proof c4 v6 wr hM.at_ hgt hcu hnc2 hcm2 hM.o5 (by omega)).mono ?_;rintro e w3 hp;have hpr:=hp.ret;subst hpr;obtain ⟨v5y,hM3⟩:=hM.mine hhb hkd (zA HE) hg0 ⟨cu,hgt⟩ hcm2 (zA HAP) hp;go_wp2_with fail
      go_roundg (gm - 1)
      case measure=>omega
      case rel=>
       obtain ⟨n5,e1,e2,e3⟩:=zA HN5;refine ⟨k + 1,v5y,_,by go_num,by omega,⟨n5 ++ [.slice (some ⟨g,0,none⟩) capg capg],by rw [e1];simp,by simp [e2],?_⟩,hM3⟩;intro v hv j hj
       rcases List.mem_append.1 hv with hv | hv
       ·exact e3 v hv j hj
       ·have e4:v=.slice (some ⟨g,0,none⟩) capg capg:=(by simpa using hv);subst e4;have e5:some g=some j:=hj;injection e5 with e5;omega
     ·have hkl2:k=pb.length:=(by omega);subst hkl2;have hdk2:decide ((pb.length:Int) < (pb.length:Int))=false:=(by simp);have hH0:Heading bw h cap h6s.length w v5 text (some ⟨b,0,none⟩) (some ⟨b',0,none⟩) proof c4 v6 0 v5x h5x wr:=Heading.start hM (zA HCS);have hcm':=hcm;unfold maxLen at hcm';have h6w:wr.cell? ⟨bw,6,none⟩=some v6:=zE hM.at_ rfl;obtain ⟨a6,c6,rfl⟩:=zN hL.o6;go_wp2_with fail
      go_loopg [9] cap (fun q i wx=>∃ (k:Nat),i=.int .i64 k∧k + q=cap∧Heading bw h cap h6s.length w v5 text (some ⟨b,0,none⟩) (some ⟨b',0,none⟩) proof c4 (.slice a6 h6s.length c6) k v5x h5x wx)
      case atStart=>exact ⟨0,rfl,by omega,hH0⟩
      case round=>
       obtain ⟨k,rfl,hk3,hH⟩:=hrel;have x6:wr.cell? ⟨bw,6,none⟩=some (.slice a6 h6s.length c6):=zE hH.at_ rfl
       by_cases hlt3:k < cap
       ·have hdk3:decide ((k:Int) < (cap:Int))=true:=(by simp;omega);obtain ⟨cs,hr1,hr2,_⟩:=hH.row;obtain ⟨u,hu⟩:∃ u,wr.cell? ⟨h,k,none⟩=some u:=by
         rw [zC hr1];exact ⟨_,Array.getElem?_eq_getElem (by omega)⟩
        have hz:=zD hr1 k;have hhl:=zB hr1;have hH2:=hH.later ((Below.refl wr.heap.size wr).alloc (Nat.le_refl _) (.cells #[.int .i64 (h6s.length:Int),.int .i64 (k:Int)] 3));have hH3:=hH2.set hhb hlt3 (heap_alloc_new wr _) (hH.only.size);rw [World.setCell_alloc_past _ _ _ _ hhl] at hH3;clear hH2;go_wp2_with fail
        go_roundg (gk - 1)
        case measure=>omega
        case rel=>exact ⟨k + 1,by go_num,by omega,hH3⟩
       ·have hkl3:k=cap:=(by omega);subst hkl3;have hdk3:decide ((k:Int) < (k:Int))=false:=(by simp);have hw0':=hw;unfold WAt at hw0';have ho6x:wr.ownsRow (bw + 1) 45 1 (.slice a6 h6s.length c6) h6s.length h6s:=zCJ (ts:=[45]) hL.o6 hH.only (by simp) (fun k _ ht=>by
         rcases ht with rfl | ht
         ·exact Or.inr ⟨_,_,_,hw0',by decide⟩
         ·obtain ⟨c,hc⟩:=zFk hL.o5 ht;exact Or.inr ⟨_,_,_,hc,by decide⟩)
        have hwx:=hH.at_;have hbs:bw + 1≤wr.heap.size:=(by have:=zB hwx;omega);have hbw6:(Value.slice a6 h6s.length c6).ownBlock≠some bw:=fun e=>by have:=(ho6x.lt _ e).1;omega
        go_wp2_with (at_builtin;refine zp rfl (.tmp 100) (.tmp 102) 46 rfl (bw + 1) i0 (.slice none 0 0) 1 24 Tryz.underlying46 hi hz0 hz1 hz2 rfl (by decide) _ _ _ ho6x rfl rfl rfl (by simp [Value.oneCell']) (by unfold maxLen;omega) (by omega) hbs ?_;intro v' w4 hown4 hgrow hat;have hw4:WAt w4 bw text (some ⟨b,0,none⟩) (some ⟨b',0,none⟩) proof c4 v5x (.slice a6 h6s.length c6):=(hgrow.block bw (zB hwx) (fun e=>hbw6 e.symm)).trans hwx;obtain ⟨g3,cap3,rfl,hg3,hg3',hcap3,hcell3⟩:=zS hown4 (by omega);have hq6:w4.cell? ⟨bw,6,none⟩=some (.slice a6 h6s.length c6):=(by rw [zC hw4];rfl);have hqz:=zD hw4 6)
        go_ret;obtain ⟨hA,hB,hC,hD⟩:=Heading.done hL hw hcm hH hgrow hown4 hhb;obtain ⟨n5,e1,e2,e3⟩:=zA HN5;rw [e1] at hB;have hk9:=hH.only.size;exact ⟨rfl,hC,_,_,n5,_,hA,hB,by omega,e3,hD,hH.old,hat.imp id (fun ⟨j,h1,h2⟩=>⟨j,h1,by omega⟩)⟩
structure Pair (st:RS) (q0:QS):Prop where
 same:zEA st q0
 cl:q0.cl.length≤24
 nice:zCf q0
theorem Pair.fq {st:RS} {q0:QS} (h:Pair st q0):FQ (zW st) (zK q0):=(zLP h.same h.nice h.cl).1
theorem Pair.fo {st:RS} {q0:QS} (h:Pair st q0):FOk (zW st):=(zLP h.same h.nice h.cl).2.1
theorem Pair.fw {st:RS} {q0:QS} (h:Pair st q0):FW (zW st):=(zLP h.same h.nice h.cl).2.2
theorem Pair.qb {st:RS} {q0:QS} (h:Pair st q0):QB (zK q0):=zQN h.nice h.cl
theorem Pair.qg {st:RS} {q0:QS} (h:Pair st q0):QGood (zK q0):=zQK h.fq h.qb
theorem GPure.pair {G:GG} (h:GPure G):Pair G.st G.q0:=⟨h.same,h.cl,h.nice⟩
theorem Pair.ends {st:RS} {q0:QS} (h:Pair st q0):(zW st).ends.length=(zG (zK q0).vars).length:=by rw [zCR h.same h.nice,zCV]
theorem zFH {lo b:Nat} {w:World} {F:zv} (h:RefAt lo w b F):∃ a c,w.cell? ⟨b,2,none⟩=some (.slice a F.ends.length c)∧b < w.heap.size:=by
 obtain ⟨_,vO,vE,vC,h2,h3,h4,h5⟩:=h;obtain ⟨a,c,rfl⟩:=zN h4;exact ⟨a,c,by rw [zC h2];rfl,zB h2⟩
theorem zEm {lo b k:Nat} {st:RS} {q0:QS} {w:World} (hP:Pair st q0) (hF:RefAt lo w b (zW st)) (hk:k < (zG (zK q0).vars).length) :
  Calls Tryz.prog 38 #[.pointer (some ⟨b,0,none⟩),.int .i64 k] w fun e w'=>∃ v,e=.returned v∧zHF w' v (zG (zK q0).vars)[k]∧Below w.heap.size w w'∧zKN w b v:=by
 have he:=hP.ends;have hv8:=zCp hP.nice;have hol:(zW st).order.length=(zK q0).vars.length:=(by rw [zDv hP.same,List.length_map]);have hk':k < (zBR (zK q0).vars).length:=(by rw [← zCV];exact hk);have hpos:0 < (zK q0).vars.length:=by
  have:=zGt (zK q0).vars;omega
 have hel:=zGt (zK q0).vars;rw [← zIo hP.same hP.nice k hk];refine zJa lo b k (zW st) w hF (by omega) ?_ ?_ (by omega) (by omega) (by rw [zCR hP.same hP.nice];omega)
 ·unfold zD3;rw [zCR hP.same hP.nice];exact zLd _ k hk'
 ·rw [zCR hP.same hP.nice,hol];exact zQY _ k hk'
theorem zHj {Z:Nat→Prop} {w:World} {b vb gO n c:Nat} {F:zv} {cs:Array Value} (h:Firm Z (fun w=>RefAt 0 w b F) w) (hv:¬ Z vb) (hvb:w.heap[vb]?=some (.cells cs 3 (0,0))) (h0:w.cell? ⟨b,0,none⟩=some (.slice (some ⟨gO,0,none⟩) n c)) (hpos:0 < F.order.length):gO≠vb:=by
 intro e;subst e;have hR':=h (·=gO) _ ((Only.refl (·=gO) w).setAt 0 (.bool true)) (fun k hk e=>hv (e ▸ hk));obtain ⟨_,vO,vE,vC,h2,h3,_⟩:=h.now;obtain ⟨_,vO',vE',vC',h2',h3',_⟩:=hR';have hne:b≠gO:=fun e=>by rw [e] at h2;exact absurd (zc h2 hvb) (by decide)
 rw [Below.heap_setCell _ _ _ _ hne,h2] at h2';have hvO:vO=.slice (some ⟨gO,0,none⟩) n c:=by
  rw [zC h2] at h0;injection h0
 have hvO':vO'=vO:=by
  injection h2' with h2';injection h2' with h2' _ _
  have:=congrArg (fun a=>a[0]?) h2'
  simpa using this.symm
 rw [hvO',hvO] at h3';rw [hvO] at h3;obtain ⟨g1,c1,e1,_,_,_,hc1⟩:=zS h3 hpos;obtain ⟨g2,c2,e2,_,_,_,hc2⟩:=zS h3' hpos;injection e1 with e1 _ _;injection e1 with e1;injection e1 with e1;injection e2 with e2 _ _;injection e2 with e2;injection e2 with e2;subst e1 e2;have a1:=hc1 0 _ (show (zu F.order)[0]?=some (.int .i64 (F.order[0]:Int)) by simp [zu,hpos]);have a2:=hc2 0 _ (show (zu F.order)[0]?=some (.int .i64 (F.order[0]:Int)) by simp [zu,hpos]);have hs:=zI hvb 0 (.bool true);rw [zC hvb] at a1;rw [zC hs] at a2;have hsz:0 < cs.size:=(Array.getElem?_eq_some_iff.1 a1).1;rw [Array.getElem?_setIfInBounds_self_of_lt hsz] at a2
 cases a2
theorem zO6 {st:RS} {q0:QS} (hP:Pair st q0) {b:List Nat} (hb:b∈zG (zK q0).vars) (kind:Nat) (hk:kind=1∨kind=2) (v:Nat) (hv:b.head?=some v):((zW st).all.testBit v == (kind == 2))=!zBq (zK q0) kind b:=by
 have hvb:v∈b:=List.mem_of_mem_head? (by rw [hv];simp);have hm:v∈(zG (zK q0).vars).flatten:=List.mem_flatten.2 ⟨b,hb,hvb⟩;rw [zAA] at hm;obtain ⟨x,hx,rfl⟩:=List.mem_map.1 hm;have h:=zK9 hP.qg hk hb hx hvb;rw [← h,zIm hP.same hP.nice x hx];rfl
theorem zIF {lo b k:Nat} {st:RS} {q0:QS} {w:World} (hP:Pair st q0) (hF:RefAt lo w b (zW st)) (hk:k < (zG (zK q0).vars).length) (kind:Nat) (hkd:kind=1∨kind=2) :
  Calls Tryz.prog 84 #[.pointer (some ⟨b,0,none⟩),.int .i64 k] w fun e w'=>∃ u,e=.returned (.bool u)∧(u == (kind == 2))=!zBq (zK q0) kind (zG (zK q0).vars)[k]∧Below w.heap.size w w':=by
 have hb:=List.getElem_mem hk;obtain ⟨hne,_⟩:=zB6 (zK q0).vars _ hb;have HU:Hid (∀ v,(zG (zK q0).vars)[k].head?=some v→((zW st).all.testBit v == (kind == 2))=!zBq (zK q0) kind (zG (zK q0).vars)[k]):=zF (fun v hv=>zO6 hP hb kind hkd v hv);have h9:(zW st).all < 512:=hP.fw.all;have hvr:∀ v∈(zG (zK q0).vars)[k],v≤8:=fun v hv=>((zE0 hP.qb 1).row ((zG (zK q0).vars)[k],_) (List.mem_map.2 ⟨_,hb,rfl⟩)).2 v hv |>.2
 go_enter Tryz.func84,Tryz.ntmps84
 go_wp2_with fail;refine (zEm hP hF hk).mono ?_;rintro e w1 ⟨v,rfl,hI,hb1,_⟩;have hF1:=hF.later hb1;have h1:w1.cell? ⟨b,1,none⟩=some (.int .i64 ((zW st).all:Int)):=by
  obtain ⟨_,vO,vE,vC,h2,_⟩:=hF1;rw [zC h2];rfl
 have lb:=zAm h1;have HW:Hid (∀ u,(u == (kind == 2))=!zBq (zK q0) kind (zG (zK q0).vars)[k]→∀ e w',e=Ending.returned (.bool u)→Below w.heap.size w w'→∃ u,e=.returned (.bool u)∧(u == (kind == 2))=!zBq (zK q0) kind (zG (zK q0).vars)[k]∧Below w.heap.size w w'):=zF (fun u hu e w' he hb=>⟨u,he,hu,hb⟩);obtain ⟨row,hrow⟩:∃ row,(zG (zK q0).vars)[k]=row:=⟨_,rfl⟩;rw [hrow] at hI hvr hne;have HRO:=zF hrow;clear hrow
 cases row with
 | nil=>exact absurd rfl hne
 | cons v r=>
  obtain ⟨ao,cap,rfl,hI2⟩:=hI;obtain ⟨g,off,rfl,hc⟩:=hI2 0 (by simp);have hc0:w1.cell? ⟨g,off,none⟩=some (.int .i64 (v:Int)):=hc;have lg:=zAm hc0;have hv8:=hvr v (by simp);clear hI2 hc;go_wp2_with fail;refine (zDW b (zW st).all v _ h9 hv8 h1).mono ?_;rintro e w2 ⟨rfl,hw2⟩;subst hw2;go_wp2_with fail;go_ret;exact zA HW _ (zA HU v (by rw [zA HRO];rfl)) _ _ rfl hb1
def zEw (q:QS) (kind:Nat):Nat→Nat→Nat
 | 0,k=>k
 | m + 1,k=>if zBq q kind ((zG q.vars).getD k []) then zEw q kind m (k + 1) else k
def zFw (q:QS) (kind k:Nat):Nat:=zEw q kind ((zG q.vars).length - k) k
theorem zPm (q:QS) (kind:Nat):∀ (m k t:Nat),k + m=(zG q.vars).length→k≤t→t≤(zG q.vars).length→(∀ j (hj:j < (zG q.vars).length),k≤j→j < t→zBq q kind (zG q.vars)[j]=true)→(∀ h:t < (zG q.vars).length,zBq q kind (zG q.vars)[t]=false)→zEw q kind m k=t:=by
 intro m
 induction m with
 | zero=>intro k t h1 h2 h3 _ _;show k=t;omega
 | succ m ih=>
  intro k t h1 h2 h3 h4 h5;have hk:k < (zG q.vars).length:=(by omega);have hg:(zG q.vars).getD k []=(zG q.vars)[k]:=(by simp [List.getD,hk]);rw [zEw,hg]
  by_cases e:k=t
  ·subst e;rw [h5 hk];rfl
  ·rw [h4 k hk (Nat.le_refl _) (by omega),if_pos rfl];exact ih (k + 1) t (by omega) (by omega) h3 (fun j hj a b=>h4 j hj (by omega) b) h5
theorem zL0 (q:QS) (kind k t:Nat) (h1:k≤t) (h2:t≤(zG q.vars).length) (h3:∀ j (hj:j < (zG q.vars).length),k≤j→j < t→zBq q kind (zG q.vars)[j]=true) (h4:∀ h:t < (zG q.vars).length,zBq q kind (zG q.vars)[t]=false):zFw q kind k=t:=
 zPm q kind _ k t (by omega) h1 h2 h3 h4
theorem zLB {gb b2 kind k:Nat} {st:RS} {q0:QS} {w:World} {cells:Array Value} (hP:Pair st q0) (hg:w.heap[gb]?=some (.cells cells 87 (0,0))) (hg2:cells[2]?=some (.pointer (some ⟨b2,0,none⟩))) (hg4:cells[4]?=some (.int .i64 (kind:Int))) (hF:RefAt 0 w b2 (zW st)) (hkd:kind=1∨kind=2) (hk:k≤(zG (zK q0).vars).length) :
  Calls Tryz.prog 54 #[.pointer (some ⟨gb,0,none⟩),.int .i64 k] w fun e w'=>e=.returned (.int .i64 (zFw (zK q0) kind k:Nat))∧Below w.heap.size w w':=by
 have lg:=zB hg;have c2:w.cell? ⟨gb,2,none⟩=some (.pointer (some ⟨b2,0,none⟩)):=(by rw [zC hg];exact hg2);obtain ⟨aE,cE,hE,lb⟩:=zFH hF;rw [hP.ends] at hE;have hn8:=zDR (zK q0).vars (zCp hP.nice)
 go_enter Tryz.func54,Tryz.ntmps54
 go_wp2_with fail
 go_loopg [1] ((zG (zK q0).vars).length - k) (fun m i wx=>∃ (j:Nat),i=.int .i64 j∧j + m=(zG (zK q0).vars).length∧zFw (zK q0) kind k=zEw (zK q0) kind m j∧Below w.heap.size w wx)
 case atStart=>exact ⟨k,rfl,by omega,rfl,Below.refl _ _⟩
 case round=>
  obtain ⟨j,rfl,hjm,hnx,hb⟩:=hrel;have HNX:=zF hnx;clear hnx;have hgr:=(hb.block _ lg).trans hg;have d2:wr.cell? ⟨gb,2,none⟩=some (.pointer (some ⟨b2,0,none⟩)):=(by rw [zC hgr];exact hg2);have d4:wr.cell? ⟨gb,4,none⟩=some (.int .i64 (kind:Int)):=(by rw [zC hgr];exact hg4);have lgr:=zB hgr
  by_cases hlt:j < (zG (zK q0).vars).length
  ·obtain ⟨m,rfl⟩:∃ m,gk=m + 1:=⟨gk - 1,by omega⟩;have hgd:(zG (zK q0).vars).getD j []=(zG (zK q0).vars)[j]:=(by simp [List.getD,hlt]);have HST:Hid (zEw (zK q0) kind (m + 1) j=if zBq (zK q0) kind (zG (zK q0).vars)[j] then zEw (zK q0) kind m (j + 1) else j):=zF (by rw [zEw,hgd]);clear hgd;go_wp2_with fail;refine (zIF hP (hF.later hb) hlt kind hkd).mono ?_;rintro e w1 ⟨u,rfl,hu,hb1⟩;have hB1:=hb.trans (hb1.mono hb.size);have hg1:=(hb1.block _ lgr).trans hgr;have e4:w1.cell? ⟨gb,4,none⟩=some (.int .i64 (kind:Int)):=(by rw [zC hg1];exact hg4);have lg1:=zB hg1
   cases hw:zBq (zK q0) kind (zG (zK q0).vars)[j] with
   | true=>
    have HF2:Hid (zFw (zK q0) kind k=zEw (zK q0) kind m (j + 1)):=zF (by rw [zA HNX,zA HST,hw];rfl);rw [hw] at hu
    rcases hkd with rfl | rfl<;>cases u<;>simp at hu
    all_goals
     go_wp2_with fail
     go_roundg m
     case measure=>omega
     case rel=>exact ⟨j + 1,by go_num,by omega,zA HF2,hB1⟩
   | false=>
    have HF2:Hid (zFw (zK q0) kind k=j):=zF (by rw [zA HNX,zA HST,hw];rfl);rw [hw] at hu
    rcases hkd with rfl | rfl<;>cases u<;>simp at hu
    all_goals
     go_wp2_with fail;go_ret;exact ⟨by rw [zA HF2];rfl,hB1⟩
  ·have hj:j=(zG (zK q0).vars).length:=(by omega);have hm0:gk=0:=(by omega);have HF2:Hid (zFw (zK q0) kind k=(zG (zK q0).vars).length):=zF (by rw [zA HNX,hm0];exact hj);clear hm0;subst hj;go_wp2_with fail;go_ret;exact ⟨by rw [zA HF2];rfl,hb⟩
end Go.Proofs.YtgipjjhkhfihpaaGreatDoor
