import Derived.Test.YtgipjjhkhfihpaaGreatDoorDS
import Derived.Test.YtgipjjhkhfihpaaGreatDoorDM
import Derived.Test.YtgipjjhkhfihpaaGreatDoorDF
import Derived.Test.YtgipjjhkhfihpaaGreatDoorDP
import Derived.Deep.QuietTactic
import Derived.BigQuiet
import Derived.Test.YtgipjjhkhfihpaaGreatDoorDO
namespace Go.Proofs.YtgipjjhkhfihpaaGreatDoor
open Go.RowKit

/-! ### Lists that were handed out, in memory -/
def listTypes : List TypeId := [3, 25, 45]
theorem own_blk {w : World} {base : Nat} {e : TypeId} {size : Nat} {v : Value} {n : Nat} {xs : List Value} (h : w.ownsRow base e size v n xs) {k : Nat} (hk : v.ownBlock = some k) : ∃ cur, w.heap[k]? = some (.cells cur e (0, 0)) := by
  rcases h.2 with ⟨rfl, _⟩ | ⟨g, cap, cur, rfl, _, hh, _⟩
  · simp [Value.ownBlock] at hk
  · simp [Value.ownBlock] at hk
    subst hk
    exact ⟨cur, hh⟩
theorem types_ne {w : World} {k : Nat} {c1 c2 : Array Value} {t1 t2 : TypeId} {f1 f2 : Nat × Nat} (h1 : w.heap[k]? = some (.cells c1 t1 f1)) (h2 : w.heap[k]? = some (.cells c2 t2 f2)) : t1 = t2 := by
  rw [h1] at h2; simp at h2; exact h2.2.1
theorem ls_keep {w w' : World} {T : Nat → Prop} {hdrs : List Value} (h : LsAt w hdrs) (ho : Only T w w') (hT : ∀ i (hi : i < hdrs.length) g cs, hdrs[i].ownBlock = some g → w.heap[g]? = some (.cells cs 3 (0, 0)) → ¬ T g) : LsAt w' hdrs := by
  intro i hi
  obtain ⟨g, n, h1, h2, h3⟩ := h i hi
  refine ⟨g, n, h1, h2, ?_⟩
  rw [ho.block g (blk_lt h3) (hT i hi g _ (by rw [h1]; rfl) h3)]
  exact h3
theorem LsAt.only {w w' : World} {T : Nat → Prop} {hdrs : List Value} (h : LsAt w hdrs) (ho : Only T w w') (hT : ∀ k, k < w.heap.size → T k → Foreign 0 w [3] k) : LsAt w' hdrs := by
  refine ls_keep h ho fun i hi g cs h1 h2 ht => ?_
  rcases hT g (blk_lt h2) ht with h | ⟨c, t, fr, h4, h5⟩
  · omega
  · exact h5 (by rw [types_ne h4 h2]; simp)
theorem LsAt.later {w w' : World} {hdrs : List Value} (h : LsAt w hdrs) (hb : Below w.heap.size w w') : LsAt w' hdrs :=
  h.only (T := fun _ => False) (Only.of_below hb) (fun _ _ h => h.elim)
theorem lss_keep {w w' : World} {T : Nat → Prop} {hdrs : List Value} (h : LssAt w hdrs) (ho : Only T w w') (hT : ∀ i (hi : i < hdrs.length) g cs, hdrs[i].ownBlock = some g → w.heap[g]? = some (.cells cs 25 (0, 0)) → ¬ T g) (hI : ∀ k, k < w.heap.size → T k → Foreign 0 w [3] k) : LssAt w' hdrs := by
  intro i hi
  rcases h i hi with h0 | ⟨h', n, cs, h1, h2, h3, h4⟩
  · exact Or.inl h0
  · refine Or.inr ⟨h', n, cs, h1, h2, ?_, fun k hk => ?_⟩
    · rw [ho.block h' (blk_lt h3) (hT i hi h' _ (by rw [h1]; rfl) h3)]
      exact h3
    · obtain ⟨x, h5, h6⟩ := h4 k hk
      exact ⟨x, h5, blk_only h6 (Nat.zero_le _) ho (by simp) hI⟩
theorem LssAt.later {w w' : World} {hdrs : List Value} (h : LssAt w hdrs) (hb : Below w.heap.size w w') : LssAt w' hdrs :=
  lss_keep h (T := fun _ => False) (Only.of_below hb) (fun _ _ _ _ _ _ h => h.elim) (fun _ _ h => h.elim)

/-- All lists of the law's world. -/
structure ListsAt (bw : Nat) (w : World) (v5 v6 : Value) (h5s h6s : List Value) : Prop where
  o5 : w.ownsRow (bw + 1) 25 1 v5 h5s.length h5s
  o6 : w.ownsRow (bw + 1) 45 1 v6 h6s.length h6s
  ls : LsAt w h5s
  lss : LssAt w h6s
  ap : ∀ i (hi : i < h6s.length), apart v5 h6s[i]
theorem ListsAt.only {bw : Nat} {w w' : World} {v5 v6 : Value} {h5s h6s : List Value} {T : Nat → Prop} (h : ListsAt bw w v5 v6 h5s h6s) (ho : Only T w w') (hT : ∀ k, k < w.heap.size → T k → Foreign 0 w listTypes k) : ListsAt bw w' v5 v6 h5s h6s := by
  have hw : ∀ (b : Nat) (ts : List TypeId), (∀ t, t ∈ ts → t ∈ listTypes) → ∀ k, k < w.heap.size → T k → Foreign b w ts k := fun b ts hts k hk ht => by
    rcases hT k hk ht with h | ⟨c, t, fr, h4, h5⟩
    · omega
    · exact Or.inr ⟨c, t, fr, h4, fun h => h5 (hts t h)⟩
  have hin : ∀ t, t ∈ [3] → t ∈ listTypes := by decide
  refine ⟨own_only h.o5 ho (ts := [25]) (by simp) (hw _ _ (by decide)), own_only h.o6 ho (ts := [45]) (by simp) (hw _ _ (by decide)), h.ls.only ho (hw _ _ hin), lss_keep h.lss ho ?_ (hw _ _ hin), h.ap⟩
  intro i hi g cs h1 h2 ht
  rcases hw 0 [25] (by decide) g (blk_lt h2) ht with h | ⟨c, t, fr, h4, h5⟩
  · omega
  · exact h5 (by rw [types_ne h4 h2]; simp)
theorem ListsAt.later {bw : Nat} {w w' : World} {v5 v6 : Value} {h5s h6s : List Value} (h : ListsAt bw w v5 v6 h5s h6s) (hb : Below w.heap.size w w') : ListsAt bw w' v5 v6 h5s h6s :=
  h.only (T := fun _ => False) (Only.of_below hb) (fun _ _ h => h.elim)
theorem world_foreign {bw : Nat} {w : World} {text : List UInt8} {px pf : Option Addr} {proof : List UInt8} {c4 c5 c6 : Value} (h : WAt w bw text px pf proof c4 c5 c6) (ts : List TypeId) (hts : 48 ∉ ts) (b : Nat) : ∀ k, k < w.heap.size → k = bw → Foreign b w ts k :=
  fun k _ e => by subst e; exact Or.inr ⟨_, _, _, h, hts⟩

/-- What holds while the rows of one answer are marked: k of them are. -/
structure Marking (bw h : Nat) (w0 : World) (v5 : Value) (text : List UInt8) (px pf : Option Addr) (proof : List UInt8) (c4 v6 : Value) (hdrs : List Value) (cur : Array Value) (k : Nat) (v5x : Value) (h5x : List Value) (wx : World) : Prop where
  at_ : WAt wx bw text px pf proof c4 v5x v6
  only : Only (fun j => j = bw ∨ v5.ownBlock = some j) w0 wx
  o5 : wx.ownsRow (bw + 1) 25 1 v5x h5x.length h5x
  ls : LsAt wx h5x
  old : v5x.ownBlock = v5.ownBlock ∨ ∃ j, v5x.ownBlock = some j ∧ w0.heap.size ≤ j
  noth : v5x.ownBlock ≠ some h
  row : wx.heap[h]? = some (.cells cur 25 (0, 0))
  fresh : ∀ j, k ≤ j → (hj : j < hdrs.length) → ∃ g n cap cu, hdrs[j] = .slice (some ⟨g, 0, none⟩) n cap ∧ w0.heap.size ≤ g ∧ wx.heap[g]? = some (.cells cu 3 (0, 0)) ∧ cu.size = cap ∧ n ≤ cap ∧ cap ≤ maxLen
  sep : ∀ i (hi : i < h5x.length) j, k ≤ j → (hj : j < hdrs.length) → apart h5x[i] hdrs[j]

theorem Marking.start {bw h base : Nat} {w0 wx : World} {v5 v6 : Value} {h5s h6s : List Value} {text : List UInt8} {px pf : Option Addr} {proof : List UInt8} {c4 : Value} {hdrs : List Value} {cur : Array Value} {bs : List (List Nat)} (hw : WAt w0 bw text px pf proof c4 v5 v6) (hL : ListsAt bw w0 v5 v6 h5s h6s) (hb : Below w0.heap.size w0 wx)
    (hbase : w0.heap.size = base) (hh : base ≤ h) (hrow : wx.heap[h]? = some (.cells cur 25 (0, 0))) (hR : RowsAt base wx bs hdrs) : Marking bw h w0 v5 text px pf proof c4 v6 hdrs cur 0 v5 h5s wx := by
  subst hbase
  have h5lt := hL.o5.lt
  refine ⟨hw.later hb, Only.of_below hb, own_below hL.o5 hb, hL.ls.later hb, Or.inl rfl, fun e => ?_, hrow, fun j _ hj => ?_, fun i hi j _ hj k h1 h2 => ?_⟩
  · have := (h5lt h e).2; omega
  · have hl := hR.len
    obtain ⟨hr, hne⟩ := hR.row j (by omega)
    rcases hr.2 with ⟨_, h0⟩ | ⟨g, cap, cu, h1, h2, h3, h4, h5, h6, _⟩
    · exact absurd (List.length_eq_zero_iff.1 h0) hne
    · exact ⟨g, _, cap, cu, h1, h2, h3, by simpa using h6, h4, h5⟩
  · obtain ⟨g, n, e1, _, e2⟩ := hL.ls i hi
    have hl := hR.len
    have := ((hR.row j (by omega)).1.lt k h2).1
    rw [e1] at h1
    simp [Value.ownBlock] at h1
    subst h1
    have := blk_lt e2
    omega

theorem Marking.mine {bw h g n cap k : Nat} {w0 wx w' : World} {v5 v6 v5x : Value} {h5x : List Value} {text : List UInt8} {px pf : Option Addr} {proof : List UInt8} {c4 : Value} {hdrs : List Value} {cur : Array Value} {e : Ending} (hM : Marking bw h w0 v5 text px pf proof c4 v6 hdrs cur k v5x h5x wx)
    (_hhw : w0.heap.size ≤ h) (hk : k < hdrs.length) (hkg : hdrs[k] = .slice (some ⟨g, 0, none⟩) n cap) (hg0 : w0.heap.size ≤ g) (hgt : ∃ cu, wx.heap[g]? = some (.cells cu 3 (0, 0))) (hcm : cap ≤ maxLen) (hapart : ∀ i j (hi : i < hdrs.length) (hj : j < hdrs.length), i ≠ j → apart hdrs[i] hdrs[j])
    (hP : MinePost bw g cap h5x.length h5x v5x text px pf proof c4 v6 wx e w') : ∃ v5', Marking bw h w0 v5 text px pf proof c4 v6 hdrs cur (k + 1) v5' (h5x ++ [.slice (some ⟨g, 0, none⟩) cap cap]) w' := by
  obtain ⟨v5', hw', ho', hat⟩ := hP.at_
  obtain ⟨cug, hcug⟩ := hgt
  have hwt := hM.at_
  unfold WAt at hwt
  have hv5t : ∀ j, v5x.ownBlock = some j → ∃ cur, wx.heap[j]? = some (.cells cur 25 (0, 0)) := fun j hj => own_blk hM.o5 hj
  have hgown : (Value.slice (some ⟨g, 0, none⟩) cap cap).ownBlock = some g := rfl
  have hgown' : hdrs[k].ownBlock = some g := by rw [hkg]; rfl
  have hnT : ∀ x cs, wx.heap[x]? = some (.cells cs 3 (0, 0)) → x ≠ g → ¬ (x = bw ∨ x = g ∨ v5x.ownBlock = some x) := by
    intro x cs hx hne ht
    rcases ht with rfl | h | h
    · exact absurd (types_ne hwt hx) (by decide)
    · exact hne h
    · obtain ⟨c, hc⟩ := hv5t x h
      exact absurd (types_ne hc hx) (by decide)
  have hls : LsAt w' h5x := ls_keep hM.ls hP.only fun i hi x cs h1 h2 => hnT x cs h2 (fun e => hM.sep i hi k (Nat.le_refl _) hk x h1 (by rw [hgown', e]))
  refine ⟨v5', hw', ?_, by simpa using ho', ?_, ?_, ?_, ?_, ?_, ?_⟩
  · have h1 : Only (fun j => j = bw ∨ v5.ownBlock = some j) wx w' → Only (fun j => j = bw ∨ v5.ownBlock = some j) w0 w' := fun h => hM.only.trans h
    refine ⟨hP.only.os.trans hM.only.os, hP.only.tape.trans hM.only.tape, hP.only.output.trans hM.only.output, Nat.le_trans hM.only.size hP.only.size, fun j hj ht => ?_⟩
    rw [hP.only.block j (Nat.lt_of_lt_of_le hj hM.only.size) (fun h => ?_), hM.only.block j hj ht]
    rcases h with h | h | h
    · exact ht (Or.inl h)
    · omega
    · rcases hM.old with h2 | ⟨x, h2, h3⟩
      · exact ht (Or.inr (by rw [← h2]; exact h))
      · rw [h2] at h; simp at h; omega
  · intro i hi
    by_cases hil : i < h5x.length
    · obtain ⟨g', n', h1, h2, h3⟩ := hls i hil
      exact ⟨g', n', by rw [List.getElem_append_left hil]; exact h1, h2, h3⟩
    · have hie : i = h5x.length := by simp at hi; omega
      subst hie
      exact ⟨g, cap, by simp, hcm, hP.row⟩
  · rcases hat with h1 | ⟨x, h1, h2⟩
    · rw [h1]; exact hM.old
    · exact Or.inr ⟨x, h1, Nat.le_trans hM.only.size h2⟩
  · rcases hat with h1 | ⟨x, h1, h2⟩
    · rw [h1]; exact hM.noth
    · rw [h1]
      intro e
      simp at e
      have := blk_lt hM.row
      omega
  · rw [hP.only.block h (blk_lt hM.row) (fun ht => ?_)]
    · exact hM.row
    · rcases ht with rfl | rfl | ht
      · exact absurd (types_ne hwt hM.row) (by decide)
      · exact absurd (types_ne hcug hM.row) (by decide)
      · exact hM.noth ht
  · intro j hkj hj
    obtain ⟨g2, n2, cap2, cu2, h1, h2, h3, h4⟩ := hM.fresh j (by omega) hj
    refine ⟨g2, n2, cap2, cu2, h1, h2, ?_, h4⟩
    have hne : g2 ≠ g := fun e => hapart k j hk hj (by omega) g hgown' (by rw [h1, ← e]; rfl)
    rw [hP.only.block g2 (blk_lt h3) (hnT g2 cu2 h3 hne)]
    exact h3
  · intro i hi j hkj hj
    by_cases hil : i < h5x.length
    · rw [List.getElem_append_left hil]; exact hM.sep i hil j (by omega) hj
    · have hie : i = h5x.length := by simp at hi; omega
      subst hie
      intro x hx
      have hx' : x = g := by simp [Value.ownBlock] at hx; exact hx.symm
      subst hx'
      exact hapart k j hk hj (by omega) x hgown'

/-- While the headers of one answer are marked: i of them are. -/
structure Heading (bw h cap n6 : Nat) (w0 : World) (v5 : Value) (text : List UInt8) (px pf : Option Addr) (proof : List UInt8) (c4 v6 : Value) (i : Nat) (v5x : Value) (h5x : List Value) (wx : World) : Prop where
  at_ : WAt wx bw text px pf proof c4 v5x v6
  only : Only (fun j => j = bw ∨ v5.ownBlock = some j) w0 wx
  o5 : wx.ownsRow (bw + 1) 25 1 v5x h5x.length h5x
  ls : LsAt wx h5x
  old : v5x.ownBlock = v5.ownBlock ∨ ∃ j, v5x.ownBlock = some j ∧ w0.heap.size ≤ j
  noth : v5x.ownBlock ≠ some h
  row : ∃ cs, wx.heap[h]? = some (.cells cs 25 (0, 0)) ∧ cs.size = cap ∧ ∀ j, j < i → ∃ x, cs[j]? = some (.slice (some ⟨x, 0, none⟩) 2 2) ∧ wx.heap[x]? = some (.cells #[.int .i64 (n6 : Int), .int .i64 (j : Int)] 3 (0, 0)) ∧ w0.heap.size ≤ x
theorem Heading.start {bw h cap n6 k : Nat} {w0 wx : World} {v5 v6 v5x : Value} {h5x : List Value} {text : List UInt8} {px pf : Option Addr} {proof : List UInt8} {c4 : Value} {hdrs : List Value} {cur : Array Value} (hM : Marking bw h w0 v5 text px pf proof c4 v6 hdrs cur k v5x h5x wx) (hc : cur.size = cap) : Heading bw h cap n6 w0 v5 text px pf proof c4 v6 0 v5x h5x wx :=
  ⟨hM.at_, hM.only, hM.o5, hM.ls, hM.old, hM.noth, cur, hM.row, hc, fun j hj => by omega⟩
theorem Heading.later {bw h cap n6 i : Nat} {w0 wx w' : World} {v5 v6 v5x : Value} {h5x : List Value} {text : List UInt8} {px pf : Option Addr} {proof : List UInt8} {c4 : Value} (hM : Heading bw h cap n6 w0 v5 text px pf proof c4 v6 i v5x h5x wx) (hb : Below wx.heap.size wx w') : Heading bw h cap n6 w0 v5 text px pf proof c4 v6 i v5x h5x w' := by
  obtain ⟨cs, h1, h2, h3⟩ := hM.row
  refine ⟨hM.at_.later hb, hM.only.trans (Only.of_below hb), own_below hM.o5 hb, hM.ls.later hb, hM.old, hM.noth, cs, (hb.block h (blk_lt h1)).trans h1, h2, fun j hj => ?_⟩
  obtain ⟨x, h4, h5, h6⟩ := h3 j hj
  exact ⟨x, h4, (hb.block x (blk_lt h5)).trans h5, h6⟩
theorem Heading.set {bw h cap n6 i x : Nat} {w0 wx : World} {v5 v6 v5x : Value} {h5x : List Value} {text : List UInt8} {px pf : Option Addr} {proof : List UInt8} {c4 : Value} (hM : Heading bw h cap n6 w0 v5 text px pf proof c4 v6 i v5x h5x wx) (hhw : w0.heap.size ≤ h) (hi : i < cap)
    (hx : wx.heap[x]? = some (.cells #[.int .i64 (n6 : Int), .int .i64 (i : Int)] 3 (0, 0))) (hx0 : w0.heap.size ≤ x) : Heading bw h cap n6 w0 v5 text px pf proof c4 v6 (i + 1) v5x h5x (wx.setCell ⟨h, i, none⟩ (.slice (some ⟨x, 0, none⟩) 2 2)) := by
  obtain ⟨cs, h1, h2, h3⟩ := hM.row
  have hwt := hM.at_
  unfold WAt at hwt
  have ho : Only (· = h) wx (wx.setCell ⟨h, i, none⟩ (.slice (some ⟨x, 0, none⟩) 2 2)) := (Only.refl _ _).setAt _ _
  have hint : ∀ (y : Nat) (c : Array Value), wx.heap[y]? = some (.cells c 3 (0, 0)) → (wx.setCell ⟨h, i, none⟩ (.slice (some ⟨x, 0, none⟩) 2 2)).heap[y]? = some (.cells c 3 (0, 0)) := fun y c hy => by
    rw [ho.block y (blk_lt hy) (fun e => by subst e; exact absurd (types_ne hy h1) (by decide))]; exact hy
  refine ⟨(ho.block bw (blk_lt hwt) (fun e => by subst e; exact absurd (types_ne hwt h1) (by decide))).trans hwt, hM.only.setCell (p := ⟨h, i, none⟩) (Or.inr hhw) _, ?_, ?_, hM.old, hM.noth, _, blk_set h1 i _, by simpa using h2, ?_⟩
  · exact hM.o5.kept (row := some h) ⟨ho.os, ho.tape, ho.output, ho.size, fun j hj hne => ho.block j hj (fun e => hne (by rw [e]))⟩ (Or.inr hM.noth)
  · refine ls_keep hM.ls ho fun j hj g c hg hc e => ?_
    subst e
    exact absurd (types_ne hc h1) (by decide)
  · intro j hj
    by_cases hji : j = i
    · subst hji
      exact ⟨x, by simp [h2, hi], hint _ _ hx, hx0⟩
    · obtain ⟨y, h4, h5, h6⟩ := h3 j (by omega)
      exact ⟨y, by rw [Array.getElem?_setIfInBounds_ne (by omega)]; exact h4, hint _ _ h5, h6⟩
/-- A header whose block, and whose headers' blocks, are new. -/
def NewLss (n : Nat) (w : World) (x : Value) : Prop := x = .slice none 0 0 ∨ ∃ h cap cs, x = .slice (some ⟨h, 0, none⟩) cap cap ∧ n ≤ h ∧ w.heap[h]? = some (.cells cs 25 (0, 0)) ∧ ∀ k, k < cap → ∃ y, cs[k]? = some (.slice (some ⟨y, 0, none⟩) 2 2) ∧ n ≤ y ∧ ∃ c, w.heap[y]? = some (.cells c 3 (0, 0))
/-- What is left behind the last append. -/
theorem Heading.done {bw h cap : Nat} {w0 wx w4 : World} {v5 v6 v5x v6' : Value} {h5s h6s h5x : List Value} {text : List UInt8} {px pf : Option Addr} {proof : List UInt8} {c4 : Value} (hL : ListsAt bw w0 v5 v6 h5s h6s) (hw0 : WAt w0 bw text px pf proof c4 v5 v6) (hcm : cap ≤ maxLen) (hM : Heading bw h cap h6s.length w0 v5 text px pf proof c4 v6 cap v5x h5x wx)
    (hg : wx.grownBy w4 v6.ownBlock) (ho6 : w4.ownsRow (bw + 1) 45 1 v6' (h6s.length + 1) (h6s ++ [.slice (some ⟨h, 0, none⟩) cap cap])) (hhw : w0.heap.size ≤ h) :
    WAt (w4.setCell ⟨bw, 6, none⟩ v6') bw text px pf proof c4 v5x v6' ∧ ListsAt bw (w4.setCell ⟨bw, 6, none⟩ v6') v5x v6' h5x (h6s ++ [.slice (some ⟨h, 0, none⟩) cap cap]) ∧ Only (fun j => j = bw ∨ v5.ownBlock = some j ∨ v6.ownBlock = some j) w0 (w4.setCell ⟨bw, 6, none⟩ v6') ∧ NewLss w0.heap.size (w4.setCell ⟨bw, 6, none⟩ v6') (.slice (some ⟨h, 0, none⟩) cap cap) := by
  have hwt := hM.at_
  have hwt' := hwt
  unfold WAt at hwt'
  have hw0' := hw0
  unfold WAt at hw0'
  -- the row of lss in the world at hand
  have hT : ∀ k, k < w0.heap.size → (k = bw ∨ v5.ownBlock = some k) → Foreign 0 w0 [3] k := fun k _ ht => by
    rcases ht with rfl | ht
    · exact Or.inr ⟨_, _, _, hw0', by decide⟩
    · obtain ⟨c, hc⟩ := own_blk hL.o5 ht
      exact Or.inr ⟨_, _, _, hc, by decide⟩
  have ho6x : wx.ownsRow (bw + 1) 45 1 v6 h6s.length h6s := own_only (ts := [45]) hL.o6 hM.only (by simp) (fun k _ ht => by
    rcases ht with rfl | ht
    · exact Or.inr ⟨_, _, _, hw0', by decide⟩
    · obtain ⟨c, hc⟩ := own_blk hL.o5 ht
      exact Or.inr ⟨_, _, _, hc, by decide⟩)
  have hlssx : LssAt wx h6s := lss_keep hL.lss hM.only (fun i hi g cs h1 h2 ht => by
    rcases ht with rfl | ht
    · exact absurd (types_ne hw0' h2) (by decide)
    · exact hL.ap i hi g ht h1) hT
  have hapx : ∀ i (hi : i < h6s.length), apart v5x h6s[i] := fun i hi x h1 h2 => by
    rcases hM.old with h3 | ⟨j, h3, h4⟩
    · exact hL.ap i hi x (by rw [← h3]; exact h1) h2
    · rw [h3] at h1
      simp at h1
      subst h1
      rcases hL.lss i hi with h5 | ⟨h', n, cs, h5, _, h6, _⟩
      · rw [h5] at h2; simp [Value.ownBlock] at h2
      · rw [h5] at h2
        simp [Value.ownBlock] at h2
        subst h2
        have := blk_lt h6
        omega
  have ho4 : Only (fun j => v6.ownBlock = some j) wx w4 := ⟨hg.os, hg.tape, hg.output, hg.size, fun k hk ht => hg.block k hk (fun e => ht e.symm)⟩
  have hbw6 : v6.ownBlock ≠ some bw := fun e => by have := (hL.o6.lt _ e).1; omega
  have hw4 : WAt w4 bw text px pf proof c4 v5x v6 := (ho4.block bw (blk_lt hwt') hbw6).trans hwt'
  have hoS : Only (fun j => j = bw ∨ v6.ownBlock = some j) wx (w4.setCell ⟨bw, 6, none⟩ v6') := (ho4.mono (T' := fun j => j = bw ∨ v6.ownBlock = some j) (fun k _ h => Or.inr h)).setCell (p := ⟨bw, 6, none⟩) (Or.inl (Or.inl rfl)) _
  have hTS : ∀ ts : List TypeId, 48 ∉ ts → 45 ∉ ts → ∀ b k, k < wx.heap.size → (k = bw ∨ v6.ownBlock = some k) → Foreign b wx ts k := fun ts h1 h2 b k _ ht => by
    rcases ht with rfl | ht
    · exact Or.inr ⟨_, _, _, hwt', h1⟩
    · obtain ⟨c, hc⟩ := own_blk ho6x ht
      exact Or.inr ⟨_, _, _, hc, h2⟩
  obtain ⟨cs, hr1, hr2, hr3⟩ := hM.row
  refine ⟨blk_set hw4 6 _, ⟨own_only (ts := [25]) hM.o5 hoS (by simp) (hTS _ (by decide) (by decide) _), by simpa using ownsRow_setCell_below ho6 (a := ⟨bw, 6, none⟩) (Nat.lt_succ_self bw) _, hM.ls.only hoS (hTS _ (by decide) (by decide) _), ?_, ?_⟩, ?_, ?_⟩
  · have hold : LssAt (w4.setCell ⟨bw, 6, none⟩ v6') h6s := lss_keep hlssx hoS (fun i hi g c h1 h2 ht => by
      rcases hTS [25] (by decide) (by decide) 0 g (blk_lt h2) ht with h | ⟨c', t, fr, h4, h5⟩
      · omega
      · exact h5 (by rw [types_ne h4 h2]; simp)) (hTS _ (by decide) (by decide) _)
    intro i hi
    by_cases hil : i < h6s.length
    · rw [List.getElem_append_left hil]; exact hold i hil
    · have hie : i = h6s.length := by simp at hi; omega
      subst hie
      rw [List.getElem_concat_length rfl]
      refine Or.inr ⟨h, cap, cs, rfl, hcm, blk_only (ts := [25]) hr1 (Nat.zero_le _) hoS (by simp) (hTS _ (by decide) (by decide) _), fun k hk => ?_⟩
      obtain ⟨x, h4, h5, _⟩ := hr3 k hk
      exact ⟨x, h4, blk_only (ts := [3]) h5 (Nat.zero_le _) hoS (by simp) (hTS _ (by decide) (by decide) _)⟩
  · intro i hi
    by_cases hil : i < h6s.length
    · rw [List.getElem_append_left hil]; exact hapx i hil
    · have hie : i = h6s.length := by simp at hi; omega
      subst hie
      rw [List.getElem_concat_length rfl]
      intro x h1 h2
      simp [Value.ownBlock] at h2
      subst h2
      exact hM.noth h1
  · refine (hM.only.mono (T' := fun j => j = bw ∨ v5.ownBlock = some j ∨ v6.ownBlock = some j) (fun k _ h => h.elim Or.inl (fun h => Or.inr (Or.inl h)))).trans (hoS.mono (fun k _ h => h.elim Or.inl (fun h => Or.inr (Or.inr h))))
  · refine Or.inr ⟨h, cap, cs, rfl, hhw, blk_only (ts := [25]) hr1 (Nat.zero_le _) hoS (by simp) (hTS _ (by decide) (by decide) _), fun k hk => ?_⟩
    obtain ⟨x, h4, h5, h6⟩ := hr3 k hk
    exact ⟨x, h4, h6, _, blk_only (ts := [3]) h5 (Nat.zero_le _) hoS (by simp) (hTS _ (by decide) (by decide) _)⟩
end Go.Proofs.YtgipjjhkhfihpaaGreatDoor

namespace Go.Proofs.YtgipjjhkhfihpaaGreatDoor
open Go.RowKit

/-! ### The formulas are those of the text -/
def FTxt (lo : Nat) (w : World) (text : List UInt8) (px pf : Option Addr) : Prop :=
  (px = none ∧ pf = none) ∨ ∃ b b' st q0, px = some ⟨b, 0, none⟩ ∧ pf = some ⟨b', 0, none⟩ ∧ ProgAt lo w b (qFinish q0) ∧ RefAt lo w b' (finish st) ∧ Same st q0 ∧ (q0.cl.length ≤ 24 ∧ QNice q0) ∧ loadSpec text = .inr (qFinish q0)
theorem FTxt.set {lo bw o : Nat} {w : World} {text : List UInt8} {px pf : Option Addr} {u : Value} (h : FTxt lo w text px pf) (hlt : bw < lo) : FTxt lo (w.setCell ⟨bw, o, none⟩ u) text px pf := by
  rcases h with h | ⟨b, b', st, q0, h1, h2, h3, h4, h5, h6, h7⟩
  · exact Or.inl h
  · exact Or.inr ⟨b, b', st, q0, h1, h2, h3.set hlt, h4.set hlt, h5, h6, h7⟩
theorem FTxt.only {lo : Nat} {w w' : World} {text : List UInt8} {px pf : Option Addr} {T : Nat → Prop} (h : FTxt lo w text px pf) (ho : Only T w w') (hT : ∀ k, k < w.heap.size → T k → Foreign lo w formTypes k) : FTxt lo w' text px pf := by
  rcases h with h | ⟨b, b', st, q0, h1, h2, h3, h4, h5, h6, h7⟩
  · exact Or.inl h
  · exact Or.inr ⟨b, b', st, q0, h1, h2, h3.only ho hT, h4.only ho hT, h5, h6, h7⟩
theorem FTxt.lo {lo lo' : Nat} {w : World} {text : List UInt8} {px pf : Option Addr} (h : FTxt lo w text px pf) (hl : lo' ≤ lo) : FTxt lo' w text px pf := by
  rcases h with h | ⟨b, b', st, q0, h1, h2, h3, h4, h5, h6, h7⟩
  · exact Or.inl h
  · exact Or.inr ⟨b, b', st, q0, h1, h2, h3.lo hl, h4.lo hl, h5, h6, h7⟩
def LoadsPostT (bw : Nat) (text proof : List UInt8) (c4 c5 c6 : Value) (w : World) (e : Ending) (w' : World) : Prop :=
  e = .returned (.bool true) ∧ Only (· = bw) w w' ∧ ∃ px pf, WAt w' bw text px pf proof c4 c5 c6 ∧ FTxt w.heap.size w' text px pf
set_option maxRecDepth 100000 in
set_option maxHeartbeats 1600000 in
theorem loads_txt (bw : Nat) (text : List UInt8) (px pf : Option Addr) (proof : List UInt8) (c4 c5 c6 : Value) (w : World) (hw : WAt w bw text px pf proof c4 c5 c6) :
    Calls Tryz.prog 27 #[.pointer (some ⟨bw, 0, none⟩)] w fun e w' => LoadsPostT bw text proof c4 c5 c6 w e w' := by
  have hbw : bw < w.heap.size := blk_lt hw
  have h0 : w.cell? ⟨bw, 0, none⟩ = some (S text) := by rw [blk_cell hw]; rfl
  go_enter Tryz.func27, Tryz.ntmps27
  go_wp2_with fail
  refine (load_any text w).mono ?_
  rintro e w1 ⟨hb1, hp1⟩
  have hw1 := hw.later hb1
  have h1 : w1.cell? ⟨bw, 0, none⟩ = some (S text) := by rw [blk_cell hw1]; rfl
  have hse := spec_eq text
  cases hq : loadSpec text with
  | inl a =>
    obtain ⟨x, i⟩ := a
    rw [hq] at hp1 hse
    have hp1' : e = .returned (.tuple #[.pointer none, .int .i64 (x : Int), .int .i64 (i : Int)]) := hp1
    subst hp1'
    have HSE : Hid (readSpec text = .inl (x, i)) := hide hse
    clear hse hq hp1
    go_wp2_with fail
    refine (read_all text w1).mono ?_
    rintro e w2 ⟨hb2, hp2⟩
    rw [unhide HSE] at hp2
    have hp2' : e = .returned (.tuple #[.pointer none, .int .i64 (x : Int), .int .i64 (i : Int)]) := hp2
    subst hp2'
    clear hp2
    have hw2 := hw1.later hb2
    have k1 : w2.cell? ⟨bw, 1, none⟩ = some (.pointer px) := by rw [blk_cell hw2]; rfl
    have k2 : w2.cell? ⟨bw, 2, none⟩ = some (.pointer pf) := by rw [blk_cell hw2]; rfl
    have z1 := blk_free hw2 1
    have z2 := blk_free hw2 2
    have hx : ((x : Int) != (x : Int)) = false := by simp
    have hi : ((i : Int) != (i : Int)) = false := by simp
    go_wp2_with fail
    go_ret
    refine ⟨rfl, (((Only.of_below (below_trans hb1 hb2)).setAt _ _).setAt _ _), none, none, ?_, Or.inl ⟨rfl, rfl⟩⟩
    exact blk_set (blk_set hw2 1 _) 2 _
  | inr q =>
    rw [hq] at hp1 hse
    obtain ⟨b, rfl, hP⟩ := hp1
    obtain ⟨st, q0, hse, hsame, rfl, h24⟩ := hse
    have HSE := hide hse
    have HLN := hide hq
    clear hse hq
    go_wp2_with fail
    refine (read_all text w1).mono ?_
    rintro e w2 ⟨hb2, hp2⟩
    rw [unhide HSE] at hp2
    obtain ⟨b', rfl, hR⟩ := hp2
    have hw2 := hw1.later hb2
    have hP2 := hP.later hb2
    have hR2 := hR.lo (lo' := w.heap.size) hb1.size
    have hFP : FTxt w.heap.size w2 text (some ⟨b, 0, none⟩) (some ⟨b', 0, none⟩) := Or.inr ⟨b, b', st, q0, rfl, rfl, hP2, hR2, hsame, h24, unhide HLN⟩
    have k1 : w2.cell? ⟨bw, 1, none⟩ = some (.pointer px) := by rw [blk_cell hw2]; rfl
    have k2 : w2.cell? ⟨bw, 2, none⟩ = some (.pointer pf) := by rw [blk_cell hw2]; rfl
    have z1 := blk_free hw2 1
    have z2 := blk_free hw2 2
    go_wp2_with fail
    go_ret
    refine ⟨rfl, (((((Only.of_below (below_trans hb1 hb2)).setAt _ _).setAt _ _).setAt _ _).setAt _ _), some ⟨b, 0, none⟩, some ⟨b', 0, none⟩, ?_, (((hFP.set hbw).set hbw).set hbw).set hbw⟩
    exact blk_set (blk_set (blk_set (blk_set hw2 1 _) 2 _) 1 _) 2 _
def StepPostT (bw : Nat) (text proof : List UInt8) (px pf : Option Addr) (o : OpV) (c4 c5 c6 : Value) (w : World) (e : Ending) (w' : World) : Prop :=
  e = .returned (.bool true) ∧ Only (· = bw) w w' ∧ ∃ text' px' pf' proof', WAt w' bw text' px' pf' proof' c4 c5 c6 ∧ text'.length ≤ text.length + o.s.length + 1 ∧ proof'.length ≤ proof.length + o.s.length + 1 ∧ ((text' = text ∧ px' = px ∧ pf' = pf) ∨ FTxt w.heap.size w' text' px' pf')
set_option maxRecDepth 100000 in
set_option maxHeartbeats 1600000 in
theorem step_textT (bw : Nat) (text : List UInt8) (px pf : Option Addr) (proof : List UInt8) (o : OpV) (c4 c5 c6 : Value) (w : World) (hw : WAt w bw text px pf proof c4 c5 c6) (hk : o.kind = 1) :
    Calls Tryz.prog 19 #[.pointer (some ⟨bw, 0, none⟩), .agg #[.int .i64 o.kind, .int .i64 o.a, .int .i64 o.b, .int .i64 o.c, S o.s, S o.t]] w fun e w' => StepPostT bw text proof px pf o c4 c5 c6 w e w' := by
  obtain ⟨kind, a, b, c, s, t⟩ := o
  dsimp only at hk ⊢
  subst hk
  have hbw : bw < w.heap.size := blk_lt hw
  have h0 : w.cell? ⟨bw, 0, none⟩ = some (S text) := by rw [blk_cell hw]; rfl
  have z0 := blk_free hw 0
  go_enter Tryz.func19, Tryz.ntmps19
  go_wp2_with fail
  have hw1 : WAt (w.setCell ⟨bw, 0, none⟩ (S s)) bw s px pf proof c4 c5 c6 := blk_set hw 0 _
  refine (loads_txt bw s px pf proof c4 c5 c6 _ (hw1.later ((Below.refl _ _).alloc (Nat.le_refl _) _))).mono ?_
  rintro e w2 ⟨rfl, ho, px', pf', hw2, hF2⟩
  go_wp2_with fail
  go_ret
  refine ⟨rfl, ?_, s, px', pf', proof, hw2, by simp; omega, by simp; omega, Or.inr (hF2.lo (by simp))⟩
  exact (((Only.refl _ w).setAt 0 (S s)).alloc _).trans (ho.mono (fun k _ h => h))
set_option maxRecDepth 100000 in
set_option maxHeartbeats 1600000 in
theorem step_lineT (bw : Nat) (text : List UInt8) (px pf : Option Addr) (proof : List UInt8) (o : OpV) (c4 c5 c6 : Value) (w : World) (hw : WAt w bw text px pf proof c4 c5 c6) (hk : o.kind = 2) (htl : text.length ≤ 1048576) (hsl : o.s.length ≤ 1048576) :
    Calls Tryz.prog 19 #[.pointer (some ⟨bw, 0, none⟩), .agg #[.int .i64 o.kind, .int .i64 o.a, .int .i64 o.b, .int .i64 o.c, S o.s, S o.t]] w fun e w' => StepPostT bw text proof px pf o c4 c5 c6 w e w' := by
  obtain ⟨kind, a, b, c, s, t⟩ := o
  dsimp only at hk hsl ⊢
  subst hk
  have hbw : bw < w.heap.size := blk_lt hw
  have h0 : w.cell? ⟨bw, 0, none⟩ = some (S text) := by rw [blk_cell hw]; rfl
  have z0 := blk_free hw 0
  have HE : Hid (ByteArray.mk text.toArray ++ ByteArray.mk s.toArray ++ ⟨#[10]⟩ = ⟨(text ++ s ++ [10]).toArray⟩) := hide (by
    rw [ba_append text s]; exact ba_append (text ++ s) [10])
  go_enter Tryz.func19, Tryz.ntmps19
  go_wp2_with fail
  go_region
  all_goals go_wp2_with fail
  have hw1 : WAt (w.setCell ⟨bw, 0, none⟩ (S (text ++ s ++ [10]))) bw (text ++ s ++ [10]) px pf proof c4 c5 c6 := blk_set hw 0 _
  all_goals
    rw [unhide HE]
    refine (loads_txt bw (text ++ s ++ [10]) px pf proof c4 c5 c6 _ (hw1.later (((Below.refl _ _).alloc (Nat.le_refl _) _).drew))).mono ?_
    rintro e w2 ⟨rfl, ho, px', pf', hw2, hF2⟩
    go_wp2_with fail
    go_ret
    refine ⟨rfl, ?_, _, px', pf', proof, hw2, by simp; omega, by simp; omega, Or.inr (hF2.lo (by simp))⟩
    exact ((((Only.refl _ w).setAt 0 (S (text ++ s ++ [10]))).alloc _).drew).trans (ho.mono (fun k _ h => h))
set_option maxRecDepth 100000 in
set_option maxHeartbeats 1600000 in
theorem step_proofT (bw : Nat) (text : List UInt8) (px pf : Option Addr) (proof : List UInt8) (o : OpV) (c4 c5 c6 : Value) (w : World) (hw : WAt w bw text px pf proof c4 c5 c6) (hk : o.kind = 4) :
    Calls Tryz.prog 19 #[.pointer (some ⟨bw, 0, none⟩), .agg #[.int .i64 o.kind, .int .i64 o.a, .int .i64 o.b, .int .i64 o.c, S o.s, S o.t]] w fun e w' => StepPostT bw text proof px pf o c4 c5 c6 w e w' := by
  obtain ⟨kind, a, b, c, s, t⟩ := o
  dsimp only at hk ⊢
  subst hk
  have hbw : bw < w.heap.size := blk_lt hw
  have h3 : w.cell? ⟨bw, 3, none⟩ = some (S proof) := by rw [blk_cell hw]; rfl
  have z3 := blk_free hw 3
  go_enter Tryz.func19, Tryz.ntmps19
  go_wp2_with fail
  go_ret
  have ho := ((Only.refl (· = bw) w).setAt 3 (S s)).alloc (.cells #[.int .i64 4, .int .i64 a, .int .i64 b, .int .i64 c, S s, S t] 29)
  refine ⟨rfl, ho, text, px, pf, s, (hw.setProof s).later ((Below.refl _ _).alloc (Nat.le_refl _) _), by simp; omega, by simp; omega, Or.inl ⟨rfl, rfl, rfl⟩⟩
set_option maxRecDepth 100000 in
set_option maxHeartbeats 1600000 in
theorem step_bendT (bw : Nat) (text : List UInt8) (px pf : Option Addr) (proof : List UInt8) (o : OpV) (c4 c5 c6 : Value) (w : World) (hw : WAt w bw text px pf proof c4 c5 c6) (hk : o.kind = 5) (hok : o.Ok) (hpl : proof.length ≤ 1048576) :
    Calls Tryz.prog 19 #[.pointer (some ⟨bw, 0, none⟩), .agg #[.int .i64 o.kind, .int .i64 o.a, .int .i64 o.b, .int .i64 o.c, S o.s, S o.t]] w fun e w' => StepPostT bw text proof px pf o c4 c5 c6 w e w' := by
  obtain ⟨kind, a, b, c, s, t⟩ := o
  obtain ⟨_, ⟨ha1, ha2⟩, _, ⟨hc1, hc2⟩⟩ := hok
  dsimp only at hk ha1 ha2 hc1 hc2 ⊢
  subst hk
  have hbw : bw < w.heap.size := blk_lt hw
  go_enter Tryz.func19, Tryz.ntmps19
  go_wp2_with fail
  refine (bend_any bw text px pf proof c4 c5 c6 a c _ (hw.later ((Below.refl _ _).alloc (Nat.le_refl _) _)) hpl ha1 ha2 hc1 hc2).mono ?_
  rintro e w2 ⟨rfl, ho, proof', hpl', hw2⟩
  go_wp2_with fail
  go_ret
  have ho3 := ((Only.refl (· = bw) w).alloc (.cells #[.int .i64 5, .int .i64 a, .int .i64 b, .int .i64 c, S s, S t] 29)).trans ho
  exact ⟨rfl, ho3, text, px, pf, proof', hw2, by simp; omega, by simp; omega, Or.inl ⟨rfl, rfl, rfl⟩⟩
theorem step_baseT0 (bw : Nat) (text : List UInt8) (px pf : Option Addr) (proof : List UInt8) (o : OpV) (c4 c5 c6 : Value) (w : World) (hw : WAt w bw text px pf proof c4 c5 c6) (hk : base4 o.kind = true)
    (hok : o.Ok) (hpl : proof.length ≤ 1048576) (htl : text.length ≤ 1048576) (hsl : o.s.length ≤ 1048576) :
    Calls Tryz.prog 19 #[.pointer (some ⟨bw, 0, none⟩), .agg #[.int .i64 o.kind, .int .i64 o.a, .int .i64 o.b, .int .i64 o.c, S o.s, S o.t]] w fun e w' => StepPostT bw text proof px pf o c4 c5 c6 w e w' := by
  unfold base4 at hk
  simp only [Bool.or_eq_true, beq_iff_eq] at hk
  rcases hk with ((hk | hk) | hk) | hk
  · exact step_textT bw text px pf proof o c4 c5 c6 w hw hk
  · exact step_lineT bw text px pf proof o c4 c5 c6 w hw hk htl hsl
  · exact step_proofT bw text px pf proof o c4 c5 c6 w hw hk
  · exact step_bendT bw text px pf proof o c4 c5 c6 w hw hk hok hpl
def StepPostU (bw : Nat) (text proof : List UInt8) (o : OpV) (c4 c5 c6 : Value) (w : World) (e : Ending) (w' : World) : Prop :=
  e = .returned (.bool true) ∧ Only (· = bw) w w' ∧ ∃ text' px' pf' proof', WAt w' bw text' px' pf' proof' c4 c5 c6 ∧ text'.length ≤ text.length + o.s.length + 1 ∧ proof'.length ≤ max proof.length 262144 + o.s.length + 1 ∧ FTxt (bw + 1) w' text' px' pf'
theorem step_baseT (bw : Nat) (text : List UInt8) (px pf : Option Addr) (proof : List UInt8) (o : OpV) (c4 c5 c6 : Value) (w : World) (hw : WAt w bw text px pf proof c4 c5 c6) (hF : FTxt (bw + 1) w text px pf) (hk : base4 o.kind = true)
    (hok : o.Ok) (hpl : proof.length ≤ 1048576) (htl : text.length ≤ 1048576) (hsl : o.s.length ≤ 1048576) :
    Calls Tryz.prog 19 #[.pointer (some ⟨bw, 0, none⟩), .agg #[.int .i64 o.kind, .int .i64 o.a, .int .i64 o.b, .int .i64 o.c, S o.s, S o.t]] w fun e w' => StepPostU bw text proof o c4 c5 c6 w e w' := by
  refine (step_baseT0 bw text px pf proof o c4 c5 c6 w hw hk hok hpl htl hsl).mono ?_
  rintro e w' ⟨h1, ho, text', px', pf', proof', hw', h2, h3, h4⟩
  refine ⟨h1, ho, text', px', pf', proof', hw', h2, by omega, ?_⟩
  rcases h4 with ⟨rfl, rfl, rfl⟩ | h4
  · exact hF.only ho here_foreign
  · exact h4.lo (blk_lt hw)
end Go.Proofs.YtgipjjhkhfihpaaGreatDoor

namespace Go.Proofs.YtgipjjhkhfihpaaGreatDoor
open Go.RowKit

/-! ### What rests on blocks that no one writes -/
/-- It holds, and will as long as the blocks of Z are left alone. -/
def Firm (Z : Nat → Prop) (A : World → Prop) (w : World) : Prop := ∀ (T : Nat → Prop) (w' : World), Only T w w' → (∀ k, Z k → ¬ T k) → A w'
theorem Firm.now {Z : Nat → Prop} {A : World → Prop} {w : World} (h : Firm Z A w) : A w := h (fun _ => False) w (Only.refl _ _) (fun _ _ h => h)
theorem Only.join {T T' : Nat → Prop} {a b c : World} (h : Only T a b) (k : Only T' b c) : Only (fun i => T i ∨ T' i) a c :=
  ⟨k.os.trans h.os, k.tape.trans h.tape, k.output.trans h.output, Nat.le_trans h.size k.size, fun i hi ht => (k.block i (Nat.lt_of_lt_of_le hi h.size) (fun e => ht (Or.inr e))).trans (h.block i hi (fun e => ht (Or.inl e)))⟩
theorem Firm.step {Z T : Nat → Prop} {A : World → Prop} {w w' : World} (h : Firm Z A w) (ho : Only T w w') (hT : ∀ k, Z k → ¬ T k) : Firm Z A w' :=
  fun _ w2 ho2 hT2 => h _ w2 (ho.join ho2) (fun k hk e => e.elim (hT k hk) (hT2 k hk))
theorem Firm.grow {Z Z' : Nat → Prop} {A : World → Prop} {w : World} (h : Firm Z A w) (hz : ∀ k, Z k → Z' k) : Firm Z' A w :=
  fun T w' ho hT => h T w' ho (fun k hk => hT k (hz k hk))
theorem Firm.imp {Z : Nat → Prop} {A B : World → Prop} {w : World} (h : Firm Z A w) (f : ∀ w, A w → B w) : Firm Z B w := fun T w' ho hT => f w' (h T w' ho hT)
theorem firm_own {Z : Nat → Prop} {w : World} {base : Nat} {e : TypeId} {size : Nat} {v : Value} {n : Nat} {xs : List Value} (h : w.ownsRow base e size v n xs) (hz : ∀ k, v.ownBlock = some k → Z k) : Firm Z (fun w => w.ownsRow base e size v n xs) w :=
  fun _ _ ho hT => own_keep h ho (fun k hk => hT k (hz k hk))
theorem firm_blk {Z : Nat → Prop} {w : World} {k : Nat} {o : Obj} (h : w.heap[k]? = some o) (hz : Z k) : Firm Z (fun w => w.heap[k]? = some o) w :=
  fun _ _ ho hT => (ho.block k (blk_lt h) (hT k hz)).trans h
theorem firm_prog {Z : Nat → Prop} {w : World} {lo b : Nat} {q : QS} (h : ProgAt lo w b q) (hz : ∀ k, lo ≤ k → k < w.heap.size → Z k) : Firm Z (fun w => ProgAt lo w b q) w := by
  obtain ⟨h1, vV, vC, h2, h3, h4⟩ := h
  intro T w' ho hT
  refine ⟨h1, vV, vC, firm_blk h2 (hz b h1 (blk_lt h2)) T w' ho hT, firm_own h3 (fun k hk => hz k (h3.lt k hk).1 (h3.lt k hk).2) T w' ho hT, firm_own h4 (fun k hk => hz k (h4.lt k hk).1 (h4.lt k hk).2) T w' ho hT⟩
theorem firm_ref {Z : Nat → Prop} {w : World} {lo b : Nat} {F : Form} (h : RefAt lo w b F) (hz : ∀ k, lo ≤ k → k < w.heap.size → Z k) : Firm Z (fun w => RefAt lo w b F) w := by
  obtain ⟨h1, vO, vE, vC, h2, h3, h4, h5⟩ := h
  intro T w' ho hT
  exact ⟨h1, vO, vE, vC, firm_blk h2 (hz b h1 (blk_lt h2)) T w' ho hT, firm_own h3 (fun k hk => hz k (h3.lt k hk).1 (h3.lt k hk).2) T w' ho hT, firm_own h4 (fun k hk => hz k (h4.lt k hk).1 (h4.lt k hk).2) T w' ho hT, firm_own h5 (fun k hk => hz k (h5.lt k hk).1 (h5.lt k hk).2) T w' ho hT⟩
theorem firm_pair {Z : Nat → Prop} {w : World} {lo : Nat} {px pf : Option Addr} (h : FPair lo w px pf) (hz : ∀ k, lo ≤ k → k < w.heap.size → Z k) : Firm Z (fun w => FPair lo w px pf) w := by
  rcases h with h | ⟨b, b', st, q0, h1, h2, h3, h4, h5⟩
  · exact fun _ _ _ _ => Or.inl h
  · exact fun T w' ho hT => Or.inr ⟨b, b', st, q0, h1, h2, firm_prog h3 hz T w' ho hT, firm_ref h4 hz T w' ho hT, h5⟩
theorem firm_rows {Z : Nat → Prop} {w : World} {bl : BL} {rs : List RuleP} {v : GV} (h : GRows w bl rs v) (h1 : ∀ k, v.vB.ownBlock = some k → Z k) (h2 : ∀ k, v.vR.ownBlock = some k → Z k) (h3 : ∀ j (hj : j < v.hdrs.length) k, v.hdrs[j].ownBlock = some k → Z k) : Firm Z (fun w => GRows w bl rs v) w := by
  intro T w' ho hT
  have hl := h.len
  exact ⟨own_keep h.oB ho (fun k hk => hT k (h1 k hk)), own_keep h.oR ho (fun k hk => hT k (h2 k hk)), h.len, fun j hj => own_keep (h.row j hj) ho (fun k hk => hT k (h3 j (by omega) k hk))⟩
theorem firm_ls {Z : Nat → Prop} {w : World} {hdrs : List Value} (h : LsAt w hdrs) (hz : ∀ i (hi : i < hdrs.length) k, hdrs[i].ownBlock = some k → Z k) : Firm Z (fun w => LsAt w hdrs) w :=
  fun _ _ ho hT => ls_keep h ho (fun i hi g _ hg _ => hT g (hz i hi g hg))

/-! ### A game of the law -/
structure GG where
  gb : Nat
  db : Nat
  b1 : Nat
  b2 : Nat
  st : RS
  q0 : QS
  proof : List UInt8
  kind : Nat
  ss : List Stp
  mv : List Nat
  bs : List Bool
  g : GS
  gv : GV
  vM : Value
  vb : Nat
  val : List Int
def GG.q (G : GG) : QS := qFinish G.q0
def GG.rs (G : GG) : List RuleP := rulesW G.kind G.ss
def GG.bl (G : GG) : BL := blW G.q G.kind
def intsV (l : List Int) : List Value := l.map (fun x => Value.int .i64 x)
/-- What a game is, apart from memory. -/
structure GPure (G : GG) : Prop where
  same : Same G.st G.q0
  cl : G.q0.cl.length ≤ 24
  nice : QNice G.q0
  read : readQ G.q G.proof = .inr (G.kind, litsL G.ss)
  tags : Tagged G.q G.kind G.proof G.ss
  sbs : SBs G.ss
  play : G.g = G.mv.foldl (fun g m => moveW G.rs G.bl g m) (openW G.q G.kind G.ss)
  ok : ∀ i, i < G.mv.length → MoveE G.bl ((G.mv.take i).foldl (fun g m => moveW G.rs G.bl g m) (openW G.q G.kind G.ss)) ((G.mv.getD i 0 : Nat) : Int) = 0
  run : Run G.q G.kind G.rs G.g G.bs
  stands : Stands G.q G.kind G.g
  mlen : G.mv.length ≤ G.g.turn
  vlen : G.val.length = 8
  vok : ∀ v, 1 ≤ v → v ≤ 8 → G.val.getD (v - 1) 0 = 0 ∨ G.val.getD (v - 1) 0 = valV G.g.vals v
structure GInv (Z : Nat → Prop) (w : World) (G : GG) : Prop where
  fb : w.heap[G.gb]? = some (.cells #[.pointer (some ⟨G.db, 0, none⟩), .pointer (some ⟨G.b1, 0, none⟩), .pointer (some ⟨G.b2, 0, none⟩), S G.proof, .int .i64 (G.kind : Int), G.vM, .int .i64 (G.g.turn : Int), .slice (some ⟨G.vb, 0, none⟩) 8 8] 87 (0, 0))
  db : w.heap[G.db]? = some (.cells #[G.gv.vB, G.gv.vR, .int .i64 (G.g.turn : Int), .int .i64 (G.g.vals.1 : Int), .int .i64 (G.g.vals.2 : Int)] 79 (0, 0))
  firm : Firm Z (fun w => ProgAt 0 w G.b1 G.q ∧ RefAt 0 w G.b2 (finish G.st) ∧ GRows w G.bl G.rs G.gv) w
  oM : w.ownsRow 0 3 1 G.vM G.mv.length (ints G.mv)
  val : w.heap[G.vb]? = some (.cells (intsV G.val).toArray 3 (0, 0))
  mvb : G.vM.ownBlock ≠ some G.vb
  pure : GPure G
def GG.mut (G : GG) (k : Nat) : Prop := k = G.gb ∨ k = G.db ∨ k = G.vb ∨ G.vM.ownBlock = some k
theorem GInv.game {Z : Nat → Prop} {w : World} {G : GG} (h : GInv Z w G) : GameAt w G.db 79 G.bl G.rs G.g G.gv := ⟨h.db, Or.inr rfl, h.firm.now.2.2⟩
theorem GInv.keep {Z T : Nat → Prop} {w w' : World} {G : GG} (h : GInv Z w G) (ho : Only T w w') (hZ : ∀ k, Z k → ¬ T k) (hm : ∀ k, G.mut k → ¬ T k) : GInv Z w' G :=
  ⟨(ho.block _ (blk_lt h.fb) (hm _ (Or.inl rfl))).trans h.fb, (ho.block _ (blk_lt h.db) (hm _ (Or.inr (Or.inl rfl)))).trans h.db, h.firm.step ho hZ, own_keep h.oM ho (fun k hk => hm k (Or.inr (Or.inr (Or.inr hk)))), (ho.block _ (blk_lt h.val) (hm _ (Or.inr (Or.inr (Or.inl rfl))))).trans h.val, h.mvb, h.pure⟩
theorem GInv.grow {Z Z' : Nat → Prop} {w : World} {G : GG} (h : GInv Z w G) (hz : ∀ k, Z k → Z' k) : GInv Z' w G := ⟨h.fb, h.db, h.firm.grow hz, h.oM, h.val, h.mvb, h.pure⟩
theorem GInv.lt {Z : Nat → Prop} {w : World} {G : GG} (h : GInv Z w G) {k : Nat} (hk : G.mut k) : k < w.heap.size := by
  rcases hk with rfl | rfl | rfl | hk
  · exact blk_lt h.fb
  · exact blk_lt h.db
  · exact blk_lt h.val
  · exact (h.oM.lt k hk).2
/-- A game's own blocks are three or four. -/
theorem GInv.apart {Z : Nat → Prop} {w : World} {G : GG} (h : GInv Z w G) : G.gb ≠ G.db ∧ G.gb ≠ G.vb ∧ G.db ≠ G.vb ∧ G.vM.ownBlock ≠ some G.gb ∧ G.vM.ownBlock ≠ some G.db := by
  refine ⟨fun e => ?_, fun e => ?_, fun e => ?_, fun e => ?_, fun e => ?_⟩
  · have := h.db; rw [← e] at this; exact absurd (blk_type h.fb this) (by decide)
  · have := h.val; rw [← e] at this; exact absurd (blk_type h.fb this) (by decide)
  · have := h.val; rw [← e] at this; exact absurd (blk_type h.db this) (by decide)
  · obtain ⟨c, hc⟩ := own_bk h.oM _ e; exact absurd (blk_type h.fb hc) (by decide)
  · obtain ⟨c, hc⟩ := own_bk h.oM _ e; exact absurd (blk_type h.db hc) (by decide)

/-! ### The law's world with games -/
/-- The formulas on both sides, or none. -/
def FPairF (Z : Nat → Prop) (bw : Nat) (w : World) (text : List UInt8) (px pf : Option Addr) : Prop :=
  (px = none ∧ pf = none) ∨ ∃ b b' st q0, px = some ⟨b, 0, none⟩ ∧ pf = some ⟨b', 0, none⟩ ∧ Firm Z (fun w => ProgAt (bw + 1) w b (qFinish q0) ∧ RefAt (bw + 1) w b' (finish st)) w ∧ Same st q0 ∧ q0.cl.length ≤ 24 ∧ QNice q0 ∧ loadSpec text = .inr (qFinish q0)
theorem FPairF.now {Z : Nat → Prop} {bw : Nat} {w : World} {text : List UInt8} {px pf : Option Addr} (h : FPairF Z bw w text px pf) : FPair (bw + 1) w px pf := by
  rcases h with h | ⟨b, b', st, q0, h1, h2, h3, h4⟩
  · exact Or.inl h
  · exact Or.inr ⟨b, b', st, q0, h1, h2, h3.now.1, h3.now.2, h4.1, h4.2.1, h4.2.2.1⟩
theorem FPairF.step {Z T : Nat → Prop} {bw : Nat} {w w' : World} {text : List UInt8} {px pf : Option Addr} (h : FPairF Z bw w text px pf) (ho : Only T w w') (hT : ∀ k, Z k → ¬ T k) : FPairF Z bw w' text px pf := by
  rcases h with h | ⟨b, b', st, q0, h1, h2, h3, h4⟩
  · exact Or.inl h
  · exact Or.inr ⟨b, b', st, q0, h1, h2, h3.step ho hT, h4⟩
theorem FPairF.grow {Z Z' : Nat → Prop} {bw : Nat} {w : World} {text : List UInt8} {px pf : Option Addr} (h : FPairF Z bw w text px pf) (hz : ∀ k, Z k → Z' k) : FPairF Z' bw w text px pf := by
  rcases h with h | ⟨b, b', st, q0, h1, h2, h3, h4⟩
  · exact Or.inl h
  · exact Or.inr ⟨b, b', st, q0, h1, h2, h3.grow hz, h4⟩
theorem FPairF.new {Z : Nat → Prop} {bw n : Nat} {w : World} {text : List UInt8} {px pf : Option Addr} (h : FTxt n w text px pf) (hn : bw < n) (hz : ∀ k, n ≤ k → k < w.heap.size → Z k) : FPairF Z bw w text px pf := by
  rcases h with h | ⟨b, b', st, q0, h1, h2, h3, h4, h5, h6, h7⟩
  · exact Or.inl h
  · exact Or.inr ⟨b, b', st, q0, h1, h2, fun T w' ho hT => ⟨(firm_prog h3 hz T w' ho hT).lo hn, (firm_ref h4 hz T w' ho hT).lo hn⟩, h5, h6.1, h6.2, h7⟩
structure DW where
  text : List UInt8
  proof : List UInt8
  px : Option Addr
  pf : Option Addr
  v4 : Value
  v5 : Value
  v6 : Value
  h5s : List Value
  h6s : List Value
  gs : List GG
  Z : Nat → Prop
def gptr (G : GG) : Value := .pointer (some ⟨G.gb, 0, none⟩)
structure DInv (bw : Nat) (w : World) (D : DW) : Prop where
  wat : WAt w bw D.text D.px D.pf D.proof D.v4 D.v5 D.v6
  o4 : w.ownsRow (bw + 1) 51 1 D.v4 D.gs.length (D.gs.map gptr)
  o5 : w.ownsRow (bw + 1) 25 1 D.v5 D.h5s.length D.h5s
  o6 : w.ownsRow (bw + 1) 45 1 D.v6 D.h6s.length D.h6s
  zin : ∀ k, D.Z k → bw < k ∧ k < w.heap.size
  form : FPairF D.Z bw w D.text D.px D.pf
  ls : Firm D.Z (fun w => LsAt w D.h5s) w
  lss : Firm D.Z (fun w => LssAt w D.h6s) w
  n4 : ∀ k, D.v4.ownBlock = some k → ¬ D.Z k
  n5 : ∀ k, D.v5.ownBlock = some k → ¬ D.Z k
  n6 : ∀ k, D.v6.ownBlock = some k → ¬ D.Z k
  games : ∀ G ∈ D.gs, GInv D.Z w G
  gz : ∀ G ∈ D.gs, ∀ k, G.mut k → bw < k ∧ ¬ D.Z k
  gap : ∀ i j (hi : i < D.gs.length) (hj : j < D.gs.length), i ≠ j → ∀ k, D.gs[i].mut k → ¬ D.gs[j].mut k
/-- Blocks that the law writes. -/
def DW.free (D : DW) (bw k : Nat) : Prop := k ≠ bw ∧ D.v4.ownBlock ≠ some k ∧ D.v5.ownBlock ≠ some k ∧ D.v6.ownBlock ≠ some k
/-- Nothing of the law's own is written. -/
theorem DInv.frame {bw : Nat} {w w' : World} {D : DW} {T : Nat → Prop} (h : DInv bw w D) (ho : Only T w w') (hT : ∀ k, k < w.heap.size → T k → D.free bw k ∧ ¬ D.Z k ∧ ∀ G ∈ D.gs, ¬ G.mut k) : DInv bw w' D := by
  have ho' : Only (fun k => T k ∧ k < w.heap.size) w w' := ho.mono (fun k hk ht => ⟨ht, hk⟩)
  have hz : ∀ k, D.Z k → ¬ (T k ∧ k < w.heap.size) := fun k hk ht => (hT k ht.2 ht.1).2.1 hk
  exact ⟨(ho'.block bw (blk_lt h.wat) (fun e => (hT bw e.2 e.1).1.1 rfl)).trans h.wat, own_keep h.o4 ho' (fun k hk e => (hT k e.2 e.1).1.2.1 hk), own_keep h.o5 ho' (fun k hk e => (hT k e.2 e.1).1.2.2.1 hk), own_keep h.o6 ho' (fun k hk e => (hT k e.2 e.1).1.2.2.2 hk),
    fun k hk => ⟨(h.zin k hk).1, Nat.lt_of_lt_of_le (h.zin k hk).2 ho.size⟩, h.form.step ho' hz, h.ls.step ho' hz, h.lss.step ho' hz, h.n4, h.n5, h.n6, fun G hG => (h.games G hG).keep ho' hz (fun k hk e => (hT k e.2 e.1).2.2 G hG hk), h.gz, h.gap⟩
theorem DInv.later {bw : Nat} {w w' : World} {D : DW} (h : DInv bw w D) (hb : Below w.heap.size w w') : DInv bw w' D :=
  h.frame (T := fun _ => False) (Only.of_below hb) (fun _ _ h => h.elim)
end Go.Proofs.YtgipjjhkhfihpaaGreatDoor

namespace Go.Proofs.YtgipjjhkhfihpaaGreatDoor
open Go.RowKit

/-- Numbers lie at an address. -/
def IntsAt (w : World) (v : Value) (l : List Nat) : Prop := ∃ ao cap, v = .slice ao l.length cap ∧ ∀ i (hi : i < l.length), ∃ g off, ao = some ⟨g, off, none⟩ ∧ w.cell? ⟨g, off + i, none⟩ = some (.int .i64 (l[i] : Int))
/-- Where block k begins. -/
def fromOf (F : Form) (k : Nat) : Nat := if 0 < k then F.ends.getD (k - 1) 0 else 0
def blockOf (F : Form) (k : Nat) : List Nat := (F.order.drop (fromOf F k)).take (F.ends.getD k 0 - fromOf F k)

/-- The values lie where the order does. -/
def InOrder (w : World) (b : Nat) (v : Value) : Prop := ∃ gO n0 c0, w.cell? ⟨b, 0, none⟩ = some (.slice (some ⟨gO, 0, none⟩) n0 c0) ∧ ∀ a n c, v = .slice (some a) n c → a.block = gO
def BlockPost (b : Nat) (F : Form) (k : Nat) (w : World) (e : Ending) (w' : World) : Prop := ∃ v, e = .returned v ∧ IntsAt w' v (blockOf F k) ∧ Below w.heap.size w w' ∧ InOrder w b v
theorem ints_piece {w w' : World} {gO lo1 hi1 cap : Nat} {l : List Nat} (hc : ∀ j u, (ints l)[j]? = some u → w.cell? ⟨gO, j, none⟩ = some u) (hw : ∀ j, w'.cell? ⟨gO, j, none⟩ = w.cell? ⟨gO, j, none⟩) (h1 : lo1 ≤ hi1) (h2 : hi1 ≤ l.length) :
    IntsAt w' (.slice (some ⟨gO, lo1, none⟩) (hi1 - lo1) cap) ((l.drop lo1).take (hi1 - lo1)) := by
  have hl : ((l.drop lo1).take (hi1 - lo1)).length = hi1 - lo1 := by simp; omega
  refine ⟨_, _, by rw [hl], fun i hi => ⟨gO, lo1, rfl, ?_⟩⟩
  rw [hw]
  refine hc _ _ ?_
  rw [hl] at hi
  simp [ints, show lo1 + i < l.length by omega]
theorem ints_empty (w : World) (ao : Option Addr) (cap : Nat) : IntsAt w (.slice ao 0 cap) [] := ⟨ao, cap, rfl, fun i hi => by simp at hi⟩

set_option maxRecDepth 100000 in
set_option maxHeartbeats 1600000 in
theorem block_any (lo b k : Nat) (F : Form) (w : World) (hF : RefAt lo w b F) (hk : k < F.ends.length) (hle : fromOf F k ≤ F.ends.getD k 0) (hel : F.ends.getD k 0 ≤ F.order.length) (_hol : F.order.length ≤ 1073741824) (hpos : 0 < F.order.length) (hen : F.ends.length ≤ 1073741824) :
    Calls Tryz.prog 38 #[.pointer (some ⟨b, 0, none⟩), .int .i64 k] w fun e w' => BlockPost b F k w e w' := by
  obtain ⟨_, vO, vE, vC, hfb, hO, hE, _⟩ := hF
  obtain ⟨gO, cO, rfl, _, _, hcO, hcellO⟩ := own_pos hO hpos
  obtain ⟨gE, cE, rfl, _, _, hcE, hcellE⟩ := own_pos hE (by omega)
  have k0 : w.cell? ⟨b, 0, none⟩ = some (.slice (some ⟨gO, 0, none⟩) F.order.length cO) := by rw [blk_cell hfb]; rfl
  have k2 : w.cell? ⟨b, 2, none⟩ = some (.slice (some ⟨gE, 0, none⟩) F.ends.length cE) := by rw [blk_cell hfb]; rfl
  have ek : w.cell? ⟨gE, k, none⟩ = some (.int .i64 (F.ends.getD k 0 : Nat)) := hcellE k _ (by simp [ints, List.getD, hk])
  have HCO := hide hcellO
  have HK0 := hide k0
  have hkb : k ≤ 1073741824 := by omega
  by_cases h0 : 0 < k
  · have ek1 : w.cell? ⟨gE, k - 1, none⟩ = some (.int .i64 (F.ends.getD (k - 1) 0 : Nat)) := hcellE (k - 1) _ (by simp [ints, List.getD, show k - 1 < F.ends.length by omega])
    have HFR : Hid (fromOf F k = F.ends.getD (k - 1) 0) := hide (by unfold fromOf; rw [if_pos h0])
    have HBL : Hid (blockOf F k = (F.order.drop (F.ends.getD (k - 1) 0)).take (F.ends.getD k 0 - F.ends.getD (k - 1) 0)) := hide (by unfold blockOf; rw [unhide HFR])
    rw [unhide HFR] at hle
    have hd0 : decide (0 < k) = true := by simpa using h0
    clear hcellE hcellO
    generalize F.ends.getD (k - 1) 0 = lo1 at *
    generalize F.ends.getD k 0 = hi1 at *
    go_enter Tryz.func38, Tryz.ntmps38
    go_wp2_with fail
    go_quiet (fail)
    go_wp2_with fail
    · next hce =>
      have hz : hi1 - lo1 = 0 := by omega
      have HZ := hide hz
      clear hz
      go_ret
      refine ⟨_, rfl, ?_, below_drewN (Below.refl _ _) nq, gO, _, _, unhide HK0, fun a n c e => by injection e with e _ _; injection e with e; rw [← e]⟩
      rw [unhide HBL, unhide HZ]
      show IntsAt _ (.slice (some ⟨gO, 0, none⟩) 0 0) _
      simpa using ints_empty _ _ _
    · go_ret
      refine ⟨_, rfl, ?_, below_drewN (Below.refl _ _) nq, gO, _, _, unhide HK0, fun a n c e => by injection e with e _ _; injection e with e; rw [← e]⟩
      rw [unhide HBL]
      exact ints_piece (unhide HCO) (fun j => rfl) hle hel
  · have HFR : Hid (fromOf F k = 0) := hide (by unfold fromOf; rw [if_neg h0])
    have HBL : Hid (blockOf F k = (F.order.drop 0).take (F.ends.getD k 0 - 0)) := hide (by unfold blockOf; rw [unhide HFR])
    have hd0 : decide (0 < k) = false := by simpa using h0
    clear hcellE hcellO hle
    generalize F.ends.getD k 0 = hi1 at *
    go_enter Tryz.func38, Tryz.ntmps38
    go_wp2_with fail
    go_quiet (fail)
    go_wp2_with fail
    go_ret
    refine ⟨_, rfl, ?_, below_drewN (Below.refl _ _) nq, gO, _, _, unhide HK0, fun a n c e => by injection e with e _ _; injection e with e; rw [← e]⟩
    rw [unhide HBL]
    exact ints_piece (lo1 := 0) (unhide HCO) (fun j => rfl) (Nat.zero_le _) hel
end Go.Proofs.YtgipjjhkhfihpaaGreatDoor

namespace Go.Proofs.YtgipjjhkhfihpaaGreatDoor
open Go.RowKit

theorem qblocks_before {vs : List (Nat × Bool)} {w w0 w' : World} {e : Ending} (h : QBlocksPost vs w0 e w') (hb : Below w.heap.size w w0) : QBlocksPost vs w e w' := by
  obtain ⟨v, hdrs, h0, h1, h2, h3⟩ := h
  exact ⟨v, hdrs, h0, own_lo h1 hb.size, ⟨h2.len, fun j hj => ⟨own_lo (h2.row j hj).1 hb.size, (h2.row j hj).2⟩, h2.apart⟩, hb.trans (h3.mono hb.size)⟩
set_option maxRecDepth 100000 in
set_option maxHeartbeats 800000 in
theorem dblocks_any (lo b : Nat) (q : QS) (w : World) (hP : ProgAt lo w b q) (hl : q.vars.length ≤ 1048576) :
    Calls Tryz.prog 58 #[.pointer (some ⟨b, 0, none⟩)] w fun e w' => QBlocksPost q.vars w e w' := by
  obtain ⟨_, vV, vC, hb, hV, hC⟩ := hP
  obtain ⟨aV, cV, rfl⟩ := own_form hV
  obtain ⟨aC, cC, rfl⟩ := own_form hC
  have hbl := blk_lt hb
  go_enter Tryz.func58, Tryz.ntmps58
  go_wp2_with fail
  refine (formula_any b _ _ aV aC _ cV _ cC rfl rfl w hb).mono ?_
  rintro e w0 ⟨rfl, hb0⟩
  go_wp2_with fail
  have hB : Below w.heap.size w (w0.alloc (.cells #[.slice aV q.vars.length cV, .slice aC q.cl.length cC] 60)) := hb0.alloc hb0.size _
  have hf : (w0.alloc (.cells #[.slice aV q.vars.length cV, .slice aC q.cl.length cC] 60)).cell? ⟨w0.heap.size, 0, none⟩ = some (.slice aV q.vars.length cV) := by rw [blk_cell (heap_alloc_new _ _)]; rfl
  refine (qblocks_any lo w0.heap.size q _ aV cV hf (by simp) (own_below hV hB) hl).mono ?_
  intro e w1 hp
  have hp := qblocks_before hp hB
  obtain ⟨v, hdrs, rfl, h1, h2, h3⟩ := hp
  obtain ⟨av, cv, rfl⟩ := own_form h1
  go_wp2_with fail
  go_ret
  exact ⟨_, hdrs, rfl, h1, h2, h3⟩
end Go.Proofs.YtgipjjhkhfihpaaGreatDoor
