import Derived.Test.YtbpolmdokdhkhaaLooks
import Derived.Test.YtbpolmdokdhkhaaQBlocks
namespace Go.Proofs.Ytbpolmdokdhkhaa
open Go.RowKit

/-! ### Lists that were handed out, in memory -/
def listTypes : List TypeId := [3, 25, 56]
theorem own_blk {w : World} {base : Nat} {e : TypeId} {size : Nat} {v : Value} {n : Nat} {xs : List Value} (h : w.ownsRow base e size v n xs) {k : Nat} (hk : v.ownBlock = some k) : ∃ cur, w.heap[k]? = some (.cells cur e (0, 0)) := by
  rcases h.2 with ⟨rfl, _⟩ | ⟨g, cap, cur, rfl, _, hh, _⟩
  · simp [Value.ownBlock] at hk
  · simp [Value.ownBlock] at hk
    subst hk
    exact ⟨cur, hh⟩
theorem types_ne {w : World} {k : Nat} {c1 c2 : Array Value} {t1 t2 : TypeId} {f1 f2 : Nat × Nat} (h1 : w.heap[k]? = some (.cells c1 t1 f1)) (h2 : w.heap[k]? = some (.cells c2 t2 f2)) : t1 = t2 := by
  rw [h1] at h2; simp at h2; exact h2.2.1
theorem ls_keep {w w' : World} {T : Nat → Prop} {hdrs : List Value} (h : LsAt w hdrs) (ho : Only T w w') (hT : ∀ i (hi : i < hdrs.length) g cs, hdrs[i].ownBlock = some g → w.heap[g]? = some (.cells cs 3 (0, 0)) → ¬ T g) : LsAt w' hdrs := by
  intro i hi
  obtain ⟨g, n, h1, h2, h3⟩ := h i hi
  refine ⟨g, n, h1, h2, ?_⟩
  rw [ho.block g (blk_lt h3) (hT i hi g _ (by rw [h1]; rfl) h3)]
  exact h3
theorem LsAt.only {w w' : World} {T : Nat → Prop} {hdrs : List Value} (h : LsAt w hdrs) (ho : Only T w w') (hT : ∀ k, k < w.heap.size → T k → Foreign 0 w [3] k) : LsAt w' hdrs := by
  refine ls_keep h ho fun i hi g cs h1 h2 ht => ?_
  rcases hT g (blk_lt h2) ht with h | ⟨c, t, fr, h4, h5⟩
  · omega
  · exact h5 (by rw [types_ne h4 h2]; simp)
theorem LsAt.later {w w' : World} {hdrs : List Value} (h : LsAt w hdrs) (hb : Below w.heap.size w w') : LsAt w' hdrs :=
  h.only (T := fun _ => False) (Only.of_below hb) (fun _ _ h => h.elim)
theorem lss_keep {w w' : World} {T : Nat → Prop} {hdrs : List Value} (h : LssAt w hdrs) (ho : Only T w w') (hT : ∀ i (hi : i < hdrs.length) g cs, hdrs[i].ownBlock = some g → w.heap[g]? = some (.cells cs 25 (0, 0)) → ¬ T g) (hI : ∀ k, k < w.heap.size → T k → Foreign 0 w [3] k) : LssAt w' hdrs := by
  intro i hi
  rcases h i hi with h0 | ⟨h', n, cs, h1, h2, h3, h4⟩
  · exact Or.inl h0
  · refine Or.inr ⟨h', n, cs, h1, h2, ?_, fun k hk => ?_⟩
    · rw [ho.block h' (blk_lt h3) (hT i hi h' _ (by rw [h1]; rfl) h3)]
      exact h3
    · obtain ⟨x, h5, h6⟩ := h4 k hk
      exact ⟨x, h5, blk_only h6 (Nat.zero_le _) ho (by simp) hI⟩
theorem LssAt.later {w w' : World} {hdrs : List Value} (h : LssAt w hdrs) (hb : Below w.heap.size w w') : LssAt w' hdrs :=
  lss_keep h (T := fun _ => False) (Only.of_below hb) (fun _ _ _ _ _ _ h => h.elim) (fun _ _ h => h.elim)

/-- All lists of the law's world. -/
structure ListsAt (bw : Nat) (w : World) (v5 v6 : Value) (h5s h6s : List Value) : Prop where
  o5 : w.ownsRow (bw + 1) 25 1 v5 h5s.length h5s
  o6 : w.ownsRow (bw + 1) 56 1 v6 h6s.length h6s
  ls : LsAt w h5s
  lss : LssAt w h6s
  ap : ∀ i (hi : i < h6s.length), apart v5 h6s[i]
theorem ListsAt.only {bw : Nat} {w w' : World} {v5 v6 : Value} {h5s h6s : List Value} {T : Nat → Prop} (h : ListsAt bw w v5 v6 h5s h6s) (ho : Only T w w') (hT : ∀ k, k < w.heap.size → T k → Foreign 0 w listTypes k) : ListsAt bw w' v5 v6 h5s h6s := by
  have hw : ∀ (b : Nat) (ts : List TypeId), (∀ t, t ∈ ts → t ∈ listTypes) → ∀ k, k < w.heap.size → T k → Foreign b w ts k := fun b ts hts k hk ht => by
    rcases hT k hk ht with h | ⟨c, t, fr, h4, h5⟩
    · omega
    · exact Or.inr ⟨c, t, fr, h4, fun h => h5 (hts t h)⟩
  have hin : ∀ t, t ∈ [3] → t ∈ listTypes := by decide
  refine ⟨own_only h.o5 ho (ts := [25]) (by simp) (hw _ _ (by decide)), own_only h.o6 ho (ts := [56]) (by simp) (hw _ _ (by decide)), h.ls.only ho (hw _ _ hin), lss_keep h.lss ho ?_ (hw _ _ hin), h.ap⟩
  intro i hi g cs h1 h2 ht
  rcases hw 0 [25] (by decide) g (blk_lt h2) ht with h | ⟨c, t, fr, h4, h5⟩
  · omega
  · exact h5 (by rw [types_ne h4 h2]; simp)
theorem ListsAt.later {bw : Nat} {w w' : World} {v5 v6 : Value} {h5s h6s : List Value} (h : ListsAt bw w v5 v6 h5s h6s) (hb : Below w.heap.size w w') : ListsAt bw w' v5 v6 h5s h6s :=
  h.only (T := fun _ => False) (Only.of_below hb) (fun _ _ h => h.elim)
theorem world_foreign {bw : Nat} {w : World} {text : List UInt8} {px pf : Option Addr} {proof : List UInt8} {c4 c5 c6 : Value} (h : WAt w bw text px pf proof c4 c5 c6) (ts : List TypeId) (hts : 59 ∉ ts) (b : Nat) : ∀ k, k < w.heap.size → k = bw → Foreign b w ts k :=
  fun k _ e => by subst e; exact Or.inr ⟨_, _, _, h, hts⟩

/-- What holds while the rows of one answer are marked: k of them are. -/
structure Marking (bw h : Nat) (w0 : World) (v5 : Value) (text : List UInt8) (px pf : Option Addr) (proof : List UInt8) (c4 v6 : Value) (hdrs : List Value) (cur : Array Value) (k : Nat) (v5x : Value) (h5x : List Value) (wx : World) : Prop where
  at_ : WAt wx bw text px pf proof c4 v5x v6
  only : Only (fun j => j = bw ∨ v5.ownBlock = some j) w0 wx
  o5 : wx.ownsRow (bw + 1) 25 1 v5x h5x.length h5x
  ls : LsAt wx h5x
  old : v5x.ownBlock = v5.ownBlock ∨ ∃ j, v5x.ownBlock = some j ∧ w0.heap.size ≤ j
  noth : v5x.ownBlock ≠ some h
  row : wx.heap[h]? = some (.cells cur 25 (0, 0))
  fresh : ∀ j, k ≤ j → (hj : j < hdrs.length) → ∃ g n cap cu, hdrs[j] = .slice (some ⟨g, 0, none⟩) n cap ∧ w0.heap.size ≤ g ∧ wx.heap[g]? = some (.cells cu 3 (0, 0)) ∧ cu.size = cap ∧ n ≤ cap ∧ cap ≤ maxLen
  sep : ∀ i (hi : i < h5x.length) j, k ≤ j → (hj : j < hdrs.length) → apart h5x[i] hdrs[j]

theorem Marking.start {bw h base : Nat} {w0 wx : World} {v5 v6 : Value} {h5s h6s : List Value} {text : List UInt8} {px pf : Option Addr} {proof : List UInt8} {c4 : Value} {hdrs : List Value} {cur : Array Value} {bs : List (List Nat)} (hw : WAt w0 bw text px pf proof c4 v5 v6) (hL : ListsAt bw w0 v5 v6 h5s h6s) (hb : Below w0.heap.size w0 wx)
    (hbase : w0.heap.size = base) (hh : base ≤ h) (hrow : wx.heap[h]? = some (.cells cur 25 (0, 0))) (hR : RowsAt base wx bs hdrs) : Marking bw h w0 v5 text px pf proof c4 v6 hdrs cur 0 v5 h5s wx := by
  subst hbase
  have h5lt := hL.o5.lt
  refine ⟨hw.later hb, Only.of_below hb, own_below hL.o5 hb, hL.ls.later hb, Or.inl rfl, fun e => ?_, hrow, fun j _ hj => ?_, fun i hi j _ hj k h1 h2 => ?_⟩
  · have := (h5lt h e).2; omega
  · have hl := hR.len
    obtain ⟨hr, hne⟩ := hR.row j (by omega)
    rcases hr.2 with ⟨_, h0⟩ | ⟨g, cap, cu, h1, h2, h3, h4, h5, h6, _⟩
    · exact absurd (List.length_eq_zero_iff.1 h0) hne
    · exact ⟨g, _, cap, cu, h1, h2, h3, by simpa using h6, h4, h5⟩
  · obtain ⟨g, n, e1, _, e2⟩ := hL.ls i hi
    have hl := hR.len
    have := ((hR.row j (by omega)).1.lt k h2).1
    rw [e1] at h1
    simp [Value.ownBlock] at h1
    subst h1
    have := blk_lt e2
    omega

theorem Marking.mine {bw h g n cap k : Nat} {w0 wx w' : World} {v5 v6 v5x : Value} {h5x : List Value} {text : List UInt8} {px pf : Option Addr} {proof : List UInt8} {c4 : Value} {hdrs : List Value} {cur : Array Value} {e : Ending} (hM : Marking bw h w0 v5 text px pf proof c4 v6 hdrs cur k v5x h5x wx)
    (_hhw : w0.heap.size ≤ h) (hk : k < hdrs.length) (hkg : hdrs[k] = .slice (some ⟨g, 0, none⟩) n cap) (hg0 : w0.heap.size ≤ g) (hgt : ∃ cu, wx.heap[g]? = some (.cells cu 3 (0, 0))) (hcm : cap ≤ maxLen) (hapart : ∀ i j (hi : i < hdrs.length) (hj : j < hdrs.length), i ≠ j → apart hdrs[i] hdrs[j])
    (hP : MinePost bw g cap h5x.length h5x v5x text px pf proof c4 v6 wx e w') : ∃ v5', Marking bw h w0 v5 text px pf proof c4 v6 hdrs cur (k + 1) v5' (h5x ++ [.slice (some ⟨g, 0, none⟩) cap cap]) w' := by
  obtain ⟨v5', hw', ho', hat⟩ := hP.at_
  obtain ⟨cug, hcug⟩ := hgt
  have hwt := hM.at_
  unfold WAt at hwt
  have hv5t : ∀ j, v5x.ownBlock = some j → ∃ cur, wx.heap[j]? = some (.cells cur 25 (0, 0)) := fun j hj => own_blk hM.o5 hj
  have hgown : (Value.slice (some ⟨g, 0, none⟩) cap cap).ownBlock = some g := rfl
  have hgown' : hdrs[k].ownBlock = some g := by rw [hkg]; rfl
  have hnT : ∀ x cs, wx.heap[x]? = some (.cells cs 3 (0, 0)) → x ≠ g → ¬ (x = bw ∨ x = g ∨ v5x.ownBlock = some x) := by
    intro x cs hx hne ht
    rcases ht with rfl | h | h
    · exact absurd (types_ne hwt hx) (by decide)
    · exact hne h
    · obtain ⟨c, hc⟩ := hv5t x h
      exact absurd (types_ne hc hx) (by decide)
  have hls : LsAt w' h5x := ls_keep hM.ls hP.only fun i hi x cs h1 h2 => hnT x cs h2 (fun e => hM.sep i hi k (Nat.le_refl _) hk x h1 (by rw [hgown', e]))
  refine ⟨v5', hw', ?_, by simpa using ho', ?_, ?_, ?_, ?_, ?_, ?_⟩
  · have h1 : Only (fun j => j = bw ∨ v5.ownBlock = some j) wx w' → Only (fun j => j = bw ∨ v5.ownBlock = some j) w0 w' := fun h => hM.only.trans h
    refine ⟨hP.only.os.trans hM.only.os, hP.only.tape.trans hM.only.tape, hP.only.output.trans hM.only.output, Nat.le_trans hM.only.size hP.only.size, fun j hj ht => ?_⟩
    rw [hP.only.block j (Nat.lt_of_lt_of_le hj hM.only.size) (fun h => ?_), hM.only.block j hj ht]
    rcases h with h | h | h
    · exact ht (Or.inl h)
    · omega
    · rcases hM.old with h2 | ⟨x, h2, h3⟩
      · exact ht (Or.inr (by rw [← h2]; exact h))
      · rw [h2] at h; simp at h; omega
  · intro i hi
    by_cases hil : i < h5x.length
    · obtain ⟨g', n', h1, h2, h3⟩ := hls i hil
      exact ⟨g', n', by rw [List.getElem_append_left hil]; exact h1, h2, h3⟩
    · have hie : i = h5x.length := by simp at hi; omega
      subst hie
      exact ⟨g, cap, by simp, hcm, hP.row⟩
  · rcases hat with h1 | ⟨x, h1, h2⟩
    · rw [h1]; exact hM.old
    · exact Or.inr ⟨x, h1, Nat.le_trans hM.only.size h2⟩
  · rcases hat with h1 | ⟨x, h1, h2⟩
    · rw [h1]; exact hM.noth
    · rw [h1]
      intro e
      simp at e
      have := blk_lt hM.row
      omega
  · rw [hP.only.block h (blk_lt hM.row) (fun ht => ?_)]
    · exact hM.row
    · rcases ht with rfl | rfl | ht
      · exact absurd (types_ne hwt hM.row) (by decide)
      · exact absurd (types_ne hcug hM.row) (by decide)
      · exact hM.noth ht
  · intro j hkj hj
    obtain ⟨g2, n2, cap2, cu2, h1, h2, h3, h4⟩ := hM.fresh j (by omega) hj
    refine ⟨g2, n2, cap2, cu2, h1, h2, ?_, h4⟩
    have hne : g2 ≠ g := fun e => hapart k j hk hj (by omega) g hgown' (by rw [h1, ← e]; rfl)
    rw [hP.only.block g2 (blk_lt h3) (hnT g2 cu2 h3 hne)]
    exact h3
  · intro i hi j hkj hj
    by_cases hil : i < h5x.length
    · rw [List.getElem_append_left hil]; exact hM.sep i hil j (by omega) hj
    · have hie : i = h5x.length := by simp at hi; omega
      subst hie
      intro x hx
      have hx' : x = g := by simp [Value.ownBlock] at hx; exact hx.symm
      subst hx'
      exact hapart k j hk hj (by omega) x hgown'

/-- While the headers of one answer are marked: i of them are. -/
structure Heading (bw h cap n6 : Nat) (w0 : World) (v5 : Value) (text : List UInt8) (px pf : Option Addr) (proof : List UInt8) (c4 v6 : Value) (i : Nat) (v5x : Value) (h5x : List Value) (wx : World) : Prop where
  at_ : WAt wx bw text px pf proof c4 v5x v6
  only : Only (fun j => j = bw ∨ v5.ownBlock = some j) w0 wx
  o5 : wx.ownsRow (bw + 1) 25 1 v5x h5x.length h5x
  ls : LsAt wx h5x
  old : v5x.ownBlock = v5.ownBlock ∨ ∃ j, v5x.ownBlock = some j ∧ w0.heap.size ≤ j
  noth : v5x.ownBlock ≠ some h
  row : ∃ cs, wx.heap[h]? = some (.cells cs 25 (0, 0)) ∧ cs.size = cap ∧ ∀ j, j < i → ∃ x, cs[j]? = some (.slice (some ⟨x, 0, none⟩) 2 2) ∧ wx.heap[x]? = some (.cells #[.int .i64 (n6 : Int), .int .i64 (j : Int)] 3 (0, 0))
theorem Heading.start {bw h cap n6 k : Nat} {w0 wx : World} {v5 v6 v5x : Value} {h5x : List Value} {text : List UInt8} {px pf : Option Addr} {proof : List UInt8} {c4 : Value} {hdrs : List Value} {cur : Array Value} (hM : Marking bw h w0 v5 text px pf proof c4 v6 hdrs cur k v5x h5x wx) (hc : cur.size = cap) : Heading bw h cap n6 w0 v5 text px pf proof c4 v6 0 v5x h5x wx :=
  ⟨hM.at_, hM.only, hM.o5, hM.ls, hM.old, hM.noth, cur, hM.row, hc, fun j hj => by omega⟩
theorem Heading.later {bw h cap n6 i : Nat} {w0 wx w' : World} {v5 v6 v5x : Value} {h5x : List Value} {text : List UInt8} {px pf : Option Addr} {proof : List UInt8} {c4 : Value} (hM : Heading bw h cap n6 w0 v5 text px pf proof c4 v6 i v5x h5x wx) (hb : Below wx.heap.size wx w') : Heading bw h cap n6 w0 v5 text px pf proof c4 v6 i v5x h5x w' := by
  obtain ⟨cs, h1, h2, h3⟩ := hM.row
  refine ⟨hM.at_.later hb, hM.only.trans (Only.of_below hb), own_below hM.o5 hb, hM.ls.later hb, hM.old, hM.noth, cs, (hb.block h (blk_lt h1)).trans h1, h2, fun j hj => ?_⟩
  obtain ⟨x, h4, h5⟩ := h3 j hj
  exact ⟨x, h4, (hb.block x (blk_lt h5)).trans h5⟩
theorem Heading.set {bw h cap n6 i x : Nat} {w0 wx : World} {v5 v6 v5x : Value} {h5x : List Value} {text : List UInt8} {px pf : Option Addr} {proof : List UInt8} {c4 : Value} (hM : Heading bw h cap n6 w0 v5 text px pf proof c4 v6 i v5x h5x wx) (hhw : w0.heap.size ≤ h) (hi : i < cap)
    (hx : wx.heap[x]? = some (.cells #[.int .i64 (n6 : Int), .int .i64 (i : Int)] 3 (0, 0))) : Heading bw h cap n6 w0 v5 text px pf proof c4 v6 (i + 1) v5x h5x (wx.setCell ⟨h, i, none⟩ (.slice (some ⟨x, 0, none⟩) 2 2)) := by
  obtain ⟨cs, h1, h2, h3⟩ := hM.row
  have hwt := hM.at_
  unfold WAt at hwt
  have ho : Only (· = h) wx (wx.setCell ⟨h, i, none⟩ (.slice (some ⟨x, 0, none⟩) 2 2)) := (Only.refl _ _).setAt _ _
  have hint : ∀ (y : Nat) (c : Array Value), wx.heap[y]? = some (.cells c 3 (0, 0)) → (wx.setCell ⟨h, i, none⟩ (.slice (some ⟨x, 0, none⟩) 2 2)).heap[y]? = some (.cells c 3 (0, 0)) := fun y c hy => by
    rw [ho.block y (blk_lt hy) (fun e => by subst e; exact absurd (types_ne hy h1) (by decide))]; exact hy
  refine ⟨(ho.block bw (blk_lt hwt) (fun e => by subst e; exact absurd (types_ne hwt h1) (by decide))).trans hwt, hM.only.setCell (p := ⟨h, i, none⟩) (Or.inr hhw) _, ?_, ?_, hM.old, hM.noth, _, blk_set h1 i _, by simpa using h2, ?_⟩
  · exact hM.o5.kept (row := some h) ⟨ho.os, ho.tape, ho.output, ho.size, fun j hj hne => ho.block j hj (fun e => hne (by rw [e]))⟩ (Or.inr hM.noth)
  · refine ls_keep hM.ls ho fun j hj g c hg hc e => ?_
    subst e
    exact absurd (types_ne hc h1) (by decide)
  · intro j hj
    by_cases hji : j = i
    · subst hji
      exact ⟨x, by simp [h2, hi], hint _ _ hx⟩
    · obtain ⟨y, h4, h5⟩ := h3 j (by omega)
      exact ⟨y, by rw [Array.getElem?_setIfInBounds_ne (by omega)]; exact h4, hint _ _ h5⟩
/-- What is left behind the last append. -/
theorem Heading.done {bw h cap : Nat} {w0 wx w4 : World} {v5 v6 v5x v6' : Value} {h5s h6s h5x : List Value} {text : List UInt8} {px pf : Option Addr} {proof : List UInt8} {c4 : Value} (hL : ListsAt bw w0 v5 v6 h5s h6s) (hw0 : WAt w0 bw text px pf proof c4 v5 v6) (hcm : cap ≤ maxLen) (hM : Heading bw h cap h6s.length w0 v5 text px pf proof c4 v6 cap v5x h5x wx)
    (hg : wx.grownBy w4 v6.ownBlock) (ho6 : w4.ownsRow (bw + 1) 56 1 v6' (h6s.length + 1) (h6s ++ [.slice (some ⟨h, 0, none⟩) cap cap])) :
    WAt (w4.setCell ⟨bw, 6, none⟩ v6') bw text px pf proof c4 v5x v6' ∧ ListsAt bw (w4.setCell ⟨bw, 6, none⟩ v6') v5x v6' h5x (h6s ++ [.slice (some ⟨h, 0, none⟩) cap cap]) ∧ Only (fun j => j = bw ∨ v5.ownBlock = some j ∨ v6.ownBlock = some j) w0 (w4.setCell ⟨bw, 6, none⟩ v6') := by
  have hwt := hM.at_
  have hwt' := hwt
  unfold WAt at hwt'
  have hw0' := hw0
  unfold WAt at hw0'
  -- the row of lss in the world at hand
  have hT : ∀ k, k < w0.heap.size → (k = bw ∨ v5.ownBlock = some k) → Foreign 0 w0 [3] k := fun k _ ht => by
    rcases ht with rfl | ht
    · exact Or.inr ⟨_, _, _, hw0', by decide⟩
    · obtain ⟨c, hc⟩ := own_blk hL.o5 ht
      exact Or.inr ⟨_, _, _, hc, by decide⟩
  have ho6x : wx.ownsRow (bw + 1) 56 1 v6 h6s.length h6s := own_only (ts := [56]) hL.o6 hM.only (by simp) (fun k _ ht => by
    rcases ht with rfl | ht
    · exact Or.inr ⟨_, _, _, hw0', by decide⟩
    · obtain ⟨c, hc⟩ := own_blk hL.o5 ht
      exact Or.inr ⟨_, _, _, hc, by decide⟩)
  have hlssx : LssAt wx h6s := lss_keep hL.lss hM.only (fun i hi g cs h1 h2 ht => by
    rcases ht with rfl | ht
    · exact absurd (types_ne hw0' h2) (by decide)
    · exact hL.ap i hi g ht h1) hT
  have hapx : ∀ i (hi : i < h6s.length), apart v5x h6s[i] := fun i hi x h1 h2 => by
    rcases hM.old with h3 | ⟨j, h3, h4⟩
    · exact hL.ap i hi x (by rw [← h3]; exact h1) h2
    · rw [h3] at h1
      simp at h1
      subst h1
      rcases hL.lss i hi with h5 | ⟨h', n, cs, h5, _, h6, _⟩
      · rw [h5] at h2; simp [Value.ownBlock] at h2
      · rw [h5] at h2
        simp [Value.ownBlock] at h2
        subst h2
        have := blk_lt h6
        omega
  have ho4 : Only (fun j => v6.ownBlock = some j) wx w4 := ⟨hg.os, hg.tape, hg.output, hg.size, fun k hk ht => hg.block k hk (fun e => ht e.symm)⟩
  have hbw6 : v6.ownBlock ≠ some bw := fun e => by have := (hL.o6.lt _ e).1; omega
  have hw4 : WAt w4 bw text px pf proof c4 v5x v6 := (ho4.block bw (blk_lt hwt') hbw6).trans hwt'
  have hoS : Only (fun j => j = bw ∨ v6.ownBlock = some j) wx (w4.setCell ⟨bw, 6, none⟩ v6') := (ho4.mono (T' := fun j => j = bw ∨ v6.ownBlock = some j) (fun k _ h => Or.inr h)).setCell (p := ⟨bw, 6, none⟩) (Or.inl (Or.inl rfl)) _
  have hTS : ∀ ts : List TypeId, 59 ∉ ts → 56 ∉ ts → ∀ b k, k < wx.heap.size → (k = bw ∨ v6.ownBlock = some k) → Foreign b wx ts k := fun ts h1 h2 b k _ ht => by
    rcases ht with rfl | ht
    · exact Or.inr ⟨_, _, _, hwt', h1⟩
    · obtain ⟨c, hc⟩ := own_blk ho6x ht
      exact Or.inr ⟨_, _, _, hc, h2⟩
  obtain ⟨cs, hr1, hr2, hr3⟩ := hM.row
  refine ⟨blk_set hw4 6 _, ⟨own_only (ts := [25]) hM.o5 hoS (by simp) (hTS _ (by decide) (by decide) _), by simpa using ownsRow_setCell_below ho6 (a := ⟨bw, 6, none⟩) (Nat.lt_succ_self bw) _, hM.ls.only hoS (hTS _ (by decide) (by decide) _), ?_, ?_⟩, ?_⟩
  · have hold : LssAt (w4.setCell ⟨bw, 6, none⟩ v6') h6s := lss_keep hlssx hoS (fun i hi g c h1 h2 ht => by
      rcases hTS [25] (by decide) (by decide) 0 g (blk_lt h2) ht with h | ⟨c', t, fr, h4, h5⟩
      · omega
      · exact h5 (by rw [types_ne h4 h2]; simp)) (hTS _ (by decide) (by decide) _)
    intro i hi
    by_cases hil : i < h6s.length
    · rw [List.getElem_append_left hil]; exact hold i hil
    · have hie : i = h6s.length := by simp at hi; omega
      subst hie
      rw [List.getElem_concat_length rfl]
      refine Or.inr ⟨h, cap, cs, rfl, hcm, blk_only (ts := [25]) hr1 (Nat.zero_le _) hoS (by simp) (hTS _ (by decide) (by decide) _), fun k hk => ?_⟩
      obtain ⟨x, h4, h5⟩ := hr3 k hk
      exact ⟨x, h4, blk_only (ts := [3]) h5 (Nat.zero_le _) hoS (by simp) (hTS _ (by decide) (by decide) _)⟩
  · intro i hi
    by_cases hil : i < h6s.length
    · rw [List.getElem_append_left hil]; exact hapx i hil
    · have hie : i = h6s.length := by simp at hi; omega
      subst hie
      rw [List.getElem_concat_length rfl]
      intro x h1 h2
      simp [Value.ownBlock] at h2
      subst h2
      exact hM.noth h1
  · refine (hM.only.mono (T' := fun j => j = bw ∨ v5.ownBlock = some j ∨ v6.ownBlock = some j) (fun k _ h => h.elim Or.inl (fun h => Or.inr (Or.inl h)))).trans (hoS.mono (fun k _ h => h.elim Or.inl (fun h => Or.inr (Or.inr h))))
end Go.Proofs.Ytbpolmdokdhkhaa
