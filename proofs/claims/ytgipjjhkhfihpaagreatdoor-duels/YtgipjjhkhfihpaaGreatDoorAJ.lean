import Derived.Test.YtgipjjhkhfihpaaGreatDoorAI
import Derived.Test.YtgipjjhkhfihpaaGreatDoorAG
import Derived.Test.YtgipjjhkhfihpaaGreatDoorAC
import Derived.Deep.QuietTactic
import Derived.BigQuiet
import Derived.Test.YtgipjjhkhfihpaaGreatDoorAH
namespace Go.Proofs.YtgipjjhkhfihpaaGreatDoor
open Go.RowKit

/-- Lists that were handed out, each with its own mark. -/
def LsAt (w : World) (hdrs : List Value) : Prop := ∀ i (hi : i < hdrs.length), ∃ g n, hdrs[i] = .slice (some ⟨g, 0, none⟩) n n ∧ n ≤ maxLen ∧ w.heap[g]? = some (.cells (marks n (-10 - (i : Int))) 3 (0, 0))
/-- Lists of lists that were handed out. -/
def LssAt (w : World) (hdrs : List Value) : Prop := ∀ i (hi : i < hdrs.length), hdrs[i] = .slice none 0 0 ∨ ∃ h n cs, hdrs[i] = .slice (some ⟨h, 0, none⟩) n n ∧ n ≤ maxLen ∧ w.heap[h]? = some (.cells cs 25 (0, 0)) ∧
  ∀ k, k < n → ∃ x, cs[k]? = some (.slice (some ⟨x, 0, none⟩) 2 2) ∧ w.heap[x]? = some (.cells #[.int .i64 (i : Int), .int .i64 (k : Int)] 3 (0, 0))
theorem marks_at (n : Nat) (x : Int) (k : Nat) (h : k < n) : (marks n x)[k]? = some (.int .i64 x) := by
  unfold marks; simp [h]

set_option maxRecDepth 100000 in
set_option maxHeartbeats 3200000 in
theorem looks_any (bw : Nat) (text : List UInt8) (px pf : Option Addr) (proof : List UInt8) (c4 v5 v6 : Value) (h5s h6s : List Value) (b5 b6 : Nat) (w : World) (hw : WAt w bw text px pf proof c4 v5 v6)
    (h5 : w.ownsRow b5 25 1 v5 h5s.length h5s) (h6 : w.ownsRow b6 45 1 v6 h6s.length h6s) (hls : LsAt w h5s) (hlss : LssAt w h6s) (hn5 : h5s.length ≤ 1073741824) (hn6 : h6s.length ≤ 1073741824) :
    Calls Tryz.prog 20 #[.pointer (some ⟨bw, 0, none⟩)] w fun e w' => e = .returned (.bool true) ∧ w' = w := by
  have k5 : w.cell? ⟨bw, 5, none⟩ = some v5 := by rw [blk_cell hw]; rfl
  have k6 : w.cell? ⟨bw, 6, none⟩ = some v6 := by rw [blk_cell hw]; rfl
  have HLS := hide hls
  have HLSS := hide hlss
  clear hls hlss
  obtain ⟨a5, c5, rfl⟩ := own_form h5
  obtain ⟨a6, c6, rfl⟩ := own_form h6
  go_enter Tryz.func20, Tryz.ntmps20
  go_wp2_with fail
  go_loopg [3] (h5s.length) (fun q i wx => ∃ k : Nat, i = .int .i64 k ∧ k + q = h5s.length ∧ wx = w)
  case atStart => exact ⟨0, rfl, by omega, rfl⟩
  case round =>
    obtain ⟨k, rfl, hk, hwx⟩ := hrel
    subst hwx
    obtain ⟨go, rfl⟩ : ∃ go, go = gk := ⟨_, rfl⟩
    by_cases hlt : k < h5s.length
    · obtain ⟨g5, c5', hV, hg5, hg5', _, hcell⟩ := own_pos h5 (by omega)
      injection hV with hV _ hV2
      subst hV hV2
      obtain ⟨g, n, he, hnm, hg⟩ := unhide HLS k hlt
      have hck : wr.cell? ⟨g5, k, none⟩ = some (.slice (some ⟨g, 0, none⟩) n n) := hcell k _ (by rw [List.getElem?_eq_getElem hlt, he])
      have hdk : decide ((k : Int) < (h5s.length : Int)) = true := by simp; omega
      have HE := hide he
      clear he hcell
      unfold maxLen at hnm
      go_wp2_with fail
      go_loopg [4] n (fun q i wx => ∃ j : Nat, i = .int .i64 j ∧ j + q = n ∧ wx = wr)
      case atStart => exact ⟨0, rfl, by omega, rfl⟩
      case round =>
        obtain ⟨j, rfl, hj, hwx⟩ := hrel
        subst hwx
        by_cases hjl : j < n
        · have hcj : wr.cell? ⟨g, j, none⟩ = some (.int .i64 (-10 - (k : Int))) := by rw [blk_cell hg]; exact marks_at n _ j hjl
          have hdj : decide ((j : Int) < (n : Int)) = true := by simp; omega
          have hmk : (-10 - (k : Int) != -10 - (k : Int)) = false := by simp
          go_wp2_with fail
          go_roundg (gk - 1)
          case measure => omega
          case rel => exact ⟨j + 1, by go_num, by omega, rfl⟩
        · have hdj : decide ((j : Int) < (n : Int)) = false := by simp; omega
          have hjn : j ≤ n := by omega
          go_wp2_with fail
          go_roundg (go - 1)
          case measure => omega
          case rel => exact ⟨k + 1, by go_num, by omega, rfl⟩
    · have hkl : k = h5s.length := by omega
      subst hkl
      have hdk : decide ((h5s.length : Int) < (h5s.length : Int)) = false := by simp
      go_wp2_with fail
      go_loopg [5] (h6s.length) (fun q i wx => ∃ k : Nat, i = .int .i64 k ∧ k + q = h6s.length ∧ wx = wr)
      case atStart => exact ⟨0, rfl, by omega, rfl⟩
      case round =>
        obtain ⟨k, rfl, hk6, hwx⟩ := hrel
        subst hwx
        obtain ⟨go6, rfl⟩ : ∃ go6, go6 = gk := ⟨_, rfl⟩
        by_cases hlt6 : k < h6s.length
        · obtain ⟨g6, c6', hV, hg6, hg6', _, hcell⟩ := own_pos h6 (by omega)
          injection hV with hV _ hV2
          subst hV hV2
          have hdk6 : decide ((k : Int) < (h6s.length : Int)) = true := by simp; omega
          rcases unhide HLSS k hlt6 with he | ⟨h, n, cs, he, hnm, hh, hx⟩
          · have hck : wr.cell? ⟨g6, k, none⟩ = some (.slice none 0 0) := hcell k _ (by rw [List.getElem?_eq_getElem hlt6, he])
            clear he hcell
            go_wp2_with fail
            refine wp_loop_rounds 1 ?_
            rw [rounds_succ]
            go_wp2_with fail
            go_roundg (go6 - 1)
            case measure => omega
            case rel => exact ⟨k + 1, by go_num, by omega, rfl⟩
          · have hck : wr.cell? ⟨g6, k, none⟩ = some (.slice (some ⟨h, 0, none⟩) n n) := hcell k _ (by rw [List.getElem?_eq_getElem hlt6, he])
            have HX := hide hx
            clear he hcell hx
            unfold maxLen at hnm
            go_wp2_with fail
            go_loopg [6] n (fun q i wx => ∃ j : Nat, i = .int .i64 j ∧ j + q = n ∧ wx = wr)
            case atStart => exact ⟨0, rfl, by omega, rfl⟩
            case round =>
              obtain ⟨j, rfl, hj, hwx⟩ := hrel
              subst hwx
              by_cases hjl : j < n
              · obtain ⟨x, hx1, hx2⟩ := unhide HX j hjl
                have hcj : wr.cell? ⟨h, j, none⟩ = some (.slice (some ⟨x, 0, none⟩) 2 2) := by rw [blk_cell hh]; exact hx1
                have hy0 : wr.cell? ⟨x, 0, none⟩ = some (.int .i64 (k : Int)) := by rw [blk_cell hx2]; rfl
                have hy1 : wr.cell? ⟨x, 1, none⟩ = some (.int .i64 (j : Int)) := by rw [blk_cell hx2]; rfl
                have hdj : decide ((j : Int) < (n : Int)) = true := by simp; omega
                have hm1 : ((k : Int) != (k : Int)) = false := by simp
                have hm2 : ((j : Int) != (j : Int)) = false := by simp
                go_wp2_with fail
                go_roundg (gk - 1)
                case measure => omega
                case rel => exact ⟨j + 1, by go_num, by omega, rfl⟩
              · have hdj : decide ((j : Int) < (n : Int)) = false := by simp; omega
                have hjn : j ≤ n := by omega
                go_wp2_with fail
                go_roundg (go6 - 1)
                case measure => omega
                case rel => exact ⟨k + 1, by go_num, by omega, rfl⟩
        · have hkl : k = h6s.length := by omega
          subst hkl
          have hdk6 : decide ((h6s.length : Int) < (h6s.length : Int)) = false := by simp
          go_wp2_with fail
          go_ret
          exact ⟨rfl, rfl⟩
end Go.Proofs.YtgipjjhkhfihpaaGreatDoor

namespace Go.Proofs.YtgipjjhkhfihpaaGreatDoor
open Go.RowKit

/-! ### Lists that were handed out, in memory -/
def listTypes : List TypeId := [3, 25, 45]
theorem own_blk {w : World} {base : Nat} {e : TypeId} {size : Nat} {v : Value} {n : Nat} {xs : List Value} (h : w.ownsRow base e size v n xs) {k : Nat} (hk : v.ownBlock = some k) : ∃ cur, w.heap[k]? = some (.cells cur e (0, 0)) := by
  rcases h.2 with ⟨rfl, _⟩ | ⟨g, cap, cur, rfl, _, hh, _⟩
  · simp [Value.ownBlock] at hk
  · simp [Value.ownBlock] at hk
    subst hk
    exact ⟨cur, hh⟩
theorem types_ne {w : World} {k : Nat} {c1 c2 : Array Value} {t1 t2 : TypeId} {f1 f2 : Nat × Nat} (h1 : w.heap[k]? = some (.cells c1 t1 f1)) (h2 : w.heap[k]? = some (.cells c2 t2 f2)) : t1 = t2 := by
  rw [h1] at h2; simp at h2; exact h2.2.1
theorem ls_keep {w w' : World} {T : Nat → Prop} {hdrs : List Value} (h : LsAt w hdrs) (ho : Only T w w') (hT : ∀ i (hi : i < hdrs.length) g cs, hdrs[i].ownBlock = some g → w.heap[g]? = some (.cells cs 3 (0, 0)) → ¬ T g) : LsAt w' hdrs := by
  intro i hi
  obtain ⟨g, n, h1, h2, h3⟩ := h i hi
  refine ⟨g, n, h1, h2, ?_⟩
  rw [ho.block g (blk_lt h3) (hT i hi g _ (by rw [h1]; rfl) h3)]
  exact h3
theorem LsAt.only {w w' : World} {T : Nat → Prop} {hdrs : List Value} (h : LsAt w hdrs) (ho : Only T w w') (hT : ∀ k, k < w.heap.size → T k → Foreign 0 w [3] k) : LsAt w' hdrs := by
  refine ls_keep h ho fun i hi g cs h1 h2 ht => ?_
  rcases hT g (blk_lt h2) ht with h | ⟨c, t, fr, h4, h5⟩
  · omega
  · exact h5 (by rw [types_ne h4 h2]; simp)
theorem LsAt.later {w w' : World} {hdrs : List Value} (h : LsAt w hdrs) (hb : Below w.heap.size w w') : LsAt w' hdrs :=
  h.only (T := fun _ => False) (Only.of_below hb) (fun _ _ h => h.elim)
theorem lss_keep {w w' : World} {T : Nat → Prop} {hdrs : List Value} (h : LssAt w hdrs) (ho : Only T w w') (hT : ∀ i (hi : i < hdrs.length) g cs, hdrs[i].ownBlock = some g → w.heap[g]? = some (.cells cs 25 (0, 0)) → ¬ T g) (hI : ∀ k, k < w.heap.size → T k → Foreign 0 w [3] k) : LssAt w' hdrs := by
  intro i hi
  rcases h i hi with h0 | ⟨h', n, cs, h1, h2, h3, h4⟩
  · exact Or.inl h0
  · refine Or.inr ⟨h', n, cs, h1, h2, ?_, fun k hk => ?_⟩
    · rw [ho.block h' (blk_lt h3) (hT i hi h' _ (by rw [h1]; rfl) h3)]
      exact h3
    · obtain ⟨x, h5, h6⟩ := h4 k hk
      exact ⟨x, h5, blk_only h6 (Nat.zero_le _) ho (by simp) hI⟩
theorem LssAt.later {w w' : World} {hdrs : List Value} (h : LssAt w hdrs) (hb : Below w.heap.size w w') : LssAt w' hdrs :=
  lss_keep h (T := fun _ => False) (Only.of_below hb) (fun _ _ _ _ _ _ h => h.elim) (fun _ _ h => h.elim)

/-- All lists of the law's world. -/
structure ListsAt (bw : Nat) (w : World) (v5 v6 : Value) (h5s h6s : List Value) : Prop where
  o5 : w.ownsRow (bw + 1) 25 1 v5 h5s.length h5s
  o6 : w.ownsRow (bw + 1) 45 1 v6 h6s.length h6s
  ls : LsAt w h5s
  lss : LssAt w h6s
  ap : ∀ i (hi : i < h6s.length), apart v5 h6s[i]
theorem ListsAt.only {bw : Nat} {w w' : World} {v5 v6 : Value} {h5s h6s : List Value} {T : Nat → Prop} (h : ListsAt bw w v5 v6 h5s h6s) (ho : Only T w w') (hT : ∀ k, k < w.heap.size → T k → Foreign 0 w listTypes k) : ListsAt bw w' v5 v6 h5s h6s := by
  have hw : ∀ (b : Nat) (ts : List TypeId), (∀ t, t ∈ ts → t ∈ listTypes) → ∀ k, k < w.heap.size → T k → Foreign b w ts k := fun b ts hts k hk ht => by
    rcases hT k hk ht with h | ⟨c, t, fr, h4, h5⟩
    · omega
    · exact Or.inr ⟨c, t, fr, h4, fun h => h5 (hts t h)⟩
  have hin : ∀ t, t ∈ [3] → t ∈ listTypes := by decide
  refine ⟨own_only h.o5 ho (ts := [25]) (by simp) (hw _ _ (by decide)), own_only h.o6 ho (ts := [45]) (by simp) (hw _ _ (by decide)), h.ls.only ho (hw _ _ hin), lss_keep h.lss ho ?_ (hw _ _ hin), h.ap⟩
  intro i hi g cs h1 h2 ht
  rcases hw 0 [25] (by decide) g (blk_lt h2) ht with h | ⟨c, t, fr, h4, h5⟩
  · omega
  · exact h5 (by rw [types_ne h4 h2]; simp)
theorem ListsAt.later {bw : Nat} {w w' : World} {v5 v6 : Value} {h5s h6s : List Value} (h : ListsAt bw w v5 v6 h5s h6s) (hb : Below w.heap.size w w') : ListsAt bw w' v5 v6 h5s h6s :=
  h.only (T := fun _ => False) (Only.of_below hb) (fun _ _ h => h.elim)
theorem world_foreign {bw : Nat} {w : World} {text : List UInt8} {px pf : Option Addr} {proof : List UInt8} {c4 c5 c6 : Value} (h : WAt w bw text px pf proof c4 c5 c6) (ts : List TypeId) (hts : 48 ∉ ts) (b : Nat) : ∀ k, k < w.heap.size → k = bw → Foreign b w ts k :=
  fun k _ e => by subst e; exact Or.inr ⟨_, _, _, h, hts⟩

/-- What holds while the rows of one answer are marked: k of them are. -/
structure Marking (bw h : Nat) (w0 : World) (v5 : Value) (text : List UInt8) (px pf : Option Addr) (proof : List UInt8) (c4 v6 : Value) (hdrs : List Value) (cur : Array Value) (k : Nat) (v5x : Value) (h5x : List Value) (wx : World) : Prop where
  at_ : WAt wx bw text px pf proof c4 v5x v6
  only : Only (fun j => j = bw ∨ v5.ownBlock = some j) w0 wx
  o5 : wx.ownsRow (bw + 1) 25 1 v5x h5x.length h5x
  ls : LsAt wx h5x
  old : v5x.ownBlock = v5.ownBlock ∨ ∃ j, v5x.ownBlock = some j ∧ w0.heap.size ≤ j
  noth : v5x.ownBlock ≠ some h
  row : wx.heap[h]? = some (.cells cur 25 (0, 0))
  fresh : ∀ j, k ≤ j → (hj : j < hdrs.length) → ∃ g n cap cu, hdrs[j] = .slice (some ⟨g, 0, none⟩) n cap ∧ w0.heap.size ≤ g ∧ wx.heap[g]? = some (.cells cu 3 (0, 0)) ∧ cu.size = cap ∧ n ≤ cap ∧ cap ≤ maxLen
  sep : ∀ i (hi : i < h5x.length) j, k ≤ j → (hj : j < hdrs.length) → apart h5x[i] hdrs[j]

theorem Marking.start {bw h base : Nat} {w0 wx : World} {v5 v6 : Value} {h5s h6s : List Value} {text : List UInt8} {px pf : Option Addr} {proof : List UInt8} {c4 : Value} {hdrs : List Value} {cur : Array Value} {bs : List (List Nat)} (hw : WAt w0 bw text px pf proof c4 v5 v6) (hL : ListsAt bw w0 v5 v6 h5s h6s) (hb : Below w0.heap.size w0 wx)
    (hbase : w0.heap.size = base) (hh : base ≤ h) (hrow : wx.heap[h]? = some (.cells cur 25 (0, 0))) (hR : RowsAt base wx bs hdrs) : Marking bw h w0 v5 text px pf proof c4 v6 hdrs cur 0 v5 h5s wx := by
  subst hbase
  have h5lt := hL.o5.lt
  refine ⟨hw.later hb, Only.of_below hb, own_below hL.o5 hb, hL.ls.later hb, Or.inl rfl, fun e => ?_, hrow, fun j _ hj => ?_, fun i hi j _ hj k h1 h2 => ?_⟩
  · have := (h5lt h e).2; omega
  · have hl := hR.len
    obtain ⟨hr, hne⟩ := hR.row j (by omega)
    rcases hr.2 with ⟨_, h0⟩ | ⟨g, cap, cu, h1, h2, h3, h4, h5, h6, _⟩
    · exact absurd (List.length_eq_zero_iff.1 h0) hne
    · exact ⟨g, _, cap, cu, h1, h2, h3, by simpa using h6, h4, h5⟩
  · obtain ⟨g, n, e1, _, e2⟩ := hL.ls i hi
    have hl := hR.len
    have := ((hR.row j (by omega)).1.lt k h2).1
    rw [e1] at h1
    simp [Value.ownBlock] at h1
    subst h1
    have := blk_lt e2
    omega

theorem Marking.mine {bw h g n cap k : Nat} {w0 wx w' : World} {v5 v6 v5x : Value} {h5x : List Value} {text : List UInt8} {px pf : Option Addr} {proof : List UInt8} {c4 : Value} {hdrs : List Value} {cur : Array Value} {e : Ending} (hM : Marking bw h w0 v5 text px pf proof c4 v6 hdrs cur k v5x h5x wx)
    (_hhw : w0.heap.size ≤ h) (hk : k < hdrs.length) (hkg : hdrs[k] = .slice (some ⟨g, 0, none⟩) n cap) (hg0 : w0.heap.size ≤ g) (hgt : ∃ cu, wx.heap[g]? = some (.cells cu 3 (0, 0))) (hcm : cap ≤ maxLen) (hapart : ∀ i j (hi : i < hdrs.length) (hj : j < hdrs.length), i ≠ j → apart hdrs[i] hdrs[j])
    (hP : MinePost bw g cap h5x.length h5x v5x text px pf proof c4 v6 wx e w') : ∃ v5', Marking bw h w0 v5 text px pf proof c4 v6 hdrs cur (k + 1) v5' (h5x ++ [.slice (some ⟨g, 0, none⟩) cap cap]) w' := by
  obtain ⟨v5', hw', ho', hat⟩ := hP.at_
  obtain ⟨cug, hcug⟩ := hgt
  have hwt := hM.at_
  unfold WAt at hwt
  have hv5t : ∀ j, v5x.ownBlock = some j → ∃ cur, wx.heap[j]? = some (.cells cur 25 (0, 0)) := fun j hj => own_blk hM.o5 hj
  have hgown : (Value.slice (some ⟨g, 0, none⟩) cap cap).ownBlock = some g := rfl
  have hgown' : hdrs[k].ownBlock = some g := by rw [hkg]; rfl
  have hnT : ∀ x cs, wx.heap[x]? = some (.cells cs 3 (0, 0)) → x ≠ g → ¬ (x = bw ∨ x = g ∨ v5x.ownBlock = some x) := by
    intro x cs hx hne ht
    rcases ht with rfl | h | h
    · exact absurd (types_ne hwt hx) (by decide)
    · exact hne h
    · obtain ⟨c, hc⟩ := hv5t x h
      exact absurd (types_ne hc hx) (by decide)
  have hls : LsAt w' h5x := ls_keep hM.ls hP.only fun i hi x cs h1 h2 => hnT x cs h2 (fun e => hM.sep i hi k (Nat.le_refl _) hk x h1 (by rw [hgown', e]))
  refine ⟨v5', hw', ?_, by simpa using ho', ?_, ?_, ?_, ?_, ?_, ?_⟩
  · have h1 : Only (fun j => j = bw ∨ v5.ownBlock = some j) wx w' → Only (fun j => j = bw ∨ v5.ownBlock = some j) w0 w' := fun h => hM.only.trans h
    refine ⟨hP.only.os.trans hM.only.os, hP.only.tape.trans hM.only.tape, hP.only.output.trans hM.only.output, Nat.le_trans hM.only.size hP.only.size, fun j hj ht => ?_⟩
    rw [hP.only.block j (Nat.lt_of_lt_of_le hj hM.only.size) (fun h => ?_), hM.only.block j hj ht]
    rcases h with h | h | h
    · exact ht (Or.inl h)
    · omega
    · rcases hM.old with h2 | ⟨x, h2, h3⟩
      · exact ht (Or.inr (by rw [← h2]; exact h))
      · rw [h2] at h; simp at h; omega
  · intro i hi
    by_cases hil : i < h5x.length
    · obtain ⟨g', n', h1, h2, h3⟩ := hls i hil
      exact ⟨g', n', by rw [List.getElem_append_left hil]; exact h1, h2, h3⟩
    · have hie : i = h5x.length := by simp at hi; omega
      subst hie
      exact ⟨g, cap, by simp, hcm, hP.row⟩
  · rcases hat with h1 | ⟨x, h1, h2⟩
    · rw [h1]; exact hM.old
    · exact Or.inr ⟨x, h1, Nat.le_trans hM.only.size h2⟩
  · rcases hat with h1 | ⟨x, h1, h2⟩
    · rw [h1]; exact hM.noth
    · rw [h1]
      intro e
      simp at e
      have := blk_lt hM.row
      omega
  · rw [hP.only.block h (blk_lt hM.row) (fun ht => ?_)]
    · exact hM.row
    · rcases ht with rfl | rfl | ht
      · exact absurd (types_ne hwt hM.row) (by decide)
      · exact absurd (types_ne hcug hM.row) (by decide)
      · exact hM.noth ht
  · intro j hkj hj
    obtain ⟨g2, n2, cap2, cu2, h1, h2, h3, h4⟩ := hM.fresh j (by omega) hj
    refine ⟨g2, n2, cap2, cu2, h1, h2, ?_, h4⟩
    have hne : g2 ≠ g := fun e => hapart k j hk hj (by omega) g hgown' (by rw [h1, ← e]; rfl)
    rw [hP.only.block g2 (blk_lt h3) (hnT g2 cu2 h3 hne)]
    exact h3
  · intro i hi j hkj hj
    by_cases hil : i < h5x.length
    · rw [List.getElem_append_left hil]; exact hM.sep i hil j (by omega) hj
    · have hie : i = h5x.length := by simp at hi; omega
      subst hie
      intro x hx
      have hx' : x = g := by simp [Value.ownBlock] at hx; exact hx.symm
      subst hx'
      exact hapart k j hk hj (by omega) x hgown'

/-- While the headers of one answer are marked: i of them are. -/
structure Heading (bw h cap n6 : Nat) (w0 : World) (v5 : Value) (text : List UInt8) (px pf : Option Addr) (proof : List UInt8) (c4 v6 : Value) (i : Nat) (v5x : Value) (h5x : List Value) (wx : World) : Prop where
  at_ : WAt wx bw text px pf proof c4 v5x v6
  only : Only (fun j => j = bw ∨ v5.ownBlock = some j) w0 wx
  o5 : wx.ownsRow (bw + 1) 25 1 v5x h5x.length h5x
  ls : LsAt wx h5x
  old : v5x.ownBlock = v5.ownBlock ∨ ∃ j, v5x.ownBlock = some j ∧ w0.heap.size ≤ j
  noth : v5x.ownBlock ≠ some h
  row : ∃ cs, wx.heap[h]? = some (.cells cs 25 (0, 0)) ∧ cs.size = cap ∧ ∀ j, j < i → ∃ x, cs[j]? = some (.slice (some ⟨x, 0, none⟩) 2 2) ∧ wx.heap[x]? = some (.cells #[.int .i64 (n6 : Int), .int .i64 (j : Int)] 3 (0, 0))
theorem Heading.start {bw h cap n6 k : Nat} {w0 wx : World} {v5 v6 v5x : Value} {h5x : List Value} {text : List UInt8} {px pf : Option Addr} {proof : List UInt8} {c4 : Value} {hdrs : List Value} {cur : Array Value} (hM : Marking bw h w0 v5 text px pf proof c4 v6 hdrs cur k v5x h5x wx) (hc : cur.size = cap) : Heading bw h cap n6 w0 v5 text px pf proof c4 v6 0 v5x h5x wx :=
  ⟨hM.at_, hM.only, hM.o5, hM.ls, hM.old, hM.noth, cur, hM.row, hc, fun j hj => by omega⟩
theorem Heading.later {bw h cap n6 i : Nat} {w0 wx w' : World} {v5 v6 v5x : Value} {h5x : List Value} {text : List UInt8} {px pf : Option Addr} {proof : List UInt8} {c4 : Value} (hM : Heading bw h cap n6 w0 v5 text px pf proof c4 v6 i v5x h5x wx) (hb : Below wx.heap.size wx w') : Heading bw h cap n6 w0 v5 text px pf proof c4 v6 i v5x h5x w' := by
  obtain ⟨cs, h1, h2, h3⟩ := hM.row
  refine ⟨hM.at_.later hb, hM.only.trans (Only.of_below hb), own_below hM.o5 hb, hM.ls.later hb, hM.old, hM.noth, cs, (hb.block h (blk_lt h1)).trans h1, h2, fun j hj => ?_⟩
  obtain ⟨x, h4, h5⟩ := h3 j hj
  exact ⟨x, h4, (hb.block x (blk_lt h5)).trans h5⟩
theorem Heading.set {bw h cap n6 i x : Nat} {w0 wx : World} {v5 v6 v5x : Value} {h5x : List Value} {text : List UInt8} {px pf : Option Addr} {proof : List UInt8} {c4 : Value} (hM : Heading bw h cap n6 w0 v5 text px pf proof c4 v6 i v5x h5x wx) (hhw : w0.heap.size ≤ h) (hi : i < cap)
    (hx : wx.heap[x]? = some (.cells #[.int .i64 (n6 : Int), .int .i64 (i : Int)] 3 (0, 0))) : Heading bw h cap n6 w0 v5 text px pf proof c4 v6 (i + 1) v5x h5x (wx.setCell ⟨h, i, none⟩ (.slice (some ⟨x, 0, none⟩) 2 2)) := by
  obtain ⟨cs, h1, h2, h3⟩ := hM.row
  have hwt := hM.at_
  unfold WAt at hwt
  have ho : Only (· = h) wx (wx.setCell ⟨h, i, none⟩ (.slice (some ⟨x, 0, none⟩) 2 2)) := (Only.refl _ _).setAt _ _
  have hint : ∀ (y : Nat) (c : Array Value), wx.heap[y]? = some (.cells c 3 (0, 0)) → (wx.setCell ⟨h, i, none⟩ (.slice (some ⟨x, 0, none⟩) 2 2)).heap[y]? = some (.cells c 3 (0, 0)) := fun y c hy => by
    rw [ho.block y (blk_lt hy) (fun e => by subst e; exact absurd (types_ne hy h1) (by decide))]; exact hy
  refine ⟨(ho.block bw (blk_lt hwt) (fun e => by subst e; exact absurd (types_ne hwt h1) (by decide))).trans hwt, hM.only.setCell (p := ⟨h, i, none⟩) (Or.inr hhw) _, ?_, ?_, hM.old, hM.noth, _, blk_set h1 i _, by simpa using h2, ?_⟩
  · exact hM.o5.kept (row := some h) ⟨ho.os, ho.tape, ho.output, ho.size, fun j hj hne => ho.block j hj (fun e => hne (by rw [e]))⟩ (Or.inr hM.noth)
  · refine ls_keep hM.ls ho fun j hj g c hg hc e => ?_
    subst e
    exact absurd (types_ne hc h1) (by decide)
  · intro j hj
    by_cases hji : j = i
    · subst hji
      exact ⟨x, by simp [h2, hi], hint _ _ hx⟩
    · obtain ⟨y, h4, h5⟩ := h3 j (by omega)
      exact ⟨y, by rw [Array.getElem?_setIfInBounds_ne (by omega)]; exact h4, hint _ _ h5⟩
/-- What is left behind the last append. -/
theorem Heading.done {bw h cap : Nat} {w0 wx w4 : World} {v5 v6 v5x v6' : Value} {h5s h6s h5x : List Value} {text : List UInt8} {px pf : Option Addr} {proof : List UInt8} {c4 : Value} (hL : ListsAt bw w0 v5 v6 h5s h6s) (hw0 : WAt w0 bw text px pf proof c4 v5 v6) (hcm : cap ≤ maxLen) (hM : Heading bw h cap h6s.length w0 v5 text px pf proof c4 v6 cap v5x h5x wx)
    (hg : wx.grownBy w4 v6.ownBlock) (ho6 : w4.ownsRow (bw + 1) 45 1 v6' (h6s.length + 1) (h6s ++ [.slice (some ⟨h, 0, none⟩) cap cap])) :
    WAt (w4.setCell ⟨bw, 6, none⟩ v6') bw text px pf proof c4 v5x v6' ∧ ListsAt bw (w4.setCell ⟨bw, 6, none⟩ v6') v5x v6' h5x (h6s ++ [.slice (some ⟨h, 0, none⟩) cap cap]) ∧ Only (fun j => j = bw ∨ v5.ownBlock = some j ∨ v6.ownBlock = some j) w0 (w4.setCell ⟨bw, 6, none⟩ v6') := by
  have hwt := hM.at_
  have hwt' := hwt
  unfold WAt at hwt'
  have hw0' := hw0
  unfold WAt at hw0'
  -- the row of lss in the world at hand
  have hT : ∀ k, k < w0.heap.size → (k = bw ∨ v5.ownBlock = some k) → Foreign 0 w0 [3] k := fun k _ ht => by
    rcases ht with rfl | ht
    · exact Or.inr ⟨_, _, _, hw0', by decide⟩
    · obtain ⟨c, hc⟩ := own_blk hL.o5 ht
      exact Or.inr ⟨_, _, _, hc, by decide⟩
  have ho6x : wx.ownsRow (bw + 1) 45 1 v6 h6s.length h6s := own_only (ts := [45]) hL.o6 hM.only (by simp) (fun k _ ht => by
    rcases ht with rfl | ht
    · exact Or.inr ⟨_, _, _, hw0', by decide⟩
    · obtain ⟨c, hc⟩ := own_blk hL.o5 ht
      exact Or.inr ⟨_, _, _, hc, by decide⟩)
  have hlssx : LssAt wx h6s := lss_keep hL.lss hM.only (fun i hi g cs h1 h2 ht => by
    rcases ht with rfl | ht
    · exact absurd (types_ne hw0' h2) (by decide)
    · exact hL.ap i hi g ht h1) hT
  have hapx : ∀ i (hi : i < h6s.length), apart v5x h6s[i] := fun i hi x h1 h2 => by
    rcases hM.old with h3 | ⟨j, h3, h4⟩
    · exact hL.ap i hi x (by rw [← h3]; exact h1) h2
    · rw [h3] at h1
      simp at h1
      subst h1
      rcases hL.lss i hi with h5 | ⟨h', n, cs, h5, _, h6, _⟩
      · rw [h5] at h2; simp [Value.ownBlock] at h2
      · rw [h5] at h2
        simp [Value.ownBlock] at h2
        subst h2
        have := blk_lt h6
        omega
  have ho4 : Only (fun j => v6.ownBlock = some j) wx w4 := ⟨hg.os, hg.tape, hg.output, hg.size, fun k hk ht => hg.block k hk (fun e => ht e.symm)⟩
  have hbw6 : v6.ownBlock ≠ some bw := fun e => by have := (hL.o6.lt _ e).1; omega
  have hw4 : WAt w4 bw text px pf proof c4 v5x v6 := (ho4.block bw (blk_lt hwt') hbw6).trans hwt'
  have hoS : Only (fun j => j = bw ∨ v6.ownBlock = some j) wx (w4.setCell ⟨bw, 6, none⟩ v6') := (ho4.mono (T' := fun j => j = bw ∨ v6.ownBlock = some j) (fun k _ h => Or.inr h)).setCell (p := ⟨bw, 6, none⟩) (Or.inl (Or.inl rfl)) _
  have hTS : ∀ ts : List TypeId, 48 ∉ ts → 45 ∉ ts → ∀ b k, k < wx.heap.size → (k = bw ∨ v6.ownBlock = some k) → Foreign b wx ts k := fun ts h1 h2 b k _ ht => by
    rcases ht with rfl | ht
    · exact Or.inr ⟨_, _, _, hwt', h1⟩
    · obtain ⟨c, hc⟩ := own_blk ho6x ht
      exact Or.inr ⟨_, _, _, hc, h2⟩
  obtain ⟨cs, hr1, hr2, hr3⟩ := hM.row
  refine ⟨blk_set hw4 6 _, ⟨own_only (ts := [25]) hM.o5 hoS (by simp) (hTS _ (by decide) (by decide) _), by simpa using ownsRow_setCell_below ho6 (a := ⟨bw, 6, none⟩) (Nat.lt_succ_self bw) _, hM.ls.only hoS (hTS _ (by decide) (by decide) _), ?_, ?_⟩, ?_⟩
  · have hold : LssAt (w4.setCell ⟨bw, 6, none⟩ v6') h6s := lss_keep hlssx hoS (fun i hi g c h1 h2 ht => by
      rcases hTS [25] (by decide) (by decide) 0 g (blk_lt h2) ht with h | ⟨c', t, fr, h4, h5⟩
      · omega
      · exact h5 (by rw [types_ne h4 h2]; simp)) (hTS _ (by decide) (by decide) _)
    intro i hi
    by_cases hil : i < h6s.length
    · rw [List.getElem_append_left hil]; exact hold i hil
    · have hie : i = h6s.length := by simp at hi; omega
      subst hie
      rw [List.getElem_concat_length rfl]
      refine Or.inr ⟨h, cap, cs, rfl, hcm, blk_only (ts := [25]) hr1 (Nat.zero_le _) hoS (by simp) (hTS _ (by decide) (by decide) _), fun k hk => ?_⟩
      obtain ⟨x, h4, h5⟩ := hr3 k hk
      exact ⟨x, h4, blk_only (ts := [3]) h5 (Nat.zero_le _) hoS (by simp) (hTS _ (by decide) (by decide) _)⟩
  · intro i hi
    by_cases hil : i < h6s.length
    · rw [List.getElem_append_left hil]; exact hapx i hil
    · have hie : i = h6s.length := by simp at hi; omega
      subst hie
      rw [List.getElem_concat_length rfl]
      intro x h1 h2
      simp [Value.ownBlock] at h2
      subst h2
      exact hM.noth h1
  · refine (hM.only.mono (T' := fun j => j = bw ∨ v5.ownBlock = some j ∨ v6.ownBlock = some j) (fun k _ h => h.elim Or.inl (fun h => Or.inr (Or.inl h)))).trans (hoS.mono (fun k _ h => h.elim Or.inl (fun h => Or.inr (Or.inr h))))
end Go.Proofs.YtgipjjhkhfihpaaGreatDoor

namespace Go.Proofs.YtgipjjhkhfihpaaGreatDoor
open Go.RowKit

/-! ### What rests on blocks that no one writes -/
/-- It holds, and will as long as the blocks of Z are left alone. -/
def Firm (Z : Nat → Prop) (A : World → Prop) (w : World) : Prop := ∀ (T : Nat → Prop) (w' : World), Only T w w' → (∀ k, Z k → ¬ T k) → A w'
theorem Firm.now {Z : Nat → Prop} {A : World → Prop} {w : World} (h : Firm Z A w) : A w := h (fun _ => False) w (Only.refl _ _) (fun _ _ h => h)
theorem Only.join {T T' : Nat → Prop} {a b c : World} (h : Only T a b) (k : Only T' b c) : Only (fun i => T i ∨ T' i) a c :=
  ⟨k.os.trans h.os, k.tape.trans h.tape, k.output.trans h.output, Nat.le_trans h.size k.size, fun i hi ht => (k.block i (Nat.lt_of_lt_of_le hi h.size) (fun e => ht (Or.inr e))).trans (h.block i hi (fun e => ht (Or.inl e)))⟩
theorem Firm.step {Z T : Nat → Prop} {A : World → Prop} {w w' : World} (h : Firm Z A w) (ho : Only T w w') (hT : ∀ k, Z k → ¬ T k) : Firm Z A w' :=
  fun _ w2 ho2 hT2 => h _ w2 (ho.join ho2) (fun k hk e => e.elim (hT k hk) (hT2 k hk))
theorem Firm.grow {Z Z' : Nat → Prop} {A : World → Prop} {w : World} (h : Firm Z A w) (hz : ∀ k, Z k → Z' k) : Firm Z' A w :=
  fun T w' ho hT => h T w' ho (fun k hk => hT k (hz k hk))
theorem Firm.imp {Z : Nat → Prop} {A B : World → Prop} {w : World} (h : Firm Z A w) (f : ∀ w, A w → B w) : Firm Z B w := fun T w' ho hT => f w' (h T w' ho hT)
theorem firm_own {Z : Nat → Prop} {w : World} {base : Nat} {e : TypeId} {size : Nat} {v : Value} {n : Nat} {xs : List Value} (h : w.ownsRow base e size v n xs) (hz : ∀ k, v.ownBlock = some k → Z k) : Firm Z (fun w => w.ownsRow base e size v n xs) w :=
  fun _ _ ho hT => own_keep h ho (fun k hk => hT k (hz k hk))
theorem firm_blk {Z : Nat → Prop} {w : World} {k : Nat} {o : Obj} (h : w.heap[k]? = some o) (hz : Z k) : Firm Z (fun w => w.heap[k]? = some o) w :=
  fun _ _ ho hT => (ho.block k (blk_lt h) (hT k hz)).trans h
theorem firm_prog {Z : Nat → Prop} {w : World} {lo b : Nat} {q : QS} (h : ProgAt lo w b q) (hz : ∀ k, lo ≤ k → k < w.heap.size → Z k) : Firm Z (fun w => ProgAt lo w b q) w := by
  obtain ⟨h1, vV, vC, h2, h3, h4⟩ := h
  intro T w' ho hT
  refine ⟨h1, vV, vC, firm_blk h2 (hz b h1 (blk_lt h2)) T w' ho hT, firm_own h3 (fun k hk => hz k (h3.lt k hk).1 (h3.lt k hk).2) T w' ho hT, firm_own h4 (fun k hk => hz k (h4.lt k hk).1 (h4.lt k hk).2) T w' ho hT⟩
theorem firm_ref {Z : Nat → Prop} {w : World} {lo b : Nat} {F : Form} (h : RefAt lo w b F) (hz : ∀ k, lo ≤ k → k < w.heap.size → Z k) : Firm Z (fun w => RefAt lo w b F) w := by
  obtain ⟨h1, vO, vE, vC, h2, h3, h4, h5⟩ := h
  intro T w' ho hT
  exact ⟨h1, vO, vE, vC, firm_blk h2 (hz b h1 (blk_lt h2)) T w' ho hT, firm_own h3 (fun k hk => hz k (h3.lt k hk).1 (h3.lt k hk).2) T w' ho hT, firm_own h4 (fun k hk => hz k (h4.lt k hk).1 (h4.lt k hk).2) T w' ho hT, firm_own h5 (fun k hk => hz k (h5.lt k hk).1 (h5.lt k hk).2) T w' ho hT⟩
theorem firm_pair {Z : Nat → Prop} {w : World} {lo : Nat} {px pf : Option Addr} (h : FPair lo w px pf) (hz : ∀ k, lo ≤ k → k < w.heap.size → Z k) : Firm Z (fun w => FPair lo w px pf) w := by
  rcases h with h | ⟨b, b', st, q0, h1, h2, h3, h4, h5⟩
  · exact fun _ _ _ _ => Or.inl h
  · exact fun T w' ho hT => Or.inr ⟨b, b', st, q0, h1, h2, firm_prog h3 hz T w' ho hT, firm_ref h4 hz T w' ho hT, h5⟩
theorem firm_rows {Z : Nat → Prop} {w : World} {bl : BL} {rs : List RuleP} {v : GV} (h : GRows w bl rs v) (h1 : ∀ k, v.vB.ownBlock = some k → Z k) (h2 : ∀ k, v.vR.ownBlock = some k → Z k) (h3 : ∀ j (hj : j < v.hdrs.length) k, v.hdrs[j].ownBlock = some k → Z k) : Firm Z (fun w => GRows w bl rs v) w := by
  intro T w' ho hT
  have hl := h.len
  exact ⟨own_keep h.oB ho (fun k hk => hT k (h1 k hk)), own_keep h.oR ho (fun k hk => hT k (h2 k hk)), h.len, fun j hj => own_keep (h.row j hj) ho (fun k hk => hT k (h3 j (by omega) k hk))⟩
theorem firm_ls {Z : Nat → Prop} {w : World} {hdrs : List Value} (h : LsAt w hdrs) (hz : ∀ i (hi : i < hdrs.length) k, hdrs[i].ownBlock = some k → Z k) : Firm Z (fun w => LsAt w hdrs) w :=
  fun _ _ ho hT => ls_keep h ho (fun i hi g _ hg _ => hT g (hz i hi g hg))

/-! ### A game of the law -/
structure GG where
  gb : Nat
  db : Nat
  b1 : Nat
  b2 : Nat
  st : RS
  q0 : QS
  proof : List UInt8
  kind : Nat
  ss : List Stp
  mv : List Nat
  bs : List Bool
  g : GS
  gv : GV
  vM : Value
  vb : Nat
  val : List Int
def GG.q (G : GG) : QS := qFinish G.q0
def GG.rs (G : GG) : List RuleP := rulesW G.kind G.ss
def GG.bl (G : GG) : BL := blW G.q G.kind
def intsV (l : List Int) : List Value := l.map (fun x => Value.int .i64 x)
/-- What a game is, apart from memory. -/
structure GPure (G : GG) : Prop where
  same : Same G.st G.q0
  cl : G.q0.cl.length ≤ 24
  nice : QNice G.q0
  read : readQ G.q G.proof = .inr (G.kind, litsL G.ss)
  tags : Tagged G.q G.kind G.proof G.ss
  sbs : SBs G.ss
  play : G.g = G.mv.foldl (fun g m => moveW G.rs G.bl g m) (openW G.q G.kind G.ss)
  ok : ∀ i, i < G.mv.length → MoveE G.bl ((G.mv.take i).foldl (fun g m => moveW G.rs G.bl g m) (openW G.q G.kind G.ss)) ((G.mv.getD i 0 : Nat) : Int) = 0
  run : Run G.q G.kind G.rs G.g G.bs
  stands : Stands G.q G.kind G.g
  mlen : G.mv.length ≤ G.g.turn
  vlen : G.val.length = 8
  vok : ∀ v, 1 ≤ v → v ≤ 8 → G.val.getD (v - 1) 0 = 0 ∨ G.val.getD (v - 1) 0 = valV G.g.vals v
structure GInv (Z : Nat → Prop) (w : World) (G : GG) : Prop where
  fb : w.heap[G.gb]? = some (.cells #[.pointer (some ⟨G.db, 0, none⟩), .pointer (some ⟨G.b1, 0, none⟩), .pointer (some ⟨G.b2, 0, none⟩), S G.proof, .int .i64 (G.kind : Int), G.vM, .int .i64 (G.g.turn : Int), .slice (some ⟨G.vb, 0, none⟩) 8 8] 87 (0, 0))
  db : w.heap[G.db]? = some (.cells #[G.gv.vB, G.gv.vR, .int .i64 (G.g.turn : Int), .int .i64 (G.g.vals.1 : Int), .int .i64 (G.g.vals.2 : Int)] 79 (0, 0))
  firm : Firm Z (fun w => ProgAt 0 w G.b1 G.q ∧ RefAt 0 w G.b2 (finish G.st) ∧ GRows w G.bl G.rs G.gv) w
  oM : w.ownsRow 0 3 1 G.vM G.mv.length (ints G.mv)
  val : w.heap[G.vb]? = some (.cells (intsV G.val).toArray 3 (0, 0))
  mvb : G.vM.ownBlock ≠ some G.vb
  pure : GPure G
def GG.mut (G : GG) (k : Nat) : Prop := k = G.gb ∨ k = G.db ∨ k = G.vb ∨ G.vM.ownBlock = some k
theorem GInv.game {Z : Nat → Prop} {w : World} {G : GG} (h : GInv Z w G) : GameAt w G.db 79 G.bl G.rs G.g G.gv := ⟨h.db, Or.inr rfl, h.firm.now.2.2⟩
theorem GInv.keep {Z T : Nat → Prop} {w w' : World} {G : GG} (h : GInv Z w G) (ho : Only T w w') (hZ : ∀ k, Z k → ¬ T k) (hm : ∀ k, G.mut k → ¬ T k) : GInv Z w' G :=
  ⟨(ho.block _ (blk_lt h.fb) (hm _ (Or.inl rfl))).trans h.fb, (ho.block _ (blk_lt h.db) (hm _ (Or.inr (Or.inl rfl)))).trans h.db, h.firm.step ho hZ, own_keep h.oM ho (fun k hk => hm k (Or.inr (Or.inr (Or.inr hk)))), (ho.block _ (blk_lt h.val) (hm _ (Or.inr (Or.inr (Or.inl rfl))))).trans h.val, h.mvb, h.pure⟩
theorem GInv.grow {Z Z' : Nat → Prop} {w : World} {G : GG} (h : GInv Z w G) (hz : ∀ k, Z k → Z' k) : GInv Z' w G := ⟨h.fb, h.db, h.firm.grow hz, h.oM, h.val, h.mvb, h.pure⟩
theorem GInv.lt {Z : Nat → Prop} {w : World} {G : GG} (h : GInv Z w G) {k : Nat} (hk : G.mut k) : k < w.heap.size := by
  rcases hk with rfl | rfl | rfl | hk
  · exact blk_lt h.fb
  · exact blk_lt h.db
  · exact blk_lt h.val
  · exact (h.oM.lt k hk).2
/-- A game's own blocks are three or four. -/
theorem GInv.apart {Z : Nat → Prop} {w : World} {G : GG} (h : GInv Z w G) : G.gb ≠ G.db ∧ G.gb ≠ G.vb ∧ G.db ≠ G.vb ∧ G.vM.ownBlock ≠ some G.gb ∧ G.vM.ownBlock ≠ some G.db := by
  refine ⟨fun e => ?_, fun e => ?_, fun e => ?_, fun e => ?_, fun e => ?_⟩
  · have := h.db; rw [← e] at this; exact absurd (blk_type h.fb this) (by decide)
  · have := h.val; rw [← e] at this; exact absurd (blk_type h.fb this) (by decide)
  · have := h.val; rw [← e] at this; exact absurd (blk_type h.db this) (by decide)
  · obtain ⟨c, hc⟩ := own_bk h.oM _ e; exact absurd (blk_type h.fb hc) (by decide)
  · obtain ⟨c, hc⟩ := own_bk h.oM _ e; exact absurd (blk_type h.db hc) (by decide)

/-! ### The law's world with games -/
/-- The formulas on both sides, or none. -/
def FPairF (Z : Nat → Prop) (bw : Nat) (w : World) (px pf : Option Addr) : Prop :=
  (px = none ∧ pf = none) ∨ ∃ b b' st q0, px = some ⟨b, 0, none⟩ ∧ pf = some ⟨b', 0, none⟩ ∧ Firm Z (fun w => ProgAt (bw + 1) w b (qFinish q0) ∧ RefAt (bw + 1) w b' (finish st)) w ∧ Same st q0 ∧ q0.cl.length ≤ 24 ∧ QNice q0
theorem FPairF.now {Z : Nat → Prop} {bw : Nat} {w : World} {px pf : Option Addr} (h : FPairF Z bw w px pf) : FPair (bw + 1) w px pf := by
  rcases h with h | ⟨b, b', st, q0, h1, h2, h3, h4⟩
  · exact Or.inl h
  · exact Or.inr ⟨b, b', st, q0, h1, h2, h3.now.1, h3.now.2, h4⟩
theorem FPairF.step {Z T : Nat → Prop} {bw : Nat} {w w' : World} {px pf : Option Addr} (h : FPairF Z bw w px pf) (ho : Only T w w') (hT : ∀ k, Z k → ¬ T k) : FPairF Z bw w' px pf := by
  rcases h with h | ⟨b, b', st, q0, h1, h2, h3, h4⟩
  · exact Or.inl h
  · exact Or.inr ⟨b, b', st, q0, h1, h2, h3.step ho hT, h4⟩
theorem FPairF.grow {Z Z' : Nat → Prop} {bw : Nat} {w : World} {px pf : Option Addr} (h : FPairF Z bw w px pf) (hz : ∀ k, Z k → Z' k) : FPairF Z' bw w px pf := by
  rcases h with h | ⟨b, b', st, q0, h1, h2, h3, h4⟩
  · exact Or.inl h
  · exact Or.inr ⟨b, b', st, q0, h1, h2, h3.grow hz, h4⟩
theorem FPairF.new {Z : Nat → Prop} {bw n : Nat} {w : World} {px pf : Option Addr} (h : FPair n w px pf) (hn : bw < n) (hz : ∀ k, n ≤ k → k < w.heap.size → Z k) : FPairF Z bw w px pf := by
  rcases h with h | ⟨b, b', st, q0, h1, h2, h3, h4, h5⟩
  · exact Or.inl h
  · exact Or.inr ⟨b, b', st, q0, h1, h2, fun T w' ho hT => ⟨(firm_prog h3 hz T w' ho hT).lo hn, (firm_ref h4 hz T w' ho hT).lo hn⟩, h5⟩
structure DW where
  text : List UInt8
  proof : List UInt8
  px : Option Addr
  pf : Option Addr
  v4 : Value
  v5 : Value
  v6 : Value
  h5s : List Value
  h6s : List Value
  gs : List GG
  Z : Nat → Prop
def gptr (G : GG) : Value := .pointer (some ⟨G.gb, 0, none⟩)
structure DInv (bw : Nat) (w : World) (D : DW) : Prop where
  wat : WAt w bw D.text D.px D.pf D.proof D.v4 D.v5 D.v6
  o4 : w.ownsRow (bw + 1) 51 1 D.v4 D.gs.length (D.gs.map gptr)
  o5 : w.ownsRow (bw + 1) 25 1 D.v5 D.h5s.length D.h5s
  o6 : w.ownsRow (bw + 1) 45 1 D.v6 D.h6s.length D.h6s
  zin : ∀ k, D.Z k → bw < k ∧ k < w.heap.size
  form : FPairF D.Z bw w D.px D.pf
  ls : Firm D.Z (fun w => LsAt w D.h5s) w
  lss : Firm D.Z (fun w => LssAt w D.h6s) w
  n4 : ∀ k, D.v4.ownBlock = some k → ¬ D.Z k
  n5 : ∀ k, D.v5.ownBlock = some k → ¬ D.Z k
  n6 : ∀ k, D.v6.ownBlock = some k → ¬ D.Z k
  games : ∀ G ∈ D.gs, GInv D.Z w G
  gz : ∀ G ∈ D.gs, ∀ k, G.mut k → bw < k ∧ ¬ D.Z k
  gap : ∀ i j (hi : i < D.gs.length) (hj : j < D.gs.length), i ≠ j → ∀ k, D.gs[i].mut k → ¬ D.gs[j].mut k
/-- Blocks that the law writes. -/
def DW.free (D : DW) (bw k : Nat) : Prop := k ≠ bw ∧ D.v4.ownBlock ≠ some k ∧ D.v5.ownBlock ≠ some k ∧ D.v6.ownBlock ≠ some k
/-- Nothing of the law's own is written. -/
theorem DInv.frame {bw : Nat} {w w' : World} {D : DW} {T : Nat → Prop} (h : DInv bw w D) (ho : Only T w w') (hT : ∀ k, k < w.heap.size → T k → D.free bw k ∧ ¬ D.Z k ∧ ∀ G ∈ D.gs, ¬ G.mut k) : DInv bw w' D := by
  have ho' : Only (fun k => T k ∧ k < w.heap.size) w w' := ho.mono (fun k hk ht => ⟨ht, hk⟩)
  have hz : ∀ k, D.Z k → ¬ (T k ∧ k < w.heap.size) := fun k hk ht => (hT k ht.2 ht.1).2.1 hk
  exact ⟨(ho'.block bw (blk_lt h.wat) (fun e => (hT bw e.2 e.1).1.1 rfl)).trans h.wat, own_keep h.o4 ho' (fun k hk e => (hT k e.2 e.1).1.2.1 hk), own_keep h.o5 ho' (fun k hk e => (hT k e.2 e.1).1.2.2.1 hk), own_keep h.o6 ho' (fun k hk e => (hT k e.2 e.1).1.2.2.2 hk),
    fun k hk => ⟨(h.zin k hk).1, Nat.lt_of_lt_of_le (h.zin k hk).2 ho.size⟩, h.form.step ho' hz, h.ls.step ho' hz, h.lss.step ho' hz, h.n4, h.n5, h.n6, fun G hG => (h.games G hG).keep ho' hz (fun k hk e => (hT k e.2 e.1).2.2 G hG hk), h.gz, h.gap⟩
theorem DInv.later {bw : Nat} {w w' : World} {D : DW} (h : DInv bw w D) (hb : Below w.heap.size w w') : DInv bw w' D :=
  h.frame (T := fun _ => False) (Only.of_below hb) (fun _ _ h => h.elim)
end Go.Proofs.YtgipjjhkhfihpaaGreatDoor

namespace Go.Proofs.YtgipjjhkhfihpaaGreatDoor
open Go.RowKit

/-- Numbers lie at an address. -/
def IntsAt (w : World) (v : Value) (l : List Nat) : Prop := ∃ ao cap, v = .slice ao l.length cap ∧ ∀ i (hi : i < l.length), ∃ g off, ao = some ⟨g, off, none⟩ ∧ w.cell? ⟨g, off + i, none⟩ = some (.int .i64 (l[i] : Int))
/-- Where block k begins. -/
def fromOf (F : Form) (k : Nat) : Nat := if 0 < k then F.ends.getD (k - 1) 0 else 0
def blockOf (F : Form) (k : Nat) : List Nat := (F.order.drop (fromOf F k)).take (F.ends.getD k 0 - fromOf F k)

/-- The values lie where the order does. -/
def InOrder (w : World) (b : Nat) (v : Value) : Prop := ∃ gO n0 c0, w.cell? ⟨b, 0, none⟩ = some (.slice (some ⟨gO, 0, none⟩) n0 c0) ∧ ∀ a n c, v = .slice (some a) n c → a.block = gO
def BlockPost (b : Nat) (F : Form) (k : Nat) (w : World) (e : Ending) (w' : World) : Prop := ∃ v, e = .returned v ∧ IntsAt w' v (blockOf F k) ∧ Below w.heap.size w w' ∧ InOrder w b v
theorem ints_piece {w w' : World} {gO lo1 hi1 cap : Nat} {l : List Nat} (hc : ∀ j u, (ints l)[j]? = some u → w.cell? ⟨gO, j, none⟩ = some u) (hw : ∀ j, w'.cell? ⟨gO, j, none⟩ = w.cell? ⟨gO, j, none⟩) (h1 : lo1 ≤ hi1) (h2 : hi1 ≤ l.length) :
    IntsAt w' (.slice (some ⟨gO, lo1, none⟩) (hi1 - lo1) cap) ((l.drop lo1).take (hi1 - lo1)) := by
  have hl : ((l.drop lo1).take (hi1 - lo1)).length = hi1 - lo1 := by simp; omega
  refine ⟨_, _, by rw [hl], fun i hi => ⟨gO, lo1, rfl, ?_⟩⟩
  rw [hw]
  refine hc _ _ ?_
  rw [hl] at hi
  simp [ints, show lo1 + i < l.length by omega]
theorem ints_empty (w : World) (ao : Option Addr) (cap : Nat) : IntsAt w (.slice ao 0 cap) [] := ⟨ao, cap, rfl, fun i hi => by simp at hi⟩

set_option maxRecDepth 100000 in
set_option maxHeartbeats 1600000 in
theorem block_any (lo b k : Nat) (F : Form) (w : World) (hF : RefAt lo w b F) (hk : k < F.ends.length) (hle : fromOf F k ≤ F.ends.getD k 0) (hel : F.ends.getD k 0 ≤ F.order.length) (_hol : F.order.length ≤ 1073741824) (hpos : 0 < F.order.length) (hen : F.ends.length ≤ 1073741824) :
    Calls Tryz.prog 38 #[.pointer (some ⟨b, 0, none⟩), .int .i64 k] w fun e w' => BlockPost b F k w e w' := by
  obtain ⟨_, vO, vE, vC, hfb, hO, hE, _⟩ := hF
  obtain ⟨gO, cO, rfl, _, _, hcO, hcellO⟩ := own_pos hO hpos
  obtain ⟨gE, cE, rfl, _, _, hcE, hcellE⟩ := own_pos hE (by omega)
  have k0 : w.cell? ⟨b, 0, none⟩ = some (.slice (some ⟨gO, 0, none⟩) F.order.length cO) := by rw [blk_cell hfb]; rfl
  have k2 : w.cell? ⟨b, 2, none⟩ = some (.slice (some ⟨gE, 0, none⟩) F.ends.length cE) := by rw [blk_cell hfb]; rfl
  have ek : w.cell? ⟨gE, k, none⟩ = some (.int .i64 (F.ends.getD k 0 : Nat)) := hcellE k _ (by simp [ints, List.getD, hk])
  have HCO := hide hcellO
  have HK0 := hide k0
  have hkb : k ≤ 1073741824 := by omega
  by_cases h0 : 0 < k
  · have ek1 : w.cell? ⟨gE, k - 1, none⟩ = some (.int .i64 (F.ends.getD (k - 1) 0 : Nat)) := hcellE (k - 1) _ (by simp [ints, List.getD, show k - 1 < F.ends.length by omega])
    have HFR : Hid (fromOf F k = F.ends.getD (k - 1) 0) := hide (by unfold fromOf; rw [if_pos h0])
    have HBL : Hid (blockOf F k = (F.order.drop (F.ends.getD (k - 1) 0)).take (F.ends.getD k 0 - F.ends.getD (k - 1) 0)) := hide (by unfold blockOf; rw [unhide HFR])
    rw [unhide HFR] at hle
    have hd0 : decide (0 < k) = true := by simpa using h0
    clear hcellE hcellO
    generalize F.ends.getD (k - 1) 0 = lo1 at *
    generalize F.ends.getD k 0 = hi1 at *
    go_enter Tryz.func38, Tryz.ntmps38
    go_wp2_with fail
    go_quiet (fail)
    go_wp2_with fail
    · next hce =>
      have hz : hi1 - lo1 = 0 := by omega
      have HZ := hide hz
      clear hz
      go_ret
      refine ⟨_, rfl, ?_, below_drewN (Below.refl _ _) nq, gO, _, _, unhide HK0, fun a n c e => by injection e with e _ _; injection e with e; rw [← e]⟩
      rw [unhide HBL, unhide HZ]
      show IntsAt _ (.slice (some ⟨gO, 0, none⟩) 0 0) _
      simpa using ints_empty _ _ _
    · go_ret
      refine ⟨_, rfl, ?_, below_drewN (Below.refl _ _) nq, gO, _, _, unhide HK0, fun a n c e => by injection e with e _ _; injection e with e; rw [← e]⟩
      rw [unhide HBL]
      exact ints_piece (unhide HCO) (fun j => rfl) hle hel
  · have HFR : Hid (fromOf F k = 0) := hide (by unfold fromOf; rw [if_neg h0])
    have HBL : Hid (blockOf F k = (F.order.drop 0).take (F.ends.getD k 0 - 0)) := hide (by unfold blockOf; rw [unhide HFR])
    have hd0 : decide (0 < k) = false := by simpa using h0
    clear hcellE hcellO hle
    generalize F.ends.getD k 0 = hi1 at *
    go_enter Tryz.func38, Tryz.ntmps38
    go_wp2_with fail
    go_quiet (fail)
    go_wp2_with fail
    go_ret
    refine ⟨_, rfl, ?_, below_drewN (Below.refl _ _) nq, gO, _, _, unhide HK0, fun a n c e => by injection e with e _ _; injection e with e; rw [← e]⟩
    rw [unhide HBL]
    exact ints_piece (lo1 := 0) (unhide HCO) (fun j => rfl) (Nat.zero_le _) hel
end Go.Proofs.YtgipjjhkhfihpaaGreatDoor

namespace Go.Proofs.YtgipjjhkhfihpaaGreatDoor
open Go.RowKit

theorem qblocks_before {vs : List (Nat × Bool)} {w w0 w' : World} {e : Ending} (h : QBlocksPost vs w0 e w') (hb : Below w.heap.size w w0) : QBlocksPost vs w e w' := by
  obtain ⟨v, hdrs, h0, h1, h2, h3⟩ := h
  exact ⟨v, hdrs, h0, own_lo h1 hb.size, ⟨h2.len, fun j hj => ⟨own_lo (h2.row j hj).1 hb.size, (h2.row j hj).2⟩, h2.apart⟩, hb.trans (h3.mono hb.size)⟩
set_option maxRecDepth 100000 in
set_option maxHeartbeats 800000 in
theorem dblocks_any (lo b : Nat) (q : QS) (w : World) (hP : ProgAt lo w b q) (hl : q.vars.length ≤ 1048576) :
    Calls Tryz.prog 58 #[.pointer (some ⟨b, 0, none⟩)] w fun e w' => QBlocksPost q.vars w e w' := by
  obtain ⟨_, vV, vC, hb, hV, hC⟩ := hP
  obtain ⟨aV, cV, rfl⟩ := own_form hV
  obtain ⟨aC, cC, rfl⟩ := own_form hC
  have hbl := blk_lt hb
  go_enter Tryz.func58, Tryz.ntmps58
  go_wp2_with fail
  refine (formula_any b _ _ aV aC _ cV _ cC rfl rfl w hb).mono ?_
  rintro e w0 ⟨rfl, hb0⟩
  go_wp2_with fail
  have hB : Below w.heap.size w (w0.alloc (.cells #[.slice aV q.vars.length cV, .slice aC q.cl.length cC] 60)) := hb0.alloc hb0.size _
  have hf : (w0.alloc (.cells #[.slice aV q.vars.length cV, .slice aC q.cl.length cC] 60)).cell? ⟨w0.heap.size, 0, none⟩ = some (.slice aV q.vars.length cV) := by rw [blk_cell (heap_alloc_new _ _)]; rfl
  refine (qblocks_any lo w0.heap.size q _ aV cV hf (by simp) (own_below hV hB) hl).mono ?_
  intro e w1 hp
  have hp := qblocks_before hp hB
  obtain ⟨v, hdrs, rfl, h1, h2, h3⟩ := hp
  obtain ⟨av, cv, rfl⟩ := own_form h1
  go_wp2_with fail
  go_ret
  exact ⟨_, hdrs, rfl, h1, h2, h3⟩
end Go.Proofs.YtgipjjhkhfihpaaGreatDoor

namespace Go.Proofs.YtgipjjhkhfihpaaGreatDoor
open Go.RowKit

theorem lists_nil {bw : Nat} {wx w4 : World} {v5 v6 v6' : Value} {h5s h6s : List Value} {text : List UInt8} {px pf : Option Addr} {proof : List UInt8} {c4 : Value} (hL : ListsAt bw wx v5 v6 h5s h6s) (hw : WAt wx bw text px pf proof c4 v5 v6)
    (hg : wx.grownBy w4 v6.ownBlock) (ho6 : w4.ownsRow (bw + 1) 45 1 v6' (h6s.length + 1) (h6s ++ [.slice none 0 0])) :
    WAt (w4.setCell ⟨bw, 6, none⟩ v6') bw text px pf proof c4 v5 v6' ∧ ListsAt bw (w4.setCell ⟨bw, 6, none⟩ v6') v5 v6' h5s (h6s ++ [.slice none 0 0]) ∧ Only (fun j => j = bw ∨ v5.ownBlock = some j ∨ v6.ownBlock = some j) wx (w4.setCell ⟨bw, 6, none⟩ v6') := by
  have hwt := hw
  unfold WAt at hwt
  have ho4 : Only (fun j => v6.ownBlock = some j) wx w4 := ⟨hg.os, hg.tape, hg.output, hg.size, fun k hk ht => hg.block k hk (fun e => ht e.symm)⟩
  have hbw6 : v6.ownBlock ≠ some bw := fun e => by have := (hL.o6.lt _ e).1; omega
  have hw4 : WAt w4 bw text px pf proof c4 v5 v6 := (ho4.block bw (blk_lt hwt) hbw6).trans hwt
  have hoS : Only (fun j => j = bw ∨ v6.ownBlock = some j) wx (w4.setCell ⟨bw, 6, none⟩ v6') := (ho4.mono (T' := fun j => j = bw ∨ v6.ownBlock = some j) (fun k _ h => Or.inr h)).setCell (p := ⟨bw, 6, none⟩) (Or.inl (Or.inl rfl)) _
  have hTS : ∀ ts : List TypeId, 48 ∉ ts → 45 ∉ ts → ∀ b k, k < wx.heap.size → (k = bw ∨ v6.ownBlock = some k) → Foreign b wx ts k := fun ts h1 h2 b k _ ht => by
    rcases ht with rfl | ht
    · exact Or.inr ⟨_, _, _, hwt, h1⟩
    · obtain ⟨c, hc⟩ := own_blk hL.o6 ht
      exact Or.inr ⟨_, _, _, hc, h2⟩
  refine ⟨blk_set hw4 6 _, ⟨own_only (ts := [25]) hL.o5 hoS (by simp) (hTS _ (by decide) (by decide) _), by simpa using ownsRow_setCell_below ho6 (a := ⟨bw, 6, none⟩) (Nat.lt_succ_self bw) _, hL.ls.only hoS (hTS _ (by decide) (by decide) _), ?_, ?_⟩, hoS.mono (fun k _ h => h.elim Or.inl (fun h => Or.inr (Or.inr h)))⟩
  · have hold : LssAt (w4.setCell ⟨bw, 6, none⟩ v6') h6s := lss_keep hL.lss hoS (fun i hi g c h1 h2 ht => by
      rcases hTS [25] (by decide) (by decide) 0 g (blk_lt h2) ht with h | ⟨c', t, fr, h4, h5⟩
      · omega
      · exact h5 (by rw [types_ne h4 h2]; simp)) (hTS _ (by decide) (by decide) _)
    intro i hi
    by_cases hil : i < h6s.length
    · rw [List.getElem_append_left hil]; exact hold i hil
    · have hie : i = h6s.length := by simp at hi; omega
      subst hie
      rw [List.getElem_concat_length rfl]
      exact Or.inl rfl
  · intro i hi
    by_cases hil : i < h6s.length
    · rw [List.getElem_append_left hil]; exact hL.ap i hil
    · have hie : i = h6s.length := by simp at hi; omega
      subst hie
      rw [List.getElem_concat_length rfl]
      exact (apart_nil _).symm

theorem Tryz.infoIntss : (Tryz.prog.info? 45).map (fun i => (i.zero, i.size, i.bytes)) = some (some (.slice none 0 0), 1, 24) := by kernel_rfl

theorem blockOf_eq {st : RS} {q : QS} (h : Same st q) (hn : QNice q) (k : Nat) (hk : k < (progBlocks (qFinish q).vars).length) : blockOf (finish st) k = (progBlocks (qFinish q).vars)[k] := by
  have e := progBlocks_eq (qFinish q).vars
  unfold blockOf fromOf
  rw [finish_ends h hn, order_eq h]
  simp only [e, List.getElem_map, List.getElem_range]
  rfl

theorem own_len {w : World} {base : Nat} {e : TypeId} {size : Nat} {v : Value} {n : Nat} {xs : List Value} (h : w.ownsRow base e size v n xs) : n ≤ maxLen := by
  rcases h.2 with ⟨_, h⟩ | ⟨g, cap, cur, _, _, _, h1, h2, _⟩ <;> omega

structure BlocksPost (bw : Nat) (text : List UInt8) (px pf : Option Addr) (proof : List UInt8) (c4 v5 v6 : Value) (n5 n6 : Nat) (w : World) (e : Ending) (w' : World) : Prop where
  ret : e = .returned (.bool true)
  only : Only (fun j => j = bw ∨ v5.ownBlock = some j ∨ v6.ownBlock = some j) w w'
  at_ : ∃ v5' v6' h5s h6s, WAt w' bw text px pf proof c4 v5' v6' ∧ ListsAt bw w' v5' v6' h5s h6s ∧ h5s.length ≤ n5 + 8 ∧ h6s.length = n6 + 1

set_option maxRecDepth 100000 in
set_option maxHeartbeats 3200000 in
theorem blocks_any (bw b b' : Nat) (st : RS) (q0 : QS) (text : List UInt8) (proof : List UInt8) (c4 v5 v6 : Value) (h5s h6s : List Value) (w : World)
    (hw : WAt w bw text (some ⟨b, 0, none⟩) (some ⟨b', 0, none⟩) proof c4 v5 v6) (hP : ProgAt (bw + 1) w b (qFinish q0)) (hR : RefAt (bw + 1) w b' (finish st)) (hS : Same st q0) (hN : QNice q0) (hL : ListsAt bw w v5 v6 h5s h6s)
    (hn5 : h5s.length ≤ 1048576000) (hn6 : h6s.length ≤ 1073741823) :
    Calls Tryz.prog 35 #[.pointer (some ⟨bw, 0, none⟩)] w fun e w' => BlocksPost bw text (some ⟨b, 0, none⟩) (some ⟨b', 0, none⟩) proof c4 v5 v6 h5s.length h6s.length w e w' := by
  have hbw : bw < w.heap.size := blk_lt hw
  have k1 : w.cell? ⟨bw, 1, none⟩ = some (.pointer (some ⟨b, 0, none⟩)) := by rw [blk_cell hw]; rfl
  have hvl := vars_le hN
  have HPB : Hid (∀ k (hk : k < (progBlocks (qFinish q0).vars).length), blockOf (finish st) k = (progBlocks (qFinish q0).vars)[k]) := hide (fun k hk => blockOf_eq hS hN k hk)
  have hel : (finish st).ends.length = (progBlocks (qFinish q0).vars).length := by rw [finish_ends hS hN, progBlocks_len]
  have hel8 : (progBlocks (qFinish q0).vars).length ≤ 8 := by rw [progBlocks_len]; have := ends_len (qFinish q0).vars; omega
  have hol : (finish st).order.length = (qFinish q0).vars.length := by rw [order_eq hS]; simp
  have HFE : Hid (∀ k, k < (progBlocks (qFinish q0).vars).length → fromOf (finish st) k ≤ (finish st).ends.getD k 0 ∧ (finish st).ends.getD k 0 ≤ (finish st).order.length ∧ 0 < (finish st).order.length) := hide (fun k hk => by
    have hk' : k < (endsOf (qFinish q0).vars).length := by rw [← progBlocks_len]; exact hk
    have h1 := start_le _ k hk'
    have h2 := end_le _ k hk'
    have h3 := ends_len (qFinish q0).vars
    unfold fromOf
    rw [finish_ends hS hN, hol]
    exact ⟨h1, h2, by omega⟩)
  obtain ⟨i0, hi, hz0, hz1, hz2⟩ := info_parts Tryz.infoIntss
  go_enter Tryz.func35, Tryz.ntmps35
  go_wp2_with fail
  refine (dblocks_any (bw + 1) b (qFinish q0) w hP (by omega)).mono ?_
  rintro e w1 ⟨v, hdrs, rfl, hown, hrows, hb1⟩
  have hw1 := hw.later hb1
  have hR1 := hR.later hb1
  have hbs1 := hb1.size
  clear hP hS hN
  generalize progBlocks (qFinish q0).vars = pb at *
  generalize finish st = F at *
  obtain ⟨_, vO, vE, vC, hfb, hO, hE, _⟩ := id hR1
  obtain ⟨aE, cE, rfl⟩ := own_form hE
  rw [hel] at hfb
  have k2 : w1.cell? ⟨bw, 2, none⟩ = some (.pointer (some ⟨b', 0, none⟩)) := by rw [blk_cell hw1]; rfl
  have kE : w1.cell? ⟨b', 2, none⟩ = some (.slice aE pb.length cE) := by rw [blk_cell hfb]; rfl
  have hne : ((pb.length : Int) != (pb.length : Int)) = false := by simp
  have hdl := hrows.len
  rcases hown.2 with ⟨rfl, hz⟩ | ⟨h, cap, cur, rfl, hhb, hhr, hnc, hcm, hcs, htk⟩
  · obtain rfl : pb = [] := List.length_eq_zero_iff.1 hz
    have kE' : w1.cell? ⟨b', 2, none⟩ = some (.slice aE 0 cE) := kE
    clear kE hne
    have h6 : w1.cell? ⟨bw, 6, none⟩ = some v6 := by rw [blk_cell hw1]; rfl
    have hL1 := hL.later hb1
    obtain ⟨a6, c6, rfl⟩ := own_form hL1.o6
    have hbs : bw + 1 ≤ w1.heap.size := by omega
    go_wp2_with fail
    refine wp_loop_rounds 1 ?_
    rw [rounds_succ]
    go_wp2_with fail
    refine wp_loop_rounds 1 ?_
    rw [rounds_succ]
    go_wp2_with fail
    refine wp_loop_rounds 1 ?_
    rw [rounds_succ]
    have hbw6 : (Value.slice a6 h6s.length c6).ownBlock ≠ some bw := fun e => by have := (hL1.o6.lt _ e).1; omega
    go_wp2_with (at_builtin; refine wpList_append_at rfl (.tmp 100) (.tmp 102) 46 rfl (bw + 1) i0 (.slice none 0 0) 1 24 Tryz.underlying46 hi hz0 hz1 hz2 rfl (by decide) _ _ _ hL1.o6 rfl rfl rfl (by simp [Value.oneCell']) (by unfold maxLen; omega) (by omega) hbs ?_; intro v' w4 hown4 hgrow hat; have hw4 : WAt w4 bw text (some ⟨b, 0, none⟩) (some ⟨b', 0, none⟩) proof c4 v5 (.slice a6 h6s.length c6) := (hgrow.block bw (blk_lt hw1) (fun e => hbw6 e.symm)).trans hw1; obtain ⟨g3, cap3, rfl, hg3, hg3', hcap3, hcell3⟩ := own_pos hown4 (by omega); have hq6 : w4.cell? ⟨bw, 6, none⟩ = some (.slice a6 h6s.length c6) := (by rw [blk_cell hw4]; rfl); have hqz := blk_free hw4 6)
    go_ret
    obtain ⟨hA, hB, hC⟩ := lists_nil hL1 hw1 hgrow hown4
    exact ⟨rfl, (Only.of_below hb1).trans hC, _, _, _, _, hA, hB, by omega, by simp⟩
  · have HB1 := hide hb1
    have hw1' := hw1
    unfold WAt at hw1'
    go_wp2_with fail
    go_loopg [4] pb.length (fun q i wx => ∃ k : Nat, i = .int .i64 k ∧ k + q = pb.length ∧ Below w1.heap.size w1 wx)
    case atStart => exact ⟨0, rfl, by omega, Below.refl _ _⟩
    case round =>
      obtain ⟨k, rfl, hk, hbx⟩ := hrel
      obtain ⟨wo, rfl⟩ : ∃ wo, wo = wr := ⟨_, rfl⟩
      obtain ⟨go, rfl⟩ : ∃ go, go = gk := ⟨_, rfl⟩
      have hbsx := hbx.size
      by_cases hlt : k < pb.length
      · have x2 : wo.cell? ⟨bw, 2, none⟩ = some (.pointer (some ⟨b', 0, none⟩)) := by rw [hbx.cell (p := ⟨bw, 2, none⟩) (by show bw < _; omega)]; exact k2
        have hdk : decide ((k : Int) < (pb.length : Int)) = true := by simp; omega
        obtain ⟨hf1, hf2, hf3⟩ := unhide HFE k hlt
        go_wp2_with fail
        refine (block_any (bw + 1) b' k F wo (hR1.later hbx) (by omega) hf1 hf2 (by omega) hf3 (by omega)).mono ?_
        rintro e w2 ⟨vb, rfl, hints, hb2, _⟩
        have hbx2 : Below w1.heap.size w1 w2 := hbx.trans (hb2.mono hbsx)
        rw [unhide HPB k hlt] at hints
        obtain ⟨ab, cb, rfl, hcb⟩ := hints
        obtain ⟨hrk, hrne⟩ := hrows.row k hlt
        obtain ⟨gk', ck', hke, hgk, hgk', _, hcellk⟩ := own_pos hrk (List.length_pos_iff.2 hrne)
        have hhk : w2.cell? ⟨h, k, none⟩ = some (.slice (some ⟨gk', 0, none⟩) pb[k].length ck') := by
          rw [hbx2.cell (p := ⟨h, k, none⟩) (blk_lt hhr), blk_cell hhr]
          have e1 : (cur.toList.take (pb.length * 1))[k]? = some hdrs[k] := by rw [htk]; exact List.getElem?_eq_getElem (by omega)
          rw [List.getElem?_take, if_pos (by omega)] at e1
          rw [hke] at e1
          simpa using e1
        have hne2 : ((pb[k].length : Int) != (pb[k].length : Int)) = false := by simp
        have hbs2 := hbx2.size
        have hpl := own_len hrk
        unfold maxLen at hpl
        go_wp2_with fail
        go_loopg [6] pb[k].length (fun q i wx => ∃ j : Nat, i = .int .i64 j ∧ j + q = pb[k].length ∧ Below w2.heap.size w2 wx)
        case atStart => exact ⟨0, rfl, by omega, Below.refl _ _⟩
        case round =>
          obtain ⟨j, rfl, hj, hby⟩ := hrel
          have hbys := hby.size
          by_cases hjl : j < pb[k].length
          · obtain ⟨gb, ob, rfl, hcj⟩ := hcb j hjl
            have y1 : wr.cell? ⟨gb, ob + j, none⟩ = some (.int .i64 (pb[k][j] : Int)) := by rw [hby.cell (p := ⟨gb, ob + j, none⟩) (cell_lt hcj)]; exact hcj
            have y2 : wr.cell? ⟨gk', j, none⟩ = some (.int .i64 (pb[k][j] : Int)) := by
              rw [hby.cell (p := ⟨gk', j, none⟩) (by show gk' < _; omega), hbx2.cell (p := ⟨gk', j, none⟩) hgk']
              exact hcellk j _ (by simp [ints, hjl])
            have y3 : wr.cell? ⟨h, k, none⟩ = some (.slice (some ⟨gk', 0, none⟩) pb[k].length ck') := by
              rw [hby.cell (p := ⟨h, k, none⟩) (cell_lt hhk)]; exact hhk
            have hdj : decide ((j : Int) < (pb[k].length : Int)) = true := by simp; omega
            have hne3 : ((pb[k][j] : Int) != (pb[k][j] : Int)) = false := by simp
            generalize pb[k][j] = x at *
            go_wp2_with fail
            go_quiet (fail)
            go_wp2_with fail
            go_roundg (gk - 1)
            case measure => omega
            case rel => exact ⟨j + 1, by go_num, by omega, below_drewN hby nq⟩
          · have hdj : decide ((j : Int) < (pb[k].length : Int)) = false := by simp; omega
            have hjk : j ≤ pb[k].length := by omega
            go_wp2_with fail
            go_roundg (go - 1)
            case measure => omega
            case rel => exact ⟨k + 1, by go_num, by omega, hbx2.trans (hby.mono hbs2)⟩
      · have hkl : k = pb.length := by omega
        subst hkl
        have hdk : decide ((pb.length : Int) < (pb.length : Int)) = false := by simp
        have hb0 : Below w.heap.size w wo := hb1.trans (hbx.mono hbs1)
        have hrow0 : wo.heap[h]? = some (.cells cur 25 (0, 0)) := (hbx.block h (blk_lt hhr)).trans hhr
        have hM0 := Marking.start hw hL hb0 rfl hhb hrow0 (hrows.later hbx)
        have hcs' : cur.size = cap := by simpa using hcs
        have HCS := hide hcs'
        have HTK := hide htk
        have HAP := hide hrows.apart
        clear hcs hcs' htk
        go_wp2_with fail
        go_loopg [7] pb.length (fun q i wx => ∃ (k : Nat) (v5x : Value) (h5x : List Value), i = .int .i64 k ∧ k + q = pb.length ∧ h5x.length = h5s.length + k ∧ Marking bw h w v5 text (some ⟨b, 0, none⟩) (some ⟨b', 0, none⟩) proof c4 v6 hdrs cur k v5x h5x wx)
        case atStart => exact ⟨0, v5, h5s, rfl, by omega, rfl, hM0⟩
        case round =>
          obtain ⟨k, v5x, h5x, rfl, hk2, hl5, hM⟩ := hrel
          obtain ⟨gm, rfl⟩ : ∃ gm, gm = gk := ⟨_, rfl⟩
          by_cases hlt2 : k < pb.length
          · have hkd : k < hdrs.length := by omega
            obtain ⟨g, n, capg, cu, he, hg0, hgt, hcu, hnc2, hcm2⟩ := hM.fresh k (Nat.le_refl _) hkd
            have hhk : wr.cell? ⟨h, k, none⟩ = some (.slice (some ⟨g, 0, none⟩) n capg) := by
              rw [blk_cell hM.row]
              have e1 : (cur.toList.take (pb.length * 1))[k]? = some hdrs[k] := by rw [unhide HTK]; exact List.getElem?_eq_getElem hkd
              rw [List.getElem?_take, if_pos (by omega)] at e1
              rw [he] at e1
              simpa using e1
            have hdk2 : decide ((k : Int) < (pb.length : Int)) = true := by simp; omega
            have HE := hide he
            clear he
            go_wp2_with fail
            refine (mine_any bw g n capg cu h5x.length h5x v5x text _ _ proof c4 v6 wr hM.at_ hgt hcu hnc2 hcm2 hM.o5 (by omega)).mono ?_
            rintro e w3 hp
            have hpr := hp.ret
            subst hpr
            obtain ⟨v5y, hM3⟩ := hM.mine hhb hkd (unhide HE) hg0 ⟨cu, hgt⟩ hcm2 (unhide HAP) hp
            go_wp2_with fail
            go_roundg (gm - 1)
            case measure => omega
            case rel => exact ⟨k + 1, v5y, _, by go_num, by omega, by simp; omega, hM3⟩
          · have hkl2 : k = pb.length := by omega
            subst hkl2
            have hdk2 : decide ((pb.length : Int) < (pb.length : Int)) = false := by simp
            have hH0 : Heading bw h cap h6s.length w v5 text (some ⟨b, 0, none⟩) (some ⟨b', 0, none⟩) proof c4 v6 0 v5x h5x wr := Heading.start hM (unhide HCS)
            have hcm' := hcm
            unfold maxLen at hcm'
            have h6w : wr.cell? ⟨bw, 6, none⟩ = some v6 := by rw [blk_cell hM.at_]; rfl
            obtain ⟨a6, c6, rfl⟩ := own_form hL.o6
            go_wp2_with fail
            go_loopg [9] cap (fun q i wx => ∃ (k : Nat), i = .int .i64 k ∧ k + q = cap ∧ Heading bw h cap h6s.length w v5 text (some ⟨b, 0, none⟩) (some ⟨b', 0, none⟩) proof c4 (.slice a6 h6s.length c6) k v5x h5x wx)
            case atStart => exact ⟨0, rfl, by omega, hH0⟩
            case round =>
              obtain ⟨k, rfl, hk3, hH⟩ := hrel
              have x6 : wr.cell? ⟨bw, 6, none⟩ = some (.slice a6 h6s.length c6) := by rw [blk_cell hH.at_]; rfl
              by_cases hlt3 : k < cap
              · have hdk3 : decide ((k : Int) < (cap : Int)) = true := by simp; omega
                obtain ⟨cs, hr1, hr2, _⟩ := hH.row
                obtain ⟨u, hu⟩ : ∃ u, wr.cell? ⟨h, k, none⟩ = some u := by
                  rw [blk_cell hr1]
                  exact ⟨_, Array.getElem?_eq_getElem (by omega)⟩
                have hz := blk_free hr1 k
                have hhl := blk_lt hr1
                have hH2 := hH.later ((Below.refl wr.heap.size wr).alloc (Nat.le_refl _) (.cells #[.int .i64 (h6s.length : Int), .int .i64 (k : Int)] 3))
                have hH3 := hH2.set hhb hlt3 (heap_alloc_new wr _)
                rw [World.setCell_alloc_past _ _ _ _ hhl] at hH3
                clear hH2
                go_wp2_with fail
                go_roundg (gk - 1)
                case measure => omega
                case rel => exact ⟨k + 1, by go_num, by omega, hH3⟩
              · have hkl3 : k = cap := by omega
                subst hkl3
                have hdk3 : decide ((k : Int) < (k : Int)) = false := by simp
                have hw0' := hw
                unfold WAt at hw0'
                have ho6x : wr.ownsRow (bw + 1) 45 1 (.slice a6 h6s.length c6) h6s.length h6s := own_only (ts := [45]) hL.o6 hH.only (by simp) (fun k _ ht => by
                  rcases ht with rfl | ht
                  · exact Or.inr ⟨_, _, _, hw0', by decide⟩
                  · obtain ⟨c, hc⟩ := own_blk hL.o5 ht
                    exact Or.inr ⟨_, _, _, hc, by decide⟩)
                have hwx := hH.at_
                have hbs : bw + 1 ≤ wr.heap.size := by have := blk_lt hwx; omega
                have hbw6 : (Value.slice a6 h6s.length c6).ownBlock ≠ some bw := fun e => by have := (ho6x.lt _ e).1; omega
                go_wp2_with (at_builtin; refine wpList_append_at rfl (.tmp 100) (.tmp 102) 46 rfl (bw + 1) i0 (.slice none 0 0) 1 24 Tryz.underlying46 hi hz0 hz1 hz2 rfl (by decide) _ _ _ ho6x rfl rfl rfl (by simp [Value.oneCell']) (by unfold maxLen; omega) (by omega) hbs ?_; intro v' w4 hown4 hgrow hat; have hw4 : WAt w4 bw text (some ⟨b, 0, none⟩) (some ⟨b', 0, none⟩) proof c4 v5x (.slice a6 h6s.length c6) := (hgrow.block bw (blk_lt hwx) (fun e => hbw6 e.symm)).trans hwx; obtain ⟨g3, cap3, rfl, hg3, hg3', hcap3, hcell3⟩ := own_pos hown4 (by omega); have hq6 : w4.cell? ⟨bw, 6, none⟩ = some (.slice a6 h6s.length c6) := (by rw [blk_cell hw4]; rfl); have hqz := blk_free hw4 6)
                go_ret
                obtain ⟨hA, hB, hC⟩ := Heading.done hL hw hcm hH hgrow hown4
                exact ⟨rfl, hC, _, _, _, _, hA, hB, by omega, by simp⟩
end Go.Proofs.YtgipjjhkhfihpaaGreatDoor

namespace Go.Proofs.YtgipjjhkhfihpaaGreatDoor
open Go.RowKit

/-! ### Blocks of the document's side -/
structure Pair (st : RS) (q0 : QS) : Prop where
  same : Same st q0
  cl : q0.cl.length ≤ 24
  nice : QNice q0
theorem Pair.fq {st : RS} {q0 : QS} (h : Pair st q0) : FQ (finish st) (qFinish q0) := (fq_of h.same h.nice h.cl).1
theorem Pair.fo {st : RS} {q0 : QS} (h : Pair st q0) : FOk (finish st) := (fq_of h.same h.nice h.cl).2.1
theorem Pair.fw {st : RS} {q0 : QS} (h : Pair st q0) : FW (finish st) := (fq_of h.same h.nice h.cl).2.2
theorem Pair.qb {st : RS} {q0 : QS} (h : Pair st q0) : QB (qFinish q0) := qb_of h.nice h.cl
theorem Pair.qg {st : RS} {q0 : QS} (h : Pair st q0) : QGood (qFinish q0) := qgood_of h.fq h.qb
theorem GPure.pair {G : GG} (h : GPure G) : Pair G.st G.q0 := ⟨h.same, h.cl, h.nice⟩
theorem Pair.ends {st : RS} {q0 : QS} (h : Pair st q0) : (finish st).ends.length = (progBlocks (qFinish q0).vars).length := by rw [finish_ends h.same h.nice, progBlocks_len]
theorem ref_ends {lo b : Nat} {w : World} {F : Form} (h : RefAt lo w b F) : ∃ a c, w.cell? ⟨b, 2, none⟩ = some (.slice a F.ends.length c) ∧ b < w.heap.size := by
  obtain ⟨_, vO, vE, vC, h2, h3, h4, h5⟩ := h
  obtain ⟨a, c, rfl⟩ := own_form h4
  exact ⟨a, c, by rw [blk_cell h2]; rfl, blk_lt h2⟩
theorem blockP_any {lo b k : Nat} {st : RS} {q0 : QS} {w : World} (hP : Pair st q0) (hF : RefAt lo w b (finish st)) (hk : k < (progBlocks (qFinish q0).vars).length) :
    Calls Tryz.prog 38 #[.pointer (some ⟨b, 0, none⟩), .int .i64 k] w fun e w' => ∃ v, e = .returned v ∧ IntsAt w' v (progBlocks (qFinish q0).vars)[k] ∧ Below w.heap.size w w' ∧ InOrder w b v := by
  have he := hP.ends
  have hv8 := vars_le hP.nice
  have hol : (finish st).order.length = (qFinish q0).vars.length := by rw [order_eq hP.same, List.length_map]
  have hk' : k < (endsOf (qFinish q0).vars).length := by rw [← progBlocks_len]; exact hk
  have hpos : 0 < (qFinish q0).vars.length := by
    have := ends_len (qFinish q0).vars; omega
  have hel := ends_len (qFinish q0).vars
  rw [← blockOf_eq hP.same hP.nice k hk]
  refine block_any lo b k (finish st) w hF (by omega) ?_ ?_ (by omega) (by omega) (by rw [finish_ends hP.same hP.nice]; omega)
  · unfold fromOf
    rw [finish_ends hP.same hP.nice]
    exact start_le _ k hk'
  · rw [finish_ends hP.same hP.nice, hol]
    exact end_le _ k hk'
theorem order_apart {Z : Nat → Prop} {w : World} {b vb gO n c : Nat} {F : Form} {cs : Array Value} (h : Firm Z (fun w => RefAt 0 w b F) w) (hv : ¬ Z vb) (hvb : w.heap[vb]? = some (.cells cs 3 (0, 0))) (h0 : w.cell? ⟨b, 0, none⟩ = some (.slice (some ⟨gO, 0, none⟩) n c)) (hpos : 0 < F.order.length) : gO ≠ vb := by
  intro e
  subst e
  have hR' := h (· = gO) _ ((Only.refl (· = gO) w).setAt 0 (.bool true)) (fun k hk e => hv (e ▸ hk))
  obtain ⟨_, vO, vE, vC, h2, h3, _⟩ := h.now
  obtain ⟨_, vO', vE', vC', h2', h3', _⟩ := hR'
  have hne : b ≠ gO := fun e => by rw [e] at h2; exact absurd (blk_type h2 hvb) (by decide)
  rw [Below.heap_setCell _ _ _ _ hne, h2] at h2'
  have hvO : vO = .slice (some ⟨gO, 0, none⟩) n c := by
    rw [blk_cell h2] at h0
    injection h0
  have hvO' : vO' = vO := by
    injection h2' with h2'
    injection h2' with h2' _ _
    have := congrArg (fun a => a[0]?) h2'
    simpa using this.symm
  rw [hvO', hvO] at h3'
  rw [hvO] at h3
  obtain ⟨g1, c1, e1, _, _, _, hc1⟩ := own_pos h3 hpos
  obtain ⟨g2, c2, e2, _, _, _, hc2⟩ := own_pos h3' hpos
  injection e1 with e1 _ _
  injection e1 with e1
  injection e1 with e1
  injection e2 with e2 _ _
  injection e2 with e2
  injection e2 with e2
  subst e1 e2
  have a1 := hc1 0 _ (show (ints F.order)[0]? = some (.int .i64 (F.order[0] : Int)) by simp [ints, hpos])
  have a2 := hc2 0 _ (show (ints F.order)[0]? = some (.int .i64 (F.order[0] : Int)) by simp [ints, hpos])
  have hs := blk_set hvb 0 (.bool true)
  rw [blk_cell hvb] at a1
  rw [blk_cell hs] at a2
  have hsz : 0 < cs.size := (Array.getElem?_eq_some_iff.1 a1).1
  rw [Array.getElem?_setIfInBounds_self_of_lt hsz] at a2
  cases a2
theorem uni_first {st : RS} {q0 : QS} (hP : Pair st q0) {b : List Nat} (hb : b ∈ progBlocks (qFinish q0).vars) (kind : Nat) (hk : kind = 1 ∨ kind = 2) (v : Nat) (hv : b.head? = some v) : ((finish st).all.testBit v == (kind == 2)) = !winsW (qFinish q0) kind b := by
  have hvb : v ∈ b := List.mem_of_mem_head? (by rw [hv]; simp)
  have hm : v ∈ (progBlocks (qFinish q0).vars).flatten := List.mem_flatten.2 ⟨b, hb, hvb⟩
  rw [progBlocks_flat] at hm
  obtain ⟨x, hx, rfl⟩ := List.mem_map.1 hm
  have h := wins_all hP.qg hk hb hx hvb
  rw [← h, kinds_eq hP.same hP.nice x hx]
  rfl
set_option maxRecDepth 100000 in
set_option maxHeartbeats 800000 in
theorem universalB_any {lo b k : Nat} {st : RS} {q0 : QS} {w : World} (hP : Pair st q0) (hF : RefAt lo w b (finish st)) (hk : k < (progBlocks (qFinish q0).vars).length) (kind : Nat) (hkd : kind = 1 ∨ kind = 2) :
    Calls Tryz.prog 84 #[.pointer (some ⟨b, 0, none⟩), .int .i64 k] w fun e w' => ∃ u, e = .returned (.bool u) ∧ (u == (kind == 2)) = !winsW (qFinish q0) kind (progBlocks (qFinish q0).vars)[k] ∧ Below w.heap.size w w' := by
  have hb := List.getElem_mem hk
  obtain ⟨hne, _⟩ := progBlocks_kind (qFinish q0).vars _ hb
  have HU : Hid (∀ v, (progBlocks (qFinish q0).vars)[k].head? = some v → ((finish st).all.testBit v == (kind == 2)) = !winsW (qFinish q0) kind (progBlocks (qFinish q0).vars)[k]) := hide (fun v hv => uni_first hP hb kind hkd v hv)
  have h9 : (finish st).all < 512 := hP.fw.all
  have hvr : ∀ v ∈ (progBlocks (qFinish q0).vars)[k], v ≤ 8 := fun v hv => ((bbd_of hP.qb 1).row ((progBlocks (qFinish q0).vars)[k], _) (List.mem_map.2 ⟨_, hb, rfl⟩)).2 v hv |>.2
  go_enter Tryz.func84, Tryz.ntmps84
  go_wp2_with fail
  refine (blockP_any hP hF hk).mono ?_
  rintro e w1 ⟨v, rfl, hI, hb1, _⟩
  have hF1 := hF.later hb1
  have h1 : w1.cell? ⟨b, 1, none⟩ = some (.int .i64 ((finish st).all : Int)) := by
    obtain ⟨_, vO, vE, vC, h2, _⟩ := hF1
    rw [blk_cell h2]; rfl
  have lb := cell_lt h1
  have HW : Hid (∀ u, (u == (kind == 2)) = !winsW (qFinish q0) kind (progBlocks (qFinish q0).vars)[k] → ∀ e w', e = Ending.returned (.bool u) → Below w.heap.size w w' → ∃ u, e = .returned (.bool u) ∧ (u == (kind == 2)) = !winsW (qFinish q0) kind (progBlocks (qFinish q0).vars)[k] ∧ Below w.heap.size w w') := hide (fun u hu e w' he hb => ⟨u, he, hu, hb⟩)
  obtain ⟨row, hrow⟩ : ∃ row, (progBlocks (qFinish q0).vars)[k] = row := ⟨_, rfl⟩
  rw [hrow] at hI hvr hne
  have HRO := hide hrow
  clear hrow
  cases row with
  | nil => exact absurd rfl hne
  | cons v r =>
    obtain ⟨ao, cap, rfl, hI2⟩ := hI
    obtain ⟨g, off, rfl, hc⟩ := hI2 0 (by simp)
    have hc0 : w1.cell? ⟨g, off, none⟩ = some (.int .i64 (v : Int)) := hc
    have lg := cell_lt hc0
    have hv8 := hvr v (by simp)
    clear hI2 hc
    go_wp2_with fail
    refine (universal_any b (finish st).all v _ h9 hv8 h1).mono ?_
    rintro e w2 ⟨rfl, hw2⟩
    subst hw2
    go_wp2_with fail
    go_ret
    exact unhide HW _ (unhide HU v (by rw [unhide HRO]; rfl)) _ _ rfl hb1

/-! ### next -/
/-- The first losing block from k on. -/
def nextTo (q : QS) (kind : Nat) : Nat → Nat → Nat
  | 0, k => k
  | m + 1, k => if winsW q kind ((progBlocks q.vars).getD k []) then nextTo q kind m (k + 1) else k
def nextP (q : QS) (kind k : Nat) : Nat := nextTo q kind ((progBlocks q.vars).length - k) k
theorem nextTo_eq (q : QS) (kind : Nat) : ∀ (m k t : Nat), k + m = (progBlocks q.vars).length → k ≤ t → t ≤ (progBlocks q.vars).length → (∀ j (hj : j < (progBlocks q.vars).length), k ≤ j → j < t → winsW q kind (progBlocks q.vars)[j] = true) → (∀ h : t < (progBlocks q.vars).length, winsW q kind (progBlocks q.vars)[t] = false) → nextTo q kind m k = t := by
  intro m
  induction m with
  | zero => intro k t h1 h2 h3 _ _; show k = t; omega
  | succ m ih =>
    intro k t h1 h2 h3 h4 h5
    have hk : k < (progBlocks q.vars).length := by omega
    have hg : (progBlocks q.vars).getD k [] = (progBlocks q.vars)[k] := by simp [List.getD, hk]
    rw [nextTo, hg]
    by_cases e : k = t
    · subst e; rw [h5 hk]; rfl
    · rw [h4 k hk (Nat.le_refl _) (by omega), if_pos rfl]
      exact ih (k + 1) t (by omega) (by omega) h3 (fun j hj a b => h4 j hj (by omega) b) h5
theorem nextP_eq (q : QS) (kind k t : Nat) (h1 : k ≤ t) (h2 : t ≤ (progBlocks q.vars).length) (h3 : ∀ j (hj : j < (progBlocks q.vars).length), k ≤ j → j < t → winsW q kind (progBlocks q.vars)[j] = true) (h4 : ∀ h : t < (progBlocks q.vars).length, winsW q kind (progBlocks q.vars)[t] = false) : nextP q kind k = t :=
  nextTo_eq q kind _ k t (by omega) h1 h2 h3 h4
set_option maxRecDepth 100000 in
set_option maxHeartbeats 1600000 in
theorem next_any {gb b2 kind k : Nat} {st : RS} {q0 : QS} {w : World} {cells : Array Value} (hP : Pair st q0) (hg : w.heap[gb]? = some (.cells cells 87 (0, 0))) (hg2 : cells[2]? = some (.pointer (some ⟨b2, 0, none⟩))) (hg4 : cells[4]? = some (.int .i64 (kind : Int))) (hF : RefAt 0 w b2 (finish st)) (hkd : kind = 1 ∨ kind = 2) (hk : k ≤ (progBlocks (qFinish q0).vars).length) :
    Calls Tryz.prog 54 #[.pointer (some ⟨gb, 0, none⟩), .int .i64 k] w fun e w' => e = .returned (.int .i64 (nextP (qFinish q0) kind k : Nat)) ∧ Below w.heap.size w w' := by
  have lg := blk_lt hg
  have c2 : w.cell? ⟨gb, 2, none⟩ = some (.pointer (some ⟨b2, 0, none⟩)) := by rw [blk_cell hg]; exact hg2
  obtain ⟨aE, cE, hE, lb⟩ := ref_ends hF
  rw [hP.ends] at hE
  have hn8 := blocks_le (qFinish q0).vars (vars_le hP.nice)
  go_enter Tryz.func54, Tryz.ntmps54
  go_wp2_with fail
  go_loopg [1] ((progBlocks (qFinish q0).vars).length - k) (fun m i wx => ∃ (j : Nat), i = .int .i64 j ∧ j + m = (progBlocks (qFinish q0).vars).length ∧ nextP (qFinish q0) kind k = nextTo (qFinish q0) kind m j ∧ Below w.heap.size w wx)
  case atStart => exact ⟨k, rfl, by omega, rfl, Below.refl _ _⟩
  case round =>
    obtain ⟨j, rfl, hjm, hnx, hb⟩ := hrel
    have HNX := hide hnx
    clear hnx
    have hgr := (hb.block _ lg).trans hg
    have d2 : wr.cell? ⟨gb, 2, none⟩ = some (.pointer (some ⟨b2, 0, none⟩)) := by rw [blk_cell hgr]; exact hg2
    have d4 : wr.cell? ⟨gb, 4, none⟩ = some (.int .i64 (kind : Int)) := by rw [blk_cell hgr]; exact hg4
    have lgr := blk_lt hgr
    by_cases hlt : j < (progBlocks (qFinish q0).vars).length
    · obtain ⟨m, rfl⟩ : ∃ m, gk = m + 1 := ⟨gk - 1, by omega⟩
      have hgd : (progBlocks (qFinish q0).vars).getD j [] = (progBlocks (qFinish q0).vars)[j] := by simp [List.getD, hlt]
      have HST : Hid (nextTo (qFinish q0) kind (m + 1) j = if winsW (qFinish q0) kind (progBlocks (qFinish q0).vars)[j] then nextTo (qFinish q0) kind m (j + 1) else j) := hide (by rw [nextTo, hgd])
      clear hgd
      go_wp2_with fail
      refine (universalB_any hP (hF.later hb) hlt kind hkd).mono ?_
      rintro e w1 ⟨u, rfl, hu, hb1⟩
      have hB1 := hb.trans (hb1.mono hb.size)
      have hg1 := (hb1.block _ lgr).trans hgr
      have e4 : w1.cell? ⟨gb, 4, none⟩ = some (.int .i64 (kind : Int)) := by rw [blk_cell hg1]; exact hg4
      have lg1 := blk_lt hg1
      cases hw : winsW (qFinish q0) kind (progBlocks (qFinish q0).vars)[j] with
      | true =>
        have HF2 : Hid (nextP (qFinish q0) kind k = nextTo (qFinish q0) kind m (j + 1)) := hide (by rw [unhide HNX, unhide HST, hw]; rfl)
        rw [hw] at hu
        rcases hkd with rfl | rfl <;> cases u <;> simp at hu
        all_goals
          go_wp2_with fail
          go_roundg m
          case measure => omega
          case rel => exact ⟨j + 1, by go_num, by omega, unhide HF2, hB1⟩
      | false =>
        have HF2 : Hid (nextP (qFinish q0) kind k = j) := hide (by rw [unhide HNX, unhide HST, hw]; rfl)
        rw [hw] at hu
        rcases hkd with rfl | rfl <;> cases u <;> simp at hu
        all_goals
          go_wp2_with fail
          go_ret
          exact ⟨by rw [unhide HF2]; rfl, hB1⟩
    · have hj : j = (progBlocks (qFinish q0).vars).length := by omega
      have hm0 : gk = 0 := by omega
      have HF2 : Hid (nextP (qFinish q0) kind k = (progBlocks (qFinish q0).vars).length) := hide (by rw [unhide HNX, hm0]; exact hj)
      clear hm0
      subst hj
      go_wp2_with fail
      go_ret
      exact ⟨by rw [unhide HF2]; rfl, hb⟩
end Go.Proofs.YtgipjjhkhfihpaaGreatDoor

namespace Go.Proofs.YtgipjjhkhfihpaaGreatDoor
open Go.RowKit

/-! ### What is told, bit by bit -/
def toldB (l : List Nat) : Nat := l.foldl (fun a v => a ||| 2 ^ v) 0
def trueB (c : Nat × Nat) (l : List Nat) : Nat := l.foldl (fun a v => if valV c v = 1 then a ||| 2 ^ v else a) 0
def valB (c : Nat × Nat) (val : List Int) (l : List Nat) : List Int := l.foldl (fun a v => a.set (v - 1) (valV c v)) val
theorem toldB_snoc (l : List Nat) (v : Nat) : toldB (l ++ [v]) = toldB l ||| 2 ^ v := by unfold toldB; rw [List.foldl_append]; rfl
theorem trueB_snoc (c : Nat × Nat) (l : List Nat) (v : Nat) : trueB c (l ++ [v]) = if valV c v = 1 then trueB c l ||| 2 ^ v else trueB c l := by unfold trueB; rw [List.foldl_append]; rfl
theorem valB_snoc (c : Nat × Nat) (val : List Int) (l : List Nat) (v : Nat) : valB c val (l ++ [v]) = (valB c val l).set (v - 1) (valV c v) := by unfold valB; rw [List.foldl_append]; rfl
theorem toldB_bit (l : List Nat) : ∀ a v, (l.foldl (fun a v => a ||| 2 ^ v) a).testBit v = (a.testBit v || decide (v ∈ l)) := by
  induction l with
  | nil => intro a v; simp
  | cons u l ih =>
    intro a v
    rw [List.foldl_cons, ih, Nat.testBit_or, testBit_pow]
    by_cases e : u = v
    · subst e; simp
    · have : (v ∈ u :: l) ↔ v ∈ l := ⟨fun h => (List.mem_cons.1 h).elim (fun h => (e h.symm).elim) id, List.mem_cons_of_mem _⟩
      have e2 : (u == v) = false := by simpa using e
      simp [e2, this]
theorem toldB_at (l : List Nat) (v : Nat) : (toldB l).testBit v = decide (v ∈ l) := by unfold toldB; rw [toldB_bit]; simp
theorem trueB_bit (c : Nat × Nat) (l : List Nat) : ∀ a v, (l.foldl (fun a v => if valV c v = 1 then a ||| 2 ^ v else a) a).testBit v = (a.testBit v || (decide (v ∈ l) && decide (valV c v = 1))) := by
  induction l with
  | nil => intro a v; simp
  | cons u l ih =>
    intro a v
    rw [List.foldl_cons, ih]
    by_cases e : u = v
    · subst e
      by_cases h : valV c u = 1
      · rw [if_pos h, Nat.testBit_or, testBit_pow]; simp [h]
      · rw [if_neg h]; simp [h]
    · have : (v ∈ u :: l) ↔ v ∈ l := ⟨fun h => (List.mem_cons.1 h).elim (fun h => (e h.symm).elim) id, List.mem_cons_of_mem _⟩
      have e2 : (u == v) = false := by simpa using e
      split
      · rw [Nat.testBit_or, testBit_pow]; simp [e2, this]
      · simp [this]
theorem trueB_at (c : Nat × Nat) (l : List Nat) (v : Nat) : (trueB c l).testBit v = (decide (v ∈ l) && decide (valV c v = 1)) := by unfold trueB; rw [trueB_bit]; simp
theorem or_pow_lt (a v : Nat) (ha : a < 512) (hv : v ≤ 8) : a ||| 2 ^ v < 512 := by
  refine Nat.or_lt_two_pow (n := 9) ha ?_
  exact Nat.pow_lt_pow_right (by decide) (by omega)
theorem toldB_lt (l : List Nat) (h : ∀ v ∈ l, v ≤ 8) : toldB l < 512 := by
  unfold toldB
  suffices hh : ∀ a, a < 512 → l.foldl (fun a v => a ||| 2 ^ v) a < 512 from hh 0 (by decide)
  induction l with
  | nil => intro a ha; exact ha
  | cons u l ih => intro a ha; exact ih (fun v hv => h v (List.mem_cons_of_mem _ hv)) _ (or_pow_lt a u ha (h u (by simp)))
theorem trueB_lt (c : Nat × Nat) (l : List Nat) (h : ∀ v ∈ l, v ≤ 8) : trueB c l < 512 := by
  unfold trueB
  suffices hh : ∀ a, a < 512 → l.foldl (fun a v => if valV c v = 1 then a ||| 2 ^ v else a) a < 512 from hh 0 (by decide)
  induction l with
  | nil => intro a ha; exact ha
  | cons u l ih =>
    intro a ha
    rw [List.foldl_cons]
    refine ih (fun v hv => h v (List.mem_cons_of_mem _ hv)) _ ?_
    split
    · exact or_pow_lt a u ha (h u (by simp))
    · exact ha
theorem valB_len (c : Nat × Nat) (l : List Nat) : ∀ val, (valB c val l).length = val.length := by
  unfold valB
  induction l with
  | nil => intro val; rfl
  | cons u l ih => intro val; rw [List.foldl_cons, ih]; simp
theorem valB_at (c : Nat × Nat) (l : List Nat) (h : ∀ v ∈ l, 1 ≤ v ∧ v ≤ 8) (v : Nat) (h1 : 1 ≤ v) (h8 : v ≤ 8) : ∀ val : List Int, val.length = 8 → (valB c val l).getD (v - 1) 0 = if v ∈ l then valV c v else val.getD (v - 1) 0 := by
  unfold valB
  induction l with
  | nil => intro val _; simp
  | cons u l ih =>
    intro val hl
    rw [List.foldl_cons, ih (fun v hv => h v (List.mem_cons_of_mem _ hv)) _ (by simpa using hl)]
    have hu := h u (by simp)
    by_cases hv : v ∈ l
    · rw [if_pos hv, if_pos (List.mem_cons_of_mem _ hv)]
    · rw [if_neg hv]
      by_cases e : v = u
      · subst e
        rw [if_pos (by simp), List.getD, List.getElem?_set_self (by omega)]; rfl
      · rw [if_neg (by simp [e, hv]), List.getD, List.getElem?_set_ne (by omega)]; rfl
/-- All values, as a list. -/
def valsL (c : Nat × Nat) : List Int := (List.range 8).map (fun i => valV c (i + 1))
theorem valsL_at (c : Nat × Nat) (v : Nat) (h1 : 1 ≤ v) (h8 : v ≤ 8) : (valsL c).getD (v - 1) 0 = valV c v := by
  unfold valsL
  rw [List.getD, List.getElem?_map, List.getElem?_range (by omega)]
  simp [show v - 1 + 1 = v from by omega]
theorem list8_ext {a b : List Int} (ha : a.length = 8) (hb : b.length = 8) (h : ∀ v, 1 ≤ v → v ≤ 8 → a.getD (v - 1) 0 = b.getD (v - 1) 0) : a = b := by
  apply List.ext_getElem (by omega)
  intro i h1 h2
  have := h (i + 1) (by omega) (by omega)
  rw [Nat.add_sub_cancel, List.getD, List.getD, List.getElem?_eq_getElem h1, List.getElem?_eq_getElem h2] at this
  exact this
theorem valB_all {q : QS} (hq : QGood q) {kind : Nat} {rs : List RuleP} {g : GS} {bs : List Bool} (h : Run q kind rs g bs) {val : List Int} (hl : val.length = 8) (hok : ∀ v, 1 ≤ v → v ≤ 8 → val.getD (v - 1) 0 = 0 ∨ val.getD (v - 1) 0 = valV g.vals v) : valB g.vals val ((q.vars.map (·.1)).take bs.length) = valsL g.vals := by
  refine list8_ext (by rw [valB_len]; exact hl) (by simp [valsL]) (fun v h1 h8 => ?_)
  rw [valB_at _ _ (fun v hv => hq.name (List.mem_of_mem_take hv)) v h1 h8 val hl, valsL_at _ v h1 h8]
  split
  · rfl
  · next hn =>
    have h0 : valV g.vals v = 0 := run_none hq h (fun j hj hjb e => hn (by
      rw [List.mem_take_iff_getElem]
      exact ⟨j, by simp; omega, by simpa using e⟩))
    rcases hok v h1 h8 with e | e
    · rw [e, h0]
    · exact e
theorem trueB_all {q : QS} (hq : QGood q) {kind : Nat} {rs : List RuleP} {g : GS} {bs : List Bool} (h : Run q kind rs g bs) (ht : g.turn = (progBlocks q.vars).length) : trueB g.vals (q.vars.map (·.1)) = g.vals.1 := by
  have hl : bs.length = q.vars.length := by rw [h.len, ht, offs_all, progBlocks_flat, List.length_map]
  apply Nat.eq_of_testBit_eq
  intro v
  rw [trueB_at]
  cases hv : g.vals.1.testBit v with
  | true =>
    obtain ⟨j, hj, hb, e1, e2⟩ := (run_L hq h true v).1 hv
    have hval := run_val hq h hj hb
    rw [e2, e1] at hval
    rw [hval, Bool.and_eq_true]
    exact ⟨decide_eq_true (by rw [← e1]; exact List.mem_map_of_mem (List.getElem_mem hj)), by decide⟩
  | false =>
    cases hc : (decide (v ∈ q.vars.map (·.1)) && decide (valV g.vals v = 1)) with
    | false => rfl
    | true =>
      rw [Bool.and_eq_true] at hc
      have h1 : valV g.vals v = 1 := by simpa using hc.2
      unfold valV at h1
      split at h1
      · omega
      · split at h1
        · next hh => rw [show L g.vals true v = g.vals.1.testBit v from rfl, hv] at hh; cases hh
        · omega
end Go.Proofs.YtgipjjhkhfihpaaGreatDoor
