import Derived.Test.YtbpolmdokdhkhaaEquiv
import Derived.Test.YtbpolmdokdhkhaaBlocksSpec
namespace Go.Proofs.Ytbpolmdokdhkhaa

/-! ### Both sides' blocks are the same -/
theorem all_fold (l : List (Nat × Bool)) : ∀ (a v : Nat), (l.foldl (fun a x => if x.2 then a ||| 2 ^ x.1 else a) a).testBit v = (a.testBit v || l.any (fun x => x.2 && x.1 == v)) := by
  induction l with
  | nil => intro a v; simp
  | cons x l ih =>
    intro a v
    rw [List.foldl_cons, ih, List.any_cons]
    cases x.2 with
    | false => simp
    | true =>
      rw [if_pos rfl, Nat.testBit_or, testBit_pow, Bool.or_assoc]; simp
theorem zip_map (l : List (Nat × Bool)) : (l.map (·.1)).zip (l.map (·.2)) = l := by
  induction l with
  | nil => rfl
  | cons x l ih => simp [ih]
theorem all_bit {st : RS} {q : QS} (h : Same st q) (v : Nat) : (finish st).all.testBit v = q.vars.any (fun x => x.2 && x.1 == v) := by
  show (allTo st st.told.length).testBit v = _
  unfold allTo
  rw [h.told, h.kinds, zip_map, List.length_map, List.take_length, all_fold]
  simp
theorem any_unique (l : List (Nat × Bool)) (hn : (l.map (·.1)).Nodup) (x : Nat × Bool) (hx : x ∈ l) : l.any (fun y => y.2 && y.1 == x.1) = x.2 := by
  induction l with
  | nil => simp at hx
  | cons y l ih =>
    rw [List.map_cons, List.nodup_cons] at hn
    rw [List.any_cons]
    rcases List.mem_cons.1 hx with e | hx
    · subst e
      have : l.any (fun y => y.2 && y.1 == x.1) = false := by
        rw [List.any_eq_false]
        intro z hz hh
        simp at hh
        exact hn.1 (by rw [← hh.2]; exact List.mem_map_of_mem hz)
      rw [this]; simp
    · rw [ih hn.2 hx]
      have : (y.1 == x.1) = false := by
        rw [beq_eq_false_iff_ne]; intro e; exact hn.1 (by rw [e]; exact List.mem_map_of_mem hx)
      rw [this]; simp
theorem free_eq {st : RS} {q : QS} (h : Same st q) : freeTo st 8 = freeQ q 8 := by
  unfold freeTo freeQ
  apply List.filter_congr
  intro v hv
  rw [List.mem_map] at hv
  obtain ⟨u, hu, rfl⟩ := hv
  have : u < 8 := by simpa using hu
  rw [h.used (u + 1) (by omega) (by omega), h.seen, Bool.and_comm]
theorem order_eq {st : RS} {q : QS} (h : Same st q) : (finish st).order = (qFinish q).vars.map (·.1) := by
  show freeTo st 8 ++ st.told = (exv (freeQ q 8) ++ q.vars).map (·.1)
  rw [free_eq h, h.told, List.map_append]
  congr 1
  simp [exv, Function.comp_def]
theorem kinds_eq {st : RS} {q : QS} (h : Same st q) (hn : QNice q) : ∀ x ∈ (qFinish q).vars, (finish st).all.testBit x.1 = x.2 := by
  intro x hx
  rw [all_bit h]
  rcases List.mem_append.1 (show x ∈ exv (freeQ q 8) ++ q.vars from hx) with hx | hx
  · unfold exv at hx
    rw [List.mem_map] at hx
    obtain ⟨v, hv, rfl⟩ := hx
    unfold freeQ at hv
    rw [List.mem_filter, Bool.and_eq_true, Bool.not_eq_true'] at hv
    have hh := hv.2.1
    dsimp only
    rw [List.any_eq_false]
    intro z hz hzz
    simp at hzz
    have : hasV q.vars v = true := by unfold hasV; rw [List.any_eq_true]; exact ⟨z, hz, by simpa using hzz.2⟩
    rw [hh] at this; cases this
  · exact any_unique _ hn.nodup x hx
theorem finish_ends {st : RS} {q : QS} (h : Same st q) (hn : QNice q) : (finish st).ends = endsOf (qFinish q).vars := by
  have := ends_eq (qFinish q).vars (finish st).all (kinds_eq h hn)
  rw [← this]
  show endsTo (finish st).order (finish st).all (finish st).order.length = _
  rw [order_eq h, List.length_map]
theorem progBlocks_len (vs : List (Nat × Bool)) : (progBlocks vs).length = (endsOf vs).length := by rw [progBlocks_eq]; simp

/-- Names: rising bounds. -/
theorem nodup_lt : ∀ (n : Nat) (l : List Nat), l.Nodup → (∀ x ∈ l, x < n) → l.length ≤ n := by
  intro n
  induction n with
  | zero =>
    intro l _ h
    cases l with
    | nil => simp
    | cons x l => exact absurd (h x (by simp)) (by omega)
  | succ n ih =>
    intro l hn h
    have h1 := ih (l.erase n) (hn.erase n) (by
      intro x hx
      rw [hn.mem_erase_iff] at hx
      have := h x hx.2; omega)
    rw [List.length_erase] at h1
    split at h1 <;> omega
theorem nodup_le (l : List Nat) (hn : l.Nodup) (hb : ∀ x ∈ l, 1 ≤ x ∧ x ≤ 8) : l.length ≤ 8 := by
  have h := nodup_lt 9 (0 :: l) (by
    rw [List.nodup_cons]
    exact ⟨fun h => by have := hb 0 h; omega, hn⟩) (by
    intro x hx
    rcases List.mem_cons.1 hx with rfl | hx
    · omega
    · have := hb x hx; omega)
  simpa using h
theorem names_all {q : QS} (hn : QNice q) : ((qFinish q).vars.map (·.1)).Nodup ∧ ∀ x ∈ (qFinish q).vars, 1 ≤ x.1 ∧ x.1 ≤ 8 := by
  show ((exv (freeQ q 8) ++ q.vars).map (·.1)).Nodup ∧ ∀ x ∈ exv (freeQ q 8) ++ q.vars, 1 ≤ x.1 ∧ x.1 ≤ 8
  have e : (exv (freeQ q 8)).map (·.1) = freeQ q 8 := by simp [exv, Function.comp_def]
  have hmem : ∀ v ∈ freeQ q 8, (1 ≤ v ∧ v ≤ 8) ∧ hasV q.vars v = false := by
    intro v hv
    unfold freeQ at hv
    rw [List.mem_filter, Bool.and_eq_true, Bool.not_eq_true', List.mem_map] at hv
    obtain ⟨⟨u, hu, rfl⟩, hh, _⟩ := hv
    have : u < 8 := by simpa using hu
    exact ⟨by omega, hh⟩
  constructor
  · rw [List.map_append, e, List.nodup_append]
    refine ⟨?_, hn.nodup, ?_⟩
    · unfold freeQ
      refine List.Pairwise.filter _ ?_
      rw [List.pairwise_map]
      exact List.pairwise_lt_range.imp (fun h => by omega)
    · intro a ha b hb e
      subst e
      rw [List.mem_map] at hb
      obtain ⟨x, hx, hxe⟩ := hb
      have : hasV q.vars a = true := by unfold hasV; rw [List.any_eq_true]; exact ⟨x, hx, by simpa using hxe⟩
      rw [(hmem a ha).2] at this; cases this
  · intro x hx
    rcases List.mem_append.1 hx with hx | hx
    · unfold exv at hx
      rw [List.mem_map] at hx
      obtain ⟨v, hv, rfl⟩ := hx
      exact (hmem v hv).1
    · exact hn.names x hx
theorem vars_le {q : QS} (hn : QNice q) : (qFinish q).vars.length ≤ 8 := by
  have h := names_all hn
  have := nodup_le _ h.1 (by
    intro x hx
    rw [List.mem_map] at hx
    obtain ⟨y, hy, rfl⟩ := hx
    exact h.2 y hy)
  simpa using this

/-! ### Where blocks end: rising, within the variables -/
theorem cuts_sorted (vs : List (Nat × Bool)) (k : Nat) : (cutsTo vs k).Pairwise (· < ·) := by
  unfold cutsTo
  exact List.Pairwise.filter _ List.pairwise_lt_range
theorem ends_sorted (vs : List (Nat × Bool)) : (endsOf vs).Pairwise (· < ·) := by
  unfold endsOf
  split
  · rw [List.pairwise_append]
    refine ⟨cuts_sorted _ _, by simp, ?_⟩
    intro a ha b hb
    simp at hb; subst hb
    exact (cutsTo_lt vs _ a ha).2
  · simp
theorem ends_mem (vs : List (Nat × Bool)) : ∀ x ∈ endsOf vs, 0 < x ∧ x ≤ vs.length := by
  unfold endsOf
  split
  · intro x hx
    rcases List.mem_append.1 hx with hx | hx
    · have := cutsTo_lt vs _ x hx; omega
    · simp at hx; omega
  · simp
theorem ends_len (vs : List (Nat × Bool)) : (endsOf vs).length ≤ vs.length := by
  unfold endsOf
  split
  · next h =>
    have hc : (cutsTo vs vs.length).length ≤ vs.length - 1 := by
      obtain ⟨n, hn⟩ : ∃ n, vs.length = n + 1 := ⟨vs.length - 1, by omega⟩
      rw [hn]
      unfold cutsTo
      rw [show List.range (n + 1) = 0 :: (List.range n).map (· + 1) from List.range_succ_eq_map, List.filter_cons, if_neg (by simp [newAt])]
      refine Nat.le_trans (List.length_filter_le _ _) ?_
      simp
    simp; omega
  · simp
theorem start_le (vs : List (Nat × Bool)) (k : Nat) (h : k < (endsOf vs).length) : startOf (endsOf vs) k ≤ (endsOf vs).getD k 0 := by
  unfold startOf
  split
  · have hs := ends_sorted vs
    rw [List.pairwise_iff_getElem] at hs
    have := hs (k - 1) k (by omega) h (by omega)
    simp only [List.getD, List.getElem?_eq_getElem h, List.getElem?_eq_getElem (show k - 1 < (endsOf vs).length by omega), Option.getD_some]
    omega
  · omega
theorem end_le (vs : List (Nat × Bool)) (k : Nat) (h : k < (endsOf vs).length) : (endsOf vs).getD k 0 ≤ vs.length := by
  simp only [List.getD, List.getElem?_eq_getElem h, Option.getD_some]
  exact (ends_mem vs _ (List.getElem_mem h)).2
end Go.Proofs.Ytbpolmdokdhkhaa
