import Derived.Test.YtbpolmdokdhkhaaReadSpec
namespace Go.Proofs.Ytbpolmdokdhkhaa

/-! ### Blocks, by the kinds of the variables -/
def kindAt (vs : List (Nat × Bool)) (i : Nat) : Bool := (vs.getD i (0, false)).2
def newAt (vs : List (Nat × Bool)) (i : Nat) : Bool := decide (0 < i) && (kindAt vs i != kindAt vs (i - 1))
/-- Where blocks end ahead of k. -/
def cutsTo (vs : List (Nat × Bool)) (k : Nat) : List Nat := (List.range k).filter (newAt vs)
theorem cutsTo_succ (vs : List (Nat × Bool)) (k : Nat) : cutsTo vs (k + 1) = cutsTo vs k ++ (if newAt vs k then [k] else []) := by
  unfold cutsTo
  rw [List.range_succ, List.filter_append]
  congr 1
  simp [List.filter_cons]
theorem cutsTo_lt (vs : List (Nat × Bool)) (k : Nat) : ∀ x ∈ cutsTo vs k, 0 < x ∧ x < k := by
  intro x hx
  unfold cutsTo at hx
  rw [List.mem_filter] at hx
  obtain ⟨h1, h2⟩ := hx
  simp [newAt] at h1 h2
  exact ⟨h2.1, h1⟩
/-- What the program has gathered behind k variables: whole blocks, and the one at hand. -/
def gather (vs : List (Nat × Bool)) : Nat → List (List Nat) × List Nat
  | 0 => ([], [])
  | k + 1 => if newAt vs k then ((gather vs k).1 ++ [(gather vs k).2], [(vs.getD k (0, false)).1]) else ((gather vs k).1, (gather vs k).2 ++ [(vs.getD k (0, false)).1])
def progBlocks (vs : List (Nat × Bool)) : List (List Nat) := if 0 < (gather vs vs.length).2.length then (gather vs vs.length).1 ++ [(gather vs vs.length).2] else (gather vs vs.length).1

theorem getD_left {α : Type} (a b : List α) (j : Nat) (d : α) (h : j < a.length) : (a ++ b).getD j d = a.getD j d := by
  simp [List.getD, List.getElem?_append_left h]
/-- A piece of a list. -/
def piece (l : List Nat) (a b : Nat) : List Nat := (l.drop a).take (b - a)
def startOf (es : List Nat) (j : Nat) : Nat := if 0 < j then es.getD (j - 1) 0 else 0
theorem piece_snoc (l : List Nat) (a b : Nat) (hab : a ≤ b) (hb : b < l.length) : piece l a (b + 1) = piece l a b ++ [l[b]] := by
  unfold piece
  rw [show b + 1 - a = (b - a) + 1 from by omega, List.take_succ_eq_append_getElem (by simp; omega)]
  congr 1
  simp
  congr 1
  omega
theorem gather_eq (vs : List (Nat × Bool)) : ∀ k, k ≤ vs.length → 
    (gather vs k).1 = (List.range (cutsTo vs k).length).map (fun j => piece (vs.map (·.1)) (startOf (cutsTo vs k) j) ((cutsTo vs k).getD j 0)) ∧
    (gather vs k).2 = piece (vs.map (·.1)) (startOf (cutsTo vs k) (cutsTo vs k).length) k := by
  intro k
  induction k with
  | zero => intro _; simp [gather, cutsTo, piece, startOf]
  | succ k ih =>
    intro hk
    obtain ⟨h1, h2⟩ := ih (by omega)
    have hlt := cutsTo_lt vs k
    have hst : startOf (cutsTo vs k) (cutsTo vs k).length ≤ k := by
      unfold startOf
      split
      · next hp =>
        have hm : (cutsTo vs k).getD ((cutsTo vs k).length - 1) 0 ∈ cutsTo vs k := by
          rw [List.getD, List.getElem?_eq_getElem (by omega)]
          exact List.getElem_mem _
        have := (hlt _ hm).2; omega
      · omega
    have hv : (vs.getD k (0, false)).1 = (vs.map (·.1))[k]'(by simp; omega) := by
      simp [List.getD, show k < vs.length by omega]
    rw [gather, cutsTo_succ]
    cases hn : newAt vs k with
    | false =>
      rw [if_neg (by decide), if_neg (by decide)]
      simp only [List.append_nil]
      refine ⟨h1, ?_⟩
      rw [h2, hv, ← piece_snoc _ _ _ hst]
    | true =>
      rw [if_pos rfl, if_pos rfl]
      constructor
      · show (gather vs k).1 ++ [(gather vs k).2] = _
        rw [List.length_append, List.length_singleton, List.range_succ, List.map_append, h1, h2]
        congr 1
        · apply List.map_congr_left
          intro j hj
          have hj' : j < (cutsTo vs k).length := by simpa using hj
          have e1 : startOf (cutsTo vs k ++ [k]) j = startOf (cutsTo vs k) j := by
            unfold startOf
            split
            · rw [getD_left _ _ _ _ (by omega)]
            · rfl
          rw [e1, getD_left _ _ _ _ hj']
        · simp only [List.map_cons, List.map_nil]
          have e1 : startOf (cutsTo vs k ++ [k]) (cutsTo vs k).length = startOf (cutsTo vs k) (cutsTo vs k).length := by
            unfold startOf
            split
            · rw [getD_left _ _ _ _ (by omega)]
            · rfl
          rw [e1]
          simp [List.getD]
      · show [(vs.getD k (0, false)).1] = _
        have e1 : startOf (cutsTo vs k ++ [k]) (cutsTo vs k ++ [k]).length = k := by
          unfold startOf
          rw [if_pos (by simp)]
          simp [List.getD]
        rw [e1]
        unfold piece
        rw [show k + 1 - k = 1 from by omega, List.drop_eq_getElem_cons (by simp; omega), hv]
        rfl

/-- Where all blocks end. -/
def endsOf (vs : List (Nat × Bool)) : List Nat := if 0 < vs.length then cutsTo vs vs.length ++ [vs.length] else []
theorem gather_pos (vs : List (Nat × Bool)) (k : Nat) : 0 < (gather vs (k + 1)).2.length := by
  rw [gather]; split <;> simp
theorem progBlocks_eq (vs : List (Nat × Bool)) : progBlocks vs = (List.range (endsOf vs).length).map (fun j => piece (vs.map (·.1)) (startOf (endsOf vs) j) ((endsOf vs).getD j 0)) := by
  obtain ⟨h1, h2⟩ := gather_eq vs vs.length (Nat.le_refl _)
  unfold progBlocks endsOf
  rcases Nat.eq_zero_or_pos vs.length with h0 | h0
  · rw [h0]; simp [gather]
  · have hp : 0 < (gather vs vs.length).2.length := by
      obtain ⟨k, hk⟩ : ∃ k, vs.length = k + 1 := ⟨vs.length - 1, by omega⟩
      rw [hk]; exact gather_pos vs k
    rw [if_pos hp, if_pos h0]
    rw [List.length_append, List.length_singleton, List.range_succ, List.map_append, h1, h2]
    congr 1
    · apply List.map_congr_left
      intro j hj
      have hj' : j < (cutsTo vs vs.length).length := by simpa using hj
      have e1 : startOf (cutsTo vs vs.length ++ [vs.length]) j = startOf (cutsTo vs vs.length) j := by
        unfold startOf
        split
        · rw [getD_left _ _ _ _ (by omega)]
        · rfl
      rw [e1, getD_left _ _ _ _ hj']
    · simp only [List.map_cons, List.map_nil]
      have e1 : startOf (cutsTo vs vs.length ++ [vs.length]) (cutsTo vs vs.length).length = startOf (cutsTo vs vs.length) (cutsTo vs vs.length).length := by
        unfold startOf
        split
        · rw [getD_left _ _ _ _ (by omega)]
        · rfl
      rw [e1]
      simp [List.getD]

/-- Read's ends, where its bits tell the kinds. -/
theorem ends_eq (vs : List (Nat × Bool)) (all : Nat) (hk : ∀ x ∈ vs, all.testBit x.1 = x.2) : endsTo (vs.map (·.1)) all vs.length = endsOf vs := by
  have hka : ∀ i, i < vs.length → all.testBit ((vs.map (·.1)).getD i 0) = kindAt vs i := by
    intro i hi
    unfold kindAt
    have := hk vs[i] (List.getElem_mem hi)
    simpa [List.getD, hi] using this
  have h : ∀ k, k ≤ vs.length → endsTo (vs.map (·.1)) all k = (cutsTo vs (min (k + 1) vs.length)) ++ (if k = vs.length ∧ 0 < vs.length then [vs.length] else []) := by
    intro k
    induction k with
    | zero =>
      intro _
      rcases Nat.eq_zero_or_pos vs.length with h0 | h0
      · rw [h0]; simp [endsTo, cutsTo]
      · rw [show min (0 + 1) vs.length = 1 from by omega, if_neg (by omega)]
        simp [endsTo, cutsTo, newAt]
    | succ k ih =>
      intro hle
      rw [endsTo_succ, ih (by omega)]
      have hne : ¬ (k = vs.length ∧ 0 < vs.length) := by omega
      rw [if_neg hne, List.append_nil, show min (k + 1) vs.length = k + 1 from by omega]
      by_cases hlast : k + 1 = vs.length
      · have e : endAt (vs.map (·.1)) all (k + 1) = true := by
          unfold endAt; simp [hlast]
        rw [e, if_pos rfl, if_pos ⟨hlast, by omega⟩, show min (k + 1 + 1) vs.length = k + 1 from by omega, hlast]
      · have hlt : k + 1 < vs.length := by omega
        have e : endAt (vs.map (·.1)) all (k + 1) = newAt vs (k + 1) := by
          unfold endAt newAt
          rw [hka (k + 1) hlt, hka (k + 1 - 1) (by omega)]
          simp [hlast]
        have hne2 : ¬ (k + 1 = vs.length ∧ 0 < vs.length) := by omega
        rw [e, if_neg hne2, List.append_nil, show min (k + 1 + 1) vs.length = k + 1 + 1 from by omega, cutsTo_succ vs (k + 1)]
  rw [h vs.length (Nat.le_refl _)]
  unfold endsOf
  rw [show min (vs.length + 1) vs.length = vs.length from by omega]
  by_cases h0 : 0 < vs.length
  · rw [if_pos ⟨rfl, h0⟩, if_pos h0]
  · rw [if_neg (by omega), if_neg h0, show vs.length = 0 from by omega]
    rfl
end Go.Proofs.Ytbpolmdokdhkhaa
