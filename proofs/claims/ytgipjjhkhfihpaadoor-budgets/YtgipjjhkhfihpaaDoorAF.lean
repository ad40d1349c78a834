import Derived.Test.YtgipjjhkhfihpaaDoorAC
import Derived.Test.YtgipjjhkhfihpaaDoorAE
namespace Go.Proofs.YtgipjjhkhfihpaaDoor
open Go.RowKit

/-! ### Literals of a set -/
def L (c : Nat × Nat) (s : Bool) (v : Nat) : Bool := if s then c.1.testBit v else c.2.testBit v
def litI (v : Nat) (s : Bool) : Int := if s then (v : Int) else -(v : Int)
theorem L_ext {a b : Nat × Nat} (h : ∀ s v, L a s v = L b s v) : a = b := pair_ext (fun v => h true v) (fun v => h false v)
theorem L_zero (s : Bool) (v : Nat) : L (0, 0) s v = false := by cases s <;> simp [L]
theorem L_minus (a b : Nat × Nat) (s : Bool) (v : Nat) : L (minus a b) s v = (L a s v && !L b s v) := by
  cases s <;> simp [L, minus, testBit_less]
theorem L_swap (a : Nat × Nat) (s : Bool) (v : Nat) : L (swapL a) s v = L a (!s) v := by cases s <;> rfl
theorem L_left (c vals : Nat × Nat) (s : Bool) (v : Nat) : L (leftOf c vals) s v = (L c s v && !L vals (!s) v) := by rw [leftOf, L_minus, L_swap]
theorem litI_neg (v : Nat) (s : Bool) : -(litI v s) = litI v (!s) := by cases s <;> simp [litI]
theorem litI_abs (v : Nat) (s : Bool) : (litI v s).natAbs = v := by cases s <;> simp [litI]
theorem litI_inj {v u : Nat} {s t : Bool} (hv : 1 ≤ v) (hu : 1 ≤ u) (h : litI v s = litI u t) : v = u ∧ s = t := by
  cases s <;> cases t <;> simp [litI] at h
  · exact ⟨by omega, rfl⟩
  · omega
  · omega
  · exact ⟨by omega, rfl⟩
theorem L_with (c : Nat × Nat) (v : Nat) (s : Bool) (h1 : 1 ≤ v) (h8 : v ≤ 8) (t : Bool) (u : Nat) : L (withLit c (litI v s)) t u = (L c t u || (t == s && decide (u = v))) := by
  have hb := bitOf_nat v h1 h8
  cases s with
  | true =>
    have e : withLit c (litI v true) = (c.1 ||| 2 ^ v, c.2) := by
      have e0 : litI v true = (v : Int) := rfl
      rw [e0]; unfold withLit; rw [if_neg (by omega), hb]
    rw [e]
    cases t with
    | true => simp only [L, if_true]; rw [bit_or]; simp [eq_comm]
    | false => simp [L]
  | false =>
    have e : withLit c (litI v false) = (c.1, c.2 ||| 2 ^ v) := by
      have e0 : litI v false = -(v : Int) := rfl
      rw [e0]; unfold withLit; rw [if_pos (by omega), Int.neg_neg, hb]
    rw [e]
    cases t with
    | true => simp [L]
    | false => simp only [L, Bool.false_eq_true, if_false]; rw [bit_or]; simp [eq_comm]
theorem hasLit_L (c : Nat × Nat) (v : Nat) (s : Bool) (h1 : 1 ≤ v) (h8 : v ≤ 8) : hasLit c (litI v s) = L c s v := by
  cases s with
  | true => exact hasLit_pos c v h1 h8
  | false => exact hasLit_neg c v h1 h8
theorem hasVar_L (c : Nat × Nat) (v : Nat) (h1 : 1 ≤ v) (h8 : v ≤ 8) : hasVarB c v = (L c true v || L c false v) := by
  rw [has_eq c v h1 h8]; unfold hasB L; rw [Nat.testBit_or]; rfl
theorem L_without (c : Nat × Nat) (v : Nat) (h1 : 1 ≤ v) (h8 : v ≤ 8) (s : Bool) (u : Nat) : L (without c v) s u = (L c s u && !decide (u = v)) := by
  unfold without
  rw [bitOf_nat v h1 h8]
  cases s <;> simp [L, testBit_less, Nat.testBit_two_pow, eq_comm]
theorem L_without2 (a b : Nat × Nat) (v : Nat) (h1 : 1 ≤ v) (h8 : v ≤ 8) (s : Bool) (u : Nat) : L (without2 a b v) s u = ((L a s u || L b s u) && !decide (u = v)) := by
  rw [without2, L_without _ _ h1 h8]
  cases s <;> simp [L]
theorem bits_zero {a : Nat} : a = 0 ↔ ∀ v, a.testBit v = false :=
  ⟨fun h v => by rw [h]; simp, fun h => Nat.eq_of_testBit_eq (fun v => by rw [h v]; simp)⟩
theorem meets_iff (a b : Nat × Nat) : meetsB a b = true ↔ ∃ s v, L a s v = true ∧ L b s v = true := by
  unfold meetsB
  rw [bne_iff_ne]
  constructor
  · intro h
    obtain ⟨v, hv⟩ := some_bit h
    rw [Nat.testBit_or, Nat.testBit_and, Nat.testBit_and, Bool.or_eq_true, Bool.and_eq_true, Bool.and_eq_true] at hv
    rcases hv with hv | hv
    · exact ⟨true, v, hv⟩
    · exact ⟨false, v, hv⟩
  · rintro ⟨s, v, h1, h2⟩ e
    have := bits_zero.1 e v
    rw [Nat.testBit_or, Nat.testBit_and, Nat.testBit_and] at this
    cases s
    · simp only [L, Bool.false_eq_true, if_false] at h1 h2; rw [h1, h2] at this; simp at this
    · simp only [L, if_true] at h1 h2; rw [h1, h2] at this; simp at this
theorem clash_iff (a : Nat × Nat) : clashB a = true ↔ ∃ v, L a true v = true ∧ L a false v = true := by
  unfold clashB
  rw [bne_iff_ne]
  constructor
  · intro h
    obtain ⟨v, hv⟩ := some_bit h
    rw [Nat.testBit_and, Bool.and_eq_true] at hv
    exact ⟨v, hv⟩
  · rintro ⟨v, h1, h2⟩ e
    have := bits_zero.1 e v
    rw [Nat.testBit_and] at this
    simp only [L, Bool.false_eq_true, if_false, if_true] at h1 h2
    rw [h1, h2] at this; simp at this
theorem empty_iff (a : Nat × Nat) : emptyB a = true ↔ ∀ s v, L a s v = false := by
  unfold emptyB
  rw [beq_iff_eq, bits_zero]
  constructor
  · intro h s v
    have := h v
    rw [Nat.testBit_or, Bool.or_eq_false_iff] at this
    cases s
    · exact this.2
    · exact this.1
  · intro h v
    rw [Nat.testBit_or, Bool.or_eq_false_iff]
    exact ⟨h true v, h false v⟩
theorem empty_eq (a : Nat × Nat) : emptyB a = true ↔ a = (0, 0) := by
  rw [empty_iff]
  exact ⟨fun h => L_ext (fun s v => by rw [h s v, L_zero]), fun h s v => by rw [h, L_zero]⟩
/-- No variable's literals are both there. -/
def Free (c : Nat × Nat) : Prop := ∀ v, L c true v = true → L c false v = true → False
theorem free_iff (c : Nat × Nat) : clashB c = false ↔ Free c := by
  rw [← Bool.not_eq_true, clash_iff]
  exact ⟨fun h v a b => h ⟨v, a, b⟩, fun h ⟨v, a, b⟩ => h v a b⟩
theorem Free.not {c : Nat × Nat} (h : Free c) {s : Bool} {v : Nat} (h1 : L c s v = true) : L c (!s) v = false := by
  cases h2 : L c (!s) v with
  | false => rfl
  | true =>
    cases s
    · exact (h v h2 h1).elim
    · exact (h v h1 h2).elim
theorem Free.sub {c d : Nat × Nat} (h : Free c) (hs : ∀ s v, L d s v = true → L c s v = true) : Free d := fun v a b => h v (hs _ _ a) (hs _ _ b)
/-- Of literals that are on a path, or turned on it. -/
theorem Free.flip {c d : Nat × Nat} (h : Free c) (k : Bool) (hs : ∀ s v, L d s v = true → L c (s == k) v = true) : Free d := fun v a b => by
  have h1 := hs _ _ a
  have h2 := hs _ _ b
  cases k
  · exact h v h2 h1
  · exact h v h1 h2
/-! ### The list of literals -/
theorem listFrom_mem (c : Nat × Nat) (x : Int) : ∀ (k v : Nat), 1 ≤ v → v + k ≤ 9 → (x ∈ listFrom c k v ↔ ∃ u s, v ≤ u ∧ u < v + k ∧ x = litI u s ∧ L c s u = true) := by
  intro k
  induction k with
  | zero => intro v _ _; simp [listFrom]; intro u h1 h2; omega
  | succ k ih =>
    intro v h1 h9
    rw [listFrom, List.mem_append, List.mem_append, ih (v + 1) (by omega) (by omega)]
    have hp : hasLit c (v : Int) = L c true v := hasLit_L c v true h1 (by omega)
    have hn : hasLit c (-(v : Int)) = L c false v := hasLit_L c v false h1 (by omega)
    rw [hp, hn]
    constructor
    · rintro (h | h | ⟨u, s, h2, h3, h4, h5⟩)
      · split at h
        · next hh => simp at h; exact ⟨v, true, Nat.le_refl _, by omega, by rw [h]; rfl, hh⟩
        · simp at h
      · split at h
        · next hh => simp at h; exact ⟨v, false, Nat.le_refl _, by omega, by rw [h]; rfl, hh⟩
        · simp at h
      · exact ⟨u, s, by omega, by omega, h4, h5⟩
    · rintro ⟨u, s, h2, h3, h4, h5⟩
      by_cases e : u = v
      · subst e
        cases s with
        | true => left; rw [if_pos h5, h4]; simp [litI]
        | false => right; left; rw [if_pos h5, h4]; simp [litI]
      · right; right; exact ⟨u, s, by omega, by omega, h4, h5⟩
theorem listOf_mem (c : Nat × Nat) (x : Int) : x ∈ listOf c ↔ ∃ u s, 1 ≤ u ∧ u ≤ 8 ∧ x = litI u s ∧ L c s u = true := by
  rw [listOf, listFrom_mem c x 8 1 (by omega) (by omega)]
  constructor
  · rintro ⟨u, s, h1, h2, h3⟩; exact ⟨u, s, h1, by omega, h3⟩
  · rintro ⟨u, s, h1, h2, h3⟩; exact ⟨u, s, h1, by omega, h3⟩
theorem L_le8 {c : Nat × Nat} (h : Bd c) {s : Bool} {v : Nat} (hl : L c s v = true) : v ≤ 8 := by
  rcases Nat.lt_or_ge 8 v with h9 | h9
  · exfalso
    have h2 : 512 ≤ 2 ^ v := by
      have : 2 ^ 9 ≤ 2 ^ v := Nat.pow_le_pow_right (by decide) h9
      simpa using this
    cases s
    · have := Nat.testBit_lt_two_pow (x := c.2) (i := v) (by have := h.2; omega)
      simp only [L, Bool.false_eq_true, if_false] at hl; rw [this] at hl; cases hl
    · have := Nat.testBit_lt_two_pow (x := c.1) (i := v) (by have := h.1; omega)
      simp only [L, if_true] at hl; rw [this] at hl; cases hl
  · exact h9
/-- One literal alone. -/
theorem list_one {c : Nat × Nat} (h : (listOf c).length = 1) : ∃ u s, 1 ≤ u ∧ u ≤ 8 ∧ (listOf c).headD 0 = litI u s ∧ L c s u = true ∧ ∀ t v, 1 ≤ v → v ≤ 8 → L c t v = true → v = u ∧ t = s := by
  obtain ⟨x, hx⟩ := List.length_eq_one_iff.1 h
  have hm := (listOf_mem c x).1 (by rw [hx]; simp)
  obtain ⟨u, s, h1, h2, h3, h4⟩ := hm
  refine ⟨u, s, h1, h2, by rw [hx]; exact h3, h4, fun t v h5 h6 h7 => ?_⟩
  have hy := (listOf_mem c (litI v t)).2 ⟨v, t, h5, h6, rfl, h7⟩
  rw [hx, h3] at hy
  simp at hy
  exact litI_inj h5 h1 hy
end Go.Proofs.YtgipjjhkhfihpaaDoor

namespace Go.Proofs.YtgipjjhkhfihpaaDoor
open Go.RowKit

/-! ### Steps that are made well -/
structure QGood (q : QS) : Prop where
  qb : QB q
  nodup : (q.vars.map (·.1)).Nodup
  vars : ∀ c ∈ q.cl, ∀ s v, L c s v = true → v ∈ q.vars.map (·.1)
structure LOk (q : QS) (c : Nat × Nat) : Prop where
  bd : Bd c
  vars : ∀ s v, L c s v = true → v ∈ q.vars.map (·.1)
theorem lok_zero (q : QS) : LOk q (0, 0) := ⟨⟨by decide, by decide⟩, fun s v h => by rw [L_zero] at h; cases h⟩
theorem QGood.name {q : QS} (hq : QGood q) {v : Nat} (h : v ∈ q.vars.map (·.1)) : 1 ≤ v ∧ v ≤ 8 := by
  obtain ⟨x, hx, rfl⟩ := List.mem_map.1 h
  exact hq.qb.names x hx
def StOk (q : QS) (k : Nat) (p : List Stp) (s : Stp) : Prop :=
  LOk q s.lits ∧ (
  (s.rule = 1 ∧ k = 1 ∧ 1 ≤ s.first ∧ s.first ≤ q.cl.length ∧ s.second = 0 ∧ s.lits = q.cl.getD (s.first - 1) (0, 0)) ∨
  (s.rule = 2 ∧ k = 2 ∧ s.first = 0 ∧ s.second = 0 ∧ Free s.lits ∧ satQ q.cl s.lits = true) ∨
  (s.rule = 3 ∧ (1 ≤ s.first ∧ s.first ≤ p.length) ∧ (1 ≤ s.second ∧ s.second ≤ p.length) ∧ (∃ x ∈ q.vars, x.1 = s.var ∧ pivotB k x.2 = true) ∧ L (litsAt p s.first) true s.var = true ∧ L (litsAt p s.second) false s.var = true ∧ Free (litsAt p s.first) ∧ Free (litsAt p s.second) ∧ Free s.lits ∧ s.lits = without2 (litsAt p s.first) (litsAt p s.second) s.var) ∨
  (s.rule = 4 ∧ (1 ≤ s.first ∧ s.first ≤ p.length) ∧ s.second = 0 ∧ Free (litsAt p s.first) ∧ s.lits = redQ k q.vars.reverse (litsAt p s.first)))
def POk (q : QS) (k : Nat) (p : List Stp) : Prop := ∀ i (h : i < p.length), StOk q k (p.take i) p[i]
theorem pok_nil (q : QS) (k : Nat) : POk q k [] := fun i h => by simp at h
theorem POk.snoc {q : QS} {k : Nat} {p : List Stp} {s : Stp} (h : POk q k p) (hs : StOk q k p s) : POk q k (p ++ [s]) := by
  intro i hi
  by_cases e : i < p.length
  · rw [List.take_append_of_le_length (Nat.le_of_lt e), List.getElem_append_left e]
    exact h i e
  · have e2 : i = p.length := by simp at hi; omega
    subst e2
    rw [List.take_append_of_le_length (Nat.le_refl _), List.take_length]
    simpa using hs
theorem litsAt_append (p x : List Stp) (n : Nat) (h : n ≤ p.length) : litsAt (p ++ x) n = litsAt p n := by
  unfold litsAt
  split
  · rfl
  · rw [List.getElem?_append_left (by omega)]
theorem litsAt_new (p : List Stp) (s : Stp) : litsAt (p ++ [s]) (p.length + 1) = s.lits := by
  rw [litsAt_in _ _ (by simp)]; simp
theorem POk.lok {q : QS} {k : Nat} {p : List Stp} (h : POk q k p) (n : Nat) : LOk q (litsAt p n) := by
  by_cases hn : 1 ≤ n ∧ n ≤ p.length
  · obtain ⟨m, rfl⟩ : ∃ m, n = m + 1 := ⟨n - 1, by omega⟩
    rw [litsAt_in p m (by omega)]
    exact (h m (by omega)).1
  · rw [litsAt_out p n (by omega)]; exact lok_zero q
theorem lok_sub {q : QS} {c d : Nat × Nat} (h : LOk q c) (hb : Bd d) (hs : ∀ s v, L d s v = true → L c s v = true) : LOk q d := ⟨hb, fun s v hv => h.vars s v (hs s v hv)⟩

/-! ### Reduction -/
theorem var_ok {q : QS} (hq : QGood q) (i : Nat) (hi : i < q.vars.length) : 1 ≤ q.vars[i].1 ∧ q.vars[i].1 ≤ 8 := hq.qb.names _ (List.getElem_mem hi)
theorem redQ_sub {q : QS} (hq : QGood q) (k : Nat) : ∀ (n : Nat), n ≤ q.vars.length → ∀ c s v, L (redQ k (q.vars.take n).reverse c) s v = true → L c s v = true := by
  intro n
  induction n with
  | zero => intro _ c s v h; simpa [redQ] using h
  | succ n ih =>
    intro hn c s v h
    have hv := var_ok hq n (by omega)
    rw [redQ_step k q.vars n (by omega)] at h
    split at h
    · split at h
      · exact h
      · have := ih (by omega) _ s v h
        rw [L_without _ _ hv.1 hv.2, Bool.and_eq_true] at this
        exact this.1
    · exact ih (by omega) _ s v h
theorem red_sub {q : QS} (hq : QGood q) (k : Nat) (c : Nat × Nat) (s : Bool) (v : Nat) (h : L (redQ k q.vars.reverse c) s v = true) : L c s v = true := by
  have := redQ_sub hq k q.vars.length (Nat.le_refl _) c s v
  rw [List.take_length] at this
  exact this h
theorem redQ_idem {q : QS} (hq : QGood q) (k : Nat) : ∀ (n : Nat), n ≤ q.vars.length → ∀ c, redQ k (q.vars.take n).reverse (redQ k (q.vars.take n).reverse c) = redQ k (q.vars.take n).reverse c := by
  intro n
  induction n with
  | zero => intro _ c; rfl
  | succ n ih =>
    intro hn c
    have hv := var_ok hq n (by omega)
    have hno : ∀ d, hasVarB d q.vars[n].1 = false → redQ k (q.vars.take (n + 1)).reverse (redQ k (q.vars.take n).reverse d) = redQ k (q.vars.take n).reverse d := by
      intro d hd
      have h2 : hasVarB (redQ k (q.vars.take n).reverse d) q.vars[n].1 = false := by
        rw [hasVar_L _ _ hv.1 hv.2, Bool.or_eq_false_iff] at hd ⊢
        constructor
        · cases h : L (redQ k (q.vars.take n).reverse d) true q.vars[n].1 with
          | false => rfl
          | true => rw [redQ_sub hq k n (by omega) d true _ h] at hd; exact absurd hd.1 (by simp)
        · cases h : L (redQ k (q.vars.take n).reverse d) false q.vars[n].1 with
          | false => rfl
          | true => rw [redQ_sub hq k n (by omega) d false _ h] at hd; exact absurd hd.2 (by simp)
      rw [redQ_step k q.vars n (by omega), h2, if_neg (by decide)]
      exact ih (by omega) d
    conv => lhs; rw [redQ_step k q.vars n (by omega) c]
    conv => rhs; rw [redQ_step k q.vars n (by omega) c]
    cases h1 : hasVarB c q.vars[n].1 with
    | false => simp only [Bool.false_eq_true, if_false]; exact hno c h1
    | true =>
      simp only [if_true]
      cases h2 : pivotB k q.vars[n].2 with
      | true =>
        simp only [if_true]
        rw [redQ_step k q.vars n (by omega) c, h1, h2]; rfl
      | false =>
        simp only [Bool.false_eq_true, if_false]
        apply hno
        rw [hasVar_L _ _ hv.1 hv.2, L_without _ _ hv.1 hv.2, L_without _ _ hv.1 hv.2]
        simp
theorem red_idem {q : QS} (hq : QGood q) (k : Nat) (c : Nat × Nat) : redQ k q.vars.reverse (redQ k q.vars.reverse c) = redQ k q.vars.reverse c := by
  have := redQ_idem hq k q.vars.length (Nat.le_refl _) c
  rwa [List.take_length] at this
/-- What lies further in than d goes, if none of it could be a pivot. -/
theorem redQ_gone {q : QS} (hq : QGood q) (k d : Nat) : ∀ (n : Nat), n ≤ q.vars.length → ∀ c, (∀ i (hi : i < q.vars.length), d ≤ i → i < n → ∀ s, L c s q.vars[i].1 = true → pivotB k q.vars[i].2 = false) → ∀ i (hi : i < q.vars.length), d ≤ i → i < n → ∀ s, L (redQ k (q.vars.take n).reverse c) s q.vars[i].1 = false := by
  intro n
  induction n with
  | zero => intro _ c _ i _ _ h; omega
  | succ n ih =>
    intro hn c hp i hi hd hin s
    have hv := var_ok hq n (by omega)
    rw [redQ_step k q.vars n (by omega)]
    cases h1 : hasVarB c q.vars[n].1 with
    | false =>
      simp only [Bool.false_eq_true, if_false]
      by_cases e : i = n
      · subst e
        rw [hasVar_L _ _ hv.1 hv.2, Bool.or_eq_false_iff] at h1
        cases h : L (redQ k (q.vars.take i).reverse c) s q.vars[i].1 with
        | false => rfl
        | true =>
          have := redQ_sub hq k i (by omega) c s _ h
          cases s
          · rw [h1.2] at this; cases this
          · rw [h1.1] at this; cases this
      · exact ih (by omega) c (fun j hj h2 h3 => hp j hj h2 (by omega)) i hi hd (by omega) s
    | true =>
      simp only [if_true]
      have hpf : pivotB k q.vars[n].2 = false := by
        rw [hasVar_L _ _ hv.1 hv.2, Bool.or_eq_true] at h1
        rcases h1 with h1 | h1
        · exact hp n (by omega) (by omega) (by omega) true h1
        · exact hp n (by omega) (by omega) (by omega) false h1
      rw [hpf]
      simp only [Bool.false_eq_true, if_false]
      by_cases e : i = n
      · subst e
        cases h : L (redQ k (q.vars.take i).reverse (without c q.vars[i].1)) s q.vars[i].1 with
        | false => rfl
        | true =>
          have := redQ_sub hq k i (by omega) _ s _ h
          rw [L_without _ _ hv.1 hv.2] at this
          simp at this
      · refine ih (by omega) _ (fun j hj h2 h3 t ht => ?_) i hi hd (by omega) s
        rw [L_without _ _ hv.1 hv.2, Bool.and_eq_true] at ht
        exact hp j hj h2 (by omega) t ht.1
/-- The innermost variable of what is reduced is a pivot. -/
theorem red_pivot {q : QS} (hq : QGood q) (k d : Nat) (hd : d < q.vars.length) (c : Nat × Nat) (hr : redQ k q.vars.reverse c = c) (hin : ∀ i (hi : i < q.vars.length), d < i → ∀ s, L c s q.vars[i].1 = false) (hh : hasVarB c q.vars[d].1 = true) : pivotB k q.vars[d].2 = true := by
  have key : ∀ n, d + 1 ≤ n → n ≤ q.vars.length → redQ k (q.vars.take n).reverse c = redQ k (q.vars.take (d + 1)).reverse c := by
    intro n
    induction n with
    | zero => intro h; omega
    | succ n ih =>
      intro h1 h2
      by_cases e : n = d
      · subst e; rfl
      · have hv := var_ok hq n (by omega)
        rw [redQ_step k q.vars n (by omega), show hasVarB c q.vars[n].1 = false from by
          rw [hasVar_L _ _ hv.1 hv.2, hin n (by omega) (by omega) true, hin n (by omega) (by omega) false]; rfl]
        simp only [Bool.false_eq_true, if_false]
        exact ih (by omega) (by omega)
  have h1 := key q.vars.length (by omega) (Nat.le_refl _)
  rw [List.take_length, hr, redQ_step k q.vars d hd, hh] at h1
  simp only [if_true] at h1
  cases hp : pivotB k q.vars[d].2 with
  | true => rfl
  | false =>
    rw [hp] at h1
    simp only [Bool.false_eq_true, if_false] at h1
    have hv := var_ok hq d hd
    rw [hasVar_L _ _ hv.1 hv.2, Bool.or_eq_true] at hh
    exfalso
    rcases hh with hh | hh
    · rw [h1] at hh
      have := redQ_sub hq k d (by omega) _ true _ hh
      rw [L_without _ _ hv.1 hv.2] at this
      simp at this
    · rw [h1] at hh
      have := redQ_sub hq k d (by omega) _ false _ hh
      rw [L_without _ _ hv.1 hv.2] at this
      simp at this
theorem redQ_bd {q : QS} (k : Nat) (c : Nat × Nat) (h : Bd c) : Bd (redQ k q.vars.reverse c) := redQ_lt k _ c h
/-- The reduct, added if it is another. -/
theorem redP_ok {q : QS} (hq : QGood q) (k : Nat) (p : List Stp) (n : Nat) (hp : POk q k p) (h1 : 1 ≤ n) (hn : n ≤ p.length) (hf : Free (litsAt p n)) :
    POk q k (redP q k p n).1 ∧ (∃ x, (redP q k p n).1 = p ++ x ∧ x.length ≤ 1 ∧ ∀ s ∈ x, s.rule ≠ 3) ∧ 1 ≤ (redP q k p n).2 ∧ (redP q k p n).2 ≤ (redP q k p n).1.length ∧ litsAt (redP q k p n).1 (redP q k p n).2 = redQ k q.vars.reverse (litsAt p n) := by
  unfold redP
  split
  · next h => exact ⟨hp, ⟨[], by simp, by simp, by simp⟩, h1, hn, h.symm⟩
  · have hl := hp.lok n
    refine ⟨hp.snoc ⟨lok_sub hl (redQ_bd k _ hl.bd) (fun s v => red_sub hq k _ s v), Or.inr (Or.inr (Or.inr ⟨rfl, ⟨h1, hn⟩, rfl, hf, rfl⟩))⟩, ⟨_, rfl, by simp, by simp⟩, by simp, by simp, litsAt_new _ _⟩
end Go.Proofs.YtgipjjhkhfihpaaDoor

namespace Go.Proofs.YtgipjjhkhfihpaaDoor
open Go.RowKit

/-! ### What holds while nodes are looked at -/
def UniOk (q : QS) (uni : Nat × Nat) : Prop := ∀ s v, L uni s v = true ↔ ∃ x ∈ q.vars, x.1 = v ∧ x.2 = true
structure FactIn (q : QS) (S : SS) (f : Nat × Nat) : Prop where
  kind : f.1 = 1 ∨ f.1 = 2
  lo : 1 ≤ f.2
  hi : f.2 ≤ (S.proof f.1).length
  free : Free (S.lits f)
  red : redQ f.1 q.vars.reverse (S.lits f) = S.lits f
structure SInv (C : SC) (S : SS) : Prop where
  ref : POk C.q 1 S.ref
  len : C.q.cl.length ≤ S.ref.length
  ax : ∀ i (h : i < C.q.cl.length), litsAt S.ref (i + 1) = C.q.cl[i]
  aff : POk C.q 2 S.aff
  kept : ∀ f ∈ S.kept, FactIn C.q S f
  room : S.kept.length ≤ C.room
  most : S.most ≤ C.room
/-- Proofs that only grew. -/
structure Ext (S T : SS) : Prop where
  ref : ∃ x, T.ref = S.ref ++ x
  aff : ∃ x, T.aff = S.aff ++ x
theorem Ext.refl (S : SS) : Ext S S := ⟨⟨[], by simp⟩, ⟨[], by simp⟩⟩
theorem Ext.trans {S T U : SS} (h : Ext S T) (k : Ext T U) : Ext S U := by
  obtain ⟨⟨a, ha⟩, ⟨b, hb⟩⟩ := h
  obtain ⟨⟨c, hc⟩, ⟨d, hd⟩⟩ := k
  exact ⟨⟨a ++ c, by rw [hc, ha, List.append_assoc]⟩, ⟨b ++ d, by rw [hd, hb, List.append_assoc]⟩⟩
theorem Ext.proof {S T : SS} (h : Ext S T) (k : Nat) : ∃ x, T.proof k = S.proof k ++ x := by
  unfold SS.proof; split
  · exact h.aff
  · exact h.ref
theorem Ext.lits {S T : SS} (h : Ext S T) {f : Nat × Nat} (hf : f.2 ≤ (S.proof f.1).length) : T.lits f = S.lits f := by
  obtain ⟨x, hx⟩ := h.proof f.1
  unfold SS.lits; rw [hx, litsAt_append _ _ _ hf]
theorem FactIn.ext {q : QS} {S T : SS} {f : Nat × Nat} (h : FactIn q S f) (he : Ext S T) : FactIn q T f := by
  obtain ⟨x, hx⟩ := he.proof f.1
  have hl := he.lits h.hi
  exact ⟨h.kind, h.lo, by rw [hx, List.length_append]; have := h.hi; omega, by rw [hl]; exact h.free, by rw [hl]; exact h.red⟩
def OnPath (k : Nat) (path c : Nat × Nat) : Prop := ∀ s v, L c s v = true → L path (s == (k == 2)) v = true
structure PathAt (q : QS) (d : Nat) (path : Nat × Nat) : Prop where
  free : Free path
  bd : Bd path
  inn : ∀ s v, L path s v = true → ∃ i, ∃ h : i < q.vars.length, i < d ∧ q.vars[i].1 = v
  all : ∀ i (h : i < q.vars.length), i < d → ∃ s, L path s q.vars[i].1 = true
theorem path_zero (q : QS) : PathAt q 0 (0, 0) :=
  ⟨fun v h => (by rw [L_zero] at h; cases h), ⟨by decide, by decide⟩, fun s v h => (by rw [L_zero] at h; cases h), fun i _ h => (by omega)⟩
theorem PathAt.lok {q : QS} {d : Nat} {path : Nat × Nat} (h : PathAt q d path) : LOk q path :=
  ⟨h.bd, fun s v hv => by obtain ⟨i, hi, _, rfl⟩ := h.inn s v hv; exact List.mem_map_of_mem (List.getElem_mem hi)⟩
theorem index_inj {q : QS} (hq : QGood q) {i j : Nat} (hi : i < q.vars.length) (hj : j < q.vars.length) (h : q.vars[i].1 = q.vars[j].1) : i = j := by
  have hn := hq.nodup
  rw [List.nodup_iff_pairwise_ne, List.pairwise_iff_getElem] at hn
  rcases Nat.lt_trichotomy i j with h1 | h1 | h1
  · exact (hn i j (by simpa using hi) (by simpa using hj) h1 (by simpa using h)).elim
  · exact h1
  · exact (hn j i (by simpa using hj) (by simpa using hi) h1 (by simpa using h.symm)).elim
theorem PathAt.off {q : QS} (hq : QGood q) {d : Nat} {path : Nat × Nat} (h : PathAt q d path) {i : Nat} (hi : i < q.vars.length) (hd : d ≤ i) (s : Bool) : L path s q.vars[i].1 = false := by
  cases hh : L path s q.vars[i].1 with
  | false => rfl
  | true =>
    obtain ⟨j, hj, hjd, he⟩ := h.inn s _ hh
    have := index_inj hq hj hi he
    omega
theorem with_bd (c : Nat × Nat) (x : Int) (h : Bd c) : Bd (withLit c x) := by
  unfold withLit; split
  · exact ⟨h.1, or_lt _ _ h.2 (bitOf_lt _)⟩
  · exact ⟨or_lt _ _ h.1 (bitOf_lt _), h.2⟩
theorem with_free {c : Nat × Nat} {v : Nat} {s : Bool} (h1 : 1 ≤ v) (h8 : v ≤ 8) (h : Free c) (hn : L c (!s) v = false) : Free (withLit c (litI v s)) := by
  intro u a b
  rw [L_with c v s h1 h8] at a b
  rw [Bool.or_eq_true, Bool.and_eq_true] at a b
  rcases a with a | ⟨a1, a2⟩
  · rcases b with b | ⟨b1, b2⟩
    · exact h u a b
    · have e : u = v := of_decide_eq_true b2
      subst e
      cases s
      · simp only [Bool.not_false] at hn; rw [hn] at a; cases a
      · cases b1
  · have e : u = v := of_decide_eq_true a2
    subst e
    rcases b with b | ⟨b1, b2⟩
    · cases s
      · cases a1
      · simp only [Bool.not_true] at hn; rw [hn] at b; cases b
    · cases s
      · cases a1
      · cases b1
theorem PathAt.next {q : QS} (hq : QGood q) {d : Nat} {path : Nat × Nat} (h : PathAt q d path) (hd : d < q.vars.length) (s : Bool) : PathAt q (d + 1) (withLit path (litI q.vars[d].1 s)) := by
  have hv := var_ok hq d hd
  refine ⟨with_free hv.1 hv.2 h.free (h.off hq hd (Nat.le_refl _) _), with_bd _ _ h.bd, fun t v ht => ?_, fun i hi hid => ?_⟩
  · rw [L_with _ _ _ hv.1 hv.2, Bool.or_eq_true, Bool.and_eq_true] at ht
    rcases ht with ht | ⟨_, ht⟩
    · obtain ⟨i, hi, hid, he⟩ := h.inn t v ht
      exact ⟨i, hi, by omega, he⟩
    · exact ⟨d, hd, by omega, (of_decide_eq_true ht).symm⟩
  · by_cases e : i = d
    · subst e
      exact ⟨s, by rw [L_with _ _ _ hv.1 hv.2]; simp⟩
    · obtain ⟨t, ht⟩ := h.all i hi (by omega)
      exact ⟨t, by rw [L_with _ _ _ hv.1 hv.2, ht]; rfl⟩

/-! ### Keeping -/
theorem storeK_mem {room : Nat} {kept : List (Nat × Nat)} {f g : Nat × Nat} (h : g ∈ storeK room kept f) : g ∈ kept ∨ g = f := by
  unfold storeK at h
  split at h
  · exact Or.inl h
  · split at h
    · rcases List.mem_append.1 h with h | h
      · exact Or.inl (List.mem_of_mem_drop h)
      · exact Or.inr (by simpa using h)
    · rcases List.mem_append.1 h with h | h
      · exact Or.inl h
      · exact Or.inr (by simpa using h)
theorem storeK_len {room : Nat} {kept : List (Nat × Nat)} {f : Nat × Nat} (h : kept.length ≤ room) : (storeK room kept f).length ≤ room := by
  unfold storeK
  split
  · exact h
  · split
    · simp; omega
    · simp; omega
theorem keep_ref (r : Nat) (S : SS) (f : Nat × Nat) : (S.keep r f).ref = S.ref ∧ (S.keep r f).aff = S.aff ∧ (S.keep r f).nodes = S.nodes := by
  unfold SS.keep; split
  · exact ⟨rfl, rfl, rfl⟩
  · exact ⟨rfl, rfl, rfl⟩
theorem keep_ext (r : Nat) (S : SS) (f : Nat × Nat) : Ext S (S.keep r f) := by
  obtain ⟨h1, h2, _⟩ := keep_ref r S f
  exact ⟨⟨[], by rw [h1]; simp⟩, ⟨[], by rw [h2]; simp⟩⟩
theorem keep_ok {C : SC} {S : SS} {f : Nat × Nat} (h : SInv C S) (hf : FactIn C.q S f) : SInv C (S.keep C.room f) := by
  have he := keep_ext C.room S f
  obtain ⟨h1, h2, _⟩ := keep_ref C.room S f
  have hk : (∀ g ∈ (S.keep C.room f).kept, FactIn C.q S g) ∧ (S.keep C.room f).kept.length ≤ C.room ∧ (S.keep C.room f).most ≤ C.room := by
    unfold SS.keep; split
    · exact ⟨h.kept, h.room, h.most⟩
    · refine ⟨fun g hg => ?_, storeK_len h.room, ?_⟩
      · rcases storeK_mem hg with hg | hg
        · exact h.kept g hg
        · rw [hg]; exact hf
      · have := storeK_len (f := f) h.room
        show storeM _ _ _ _ ≤ _
        unfold storeM
        split
        · exact h.most
        · split
          · exact this
          · exact h.most
  exact ⟨by rw [h1]; exact h.ref, by rw [h1]; exact h.len, fun i hi => by rw [h1]; exact h.ax i hi, by rw [h2]; exact h.aff, fun g hg => (hk.1 g hg).ext he, hk.2.1, hk.2.2⟩
/-- The same with longer proofs. -/
theorem SInv.grow {C : SC} {S : SS} (h : SInv C S) {p : List Stp} (hp : ∃ x, p = S.ref ++ x) (hok : POk C.q 1 p) : SInv C { S with ref := p } := by
  have he : Ext S { S with ref := p } := ⟨hp, ⟨[], by simp⟩⟩
  obtain ⟨x, rfl⟩ := hp
  exact ⟨hok, by have := h.len; simp; omega, fun i hi => by rw [litsAt_append _ _ _ (by have := h.len; omega)]; exact h.ax i hi, h.aff, fun g hg => (h.kept g hg).ext he, h.room, h.most⟩
theorem SInv.growA {C : SC} {S : SS} (h : SInv C S) {p : List Stp} (hp : ∃ x, p = S.aff ++ x) (hok : POk C.q 2 p) : SInv C { S with aff := p } := by
  have he : Ext S { S with aff := p } := ⟨⟨[], by simp⟩, hp⟩
  exact ⟨h.ref, h.len, h.ax, hok, fun g hg => (h.kept g hg).ext he, h.room, h.most⟩
theorem clauses_in {C : SC} {S : SS} (h : SInv C S) {s : Nat} (hs : s ∈ clausesOf C.q S.kept) : 1 ≤ s ∧ s ≤ S.ref.length := by
  unfold clausesOf at hs
  rcases List.mem_append.1 hs with hs | hs
  · obtain ⟨i, hi, rfl⟩ := List.mem_map.1 hs
    have := List.mem_range.1 hi
    have := h.len
    omega
  · obtain ⟨f, hf, rfl⟩ := List.mem_map.1 hs
    rw [List.mem_filter] at hf
    have h1 := h.kept f hf.1
    have h2 : f.1 = 1 := by simpa using hf.2
    refine ⟨h1.lo, ?_⟩
    have := h1.hi
    unfold SS.proof at this
    rwa [h2, if_neg (by decide)] at this

/-! ### Units -/
def UnitAt (q : QS) (ref : List Stp) (cs : List Nat) (pre : Nat × Nat) (t : Int × Nat) : Prop :=
  ∃ v s, t.1 = litI v s ∧ (∃ x ∈ q.vars, x.1 = v ∧ x.2 = false) ∧ L pre true v = false ∧ L pre false v = false ∧ t.2 ∈ cs ∧ Free (litsAt ref t.2) ∧ L (litsAt ref t.2) s v = true ∧ ∀ u r, L (litsAt ref t.2) r u = true → (u = v ∧ r = s) ∨ L pre (!r) u = true
/-- The units, the last one ahead. -/
def TrailR (q : QS) (ref : List Stp) (cs : List Nat) (path : Nat × Nat) : List (Int × Nat) → Nat × Nat → Prop
  | [], vals => vals = path
  | t :: ts, vals => ∃ pre, TrailR q ref cs path ts pre ∧ UnitAt q ref cs pre t ∧ vals = withLit pre t.1
theorem unit_at {q : QS} (hq : QGood q) {uni : Nat × Nat} (hu : UniOk q uni) {ref : List Stp} (hp : POk q 1 ref) {cs : List Nat} {vals : Nat × Nat} (h : (unitOf ref uni cs vals).2 ≠ 0) : UnitAt q ref cs vals (unitOf ref uni cs vals) := by
  unfold unitOf at h ⊢
  cases hf : cs.find? (fun s => isUnit uni vals (litsAt ref s)) with
  | none => rw [hf] at h; exact absurd rfl h
  | some s =>
    have hm := List.mem_of_find?_eq_some hf
    have hi := List.find?_some hf
    simp only at hi ⊢
    unfold isUnit openB at hi
    rw [Bool.and_eq_true, Bool.and_eq_true, Bool.and_eq_true, Bool.not_eq_true', Bool.not_eq_true', Bool.not_eq_true', beq_iff_eq] at hi
    obtain ⟨⟨hme, hcl⟩, hlen, hun⟩ := hi
    obtain ⟨u, t, h1, h8, hhd, hL, hone⟩ := list_one hlen
    have hl := hp.lok s
    rw [L_left, Bool.and_eq_true, Bool.not_eq_true'] at hL
    have hnm : ∀ t v, L (litsAt ref s) t v = true → L vals t v = false := fun t v ht => by
      cases hh : L vals t v with
      | false => rfl
      | true => rw [(meets_iff _ _).2 ⟨t, v, ht, hh⟩] at hme; cases hme
    have hboth : L vals true u = false ∧ L vals false u = false := by
      have a := hL.2
      have b := hnm t u hL.1
      cases t
      · exact ⟨a, b⟩
      · exact ⟨b, a⟩
    obtain ⟨x, hx, hxe⟩ := List.mem_map.1 (hl.vars t u hL.1)
    refine ⟨u, t, hhd, ⟨x, hx, hxe, ?_⟩, hboth.1, hboth.2, hm, (free_iff _).1 hcl, hL.1, fun w r hr => ?_⟩
    · cases hxu : x.2 with
      | false => rfl
      | true =>
        have := (hu t u).2 ⟨x, hx, hxe, hxu⟩
        rw [(meets_iff _ _).2 ⟨t, u, by rw [L_left, hL.1, hL.2]; rfl, this⟩] at hun
        cases hun
    · cases hh : L vals (!r) w with
      | true => exact Or.inr rfl
      | false =>
        have hn := hq.name (hl.vars r w hr)
        have := hone r w hn.1 hn.2 (by rw [L_left, hr, hh]; rfl)
        exact Or.inl this
theorem conf_at {ref : List Stp} {uni : Nat × Nat} {cs : List Nat} {vals : Nat × Nat} (h : confOf ref uni cs vals ≠ 0) : confOf ref uni cs vals ∈ cs ∧ isConf uni vals (litsAt ref (confOf ref uni cs vals)) = true := by
  unfold confOf at h ⊢
  cases hf : cs.find? (fun s => isConf uni vals (litsAt ref s)) with
  | none => rw [hf] at h; exact absurd rfl h
  | some s =>
    have h2 := List.find?_some hf
    exact ⟨List.mem_of_find?_eq_some hf, h2⟩
theorem unitsGo_ok {q : QS} (hq : QGood q) {uni : Nat × Nat} (hu : UniOk q uni) {ref : List Stp} (hp : POk q 1 ref) {cs : List Nat} {path : Nat × Nat} : ∀ (m : Nat) (vals : Nat × Nat) (trail : List (Int × Nat)), TrailR q ref cs path trail.reverse vals →
    TrailR q ref cs path (unitsGo ref uni cs m vals trail).trail.reverse (unitsGo ref uni cs m vals trail).vals ∧ (unitsGo ref uni cs m vals trail).trail.length ≤ trail.length + m ∧
    ((unitsGo ref uni cs m vals trail).conf ≠ 0 → (unitsGo ref uni cs m vals trail).conf ∈ cs ∧ isConf uni (unitsGo ref uni cs m vals trail).vals (litsAt ref (unitsGo ref uni cs m vals trail).conf) = true) := by
  intro m
  induction m with
  | zero => intro vals trail h; exact ⟨h, by simp [unitsGo], fun h => absurd rfl h⟩
  | succ m ih =>
    intro vals trail h
    rw [unitsGo]
    split
    · next hc => exact ⟨h, by simp, fun _ => conf_at hc⟩
    · split
      · exact ⟨h, by simp, fun h => absurd rfl h⟩
      · next hn =>
        have := ih (withLit vals (unitOf ref uni cs vals).1) (trail ++ [unitOf ref uni cs vals]) (by
          rw [List.reverse_append]
          exact ⟨vals, h, unit_at hq hu hp hn, rfl⟩)
        refine ⟨this.1, ?_, this.2.2⟩
        have h2 := this.2.1
        simp at h2
        omega
/-- The values: free, of the formula's variables; beyond the path of existential ones alone. -/
theorem trail_vals {q : QS} (hq : QGood q) {ref : List Stp} {cs : List Nat} {d : Nat} {path : Nat × Nat} (hpa : PathAt q d path) : ∀ (ts : List (Int × Nat)) (vals : Nat × Nat), TrailR q ref cs path ts vals →
    Free vals ∧ LOk q vals ∧ (∀ s v, L path s v = true → L vals s v = true) ∧ (∀ s v, L vals s v = true → L path s v = true ∨ ((∃ x ∈ q.vars, x.1 = v ∧ x.2 = false) ∧ L path true v = false ∧ L path false v = false)) := by
  intro ts
  induction ts with
  | nil => intro vals h; subst h; exact ⟨hpa.free, hpa.lok, fun _ _ h => h, fun _ _ h => Or.inl h⟩
  | cons t ts ih =>
    rintro vals ⟨pre, hpre, ⟨v, s, ht, ⟨x, hx, hxe, hxu⟩, hn1, hn2, _⟩, rfl⟩
    obtain ⟨h1, h2, h3, h4⟩ := ih pre hpre
    have hv := hq.qb.names x hx
    rw [hxe] at hv
    rw [ht]
    refine ⟨with_free hv.1 hv.2 h1 (by cases s <;> assumption), ⟨with_bd _ _ h2.bd, fun r u hr => ?_⟩, fun r u hr => by rw [L_with _ _ _ hv.1 hv.2, h3 r u hr]; rfl, fun r u hr => ?_⟩
    · rw [L_with _ _ _ hv.1 hv.2, Bool.or_eq_true, Bool.and_eq_true] at hr
      rcases hr with hr | ⟨_, hr⟩
      · exact h2.vars r u hr
      · rw [of_decide_eq_true hr, ← hxe]; exact List.mem_map_of_mem hx
    · rw [L_with _ _ _ hv.1 hv.2, Bool.or_eq_true, Bool.and_eq_true] at hr
      rcases hr with hr | ⟨_, hr⟩
      · exact h4 r u hr
      · have e : u = v := of_decide_eq_true hr
        subst e
        refine Or.inr ⟨⟨x, hx, hxe, hxu⟩, ?_, ?_⟩
        · cases hh : L path true u with
          | false => rfl
          | true => rw [h3 _ _ hh] at hn1; cases hn1
        · cases hh : L path false u with
          | false => rfl
          | true => rw [h3 _ _ hh] at hn2; cases hn2
end Go.Proofs.YtgipjjhkhfihpaaDoor

namespace Go.Proofs.YtgipjjhkhfihpaaDoor
open Go.RowKit

/-! ### Resolving -/
theorem resP_ok {q : QS} (hq : QGood q) {k : Nat} {p : List Stp} (hp : POk q k p) {a b v : Nat} {s : Bool} (ha : 1 ≤ a ∧ a ≤ p.length) (hb : 1 ≤ b ∧ b ≤ p.length) (hx : ∃ x ∈ q.vars, x.1 = v ∧ pivotB k x.2 = true)
    (hfa : Free (litsAt p a)) (hfb : Free (litsAt p b)) (hla : L (litsAt p a) s v = true) (hlb : L (litsAt p b) (!s) v = true) (hf : Free (without2 (litsAt p a) (litsAt p b) v)) :
    POk q k (resP p a b v).1 ∧ (∃ x, (resP p a b v).1 = p ++ [x]) ∧ (resP p a b v).2 = p.length + 1 ∧ (resP p a b v).1.length = p.length + 1 ∧ litsAt (resP p a b v).1 (resP p a b v).2 = without2 (litsAt p a) (litsAt p b) v := by
  have hv : 1 ≤ v ∧ v ≤ 8 := by obtain ⟨x, hx, rfl, _⟩ := hx; exact hq.qb.names x hx
  have hsw : without2 (litsAt p b) (litsAt p a) v = without2 (litsAt p a) (litsAt p b) v := L_ext (fun s u => by rw [L_without2 _ _ _ hv.1 hv.2, L_without2 _ _ _ hv.1 hv.2, Bool.or_comm])
  have hlok : LOk q (without2 (litsAt p a) (litsAt p b) v) := by
    have h1 := hp.lok a
    have h2 := hp.lok b
    refine ⟨without_lt _ _ ⟨or_lt _ _ h1.bd.1 h2.bd.1, or_lt _ _ h1.bd.2 h2.bd.2⟩, fun s u hu => ?_⟩
    rw [L_without2 _ _ _ hv.1 hv.2, Bool.and_eq_true, Bool.or_eq_true] at hu
    rcases hu.1 with hu | hu
    · exact h1.vars s u hu
    · exact h2.vars s u hu
  have hh : hasLit (litsAt p a) (v : Int) = L (litsAt p a) true v := hasLit_L _ v true hv.1 hv.2
  unfold resP
  rw [hh]
  cases s with
  | true =>
    rw [hla, if_pos rfl]
    exact ⟨hp.snoc ⟨hlok, Or.inr (Or.inr (Or.inl ⟨rfl, ha, hb, hx, hla, hlb, hfa, hfb, hf, rfl⟩))⟩, ⟨_, rfl⟩, rfl, by simp, litsAt_new _ _⟩
  | false =>
    have hno : L (litsAt p a) true v = false := hfa.not hla
    rw [hno, if_neg (by decide), hsw]
    exact ⟨hp.snoc ⟨hlok, Or.inr (Or.inr (Or.inl ⟨rfl, hb, ha, hx, hlb, hla, hfb, hfa, hf, hsw.symm⟩))⟩, ⟨_, rfl⟩, rfl, by simp, litsAt_new _ _⟩
/-- Universal variables that have no value. -/
def Loose (q : QS) (full : Nat × Nat) (u : Nat) : Prop := (∃ x ∈ q.vars, x.1 = u ∧ x.2 = true) ∧ L full true u = false ∧ L full false u = false
theorem kind_one {q : QS} (hq : QGood q) {x y : Nat × Bool} (hx : x ∈ q.vars) (hy : y ∈ q.vars) (h : x.1 = y.1) : x = y := by
  obtain ⟨i, hi, rfl⟩ := List.mem_iff_getElem.1 hx
  obtain ⟨j, hj, rfl⟩ := List.mem_iff_getElem.1 hy
  have := index_inj hq hi hj h
  subst this; rfl
theorem expl_ok {q : QS} (hq : QGood q) {ref : List Stp} {cs : List Nat} (hcs : ∀ s ∈ cs, 1 ≤ s ∧ s ≤ ref.length) {d : Nat} {path : Nat × Nat} (hpa : PathAt q d path) (full : Nat × Nat) :
    ∀ (ts : List (Int × Nat)) (vals : Nat × Nat), TrailR q ref cs path ts vals → (∀ s v, L vals s v = true → L full s v = true) → ∀ (p : List Stp) (n : Nat), (∃ x, p = ref ++ x) → POk q 1 p → 1 ≤ n → n ≤ p.length → Free (litsAt p n) →
      (∀ r u, L (litsAt p n) r u = true → L vals (!r) u = true ∨ Loose q full u) →
      POk q 1 (expl ts p n).1 ∧ (∃ x, (expl ts p n).1 = p ++ x ∧ x.length ≤ ts.length) ∧ 1 ≤ (expl ts p n).2 ∧ (expl ts p n).2 ≤ (expl ts p n).1.length ∧ Free (litsAt (expl ts p n).1 (expl ts p n).2) ∧
      (∀ r u, L (litsAt (expl ts p n).1 (expl ts p n).2) r u = true → L path (!r) u = true ∨ Loose q full u) := by
  intro ts
  induction ts with
  | nil =>
    intro vals h _ p n hpx hp h1 hn hf hc
    have e : vals = path := h
    subst e
    exact ⟨hp, ⟨[], by simp [expl], by simp⟩, h1, hn, hf, hc⟩
  | cons t ts ih =>
    rintro vals ⟨pre, hpre, ⟨v, s, ht, ⟨x, hx, hxe, hxu⟩, hn1, hn2, hcsm, hfr, hLr, hoth⟩, rfl⟩ hfull p n hpx hp h1 hn hf hc
    have hv := hq.qb.names x hx
    rw [hxe] at hv
    rw [ht] at hc hfull
    have hsub : ∀ r u, L pre r u = true → L full r u = true := fun r u h => hfull r u (by rw [L_with _ _ _ hv.1 hv.2, h]; rfl)
    have hvf : L full s v = true := hfull s v (by rw [L_with _ _ _ hv.1 hv.2]; simp)
    have hrr := hcs _ hcsm
    obtain ⟨xx, hpe⟩ := hpx
    have hlr : litsAt p t.2 = litsAt ref t.2 := by rw [hpe, litsAt_append _ _ _ hrr.2]
    have hplen : t.2 ≤ p.length := by rw [hpe, List.length_append]; omega
    have hvfree := (trail_vals hq hpa ts pre hpre).1
    have hloose : ∀ u, Loose q full u → u ≠ v := by
      rintro u ⟨⟨y, hy, hye, hyu⟩, _, _⟩ e
      have := kind_one hq hy hx (by rw [hye, hxe, e])
      rw [this, hxu] at hyu; cases hyu
    have hcp : ∀ r u, u ≠ v → L (litsAt p n) r u = true → L pre (!r) u = true ∨ Loose q full u := by
      intro r u hne hr
      rcases hc r u hr with h | h
      · rw [L_with _ _ _ hv.1 hv.2, Bool.or_eq_true, Bool.and_eq_true] at h
        rcases h with h | ⟨_, h⟩
        · exact Or.inl h
        · exact absurd (of_decide_eq_true h) hne
      · exact Or.inr h
    have hcv : ∀ r, L (litsAt p n) r v = true → r = !s := by
      intro r hr
      rcases hc r v hr with h | h
      · rw [L_with _ _ _ hv.1 hv.2, Bool.or_eq_true, Bool.and_eq_true] at h
        rcases h with h | ⟨h, _⟩
        · cases r
          · simp only [Bool.not_false] at h; rw [hn1] at h; cases h
          · simp only [Bool.not_true] at h; rw [hn2] at h; cases h
        · revert h; cases r <;> cases s <;> simp
      · exact absurd rfl (hloose v h)
    rw [expl]
    have hneg : -t.1 = litI v (!s) := by rw [ht, litI_neg]
    have habs : t.1.natAbs = v := by rw [ht, litI_abs]
    rw [hneg, habs, hasLit_L _ _ _ hv.1 hv.2]
    cases hh : L (litsAt p n) (!s) v with
    | false =>
      simp only [Bool.false_eq_true, if_false]
      have := ih pre hpre hsub p n ⟨xx, hpe⟩ hp h1 hn hf (fun r u hr => by
        by_cases e : u = v
        · subst e
          have e2 := hcv r hr
          rw [e2] at hr; rw [hr] at hh; cases hh
        · exact hcp r u e hr)
      obtain ⟨a1, ⟨y, a2, a3⟩, a4⟩ := this
      exact ⟨a1, ⟨y, a2, by simp; omega⟩, a4⟩
    | true =>
      simp only [if_true]
      have hres : ∀ r u, L (without2 (litsAt p t.2) (litsAt p n) v) r u = true → L pre (!r) u = true ∨ Loose q full u := by
        intro r u hr
        rw [L_without2 _ _ _ hv.1 hv.2, Bool.and_eq_true, Bool.or_eq_true, Bool.not_eq_true'] at hr
        have hne : u ≠ v := of_decide_eq_false hr.2
        rcases hr.1 with hr | hr
        · rw [hlr] at hr
          rcases hoth u r hr with h | h
          · exact absurd h.1 hne
          · exact Or.inl h
        · exact hcp r u hne hr
      have hfree2 : Free (without2 (litsAt p t.2) (litsAt p n) v) := by
        intro u a b
        have ha := hres true u a
        have hb := hres false u b
        rcases ha with ha | ha
        · rcases hb with hb | hb
          · exact hvfree u hb ha
          · have h5 : L full false u = true := hsub _ _ ha
            rw [hb.2.2] at h5; cases h5
        · rcases hb with hb | hb
          · have h5 : L full true u = true := hsub _ _ hb
            rw [ha.2.1] at h5; cases h5
          · rw [L_without2 _ _ _ hv.1 hv.2, Bool.and_eq_true, Bool.or_eq_true] at a b
            have hnr : ∀ r, L (litsAt p t.2) r u = true → False := by
              intro r hr
              rw [hlr] at hr
              rcases hoth u r hr with h | h
              · exact hloose u ha h.1
              · have h5 := hsub _ _ h
                cases r
                · have h6 : L full true u = true := h5
                  rw [ha.2.1] at h6; cases h6
                · have h6 : L full false u = true := h5
                  rw [ha.2.2] at h6; cases h6
            rcases a.1 with a | a
            · exact hnr _ a
            · rcases b.1 with b | b
              · exact hnr _ b
              · exact hf u a b
      have hr := resP_ok hq hp (s := s) ⟨hrr.1, hplen⟩ ⟨h1, hn⟩ ⟨x, hx, hxe, by rw [hxu]; rfl⟩ (by rw [hlr]; exact hfr) hf (by rw [hlr]; exact hLr) hh hfree2
      obtain ⟨b1, ⟨y, b2⟩, b3, b4, b5⟩ := hr
      have := ih pre hpre hsub (resP p t.2 n v).1 (resP p t.2 n v).2 ⟨xx ++ [y], by rw [b2, hpe, List.append_assoc]⟩ b1 (by omega) (by omega) (by rw [b5]; exact hfree2) (fun r u hu => hres r u (by rw [← b5]; exact hu))
      obtain ⟨a1, ⟨z, a2, a3⟩, a4⟩ := this
      exact ⟨a1, ⟨y :: z, by rw [a2, b2]; simp, by simp; omega⟩, a4⟩

/-! ### What a node finds -/
/-- What was found on a path. -/
structure FactOk (q : QS) (S : SS) (path : Nat × Nat) (f : Nat × Nat) : Prop where
  inn : FactIn q S f
  on : OnPath f.1 path (S.lits f)
theorem find_conf {uni vals : Nat × Nat} {c : Nat × Nat} (h : isConf uni vals c = true) : Free c ∧ (∀ r u, L c r u = true → L vals r u = false) ∧ (∀ r u, L c r u = true → L vals (!r) u = true ∨ L uni r u = true) := by
  unfold isConf openB at h
  rw [Bool.and_eq_true, Bool.and_eq_true, Bool.not_eq_true', Bool.not_eq_true', empty_iff] at h
  obtain ⟨⟨h1, h2⟩, h3⟩ := h
  refine ⟨(free_iff _).1 h2, fun r u hr => ?_, fun r u hr => ?_⟩
  · cases hh : L vals r u with
    | false => rfl
    | true => rw [(meets_iff _ _).2 ⟨r, u, hr, hh⟩] at h1; cases h1
  · have := h3 r u
    rw [L_minus, L_left, hr] at this
    cases hh : L vals (!r) u with
    | true => exact Or.inl rfl
    | false =>
      rw [hh] at this
      right
      simpa using this
theorem units_ok {C : SC} (hq : QGood C.q) (hu : UniOk C.q C.uni) {S : SS} (hS : SInv C S) (path : Nat × Nat) :
    TrailR C.q S.ref (clausesOf C.q S.kept) path (unitsOf C S path).trail.reverse (unitsOf C S path).vals ∧ (unitsOf C S path).trail.length ≤ C.q.vars.length + 1 ∧
    ((unitsOf C S path).conf ≠ 0 → (unitsOf C S path).conf ∈ clausesOf C.q S.kept ∧ isConf C.uni (unitsOf C S path).vals (litsAt S.ref (unitsOf C S path).conf) = true) := by
  have := unitsGo_ok hq hu hS.ref (cs := clausesOf C.q S.kept) (path := path) (C.q.vars.length + 1) path [] rfl
  exact ⟨this.1, by simpa [unitsOf] using this.2.1, this.2.2⟩
def sizeS (S : SS) : Nat := S.ref.length + S.aff.length
def twos (p : List Stp) : Nat := (p.filter (fun s => s.rule == 3)).length
theorem explain_ok {C : SC} (hq : QGood C.q) (hu : UniOk C.q C.uni) {S : SS} (hS : SInv C S) {d : Nat} {path : Nat × Nat} (hpa : PathAt C.q d path) (hc : (unitsOf C S path).conf ≠ 0) :
    SInv C (explain C S (unitsOf C S path)).1 ∧ Ext S (explain C S (unitsOf C S path)).1 ∧ FactOk C.q (explain C S (unitsOf C S path)).1 path (explain C S (unitsOf C S path)).2 ∧ (explain C S (unitsOf C S path)).1.nodes = S.nodes ∧
    sizeS (explain C S (unitsOf C S path)).1 ≤ sizeS S + (C.q.vars.length + 2) ∧ (explain C S (unitsOf C S path)).2.1 = 1 ∧ twos (explain C S (unitsOf C S path)).1.ref ≤ twos S.ref + (unitsOf C S path).trail.length := by
  obtain ⟨ht, hlen, hcf⟩ := units_ok hq hu hS path
  obtain ⟨hcin, hcf⟩ := hcf hc
  generalize unitsOf C S path = U at *
  obtain ⟨hv1, hv2, hv3, hv4⟩ := trail_vals hq hpa _ _ ht
  obtain ⟨c1, c2, c3⟩ := find_conf hcf
  have hcr := clauses_in hS hcin
  have hl := hS.ref.lok U.conf
  obtain ⟨e1, ⟨x, e2, e3⟩, e4, e5, e6, e7⟩ := expl_ok hq (fun s hs => clauses_in hS hs) hpa U.vals _ _ ht (fun _ _ h => h) S.ref U.conf ⟨[], by simp⟩ hS.ref hcr.1 hcr.2 c1 (fun r u hr => by
    rcases c3 r u hr with h | h
    · exact Or.inl h
    · cases hh : L U.vals (!r) u with
      | true => exact Or.inl rfl
      | false =>
        refine Or.inr ⟨(hu r u).1 h, ?_, ?_⟩
        · cases r
          · simpa using hh
          · exact c2 true u hr
        · cases r
          · exact c2 false u hr
          · simpa using hh)
  obtain ⟨d1, ⟨y, d2, d3, d3'⟩, d4, d5, d6⟩ := redP_ok hq 1 _ _ e1 e4 e5 e6
  unfold explain
  dsimp only
  generalize expl U.trail.reverse S.ref U.conf = r at *
  generalize redP C.q 1 r.1 r.2 = dd at *
  have hgrow : SInv C { S with ref := dd.1 } := hS.grow ⟨x ++ y, by rw [d2, e2, List.append_assoc]⟩ d1
  have hext : Ext S { S with ref := dd.1 } := ⟨⟨x ++ y, by show dd.1 = _; rw [d2, e2, List.append_assoc]⟩, ⟨[], by simp⟩⟩
  have hlits : ({ S with ref := dd.1 } : SS).lits (1, dd.2) = redQ 1 C.q.vars.reverse (litsAt r.1 r.2) := d6
  have hon : OnPath 1 path (redQ 1 C.q.vars.reverse (litsAt r.1 r.2)) := by
    intro s v hv
    have hs := red_sub hq 1 _ _ _ hv
    show L path (s == false) v = true
    rw [show (s == false) = !s from by cases s <;> rfl]
    rcases e7 s v hs with h | h
    · exact h
    · exfalso
      obtain ⟨⟨z, hz, hze, hzu⟩, h6, h7⟩ := h
      obtain ⟨i, hi, rfl⟩ := List.mem_iff_getElem.1 hz
      have hid : d ≤ i := by
        rcases Nat.lt_or_ge i d with hlt | hge
        · obtain ⟨t, ht⟩ := hpa.all i hi hlt
          rw [hze] at ht
          have := hv3 _ _ ht
          cases t
          · rw [h7] at this; cases this
          · rw [h6] at this; cases this
        · exact hge
      have hg := redQ_gone hq 1 d C.q.vars.length (Nat.le_refl _) (litsAt r.1 r.2) (fun j hj hdj _ t htj => by
        rcases e7 t _ htj with h | h
        · rw [hpa.off hq hj hdj] at h; cases h
        · obtain ⟨⟨z, hz, hze2, hzu2⟩, _⟩ := h
          have := kind_one hq hz (List.getElem_mem hj) hze2
          rw [this] at hzu2
          rw [hzu2]; rfl) i hi hid hi s
      rw [List.take_length, hze] at hg
      rw [hg] at hv; cases hv
  have hfact : FactIn C.q { S with ref := dd.1 } (1, dd.2) := ⟨Or.inl rfl, d4, d5, by rw [hlits]; exact e6.sub (fun s v => red_sub hq 1 _ s v), by rw [hlits]; exact red_idem hq 1 _⟩
  have hsize : sizeS { S with ref := dd.1 } ≤ sizeS S + (C.q.vars.length + 2) := by
    unfold sizeS
    show dd.1.length + S.aff.length ≤ _
    rw [d2, e2]
    simp at e3 ⊢
    omega
  have htwo : twos dd.1 ≤ twos S.ref + U.trail.length := by
    unfold twos
    rw [d2, e2, List.filter_append, List.filter_append, List.length_append, List.length_append]
    have h1 : (x.filter (fun s => s.rule == 3)).length ≤ x.length := List.length_filter_le _ _
    have h2 : y.filter (fun s => s.rule == 3) = [] := List.filter_eq_nil_iff.2 (fun s hs => by simpa using d3' s hs)
    rw [h2]
    simp at e3 ⊢
    omega
  split
  · have hk := keep_ok hgrow hfact
    obtain ⟨k1, k2, k3⟩ := keep_ref C.room { S with ref := dd.1 } (1, dd.2)
    have hke := keep_ext C.room { S with ref := dd.1 } (1, dd.2)
    refine ⟨hk, hext.trans hke, ⟨hfact.ext hke, ?_⟩, k3, by unfold sizeS at hsize ⊢; rw [k1, k2]; exact hsize, rfl, by rw [k1]; exact htwo⟩
    rw [hke.lits hfact.hi, hlits]; exact hon
  · exact ⟨hgrow, hext, ⟨hfact, by rw [hlits]; exact hon⟩, rfl, hsize, rfl, htwo⟩
end Go.Proofs.YtgipjjhkhfihpaaDoor
