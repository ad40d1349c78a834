import Derived.Test.YtgipjjhkhfihpaaF
import Derived.Test.YtgipjjhkhfihpaaD
import Derived.Test.YtgipjjhkhfihpaaH
import Derived.Deep.QuietTactic
import Derived.BigQuiet
namespace Go.Proofs.Ytgipjjhkhfihpaa
open Go.RowKit

/-! ### Satisfied -/
def satC (c : Nat × Nat) (t : Nat) : Bool := !((c.1 &&& t == 0) && (less c.2 t == 0))
def satB (cl : List (Nat × Nat)) (t : Nat) : Bool := cl.all (satC · t)
theorem satB_take (cl : List (Nat × Nat)) (t k : Nat) (h : k < cl.length) : satB (cl.take (k + 1)) t = (satB (cl.take k) t && satC cl[k] t) := by
  unfold satB; rw [List.take_succ_eq_append_getElem h, List.all_append]; simp
theorem satB_of (cl : List (Nat × Nat)) (t k : Nat) (h : k < cl.length) (hc : satC cl[k] t = false) : satB cl t = false := by
  unfold satB; rw [List.all_eq_false]; exact ⟨cl[k], List.getElem_mem h, by rw [hc]; decide⟩
theorem nat_beq_zero (n : Nat) : ((n : Int) == 0) = (n == 0) := by
  rw [Bool.eq_iff_iff, beq_iff_eq, beq_iff_eq]; omega

end Go.Proofs.Ytgipjjhkhfihpaa

namespace Go.Proofs.Ytgipjjhkhfihpaa
open Go.RowKit

theorem bits_apart {a b : Nat} (h : a &&& b = 0) (v : Nat) (ha : a.testBit v = true) (hb : b.testBit v = true) : False := by
  have : (a &&& b).testBit v = true := by rw [Nat.testBit_and, ha, hb]; rfl
  rw [h] at this; simp at this
theorem apart_bits {a b : Nat} (h : ∀ v, a.testBit v = true → b.testBit v = true → False) : a &&& b = 0 := by
  apply Nat.eq_of_testBit_eq
  intro v
  rw [Nat.testBit_and, Nat.zero_testBit]
  cases ha : a.testBit v with
  | false => rfl
  | true =>
    cases hb : b.testBit v with
    | false => rfl
    | true => exact (h v ha hb).elim
theorem some_bit {a : Nat} (h : a ≠ 0) : ∃ v, a.testBit v = true := by
  apply Classical.byContradiction
  intro hn
  apply h
  apply Nat.eq_of_testBit_eq
  intro v
  rw [Nat.zero_testBit]
  cases hv : a.testBit v with
  | false => rfl
  | true => exact (hn ⟨v, hv⟩).elim

theorem getD_at {α : Type} (l : List α) (k : Nat) (d : α) (h : k < l.length) : l.getD k d = l[k] := by
  rw [List.getD, List.getElem?_eq_getElem h]; rfl
/-- What is so of a formula that was read. -/
structure FOk (F : Form) : Prop where
  nodup : F.order.Nodup
  names : ∀ v ∈ F.order, 1 ≤ v ∧ v ≤ 8
  bits : ∀ c ∈ F.cl, Bd c
  vars : ∀ c ∈ F.cl, ∀ v, c.1.testBit v = true ∨ c.2.testBit v = true → v ∈ F.order

theorem good_ax {F : Form} (hF : FOk F) {c : Nat × Nat} (hc : c ∈ F.cl) (ha : c.1 &&& c.2 = 0) : Good (satB F.cl) F.all true F.order c := by
  refine ⟨fun v h1 h2 => bits_apart ha v h1 h2, hF.vars c hc, fun t ht => ?_⟩
  have hs := ht.leaf
  unfold satB at hs
  rw [List.all_eq_true] at hs
  have hs := hs c hc
  unfold satC at hs
  rw [Bool.not_eq_true', Bool.and_eq_false_iff, beq_eq_false_iff_ne, beq_eq_false_iff_ne] at hs
  rcases hs with hs | hs
  · obtain ⟨v, hv⟩ := some_bit hs
    rw [Nat.testBit_and, Bool.and_eq_true] at hv
    exact ⟨v, Or.inl hv⟩
  · obtain ⟨v, hv⟩ := some_bit hs
    rw [testBit_less, Bool.and_eq_true, Bool.not_eq_true'] at hv
    exact ⟨v, Or.inr hv⟩
theorem good_cube {F : Form} {c : Nat × Nat} (h1 : ∀ v, c.1.testBit v = true → c.2.testBit v = true → False) (h2 : ∀ v, c.1.testBit v = true ∨ c.2.testBit v = true → v ∈ F.order) (h3 : satR F.cl c = true) : Good (satB F.cl) F.all false F.order c := by
  refine ⟨h1, h2, fun t ht => ?_⟩
  have hs := ht.leaf
  unfold satB at hs
  rw [List.all_eq_false] at hs
  obtain ⟨x, hx, hs⟩ := hs
  have hs : satC x t = false := by simpa using hs
  unfold satC at hs
  rw [Bool.not_eq_false', Bool.and_eq_true, beq_iff_eq, beq_iff_eq] at hs
  obtain ⟨hp, hn⟩ := hs
  have hp' : ∀ v, x.1.testBit v = true → t.testBit v = false := fun v hv => by
    cases ht : t.testBit v with
    | false => rfl
    | true => exact (bits_apart hp v hv ht).elim
  have hn' : ∀ v, x.2.testBit v = true → t.testBit v = true := fun v hv => by
    cases ht : t.testBit v with
    | true => rfl
    | false =>
      have : (less x.2 t).testBit v = true := by rw [testBit_less, hv, ht]; rfl
      rw [hn] at this; simp at this
  unfold satR at h3
  rw [List.all_eq_true] at h3
  have hm := h3 x hx
  unfold missed at hm
  rw [Bool.not_eq_true', Bool.and_eq_false_iff, Bool.and_eq_false_iff, beq_eq_false_iff_ne, beq_eq_false_iff_ne, beq_eq_false_iff_ne] at hm
  rcases hm with hm | hm | hm
  · obtain ⟨v, hv⟩ := some_bit hm
    rw [Nat.testBit_and, Bool.and_eq_true] at hv
    have a1 := hp' v hv.1
    rw [hn' v hv.2] at a1; cases a1
  · obtain ⟨v, hv⟩ := some_bit hm
    rw [Nat.testBit_and, Bool.and_eq_true] at hv
    exact ⟨v, Or.inl ⟨hv.2, hp' v hv.1⟩⟩
  · obtain ⟨v, hv⟩ := some_bit hm
    rw [Nat.testBit_and, Bool.and_eq_true] at hv
    exact ⟨v, Or.inr ⟨hv.2, by rw [hn' v hv.1]; rfl⟩⟩

/-! ### Cubes -/
theorem litInto_form (c : Nat × Nat) (w : List UInt8) (h : (litInto c w).2 = true) : 1 ≤ litVar w ∧ ((litInto c w).1 = (c.1, c.2 ||| 2 ^ litVar w) ∨ (litInto c w).1 = (c.1 ||| 2 ^ litVar w, c.2)) := by
  unfold litInto at h ⊢
  split at h
  · next r =>
    have h' : 0 < dig r := of_decide_eq_true h
    have hd : dig (45 :: r) = 0 := by
      cases r with
      | nil => rfl
      | cons a b => rfl
    have e : litVar (45 :: r) = (dig r).toNat := by unfold litVar; rw [if_pos hd]; rfl
    rw [e]
    exact ⟨by omega, Or.inl rfl⟩
  · next hw =>
    have h' : 0 < dig w := of_decide_eq_true h
    have e : litVar w = (dig w).toNat := by unfold litVar; rw [if_neg (by omega)]
    rw [e]
    exact ⟨by omega, Or.inr rfl⟩
structure CI (order : List Nat) (c : Nat × Nat) (last : Nat) : Prop where
  apart : ∀ v, c.1.testBit v = true → c.2.testBit v = true → False
  vars : ∀ v, c.1.testBit v = true ∨ c.2.testBit v = true → v ≤ last ∧ v ∈ order
theorem cubeTo_ci (order : List Nat) (ws : List (List UInt8)) : ∀ c last c', CI order c last → cubeTo order c last ws = some c' → ∃ last', CI order c' last' := by
  induction ws with
  | nil => intro c last c' h e; simp [cubeTo] at e; subst e; exact ⟨last, h⟩
  | cons w ws ih =>
    intro c last c' h e
    rw [cubeTo] at e
    split at e
    · next hc =>
      obtain ⟨h1, h2, h3⟩ := hc
      refine ih _ _ _ ?_ e
      obtain ⟨_, hf⟩ := litInto_form c w h1
      have hno1 : c.1.testBit (litVar w) = false := by
        cases hh : c.1.testBit (litVar w) with
        | false => rfl
        | true => have := (h.vars _ (Or.inl hh)).1; omega
      have hno2 : c.2.testBit (litVar w) = false := by
        cases hh : c.2.testBit (litVar w) with
        | false => rfl
        | true => have := (h.vars _ (Or.inr hh)).1; omega
      rcases hf with hf | hf
      · rw [hf]
        constructor
        · intro v a b
          have b : (c.2 ||| 2 ^ litVar w).testBit v = true := b
          rw [bit_or, Bool.or_eq_true] at b
          rcases b with b | b
          · exact h.apart v a b
          · have : litVar w = v := of_decide_eq_true b
            subst this
            have a : c.1.testBit (litVar w) = true := a
            rw [hno1] at a; cases a
        · intro v a
          rcases a with a | a
          · have := h.vars v (Or.inl a); exact ⟨by omega, this.2⟩
          · have a : (c.2 ||| 2 ^ litVar w).testBit v = true := a
            rw [bit_or, Bool.or_eq_true] at a
            rcases a with a | a
            · have := h.vars v (Or.inr a); exact ⟨by omega, this.2⟩
            · have : litVar w = v := of_decide_eq_true a
              subst this; exact ⟨Nat.le_refl _, h3⟩
      · rw [hf]
        constructor
        · intro v a b
          have a : (c.1 ||| 2 ^ litVar w).testBit v = true := a
          rw [bit_or, Bool.or_eq_true] at a
          rcases a with a | a
          · exact h.apart v a b
          · have : litVar w = v := of_decide_eq_true a
            subst this
            have b : c.2.testBit (litVar w) = true := b
            rw [hno2] at b; cases b
        · intro v a
          rcases a with a | a
          · have a : (c.1 ||| 2 ^ litVar w).testBit v = true := a
            rw [bit_or, Bool.or_eq_true] at a
            rcases a with a | a
            · have := h.vars v (Or.inl a); exact ⟨by omega, this.2⟩
            · have : litVar w = v := of_decide_eq_true a
              subst this; exact ⟨Nat.le_refl _, h3⟩
          · have := h.vars v (Or.inr a); exact ⟨by omega, this.2⟩
    · cases e

/-! ### Reduction -/
theorem lastTo_le (order : List Nat) (kind : Nat) (c : Nat × Nat) (k : Nat) : lastTo order kind c k ≤ k := by
  induction k with
  | zero => exact Nat.le_refl _
  | succ k ih => rw [lastTo]; split <;> omega
theorem lastTo_past (order : List Nat) (kind : Nat) (c : Nat × Nat) (k i : Nat) (h1 : lastTo order kind c k ≤ i) (h2 : i < k) : hasB c (order.getD i 0) = true → kind.testBit (order.getD i 0) = true := by
  induction k with
  | zero => omega
  | succ k ih =>
    rw [lastTo] at h1
    split at h1
    · omega
    · next hc =>
      by_cases hk : i = k
      · subst hk
        intro hh
        rw [hh] at hc
        cases hb : kind.testBit (order.getD i 0) with
        | true => rfl
        | false => rw [hb] at hc; simp at hc
      · exact ih h1 (by omega)
theorem clr_bits (kind : Nat) (c : Nat × Nat) (u v : Nat) : (clr kind c u).1.testBit v = (c.1.testBit v && !(decide (v = u) && kind.testBit u)) ∧ (clr kind c u).2.testBit v = (c.2.testBit v && !(decide (v = u) && kind.testBit u)) := by
  unfold clr
  cases hk : kind.testBit u with
  | false => simp
  | true =>
    have e : ∀ a : Nat, (less a (2 ^ u)).testBit v = (a.testBit v && !(decide (v = u) && true)) := fun a => by
      rw [testBit_less, Nat.testBit_two_pow, Bool.and_true]
      by_cases h : u = v
      · subst h; simp
      · simp [h, Ne.symm h]
    exact ⟨e _, e _⟩
theorem clrs_bits (kind : Nat) (l : List Nat) (v : Nat) : ∀ c : Nat × Nat, (l.foldl (clr kind) c).1.testBit v = (c.1.testBit v && !(decide (v ∈ l) && kind.testBit v)) ∧ (l.foldl (clr kind) c).2.testBit v = (c.2.testBit v && !(decide (v ∈ l) && kind.testBit v)) := by
  induction l with
  | nil => intro c; simp
  | cons u l ih =>
    intro c
    have h1 := ih (clr kind c u)
    have h2 := clr_bits kind c u v
    rw [List.foldl_cons, h1.1, h1.2, h2.1, h2.2]
    by_cases hv : v = u
    · subst hv
      cases kind.testBit v <;> cases decide (v ∈ l) <;> simp
    · have e : decide (v ∈ u :: l) = decide (v ∈ l) := by simp [hv]
      rw [e]; simp [hv]
theorem bits510 (v : Nat) (h1 : 1 ≤ v) (h2 : v ≤ 8) : (510 : Nat).testBit v = true := by
  have : ∀ v : Fin 9, 1 ≤ v.val → (510 : Nat).testBit v.val = true := by decide
  exact this ⟨v, by omega⟩ h1
theorem kind_bit {F : Form} (hF : FOk F) (truth : Bool) (v : Nat) (hv : v ∈ F.order) : (kindR F truth).testBit v = (F.all.testBit v == !truth) := by
  have hn := hF.names v hv
  unfold kindR
  cases truth with
  | false => simp
  | true =>
    rw [if_pos rfl, testBit_less, bits510 v hn.1 hn.2]
    cases F.all.testBit v <;> rfl
theorem good_reductR {F : Form} (hF : FOk F) (truth : Bool) {c : Nat × Nat} (hg : Good (satB F.cl) F.all (!truth) F.order c) : Good (satB F.cl) F.all (!truth) F.order (redR F.order (kindR F truth) c) := by
  generalize hm : lastTo F.order (kindR F truth) c F.order.length = m
  have hml : m ≤ F.order.length := by rw [← hm]; exact lastTo_le _ _ _ _
  have e : F.order = F.order.take m ++ F.order.drop m := (List.take_append_drop m F.order).symm
  have hsub : ∀ v, v ∈ F.order.drop m → v ∈ F.order := fun v hv => List.mem_of_mem_drop hv
  have hb := clrs_bits (kindR F truth) (F.order.drop m)
  have hk : ∀ v, (decide (v ∈ F.order.drop m) && (kindR F truth).testBit v) = (decide (v ∈ F.order.drop m) && (F.all.testBit v == !truth)) := fun v => by
    by_cases hv : v ∈ F.order.drop m
    · rw [kind_bit hF truth v (hsub v hv)]
    · simp [hv]
  unfold redR
  rw [hm]
  have hg2 := hg
  rw [e] at hg2 ⊢
  have hd : (F.order.take m ++ F.order.drop m).drop m = F.order.drop m := by rw [List.take_append_drop]
  rw [hd]
  refine good_reduced hg2 (by rw [← e]; exact hF.nodup) ?_ ?_ ?_
  · intro v hv hc
    obtain ⟨i, hi, rfl⟩ := List.getElem_of_mem hv
    rw [List.getElem_drop]
    have hi' : m + i < F.order.length := by simp at hi; omega
    have hp := lastTo_past F.order (kindR F truth) c F.order.length (m + i) (by omega) hi'
    rw [getD_at _ _ _ hi'] at hp
    have hh : hasB c F.order[m + i] = true := by
      unfold hasB
      rw [Nat.testBit_or, Bool.or_eq_true]
      rw [List.getElem_drop] at hc
      exact hc
    have hk2 := hp hh
    rw [kind_bit hF truth _ (List.getElem_mem hi')] at hk2
    simpa using hk2
  · intro v; rw [(hb v c).1, hk]
  · intro v; rw [(hb v c).2, hk]

/-! ### Steps -/
theorem good_stepR {F : Form} (hF : FOk F) (truth : Bool) (ss : List (Nat × Nat)) (hd : List UInt8) (tl : List (List UInt8)) (c : Nat × Nat) (hS : ∀ c ∈ ss, Good (satB F.cl) F.all (!truth) F.order c) (h : stepR F truth ss hd tl = some c) : Good (satB F.cl) F.all (!truth) F.order c := by
  have hget : ∀ i, 1 ≤ i → i ≤ ss.length → Good (satB F.cl) F.all (!truth) F.order (ss.getD (i - 1) (0, 0)) := fun i h1 h2 => by
    have : i - 1 < ss.length := by omega
    rw [getD_at _ _ _ this]
    exact hS _ (List.getElem_mem this)
  unfold stepR at h
  split at h
  · next hc =>
    obtain ⟨_, ht, _⟩ := hc
    subst ht
    unfold axR at h
    split at h
    · cases h
    · next hk =>
      obtain ⟨rfl, ha⟩ := apartO_some h
      have : cnt (tl.getD 0 []) big - 1 < F.cl.length := by omega
      rw [getD_at _ _ _ this] at ha ⊢
      exact good_ax hF (List.getElem_mem this) ha
  · split at h
    · next hc =>
      obtain ⟨_, ht⟩ := hc
      subst ht
      unfold cubeR at h
      cases hq : cubeTo F.order (0, 0) 0 tl with
      | none => rw [hq] at h; cases h
      | some c' =>
        rw [hq] at h
        simp only [Option.bind_some] at h
        split at h
        · next hs =>
          simp at h; subst h
          obtain ⟨last, hci⟩ := cubeTo_ci _ _ (0, 0) 0 _ ⟨by simp, by simp⟩ hq
          exact good_cube hci.apart (fun v hv => (hci.vars v hv).2) hs
        · cases h
    · split at h
      · unfold resR at h
        split at h
        · cases h
        · next hr =>
          split at h
          · cases h
          · next hr2 =>
            obtain ⟨rfl, ha⟩ := apartO_some h
            simp only [not_or, Bool.not_eq_false] at hr hr2
            refine good_resolved (hget _ (by omega) (by omega)) (hget _ (by omega) (by omega)) hr2.2.1 hr2.2.2 ?_ ?_ (fun v h1 h2 => bits_apart ha v h1 h2)
            · intro v
              show (less _ _ ||| _).testBit v = _
              rw [Nat.testBit_or, testBit_less, Nat.testBit_two_pow]
              simp only [eq_comm]
            · intro v
              show (_ ||| less _ _).testBit v = _
              rw [Nat.testBit_or, testBit_less, Nat.testBit_two_pow]
              simp only [eq_comm]
      · split at h
        · unfold reductR at h
          split at h
          · cases h
          · next hr =>
            have h := Option.some.inj h
            subst h
            exact good_reductR hF truth (hget _ (by omega) (by omega))
        · cases h
theorem good_rows {F : Form} (hF : FOk F) (truth : Bool) (rs : List (List UInt8)) : ∀ (ss : List (Nat × Nat)) (n : Nat) (ss' : List (Nat × Nat)), (∀ c ∈ ss, Good (satB F.cl) F.all (!truth) F.order c) → rowsR F truth ss n rs = .inl ss' → ∀ c ∈ ss', Good (satB F.cl) F.all (!truth) F.order c := by
  induction rs with
  | nil => intro ss n ss' h e; simp [rowsR] at e; subst e; exact h
  | cons r rs ih =>
    intro ss n ss' h e
    rw [rowsR] at e
    cases hl : lineR F truth ss r with
    | none => rw [hl] at e; cases e
    | some c =>
      rw [hl] at e
      refine ih _ _ _ ?_ e
      intro c' hc'
      rcases List.mem_append.1 hc' with hc' | hc'
      · exact h c' hc'
      · simp at hc'; subst hc'
        unfold lineR at hl
        split at hl
        · cases hl
        · split at hl
          · cases hl
          · exact good_stepR hF truth ss _ _ _ h hl
/-- WHAT IS PROVED IS SO. -/
theorem proves_sound {F : Form} (hF : FOk F) (l : List UInt8) (truth : Bool) (two : Nat) (h : provesR F l = .inr (truth, two)) : fromL (satB F.cl) F.all F.order 0 = truth := by
  unfold provesR at h
  split at h
  · cases h
  · split at h
    · cases h
    · next r0 rs hrows =>
      split at h
      · split at h
        · cases h
        · next ss hss =>
          split at h
          · next hc =>
            have h' : (r0 == sTrue) = truth := by injection h with h; injection h
            rw [h'] at hss
            have hg := good_rows hF truth rs [] 1 ss (by simp) hss
            have he := hc.2
            unfold emptyLast at he
            split at he
            · cases he
            · next c hlast =>
              have hc0 : c.1 ||| c.2 = 0 := by simpa using he
              have hm : c ∈ ss := List.mem_of_getLast? hlast
              have h1 : c.1 = 0 := by
                apply Nat.eq_of_testBit_eq; intro v
                have : (c.1 ||| c.2).testBit v = false := by rw [hc0]; simp
                rw [Nat.testBit_or, Bool.or_eq_false_iff] at this
                rw [this.1]; simp
              have h2 : c.2 = 0 := by
                apply Nat.eq_of_testBit_eq; intro v
                have : (c.1 ||| c.2).testBit v = false := by rw [hc0]; simp
                rw [Nat.testBit_or, Bool.or_eq_false_iff] at this
                rw [this.2]; simp
              have := good_empty (hg c hm) hF.nodup h1 h2
              rw [this]; simp
          · cases h
      · cases h

/-! ### When a clause is satisfied -/
theorem satC_iff (c : Nat × Nat) (t : Nat) : satC c t = true ↔ ∃ v, (c.1.testBit v = true ∧ t.testBit v = true) ∨ (c.2.testBit v = true ∧ t.testBit v = false) := by
  unfold satC
  rw [Bool.not_eq_true', Bool.and_eq_false_iff, beq_eq_false_iff_ne, beq_eq_false_iff_ne]
  constructor
  · rintro (h | h)
    · obtain ⟨v, hv⟩ := some_bit h
      rw [Nat.testBit_and, Bool.and_eq_true] at hv
      exact ⟨v, Or.inl hv⟩
    · obtain ⟨v, hv⟩ := some_bit h
      rw [testBit_less, Bool.and_eq_true, Bool.not_eq_true'] at hv
      exact ⟨v, Or.inr hv⟩
  · rintro ⟨v, h | h⟩
    · left
      intro e
      have : (c.1 &&& t).testBit v = true := by rw [Nat.testBit_and, h.1, h.2]; rfl
      rw [e] at this; simp at this
    · right
      intro e
      have : (less c.2 t).testBit v = true := by rw [testBit_less, h.1, h.2]; rfl
      rw [e] at this; simp at this
theorem satB_iff (cs : List (Nat × Nat)) (t : Nat) : satB cs t = true ↔ ∀ c ∈ cs, satC c t = true := by unfold satB; rw [List.all_eq_true]
end Go.Proofs.Ytgipjjhkhfihpaa

namespace Go.Proofs.Ytgipjjhkhfihpaa
open Go.RowKit

theorem ints_at (l : List Nat) (k : Nat) (h : k < l.length) : (ints l)[k]? = some (.int .i64 (l[k] : Int)) := by
  unfold ints; rw [List.getElem?_map, List.getElem?_eq_getElem h]; rfl

/-! ### place -/
/-! ### count -/
theorem dec_lt (l : List UInt8) (h : l.all isDigit = true) : dec l < 10 ^ l.length := by
  suffices hh : ∀ (n : Nat) (l : List UInt8), l.length = n → l.all isDigit = true → dec l < 10 ^ n from hh _ l rfl h
  intro n
  induction n with
  | zero => intro l hl _; rw [List.eq_nil_of_length_eq_zero hl]; decide
  | succ n ih =>
    intro l hl ha
    have hlt : n < l.length := by omega
    have hall : (l.take n).all isDigit = true := by
      rw [List.all_eq_true] at ha ⊢
      exact fun x hx => ha x (List.mem_of_mem_take hx)
    have h1 := ih (l.take n) (by simp; omega) hall
    have h2 := dec_take l n hlt
    rw [show l.take (n + 1) = l from by rw [← hl]; exact List.take_length] at h2
    have hd : isDigit l[n] = true := by rw [List.all_eq_true] at ha; exact ha _ (List.getElem_mem hlt)
    have hd' : 48 ≤ l[n].toNat ∧ l[n].toNat ≤ 57 := of_decide_eq_true hd
    rw [h2, Nat.pow_succ]
    omega
theorem ten_six (k : Nat) (h : k ≤ 6) : 10 ^ k ≤ 1000000 := by
  have := Nat.pow_le_pow_right (n := 10) (by omega) h
  simpa using this

attribute [local go_sem] ba_get

end Go.Proofs.Ytgipjjhkhfihpaa

namespace Go.Proofs.Ytgipjjhkhfihpaa
open Go.RowKit

/-! ### reduced -/
theorem shr_bit_zero (a v : Nat) (ha : a < 512) (hv : v ≤ 8) : (bits .and .i64 ((a : Int) / 2 ^ v) 1 == 0) = !a.testBit v := by
  rw [shr_bit a v ha hv]; cases a.testBit v <;> rfl
theorem new_at {w : World} {o : Obj} {n : Nat} (h : n = w.heap.size) : (w.alloc o).heap[n]? = some o := by subst h; exact heap_alloc_new w o
theorem less_bit (a v : Nat) (ha : a < 512) (hv : v ≤ 8) : bits .andNot .i64 (a : Int) (wrap64 (2 ^ v)) = ((less a (2 ^ v) : Nat) : Int) := by
  have h := shl_one (v : Int) (by omega) (by omega)
  rw [Int.toNat_natCast] at h
  have hp := pow_bd v hv
  rw [h]
  exact i64_andNot _ _ (by omega) (by omega)
theorem lastTo_succ (order : List Nat) (kind : Nat) (c : Nat × Nat) (k v : Nat) (h : k < order.length) (hv : order[k] = v) : lastTo order kind c (k + 1) = if hasB c v && !kind.testBit v then k + 1 else lastTo order kind c k := by
  rw [lastTo]
  have : order.getD k 0 = v := by rw [List.getD, List.getElem?_eq_getElem h, hv]; rfl
  rw [this]
theorem lastTo_bound (order : List Nat) (kind : Nat) (c : Nat × Nat) (k : Nat) : lastTo order kind c k ≤ k := by
  induction k with
  | zero => exact Nat.le_refl _
  | succ k ih => rw [lastTo]; split <;> omega
def redTo (order : List Nat) (kind m : Nat) (c : Nat × Nat) (j : Nat) : Nat × Nat := ((order.drop m).take j).foldl (clr kind) c
theorem redTo_succ (order : List Nat) (kind m : Nat) (c : Nat × Nat) (j v : Nat) (h : m + j < order.length) (hv : order[m + j] = v) : redTo order kind m c (j + 1) = clr kind (redTo order kind m c j) v := by
  unfold redTo
  have hj : j < (order.drop m).length := by simp; omega
  rw [List.take_succ_eq_append_getElem hj, List.foldl_append, List.getElem_drop, hv]; rfl
theorem redTo_bd (order : List Nat) (kind m : Nat) (c : Nat × Nat) (j : Nat) (h : Bd c) : Bd (redTo order kind m c j) := clrs_bd kind _ c h
theorem redTo_end (order : List Nat) (kind : Nat) (c : Nat × Nat) (j : Nat) (h : lastTo order kind c order.length + j = order.length) : redTo order kind (lastTo order kind c order.length) c j = redR order kind c := by
  unfold redTo redR
  rw [List.take_of_length_le (by simp; omega)]

end Go.Proofs.Ytgipjjhkhfihpaa

namespace Go.Proofs.Ytgipjjhkhfihpaa
open Go.RowKit

/-! ### cube -/
theorem satR_take (cl : List (Nat × Nat)) (c : Nat × Nat) (k : Nat) (h : k < cl.length) : satR (cl.take (k + 1)) c = (satR (cl.take k) c && !missed cl[k] c) := by
  unfold satR; rw [List.take_succ_eq_append_getElem h, List.all_append]; simp
theorem satR_of (cl : List (Nat × Nat)) (c : Nat × Nat) (k : Nat) (h : k < cl.length) (hc : missed cl[k] c = true) : satR cl c = false := by
  unfold satR; rw [List.all_eq_false]; exact ⟨cl[k], List.getElem_mem h, by rw [hc]; decide⟩
/-- A clause, or that it is none; c is whatever. -/
def RStPost (res : Option (Nat × Nat)) (w : World) (e : Ending) (w' : World) : Prop :=
  Below w.heap.size w w' ∧ ∃ (c : Nat × Nat) (ok : Bool), e = .returned (.tuple #[.agg #[.int .i64 (c.1 : Int), .int .i64 (c.2 : Int)], .bool ok]) ∧ ((ok = true ∧ res = some c) ∨ (ok = false ∧ res = none))
theorem RStPost.none_ {res : Option (Nat × Nat)} {w w' : World} {e : Ending} (hb : Below w.heap.size w w') (h : res = none) (c : Nat × Nat) (he : e = .returned (.tuple #[.agg #[.int .i64 (c.1 : Int), .int .i64 (c.2 : Int)], .bool false])) : RStPost res w e w' :=
  ⟨hb, c, false, he, Or.inr ⟨rfl, h⟩⟩
theorem RStPost.some_ {res : Option (Nat × Nat)} {w w' : World} {e : Ending} (hb : Below w.heap.size w w') (c : Nat × Nat) (h : res = some c) (he : e = .returned (.tuple #[.agg #[.int .i64 (c.1 : Int), .int .i64 (c.2 : Int)], .bool true])) : RStPost res w e w' :=
  ⟨hb, c, true, he, Or.inl ⟨rfl, h⟩⟩
/-- What holds of a formula that was read, for the walks. -/
structure FW (F : Form) : Prop where
  len : F.order.length ≤ 8
  names : ∀ v ∈ F.order, v ≤ 8
  cl : F.cl.length ≤ 24
  bits : ∀ c ∈ F.cl, c.1 < 512 ∧ c.2 < 512
  all : F.all < 512

theorem lit_var (c : Nat × Nat) (x : List UInt8) : (litInto c x).2 = true → litVar x = if dig x = 0 then (dig x.tail).toNat else (dig x).toNat := fun _ => rfl
theorem dig_tail (c : Nat × Nat) (x : List UInt8) : (litInto c x).2 = true → dig x = 0 → ∃ r, x = 45 :: r ∧ 0 < dig r := by
  intro h h0
  unfold litInto at h
  split at h
  · next r => exact ⟨r, rfl, of_decide_eq_true h⟩
  · have : 0 < dig x := of_decide_eq_true h
    omega

end Go.Proofs.Ytgipjjhkhfihpaa
