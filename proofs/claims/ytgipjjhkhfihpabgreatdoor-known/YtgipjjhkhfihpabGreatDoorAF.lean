import Derived.Test.YtgipjjhkhfihpabGreatDoorAD
import Derived.Test.YtgipjjhkhfihpabGreatDoorAE
import Derived.Test.YtgipjjhkhfihpabGreatDoorAB
import Derived.Deep.QuietTactic
import Derived.BigQuiet
namespace Go.Proofs.YtgipjjhkhfihpabGreatDoor
open Go.RowKit

theorem ProgAt.later {lo b : Nat} {w w' : World} {q : QS} (h : ProgAt lo w b q) (hb : Below w.heap.size w w') : ProgAt lo w' b q := by
  obtain ⟨h1, vV, vC, h2, h3, h4⟩ := h
  exact ⟨h1, vV, vC, (hb.block b (blk_lt h2)).trans h2, own_below h3 hb, own_below h4 hb⟩
theorem ProgAt.set {lo b bw o : Nat} {w : World} {q : QS} {u : Value} (h : ProgAt lo w b q) (hlt : bw < lo) : ProgAt lo (w.setCell ⟨bw, o, none⟩ u) b q := by
  obtain ⟨h1, vV, vC, h2, h3, h4⟩ := h
  exact ⟨h1, vV, vC, (Below.heap_setCell _ _ _ _ (by show b ≠ bw; omega)).trans h2, ownsRow_setCell_below h3 (a := ⟨bw, o, none⟩) hlt u, ownsRow_setCell_below h4 (a := ⟨bw, o, none⟩) hlt u⟩
theorem ProgAt.lo {lo lo' b : Nat} {w : World} {q : QS} (h : ProgAt lo w b q) (hl : lo' ≤ lo) : ProgAt lo' w b q := by
  obtain ⟨h1, vV, vC, h2, h3, h4⟩ := h
  exact ⟨by omega, vV, vC, h2, own_lo h3 hl, own_lo h4 hl⟩
end Go.Proofs.YtgipjjhkhfihpabGreatDoor

namespace Go.Proofs.YtgipjjhkhfihpabGreatDoor
open Go.RowKit

/-! ### Satisfied -/
def satC (c : Nat × Nat) (t : Nat) : Bool := !((c.1 &&& t == 0) && (less c.2 t == 0))
def satB (cl : List (Nat × Nat)) (t : Nat) : Bool := cl.all (satC · t)
end Go.Proofs.YtgipjjhkhfihpabGreatDoor

namespace Go.Proofs.YtgipjjhkhfihpabGreatDoor
open Go.RowKit

theorem bits_apart {a b : Nat} (h : a &&& b = 0) (v : Nat) (ha : a.testBit v = true) (hb : b.testBit v = true) : False := by
  have : (a &&& b).testBit v = true := by rw [Nat.testBit_and, ha, hb]; rfl
  rw [h] at this; simp at this
theorem apart_bits {a b : Nat} (h : ∀ v, a.testBit v = true → b.testBit v = true → False) : a &&& b = 0 := by
  apply Nat.eq_of_testBit_eq
  intro v
  rw [Nat.testBit_and, Nat.zero_testBit]
  cases ha : a.testBit v with
  | false => rfl
  | true =>
    cases hb : b.testBit v with
    | false => rfl
    | true => exact (h v ha hb).elim
theorem some_bit {a : Nat} (h : a ≠ 0) : ∃ v, a.testBit v = true := by
  apply Classical.byContradiction
  intro hn
  apply h
  apply Nat.eq_of_testBit_eq
  intro v
  rw [Nat.zero_testBit]
  cases hv : a.testBit v with
  | false => rfl
  | true => exact (hn ⟨v, hv⟩).elim

theorem getD_at {α : Type} (l : List α) (k : Nat) (d : α) (h : k < l.length) : l.getD k d = l[k] := by
  rw [List.getD, List.getElem?_eq_getElem h]; rfl
/-- What is so of a formula that was read. -/
structure FOk (F : Form) : Prop where
  nodup : F.order.Nodup
  names : ∀ v ∈ F.order, 1 ≤ v ∧ v ≤ 8
  bits : ∀ c ∈ F.cl, Bd c
  vars : ∀ c ∈ F.cl, ∀ v, c.1.testBit v = true ∨ c.2.testBit v = true → v ∈ F.order

theorem good_ax {F : Form} (hF : FOk F) {c : Nat × Nat} (hc : c ∈ F.cl) (ha : c.1 &&& c.2 = 0) : Good (satB F.cl) F.all true F.order c := by
  refine ⟨fun v h1 h2 => bits_apart ha v h1 h2, hF.vars c hc, fun t ht => ?_⟩
  have hs := ht.leaf
  unfold satB at hs
  rw [List.all_eq_true] at hs
  have hs := hs c hc
  unfold satC at hs
  rw [Bool.not_eq_true', Bool.and_eq_false_iff, beq_eq_false_iff_ne, beq_eq_false_iff_ne] at hs
  rcases hs with hs | hs
  · obtain ⟨v, hv⟩ := some_bit hs
    rw [Nat.testBit_and, Bool.and_eq_true] at hv
    exact ⟨v, Or.inl hv⟩
  · obtain ⟨v, hv⟩ := some_bit hs
    rw [testBit_less, Bool.and_eq_true, Bool.not_eq_true'] at hv
    exact ⟨v, Or.inr hv⟩
theorem good_cube {F : Form} {c : Nat × Nat} (h1 : ∀ v, c.1.testBit v = true → c.2.testBit v = true → False) (h2 : ∀ v, c.1.testBit v = true ∨ c.2.testBit v = true → v ∈ F.order) (h3 : satR F.cl c = true) : Good (satB F.cl) F.all false F.order c := by
  refine ⟨h1, h2, fun t ht => ?_⟩
  have hs := ht.leaf
  unfold satB at hs
  rw [List.all_eq_false] at hs
  obtain ⟨x, hx, hs⟩ := hs
  have hs : satC x t = false := by simpa using hs
  unfold satC at hs
  rw [Bool.not_eq_false', Bool.and_eq_true, beq_iff_eq, beq_iff_eq] at hs
  obtain ⟨hp, hn⟩ := hs
  have hp' : ∀ v, x.1.testBit v = true → t.testBit v = false := fun v hv => by
    cases ht : t.testBit v with
    | false => rfl
    | true => exact (bits_apart hp v hv ht).elim
  have hn' : ∀ v, x.2.testBit v = true → t.testBit v = true := fun v hv => by
    cases ht : t.testBit v with
    | true => rfl
    | false =>
      have : (less x.2 t).testBit v = true := by rw [testBit_less, hv, ht]; rfl
      rw [hn] at this; simp at this
  unfold satR at h3
  rw [List.all_eq_true] at h3
  have hm := h3 x hx
  unfold missed at hm
  rw [Bool.not_eq_true', Bool.and_eq_false_iff, Bool.and_eq_false_iff, beq_eq_false_iff_ne, beq_eq_false_iff_ne, beq_eq_false_iff_ne] at hm
  rcases hm with hm | hm | hm
  · obtain ⟨v, hv⟩ := some_bit hm
    rw [Nat.testBit_and, Bool.and_eq_true] at hv
    have a1 := hp' v hv.1
    rw [hn' v hv.2] at a1; cases a1
  · obtain ⟨v, hv⟩ := some_bit hm
    rw [Nat.testBit_and, Bool.and_eq_true] at hv
    exact ⟨v, Or.inl ⟨hv.2, hp' v hv.1⟩⟩
  · obtain ⟨v, hv⟩ := some_bit hm
    rw [Nat.testBit_and, Bool.and_eq_true] at hv
    exact ⟨v, Or.inr ⟨hv.2, by rw [hn' v hv.1]; rfl⟩⟩

/-! ### Cubes -/
theorem litInto_form (c : Nat × Nat) (w : List UInt8) (h : (litInto c w).2 = true) : 1 ≤ litVar w ∧ ((litInto c w).1 = (c.1, c.2 ||| 2 ^ litVar w) ∨ (litInto c w).1 = (c.1 ||| 2 ^ litVar w, c.2)) := by
  unfold litInto at h ⊢
  split at h
  · next r =>
    have h' : 0 < dig r := of_decide_eq_true h
    have hd : dig (45 :: r) = 0 := by
      cases r with
      | nil => rfl
      | cons a b => rfl
    have e : litVar (45 :: r) = (dig r).toNat := by unfold litVar; rw [if_pos hd]; rfl
    rw [e]
    exact ⟨by omega, Or.inl rfl⟩
  · next hw =>
    have h' : 0 < dig w := of_decide_eq_true h
    have e : litVar w = (dig w).toNat := by unfold litVar; rw [if_neg (by omega)]
    rw [e]
    exact ⟨by omega, Or.inr rfl⟩
structure CI (order : List Nat) (c : Nat × Nat) (last : Nat) : Prop where
  apart : ∀ v, c.1.testBit v = true → c.2.testBit v = true → False
  vars : ∀ v, c.1.testBit v = true ∨ c.2.testBit v = true → v ≤ last ∧ v ∈ order
theorem cubeTo_ci (order : List Nat) (ws : List (List UInt8)) : ∀ c last c', CI order c last → cubeTo order c last ws = some c' → ∃ last', CI order c' last' := by
  induction ws with
  | nil => intro c last c' h e; simp [cubeTo] at e; subst e; exact ⟨last, h⟩
  | cons w ws ih =>
    intro c last c' h e
    rw [cubeTo] at e
    split at e
    · next hc =>
      obtain ⟨h1, h2, h3⟩ := hc
      refine ih _ _ _ ?_ e
      obtain ⟨_, hf⟩ := litInto_form c w h1
      have hno1 : c.1.testBit (litVar w) = false := by
        cases hh : c.1.testBit (litVar w) with
        | false => rfl
        | true => have := (h.vars _ (Or.inl hh)).1; omega
      have hno2 : c.2.testBit (litVar w) = false := by
        cases hh : c.2.testBit (litVar w) with
        | false => rfl
        | true => have := (h.vars _ (Or.inr hh)).1; omega
      rcases hf with hf | hf
      · rw [hf]
        constructor
        · intro v a b
          have b : (c.2 ||| 2 ^ litVar w).testBit v = true := b
          rw [bit_or, Bool.or_eq_true] at b
          rcases b with b | b
          · exact h.apart v a b
          · have : litVar w = v := of_decide_eq_true b
            subst this
            have a : c.1.testBit (litVar w) = true := a
            rw [hno1] at a; cases a
        · intro v a
          rcases a with a | a
          · have := h.vars v (Or.inl a); exact ⟨by omega, this.2⟩
          · have a : (c.2 ||| 2 ^ litVar w).testBit v = true := a
            rw [bit_or, Bool.or_eq_true] at a
            rcases a with a | a
            · have := h.vars v (Or.inr a); exact ⟨by omega, this.2⟩
            · have : litVar w = v := of_decide_eq_true a
              subst this; exact ⟨Nat.le_refl _, h3⟩
      · rw [hf]
        constructor
        · intro v a b
          have a : (c.1 ||| 2 ^ litVar w).testBit v = true := a
          rw [bit_or, Bool.or_eq_true] at a
          rcases a with a | a
          · exact h.apart v a b
          · have : litVar w = v := of_decide_eq_true a
            subst this
            have b : c.2.testBit (litVar w) = true := b
            rw [hno2] at b; cases b
        · intro v a
          rcases a with a | a
          · have a : (c.1 ||| 2 ^ litVar w).testBit v = true := a
            rw [bit_or, Bool.or_eq_true] at a
            rcases a with a | a
            · have := h.vars v (Or.inl a); exact ⟨by omega, this.2⟩
            · have : litVar w = v := of_decide_eq_true a
              subst this; exact ⟨Nat.le_refl _, h3⟩
          · have := h.vars v (Or.inr a); exact ⟨by omega, this.2⟩
    · cases e

/-! ### Reduction -/
theorem lastTo_le (order : List Nat) (kind : Nat) (c : Nat × Nat) (k : Nat) : lastTo order kind c k ≤ k := by
  induction k with
  | zero => exact Nat.le_refl _
  | succ k ih => rw [lastTo]; split <;> omega
theorem lastTo_past (order : List Nat) (kind : Nat) (c : Nat × Nat) (k i : Nat) (h1 : lastTo order kind c k ≤ i) (h2 : i < k) : hasB c (order.getD i 0) = true → kind.testBit (order.getD i 0) = true := by
  induction k with
  | zero => omega
  | succ k ih =>
    rw [lastTo] at h1
    split at h1
    · omega
    · next hc =>
      by_cases hk : i = k
      · subst hk
        intro hh
        rw [hh] at hc
        cases hb : kind.testBit (order.getD i 0) with
        | true => rfl
        | false => rw [hb] at hc; simp at hc
      · exact ih h1 (by omega)
theorem clr_bits (kind : Nat) (c : Nat × Nat) (u v : Nat) : (clr kind c u).1.testBit v = (c.1.testBit v && !(decide (v = u) && kind.testBit u)) ∧ (clr kind c u).2.testBit v = (c.2.testBit v && !(decide (v = u) && kind.testBit u)) := by
  unfold clr
  cases hk : kind.testBit u with
  | false => simp
  | true =>
    have e : ∀ a : Nat, (less a (2 ^ u)).testBit v = (a.testBit v && !(decide (v = u) && true)) := fun a => by
      rw [testBit_less, Nat.testBit_two_pow, Bool.and_true]
      by_cases h : u = v
      · subst h; simp
      · simp [h, Ne.symm h]
    exact ⟨e _, e _⟩
theorem clrs_bits (kind : Nat) (l : List Nat) (v : Nat) : ∀ c : Nat × Nat, (l.foldl (clr kind) c).1.testBit v = (c.1.testBit v && !(decide (v ∈ l) && kind.testBit v)) ∧ (l.foldl (clr kind) c).2.testBit v = (c.2.testBit v && !(decide (v ∈ l) && kind.testBit v)) := by
  induction l with
  | nil => intro c; simp
  | cons u l ih =>
    intro c
    have h1 := ih (clr kind c u)
    have h2 := clr_bits kind c u v
    rw [List.foldl_cons, h1.1, h1.2, h2.1, h2.2]
    by_cases hv : v = u
    · subst hv
      cases kind.testBit v <;> cases decide (v ∈ l) <;> simp
    · have e : decide (v ∈ u :: l) = decide (v ∈ l) := by simp [hv]
      rw [e]; simp [hv]
theorem bits510 (v : Nat) (h1 : 1 ≤ v) (h2 : v ≤ 8) : (510 : Nat).testBit v = true := by
  have : ∀ v : Fin 9, 1 ≤ v.val → (510 : Nat).testBit v.val = true := by decide
  exact this ⟨v, by omega⟩ h1
theorem kind_bit {F : Form} (hF : FOk F) (truth : Bool) (v : Nat) (hv : v ∈ F.order) : (kindR F truth).testBit v = (F.all.testBit v == !truth) := by
  have hn := hF.names v hv
  unfold kindR
  cases truth with
  | false => simp
  | true =>
    rw [if_pos rfl, testBit_less, bits510 v hn.1 hn.2]
    cases F.all.testBit v <;> rfl
theorem good_reductR {F : Form} (hF : FOk F) (truth : Bool) {c : Nat × Nat} (hg : Good (satB F.cl) F.all (!truth) F.order c) : Good (satB F.cl) F.all (!truth) F.order (redR F.order (kindR F truth) c) := by
  generalize hm : lastTo F.order (kindR F truth) c F.order.length = m
  have hml : m ≤ F.order.length := by rw [← hm]; exact lastTo_le _ _ _ _
  have e : F.order = F.order.take m ++ F.order.drop m := (List.take_append_drop m F.order).symm
  have hsub : ∀ v, v ∈ F.order.drop m → v ∈ F.order := fun v hv => List.mem_of_mem_drop hv
  have hb := clrs_bits (kindR F truth) (F.order.drop m)
  have hk : ∀ v, (decide (v ∈ F.order.drop m) && (kindR F truth).testBit v) = (decide (v ∈ F.order.drop m) && (F.all.testBit v == !truth)) := fun v => by
    by_cases hv : v ∈ F.order.drop m
    · rw [kind_bit hF truth v (hsub v hv)]
    · simp [hv]
  unfold redR
  rw [hm]
  have hg2 := hg
  rw [e] at hg2 ⊢
  have hd : (F.order.take m ++ F.order.drop m).drop m = F.order.drop m := by rw [List.take_append_drop]
  rw [hd]
  refine good_reduced hg2 (by rw [← e]; exact hF.nodup) ?_ ?_ ?_
  · intro v hv hc
    obtain ⟨i, hi, rfl⟩ := List.getElem_of_mem hv
    rw [List.getElem_drop]
    have hi' : m + i < F.order.length := by simp at hi; omega
    have hp := lastTo_past F.order (kindR F truth) c F.order.length (m + i) (by omega) hi'
    rw [getD_at _ _ _ hi'] at hp
    have hh : hasB c F.order[m + i] = true := by
      unfold hasB
      rw [Nat.testBit_or, Bool.or_eq_true]
      rw [List.getElem_drop] at hc
      exact hc
    have hk2 := hp hh
    rw [kind_bit hF truth _ (List.getElem_mem hi')] at hk2
    simpa using hk2
  · intro v; rw [(hb v c).1, hk]
  · intro v; rw [(hb v c).2, hk]

/-! ### Steps -/
theorem good_stepR {F : Form} (hF : FOk F) (truth : Bool) (ss : List (Nat × Nat)) (hd : List UInt8) (tl : List (List UInt8)) (c : Nat × Nat) (hS : ∀ c ∈ ss, Good (satB F.cl) F.all (!truth) F.order c) (h : stepR F truth ss hd tl = some c) : Good (satB F.cl) F.all (!truth) F.order c := by
  have hget : ∀ i, 1 ≤ i → i ≤ ss.length → Good (satB F.cl) F.all (!truth) F.order (ss.getD (i - 1) (0, 0)) := fun i h1 h2 => by
    have : i - 1 < ss.length := by omega
    rw [getD_at _ _ _ this]
    exact hS _ (List.getElem_mem this)
  unfold stepR at h
  split at h
  · next hc =>
    obtain ⟨_, ht, _⟩ := hc
    subst ht
    unfold axR at h
    split at h
    · cases h
    · next hk =>
      obtain ⟨rfl, ha⟩ := apartO_some h
      have : cnt (tl.getD 0 []) big - 1 < F.cl.length := by omega
      rw [getD_at _ _ _ this] at ha ⊢
      exact good_ax hF (List.getElem_mem this) ha
  · split at h
    · next hc =>
      obtain ⟨_, ht⟩ := hc
      subst ht
      unfold cubeR at h
      cases hq : cubeTo F.order (0, 0) 0 tl with
      | none => rw [hq] at h; cases h
      | some c' =>
        rw [hq] at h
        simp only [Option.bind_some] at h
        split at h
        · next hs =>
          simp at h; subst h
          obtain ⟨last, hci⟩ := cubeTo_ci _ _ (0, 0) 0 _ ⟨by simp, by simp⟩ hq
          exact good_cube hci.apart (fun v hv => (hci.vars v hv).2) hs
        · cases h
    · split at h
      · unfold resR at h
        split at h
        · cases h
        · next hr =>
          split at h
          · cases h
          · next hr2 =>
            obtain ⟨rfl, ha⟩ := apartO_some h
            simp only [not_or, Bool.not_eq_false] at hr hr2
            refine good_resolved (hget _ (by omega) (by omega)) (hget _ (by omega) (by omega)) hr2.2.1 hr2.2.2 ?_ ?_ (fun v h1 h2 => bits_apart ha v h1 h2)
            · intro v
              show (less _ _ ||| _).testBit v = _
              rw [Nat.testBit_or, testBit_less, Nat.testBit_two_pow]
              simp only [eq_comm]
            · intro v
              show (_ ||| less _ _).testBit v = _
              rw [Nat.testBit_or, testBit_less, Nat.testBit_two_pow]
              simp only [eq_comm]
      · split at h
        · unfold reductR at h
          split at h
          · cases h
          · next hr =>
            have h := Option.some.inj h
            subst h
            exact good_reductR hF truth (hget _ (by omega) (by omega))
        · cases h
theorem good_rows {F : Form} (hF : FOk F) (truth : Bool) (rs : List (List UInt8)) : ∀ (ss : List (Nat × Nat)) (n : Nat) (ss' : List (Nat × Nat)), (∀ c ∈ ss, Good (satB F.cl) F.all (!truth) F.order c) → rowsR F truth ss n rs = .inl ss' → ∀ c ∈ ss', Good (satB F.cl) F.all (!truth) F.order c := by
  induction rs with
  | nil => intro ss n ss' h e; simp [rowsR] at e; subst e; exact h
  | cons r rs ih =>
    intro ss n ss' h e
    rw [rowsR] at e
    cases hl : lineR F truth ss r with
    | none => rw [hl] at e; cases e
    | some c =>
      rw [hl] at e
      refine ih _ _ _ ?_ e
      intro c' hc'
      rcases List.mem_append.1 hc' with hc' | hc'
      · exact h c' hc'
      · simp at hc'; subst hc'
        unfold lineR at hl
        split at hl
        · cases hl
        · split at hl
          · cases hl
          · exact good_stepR hF truth ss _ _ _ h hl
/-- WHAT IS PROVED IS SO. -/
theorem proves_sound {F : Form} (hF : FOk F) (l : List UInt8) (truth : Bool) (two : Nat) (h : provesR F l = .inr (truth, two)) : fromL (satB F.cl) F.all F.order 0 = truth := by
  unfold provesR at h
  split at h
  · cases h
  · split at h
    · cases h
    · next r0 rs hrows =>
      split at h
      · split at h
        · cases h
        · next ss hss =>
          split at h
          · next hc =>
            have h' : (r0 == sTrue) = truth := by injection h with h; injection h
            rw [h'] at hss
            have hg := good_rows hF truth rs [] 1 ss (by simp) hss
            have he := hc.2
            unfold emptyLast at he
            split at he
            · cases he
            · next c hlast =>
              have hc0 : c.1 ||| c.2 = 0 := by simpa using he
              have hm : c ∈ ss := List.mem_of_getLast? hlast
              have h1 : c.1 = 0 := by
                apply Nat.eq_of_testBit_eq; intro v
                have : (c.1 ||| c.2).testBit v = false := by rw [hc0]; simp
                rw [Nat.testBit_or, Bool.or_eq_false_iff] at this
                rw [this.1]; simp
              have h2 : c.2 = 0 := by
                apply Nat.eq_of_testBit_eq; intro v
                have : (c.1 ||| c.2).testBit v = false := by rw [hc0]; simp
                rw [Nat.testBit_or, Bool.or_eq_false_iff] at this
                rw [this.2]; simp
              have := good_empty (hg c hm) hF.nodup h1 h2
              rw [this]; simp
          · cases h
      · cases h

/-! ### When a clause is satisfied -/
theorem satC_iff (c : Nat × Nat) (t : Nat) : satC c t = true ↔ ∃ v, (c.1.testBit v = true ∧ t.testBit v = true) ∨ (c.2.testBit v = true ∧ t.testBit v = false) := by
  unfold satC
  rw [Bool.not_eq_true', Bool.and_eq_false_iff, beq_eq_false_iff_ne, beq_eq_false_iff_ne]
  constructor
  · rintro (h | h)
    · obtain ⟨v, hv⟩ := some_bit h
      rw [Nat.testBit_and, Bool.and_eq_true] at hv
      exact ⟨v, Or.inl hv⟩
    · obtain ⟨v, hv⟩ := some_bit h
      rw [testBit_less, Bool.and_eq_true, Bool.not_eq_true'] at hv
      exact ⟨v, Or.inr hv⟩
  · rintro ⟨v, h | h⟩
    · left
      intro e
      have : (c.1 &&& t).testBit v = true := by rw [Nat.testBit_and, h.1, h.2]; rfl
      rw [e] at this; simp at this
    · right
      intro e
      have : (less c.2 t).testBit v = true := by rw [testBit_less, h.1, h.2]; rfl
      rw [e] at this; simp at this
theorem satB_iff (cs : List (Nat × Nat)) (t : Nat) : satB cs t = true ↔ ∀ c ∈ cs, satC c t = true := by unfold satB; rw [List.all_eq_true]
end Go.Proofs.YtgipjjhkhfihpabGreatDoor

namespace Go.Proofs.YtgipjjhkhfihpabGreatDoor
open Go.RowKit

/-! ### place -/
/-! ### count -/
theorem dec_lt (l : List UInt8) (h : l.all isDigit = true) : dec l < 10 ^ l.length := by
  suffices hh : ∀ (n : Nat) (l : List UInt8), l.length = n → l.all isDigit = true → dec l < 10 ^ n from hh _ l rfl h
  intro n
  induction n with
  | zero => intro l hl _; rw [List.eq_nil_of_length_eq_zero hl]; decide
  | succ n ih =>
    intro l hl ha
    have hlt : n < l.length := by omega
    have hall : (l.take n).all isDigit = true := by
      rw [List.all_eq_true] at ha ⊢
      exact fun x hx => ha x (List.mem_of_mem_take hx)
    have h1 := ih (l.take n) (by simp; omega) hall
    have h2 := dec_take l n hlt
    rw [show l.take (n + 1) = l from by rw [← hl]; exact List.take_length] at h2
    have hd : isDigit l[n] = true := by rw [List.all_eq_true] at ha; exact ha _ (List.getElem_mem hlt)
    have hd' : 48 ≤ l[n].toNat ∧ l[n].toNat ≤ 57 := of_decide_eq_true hd
    rw [h2, Nat.pow_succ]
    omega
theorem ten_six (k : Nat) (h : k ≤ 6) : 10 ^ k ≤ 1000000 := by
  have := Nat.pow_le_pow_right (n := 10) (by omega) h
  simpa using this

attribute [local go_sem] ba_get

end Go.Proofs.YtgipjjhkhfihpabGreatDoor

namespace Go.Proofs.YtgipjjhkhfihpabGreatDoor
open Go.RowKit

/-! ### Both sides read proofs alike -/
theorem dec_ge (l : List UInt8) (h : l.all isDigit = true) (h0 : l ≠ []) (h48 : l.head? ≠ some 48) : ∀ k, k < l.length → 10 ^ k ≤ dec (l.take (k + 1)) := by
  intro k
  induction k with
  | zero =>
    intro hk
    match l, h0 with
    | c :: r, _ =>
      have hd : isDigit c = true := by simp at h; exact h.1
      have hd' : 48 ≤ c.toNat ∧ c.toNat ≤ 57 := of_decide_eq_true hd
      have hne : c.toNat ≠ 48 := fun e => h48 (by simp; apply UInt8.toNat_inj.1; exact e)
      simp [dec]; omega
  | succ k ih =>
    intro hk
    have h1 := ih (by omega)
    rw [dec_take l (k + 1) hk, Nat.pow_succ]
    omega
theorem num_cnt (w : List UInt8) (most : Nat) (hm : most ≤ 999999) : numOf w most = if 1 ≤ cnt w big ∧ cnt w big ≤ most then some (cnt w big) else none := by
  by_cases hbad : w = [] ∨ w.head? = some 48 ∨ w.all isDigit = false
  · have h1 : numOf w most = none := by
      unfold numOf
      rw [if_pos]
      rcases hbad with h | h | h
      · exact Or.inl h
      · exact Or.inr (Or.inl h)
      · exact Or.inr (Or.inr (Or.inl h))
    have h2 : cnt w big = 0 := by
      rcases hbad with h | h | h
      · subst h; rfl
      · unfold cnt; rw [if_neg]; rintro ⟨_, _, h3, _⟩; exact h3 h
      · unfold cnt; rw [if_neg]; rintro ⟨h3, _⟩; rw [h] at h3; cases h3
    rw [h1, h2, if_neg (by omega)]
  · simp only [not_or, Bool.not_eq_false] at hbad
    obtain ⟨b1, b2, b3⟩ := hbad
    have hpos : 0 < w.length := List.length_pos_iff.2 b1
    by_cases h6 : w.length ≤ 6
    · have hd := dec_lt w b3
      have ht := ten_six w.length h6
      have hc : cnt w big = dec w := by
        unfold cnt; rw [if_pos ⟨b3, h6, b2, by unfold big; omega⟩]
      have h1 : 1 ≤ dec w := by
        have := dec_ge w b3 b1 b2 0 hpos
        have hmm := dec_mono w 1
        simp at this; omega
      rw [hc]
      unfold numOf
      by_cases hmo : most < dec w
      · rw [if_pos (Or.inr (Or.inr (Or.inr hmo))), if_neg (by omega)]
      · rw [if_neg, if_pos ⟨h1, by omega⟩]
        rintro (h | h | h | h)
        · exact b1 h
        · exact b2 h
        · rw [b3] at h; cases h
        · exact hmo h
    · have hc : cnt w big = 0 := by unfold cnt; rw [if_neg]; rintro ⟨_, h2, _⟩; exact h6 h2
      have hg := dec_ge w b3 b1 b2 6 (by omega)
      have hmm := dec_mono w (6 + 1)
      rw [hc, if_neg (by omega)]
      unfold numOf
      rw [if_pos]
      right; right; right
      have : (10 : Nat) ^ 6 = 1000000 := by decide
      omega
/-- What both sides hold of a formula. -/
structure FQ (F : Form) (q : QS) : Prop where
  order : F.order = q.vars.map (·.1)
  kinds : ∀ x ∈ q.vars, F.all.testBit x.1 = x.2
  nodup : (q.vars.map (·.1)).Nodup
  names : ∀ x ∈ q.vars, 1 ≤ x.1 ∧ x.1 ≤ 8
  cl : F.cl = q.cl
  clen : q.cl.length ≤ 24
  bits : ∀ c ∈ q.cl, Bd c
  vars : ∀ c ∈ q.cl, ∀ v, c.1.testBit v = true ∨ c.2.testBit v = true → v ∈ F.order
/-- What holds of every step. -/
structure SI (F : Form) (c : Nat × Nat) : Prop where
  bd : Bd c
  apart : c.1 &&& c.2 = 0
  vars : ∀ v, c.1.testBit v = true ∨ c.2.testBit v = true → v ∈ F.order
def kd (truth : Bool) : Nat := if truth then 2 else 1

theorem find_mem {F : Form} {q : QS} (h : FQ F q) (v : Nat) : (∃ x, findV q.vars v = some x ∧ x.1 = v ∧ x ∈ q.vars ∧ v ∈ F.order) ∨ (findV q.vars v = none ∧ v ∉ F.order) := by
  cases hf : findV q.vars v with
  | none =>
    right
    refine ⟨rfl, ?_⟩
    unfold findV at hf
    rw [List.find?_eq_none] at hf
    rw [h.order, List.mem_map]
    rintro ⟨x, hx, hxe⟩
    exact hf x hx (by simpa using hxe)
  | some x =>
    left
    unfold findV at hf
    have hm := List.mem_of_find?_eq_some hf
    have he := List.find?_some hf
    have he' : x.1 = v := by simpa using he
    exact ⟨x, rfl, he', hm, by rw [h.order, ← he']; exact List.mem_map_of_mem hm⟩
theorem bitOf_nat (v : Nat) (h1 : 1 ≤ v) (h8 : v ≤ 8) : bitOf (v : Int) = 2 ^ v := by unfold bitOf; rw [if_pos ⟨by omega, by omega⟩]; simp
theorem and_pow_ne (x v : Nat) : (x &&& 2 ^ v != 0) = x.testBit v := by
  rw [bne, show (x &&& 2 ^ v == 0) = !x.testBit v from ?_]
  · simp
  · cases h : x.testBit v with
    | false =>
      have : x &&& 2 ^ v = 0 := by
        apply Nat.eq_of_testBit_eq
        intro i
        rw [Nat.testBit_and, Nat.testBit_two_pow, Nat.zero_testBit]
        by_cases e : v = i
        · subst e; rw [h]; rfl
        · simp [e]
      rw [this]; rfl
    | true =>
      have : x &&& 2 ^ v ≠ 0 := fun e => by
        have h2 : (x &&& 2 ^ v).testBit v = true := by rw [Nat.testBit_and, Nat.testBit_two_pow, h]; simp
        rw [e] at h2; simp at h2
      simpa using this
theorem has_eq (c : Nat × Nat) (v : Nat) (h1 : 1 ≤ v) (h8 : v ≤ 8) : hasVarB c v = hasB c v := by
  unfold hasVarB hasB; rw [bitOf_nat v h1 h8, and_pow_ne]
theorem hasLit_pos (c : Nat × Nat) (v : Nat) (h1 : 1 ≤ v) (h8 : v ≤ 8) : hasLit c v = c.1.testBit v := by
  unfold hasLit; rw [if_neg (by omega), bitOf_nat v h1 h8, and_pow_ne]
theorem hasLit_neg (c : Nat × Nat) (v : Nat) (h1 : 1 ≤ v) (h8 : v ≤ 8) : hasLit c (-(v : Int)) = c.2.testBit v := by
  unfold hasLit; rw [if_pos (by omega), Int.neg_neg, bitOf_nat v h1 h8, and_pow_ne]
theorem pair_ext {a b : Nat × Nat} (h1 : ∀ v, a.1.testBit v = b.1.testBit v) (h2 : ∀ v, a.2.testBit v = b.2.testBit v) : a = b := by
  obtain ⟨a1, a2⟩ := a
  obtain ⟨b1, b2⟩ := b
  have e1 : a1 = b1 := Nat.eq_of_testBit_eq h1
  have e2 : a2 = b2 := Nat.eq_of_testBit_eq h2
  rw [e1, e2]

/-! Reduction -/
theorem lastTo_same (order : List Nat) (kind : Nat) (c c' : Nat × Nat) (k : Nat) (h : ∀ i, i < k → hasB c' (order.getD i 0) = hasB c (order.getD i 0)) : lastTo order kind c' k = lastTo order kind c k := by
  induction k with
  | zero => rfl
  | succ k ih =>
    rw [lastTo, lastTo, h k (by omega), ih (fun i hi => h i (by omega))]
theorem red_eq {F : Form} {q : QS} (h : FQ F q) (hF : FOk F) (truth : Bool) : ∀ (k : Nat), k ≤ q.vars.length → ∀ c, redQ (kd truth) (q.vars.take k).reverse c = ((F.order.take k).drop (lastTo F.order (kindR F truth) c k)).foldl (clr (kindR F truth)) c := by
  intro k
  induction k with
  | zero => intro _ c; simp [redQ]
  | succ k ih =>
    intro hk c
    have hlt : k < q.vars.length := by omega
    have hlen : F.order.length = q.vars.length := by rw [h.order]; simp
    have hlt' : k < F.order.length := by omega
    have hv : F.order[k] = q.vars[k].1 := by simp only [h.order, List.getElem_map]
    have hx := h.names _ (List.getElem_mem hlt)
    have hkind := h.kinds _ (List.getElem_mem hlt)
    have hmem : F.order[k] ∈ F.order := List.getElem_mem hlt'
    have hkb := kind_bit hF truth F.order[k] hmem
    have hgd : F.order.getD k 0 = F.order[k] := getD_at _ _ _ hlt'
    rw [redQ_step _ _ _ hlt, has_eq c _ hx.1 hx.2, ← hv]
    rw [← hv] at hkind
    have hpiv : pivotB (kd truth) q.vars[k].2 = !(kindR F truth).testBit F.order[k] := by
      rw [hkb, hkind]
      unfold pivotB kd
      generalize q.vars[k].2 = u
      cases truth <;> cases u <;> rfl
    rw [hpiv, lastTo, hgd]
    have hsplit : ∀ m, m ≤ k → (F.order.take (k + 1)).drop m = (F.order.take k).drop m ++ [F.order[k]] := fun m hm => by
      rw [List.take_succ_eq_append_getElem hlt', List.drop_append_of_le_length (by simp; omega)]
    have hnk : F.order[k] ∉ F.order.take k := by
      have hn := hF.nodup
      rw [← List.take_append_drop k F.order, List.nodup_append] at hn
      have hkd : F.order[k] ∈ F.order.drop k := by
        have e := List.drop_eq_getElem_cons hlt'
        rw [e]
        exact List.mem_cons_self
      intro hm
      exact hn.2.2 _ hm _ hkd rfl
    cases hh : hasB c F.order[k] with
    | false =>
      simp only [Bool.false_and, Bool.false_eq_true, if_false]
      rw [ih (by omega) c, hsplit _ (lastTo_le _ _ _ _), List.foldl_append]
      have hno : c.1.testBit F.order[k] = false ∧ c.2.testBit F.order[k] = false := by
        unfold hasB at hh; rw [Nat.testBit_or, Bool.or_eq_false_iff] at hh; exact hh
      generalize ((F.order.take k).drop (lastTo F.order (kindR F truth) c k)) = L
      show _ = clr _ (L.foldl _ c) F.order[k]
      apply pair_ext
      · intro v
        rw [(clr_bits _ _ _ _).1, (clrs_bits _ _ _ _).1]
        by_cases e : v = F.order[k]
        · subst e; simp [hno.1]
        · simp [e]
      · intro v
        rw [(clr_bits _ _ _ _).2, (clrs_bits _ _ _ _).2]
        by_cases e : v = F.order[k]
        · subst e; simp [hno.2]
        · simp [e]
    | true =>
      cases hb : (kindR F truth).testBit F.order[k] with
      | false =>
        simp only [Bool.not_false, Bool.and_self, if_true]
        rw [List.drop_eq_nil_of_le (by simp; omega)]
        rfl
      | true =>
        simp only [Bool.not_true, Bool.and_false, Bool.false_eq_true, if_false, if_true]
        have hw : without c (F.order[k] : Int) = clr (kindR F truth) c F.order[k] := by
          unfold without clr
          rw [if_pos hb, bitOf_nat _ (by rw [hv]; exact hx.1) (by rw [hv]; exact hx.2)]
        rw [hw, ih (by omega), hsplit _ (lastTo_le _ _ _ _)]
        have hls : lastTo F.order (kindR F truth) (clr (kindR F truth) c F.order[k]) k = lastTo F.order (kindR F truth) c k := by
          apply lastTo_same
          intro i hi
          have hil : i < F.order.length := by omega
          rw [getD_at _ _ _ hil]
          have hne : F.order[i] ≠ F.order[k] := fun e => hnk (by rw [← e]; exact List.mem_take_iff_getElem.2 ⟨i, by omega, rfl⟩)
          unfold hasB
          rw [Nat.testBit_or, Nat.testBit_or, (clr_bits _ _ _ _).1, (clr_bits _ _ _ _).2]
          simp [hne]
        rw [hls]
        generalize ((F.order.take k).drop (lastTo F.order (kindR F truth) c k)) = L
        apply pair_ext
        · intro v
          rw [(clrs_bits _ _ _ _).1, (clrs_bits _ _ _ _).1, (clr_bits _ _ _ _).1, hb]
          by_cases e : v = F.order[k]
          · subst e; simp [hb]
          · simp [e]
        · intro v
          rw [(clrs_bits _ _ _ _).2, (clrs_bits _ _ _ _).2, (clr_bits _ _ _ _).2, hb]
          by_cases e : v = F.order[k]
          · subst e; simp [hb]
          · simp [e]
theorem redQ_eq {F : Form} {q : QS} (h : FQ F q) (hF : FOk F) (truth : Bool) (c : Nat × Nat) : redQ (kd truth) q.vars.reverse c = redR F.order (kindR F truth) c := by
  have h1 := red_eq h hF truth q.vars.length (Nat.le_refl _) c
  have hlen : F.order.length = q.vars.length := by rw [h.order]; simp
  rw [List.take_length] at h1
  rw [h1, ← hlen, List.take_length]
  rfl

end Go.Proofs.YtgipjjhkhfihpabGreatDoor

namespace Go.Proofs.YtgipjjhkhfihpabGreatDoor
open Go.RowKit

/-! ### Literals of a set -/
def L (c : Nat × Nat) (s : Bool) (v : Nat) : Bool := if s then c.1.testBit v else c.2.testBit v
def litI (v : Nat) (s : Bool) : Int := if s then (v : Int) else -(v : Int)
theorem L_ext {a b : Nat × Nat} (h : ∀ s v, L a s v = L b s v) : a = b := pair_ext (fun v => h true v) (fun v => h false v)
theorem L_zero (s : Bool) (v : Nat) : L (0, 0) s v = false := by cases s <;> simp [L]
theorem L_minus (a b : Nat × Nat) (s : Bool) (v : Nat) : L (minus a b) s v = (L a s v && !L b s v) := by
  cases s <;> simp [L, minus, testBit_less]
theorem L_swap (a : Nat × Nat) (s : Bool) (v : Nat) : L (swapL a) s v = L a (!s) v := by cases s <;> rfl
theorem L_left (c vals : Nat × Nat) (s : Bool) (v : Nat) : L (leftOf c vals) s v = (L c s v && !L vals (!s) v) := by rw [leftOf, L_minus, L_swap]
theorem litI_neg (v : Nat) (s : Bool) : -(litI v s) = litI v (!s) := by cases s <;> simp [litI]
theorem litI_abs (v : Nat) (s : Bool) : (litI v s).natAbs = v := by cases s <;> simp [litI]
theorem litI_inj {v u : Nat} {s t : Bool} (hv : 1 ≤ v) (hu : 1 ≤ u) (h : litI v s = litI u t) : v = u ∧ s = t := by
  cases s <;> cases t <;> simp [litI] at h
  · exact ⟨by omega, rfl⟩
  · omega
  · omega
  · exact ⟨by omega, rfl⟩
theorem L_with (c : Nat × Nat) (v : Nat) (s : Bool) (h1 : 1 ≤ v) (h8 : v ≤ 8) (t : Bool) (u : Nat) : L (withLit c (litI v s)) t u = (L c t u || (t == s && decide (u = v))) := by
  have hb := bitOf_nat v h1 h8
  cases s with
  | true =>
    have e : withLit c (litI v true) = (c.1 ||| 2 ^ v, c.2) := by
      have e0 : litI v true = (v : Int) := rfl
      rw [e0]; unfold withLit; rw [if_neg (by omega), hb]
    rw [e]
    cases t with
    | true => simp only [L, if_true]; rw [bit_or]; simp [eq_comm]
    | false => simp [L]
  | false =>
    have e : withLit c (litI v false) = (c.1, c.2 ||| 2 ^ v) := by
      have e0 : litI v false = -(v : Int) := rfl
      rw [e0]; unfold withLit; rw [if_pos (by omega), Int.neg_neg, hb]
    rw [e]
    cases t with
    | true => simp [L]
    | false => simp only [L, Bool.false_eq_true, if_false]; rw [bit_or]; simp [eq_comm]
theorem hasLit_L (c : Nat × Nat) (v : Nat) (s : Bool) (h1 : 1 ≤ v) (h8 : v ≤ 8) : hasLit c (litI v s) = L c s v := by
  cases s with
  | true => exact hasLit_pos c v h1 h8
  | false => exact hasLit_neg c v h1 h8
theorem hasVar_L (c : Nat × Nat) (v : Nat) (h1 : 1 ≤ v) (h8 : v ≤ 8) : hasVarB c v = (L c true v || L c false v) := by
  rw [has_eq c v h1 h8]; unfold hasB L; rw [Nat.testBit_or]; rfl
theorem L_without (c : Nat × Nat) (v : Nat) (h1 : 1 ≤ v) (h8 : v ≤ 8) (s : Bool) (u : Nat) : L (without c v) s u = (L c s u && !decide (u = v)) := by
  unfold without
  rw [bitOf_nat v h1 h8]
  cases s <;> simp [L, testBit_less, Nat.testBit_two_pow, eq_comm]
theorem L_without2 (a b : Nat × Nat) (v : Nat) (h1 : 1 ≤ v) (h8 : v ≤ 8) (s : Bool) (u : Nat) : L (without2 a b v) s u = ((L a s u || L b s u) && !decide (u = v)) := by
  rw [without2, L_without _ _ h1 h8]
  cases s <;> simp [L]
theorem bits_zero {a : Nat} : a = 0 ↔ ∀ v, a.testBit v = false :=
  ⟨fun h v => by rw [h]; simp, fun h => Nat.eq_of_testBit_eq (fun v => by rw [h v]; simp)⟩
theorem meets_iff (a b : Nat × Nat) : meetsB a b = true ↔ ∃ s v, L a s v = true ∧ L b s v = true := by
  unfold meetsB
  rw [bne_iff_ne]
  constructor
  · intro h
    obtain ⟨v, hv⟩ := some_bit h
    rw [Nat.testBit_or, Nat.testBit_and, Nat.testBit_and, Bool.or_eq_true, Bool.and_eq_true, Bool.and_eq_true] at hv
    rcases hv with hv | hv
    · exact ⟨true, v, hv⟩
    · exact ⟨false, v, hv⟩
  · rintro ⟨s, v, h1, h2⟩ e
    have := bits_zero.1 e v
    rw [Nat.testBit_or, Nat.testBit_and, Nat.testBit_and] at this
    cases s
    · simp only [L, Bool.false_eq_true, if_false] at h1 h2; rw [h1, h2] at this; simp at this
    · simp only [L, if_true] at h1 h2; rw [h1, h2] at this; simp at this
theorem clash_iff (a : Nat × Nat) : clashB a = true ↔ ∃ v, L a true v = true ∧ L a false v = true := by
  unfold clashB
  rw [bne_iff_ne]
  constructor
  · intro h
    obtain ⟨v, hv⟩ := some_bit h
    rw [Nat.testBit_and, Bool.and_eq_true] at hv
    exact ⟨v, hv⟩
  · rintro ⟨v, h1, h2⟩ e
    have := bits_zero.1 e v
    rw [Nat.testBit_and] at this
    simp only [L, Bool.false_eq_true, if_false, if_true] at h1 h2
    rw [h1, h2] at this; simp at this
theorem empty_iff (a : Nat × Nat) : emptyB a = true ↔ ∀ s v, L a s v = false := by
  unfold emptyB
  rw [beq_iff_eq, bits_zero]
  constructor
  · intro h s v
    have := h v
    rw [Nat.testBit_or, Bool.or_eq_false_iff] at this
    cases s
    · exact this.2
    · exact this.1
  · intro h v
    rw [Nat.testBit_or, Bool.or_eq_false_iff]
    exact ⟨h true v, h false v⟩
/-- No variable's literals are both there. -/
def Free (c : Nat × Nat) : Prop := ∀ v, L c true v = true → L c false v = true → False
theorem free_iff (c : Nat × Nat) : clashB c = false ↔ Free c := by
  rw [← Bool.not_eq_true, clash_iff]
  exact ⟨fun h v a b => h ⟨v, a, b⟩, fun h ⟨v, a, b⟩ => h v a b⟩
theorem Free.not {c : Nat × Nat} (h : Free c) {s : Bool} {v : Nat} (h1 : L c s v = true) : L c (!s) v = false := by
  cases h2 : L c (!s) v with
  | false => rfl
  | true =>
    cases s
    · exact (h v h2 h1).elim
    · exact (h v h1 h2).elim
theorem Free.sub {c d : Nat × Nat} (h : Free c) (hs : ∀ s v, L d s v = true → L c s v = true) : Free d := fun v a b => h v (hs _ _ a) (hs _ _ b)
/-- Of literals that are on a path, or turned on it. -/
theorem Free.flip {c d : Nat × Nat} (h : Free c) (k : Bool) (hs : ∀ s v, L d s v = true → L c (s == k) v = true) : Free d := fun v a b => by
  have h1 := hs _ _ a
  have h2 := hs _ _ b
  cases k
  · exact h v h2 h1
  · exact h v h1 h2
/-! ### The list of literals -/
theorem listFrom_mem (c : Nat × Nat) (x : Int) : ∀ (k v : Nat), 1 ≤ v → v + k ≤ 9 → (x ∈ listFrom c k v ↔ ∃ u s, v ≤ u ∧ u < v + k ∧ x = litI u s ∧ L c s u = true) := by
  intro k
  induction k with
  | zero => intro v _ _; simp [listFrom]; intro u h1 h2; omega
  | succ k ih =>
    intro v h1 h9
    rw [listFrom, List.mem_append, List.mem_append, ih (v + 1) (by omega) (by omega)]
    have hp : hasLit c (v : Int) = L c true v := hasLit_L c v true h1 (by omega)
    have hn : hasLit c (-(v : Int)) = L c false v := hasLit_L c v false h1 (by omega)
    rw [hp, hn]
    constructor
    · rintro (h | h | ⟨u, s, h2, h3, h4, h5⟩)
      · split at h
        · next hh => simp at h; exact ⟨v, true, Nat.le_refl _, by omega, by rw [h]; rfl, hh⟩
        · simp at h
      · split at h
        · next hh => simp at h; exact ⟨v, false, Nat.le_refl _, by omega, by rw [h]; rfl, hh⟩
        · simp at h
      · exact ⟨u, s, by omega, by omega, h4, h5⟩
    · rintro ⟨u, s, h2, h3, h4, h5⟩
      by_cases e : u = v
      · subst e
        cases s with
        | true => left; rw [if_pos h5, h4]; simp [litI]
        | false => right; left; rw [if_pos h5, h4]; simp [litI]
      · right; right; exact ⟨u, s, by omega, by omega, h4, h5⟩
theorem listOf_mem (c : Nat × Nat) (x : Int) : x ∈ listOf c ↔ ∃ u s, 1 ≤ u ∧ u ≤ 8 ∧ x = litI u s ∧ L c s u = true := by
  rw [listOf, listFrom_mem c x 8 1 (by omega) (by omega)]
  constructor
  · rintro ⟨u, s, h1, h2, h3⟩; exact ⟨u, s, h1, by omega, h3⟩
  · rintro ⟨u, s, h1, h2, h3⟩; exact ⟨u, s, h1, by omega, h3⟩
theorem L_le8 {c : Nat × Nat} (h : Bd c) {s : Bool} {v : Nat} (hl : L c s v = true) : v ≤ 8 := by
  rcases Nat.lt_or_ge 8 v with h9 | h9
  · exfalso
    have h2 : 512 ≤ 2 ^ v := by
      have : 2 ^ 9 ≤ 2 ^ v := Nat.pow_le_pow_right (by decide) h9
      simpa using this
    cases s
    · have := Nat.testBit_lt_two_pow (x := c.2) (i := v) (by have := h.2; omega)
      simp only [L, Bool.false_eq_true, if_false] at hl; rw [this] at hl; cases hl
    · have := Nat.testBit_lt_two_pow (x := c.1) (i := v) (by have := h.1; omega)
      simp only [L, if_true] at hl; rw [this] at hl; cases hl
  · exact h9
/-- One literal alone. -/
theorem list_one {c : Nat × Nat} (h : (listOf c).length = 1) : ∃ u s, 1 ≤ u ∧ u ≤ 8 ∧ (listOf c).headD 0 = litI u s ∧ L c s u = true ∧ ∀ t v, 1 ≤ v → v ≤ 8 → L c t v = true → v = u ∧ t = s := by
  obtain ⟨x, hx⟩ := List.length_eq_one_iff.1 h
  have hm := (listOf_mem c x).1 (by rw [hx]; simp)
  obtain ⟨u, s, h1, h2, h3, h4⟩ := hm
  refine ⟨u, s, h1, h2, by rw [hx]; exact h3, h4, fun t v h5 h6 h7 => ?_⟩
  have hy := (listOf_mem c (litI v t)).2 ⟨v, t, h5, h6, rfl, h7⟩
  rw [hx, h3] at hy
  simp at hy
  exact litI_inj h5 h1 hy
end Go.Proofs.YtgipjjhkhfihpabGreatDoor

namespace Go.Proofs.YtgipjjhkhfihpabGreatDoor
open Go.RowKit

/-! ### Steps that are made well -/
structure QGood (q : QS) : Prop where
  qb : QB q
  nodup : (q.vars.map (·.1)).Nodup
  vars : ∀ c ∈ q.cl, ∀ s v, L c s v = true → v ∈ q.vars.map (·.1)
structure LOk (q : QS) (c : Nat × Nat) : Prop where
  bd : Bd c
  vars : ∀ s v, L c s v = true → v ∈ q.vars.map (·.1)
theorem lok_zero (q : QS) : LOk q (0, 0) := ⟨⟨by decide, by decide⟩, fun s v h => by rw [L_zero] at h; cases h⟩
theorem QGood.name {q : QS} (hq : QGood q) {v : Nat} (h : v ∈ q.vars.map (·.1)) : 1 ≤ v ∧ v ≤ 8 := by
  obtain ⟨x, hx, rfl⟩ := List.mem_map.1 h
  exact hq.qb.names x hx
def StOk (q : QS) (k : Nat) (p : List Stp) (s : Stp) : Prop :=
  LOk q s.lits ∧ (
  (s.rule = 1 ∧ k = 1 ∧ 1 ≤ s.first ∧ s.first ≤ q.cl.length ∧ s.second = 0 ∧ s.lits = q.cl.getD (s.first - 1) (0, 0)) ∨
  (s.rule = 2 ∧ k = 2 ∧ s.first = 0 ∧ s.second = 0 ∧ Free s.lits ∧ satQ q.cl s.lits = true) ∨
  (s.rule = 3 ∧ (1 ≤ s.first ∧ s.first ≤ p.length) ∧ (1 ≤ s.second ∧ s.second ≤ p.length) ∧ (∃ x ∈ q.vars, x.1 = s.var ∧ pivotB k x.2 = true) ∧ L (litsAt p s.first) true s.var = true ∧ L (litsAt p s.second) false s.var = true ∧ Free (litsAt p s.first) ∧ Free (litsAt p s.second) ∧ Free s.lits ∧ s.lits = without2 (litsAt p s.first) (litsAt p s.second) s.var) ∨
  (s.rule = 4 ∧ (1 ≤ s.first ∧ s.first ≤ p.length) ∧ s.second = 0 ∧ Free (litsAt p s.first) ∧ s.lits = redQ k q.vars.reverse (litsAt p s.first)))
def POk (q : QS) (k : Nat) (p : List Stp) : Prop := ∀ i (h : i < p.length), StOk q k (p.take i) p[i]
theorem pok_nil (q : QS) (k : Nat) : POk q k [] := fun i h => by simp at h
theorem POk.snoc {q : QS} {k : Nat} {p : List Stp} {s : Stp} (h : POk q k p) (hs : StOk q k p s) : POk q k (p ++ [s]) := by
  intro i hi
  by_cases e : i < p.length
  · rw [List.take_append_of_le_length (Nat.le_of_lt e), List.getElem_append_left e]
    exact h i e
  · have e2 : i = p.length := by simp at hi; omega
    subst e2
    rw [List.take_append_of_le_length (Nat.le_refl _), List.take_length]
    simpa using hs
theorem litsAt_append (p x : List Stp) (n : Nat) (h : n ≤ p.length) : litsAt (p ++ x) n = litsAt p n := by
  unfold litsAt
  split
  · rfl
  · rw [List.getElem?_append_left (by omega)]
theorem litsAt_new (p : List Stp) (s : Stp) : litsAt (p ++ [s]) (p.length + 1) = s.lits := by
  rw [litsAt_in _ _ (by simp)]; simp
theorem POk.lok {q : QS} {k : Nat} {p : List Stp} (h : POk q k p) (n : Nat) : LOk q (litsAt p n) := by
  by_cases hn : 1 ≤ n ∧ n ≤ p.length
  · obtain ⟨m, rfl⟩ : ∃ m, n = m + 1 := ⟨n - 1, by omega⟩
    rw [litsAt_in p m (by omega)]
    exact (h m (by omega)).1
  · rw [litsAt_out p n (by omega)]; exact lok_zero q
theorem lok_sub {q : QS} {c d : Nat × Nat} (h : LOk q c) (hb : Bd d) (hs : ∀ s v, L d s v = true → L c s v = true) : LOk q d := ⟨hb, fun s v hv => h.vars s v (hs s v hv)⟩

/-! ### Reduction -/
theorem var_ok {q : QS} (hq : QGood q) (i : Nat) (hi : i < q.vars.length) : 1 ≤ q.vars[i].1 ∧ q.vars[i].1 ≤ 8 := hq.qb.names _ (List.getElem_mem hi)
theorem redQ_sub {q : QS} (hq : QGood q) (k : Nat) : ∀ (n : Nat), n ≤ q.vars.length → ∀ c s v, L (redQ k (q.vars.take n).reverse c) s v = true → L c s v = true := by
  intro n
  induction n with
  | zero => intro _ c s v h; simpa [redQ] using h
  | succ n ih =>
    intro hn c s v h
    have hv := var_ok hq n (by omega)
    rw [redQ_step k q.vars n (by omega)] at h
    split at h
    · split at h
      · exact h
      · have := ih (by omega) _ s v h
        rw [L_without _ _ hv.1 hv.2, Bool.and_eq_true] at this
        exact this.1
    · exact ih (by omega) _ s v h
theorem red_sub {q : QS} (hq : QGood q) (k : Nat) (c : Nat × Nat) (s : Bool) (v : Nat) (h : L (redQ k q.vars.reverse c) s v = true) : L c s v = true := by
  have := redQ_sub hq k q.vars.length (Nat.le_refl _) c s v
  rw [List.take_length] at this
  exact this h
theorem redQ_idem {q : QS} (hq : QGood q) (k : Nat) : ∀ (n : Nat), n ≤ q.vars.length → ∀ c, redQ k (q.vars.take n).reverse (redQ k (q.vars.take n).reverse c) = redQ k (q.vars.take n).reverse c := by
  intro n
  induction n with
  | zero => intro _ c; rfl
  | succ n ih =>
    intro hn c
    have hv := var_ok hq n (by omega)
    have hno : ∀ d, hasVarB d q.vars[n].1 = false → redQ k (q.vars.take (n + 1)).reverse (redQ k (q.vars.take n).reverse d) = redQ k (q.vars.take n).reverse d := by
      intro d hd
      have h2 : hasVarB (redQ k (q.vars.take n).reverse d) q.vars[n].1 = false := by
        rw [hasVar_L _ _ hv.1 hv.2, Bool.or_eq_false_iff] at hd ⊢
        constructor
        · cases h : L (redQ k (q.vars.take n).reverse d) true q.vars[n].1 with
          | false => rfl
          | true => rw [redQ_sub hq k n (by omega) d true _ h] at hd; exact absurd hd.1 (by simp)
        · cases h : L (redQ k (q.vars.take n).reverse d) false q.vars[n].1 with
          | false => rfl
          | true => rw [redQ_sub hq k n (by omega) d false _ h] at hd; exact absurd hd.2 (by simp)
      rw [redQ_step k q.vars n (by omega), h2, if_neg (by decide)]
      exact ih (by omega) d
    conv => lhs; rw [redQ_step k q.vars n (by omega) c]
    conv => rhs; rw [redQ_step k q.vars n (by omega) c]
    cases h1 : hasVarB c q.vars[n].1 with
    | false => simp only [Bool.false_eq_true, if_false]; exact hno c h1
    | true =>
      simp only [if_true]
      cases h2 : pivotB k q.vars[n].2 with
      | true =>
        simp only [if_true]
        rw [redQ_step k q.vars n (by omega) c, h1, h2]; rfl
      | false =>
        simp only [Bool.false_eq_true, if_false]
        apply hno
        rw [hasVar_L _ _ hv.1 hv.2, L_without _ _ hv.1 hv.2, L_without _ _ hv.1 hv.2]
        simp
theorem red_idem {q : QS} (hq : QGood q) (k : Nat) (c : Nat × Nat) : redQ k q.vars.reverse (redQ k q.vars.reverse c) = redQ k q.vars.reverse c := by
  have := redQ_idem hq k q.vars.length (Nat.le_refl _) c
  rwa [List.take_length] at this
/-- What lies further in than d goes, if none of it could be a pivot. -/
theorem redQ_gone {q : QS} (hq : QGood q) (k d : Nat) : ∀ (n : Nat), n ≤ q.vars.length → ∀ c, (∀ i (hi : i < q.vars.length), d ≤ i → i < n → ∀ s, L c s q.vars[i].1 = true → pivotB k q.vars[i].2 = false) → ∀ i (hi : i < q.vars.length), d ≤ i → i < n → ∀ s, L (redQ k (q.vars.take n).reverse c) s q.vars[i].1 = false := by
  intro n
  induction n with
  | zero => intro _ c _ i _ _ h; omega
  | succ n ih =>
    intro hn c hp i hi hd hin s
    have hv := var_ok hq n (by omega)
    rw [redQ_step k q.vars n (by omega)]
    cases h1 : hasVarB c q.vars[n].1 with
    | false =>
      simp only [Bool.false_eq_true, if_false]
      by_cases e : i = n
      · subst e
        rw [hasVar_L _ _ hv.1 hv.2, Bool.or_eq_false_iff] at h1
        cases h : L (redQ k (q.vars.take i).reverse c) s q.vars[i].1 with
        | false => rfl
        | true =>
          have := redQ_sub hq k i (by omega) c s _ h
          cases s
          · rw [h1.2] at this; cases this
          · rw [h1.1] at this; cases this
      · exact ih (by omega) c (fun j hj h2 h3 => hp j hj h2 (by omega)) i hi hd (by omega) s
    | true =>
      simp only [if_true]
      have hpf : pivotB k q.vars[n].2 = false := by
        rw [hasVar_L _ _ hv.1 hv.2, Bool.or_eq_true] at h1
        rcases h1 with h1 | h1
        · exact hp n (by omega) (by omega) (by omega) true h1
        · exact hp n (by omega) (by omega) (by omega) false h1
      rw [hpf]
      simp only [Bool.false_eq_true, if_false]
      by_cases e : i = n
      · subst e
        cases h : L (redQ k (q.vars.take i).reverse (without c q.vars[i].1)) s q.vars[i].1 with
        | false => rfl
        | true =>
          have := redQ_sub hq k i (by omega) _ s _ h
          rw [L_without _ _ hv.1 hv.2] at this
          simp at this
      · refine ih (by omega) _ (fun j hj h2 h3 t ht => ?_) i hi hd (by omega) s
        rw [L_without _ _ hv.1 hv.2, Bool.and_eq_true] at ht
        exact hp j hj h2 (by omega) t ht.1
/-- The innermost variable of what is reduced is a pivot. -/
theorem red_pivot {q : QS} (hq : QGood q) (k d : Nat) (hd : d < q.vars.length) (c : Nat × Nat) (hr : redQ k q.vars.reverse c = c) (hin : ∀ i (hi : i < q.vars.length), d < i → ∀ s, L c s q.vars[i].1 = false) (hh : hasVarB c q.vars[d].1 = true) : pivotB k q.vars[d].2 = true := by
  have key : ∀ n, d + 1 ≤ n → n ≤ q.vars.length → redQ k (q.vars.take n).reverse c = redQ k (q.vars.take (d + 1)).reverse c := by
    intro n
    induction n with
    | zero => intro h; omega
    | succ n ih =>
      intro h1 h2
      by_cases e : n = d
      · subst e; rfl
      · have hv := var_ok hq n (by omega)
        rw [redQ_step k q.vars n (by omega), show hasVarB c q.vars[n].1 = false from by
          rw [hasVar_L _ _ hv.1 hv.2, hin n (by omega) (by omega) true, hin n (by omega) (by omega) false]; rfl]
        simp only [Bool.false_eq_true, if_false]
        exact ih (by omega) (by omega)
  have h1 := key q.vars.length (by omega) (Nat.le_refl _)
  rw [List.take_length, hr, redQ_step k q.vars d hd, hh] at h1
  simp only [if_true] at h1
  cases hp : pivotB k q.vars[d].2 with
  | true => rfl
  | false =>
    rw [hp] at h1
    simp only [Bool.false_eq_true, if_false] at h1
    have hv := var_ok hq d hd
    rw [hasVar_L _ _ hv.1 hv.2, Bool.or_eq_true] at hh
    exfalso
    rcases hh with hh | hh
    · rw [h1] at hh
      have := redQ_sub hq k d (by omega) _ true _ hh
      rw [L_without _ _ hv.1 hv.2] at this
      simp at this
    · rw [h1] at hh
      have := redQ_sub hq k d (by omega) _ false _ hh
      rw [L_without _ _ hv.1 hv.2] at this
      simp at this
theorem redQ_bd {q : QS} (k : Nat) (c : Nat × Nat) (h : Bd c) : Bd (redQ k q.vars.reverse c) := redQ_lt k _ c h
/-- The reduct, added if it is another. -/
theorem redP_ok {q : QS} (hq : QGood q) (k : Nat) (p : List Stp) (n : Nat) (hp : POk q k p) (h1 : 1 ≤ n) (hn : n ≤ p.length) (hf : Free (litsAt p n)) :
    POk q k (redP q k p n).1 ∧ (∃ x, (redP q k p n).1 = p ++ x ∧ x.length ≤ 1 ∧ ∀ s ∈ x, s.rule ≠ 3) ∧ 1 ≤ (redP q k p n).2 ∧ (redP q k p n).2 ≤ (redP q k p n).1.length ∧ litsAt (redP q k p n).1 (redP q k p n).2 = redQ k q.vars.reverse (litsAt p n) := by
  unfold redP
  split
  · next h => exact ⟨hp, ⟨[], by simp, by simp, by simp⟩, h1, hn, h.symm⟩
  · have hl := hp.lok n
    refine ⟨hp.snoc ⟨lok_sub hl (redQ_bd k _ hl.bd) (fun s v => red_sub hq k _ s v), Or.inr (Or.inr (Or.inr ⟨rfl, ⟨h1, hn⟩, rfl, hf, rfl⟩))⟩, ⟨_, rfl, by simp, by simp⟩, by simp, by simp, litsAt_new _ _⟩
end Go.Proofs.YtgipjjhkhfihpabGreatDoor
