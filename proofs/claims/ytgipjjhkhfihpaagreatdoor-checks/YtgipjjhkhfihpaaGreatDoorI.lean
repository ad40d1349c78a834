import Derived.Test.YtgipjjhkhfihpaaGreatDoorF
import Derived.Test.YtgipjjhkhfihpaaGreatDoorD
import Derived.Test.YtgipjjhkhfihpaaGreatDoorH
import Derived.Deep.QuietTactic
import Derived.BigQuiet
namespace Go.Proofs.YtgipjjhkhfihpaaGreatDoor
open Go.RowKit

/-! ### Satisfied -/
def satC (c : Nat × Nat) (t : Nat) : Bool := !((c.1 &&& t == 0) && (less c.2 t == 0))
def satB (cl : List (Nat × Nat)) (t : Nat) : Bool := cl.all (satC · t)
theorem satB_take (cl : List (Nat × Nat)) (t k : Nat) (h : k < cl.length) : satB (cl.take (k + 1)) t = (satB (cl.take k) t && satC cl[k] t) := by
  unfold satB; rw [List.take_succ_eq_append_getElem h, List.all_append]; simp
theorem satB_of (cl : List (Nat × Nat)) (t k : Nat) (h : k < cl.length) (hc : satC cl[k] t = false) : satB cl t = false := by
  unfold satB; rw [List.all_eq_false]; exact ⟨cl[k], List.getElem_mem h, by rw [hc]; decide⟩
theorem nat_beq_zero (n : Nat) : ((n : Int) == 0) = (n == 0) := by
  rw [Bool.eq_iff_iff, beq_iff_eq, beq_iff_eq]; omega

set_option maxRecDepth 100000 in
set_option maxHeartbeats 1600000 in
theorem satisfied_any (lo b t : Nat) (F : Form) (w : World) (hR : RefAt lo w b F) (ht : t < 512) (hcl : ∀ c ∈ F.cl, c.1 < 512 ∧ c.2 < 512) (hl : F.cl.length ≤ 1073741824) :
    Calls Tryz.prog 40 #[.pointer (some ⟨b, 0, none⟩), .int .i64 t] w fun e w' => e = .returned (.bool (satB F.cl t)) ∧ Below w.heap.size w w' := by
  obtain ⟨_, vO, vE, vC, hfb, _, _, hC⟩ := hR
  obtain ⟨aC, cC, rfl⟩ := own_form hC
  have k3 : w.cell? ⟨b, 3, none⟩ = some (.slice aC F.cl.length cC) := by rw [blk_cell hfb]; rfl
  have hbl := blk_lt hfb
  have HCL := hide hcl; clear hcl
  go_enter Tryz.func40, Tryz.ntmps40
  go_wp2_with fail
  go_loopg [5] F.cl.length (fun q i wx => ∃ k : Nat, i = .int .i64 k ∧ k + q = F.cl.length ∧ satB (F.cl.take k) t = true ∧ Below w.heap.size w wx)
  case atStart => exact ⟨0, rfl, by omega, rfl, Below.refl _ _⟩
  case round =>
    obtain ⟨k, rfl, hk, hs, hb⟩ := hrel
    have HS := hide hs; clear hs
    have hbs := hb.size
    have x3 : wr.cell? ⟨b, 3, none⟩ = some (.slice aC F.cl.length cC) := by rw [hb.cell (p := ⟨b, 3, none⟩) hbl]; exact k3
    by_cases hlt : k < F.cl.length
    · obtain ⟨g, cap, hV, hg, hg', _, hcell⟩ := own_pos hC (by omega)
      injection hV with hV _ hV2
      subst hV hV2
      have hgw : g < wr.heap.size := by omega
      obtain ⟨ha, hb'⟩ := pairs_at F.cl k hlt
      have hx0 : wr.cell? ⟨g, k * 2, none⟩ = some (.int .i64 (F.cl[k].1 : Int)) := by rw [hb.cell (p := ⟨g, k * 2, none⟩) hg']; exact hcell _ _ ha
      have hx1 : wr.cell? ⟨g, k * 2 + 1, none⟩ = some (.int .i64 (F.cl[k].2 : Int)) := by rw [hb.cell (p := ⟨g, k * 2 + 1, none⟩) hg']; exact hcell _ _ hb'
      have HT := hide (satB_take F.cl t k hlt)
      have HO := hide (satB_of F.cl t k hlt)
      obtain ⟨hb1, hb2⟩ := unhide HCL _ (List.getElem_mem hlt)
      clear hcell ha hb'
      generalize F.cl[k] = c at *
      obtain ⟨p, n⟩ := c
      dsimp only at hx0 hx1 hb1 hb2
      have h1 : (bits .and .i64 (p : Int) (t : Int) == 0) = (p &&& t == 0) := by rw [i64_and _ _ (by omega) (by omega), nat_beq_zero]
      have h2 : (bits .andNot .i64 (n : Int) (t : Int) == 0) = (less n t == 0) := by rw [i64_andNot _ _ (by omega) (by omega), nat_beq_zero]
      have HC : Hid (satC (p, n) t = !((p &&& t == 0) && (less n t == 0))) := hide rfl
      cases e1 : (p &&& t == 0) with
      | false =>
        rw [e1] at h1
        have HC1 : Hid (satC (p, n) t = true) := hide (by rw [unhide HC, e1]; rfl)
        clear e1
        go_wp2_with fail
        go_roundg (gk - 1)
        case measure => omega
        case rel => exact ⟨k + 1, by go_num, by omega, by rw [unhide HT, unhide HS, unhide HC1]; rfl, hb⟩
      | true =>
        rw [e1] at h1
        cases e2 : (less n t == 0) with
        | false =>
          rw [e2] at h2
          have HC1 : Hid (satC (p, n) t = true) := hide (by rw [unhide HC, e1, e2]; rfl)
          clear e1 e2
          go_wp2_with fail
          go_roundg (gk - 1)
          case measure => omega
          case rel => exact ⟨k + 1, by go_num, by omega, by rw [unhide HT, unhide HS, unhide HC1]; rfl, hb⟩
        | true =>
          rw [e2] at h2
          have HF : Hid (satB F.cl t = false) := hide (unhide HO (by rw [unhide HC, e1, e2]; rfl))
          clear e1 e2
          go_wp2_with fail
          go_ret
          exact ⟨ret_bool (unhide HF).symm, hb⟩
    · have hkl : k = F.cl.length := by omega
      subst hkl
      have hs := unhide HS
      rw [List.take_length] at hs
      have HF := hide hs; clear hs
      go_wp2_with fail
      go_ret
      exact ⟨ret_bool (unhide HF).symm, hb⟩
end Go.Proofs.YtgipjjhkhfihpaaGreatDoor

namespace Go.Proofs.YtgipjjhkhfihpaaGreatDoor
open Go.RowKit

theorem bits_apart {a b : Nat} (h : a &&& b = 0) (v : Nat) (ha : a.testBit v = true) (hb : b.testBit v = true) : False := by
  have : (a &&& b).testBit v = true := by rw [Nat.testBit_and, ha, hb]; rfl
  rw [h] at this; simp at this
theorem apart_bits {a b : Nat} (h : ∀ v, a.testBit v = true → b.testBit v = true → False) : a &&& b = 0 := by
  apply Nat.eq_of_testBit_eq
  intro v
  rw [Nat.testBit_and, Nat.zero_testBit]
  cases ha : a.testBit v with
  | false => rfl
  | true =>
    cases hb : b.testBit v with
    | false => rfl
    | true => exact (h v ha hb).elim
theorem some_bit {a : Nat} (h : a ≠ 0) : ∃ v, a.testBit v = true := by
  apply Classical.byContradiction
  intro hn
  apply h
  apply Nat.eq_of_testBit_eq
  intro v
  rw [Nat.zero_testBit]
  cases hv : a.testBit v with
  | false => rfl
  | true => exact (hn ⟨v, hv⟩).elim

theorem getD_at {α : Type} (l : List α) (k : Nat) (d : α) (h : k < l.length) : l.getD k d = l[k] := by
  rw [List.getD, List.getElem?_eq_getElem h]; rfl
/-- What is so of a formula that was read. -/
structure FOk (F : Form) : Prop where
  nodup : F.order.Nodup
  names : ∀ v ∈ F.order, 1 ≤ v ∧ v ≤ 8
  bits : ∀ c ∈ F.cl, Bd c
  vars : ∀ c ∈ F.cl, ∀ v, c.1.testBit v = true ∨ c.2.testBit v = true → v ∈ F.order

theorem good_ax {F : Form} (hF : FOk F) {c : Nat × Nat} (hc : c ∈ F.cl) (ha : c.1 &&& c.2 = 0) : Good (satB F.cl) F.all true F.order c := by
  refine ⟨fun v h1 h2 => bits_apart ha v h1 h2, hF.vars c hc, fun t ht => ?_⟩
  have hs := ht.leaf
  unfold satB at hs
  rw [List.all_eq_true] at hs
  have hs := hs c hc
  unfold satC at hs
  rw [Bool.not_eq_true', Bool.and_eq_false_iff, beq_eq_false_iff_ne, beq_eq_false_iff_ne] at hs
  rcases hs with hs | hs
  · obtain ⟨v, hv⟩ := some_bit hs
    rw [Nat.testBit_and, Bool.and_eq_true] at hv
    exact ⟨v, Or.inl hv⟩
  · obtain ⟨v, hv⟩ := some_bit hs
    rw [testBit_less, Bool.and_eq_true, Bool.not_eq_true'] at hv
    exact ⟨v, Or.inr hv⟩
theorem good_cube {F : Form} {c : Nat × Nat} (h1 : ∀ v, c.1.testBit v = true → c.2.testBit v = true → False) (h2 : ∀ v, c.1.testBit v = true ∨ c.2.testBit v = true → v ∈ F.order) (h3 : satR F.cl c = true) : Good (satB F.cl) F.all false F.order c := by
  refine ⟨h1, h2, fun t ht => ?_⟩
  have hs := ht.leaf
  unfold satB at hs
  rw [List.all_eq_false] at hs
  obtain ⟨x, hx, hs⟩ := hs
  have hs : satC x t = false := by simpa using hs
  unfold satC at hs
  rw [Bool.not_eq_false', Bool.and_eq_true, beq_iff_eq, beq_iff_eq] at hs
  obtain ⟨hp, hn⟩ := hs
  have hp' : ∀ v, x.1.testBit v = true → t.testBit v = false := fun v hv => by
    cases ht : t.testBit v with
    | false => rfl
    | true => exact (bits_apart hp v hv ht).elim
  have hn' : ∀ v, x.2.testBit v = true → t.testBit v = true := fun v hv => by
    cases ht : t.testBit v with
    | true => rfl
    | false =>
      have : (less x.2 t).testBit v = true := by rw [testBit_less, hv, ht]; rfl
      rw [hn] at this; simp at this
  unfold satR at h3
  rw [List.all_eq_true] at h3
  have hm := h3 x hx
  unfold missed at hm
  rw [Bool.not_eq_true', Bool.and_eq_false_iff, Bool.and_eq_false_iff, beq_eq_false_iff_ne, beq_eq_false_iff_ne, beq_eq_false_iff_ne] at hm
  rcases hm with hm | hm | hm
  · obtain ⟨v, hv⟩ := some_bit hm
    rw [Nat.testBit_and, Bool.and_eq_true] at hv
    have a1 := hp' v hv.1
    rw [hn' v hv.2] at a1; cases a1
  · obtain ⟨v, hv⟩ := some_bit hm
    rw [Nat.testBit_and, Bool.and_eq_true] at hv
    exact ⟨v, Or.inl ⟨hv.2, hp' v hv.1⟩⟩
  · obtain ⟨v, hv⟩ := some_bit hm
    rw [Nat.testBit_and, Bool.and_eq_true] at hv
    exact ⟨v, Or.inr ⟨hv.2, by rw [hn' v hv.1]; rfl⟩⟩

/-! ### Cubes -/
theorem litInto_form (c : Nat × Nat) (w : List UInt8) (h : (litInto c w).2 = true) : 1 ≤ litVar w ∧ ((litInto c w).1 = (c.1, c.2 ||| 2 ^ litVar w) ∨ (litInto c w).1 = (c.1 ||| 2 ^ litVar w, c.2)) := by
  unfold litInto at h ⊢
  split at h
  · next r =>
    have h' : 0 < dig r := of_decide_eq_true h
    have hd : dig (45 :: r) = 0 := by
      cases r with
      | nil => rfl
      | cons a b => rfl
    have e : litVar (45 :: r) = (dig r).toNat := by unfold litVar; rw [if_pos hd]; rfl
    rw [e]
    exact ⟨by omega, Or.inl rfl⟩
  · next hw =>
    have h' : 0 < dig w := of_decide_eq_true h
    have e : litVar w = (dig w).toNat := by unfold litVar; rw [if_neg (by omega)]
    rw [e]
    exact ⟨by omega, Or.inr rfl⟩
structure CI (order : List Nat) (c : Nat × Nat) (last : Nat) : Prop where
  apart : ∀ v, c.1.testBit v = true → c.2.testBit v = true → False
  vars : ∀ v, c.1.testBit v = true ∨ c.2.testBit v = true → v ≤ last ∧ v ∈ order
theorem cubeTo_ci (order : List Nat) (ws : List (List UInt8)) : ∀ c last c', CI order c last → cubeTo order c last ws = some c' → ∃ last', CI order c' last' := by
  induction ws with
  | nil => intro c last c' h e; simp [cubeTo] at e; subst e; exact ⟨last, h⟩
  | cons w ws ih =>
    intro c last c' h e
    rw [cubeTo] at e
    split at e
    · next hc =>
      obtain ⟨h1, h2, h3⟩ := hc
      refine ih _ _ _ ?_ e
      obtain ⟨_, hf⟩ := litInto_form c w h1
      have hno1 : c.1.testBit (litVar w) = false := by
        cases hh : c.1.testBit (litVar w) with
        | false => rfl
        | true => have := (h.vars _ (Or.inl hh)).1; omega
      have hno2 : c.2.testBit (litVar w) = false := by
        cases hh : c.2.testBit (litVar w) with
        | false => rfl
        | true => have := (h.vars _ (Or.inr hh)).1; omega
      rcases hf with hf | hf
      · rw [hf]
        constructor
        · intro v a b
          have b : (c.2 ||| 2 ^ litVar w).testBit v = true := b
          rw [bit_or, Bool.or_eq_true] at b
          rcases b with b | b
          · exact h.apart v a b
          · have : litVar w = v := of_decide_eq_true b
            subst this
            have a : c.1.testBit (litVar w) = true := a
            rw [hno1] at a; cases a
        · intro v a
          rcases a with a | a
          · have := h.vars v (Or.inl a); exact ⟨by omega, this.2⟩
          · have a : (c.2 ||| 2 ^ litVar w).testBit v = true := a
            rw [bit_or, Bool.or_eq_true] at a
            rcases a with a | a
            · have := h.vars v (Or.inr a); exact ⟨by omega, this.2⟩
            · have : litVar w = v := of_decide_eq_true a
              subst this; exact ⟨Nat.le_refl _, h3⟩
      · rw [hf]
        constructor
        · intro v a b
          have a : (c.1 ||| 2 ^ litVar w).testBit v = true := a
          rw [bit_or, Bool.or_eq_true] at a
          rcases a with a | a
          · exact h.apart v a b
          · have : litVar w = v := of_decide_eq_true a
            subst this
            have b : c.2.testBit (litVar w) = true := b
            rw [hno2] at b; cases b
        · intro v a
          rcases a with a | a
          · have a : (c.1 ||| 2 ^ litVar w).testBit v = true := a
            rw [bit_or, Bool.or_eq_true] at a
            rcases a with a | a
            · have := h.vars v (Or.inl a); exact ⟨by omega, this.2⟩
            · have : litVar w = v := of_decide_eq_true a
              subst this; exact ⟨Nat.le_refl _, h3⟩
          · have := h.vars v (Or.inr a); exact ⟨by omega, this.2⟩
    · cases e

/-! ### Reduction -/
theorem lastTo_le (order : List Nat) (kind : Nat) (c : Nat × Nat) (k : Nat) : lastTo order kind c k ≤ k := by
  induction k with
  | zero => exact Nat.le_refl _
  | succ k ih => rw [lastTo]; split <;> omega
theorem lastTo_past (order : List Nat) (kind : Nat) (c : Nat × Nat) (k i : Nat) (h1 : lastTo order kind c k ≤ i) (h2 : i < k) : hasB c (order.getD i 0) = true → kind.testBit (order.getD i 0) = true := by
  induction k with
  | zero => omega
  | succ k ih =>
    rw [lastTo] at h1
    split at h1
    · omega
    · next hc =>
      by_cases hk : i = k
      · subst hk
        intro hh
        rw [hh] at hc
        cases hb : kind.testBit (order.getD i 0) with
        | true => rfl
        | false => rw [hb] at hc; simp at hc
      · exact ih h1 (by omega)
theorem clr_bits (kind : Nat) (c : Nat × Nat) (u v : Nat) : (clr kind c u).1.testBit v = (c.1.testBit v && !(decide (v = u) && kind.testBit u)) ∧ (clr kind c u).2.testBit v = (c.2.testBit v && !(decide (v = u) && kind.testBit u)) := by
  unfold clr
  cases hk : kind.testBit u with
  | false => simp
  | true =>
    have e : ∀ a : Nat, (less a (2 ^ u)).testBit v = (a.testBit v && !(decide (v = u) && true)) := fun a => by
      rw [testBit_less, Nat.testBit_two_pow, Bool.and_true]
      by_cases h : u = v
      · subst h; simp
      · simp [h, Ne.symm h]
    exact ⟨e _, e _⟩
theorem clrs_bits (kind : Nat) (l : List Nat) (v : Nat) : ∀ c : Nat × Nat, (l.foldl (clr kind) c).1.testBit v = (c.1.testBit v && !(decide (v ∈ l) && kind.testBit v)) ∧ (l.foldl (clr kind) c).2.testBit v = (c.2.testBit v && !(decide (v ∈ l) && kind.testBit v)) := by
  induction l with
  | nil => intro c; simp
  | cons u l ih =>
    intro c
    have h1 := ih (clr kind c u)
    have h2 := clr_bits kind c u v
    rw [List.foldl_cons, h1.1, h1.2, h2.1, h2.2]
    by_cases hv : v = u
    · subst hv
      cases kind.testBit v <;> cases decide (v ∈ l) <;> simp
    · have e : decide (v ∈ u :: l) = decide (v ∈ l) := by simp [hv]
      rw [e]; simp [hv]
theorem bits510 (v : Nat) (h1 : 1 ≤ v) (h2 : v ≤ 8) : (510 : Nat).testBit v = true := by
  have : ∀ v : Fin 9, 1 ≤ v.val → (510 : Nat).testBit v.val = true := by decide
  exact this ⟨v, by omega⟩ h1
theorem kind_bit {F : Form} (hF : FOk F) (truth : Bool) (v : Nat) (hv : v ∈ F.order) : (kindR F truth).testBit v = (F.all.testBit v == !truth) := by
  have hn := hF.names v hv
  unfold kindR
  cases truth with
  | false => simp
  | true =>
    rw [if_pos rfl, testBit_less, bits510 v hn.1 hn.2]
    cases F.all.testBit v <;> rfl
theorem good_reductR {F : Form} (hF : FOk F) (truth : Bool) {c : Nat × Nat} (hg : Good (satB F.cl) F.all (!truth) F.order c) : Good (satB F.cl) F.all (!truth) F.order (redR F.order (kindR F truth) c) := by
  generalize hm : lastTo F.order (kindR F truth) c F.order.length = m
  have hml : m ≤ F.order.length := by rw [← hm]; exact lastTo_le _ _ _ _
  have e : F.order = F.order.take m ++ F.order.drop m := (List.take_append_drop m F.order).symm
  have hsub : ∀ v, v ∈ F.order.drop m → v ∈ F.order := fun v hv => List.mem_of_mem_drop hv
  have hb := clrs_bits (kindR F truth) (F.order.drop m)
  have hk : ∀ v, (decide (v ∈ F.order.drop m) && (kindR F truth).testBit v) = (decide (v ∈ F.order.drop m) && (F.all.testBit v == !truth)) := fun v => by
    by_cases hv : v ∈ F.order.drop m
    · rw [kind_bit hF truth v (hsub v hv)]
    · simp [hv]
  unfold redR
  rw [hm]
  have hg2 := hg
  rw [e] at hg2 ⊢
  have hd : (F.order.take m ++ F.order.drop m).drop m = F.order.drop m := by rw [List.take_append_drop]
  rw [hd]
  refine good_reduced hg2 (by rw [← e]; exact hF.nodup) ?_ ?_ ?_
  · intro v hv hc
    obtain ⟨i, hi, rfl⟩ := List.getElem_of_mem hv
    rw [List.getElem_drop]
    have hi' : m + i < F.order.length := by simp at hi; omega
    have hp := lastTo_past F.order (kindR F truth) c F.order.length (m + i) (by omega) hi'
    rw [getD_at _ _ _ hi'] at hp
    have hh : hasB c F.order[m + i] = true := by
      unfold hasB
      rw [Nat.testBit_or, Bool.or_eq_true]
      rw [List.getElem_drop] at hc
      exact hc
    have hk2 := hp hh
    rw [kind_bit hF truth _ (List.getElem_mem hi')] at hk2
    simpa using hk2
  · intro v; rw [(hb v c).1, hk]
  · intro v; rw [(hb v c).2, hk]

/-! ### Steps -/
theorem good_stepR {F : Form} (hF : FOk F) (truth : Bool) (ss : List (Nat × Nat)) (hd : List UInt8) (tl : List (List UInt8)) (c : Nat × Nat) (hS : ∀ c ∈ ss, Good (satB F.cl) F.all (!truth) F.order c) (h : stepR F truth ss hd tl = some c) : Good (satB F.cl) F.all (!truth) F.order c := by
  have hget : ∀ i, 1 ≤ i → i ≤ ss.length → Good (satB F.cl) F.all (!truth) F.order (ss.getD (i - 1) (0, 0)) := fun i h1 h2 => by
    have : i - 1 < ss.length := by omega
    rw [getD_at _ _ _ this]
    exact hS _ (List.getElem_mem this)
  unfold stepR at h
  split at h
  · next hc =>
    obtain ⟨_, ht, _⟩ := hc
    subst ht
    unfold axR at h
    split at h
    · cases h
    · next hk =>
      obtain ⟨rfl, ha⟩ := apartO_some h
      have : cnt (tl.getD 0 []) big - 1 < F.cl.length := by omega
      rw [getD_at _ _ _ this] at ha ⊢
      exact good_ax hF (List.getElem_mem this) ha
  · split at h
    · next hc =>
      obtain ⟨_, ht⟩ := hc
      subst ht
      unfold cubeR at h
      cases hq : cubeTo F.order (0, 0) 0 tl with
      | none => rw [hq] at h; cases h
      | some c' =>
        rw [hq] at h
        simp only [Option.bind_some] at h
        split at h
        · next hs =>
          simp at h; subst h
          obtain ⟨last, hci⟩ := cubeTo_ci _ _ (0, 0) 0 _ ⟨by simp, by simp⟩ hq
          exact good_cube hci.apart (fun v hv => (hci.vars v hv).2) hs
        · cases h
    · split at h
      · unfold resR at h
        split at h
        · cases h
        · next hr =>
          split at h
          · cases h
          · next hr2 =>
            obtain ⟨rfl, ha⟩ := apartO_some h
            simp only [not_or, Bool.not_eq_false] at hr hr2
            refine good_resolved (hget _ (by omega) (by omega)) (hget _ (by omega) (by omega)) hr2.2.1 hr2.2.2 ?_ ?_ (fun v h1 h2 => bits_apart ha v h1 h2)
            · intro v
              show (less _ _ ||| _).testBit v = _
              rw [Nat.testBit_or, testBit_less, Nat.testBit_two_pow]
              simp only [eq_comm]
            · intro v
              show (_ ||| less _ _).testBit v = _
              rw [Nat.testBit_or, testBit_less, Nat.testBit_two_pow]
              simp only [eq_comm]
      · split at h
        · unfold reductR at h
          split at h
          · cases h
          · next hr =>
            have h := Option.some.inj h
            subst h
            exact good_reductR hF truth (hget _ (by omega) (by omega))
        · cases h
theorem good_rows {F : Form} (hF : FOk F) (truth : Bool) (rs : List (List UInt8)) : ∀ (ss : List (Nat × Nat)) (n : Nat) (ss' : List (Nat × Nat)), (∀ c ∈ ss, Good (satB F.cl) F.all (!truth) F.order c) → rowsR F truth ss n rs = .inl ss' → ∀ c ∈ ss', Good (satB F.cl) F.all (!truth) F.order c := by
  induction rs with
  | nil => intro ss n ss' h e; simp [rowsR] at e; subst e; exact h
  | cons r rs ih =>
    intro ss n ss' h e
    rw [rowsR] at e
    cases hl : lineR F truth ss r with
    | none => rw [hl] at e; cases e
    | some c =>
      rw [hl] at e
      refine ih _ _ _ ?_ e
      intro c' hc'
      rcases List.mem_append.1 hc' with hc' | hc'
      · exact h c' hc'
      · simp at hc'; subst hc'
        unfold lineR at hl
        split at hl
        · cases hl
        · split at hl
          · cases hl
          · exact good_stepR hF truth ss _ _ _ h hl
/-- WHAT IS PROVED IS SO. -/
theorem proves_sound {F : Form} (hF : FOk F) (l : List UInt8) (truth : Bool) (two : Nat) (h : provesR F l = .inr (truth, two)) : fromL (satB F.cl) F.all F.order 0 = truth := by
  unfold provesR at h
  split at h
  · cases h
  · split at h
    · cases h
    · next r0 rs hrows =>
      split at h
      · split at h
        · cases h
        · next ss hss =>
          split at h
          · next hc =>
            have h' : (r0 == sTrue) = truth := by injection h with h; injection h
            rw [h'] at hss
            have hg := good_rows hF truth rs [] 1 ss (by simp) hss
            have he := hc.2
            unfold emptyLast at he
            split at he
            · cases he
            · next c hlast =>
              have hc0 : c.1 ||| c.2 = 0 := by simpa using he
              have hm : c ∈ ss := List.mem_of_getLast? hlast
              have h1 : c.1 = 0 := by
                apply Nat.eq_of_testBit_eq; intro v
                have : (c.1 ||| c.2).testBit v = false := by rw [hc0]; simp
                rw [Nat.testBit_or, Bool.or_eq_false_iff] at this
                rw [this.1]; simp
              have h2 : c.2 = 0 := by
                apply Nat.eq_of_testBit_eq; intro v
                have : (c.1 ||| c.2).testBit v = false := by rw [hc0]; simp
                rw [Nat.testBit_or, Bool.or_eq_false_iff] at this
                rw [this.2]; simp
              have := good_empty (hg c hm) hF.nodup h1 h2
              rw [this]; simp
          · cases h
      · cases h

/-! ### When a clause is satisfied -/
theorem satC_iff (c : Nat × Nat) (t : Nat) : satC c t = true ↔ ∃ v, (c.1.testBit v = true ∧ t.testBit v = true) ∨ (c.2.testBit v = true ∧ t.testBit v = false) := by
  unfold satC
  rw [Bool.not_eq_true', Bool.and_eq_false_iff, beq_eq_false_iff_ne, beq_eq_false_iff_ne]
  constructor
  · rintro (h | h)
    · obtain ⟨v, hv⟩ := some_bit h
      rw [Nat.testBit_and, Bool.and_eq_true] at hv
      exact ⟨v, Or.inl hv⟩
    · obtain ⟨v, hv⟩ := some_bit h
      rw [testBit_less, Bool.and_eq_true, Bool.not_eq_true'] at hv
      exact ⟨v, Or.inr hv⟩
  · rintro ⟨v, h | h⟩
    · left
      intro e
      have : (c.1 &&& t).testBit v = true := by rw [Nat.testBit_and, h.1, h.2]; rfl
      rw [e] at this; simp at this
    · right
      intro e
      have : (less c.2 t).testBit v = true := by rw [testBit_less, h.1, h.2]; rfl
      rw [e] at this; simp at this
theorem satB_iff (cs : List (Nat × Nat)) (t : Nat) : satB cs t = true ↔ ∀ c ∈ cs, satC c t = true := by unfold satB; rw [List.all_eq_true]
end Go.Proofs.YtgipjjhkhfihpaaGreatDoor

namespace Go.Proofs.YtgipjjhkhfihpaaGreatDoor
open Go.RowKit

theorem ints_at (l : List Nat) (k : Nat) (h : k < l.length) : (ints l)[k]? = some (.int .i64 (l[k] : Int)) := by
  unfold ints; rw [List.getElem?_map, List.getElem?_eq_getElem h]; rfl

/-! ### place -/
set_option maxRecDepth 100000 in
set_option maxHeartbeats 800000 in
theorem place_any (lo b v : Nat) (F : Form) (w : World) (hR : RefAt lo w b F) (hl : F.order.length ≤ 8) :
    Calls Tryz.prog 129 #[.pointer (some ⟨b, 0, none⟩), .int .i64 v] w fun e w' => (∃ p : Int, e = .returned (.int .i64 p) ∧ decide (p < 0) = !decide (v ∈ F.order)) ∧ w' = w := by
  obtain ⟨_, vO, vE, vC, hfb, hO, _, _⟩ := hR
  obtain ⟨aO, cO, rfl⟩ := own_form hO
  have k0 : w.cell? ⟨b, 0, none⟩ = some (.slice aO F.order.length cO) := by rw [blk_cell hfb]; rfl
  go_enter Tryz.func129, Tryz.ntmps129
  go_wp2_with fail
  go_loopg [5] F.order.length (fun m i wx => ∃ k : Nat, i = .int .i64 k ∧ k + m = F.order.length ∧ v ∉ F.order.take k ∧ wx = w)
  case atStart => exact ⟨0, rfl, by omega, by simp, rfl⟩
  case round =>
    obtain ⟨k, rfl, hk, hno, hwr⟩ := hrel
    subst hwr
    have HNO := hide hno; clear hno
    by_cases hlt : k < F.order.length
    · obtain ⟨g, cap, hV, hg, hg', _, hcell⟩ := own_pos hO (by omega)
      injection hV with hV _ hV2
      subst hV hV2
      have hx : wr.cell? ⟨g, k, none⟩ = some (.int .i64 (F.order[k] : Int)) := hcell _ _ (ints_at _ _ hlt)
      have HT : Hid (F.order.take (k + 1) = F.order.take k ++ [F.order[k]]) := hide (List.take_succ_eq_append_getElem hlt)
      have HM : Hid (F.order[k] ∈ F.order) := hide (List.getElem_mem hlt)
      clear hcell
      generalize F.order[k] = u at *
      by_cases hv : u = v
      · have hvb : ((u : Int) == (v : Int)) = true := by rw [beq_iff_eq]; omega
        have HV := hide hv
        clear hv
        go_wp2_with fail
        go_ret
        refine ⟨⟨_, rfl, ?_⟩, rfl⟩
        have hm : v ∈ F.order := unhide HV ▸ unhide HM
        simp [hm]
      · have hvb : ((u : Int) == (v : Int)) = false := by rw [beq_eq_false_iff_ne]; omega
        have HV := hide hv
        clear hv
        go_wp2_with fail
        go_roundg (gk - 1)
        case measure => omega
        case rel =>
          refine ⟨k + 1, by go_num, by omega, ?_, rfl⟩
          rw [unhide HT]
          intro hm
          rcases List.mem_append.1 hm with hm | hm
          · exact unhide HNO hm
          · simp at hm; exact unhide HV hm.symm
    · have hkl : k = F.order.length := by omega
      have HF : Hid (v ∉ F.order) := hide (by have := unhide HNO; rw [hkl, List.take_length] at this; exact this)
      subst hkl
      go_wp2_with fail
      go_ret
      exact ⟨⟨_, rfl, by simp [unhide HF]⟩, rfl⟩

/-! ### count -/
theorem dec_lt (l : List UInt8) (h : l.all isDigit = true) : dec l < 10 ^ l.length := by
  suffices hh : ∀ (n : Nat) (l : List UInt8), l.length = n → l.all isDigit = true → dec l < 10 ^ n from hh _ l rfl h
  intro n
  induction n with
  | zero => intro l hl _; rw [List.eq_nil_of_length_eq_zero hl]; decide
  | succ n ih =>
    intro l hl ha
    have hlt : n < l.length := by omega
    have hall : (l.take n).all isDigit = true := by
      rw [List.all_eq_true] at ha ⊢
      exact fun x hx => ha x (List.mem_of_mem_take hx)
    have h1 := ih (l.take n) (by simp; omega) hall
    have h2 := dec_take l n hlt
    rw [show l.take (n + 1) = l from by rw [← hl]; exact List.take_length] at h2
    have hd : isDigit l[n] = true := by rw [List.all_eq_true] at ha; exact ha _ (List.getElem_mem hlt)
    have hd' : 48 ≤ l[n].toNat ∧ l[n].toNat ≤ 57 := of_decide_eq_true hd
    rw [h2, Nat.pow_succ]
    omega
theorem ten_six (k : Nat) (h : k ≤ 6) : 10 ^ k ≤ 1000000 := by
  have := Nat.pow_le_pow_right (n := 10) (by omega) h
  simpa using this

attribute [local go_sem] ba_get

set_option maxRecDepth 100000 in
set_option maxHeartbeats 1600000 in
theorem count_any (l : List UInt8) (most : Nat) (w : World) (hl : l.length ≤ 1048576) (_hm : most ≤ 1048576) :
    Calls Tryz.prog 105 #[.string ⟨l.toArray⟩, .int .i64 most] w fun e w' => e = .returned (.int .i64 (cnt l most : Nat)) ∧ w' = w := by
  go_enter Tryz.func105, Tryz.ntmps105
  go_wp2_with fail
  go_loopg [5, 6] (l.length) (fun m n i wx => ∃ k : Nat, i = .int .i64 k ∧ k + m = l.length ∧ k ≤ 6 ∧ n = .int .i64 (dec (l.take k) : Nat) ∧ (l.take k).all isDigit = true ∧ (1 ≤ k → l.head? ≠ some 48) ∧ wx = w)
  case atStart => exact ⟨0, rfl, by omega, by omega, rfl, rfl, fun h => by omega, rfl⟩
  case round =>
    obtain ⟨k, rfl, hkm, hk6, rfl, hall, hhead, hwr⟩ := hrel
    subst hwr
    have HA := hide hall
    have HH := hide hhead
    have hdl := dec_lt _ hall
    have h10 := ten_six k hk6
    have hn : dec (l.take k) < 1000000 := by
      have e : (l.take k).length = k := by simp; omega
      rw [e] at hdl; omega
    clear hall hhead hdl h10
    by_cases hlt : k < l.length
    · have hdl : decide ((k : Int) < (l.length : Int)) = true := by simp; omega
      have HDT := hide (dec_take l k hlt)
      generalize dec (l.take k) = n at *
      have hb8 : l[k].toNat < 256 := UInt8.toNat_lt l[k]
      have hbad : Hid (∀ h : k < l.length, isDigit l[k] = false → cnt l most = 0) := hide (fun h hd => by
        unfold cnt
        rw [if_neg]
        rintro ⟨h1, _⟩
        rw [List.all_eq_true] at h1
        rw [h1 _ (List.getElem_mem h)] at hd; cases hd)
      by_cases hd : isDigit l[k] = true
      · have hd1 : 48 ≤ l[k].toNat ∧ l[k].toNat ≤ 57 := of_decide_eq_true hd
        have HD := hide hd
        have hq1 : decide ((l[k].toNat : Int) < 48) = false := by simp; omega
        have hq2 : decide ((57 : Int) < (l[k].toNat : Int)) = false := by simp; omega
        clear hd
        by_cases h5 : 5 < k
        · have hq3 : decide ((5 : Int) < (k : Int)) = true := by simp; omega
          have HC : Hid (cnt l most = 0) := hide (by unfold cnt; rw [if_neg]; rintro ⟨_, h2, _⟩; omega)
          clear h5
          go_wp2_with fail
          go_ret
          exact ⟨ret_int (by rw [unhide HC]; rfl), rfl⟩
        · have hq3 : decide ((5 : Int) < (k : Int)) = false := by simp; omega
          by_cases hk0 : k = 0
          · have hq4 : ((k : Int) == 0) = true := by rw [beq_iff_eq]; omega
            have h0 : 0 < l.length := by omega
            have hhd : l.head? = some l[0] := by rw [List.head?_eq_getElem?, List.getElem?_eq_getElem h0]
            by_cases hc : l[0] = 48
            · have hq5 : ((l[0].toNat : Int) == 48) = true := by rw [hc]; rfl
              have HC : Hid (cnt l most = 0) := hide (by unfold cnt; rw [if_neg]; rintro ⟨_, _, h3, _⟩; exact h3 (by rw [hhd, hc]))
              clear hc hhd h5 hk0
              go_wp2_with fail
              go_ret
              exact ⟨ret_int (by rw [unhide HC]; rfl), rfl⟩
            · have hq5 : ((l[0].toNat : Int) == 48) = false := by
                rw [beq_eq_false_iff_ne]; intro e; exact hc (by apply UInt8.toNat_inj.1; show _ = 48; omega)
              have HHD : Hid (l.head? ≠ some 48) := hide (by rw [hhd]; simpa using hc)
              have h5' : k + 1 ≤ 6 := by omega
              clear hc hhd h5 hk0
              go_wp2_with fail
              go_roundg (gk - 1)
              case measure => omega
              case rel =>
                refine ⟨k + 1, by go_num, by omega, h5', ?_, ?_, fun _ => unhide HHD, rfl⟩
                · rw [unhide HDT]; exact congrArg (Value.int .i64) (by omega)
                · rw [List.take_succ_eq_append_getElem hlt, List.all_append, unhide HA]; simp [unhide HD]
          · have hq4 : ((k : Int) == 0) = false := by rw [beq_eq_false_iff_ne]; omega
            have HHD : Hid (l.head? ≠ some 48) := hide (unhide HH (by omega))
            have h5' : k + 1 ≤ 6 := by omega
            clear h5 hk0
            go_wp2_with fail
            go_roundg (gk - 1)
            case measure => omega
            case rel =>
              refine ⟨k + 1, by go_num, by omega, h5', ?_, ?_, fun _ => unhide HHD, rfl⟩
              · rw [unhide HDT]; exact congrArg (Value.int .i64) (by omega)
              · rw [List.take_succ_eq_append_getElem hlt, List.all_append, unhide HA]; simp [unhide HD]
      · have hdf : isDigit l[k] = false := by simpa using hd
        have HC : Hid (cnt l most = 0) := hide (unhide hbad hlt hdf)
        have hd1 : ¬ (48 ≤ l[k].toNat ∧ l[k].toNat ≤ 57) := of_decide_eq_false hdf
        clear hd hdf
        by_cases hlo : l[k].toNat < 48
        · have hq1 : decide ((l[k].toNat : Int) < 48) = true := by simp; omega
          clear hd1
          go_wp2_with fail
          go_ret
          exact ⟨ret_int (by rw [unhide HC]; rfl), rfl⟩
        · have hq1 : decide ((l[k].toNat : Int) < 48) = false := by simp; omega
          have hq2 : decide ((57 : Int) < (l[k].toNat : Int)) = true := by simp; omega
          clear hd1
          go_wp2_with fail
          go_ret
          exact ⟨ret_int (by rw [unhide HC]; rfl), rfl⟩
    · have hkl : k = l.length := by omega
      subst hkl
      have HT : Hid (l.take l.length = l) := hide List.take_length
      have hA := unhide HA
      rw [unhide HT] at hA hn
      have HHD : Hid (l.head? ≠ some 48) := hide (by
        by_cases h1 : 1 ≤ l.length
        · exact unhide HH h1
        · have : l = [] := List.eq_nil_of_length_eq_zero (by omega)
          rw [this]; simp)
      have HAA := hide hA
      clear hA
      have hE : Value.int .i64 (dec (l.take l.length) : Nat) = Value.int .i64 (dec l : Nat) := by rw [unhide HT]
      rw [unhide HT]
      have hdl : decide ((l.length : Int) < (l.length : Int)) = false := by simp
      clear hE
      by_cases hmo : most < dec l
      · have hq : decide (most < dec l) = true := by simp; omega
        have HC : Hid (cnt l most = 0) := hide (by unfold cnt; rw [if_neg]; rintro ⟨_, _, _, h4⟩; omega)
        clear hmo
        go_wp2_with fail
        go_ret
        exact ⟨ret_int (by rw [unhide HC]; rfl), rfl⟩
      · have hq : decide (most < dec l) = false := by simp; omega
        have HC : Hid (cnt l most = dec l) := hide (by unfold cnt; rw [if_pos ⟨unhide HAA, hk6, unhide HHD, by omega⟩])
        clear hmo
        go_wp2_with fail
        go_ret
        exact ⟨ret_int (by rw [unhide HC]), rfl⟩
end Go.Proofs.YtgipjjhkhfihpaaGreatDoor

namespace Go.Proofs.YtgipjjhkhfihpaaGreatDoor
open Go.RowKit

/-! ### reduced -/
theorem shr_bit_zero (a v : Nat) (ha : a < 512) (hv : v ≤ 8) : (bits .and .i64 ((a : Int) / 2 ^ v) 1 == 0) = !a.testBit v := by
  rw [shr_bit a v ha hv]; cases a.testBit v <;> rfl
theorem new_at {w : World} {o : Obj} {n : Nat} (h : n = w.heap.size) : (w.alloc o).heap[n]? = some o := by subst h; exact heap_alloc_new w o
theorem less_bit (a v : Nat) (ha : a < 512) (hv : v ≤ 8) : bits .andNot .i64 (a : Int) (wrap64 (2 ^ v)) = ((less a (2 ^ v) : Nat) : Int) := by
  have h := shl_one (v : Int) (by omega) (by omega)
  rw [Int.toNat_natCast] at h
  have hp := pow_bd v hv
  rw [h]
  exact i64_andNot _ _ (by omega) (by omega)
theorem lastTo_succ (order : List Nat) (kind : Nat) (c : Nat × Nat) (k v : Nat) (h : k < order.length) (hv : order[k] = v) : lastTo order kind c (k + 1) = if hasB c v && !kind.testBit v then k + 1 else lastTo order kind c k := by
  rw [lastTo]
  have : order.getD k 0 = v := by rw [List.getD, List.getElem?_eq_getElem h, hv]; rfl
  rw [this]
theorem lastTo_bound (order : List Nat) (kind : Nat) (c : Nat × Nat) (k : Nat) : lastTo order kind c k ≤ k := by
  induction k with
  | zero => exact Nat.le_refl _
  | succ k ih => rw [lastTo]; split <;> omega
def redTo (order : List Nat) (kind m : Nat) (c : Nat × Nat) (j : Nat) : Nat × Nat := ((order.drop m).take j).foldl (clr kind) c
theorem redTo_succ (order : List Nat) (kind m : Nat) (c : Nat × Nat) (j v : Nat) (h : m + j < order.length) (hv : order[m + j] = v) : redTo order kind m c (j + 1) = clr kind (redTo order kind m c j) v := by
  unfold redTo
  have hj : j < (order.drop m).length := by simp; omega
  rw [List.take_succ_eq_append_getElem hj, List.foldl_append, List.getElem_drop, hv]; rfl
theorem redTo_bd (order : List Nat) (kind m : Nat) (c : Nat × Nat) (j : Nat) (h : Bd c) : Bd (redTo order kind m c j) := clrs_bd kind _ c h
theorem redTo_end (order : List Nat) (kind : Nat) (c : Nat × Nat) (j : Nat) (h : lastTo order kind c order.length + j = order.length) : redTo order kind (lastTo order kind c order.length) c j = redR order kind c := by
  unfold redTo redR
  rw [List.take_of_length_le (by simp; omega)]

set_option maxRecDepth 100000 in
set_option maxHeartbeats 3200000 in
theorem reduced_any (lo b p0 n0 kind : Nat) (F : Form) (w : World) (hR : RefAt lo w b F) (hl : F.order.length ≤ 8) (hnm : ∀ v ∈ F.order, v ≤ 8) (hk : kind < 512) (hp0 : p0 < 512) (hn0 : n0 < 512) :
    Calls Tryz.prog 107 #[.pointer (some ⟨b, 0, none⟩), .agg #[.int .i64 (p0 : Int), .int .i64 (n0 : Int)], .int .i64 kind] w fun e w' =>
      e = .returned (.agg #[.int .i64 ((redR F.order kind (p0, n0)).1 : Int), .int .i64 ((redR F.order kind (p0, n0)).2 : Int)]) ∧ Below w.heap.size w w' := by
  obtain ⟨_, vO, vE, vC, hfb, hO, _, _⟩ := hR
  obtain ⟨aO, cO, rfl⟩ := own_form hO
  have hbw := blk_lt hfb
  have k0 : w.cell? ⟨b, 0, none⟩ = some (.slice aO F.order.length cO) := by rw [blk_cell hfb]; rfl
  have HNM := hide hnm; clear hnm
  have hor : bits .or .i64 (p0 : Int) (n0 : Int) = ((p0 ||| n0 : Nat) : Int) := i64_or _ _ (by omega) (by omega)
  have hol := or_lt p0 n0 hp0 hn0
  go_enter Tryz.func107, Tryz.ntmps107
  go_wp2_with fail
  go_loopg [7, 8] F.order.length (fun m la i wx => ∃ k : Nat, i = .int .i64 k ∧ la = .int .i64 ((lastTo F.order kind (p0, n0) k : Int) - 1) ∧ k + m = F.order.length ∧ Below w.heap.size w wx ∧ wx.heap[w.heap.size]? = some (.cells #[.int .i64 p0, .int .i64 n0] 121 (0, 0)) ∧ wx.heap[w.heap.size + 1]? = some (.cells #[.int .i64 0, .int .i64 0] 121 (0, 0)))
  case atStart => exact ⟨0, rfl, rfl, by omega, ((Below.refl _ _).alloc (Nat.le_refl _) _).alloc (by simp) _, by rw [heap_alloc_old _ _ (by simp)]; exact heap_alloc_new _ _, new_at (by simp)⟩
  case round =>
    obtain ⟨k, rfl, rfl, hkm, hb, hc, hr⟩ := hrel
    have hbs := blk_lt hr
    have c0 : wr.cell? ⟨w.heap.size, 0, none⟩ = some (.int .i64 p0) := by rw [blk_cell hc]; rfl
    have c1 : wr.cell? ⟨w.heap.size, 1, none⟩ = some (.int .i64 n0) := by rw [blk_cell hc]; rfl
    have x0 : wr.cell? ⟨b, 0, none⟩ = some (.slice aO F.order.length cO) := by rw [hb.cell (p := ⟨b, 0, none⟩) hbw]; exact k0
    have hlb := lastTo_bound F.order kind (p0, n0) k
    by_cases hlt : k < F.order.length
    · obtain ⟨g, cap, hV, hg, hg', _, hcell⟩ := own_pos hO (by omega)
      injection hV with hV _ hV2
      subst hV hV2
      have hx : wr.cell? ⟨g, k, none⟩ = some (.int .i64 (F.order[k] : Int)) := by rw [hb.cell (p := ⟨g, k, none⟩) hg']; exact hcell _ _ (ints_at _ _ hlt)
      have hv8 := unhide HNM _ (List.getElem_mem hlt)
      have HS := hide (lastTo_succ F.order kind (p0, n0) k F.order[k] hlt rfl)
      clear hcell
      generalize F.order[k] = v at *
      generalize lastTo F.order kind (p0, n0) k = la at *
      have e1 := shr_bit_eq (p0 ||| n0) v hol hv8
      have e2 := shr_bit_zero kind v hk hv8
      have HB : Hid (hasB (p0, n0) v = (p0 ||| n0).testBit v) := hide rfl
      cases h1 : (p0 ||| n0).testBit v with
      | false =>
        rw [h1] at e1
        have HL : Hid (lastTo F.order kind (p0, n0) (k + 1) = la) := hide (by rw [unhide HS, unhide HB, h1]; rfl)
        go_wp2_with fail
        go_roundg (gk - 1)
        case measure => omega
        case rel => exact ⟨k + 1, by go_num, by rw [unhide HL], by omega, hb, hc, hr⟩
      | true =>
        rw [h1] at e1
        cases h2 : kind.testBit v with
        | false =>
          rw [h2] at e2
          have HL : Hid (lastTo F.order kind (p0, n0) (k + 1) = k + 1) := hide (by rw [unhide HS, unhide HB, h1, h2]; rfl)
          go_wp2_with fail
          go_roundg (gk - 1)
          case measure => omega
          case rel => exact ⟨k + 1, by go_num, by rw [unhide HL]; exact congrArg (Value.int .i64) (by omega), by omega, hb, hc, hr⟩
        | true =>
          rw [h2] at e2
          have HL : Hid (lastTo F.order kind (p0, n0) (k + 1) = la) := hide (by rw [unhide HS, unhide HB, h1, h2]; rfl)
          go_wp2_with fail
          go_roundg (gk - 1)
          case measure => omega
          case rel => exact ⟨k + 1, by go_num, by rw [unhide HL], by omega, hb, hc, hr⟩
    · have hkl : k = F.order.length := by omega
      subst hkl
      have HE := hide (redTo_end F.order kind (p0, n0))
      have HT := hide (redTo_succ F.order kind (lastTo F.order kind (p0, n0) F.order.length) (p0, n0))
      have HBD := hide (fun j => redTo_bd F.order kind (lastTo F.order kind (p0, n0) F.order.length) (p0, n0) j ⟨hp0, hn0⟩)
      have HR0 : Hid (redTo F.order kind (lastTo F.order kind (p0, n0) F.order.length) (p0, n0) 0 = (p0, n0)) := hide rfl
      generalize lastTo F.order kind (p0, n0) F.order.length = m at *
      obtain ⟨wo, rfl⟩ : ∃ wo, wo = wr := ⟨_, rfl⟩
      go_wp2_with fail
      go_loopg [10] F.order.length (fun q i wx => ∃ (j p n : Nat), i = .int .i64 ((m + j : Nat) : Int) ∧ m + j + q = F.order.length + m ∧ m + j ≤ F.order.length ∧ redTo F.order kind m (p0, n0) j = (p, n) ∧ Below w.heap.size w wx ∧ wx.heap[w.heap.size]? = some (.cells #[.int .i64 p, .int .i64 n] 121 (0, 0)) ∧ wx.heap[w.heap.size + 1]? = some (.cells #[.int .i64 0, .int .i64 0] 121 (0, 0)))
      case atStart => exact ⟨0, p0, n0, by go_num, by omega, by omega, unhide HR0, hb, hc, hr⟩
      case round =>
        obtain ⟨j, p, n, rfl, hjq, hjl, hred, hb2, hc2, hr2⟩ := hrel
        have hbd := unhide HBD j
        rw [hred] at hbd
        have HRED := hide hred
        clear hred
        have hbs2 := blk_lt hr2
        have hbs3 : w.heap.size < wr.heap.size := by omega
        have c20 : wr.cell? ⟨w.heap.size, 0, none⟩ = some (.int .i64 p) := by rw [blk_cell hc2]; rfl
        have c21 : wr.cell? ⟨w.heap.size, 1, none⟩ = some (.int .i64 n) := by rw [blk_cell hc2]; rfl
        have r20 : wr.cell? ⟨w.heap.size + 1, 0, none⟩ = some (.int .i64 0) := by rw [blk_cell hr2]; rfl
        have r21 : wr.cell? ⟨w.heap.size + 1, 1, none⟩ = some (.int .i64 0) := by rw [blk_cell hr2]; rfl
        have z0 := blk_free hc2 0
        have z1 := blk_free hc2 1
        have y0 := blk_free hr2 0
        have y1 := blk_free hr2 1
        have x20 : wr.cell? ⟨b, 0, none⟩ = some (.slice aO F.order.length cO) := by rw [hb2.cell (p := ⟨b, 0, none⟩) hbw]; exact k0
        have hp9 : p < 512 := hbd.1
        have hn9 : n < 512 := hbd.2
        clear hbd
        by_cases hlt2 : m + j < F.order.length
        · obtain ⟨g, cap, hV, hg, hg', _, hcell⟩ := own_pos hO (by omega)
          injection hV with hV _ hV2
          subst hV hV2
          have hx : wr.cell? ⟨g, m + j, none⟩ = some (.int .i64 (F.order[m + j] : Int)) := by rw [hb2.cell (p := ⟨g, m + j, none⟩) hg']; exact hcell _ _ (ints_at _ _ hlt2)
          have hv8 := unhide HNM _ (List.getElem_mem hlt2)
          have HS := hide (unhide HT j F.order[m + j] hlt2 rfl)
          clear hcell
          generalize F.order[m + j] = v at *
          have e2 := shr_bit_eq kind v hk hv8
          have l1 := less_bit p v hp9 hv8
          have l2 := less_bit n v hn9 hv8
          cases h2 : kind.testBit v with
          | false =>
            rw [h2] at e2
            have HL : Hid (redTo F.order kind m (p0, n0) (j + 1) = (p, n)) := hide (by rw [unhide HS, unhide HRED]; unfold clr; rw [h2]; rfl)
            go_wp2_with fail
            go_roundg (gk - 1)
            case measure => omega
            case rel => exact ⟨j + 1, p, n, by go_num, by omega, by omega, unhide HL, hb2, hc2, hr2⟩
          | true =>
            rw [h2] at e2
            have HL : Hid (redTo F.order kind m (p0, n0) (j + 1) = (less p (2 ^ v), less n (2 ^ v))) := hide (by rw [unhide HS, unhide HRED]; unfold clr; rw [h2]; rfl)
            go_wp2_with fail
            go_region
            all_goals go_wp2_with fail
            all_goals go_region
            all_goals go_wp2_with fail
            go_roundg (gk - 1)
            case measure => omega
            case rel =>
              refine ⟨j + 1, less p (2 ^ v), less n (2 ^ v), by go_num, by omega, by omega, unhide HL, (((hb2.setCell (p := ⟨w.heap.size, 0, none⟩) (Nat.le_refl _) _).setCell (p := ⟨w.heap.size, 1, none⟩) (Nat.le_refl _) _).drew).drew, blk_set (blk_set hc2 0 _) 1 _, ?_⟩
              show ((wr.setCell ⟨w.heap.size, 0, none⟩ (.int .i64 (less p (2 ^ v) : Nat))).setCell ⟨w.heap.size, 1, none⟩ (.int .i64 (less n (2 ^ v) : Nat))).heap[w.heap.size + 1]? = _
              rw [Below.heap_setCell _ _ _ _ (by simp), Below.heap_setCell _ _ _ _ (by simp)]
              exact hr2
        · have HF : Hid (redR F.order kind (p0, n0) = (p, n)) := hide (by rw [← unhide HE j (by omega)]; exact unhide HRED)
          have hR := blk_set (blk_set hr2 0 (.int .i64 p)) 1 (.int .i64 n)
          have j0 := blk_cell hR 0
          have j1 := blk_cell hR 1
          go_wp2_with fail
          refine bodyPost_ret (v := .agg #[.int .i64 p, .int .i64 n]) (by simp [results, Tryz.results107, go_sem, j0, j1]) rfl ⟨by rw [unhide HF], ?_⟩
          exact (hb2.setCell (p := ⟨w.heap.size + 1, 0, none⟩) (Nat.le_succ _) _).setCell (p := ⟨w.heap.size + 1, 1, none⟩) (Nat.le_succ _) _
end Go.Proofs.YtgipjjhkhfihpaaGreatDoor

namespace Go.Proofs.YtgipjjhkhfihpaaGreatDoor
open Go.RowKit

/-! ### cube -/
theorem satR_take (cl : List (Nat × Nat)) (c : Nat × Nat) (k : Nat) (h : k < cl.length) : satR (cl.take (k + 1)) c = (satR (cl.take k) c && !missed cl[k] c) := by
  unfold satR; rw [List.take_succ_eq_append_getElem h, List.all_append]; simp
theorem satR_of (cl : List (Nat × Nat)) (c : Nat × Nat) (k : Nat) (h : k < cl.length) (hc : missed cl[k] c = true) : satR cl c = false := by
  unfold satR; rw [List.all_eq_false]; exact ⟨cl[k], List.getElem_mem h, by rw [hc]; decide⟩
/-- A clause, or that it is none; c is whatever. -/
def RStPost (res : Option (Nat × Nat)) (w : World) (e : Ending) (w' : World) : Prop :=
  Below w.heap.size w w' ∧ ∃ (c : Nat × Nat) (ok : Bool), e = .returned (.tuple #[.agg #[.int .i64 (c.1 : Int), .int .i64 (c.2 : Int)], .bool ok]) ∧ ((ok = true ∧ res = some c) ∨ (ok = false ∧ res = none))
theorem RStPost.none_ {res : Option (Nat × Nat)} {w w' : World} {e : Ending} (hb : Below w.heap.size w w') (h : res = none) (c : Nat × Nat) (he : e = .returned (.tuple #[.agg #[.int .i64 (c.1 : Int), .int .i64 (c.2 : Int)], .bool false])) : RStPost res w e w' :=
  ⟨hb, c, false, he, Or.inr ⟨rfl, h⟩⟩
theorem RStPost.some_ {res : Option (Nat × Nat)} {w w' : World} {e : Ending} (hb : Below w.heap.size w w') (c : Nat × Nat) (h : res = some c) (he : e = .returned (.tuple #[.agg #[.int .i64 (c.1 : Int), .int .i64 (c.2 : Int)], .bool true])) : RStPost res w e w' :=
  ⟨hb, c, true, he, Or.inl ⟨rfl, h⟩⟩
/-- What holds of a formula that was read, for the walks. -/
structure FW (F : Form) : Prop where
  len : F.order.length ≤ 8
  names : ∀ v ∈ F.order, v ≤ 8
  cl : F.cl.length ≤ 24
  bits : ∀ c ∈ F.cl, c.1 < 512 ∧ c.2 < 512
  all : F.all < 512

theorem lit_var (c : Nat × Nat) (x : List UInt8) : (litInto c x).2 = true → litVar x = if dig x = 0 then (dig x.tail).toNat else (dig x).toNat := fun _ => rfl
theorem dig_tail (c : Nat × Nat) (x : List UInt8) : (litInto c x).2 = true → dig x = 0 → ∃ r, x = 45 :: r ∧ 0 < dig r := by
  intro h h0
  unfold litInto at h
  split at h
  · next r => exact ⟨r, rfl, of_decide_eq_true h⟩
  · have : 0 < dig x := of_decide_eq_true h
    omega

set_option maxRecDepth 100000 in
set_option maxHeartbeats 3200000 in
theorem cube_any (lo b : Nat) (F : Form) (ws : List (List UInt8)) (ao : Option Addr) (cap : Nat) (w : World) (hR : RefAt lo w b F) (hF : FW F) (hs : StrsAt w ao ws) (hl : ws.length ≤ 1048576) (hws : ∀ x ∈ ws, x.length ≤ 1048576) :
    Calls Tryz.prog 106 #[.pointer (some ⟨b, 0, none⟩), .slice ao ws.length cap] w fun e w' => RStPost (cubeR F ws) w e w' := by
  have hR0 := hR
  obtain ⟨_, vO, vE, vC, hfb, _, _, hC⟩ := hR
  obtain ⟨aC, cC, rfl⟩ := own_form hC
  have hbw := blk_lt hfb
  have k3 : w.cell? ⟨b, 3, none⟩ = some (.slice aC F.cl.length cC) := by rw [blk_cell hfb]; rfl
  have HWS := hide hws; clear hws
  have HSP : Hid (cubeR F ws = (cubeTo F.order (0, 0) 0 ws).bind (fun c => if satR F.cl c then some c else none)) := hide rfl
  go_enter Tryz.func106, Tryz.ntmps106
  go_wp2_with fail
  go_loopg [7, 8] ws.length (fun m la i wx => ∃ (j p n last : Nat), i = .int .i64 j ∧ la = .int .i64 last ∧ j + m = ws.length ∧ p < 512 ∧ n < 512 ∧ last ≤ 8 ∧ cubeTo F.order (0, 0) 0 ws = cubeTo F.order (p, n) last (ws.drop j) ∧ Below w.heap.size w wx ∧
      wx.heap[w.heap.size]? = some (.cells #[.int .i64 0, .int .i64 0] 121 (0, 0)) ∧ wx.heap[w.heap.size + 1]? = some (.cells #[.int .i64 p, .int .i64 n] 121 (0, 0)))
  case atStart => exact ⟨0, 0, 0, 0, rfl, rfl, by omega, by omega, by omega, by omega, rfl, ((Below.refl _ _).alloc (Nat.le_refl _) _).alloc (by simp) _, by rw [heap_alloc_old _ _ (by simp)]; exact heap_alloc_new _ _, new_at (by simp)⟩
  case round =>
    obtain ⟨j, p, n, last, rfl, rfl, hj, hp, hn, hla, hto, hb, hres, hcub⟩ := hrel
    have hbs := blk_lt hcub
    have hbs0 : w.heap.size < wr.heap.size := by omega
    have hbw1 : b < wr.heap.size := by omega
    have r0 : wr.cell? ⟨w.heap.size, 0, none⟩ = some (.int .i64 0) := by rw [blk_cell hres]; rfl
    have r1 : wr.cell? ⟨w.heap.size, 1, none⟩ = some (.int .i64 0) := by rw [blk_cell hres]; rfl
    have z0 := blk_free hres 0
    have z1 := blk_free hres 1
    have c0 : wr.cell? ⟨w.heap.size + 1, 0, none⟩ = some (.int .i64 p) := by rw [blk_cell hcub]; rfl
    have c1 : wr.cell? ⟨w.heap.size + 1, 1, none⟩ = some (.int .i64 n) := by rw [blk_cell hcub]; rfl
    by_cases hlt : j < ws.length
    · obtain ⟨g, off, cur, rfl, hg, hcur⟩ := hs (by intro e; subst e; simp at hlt)
      have hgw := blk_lt hg
      have hgw1 : g < wr.heap.size := by omega
      have hcj : wr.cell? ⟨g, off + j, none⟩ = some (S ws[j]) := by
        rw [hb.cell (p := ⟨g, off + j, none⟩) hgw, blk_cell hg]; exact hcur j hlt
      have HCJ : Hid (∀ wx : World, Below w.heap.size w wx → wx.cell? ⟨g, off + j, none⟩ = some (S ws[j])) := hide (fun wx hx => by
        rw [hx.cell (p := ⟨g, off + j, none⟩) hgw, blk_cell hg]; exact hcur j hlt)
      have hwl := unhide HWS _ (List.getElem_mem hlt)
      rw [List.drop_eq_getElem_cons hlt, cubeTo] at hto
      have HTO := hide hto; clear hto hcur
      generalize ws[j] = x at *
      go_wp2_with fail
      refine (literal_any x (w.heap.size + 1) p n wr hcub hp hn).mono ?_
      rintro e w1 ⟨rfl, hcub1, ho1⟩
      have hlt2 := litInto_lt (p, n) x hp hn
      have HFO := hide (lit_var (p, n) x)
      have HDT := hide (dig_tail (p, n) x)
      have hB1 : Below w.heap.size w w1 := hb.trans (ho1.below hb.size (fun k hk h => by omega))
      have hres1 : w1.heap[w.heap.size]? = some (.cells #[.int .i64 0, .int .i64 0] 121 (0, 0)) := (ho1.block _ hbs0 (by omega)).trans hres
      have HX1 := hide (unhide HCJ w1 hB1)
      have hx1 := unhide HX1
      generalize (litInto (p, n) x).1 = c' at *
      obtain ⟨p', n'⟩ := c'
      dsimp only at *
      go_wp2_with fail
      refine (digit_any x w1).mono ?_
      rintro e w2 ⟨rfl, hb2⟩
      have hB2 : Below w.heap.size w w2 := hB1.trans (hb2.mono hB1.size)
      have hres2 := (hb2.block _ (blk_lt hres1)).trans hres1
      have hcub2 := (hb2.block _ (blk_lt hcub1)).trans hcub1
      have hx2 := unhide HCJ w2 hB2
      have r20 : w2.cell? ⟨w.heap.size, 0, none⟩ = some (.int .i64 0) := by rw [blk_cell hres2]; rfl
      have r21 : w2.cell? ⟨w.heap.size, 1, none⟩ = some (.int .i64 0) := by rw [blk_cell hres2]; rfl
      have z20 := blk_free hres2 0
      have z21 := blk_free hres2 1
      have c20 : w2.cell? ⟨w.heap.size + 1, 0, none⟩ = some (.int .i64 p') := by rw [blk_cell hcub2]; rfl
      have c21 : w2.cell? ⟨w.heap.size + 1, 1, none⟩ = some (.int .i64 n') := by rw [blk_cell hcub2]; rfl
      obtain ⟨d0, d1⟩ := dig_bd x
      obtain ⟨dn, hdn⟩ := Int.eq_ofNat_of_zero_le d0
      rw [hdn]
      have hdn8 : dn ≤ 8 := by omega
      have HDN := hide hdn
      clear hdn d0 d1
      cases hok : (litInto (p, n) x).2 with
      | false =>
        have HF : Hid (cubeR F ws = none) := hide (by rw [unhide HSP, unhide HTO, if_neg (fun h => by rw [hok] at h; cases h.1)]; rfl)
        go_wp2_with fail
        refine (place_any lo b dn F w2 (hR0.later hB2) hF.len).mono ?_
        rintro e w4 ⟨⟨pl, rfl, _⟩, hw4⟩
        subst hw4
        have hRm := blk_set (blk_set hres2 0 (.int .i64 p')) 1 (.int .i64 n')
        have jm0 := blk_cell hRm 0
        have jm1 := blk_cell hRm 1
        go_wp2_with fail
        refine bodyPost_ret (v := .tuple #[.agg #[.int .i64 p', .int .i64 n'], .bool false]) (by simp [results, Tryz.results106, go_sem, jm0, jm1]) rfl (RStPost.none_ ?_ (unhide HF) (p', n') rfl)
        exact (hB2.setCell (p := ⟨w.heap.size, 0, none⟩) (Nat.le_refl _) _).setCell (p := ⟨w.heap.size, 1, none⟩) (Nat.le_refl _) _
      | true =>
        have HOK := hide hok
        by_cases hdz : dn = 0
        · have hdb : ((dn : Int) == 0) = true := by rw [beq_iff_eq]; omega
          obtain ⟨r, hxr, hdr⟩ := unhide HDT hok (by rw [unhide HDN]; omega)
          have hxr2 : 1 ≤ x.length := by rw [hxr]; simp
          obtain ⟨f0, f1⟩ := dig_bd r
          obtain ⟨vn, hvn⟩ := Int.eq_ofNat_of_zero_le f0
          have hvn8 : vn ≤ 8 := by omega
          have HLV : Hid (litVar x = vn) := hide (by rw [unhide HFO hok, unhide HDN, if_pos (by omega), hxr]; show (dig r).toNat = vn; rw [hvn]; rfl)
          have HEX : Hid (List.take (x.length - 1) (List.drop 1 x) = r) := hide (by rw [hxr]; simp)
          have HVN := hide hvn
          clear hxr hdr hvn f0 f1 hok hdz
          go_wp2_with fail
          rw [ba_extract, unhide HEX]
          refine (digit_any r w2).mono ?_
          rintro e w3 ⟨rfl, hb3⟩
          rw [unhide HVN]
          have hB3 : Below w.heap.size w w3 := hB2.trans (hb3.mono hB2.size)
          have hres3 := (hb3.block _ (blk_lt hres2)).trans hres2
          have hcub3 := (hb3.block _ (blk_lt hcub2)).trans hcub2
          have r30 : w3.cell? ⟨w.heap.size, 0, none⟩ = some (.int .i64 0) := by rw [blk_cell hres3]; rfl
          have r31 : w3.cell? ⟨w.heap.size, 1, none⟩ = some (.int .i64 0) := by rw [blk_cell hres3]; rfl
          have z30 := blk_free hres3 0
          have z31 := blk_free hres3 1
          have c30 : w3.cell? ⟨w.heap.size + 1, 0, none⟩ = some (.int .i64 p') := by rw [blk_cell hcub3]; rfl
          have c31 : w3.cell? ⟨w.heap.size + 1, 1, none⟩ = some (.int .i64 n') := by rw [blk_cell hcub3]; rfl
          have HIF : Hid (cubeTo F.order (0, 0) 0 ws = if last < vn ∧ vn ∈ F.order then cubeTo F.order (p', n') vn (ws.drop (j + 1)) else none) := hide (by
            rw [unhide HTO, unhide HLV]
            by_cases hcnd : last < vn ∧ vn ∈ F.order
            · rw [if_pos ⟨unhide HOK, hcnd.1, hcnd.2⟩, if_pos hcnd]
            · rw [if_neg (fun h => hcnd h.2), if_neg hcnd])
          go_wp2_with fail
          refine (place_any lo b vn F w3 (hR0.later hB3) hF.len).mono ?_
          rintro e w4 ⟨⟨pl, rfl, hpl⟩, hw4⟩
          subst hw4
          by_cases hle : vn ≤ last
          · have hdl : decide (vn ≤ last) = true := by simp; omega
            have HF : Hid (cubeR F ws = none) := hide (by rw [unhide HSP, unhide HIF, if_neg (by omega)]; rfl)
            clear hle
            have hRm := blk_set (blk_set hres3 0 (.int .i64 p')) 1 (.int .i64 n')
            have jm0 := blk_cell hRm 0
            have jm1 := blk_cell hRm 1
            go_wp2_with fail
            refine bodyPost_ret (v := .tuple #[.agg #[.int .i64 p', .int .i64 n'], .bool false]) (by simp [results, Tryz.results106, go_sem, jm0, jm1]) rfl (RStPost.none_ ?_ (unhide HF) (p', n') rfl)
            exact (hB3.setCell (p := ⟨w.heap.size, 0, none⟩) (Nat.le_refl _) _).setCell (p := ⟨w.heap.size, 1, none⟩) (Nat.le_refl _) _
          · have hdl : decide (vn ≤ last) = false := by simp; omega
            by_cases hmem : vn ∈ F.order
            · have hpl2 : decide (pl < 0) = false := by rw [hpl]; simp [hmem]
              have HF : Hid (cubeTo F.order (0, 0) 0 ws = cubeTo F.order (p', n') vn (ws.drop (j + 1))) := hide (by rw [unhide HIF, if_pos ⟨by omega, hmem⟩])
              clear hle hmem hpl
              go_wp2_with fail
              go_roundg (gk - 1)
              case measure => omega
              case rel => exact ⟨j + 1, p', n', vn, by go_num, rfl, by omega, hlt2.1, hlt2.2, by omega, unhide HF, hB3, hres3, hcub3⟩
            · have hpl2 : decide (pl < 0) = true := by rw [hpl]; simp [hmem]
              have HF : Hid (cubeR F ws = none) := hide (by rw [unhide HSP, unhide HIF, if_neg (fun h => hmem h.2)]; rfl)
              clear hle hmem hpl
              have hRm := blk_set (blk_set hres3 0 (.int .i64 p')) 1 (.int .i64 n')
              have jm0 := blk_cell hRm 0
              have jm1 := blk_cell hRm 1
              go_wp2_with fail
              refine bodyPost_ret (v := .tuple #[.agg #[.int .i64 p', .int .i64 n'], .bool false]) (by simp [results, Tryz.results106, go_sem, jm0, jm1]) rfl (RStPost.none_ ?_ (unhide HF) (p', n') rfl)
              exact (hB3.setCell (p := ⟨w.heap.size, 0, none⟩) (Nat.le_refl _) _).setCell (p := ⟨w.heap.size, 1, none⟩) (Nat.le_refl _) _
        · have hdb : ((dn : Int) == 0) = false := by rw [beq_eq_false_iff_ne]; omega
          have HLV : Hid (litVar x = dn) := hide (by rw [unhide HFO hok, unhide HDN, if_neg (by omega)]; rfl)
          clear hok hdz
          have HIF : Hid (cubeTo F.order (0, 0) 0 ws = if last < dn ∧ dn ∈ F.order then cubeTo F.order (p', n') dn (ws.drop (j + 1)) else none) := hide (by
            rw [unhide HTO, unhide HLV]
            by_cases hcnd : last < dn ∧ dn ∈ F.order
            · rw [if_pos ⟨unhide HOK, hcnd.1, hcnd.2⟩, if_pos hcnd]
            · rw [if_neg (fun h => hcnd h.2), if_neg hcnd])
          go_wp2_with fail
          refine (place_any lo b dn F w2 (hR0.later hB2) hF.len).mono ?_
          rintro e w4 ⟨⟨pl, rfl, hpl⟩, hw4⟩
          subst hw4
          by_cases hle : dn ≤ last
          · have hdl : decide (dn ≤ last) = true := by simp; omega
            have HF : Hid (cubeR F ws = none) := hide (by rw [unhide HSP, unhide HIF, if_neg (by omega)]; rfl)
            clear hle
            have hRm := blk_set (blk_set hres2 0 (.int .i64 p')) 1 (.int .i64 n')
            have jm0 := blk_cell hRm 0
            have jm1 := blk_cell hRm 1
            go_wp2_with fail
            refine bodyPost_ret (v := .tuple #[.agg #[.int .i64 p', .int .i64 n'], .bool false]) (by simp [results, Tryz.results106, go_sem, jm0, jm1]) rfl (RStPost.none_ ?_ (unhide HF) (p', n') rfl)
            exact (hB2.setCell (p := ⟨w.heap.size, 0, none⟩) (Nat.le_refl _) _).setCell (p := ⟨w.heap.size, 1, none⟩) (Nat.le_refl _) _
          · have hdl : decide (dn ≤ last) = false := by simp; omega
            by_cases hmem : dn ∈ F.order
            · have hpl2 : decide (pl < 0) = false := by rw [hpl]; simp [hmem]
              have HF : Hid (cubeTo F.order (0, 0) 0 ws = cubeTo F.order (p', n') dn (ws.drop (j + 1))) := hide (by rw [unhide HIF, if_pos ⟨by omega, hmem⟩])
              clear hle hmem hpl
              go_wp2_with fail
              go_roundg (gk - 1)
              case measure => omega
              case rel => exact ⟨j + 1, p', n', dn, by go_num, rfl, by omega, hlt2.1, hlt2.2, by omega, unhide HF, hB2, hres2, hcub2⟩
            · have hpl2 : decide (pl < 0) = true := by rw [hpl]; simp [hmem]
              have HF : Hid (cubeR F ws = none) := hide (by rw [unhide HSP, unhide HIF, if_neg (fun h => hmem h.2)]; rfl)
              clear hle hmem hpl
              have hRm := blk_set (blk_set hres2 0 (.int .i64 p')) 1 (.int .i64 n')
              have jm0 := blk_cell hRm 0
              have jm1 := blk_cell hRm 1
              go_wp2_with fail
              refine bodyPost_ret (v := .tuple #[.agg #[.int .i64 p', .int .i64 n'], .bool false]) (by simp [results, Tryz.results106, go_sem, jm0, jm1]) rfl (RStPost.none_ ?_ (unhide HF) (p', n') rfl)
              exact (hB2.setCell (p := ⟨w.heap.size, 0, none⟩) (Nat.le_refl _) _).setCell (p := ⟨w.heap.size, 1, none⟩) (Nat.le_refl _) _
    · have hjl : j = ws.length := by omega
      subst hjl
      rw [List.drop_length] at hto
      have HTO : Hid (cubeR F ws = if satR F.cl (p, n) then some (p, n) else none) := hide (by rw [unhide HSP, hto]; rfl)
      clear hto
      have HBITS := hide hF.bits
      have hcl24 := hF.cl
      have x3 : wr.cell? ⟨b, 3, none⟩ = some (.slice aC F.cl.length cC) := by rw [hb.cell (p := ⟨b, 3, none⟩) hbw]; exact k3
      obtain ⟨wo, rfl⟩ : ∃ wo, wo = wr := ⟨_, rfl⟩
      go_wp2_with fail
      go_loopg [12] F.cl.length (fun q i wx => ∃ k : Nat, i = .int .i64 k ∧ k + q = F.cl.length ∧ satR (F.cl.take k) (p, n) = true ∧ Below w.heap.size w wx ∧
        wx.heap[w.heap.size]? = some (.cells #[.int .i64 0, .int .i64 0] 121 (0, 0)) ∧ wx.heap[w.heap.size + 1]? = some (.cells #[.int .i64 p, .int .i64 n] 121 (0, 0)))
      case atStart => exact ⟨0, rfl, by omega, rfl, hb, hres, hcub⟩
      case round =>
        obtain ⟨k, rfl, hk, hsat, hb2, hres2, hcub2⟩ := hrel
        have HSAT := hide hsat; clear hsat
        have hbs2 := blk_lt hcub2
        have hbs20 : w.heap.size < wr.heap.size := by omega
        have hbw2 : b < wr.heap.size := by omega
        have y3 : wr.cell? ⟨b, 3, none⟩ = some (.slice aC F.cl.length cC) := by rw [hb2.cell (p := ⟨b, 3, none⟩) hbw]; exact k3
        have r20 : wr.cell? ⟨w.heap.size, 0, none⟩ = some (.int .i64 0) := by rw [blk_cell hres2]; rfl
        have r21 : wr.cell? ⟨w.heap.size, 1, none⟩ = some (.int .i64 0) := by rw [blk_cell hres2]; rfl
        have z20 := blk_free hres2 0
        have z21 := blk_free hres2 1
        have c20 : wr.cell? ⟨w.heap.size + 1, 0, none⟩ = some (.int .i64 p) := by rw [blk_cell hcub2]; rfl
        have c21 : wr.cell? ⟨w.heap.size + 1, 1, none⟩ = some (.int .i64 n) := by rw [blk_cell hcub2]; rfl
        by_cases hlt2 : k < F.cl.length
        · obtain ⟨g, cap2, hV, hg, hg', _, hcell⟩ := own_pos hC (by omega)
          injection hV with hV _ hV2
          subst hV hV2
          have hgw : g < wr.heap.size := by omega
          obtain ⟨ha, hb'⟩ := pairs_at F.cl k hlt2
          have hx0 : wr.cell? ⟨g, k * 2, none⟩ = some (.int .i64 (F.cl[k].1 : Int)) := by rw [hb2.cell (p := ⟨g, k * 2, none⟩) hg']; exact hcell _ _ ha
          have hx1 : wr.cell? ⟨g, k * 2 + 1, none⟩ = some (.int .i64 (F.cl[k].2 : Int)) := by rw [hb2.cell (p := ⟨g, k * 2 + 1, none⟩) hg']; exact hcell _ _ hb'
          have HT := hide (satR_take F.cl (p, n) k hlt2)
          have HO := hide (satR_of F.cl (p, n) k hlt2)
          obtain ⟨hb1, hb2x⟩ := unhide HBITS _ (List.getElem_mem hlt2)
          clear hcell ha hb'
          generalize F.cl[k] = c at *
          obtain ⟨xp, xn⟩ := c
          dsimp only at hx0 hx1 hb1 hb2x
          have h1 : (bits .and .i64 (xp : Int) (xn : Int) == 0) = (xp &&& xn == 0) := by rw [i64_and _ _ (by omega) (by omega), nat_beq_zero]
          have h2 : (bits .and .i64 (xp : Int) (p : Int) == 0) = (xp &&& p == 0) := by rw [i64_and _ _ (by omega) (by omega), nat_beq_zero]
          have h3 : (bits .and .i64 (xn : Int) (n : Int) == 0) = (xn &&& n == 0) := by rw [i64_and _ _ (by omega) (by omega), nat_beq_zero]
          have HM : Hid (missed (xp, xn) (p, n) = ((xp &&& xn == 0) && ((xp &&& p == 0) && (xn &&& n == 0)))) := hide rfl
          have hA := hb2.alloc (Nat.le_of_lt hbs20) (.cells #[.int .i64 (xp : Int), .int .i64 (xn : Int)] 121)
          have hres3 := (heap_alloc_old wr (.cells #[.int .i64 (xp : Int), .int .i64 (xn : Int)] 121) hbs20).trans hres2
          have hcub3 := (heap_alloc_old wr (.cells #[.int .i64 (xp : Int), .int .i64 (xn : Int)] 121) hbs2).trans hcub2
          cases e1 : (xp &&& xn == 0) with
          | false =>
            rw [e1] at h1
            have HM1 : Hid (missed (xp, xn) (p, n) = false) := hide (by rw [unhide HM, e1]; rfl)
            clear e1
            go_wp2_with fail
            go_roundg (gk - 1)
            case measure => omega
            case rel => exact ⟨k + 1, by go_num, by omega, by rw [unhide HT, unhide HSAT, unhide HM1]; rfl, hA, hres3, hcub3⟩
          | true =>
            rw [e1] at h1
            cases e2 : (xp &&& p == 0) with
            | false =>
              rw [e2] at h2
              have HM1 : Hid (missed (xp, xn) (p, n) = false) := hide (by rw [unhide HM, e1, e2]; rfl)
              clear e1 e2
              go_wp2_with fail
              go_roundg (gk - 1)
              case measure => omega
              case rel => exact ⟨k + 1, by go_num, by omega, by rw [unhide HT, unhide HSAT, unhide HM1]; rfl, hA, hres3, hcub3⟩
            | true =>
              rw [e2] at h2
              cases e3 : (xn &&& n == 0) with
              | false =>
                rw [e3] at h3
                have HM1 : Hid (missed (xp, xn) (p, n) = false) := hide (by rw [unhide HM, e1, e2, e3]; rfl)
                clear e1 e2 e3
                go_wp2_with fail
                go_roundg (gk - 1)
                case measure => omega
                case rel => exact ⟨k + 1, by go_num, by omega, by rw [unhide HT, unhide HSAT, unhide HM1]; rfl, hA, hres3, hcub3⟩
              | true =>
                rw [e3] at h3
                have HF : Hid (cubeR F ws = none) := hide (by rw [unhide HTO, unhide HO (by rw [unhide HM, e1, e2, e3]; rfl)]; rfl)
                clear e1 e2 e3
                have hR := blk_set (blk_set hres2 0 (.int .i64 p)) 1 (.int .i64 n)
                have hR' := (heap_alloc_old _ (.cells #[.int .i64 (xp : Int), .int .i64 (xn : Int)] 121) (blk_lt hR)).trans hR
                have j0 := blk_cell hR' 0
                have j1 := blk_cell hR' 1
                go_wp2_with fail
                refine bodyPost_ret (v := .tuple #[.agg #[.int .i64 p, .int .i64 n], .bool false]) (by simp [results, Tryz.results106, go_sem, j0, j1]) rfl (RStPost.none_ ?_ (unhide HF) (p, n) rfl)
                exact ((hb2.setCell (p := ⟨w.heap.size, 0, none⟩) (Nat.le_refl _) _).setCell (p := ⟨w.heap.size, 1, none⟩) (Nat.le_refl _) _).alloc (by simp [World.setCell]; omega) _
        · have hkl : k = F.cl.length := by omega
          have HF : Hid (cubeR F ws = some (p, n)) := hide (by
            have := unhide HSAT
            rw [hkl, List.take_length] at this
            rw [unhide HTO, this]; rfl)
          have hR := blk_set (blk_set hres2 0 (.int .i64 p)) 1 (.int .i64 n)
          have j0 := blk_cell hR 0
          have j1 := blk_cell hR 1
          go_wp2_with fail
          refine bodyPost_ret (v := .tuple #[.agg #[.int .i64 p, .int .i64 n], .bool true]) (by simp [results, Tryz.results106, go_sem, j0, j1]) rfl (RStPost.some_ ?_ (p, n) (unhide HF) rfl)
          exact (hb2.setCell (p := ⟨w.heap.size, 0, none⟩) (Nat.le_refl _) _).setCell (p := ⟨w.heap.size, 1, none⟩) (Nat.le_refl _) _
end Go.Proofs.YtgipjjhkhfihpaaGreatDoor
