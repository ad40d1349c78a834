import Derived.Test.YtgipjjhkhfihpabGreatDoorAH
namespace Go.Proofs.YtgipjjhkhfihpabGreatDoor
open Go.RowKit

/-! ### The whole search -/
theorem axioms_len (cl : List (Nat × Nat)) : (axioms cl).length = cl.length := by simp [axioms]
theorem axioms_at (cl : List (Nat × Nat)) (i : Nat) (h : i < cl.length) : (axioms cl)[i]'(by rw [axioms_len]; exact h) = ⟨1, i + 1, 0, 0, cl[i]⟩ := by
  simp [axioms]
theorem axioms_ok {q : QS} (hq : QGood q) : POk q 1 (axioms q.cl) := by
  intro i hi
  have h : i < q.cl.length := by rw [axioms_len] at hi; exact hi
  rw [axioms_at q.cl i h]
  have hm := List.getElem_mem h
  refine ⟨⟨hq.qb.bits _ hm, fun s v hv => hq.vars _ hm s v hv⟩, Or.inl ⟨rfl, rfl, by show 1 ≤ i + 1; omega, by show i + 1 ≤ _; omega, rfl, ?_⟩⟩
  show q.cl[i] = q.cl.getD (i + 1 - 1) (0, 0)
  rw [Nat.add_sub_cancel, List.getD, List.getElem?_eq_getElem h]; rfl
theorem begin_inv {q : QS} (hq : QGood q) (budget room : Nat) : SInv (beginC q budget room) (beginS q) := by
  refine ⟨axioms_ok hq, by show q.cl.length ≤ (axioms q.cl).length; rw [axioms_len]; exact Nat.le_refl _, fun i hi => ?_, pok_nil _ _, fun f hf => (by cases hf), Nat.zero_le _, Nat.zero_le _⟩
  have h : i < q.cl.length := hi
  show litsAt (axioms q.cl) (i + 1) = q.cl[i]
  rw [litsAt_in _ i (by rw [axioms_len]; exact h), axioms_at q.cl i h]
theorem uni_ok {q : QS} (hq : QGood q) : UniOk q (uniTo q.vars (0, 0)) := by
  have key : ∀ (vs : List (Nat × Bool)) (u : Nat × Nat), (∀ x ∈ vs, 1 ≤ x.1 ∧ x.1 ≤ 8) → ∀ s v, L (uniTo vs u) s v = true ↔ (L u s v = true ∨ ∃ x ∈ vs, x.1 = v ∧ x.2 = true) := by
    intro vs
    induction vs with
    | nil => intro u _ s v; simp [uniTo]
    | cons y vs ih =>
      intro u hn s v
      have hy := hn y (by simp)
      show L (uniTo vs (if y.2 then withLit (withLit u y.1) (-(y.1 : Int)) else u)) s v = true ↔ _
      rw [ih _ (fun x hx => hn x (by simp [hx]))]
      cases hu : y.2 with
      | false =>
        simp only [Bool.false_eq_true, if_false]
        constructor
        · rintro (h | ⟨x, hx, h1, h2⟩)
          · exact Or.inl h
          · exact Or.inr ⟨x, by simp [hx], h1, h2⟩
        · rintro (h | ⟨x, hx, h1, h2⟩)
          · exact Or.inl h
          · rcases List.mem_cons.1 hx with rfl | hx
            · rw [hu] at h2; cases h2
            · exact Or.inr ⟨x, hx, h1, h2⟩
      | true =>
        simp only [if_true]
        have e1 : ((y.1 : Nat) : Int) = litI y.1 true := rfl
        have e2 : -((y.1 : Nat) : Int) = litI y.1 false := rfl
        rw [e2, L_with _ _ _ hy.1 hy.2, e1, L_with _ _ _ hy.1 hy.2]
        constructor
        · rintro (h | ⟨x, hx, h1, h2⟩)
          · simp only [Bool.or_eq_true, Bool.and_eq_true, decide_eq_true_eq] at h
            rcases h with (h | h) | h
            · exact Or.inl h
            · exact Or.inr ⟨y, by simp, h.2.symm, hu⟩
            · exact Or.inr ⟨y, by simp, h.2.symm, hu⟩
          · exact Or.inr ⟨x, by simp [hx], h1, h2⟩
        · rintro (h | ⟨x, hx, h1, h2⟩)
          · exact Or.inl (by rw [h]; rfl)
          · rcases List.mem_cons.1 hx with rfl | hx
            · left
              subst h1
              cases s <;> simp
            · exact Or.inr ⟨x, hx, h1, h2⟩
  intro s v
  rw [key q.vars (0, 0) hq.qb.names s v, L_zero]
  simp
/-- What is told of a formula. -/
structure Told (F : Form) (q : QS) (budget room : Nat) (r : SS × (Nat × Nat)) : Prop where
  kind : r.2.1 = 0 ∨ r.2.1 = 1 ∨ r.2.1 = 2
  unknown : r.2.1 = 0 → 0 < budget ∧ r.1.nodes = budget
  one : 1 ≤ r.1.nodes
  most : r.1.nodes + 1 ≤ 2 ^ (q.vars.length + 1)
  upto : 0 < budget → r.1.nodes ≤ budget
  lemmas : r.1.most ≤ room
  inv : SInv (beginC q budget room) r.1
  size : sizeS r.1 ≤ 24 + 12 * r.1.nodes
  proof : r.2.1 ≠ 0 → 1 ≤ r.2.2 ∧ r.2.2 ≤ (r.1.proof r.2.1).length ∧ provesR F (textP (r.2.1 == 2) (shortOf (r.1.proof r.2.1) r.2.2)) = .inr (r.2.1 == 2, twos (shortOf (r.1.proof r.2.1) r.2.2)) ∧ twos (shortOf (r.1.proof r.2.1) r.2.2) ≤ twos (r.1.proof r.2.1)
theorem solve_ok {F : Form} {q : QS} (hq : QGood q) (hF : FQ F q) (hO : FOk F) (budget room : Nat) : Told F q budget room (solveM q budget room) := by
  have hl := look_ok (C := beginC q budget room) hq (uni_ok hq) q.vars.length 0 (0, 0) (beginS q) (begin_inv hq budget room) (path_zero q) (by simp; rfl)
  unfold solveM
  generalize lookM (beginC q budget room) q.vars.length (0, 0) 0 (beginS q) = r at *
  have h0 : (beginS q).nodes = 0 := rfl
  have hsz : sizeS (beginS q) ≤ 24 := by
    show (axioms q.cl).length + 0 ≤ 24
    rw [axioms_len]
    have := hq.qb.cl
    omega
  have hvl := hq.qb.vl
  have hone : 1 ≤ r.1.nodes := by
    have := hl.some (by rintro ⟨h1, h2⟩; rw [h0] at h2; have : (beginC q budget room).budget = budget := rfl; omega)
    rw [h0] at this; omega
  have hmost := hl.most
  rw [h0] at hmost
  have hsize := hl.size
  rw [h0] at hsize
  have hp512 : 2 ^ (q.vars.length + 1) ≤ 512 := by
    have : 2 ^ (q.vars.length + 1) ≤ 2 ^ 9 := Nat.pow_le_pow_right (by decide) (by omega)
    simpa using this
  have hkind : r.2.1 = 0 ∨ r.2.1 = 1 ∨ r.2.1 = 2 := by
    by_cases h : r.2.1 = 0
    · exact Or.inl h
    · exact Or.inr (hl.fact h).inn.kind
  refine ⟨hkind, fun h => ?_, hone, by omega, fun h => hl.budget h (by rw [h0]; omega), hl.inv.most, hl.inv, by omega, fun h => ?_⟩
  · have h1 := hl.unknown h
    have h2 := hl.budget h1.1 (by rw [h0]; exact Nat.zero_le _)
    exact ⟨h1.1, Nat.le_antisymm h2 h1.2⟩
  · have hf := hl.fact h
    have hlits : r.1.lits r.2 = (0, 0) := by
      apply L_ext
      intro s v
      rw [L_zero]
      cases hh : L (r.1.lits r.2) s v with
      | false => rfl
      | true => have := hf.on s v hh; rw [L_zero] at this; cases this
    have hk : r.2.1 = kd (r.2.1 == 2) := by
      rcases hf.inn.kind with e | e <;> rw [e] <;> rfl
    have hpok : POk q (kd (r.2.1 == 2)) (r.1.proof r.2.1) := by
      have := hl.inv.pok hf.inn.kind
      rw [← hk]; exact this
    obtain ⟨s1, s2, s3, s4, s, s5, s6⟩ := short_ok hpok hf.inn.lo hf.inn.hi hf.inn.free
    have hplen : (r.1.proof r.2.1).length ≤ 9000 := by
      have : (r.1.proof r.2.1).length ≤ sizeS r.1 := by
        unfold SS.proof sizeS
        split <;> omega
      omega
    refine ⟨hf.inn.lo, hf.inn.hi, proves_text hq hF hO s1 s2 (by omega) ⟨s, s5, s6.trans hlits⟩, s4⟩
end Go.Proofs.YtgipjjhkhfihpabGreatDoor
