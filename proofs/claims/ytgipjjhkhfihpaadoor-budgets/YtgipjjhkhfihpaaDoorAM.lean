import Derived.Test.YtgipjjhkhfihpaaDoorAE
import Derived.Test.YtgipjjhkhfihpaaDoorAL
namespace Go.Proofs.YtgipjjhkhfihpaaDoor
open Go.RowKit

theorem beginC_budget (q : QS) (n room : Nat) : beginC q n room = { beginC q 0 room with budget := n } := rfl
theorem beginC_room (q : QS) (n room r' : Nat) : beginC q n r' = { beginC q n room with room := r' } := rfl
/-- A budget of as many nodes, or more: all is the same. A lesser one: unknown. -/
theorem verdict_budget (q : QS) (room n : Nat) (hn : 0 < n) : ((verdict q 0 room).nodes ≤ n → verdict q n room = verdict q 0 room) ∧ (n < (verdict q 0 room).nodes → (verdict q n room).kind = 0 ∧ (verdict q n room).nodes = n ∧ (verdict q n room).text = []) := by
  have h := look_budget (beginC q 0 room) rfl n hn q.vars.length (0, 0) 0 (beginS q) (Nat.zero_le _)
  rw [← beginC_budget] at h
  obtain ⟨h1, h2⟩ := h
  constructor
  · intro hle
    have : solveM q n room = solveM q 0 room := h1 hle
    unfold verdict
    rw [this]
  · intro hlt
    obtain ⟨e1, e2⟩ := h2 hlt
    have e1' : (solveM q n room).2.1 = 0 := by show (lookM _ _ _ _ _).2.1 = 0; rw [e1]
    exact ⟨e1', e2, by unfold verdict; dsimp only; rw [if_pos e1']⟩
/-- With room for just as many as were kept, all is as it was. -/
theorem verdict_room (q : QS) (room : Nat) (h : (verdict q 0 room).lemmas < room) : verdict q 0 (verdict q 0 room).lemmas = verdict q 0 room := by
  have h1 := look_room (C := beginC q 0 room) (r' := (verdict q 0 room).lemmas) q.vars.length (0, 0) 0 (beginS q) rfl h (Nat.le_refl _)
  rw [← beginC_room q 0 room] at h1
  have : solveM q 0 (verdict q 0 room).lemmas = solveM q 0 room := h1.1
  show (let r := solveM q 0 (verdict q 0 room).lemmas; (⟨r.2.1, r.1.nodes, r.1.most, if r.2.1 = 0 then [] else textP (r.2.1 == 2) (shortOf (r.1.proof r.2.1) r.2.2)⟩ : Vd)) = _
  rw [this]
  rfl
end Go.Proofs.YtgipjjhkhfihpaaDoor
