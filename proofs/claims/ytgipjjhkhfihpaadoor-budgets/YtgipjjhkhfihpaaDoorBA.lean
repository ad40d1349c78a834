import Derived.Test.YtgipjjhkhfihpaaDoorAG
import Derived.Test.YtgipjjhkhfihpaaDoorAJ
namespace Go.Proofs.YtgipjjhkhfihpaaDoor
open Go.RowKit

/-! ### Budgets -/
theorem explain_nodes (C : SC) (s : SS) (u : US) : (explain C s u).1.nodes = s.nodes := by
  unfold explain
  dsimp only
  split
  · exact (keep_ref _ _ _).2.2
  · rfl
theorem cube_nodes (C : SC) (s : SS) (path vals : Nat × Nat) : (cubeOf C s path vals).1.nodes = s.nodes := by
  unfold cubeOf
  split
  · rfl
  · split
    · exact (keep_ref _ _ _).2.2
    · rfl
theorem join_nodes (C : SC) (s : SS) (a b : Nat × Nat) (v : Nat) : (joinOf C s a b v).1.nodes = s.nodes := by
  unfold joinOf
  exact (keep_ref _ _ _).2.2.trans (put_nodes _ _ _)
theorem node_nodes (C : SC) (s : SS) (path : Nat × Nat) : s.nodes ≤ (nodeSt (nodeOf C s path)).1.nodes ∧ (¬ (0 < C.budget ∧ C.budget ≤ s.nodes) → (nodeSt (nodeOf C s path)).1.nodes = s.nodes + 1) := by
  unfold nodeOf
  split
  · next h => exact ⟨Nat.le_refl _, fun h2 => absurd h h2⟩
  · dsimp only
    split
    · have := explain_nodes C { s with nodes := s.nodes + 1 } (unitsOf C { s with nodes := s.nodes + 1 } path)
      exact ⟨by show s.nodes ≤ (explain _ _ _).1.nodes; rw [this]; exact Nat.le_succ _, fun _ => this⟩
    · have := cube_nodes C { s with nodes := s.nodes + 1 } path (unitsOf C { s with nodes := s.nodes + 1 } path).vals
      split
      · exact ⟨by show s.nodes ≤ (cubeOf _ _ _ _).1.nodes; rw [this]; exact Nat.le_succ _, fun _ => this⟩
      · exact ⟨by show s.nodes ≤ (cubeOf _ _ _ _).1.nodes; rw [this]; exact Nat.le_succ _, fun _ => this⟩
theorem look_mono (C : SC) : ∀ (m : Nat) (path : Nat × Nat) (d : Nat) (s : SS), s.nodes ≤ (lookM C m path d s).1.nodes := by
  intro m
  induction m with
  | zero =>
    intro path d s
    have := (node_nodes C s path).1
    rw [lookM]
    cases h : nodeOf C s path with
    | inl r => rw [h] at this; exact this
    | inr r => rw [h] at this; exact this
  | succ m ih =>
    intro path d s
    have hn := (node_nodes C s path).1
    rw [lookM]
    cases h : nodeOf C s path with
    | inl r => rw [h] at hn; exact hn
    | inr r =>
      obtain ⟨s1, vals⟩ := r
      rw [h] at hn
      have hn' : s.nodes ≤ s1.nodes := hn
      dsimp only
      generalize (C.q.vars.getD d (0, false)).1 = v
      generalize (if hasLit vals (-(v : Int)) = true then -(v : Int) else (v : Int)) = side
      have ha := ih (withLit path side) (d + 1) s1
      generalize lookM C m (withLit path side) (d + 1) s1 = a at *
      split
      · have hb := ih (withLit path (-side)) (d + 1) a.1
        generalize lookM C m (withLit path (-side)) (d + 1) a.1 = b at *
        split
        · rw [join_nodes]; omega
        · omega
      · omega
/-- A budget that reaches changes nothing; one that does not ends the search when it is used up. -/
theorem look_budget (C : SC) (h0 : C.budget = 0) (n : Nat) (hn : 0 < n) : ∀ (m : Nat) (path : Nat × Nat) (d : Nat) (s : SS), s.nodes ≤ n →
    ((lookM C m path d s).1.nodes ≤ n → lookM { C with budget := n } m path d s = lookM C m path d s) ∧ (n < (lookM C m path d s).1.nodes → (lookM { C with budget := n } m path d s).2 = (0, 0) ∧ (lookM { C with budget := n } m path d s).1.nodes = n) := by
  have hnode : ∀ (s : SS) (path : Nat × Nat), s.nodes < n → nodeOf { C with budget := n } s path = nodeOf C s path := by
    intro s path hs
    have e1 : ¬ (0 < C.budget ∧ C.budget ≤ s.nodes) := by rw [h0]; omega
    have e2 : ¬ (0 < ({ C with budget := n } : SC).budget ∧ ({ C with budget := n } : SC).budget ≤ s.nodes) := by show ¬ (0 < n ∧ n ≤ s.nodes); omega
    rw [nodeOf, nodeOf, if_neg e2, if_neg e1]
    rfl
  have hstop : ∀ (s : SS) (path : Nat × Nat), s.nodes = n → nodeOf { C with budget := n } s path = .inl (s, (0, 0)) := by
    intro s path hs
    unfold nodeOf
    rw [if_pos ⟨hn, by show n ≤ s.nodes; omega⟩]
  have hup : ∀ (m : Nat) (path : Nat × Nat) (d : Nat) (s : SS), s.nodes + 1 ≤ (lookM C m path d s).1.nodes := by
    intro m path d s
    have hnn := (node_nodes C s path).2 (by rw [h0]; omega)
    cases m with
    | zero =>
      rw [lookM]
      cases h : nodeOf C s path with
      | inl r => rw [h] at hnn; have e : r.1.nodes = s.nodes + 1 := hnn; show _ ≤ r.1.nodes; omega
      | inr r => rw [h] at hnn; have e : r.1.nodes = s.nodes + 1 := hnn; show _ ≤ r.1.nodes; omega
    | succ m =>
      rw [lookM]
      cases h : nodeOf C s path with
      | inl r => rw [h] at hnn; have e : r.1.nodes = s.nodes + 1 := hnn; show _ ≤ r.1.nodes; omega
      | inr r =>
        obtain ⟨s1, vals⟩ := r
        rw [h] at hnn
        have hn' : s1.nodes = s.nodes + 1 := hnn
        dsimp only
        generalize (C.q.vars.getD d (0, false)).1 = v
        generalize (if hasLit vals (-(v : Int)) = true then -(v : Int) else (v : Int)) = side
        have ha := look_mono C m (withLit path side) (d + 1) s1
        generalize lookM C m (withLit path side) (d + 1) s1 = a at *
        split
        · have hb := look_mono C m (withLit path (-side)) (d + 1) a.1
          generalize lookM C m (withLit path (-side)) (d + 1) a.1 = b at *
          split
          · rw [join_nodes]; omega
          · omega
        · omega
  intro m
  induction m with
  | zero =>
    intro path d s hs
    have hu := hup 0 path d s
    rcases Nat.lt_or_ge s.nodes n with h | h
    · have e : lookM { C with budget := n } 0 path d s = lookM C 0 path d s := by rw [lookM, lookM, hnode s path h]
      refine ⟨fun _ => e, fun h2 => ?_⟩
      exfalso
      have hnn := (node_nodes C s path).2 (by rw [h0]; omega)
      rw [lookM] at h2
      cases hh : nodeOf C s path with
      | inl r => rw [hh] at hnn h2; have e : r.1.nodes = s.nodes + 1 := hnn; have h3 : n < r.1.nodes := h2; omega
      | inr r => rw [hh] at hnn h2; have e : r.1.nodes = s.nodes + 1 := hnn; have h3 : n < r.1.nodes := h2; omega
    · have hs' : s.nodes = n := by omega
      refine ⟨fun h2 => by omega, fun _ => ?_⟩
      rw [lookM, hstop s path hs']
      exact ⟨rfl, hs'⟩
  | succ m ih =>
    intro path d s hs
    have hu := hup (m + 1) path d s
    rcases Nat.lt_or_ge s.nodes n with h | h
    · rw [lookM, lookM, hnode s path h]
      have hnn := (node_nodes C s path).2 (by rw [h0]; omega)
      cases hh : nodeOf C s path with
      | inl r =>
        rw [hh] at hnn
        have e : r.1.nodes = s.nodes + 1 := hnn
        exact ⟨fun _ => rfl, fun h2 => by have h3 : n < r.1.nodes := h2; omega⟩
      | inr r =>
        obtain ⟨s1, vals⟩ := r
        rw [hh] at hnn
        have hn' : s1.nodes = s.nodes + 1 := hnn
        dsimp only
        generalize (C.q.vars.getD d (0, false)).1 = v
        generalize (if hasLit vals (-(v : Int)) = true then -(v : Int) else (v : Int)) = side
        obtain ⟨a1, a2⟩ := ih (withLit path side) (d + 1) s1 (by omega)
        generalize lookM C m (withLit path side) (d + 1) s1 = a at *
        generalize lookM { C with budget := n } m (withLit path side) (d + 1) s1 = a' at *
        rcases Nat.lt_or_ge n a.1.nodes with hav | hav
        · obtain ⟨z1, z2⟩ := a2 hav
          have hz : hasVarB (a'.1.lits a'.2) v = false := by rw [z1]; exact zero_has _ _ rfl rfl v
          rw [hz]
          simp only [Bool.false_eq_true, if_false]
          refine ⟨fun h2 => ?_, fun _ => ⟨z1, z2⟩⟩
          exfalso
          revert h2
          split
          · have hb := look_mono C m (withLit path (-side)) (d + 1) a.1
            generalize lookM C m (withLit path (-side)) (d + 1) a.1 = b at *
            split
            · rw [join_nodes]; omega
            · omega
          · omega
        · rw [a1 hav]
          cases hha : hasVarB (a.1.lits a.2) v with
          | false =>
            rw [if_neg (by decide), if_neg (by decide)]
            exact ⟨fun _ => rfl, fun h2 => by omega⟩
          | true =>
            rw [if_pos rfl, if_pos rfl]
            obtain ⟨b1, b2⟩ := ih (withLit path (-side)) (d + 1) a.1 hav
            generalize lookM C m (withLit path (-side)) (d + 1) a.1 = b at *
            generalize lookM { C with budget := n } m (withLit path (-side)) (d + 1) a.1 = b' at *
            rcases Nat.lt_or_ge n b.1.nodes with hbv | hbv
            · obtain ⟨z1, z2⟩ := b2 hbv
              have hz : hasVarB (b'.1.lits b'.2) v = false := by rw [z1]; exact zero_has _ _ rfl rfl v
              rw [hz]
              simp only [Bool.false_eq_true, if_false]
              refine ⟨fun h2 => ?_, fun _ => ⟨z1, z2⟩⟩
              exfalso
              revert h2
              split
              · rw [join_nodes]; omega
              · omega
            · rw [b1 hbv]
              refine ⟨fun _ => ?_, fun h2 => ?_⟩
              · split <;> rfl
              · exfalso
                revert h2
                split
                · rw [join_nodes]; omega
                · omega
    · have hs' : s.nodes = n := by omega
      refine ⟨fun h2 => by omega, fun _ => ?_⟩
      rw [lookM, hstop s path hs']
      exact ⟨rfl, hs'⟩
end Go.Proofs.YtgipjjhkhfihpaaDoor

namespace Go.Proofs.YtgipjjhkhfihpaaDoor
open Go.RowKit

/-! ### Room for lemmas -/
def Full (s : SS) : Prop := s.kept.length = s.most
theorem keep_most (r : Nat) (s : SS) (f : Nat × Nat) : s.most ≤ (s.keep r f).most := by
  unfold SS.keep
  split
  · exact Nat.le_refl _
  · show s.most ≤ storeM _ _ _ _
    unfold storeM
    split
    · exact Nat.le_refl _
    · split <;> omega
theorem keep_room {r r' : Nat} {s : SS} {f : Nat × Nat} (hJ : Full s) (h1 : (s.keep r f).most < r) (h2 : (s.keep r f).most ≤ r') : s.keep r' f = s.keep r f ∧ Full (s.keep r f) := by
  have hJ' : s.kept.length = s.most := hJ
  unfold SS.keep at h1 h2 ⊢
  split at h1
  · next he => rw [if_pos he, if_pos he]; exact ⟨rfl, hJ⟩
  · next he =>
    rw [if_neg he] at h2
    rw [if_neg he, if_neg he]
    have hr0 : r ≠ 0 := by omega
    have e1 : (s.store r f).most = storeM r s.kept f s.most := rfl
    have hroom : ¬ r ≤ s.kept.length := by
      intro hle
      have : s.most ≤ storeM r s.kept f s.most := by
        unfold storeM
        split
        · exact Nat.le_refl _
        · split <;> omega
      omega
    have hk : storeK r s.kept f = s.kept ++ [f] := by unfold storeK; rw [if_neg hr0, if_neg hroom]
    have hm : storeM r s.kept f s.most = s.kept.length + 1 := by
      unfold storeM
      rw [if_neg hr0, hk, if_pos (by simp; omega)]; simp
    rw [e1, hm] at h2
    have hr1 : r' ≠ 0 := by omega
    have hroom' : ¬ r' ≤ s.kept.length := by omega
    have hk' : storeK r' s.kept f = s.kept ++ [f] := by unfold storeK; rw [if_neg hr1, if_neg hroom']
    have hm' : storeM r' s.kept f s.most = s.kept.length + 1 := by
      unfold storeM
      rw [if_neg hr1, hk', if_pos (by simp; omega)]; simp
    constructor
    · unfold SS.store; rw [hk, hk', hm, hm']
    · show (storeK r s.kept f).length = storeM r s.kept f s.most
      rw [hk, hm]; simp
theorem put_kept (s : SS) (k : Nat) (p : List Stp) : (s.put k p).kept = s.kept ∧ (s.put k p).most = s.most := by unfold SS.put; split <;> exact ⟨rfl, rfl⟩
/-- What a node adds, whatever the room is. -/
def KForm (s : SS) (X : Nat → SS × (Nat × Nat)) : Prop := ∃ (s0 : SS) (f : Nat × Nat) (b : Bool), s0.kept = s.kept ∧ s0.most = s.most ∧ ∀ r, X r = (if b then s0.keep r f else s0, f)
theorem explain_form (C : SC) (s : SS) (u : US) : KForm s (fun r => explain { C with room := r } s u) := by
  refine ⟨{ s with ref := (redP C.q 1 (expl u.trail.reverse s.ref u.conf).1 (expl u.trail.reverse s.ref u.conf).2).1 }, (1, (redP C.q 1 (expl u.trail.reverse s.ref u.conf).1 (expl u.trail.reverse s.ref u.conf).2).2), decide ((expl u.trail.reverse s.ref u.conf).2 ≠ u.conf), rfl, rfl, fun r => ?_⟩
  unfold explain
  dsimp only
  by_cases h : (expl u.trail.reverse s.ref u.conf).2 ≠ u.conf
  · rw [if_pos h, decide_eq_true h, if_pos rfl]
  · rw [if_neg h, decide_eq_false h, if_neg (by decide)]
theorem cube_form (C : SC) (s : SS) (path vals : Nat × Nat) : KForm s (fun r => cubeOf { C with room := r } s path vals) := by
  unfold cubeOf
  cases hf : s.kept.find? (fun f => f.1 == 2 && holdsB (s.lits f) path) with
  | some f => exact ⟨s, f, false, rfl, rfl, fun r => rfl⟩
  | none =>
    dsimp only
    generalize redP C.q 2 (s.aff ++ [(⟨2, 0, 0, 0, shrinkQ C.q vals⟩ : Stp)]) (s.aff ++ [(⟨2, 0, 0, 0, shrinkQ C.q vals⟩ : Stp)]).length = D
    by_cases he : satQ C.q.cl vals = true
    · exact ⟨{ s with aff := D.1 }, (2, D.2), true, rfl, rfl, fun r => (if_pos he).trans rfl⟩
    · exact ⟨s, (0, 0), false, rfl, rfl, fun r => (if_neg he).trans rfl⟩
theorem join_form (C : SC) (s : SS) (a b : Nat × Nat) (v : Nat) : KForm s (fun r => joinOf { C with room := r } s a b v) := by
  unfold joinOf
  dsimp only
  generalize redP C.q a.1 (resP (s.proof a.1) a.2 b.2 v).1 (resP (s.proof a.1) a.2 b.2 v).2 = D
  exact ⟨s.put a.1 D.1, (a.1, D.2), true, (put_kept _ _ _).1, (put_kept _ _ _).2, fun r => rfl⟩
theorem KForm.most {s : SS} {X : Nat → SS × (Nat × Nat)} (h : KForm s X) (r : Nat) : s.most ≤ (X r).1.most := by
  obtain ⟨s0, f, b, h1, h2, h3⟩ := h
  rw [h3 r, ← h2]
  cases b
  · exact Nat.le_refl _
  · exact keep_most r s0 f
theorem KForm.room {s : SS} {X : Nat → SS × (Nat × Nat)} (h : KForm s X) {r r' : Nat} (hJ : Full s) (l1 : (X r).1.most < r) (l2 : (X r).1.most ≤ r') : X r' = X r ∧ Full (X r).1 := by
  obtain ⟨s0, f, b, h1, h2, h3⟩ := h
  have hJ0 : Full s0 := by unfold Full; rw [h1, h2]; exact hJ
  rw [h3 r] at l1 l2 ⊢
  rw [h3 r']
  cases b
  · exact ⟨rfl, hJ0⟩
  · obtain ⟨k1, k2⟩ := keep_room hJ0 l1 l2
    exact ⟨by show (s0.keep r' f, f) = (s0.keep r f, f); rw [k1], k2⟩
theorem explain_most (C : SC) (s : SS) (u : US) : s.most ≤ (explain C s u).1.most := (explain_form C s u).most C.room
theorem cube_most (C : SC) (s : SS) (path vals : Nat × Nat) : s.most ≤ (cubeOf C s path vals).1.most := (cube_form C s path vals).most C.room
theorem join_most (C : SC) (s : SS) (a b : Nat × Nat) (v : Nat) : s.most ≤ (joinOf C s a b v).1.most := (join_form C s a b v).most C.room
theorem node_most (C : SC) (s : SS) (path : Nat × Nat) : s.most ≤ (nodeSt (nodeOf C s path)).1.most := by
  unfold nodeOf
  split
  · exact Nat.le_refl _
  · dsimp only
    split
    · exact explain_most C { s with nodes := s.nodes + 1 } _
    · have := cube_most C { s with nodes := s.nodes + 1 } path (unitsOf C { s with nodes := s.nodes + 1 } path).vals
      split
      · exact this
      · exact this
theorem look_most (C : SC) : ∀ (m : Nat) (path : Nat × Nat) (d : Nat) (s : SS), s.most ≤ (lookM C m path d s).1.most := by
  intro m
  induction m with
  | zero =>
    intro path d s
    have := node_most C s path
    rw [lookM]
    cases h : nodeOf C s path with
    | inl r => rw [h] at this; exact this
    | inr r => rw [h] at this; exact this
  | succ m ih =>
    intro path d s
    have hn := node_most C s path
    rw [lookM]
    cases h : nodeOf C s path with
    | inl r => rw [h] at hn; exact hn
    | inr r =>
      obtain ⟨s1, vals⟩ := r
      rw [h] at hn
      have hn' : s.most ≤ s1.most := hn
      dsimp only
      generalize (C.q.vars.getD d (0, false)).1 = v
      generalize (if hasLit vals (-(v : Int)) = true then -(v : Int) else (v : Int)) = side
      have ha := ih (withLit path side) (d + 1) s1
      generalize lookM C m (withLit path side) (d + 1) s1 = a at *
      split
      · have hb := ih (withLit path (-side)) (d + 1) a.1
        generalize lookM C m (withLit path (-side)) (d + 1) a.1 = b at *
        split
        · have := join_most C b.1 a.2 b.2 v; omega
        · omega
      · omega
section
variable {C : SC} {r' : Nat}
theorem explain_room {s : SS} {u : US} (hJ : Full s) (h1 : (explain C s u).1.most < C.room) (h2 : (explain C s u).1.most ≤ r') : explain { C with room := r' } s u = explain C s u ∧ Full (explain C s u).1 := (explain_form C s u).room hJ h1 h2
theorem cube_room {s : SS} {path vals : Nat × Nat} (hJ : Full s) (h1 : (cubeOf C s path vals).1.most < C.room) (h2 : (cubeOf C s path vals).1.most ≤ r') : cubeOf { C with room := r' } s path vals = cubeOf C s path vals ∧ Full (cubeOf C s path vals).1 := (cube_form C s path vals).room hJ h1 h2
theorem join_room {s : SS} {a b : Nat × Nat} {v : Nat} (hJ : Full s) (h1 : (joinOf C s a b v).1.most < C.room) (h2 : (joinOf C s a b v).1.most ≤ r') : joinOf { C with room := r' } s a b v = joinOf C s a b v ∧ Full (joinOf C s a b v).1 := (join_form C s a b v).room hJ h1 h2
theorem node_room {s : SS} {path : Nat × Nat} (hJ : Full s) (h1 : (nodeSt (nodeOf C s path)).1.most < C.room) (h2 : (nodeSt (nodeOf C s path)).1.most ≤ r') : nodeOf { C with room := r' } s path = nodeOf C s path ∧ Full (nodeSt (nodeOf C s path)).1 := by
  by_cases hb : 0 < C.budget ∧ C.budget ≤ s.nodes
  · have e : nodeOf C s path = .inl (s, (0, 0)) := by rw [nodeOf, if_pos hb]
    have e' : nodeOf { C with room := r' } s path = .inl (s, (0, 0)) := by
      have hb' : 0 < ({ C with room := r' } : SC).budget ∧ ({ C with room := r' } : SC).budget ≤ s.nodes := hb
      rw [nodeOf, if_pos hb']
    rw [e, e']
    exact ⟨rfl, hJ⟩
  · have hb' : ¬ (0 < ({ C with room := r' } : SC).budget ∧ ({ C with room := r' } : SC).budget ≤ s.nodes) := hb
    have hu : unitsOf { C with room := r' } { s with nodes := s.nodes + 1 } path = unitsOf C { s with nodes := s.nodes + 1 } path := rfl
    rw [nodeOf, if_neg hb] at h1 h2 ⊢
    rw [nodeOf, if_neg hb']
    dsimp only at h1 h2 ⊢
    rw [hu]
    generalize unitsOf C { s with nodes := s.nodes + 1 } path = U at *
    have hJ1 : Full { s with nodes := s.nodes + 1 } := hJ
    by_cases hc : U.conf ≠ 0
    · rw [if_pos hc] at h1 h2 ⊢
      rw [if_pos hc]
      obtain ⟨k1, k2⟩ := explain_room hJ1 h1 h2
      rw [k1]
      exact ⟨rfl, k2⟩
    · rw [if_neg hc] at h1 h2 ⊢
      rw [if_neg hc]
      have hcm : (cubeOf C { s with nodes := s.nodes + 1 } path U.vals).1.most < C.room ∧ (cubeOf C { s with nodes := s.nodes + 1 } path U.vals).1.most ≤ r' := by
        revert h1 h2
        split
        · exact fun a b => ⟨a, b⟩
        · exact fun a b => ⟨a, b⟩
      obtain ⟨k1, k2⟩ := cube_room hJ1 hcm.1 hcm.2
      rw [k1]
      refine ⟨rfl, ?_⟩
      split
      · exact k2
      · exact k2
theorem look_room : ∀ (m : Nat) (path : Nat × Nat) (d : Nat) (s : SS), Full s → (lookM C m path d s).1.most < C.room → (lookM C m path d s).1.most ≤ r' → lookM { C with room := r' } m path d s = lookM C m path d s ∧ Full (lookM C m path d s).1 := by
  intro m
  induction m with
  | zero =>
    intro path d s hJ h1 h2
    have hn : ∀ C : SC, lookM C 0 path d s = nodeSt (nodeOf C s path) := fun C => by
      rw [lookM]
      cases nodeOf C s path <;> rfl
    rw [hn] at h1 h2 ⊢
    rw [hn]
    obtain ⟨k1, k2⟩ := node_room hJ h1 h2
    rw [k1]
    exact ⟨rfl, k2⟩
  | succ m ih =>
    intro path d s hJ h1 h2
    rw [lookM] at h1 h2 ⊢
    rw [lookM]
    have key : (nodeSt (nodeOf C s path)).1.most < C.room ∧ (nodeSt (nodeOf C s path)).1.most ≤ r' := by
      revert h1 h2
      cases h : nodeOf C s path with
      | inl r => exact fun a b => ⟨a, b⟩
      | inr r =>
        obtain ⟨s1, vals⟩ := r
        dsimp only [nodeSt]
        generalize (C.q.vars.getD d (0, false)).1 = v
        generalize (if hasLit vals (-(v : Int)) = true then -(v : Int) else (v : Int)) = side
        have ha := look_most C m (withLit path side) (d + 1) s1
        generalize lookM C m (withLit path side) (d + 1) s1 = a at *
        split
        · have hb := look_most C m (withLit path (-side)) (d + 1) a.1
          generalize lookM C m (withLit path (-side)) (d + 1) a.1 = b at *
          split
          · have := join_most C b.1 a.2 b.2 v
            intro x y; omega
          · intro x y; omega
        · intro x y; omega
    obtain ⟨k1, k2⟩ := node_room hJ key.1 key.2
    rw [k1]
    cases h : nodeOf C s path with
    | inl r =>
      rw [h] at k2
      exact ⟨rfl, k2⟩
    | inr r =>
      obtain ⟨s1, vals⟩ := r
      rw [h] at k2 h1 h2
      have hJ1 : Full s1 := k2
      dsimp only at h1 h2 ⊢
      generalize (C.q.vars.getD d (0, false)).1 = v at *
      generalize (if hasLit vals (-(v : Int)) = true then -(v : Int) else (v : Int)) = side at *
      have ia := ih (withLit path side) (d + 1) s1 hJ1
      have hma := look_most C m (withLit path side) (d + 1) s1
      generalize lookM C m (withLit path side) (d + 1) s1 = a at *
      generalize lookM { C with room := r' } m (withLit path side) (d + 1) s1 = a' at *
      cases hha : hasVarB (a.1.lits a.2) v with
      | false =>
        rw [hha, if_neg (by decide)] at h1 h2
        obtain ⟨j1, j2⟩ := ia h1 h2
        rw [j1, hha, if_neg (by decide)]
        exact ⟨rfl, j2⟩
      | true =>
        rw [hha, if_pos rfl] at h1 h2
        have hmb := look_most C m (withLit path (-side)) (d + 1) a.1
        have hab : a.1.most < C.room ∧ a.1.most ≤ r' := by
          revert h1 h2
          split
          · have := join_most C (lookM C m (withLit path (-side)) (d + 1) a.1).1 a.2 (lookM C m (withLit path (-side)) (d + 1) a.1).2 v
            intro x y; omega
          · intro x y; omega
        obtain ⟨j1, j2⟩ := ia hab.1 hab.2
        rw [j1, hha, if_pos rfl]
        have ib := ih (withLit path (-side)) (d + 1) a.1 j2
        generalize lookM C m (withLit path (-side)) (d + 1) a.1 = b at *
        generalize lookM { C with room := r' } m (withLit path (-side)) (d + 1) a.1 = b' at *
        cases hhb : hasVarB (b.1.lits b.2) v with
        | false =>
          rw [hhb, if_neg (by decide)] at h1 h2
          obtain ⟨i1, i2⟩ := ib h1 h2
          rw [i1, hhb, if_neg (by decide)]
          exact ⟨rfl, i2⟩
        | true =>
          rw [hhb, if_pos rfl] at h1 h2
          have hjm := join_most C b.1 a.2 b.2 v
          obtain ⟨i1, i2⟩ := ib (by omega) (by omega)
          rw [i1, hhb, if_pos rfl]
          exact join_room i2 h1 h2
end
end Go.Proofs.YtgipjjhkhfihpaaDoor

namespace Go.Proofs.YtgipjjhkhfihpaaDoor
open Go.RowKit

theorem beginC_budget (q : QS) (n room : Nat) : beginC q n room = { beginC q 0 room with budget := n } := rfl
theorem beginC_room (q : QS) (n room r' : Nat) : beginC q n r' = { beginC q n room with room := r' } := rfl
/-- A budget of as many nodes, or more: all is the same. A lesser one: unknown. -/
theorem verdict_budget (q : QS) (room n : Nat) (hn : 0 < n) : ((verdict q 0 room).nodes ≤ n → verdict q n room = verdict q 0 room) ∧ (n < (verdict q 0 room).nodes → (verdict q n room).kind = 0 ∧ (verdict q n room).nodes = n ∧ (verdict q n room).text = []) := by
  have h := look_budget (beginC q 0 room) rfl n hn q.vars.length (0, 0) 0 (beginS q) (Nat.zero_le _)
  rw [← beginC_budget] at h
  obtain ⟨h1, h2⟩ := h
  constructor
  · intro hle
    have : solveM q n room = solveM q 0 room := h1 hle
    unfold verdict
    rw [this]
  · intro hlt
    obtain ⟨e1, e2⟩ := h2 hlt
    have e1' : (solveM q n room).2.1 = 0 := by show (lookM _ _ _ _ _).2.1 = 0; rw [e1]
    exact ⟨e1', e2, by unfold verdict; dsimp only; rw [if_pos e1']⟩
/-- With room for just as many as were kept, all is as it was. -/
theorem verdict_room (q : QS) (room : Nat) (h : (verdict q 0 room).lemmas < room) : verdict q 0 (verdict q 0 room).lemmas = verdict q 0 room := by
  have h1 := look_room (C := beginC q 0 room) (r' := (verdict q 0 room).lemmas) q.vars.length (0, 0) 0 (beginS q) rfl h (Nat.le_refl _)
  rw [← beginC_room q 0 room] at h1
  have : solveM q 0 (verdict q 0 room).lemmas = solveM q 0 room := h1.1
  show (let r := solveM q 0 (verdict q 0 room).lemmas; (⟨r.2.1, r.1.nodes, r.1.most, if r.2.1 = 0 then [] else textP (r.2.1 == 2) (shortOf (r.1.proof r.2.1) r.2.2)⟩ : Vd)) = _
  rw [this]
  rfl
end Go.Proofs.YtgipjjhkhfihpaaDoor
