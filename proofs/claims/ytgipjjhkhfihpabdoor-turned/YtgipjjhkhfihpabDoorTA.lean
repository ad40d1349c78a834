import Derived.Test.YtgipjjhkhfihpabDoorAJ
import Derived.Test.YtgipjjhkhfihpabDoorAZ
import Derived.Deep.QuietTactic
import Derived.BigQuiet
import Derived.Test.YtgipjjhkhfihpabDoorCards
import Derived.Test.YtgipjjhkhfihpabDoorTie
import Derived.ProofKit
import Derived.LaidMore
import Derived.Stop.Joined
import Derived.Lib.LaidTab
import Derived.OpenShut
import Derived.Deep.DeepHandedRow
import Derived.WalkKit
import Derived.ChangeMaps5
namespace Go.Proofs.YtgipjjhkhfihpabDoor
open Go.RowKit

/-! ### Lines cut at blanks and joined again -/
theorem cutAt_same (c : UInt8) (r : List UInt8) : cutAt c (c :: r) = [] :: cutAt c r := by
  have e0 : cutAt c (c :: r) = (r.foldl (cutStep c) (cutStep c ([], []) c)).1 ++ [(r.foldl (cutStep c) (cutStep c ([], []) c)).2] := rfl
  have e : cutStep c ([], []) c = ([[]], []) := by unfold cutStep; rw [if_pos rfl]; rfl
  rw [e0, e, cut_shift]
  obtain ⟨hd, tl, h⟩ := cutAt_ne c r
  rw [h]; rfl
def joinB (tl : List (List UInt8)) : List UInt8 := tl.flatMap (fun w => 32 :: w)
theorem joinB_cons (w : List UInt8) (tl : List (List UInt8)) : joinB (w :: tl) = 32 :: (w ++ joinB tl) := by simp [joinB]
theorem cutAt_back (r : List UInt8) : ∀ hd tl, cutAt 32 r = hd :: tl → r = hd ++ joinB tl ∧ (32 : UInt8) ∉ hd ∧ ∀ w ∈ tl, (32 : UInt8) ∉ w := by
  induction r with
  | nil =>
    intro hd tl h
    have h' : [[]] = hd :: tl := h
    injection h' with a b
    subst a b
    simp [joinB]
  | cons b r ih =>
    intro hd tl h
    obtain ⟨hd', tl', h'⟩ := cutAt_ne 32 r
    obtain ⟨i1, i2, i3⟩ := ih hd' tl' h'
    by_cases hb : b = 32
    · subst hb
      rw [cutAt_same, h'] at h
      injection h with a c
      subst a c
      refine ⟨by rw [joinB_cons, ← i1]; rfl, by simp, ?_⟩
      intro w hw
      rcases List.mem_cons.1 hw with rfl | hw
      · exact i2
      · exact i3 w hw
    · rw [cutAt_cons 32 b r hb hd' tl' h'] at h
      injection h with a c
      subst a c
      exact ⟨by rw [List.cons_append, ← i1], by rw [List.mem_cons, not_or]; exact ⟨Ne.symm hb, i2⟩, i3⟩
theorem cutAt_joinB (tl : List (List UInt8)) : (∀ w ∈ tl, (32 : UInt8) ∉ w) → ∀ hd : List UInt8, (32 : UInt8) ∉ hd → cutAt 32 (hd ++ joinB tl) = hd :: tl := by
  induction tl with
  | nil =>
    intro _ hd
    induction hd with
    | nil => intro _; rfl
    | cons b hd ih =>
      intro h
      rw [List.mem_cons, not_or] at h
      exact cutAt_cons 32 b _ (Ne.symm h.1) hd [] (ih h.2)
  | cons w tl ih =>
    intro h3 hd
    have hi := ih (fun x hx => h3 x (by simp [hx])) w (h3 w (by simp))
    induction hd with
    | nil => intro _; rw [List.nil_append, joinB_cons, cutAt_same, hi]
    | cons b hd ih2 =>
      intro h
      rw [List.mem_cons, not_or] at h
      exact cutAt_cons 32 b _ (Ne.symm h.1) hd _ (ih2 h.2)
/-! ### Literals' words -/
theorem dig_pos {w : List UInt8} (h : 0 < dig w) : ∃ d : UInt8, w = [d] ∧ 49 ≤ d.toNat ∧ d.toNat ≤ 56 ∧ (dig w).toNat = d.toNat - 48 := by
  match w with
  | [] => exact absurd h (by decide)
  | _ :: _ :: _ => exact absurd h (by simp [dig])
  | [c] =>
    simp only [dig] at h ⊢
    split at h
    · next hc => exact ⟨c, rfl, by omega, by omega, by rw [if_pos hc]; omega⟩
    · exact absurd h (by decide)
theorem dig_one (d : UInt8) (h1 : 49 ≤ d.toNat) (h2 : d.toNat ≤ 56) : dig [d] = ((d.toNat - 48 : Nat) : Int) := by
  simp only [dig]
  rw [if_pos (by omega)]
  omega
def LitW (w : List UInt8) : Prop := ∃ d : UInt8, 49 ≤ d.toNat ∧ d.toNat ≤ 56 ∧ (w = [d] ∨ w = [45, d])
theorem litInto_ok {c : Nat × Nat} {w : List UInt8} (h : (litInto c w).2 = true) : LitW w := by
  by_cases hh : w.head? = some 45
  · cases w with
    | nil => cases hh
    | cons b r =>
      have hb : b = 45 := by simpa using hh
      subst hb
      rw [litInto_neg] at h
      obtain ⟨d, rfl, h1, h2, _⟩ := dig_pos (of_decide_eq_true h)
      exact ⟨d, h1, h2, Or.inr rfl⟩
  · rw [litInto_pos c w hh] at h
    obtain ⟨d, rfl, h1, h2, _⟩ := dig_pos (of_decide_eq_true h)
    exact ⟨d, h1, h2, Or.inl rfl⟩
theorem lits_all (ws : List (List UInt8)) : ∀ (st : (Nat × Nat) × Bool), (ws.foldl (fun st w => ((litInto st.1 w).1, st.2 && (litInto st.1 w).2)) st).2 = true → st.2 = true ∧ ∀ w ∈ ws, LitW w := by
  induction ws with
  | nil => intro st h; exact ⟨h, fun w hw => by cases hw⟩
  | cons w ws ih =>
    intro st h
    obtain ⟨h1, h2⟩ := ih _ h
    dsimp only at h1
    rw [Bool.and_eq_true] at h1
    refine ⟨h1.1, fun x hx => ?_⟩
    rcases List.mem_cons.1 hx with rfl | hx
    · exact litInto_ok h1.2
    · exact h2 x hx
/-- A line of a clause, by its words. -/
theorem cl_words {r : List UInt8} {c : Nat × Nat} (h : clRow r = some c) : ∃ tl, r = 99 :: joinB tl ∧ (∀ w ∈ tl, LitW w) ∧ (litsTo tl).2 = true ∧ c = (litsTo tl).1 := by
  unfold clRow at h
  obtain ⟨hd, tl, hw⟩ := cutAt_ne 32 r
  rw [hw] at h
  dsimp only at h
  split at h
  · next hh =>
    obtain ⟨rfl, h2⟩ := hh
    injection h with h
    exact ⟨tl, (cutAt_back r _ _ hw).1, (lits_all tl _ h2).2, h2, h.symm⟩
  · cases h
theorem litW_32 {w : List UInt8} (h : LitW w) : (32 : UInt8) ∉ w := by
  obtain ⟨d, h1, h2, h⟩ := h
  have : d ≠ 32 := fun e => by subst e; revert h1; decide
  rcases h with rfl | rfl <;> simp [Ne.symm this]
theorem litW_10 {w : List UInt8} (h : LitW w) : (10 : UInt8) ∉ w := by
  obtain ⟨d, h1, h2, h⟩ := h
  have : d ≠ 10 := fun e => by subst e; revert h1; decide
  rcases h with rfl | rfl <;> simp [Ne.symm this]
theorem cl_of_words {tl : List (List UInt8)} (h : ∀ w ∈ tl, LitW w) (h2 : (litsTo tl).2 = true) : clRow (99 :: joinB tl) = some (litsTo tl).1 := by
  have e := cutAt_joinB tl (fun w hw => litW_32 (h w hw)) [99] (by decide)
  unfold clRow
  rw [show (99 : UInt8) :: joinB tl = [99] ++ joinB tl from rfl, e]
  dsimp only
  rw [if_pos ⟨rfl, h2⟩]
end Go.Proofs.YtgipjjhkhfihpabDoor

namespace Go.Proofs.YtgipjjhkhfihpabDoor
open Go.RowKit

/-! ### Turned: a variable turned, in a text -/
def turnW (x : UInt8) (w : List UInt8) : List UInt8 := if w = [x] then [45, x] else if w = [45, x] then [x] else w
theorem turnW_lit {x : UInt8} (h1 : 49 ≤ x.toNat) (h2 : x.toNat ≤ 56) {w : List UInt8} (h : LitW w) : LitW (turnW x w) := by
  unfold turnW
  split
  · exact ⟨x, h1, h2, Or.inr rfl⟩
  · split
    · exact ⟨x, h1, h2, Or.inl rfl⟩
    · exact h
def turnR (x : UInt8) : UInt8 → List UInt8 → List UInt8 → List UInt8
  | _, t, [] => t
  | p, t, b :: r => turnR x b (if b = x then (if p = 45 then t.dropLast ++ [b] else t ++ [45, b]) else t ++ [b]) r
def turnL (x : UInt8) (r : List UInt8) : List UInt8 := turnR x 0 [] r
theorem turnR_len (x : UInt8) (r : List UInt8) : ∀ (p : UInt8) (t : List UInt8), (turnR x p t r).length ≤ t.length + 2 * r.length := by
  induction r with
  | nil => intro p t; simp [turnR]
  | cons b r ih =>
    intro p t
    rw [turnR]
    refine Nat.le_trans (ih _ _) ?_
    rw [List.length_cons]
    split
    · split
      · rw [List.length_append, List.length_dropLast, List.length_singleton]; omega
      · rw [List.length_append]; simp; omega
    · rw [List.length_append, List.length_singleton]; omega
theorem turnR_word {x : UInt8} (h1 : 49 ≤ x.toNat) {w : List UInt8} (hw : LitW w) (p : UInt8) (t rest : List UInt8) : ∃ q, turnR x p t (32 :: (w ++ rest)) = turnR x q (t ++ 32 :: turnW x w) rest := by
  have hx32 : (32 : UInt8) ≠ x := fun e => by subst e; revert h1; decide
  have hx45 : (45 : UInt8) ≠ x := fun e => by subst e; revert h1; decide
  obtain ⟨d, g1, g2, rfl | rfl⟩ := hw
  · refine ⟨d, ?_⟩
    rw [turnR, if_neg hx32, List.singleton_append, turnR]
    by_cases hd : d = x
    · subst hd
      rw [if_pos rfl, if_neg (by decide)]
      simp [turnW]
    · rw [if_neg hd]
      have : turnW x [d] = [d] := by unfold turnW; rw [if_neg (by simpa using hd), if_neg (by simp)]
      rw [this]; simp
  · refine ⟨d, ?_⟩
    rw [turnR, if_neg hx32, List.cons_append, List.singleton_append, turnR, if_neg hx45, turnR]
    by_cases hd : d = x
    · subst hd
      rw [if_pos rfl, if_pos rfl]
      simp [turnW]
    · rw [if_neg hd]
      have : turnW x [45, d] = [45, d] := by unfold turnW; rw [if_neg (by simp), if_neg (by simpa using hd)]
      rw [this]; simp
theorem turnR_words {x : UInt8} (h1 : 49 ≤ x.toNat) (tl : List (List UInt8)) : (∀ w ∈ tl, LitW w) → ∀ (p : UInt8) (t : List UInt8), turnR x p t (joinB tl) = t ++ joinB (tl.map (turnW x)) := by
  induction tl with
  | nil => intro _ p t; simp [joinB, turnR]
  | cons w tl ih =>
    intro h p t
    rw [joinB_cons]
    obtain ⟨q, e⟩ := turnR_word h1 (h w (by simp)) p t (joinB tl)
    rw [e, ih (fun x hx => h x (by simp [hx])), List.map_cons, joinB_cons]
    simp
theorem turnL_row {x : UInt8} (h1 : 49 ≤ x.toNat) (h2 : x.toNat ≤ 56) (tl : List (List UInt8)) (h : ∀ w ∈ tl, LitW w) : turnL x (99 :: joinB tl) = 99 :: joinB (tl.map (turnW x)) := by
  have hx : (99 : UInt8) ≠ x := fun e => by subst e; revert h2; decide
  unfold turnL
  rw [turnR, if_neg hx, turnR_words h1 tl h]
  rfl
theorem orp_bit (a v u : Nat) : (a ||| 2 ^ v).testBit u = (a.testBit u || decide (v = u)) := by rw [Nat.testBit_or, Nat.testBit_two_pow]
theorem lit_turn {x : UInt8} (h1 : 49 ≤ x.toNat) (h2 : x.toNat ≤ 56) {w : List UInt8} (hw : LitW w) {c c' : Nat × Nat} (hc : FlipC (x.toNat - 48) c c') : (litInto c' (turnW x w)).2 = true ∧ FlipC (x.toNat - 48) (litInto c w).1 (litInto c' (turnW x w)).1 := by
  have p0 : ∀ (c : Nat × Nat) (d : UInt8), 49 ≤ d.toNat → d.toNat ≤ 56 → litInto c [d] = ((c.1 ||| 2 ^ (d.toNat - 48), c.2), true) := by
    intro c d g1 g2
    have hd : d ≠ 45 := fun e => by subst e; revert g1; decide
    rw [litInto_pos c [d] (by simpa using hd), dig_one d g1 g2, Int.toNat_natCast, decide_eq_true (by omega)]
  have n0 : ∀ (c : Nat × Nat) (d : UInt8), 49 ≤ d.toNat → d.toNat ≤ 56 → litInto c [45, d] = ((c.1, c.2 ||| 2 ^ (d.toNat - 48)), true) := by
    intro c d g1 g2
    rw [litInto_neg, dig_one d g1 g2, Int.toNat_natCast, decide_eq_true (by omega)]
  obtain ⟨d, g1, g2, rfl | rfl⟩ := hw
  · by_cases hd : d = x
    · subst hd
      have : turnW d [d] = [45, d] := by simp [turnW]
      rw [this, p0 _ d g1 g2, n0 _ d g1 g2]
      refine ⟨rfl, ?_, ?_, ?_, ?_⟩
      · exact hc.p
      · dsimp only; rw [orp_bit, orp_bit, hc.n]
      · intro u hu; dsimp only; rw [orp_bit, hc.rp u hu, decide_eq_false (Ne.symm hu), Bool.or_false]
      · intro u hu; dsimp only; rw [orp_bit, hc.rn u hu, decide_eq_false (Ne.symm hu), Bool.or_false]
    · have : turnW x [d] = [d] := by unfold turnW; rw [if_neg (by simpa using hd), if_neg (by simp)]
      have hne : d.toNat - 48 ≠ x.toNat - 48 := fun e => hd (UInt8.toNat_inj.1 (by omega))
      rw [this, p0 _ d g1 g2, p0 _ d g1 g2]
      refine ⟨rfl, ?_, ?_, ?_, ?_⟩
      · dsimp only; rw [orp_bit, hc.p, decide_eq_false hne, Bool.or_false]
      · dsimp only; rw [orp_bit, hc.n, decide_eq_false hne, Bool.or_false]
      · intro u hu; dsimp only; rw [orp_bit, orp_bit, hc.rp u hu]
      · exact hc.rn
  · by_cases hd : d = x
    · subst hd
      have : turnW d [45, d] = [d] := by simp [turnW]
      rw [this, p0 _ d g1 g2, n0 _ d g1 g2]
      refine ⟨rfl, ?_, ?_, ?_, ?_⟩
      · dsimp only; rw [orp_bit, orp_bit, hc.p]
      · exact hc.n
      · intro u hu; dsimp only; rw [orp_bit, hc.rp u hu, decide_eq_false (Ne.symm hu), Bool.or_false]
      · intro u hu; dsimp only; rw [orp_bit, hc.rn u hu, decide_eq_false (Ne.symm hu), Bool.or_false]
    · have : turnW x [45, d] = [45, d] := by unfold turnW; rw [if_neg (by simp), if_neg (by simpa using hd)]
      have hne : d.toNat - 48 ≠ x.toNat - 48 := fun e => hd (UInt8.toNat_inj.1 (by omega))
      rw [this, n0 _ d g1 g2, n0 _ d g1 g2]
      refine ⟨rfl, ?_, ?_, ?_, ?_⟩
      · dsimp only; rw [orp_bit, hc.p, decide_eq_false hne, Bool.or_false]
      · dsimp only; rw [orp_bit, hc.n, decide_eq_false hne, Bool.or_false]
      · exact hc.rp
      · intro u hu; dsimp only; rw [orp_bit, orp_bit, hc.rn u hu]
theorem lits_turn {x : UInt8} (h1 : 49 ≤ x.toNat) (h2 : x.toNat ≤ 56) (tl : List (List UInt8)) : (∀ w ∈ tl, LitW w) → ∀ (c c' : Nat × Nat) (b : Bool), FlipC (x.toNat - 48) c c' →
    ((tl.map (turnW x)).foldl (fun st w => ((litInto st.1 w).1, st.2 && (litInto st.1 w).2)) (c', true)).2 = true ∧
    FlipC (x.toNat - 48) (tl.foldl (fun st w => ((litInto st.1 w).1, st.2 && (litInto st.1 w).2)) (c, b)).1 ((tl.map (turnW x)).foldl (fun st w => ((litInto st.1 w).1, st.2 && (litInto st.1 w).2)) (c', true)).1 := by
  induction tl with
  | nil => intro _ c c' b h; exact ⟨rfl, h⟩
  | cons w tl ih =>
    intro h c c' b hc
    obtain ⟨e1, e2⟩ := lit_turn h1 h2 (h w (by simp)) hc
    rw [List.map_cons, List.foldl_cons, List.foldl_cons]
    dsimp only
    rw [e1]
    exact ih (fun x hx => h x (by simp [hx])) _ _ _ e2
theorem cl_turned {r : List UInt8} {c : Nat × Nat} (h : clRow r = some c) {x : UInt8} (h1 : 49 ≤ x.toNat) (h2 : x.toNat ≤ 56) : ∃ c', clRow (turnL x r) = some c' ∧ FlipC (x.toNat - 48) c c' ∧ (10 : UInt8) ∉ turnL x r := by
  obtain ⟨tl, rfl, hw, ho, rfl⟩ := cl_words h
  obtain ⟨e1, e2⟩ := lits_turn h1 h2 tl hw (0, 0) (0, 0) true ⟨rfl, rfl, fun _ _ => rfl, fun _ _ => rfl⟩
  have hw' : ∀ w ∈ tl.map (turnW x), LitW w := by
    intro w hw2
    obtain ⟨w0, hm, rfl⟩ := List.mem_map.1 hw2
    exact turnW_lit h1 h2 (hw w0 hm)
  refine ⟨(litsTo (tl.map (turnW x))).1, ?_, e2, ?_⟩
  · rw [turnL_row h1 h2 tl hw]
    exact cl_of_words hw' e1
  · rw [turnL_row h1 h2 tl hw, List.mem_cons, not_or]
    refine ⟨by decide, fun hh => ?_⟩
    obtain ⟨w, hm, hh⟩ := List.mem_flatMap.1 hh
    rcases List.mem_cons.1 hh with hh | hh
    · revert hh; decide
    · exact litW_10 (hw' w hm) hh
theorem cls_turned {x : UInt8} (h1 : 49 ≤ x.toNat) (h2 : x.toNat ≤ 56) (C : List (List UInt8)) : ∀ cs, cls C = some cs → ∃ cs', cls (C.reverse.map (turnL x)) = some cs' ∧ cs'.length = cs.length ∧ (∀ c ∈ cs, ∃ c' ∈ cs', FlipC (x.toNat - 48) c c') ∧ (∀ c' ∈ cs', ∃ c ∈ cs, FlipC (x.toNat - 48) c c') ∧ ∀ r ∈ C.reverse.map (turnL x), (10 : UInt8) ∉ r := by
  induction C with
  | nil => intro cs h; simp [cls] at h; subst h; exact ⟨[], rfl, rfl, by simp, by simp, by simp⟩
  | cons r C ih =>
    intro cs h
    obtain ⟨ca, cb, g1, g2, g3⟩ := cls_split [r] C cs h
    obtain ⟨c, hc⟩ : ∃ c, clRow r = some c := cls_rows h r (by simp)
    have hca : ca = [c] := by simp [cls, hc] at g1; exact g1.symm
    subst hca
    obtain ⟨cs', i1, i2, i3, i4, i5⟩ := ih cb g2
    obtain ⟨c', t1, t2, t3⟩ := cl_turned hc h1 h2
    refine ⟨cs' ++ [c'], ?_, ?_, ?_, ?_, ?_⟩
    · rw [List.reverse_cons, List.map_append]
      exact cls_app _ _ _ _ i1 (by simp [cls, t1])
    · rw [g3]; simp [i2]
    · intro z hz
      rw [g3] at hz
      rcases List.mem_append.1 hz with hz | hz
      · have : z = c := by simpa using hz
        subst this
        exact ⟨c', by simp, t2⟩
      · obtain ⟨y, hy1, hy2⟩ := i3 z hz
        exact ⟨y, by simp [hy1], hy2⟩
    · intro z hz
      rw [g3]
      rcases List.mem_append.1 hz with hz | hz
      · obtain ⟨y, hy1, hy2⟩ := i4 z hz
        exact ⟨y, by simp [hy1], hy2⟩
      · have : z = c' := by simpa using hz
        subst this
        exact ⟨c, by simp, t2⟩
    · intro z hz
      rw [List.reverse_cons, List.map_append] at hz
      rcases List.mem_append.1 hz with hz | hz
      · exact i5 z hz
      · have : z = turnL x r := by simpa using hz
        subst this
        exact t3
theorem turned_len (x : UInt8) (C : List (List UInt8)) : (joinN (C.map (turnL x))).length ≤ 2 * (joinN C).length := by
  induction C with
  | nil => simp [joinN]
  | cons r C ih =>
    have e : ∀ (r : List UInt8) m, joinN (r :: m) = r ++ (10 :: joinN m) := fun r m => by simp [joinN]
    have := turnR_len x r 0 []
    rw [List.map_cons, e, e, List.length_append, List.length_append, List.length_cons, List.length_cons]
    have h : (turnL x r).length ≤ 2 * r.length := by unfold turnL; simpa using this
    omega
theorem joinN_rev_len (C : List (List UInt8)) : (joinN C.reverse).length = (joinN C).length := by
  rw [join_len, join_len, List.map_reverse, List.sum_reverse]
/-- A variable turned all over, the clauses the other way round: the text, if it is not too long, has the same verdict. -/
theorem turned_law {l : List UInt8} {P C : List (List UInt8)} {qs : List (Bool × List Nat)} {cs : List (Nat × Nat)} (h : TextIs l P C qs cs) {x : UInt8} (h1 : 49 ≤ x.toNat) (h2 : x.toNat ≤ 56) :
    (joinN (P ++ C.reverse.map (turnL x))).length ≤ 8000 ∧ ((joinN (P ++ C.reverse.map (turnL x))).length ≤ 2000 → (vkind (joinN (P ++ C.reverse.map (turnL x)))).1 = (vkind l).1) := by
  obtain ⟨cs', i1, i2, i3, i4, i5⟩ := cls_turned h1 h2 C cs h.cls
  have e : ∀ A B : List (List UInt8), joinN (A ++ B) = joinN A ++ joinN B := fun A B => by simp [joinN]
  constructor
  · have h1 := h.len
    rw [h.text, e, List.length_append] at h1
    have h2 := turned_len x C.reverse
    rw [joinN_rev_len] at h2
    rw [e, List.length_append]
    omega
  · intro hl
    have h' : TextIs (joinN (P ++ C.reverse.map (turnL x))) P (C.reverse.map (turnL x)) qs cs' := by
      refine ⟨hl, rfl, ?_, h.prefs, i1, by rw [i2]; exact h.c24, h.nodup⟩
      intro r hr
      rcases List.mem_append.1 hr with hr | hr
      · exact h.nl r (by simp [hr])
      · exact i5 r hr
    rw [vkind_text h, vkind_text h', truth_turned qs cs cs' (x.toNat - 48) (by omega) (by omega) h.nodup i3 i4]
end Go.Proofs.YtgipjjhkhfihpabDoor

namespace Go.Proofs.YtgipjjhkhfihpabDoor
open Go.RowKit

/-! ### turned -/
theorem turn_next (x : UInt8) (r : List UInt8) (k : Nat) (h : k < r.length) (p : UInt8) (acc out : List UInt8) (ht : turnR x p acc (r.drop k) = out) : turnR x r[k] (if r[k] = x then (if p = 45 then acc.dropLast ++ [r[k]] else acc ++ [45, r[k]]) else acc ++ [r[k]]) (r.drop (k + 1)) = out := by
  rw [List.drop_eq_getElem_cons h, turnR] at ht
  exact ht
/-- What the loop over the clauses has made. -/
def turnedTo (x : UInt8) (P C : List (List UInt8)) (i : Nat) : List (List UInt8) := P ++ (C.drop i).reverse.map (turnL x)
theorem turnedTo_all (x : UInt8) (P C : List (List UInt8)) : turnedTo x P C C.length = P := by simp [turnedTo]
theorem turnedTo_zero (x : UInt8) (P C : List (List UInt8)) : turnedTo x P C 0 = P ++ C.reverse.map (turnL x) := by simp [turnedTo]
theorem turnedTo_next (x : UInt8) (P C : List (List UInt8)) (i : Nat) (h : i < C.length) : turnedTo x P C i = turnedTo x P C (i + 1) ++ [turnL x C[i]] := by
  unfold turnedTo
  rw [List.drop_eq_getElem_cons h, List.reverse_cons, List.map_append]
  simp
theorem turnedTo_len (x : UInt8) (P C : List (List UInt8)) (i : Nat) : (turnedTo x P C i).length ≤ P.length + C.length := by
  unfold turnedTo
  simp
attribute [local go_sem] ba_get
set_option maxRecDepth 100000 in
set_option maxHeartbeats 6400000 in
theorem kturned_any (l : List UInt8) (a : Int) (w : World) (ht : TabAt w) (hll : l.length ≤ 8192) (ha1 : -9223372036854775808 ≤ a) (ha2 : a ≤ 9223372036854775807) :
    Calls Tryd.prog 9 #[.string ⟨l.toArray⟩, .int .i64 a] w fun e w' => e = .returned (.bool true) ∧ Below w.heap.size w w' := by
  obtain ⟨i0, hi, hz0, hz1, hz2⟩ := info_parts infoStr
  go_enter Tryd.func9, Tryd.ntmps9
  go_wp2_with fail
  refine (kkind_any l w ht).mono ?_
  rintro e u1 ⟨rfl, b1⟩
  generalize hvk : vkind l = vk at *
  have HVK := hide hvk
  clear hvk
  obtain ⟨k0, p0⟩ := vk
  dsimp only
  by_cases hv : k0 = 0
  · have hv1 : ((k0 : Int) == 0) = true := by rw [beq_iff_eq]; omega
    have hv2 : (k0 == 0) = true := by rw [beq_iff_eq]; exact hv
    clear hv
    go_wp2_with fail
    go_ret
    exact ⟨rfl, b1⟩
  · obtain ⟨P, C, qs, cs, hT⟩ := text_vkind (l := l) (by rw [unhide HVK]; exact hv)
    have HT := hide hT
    have hv1 : ((k0 : Int) == 0) = false := by rw [beq_eq_false_iff_ne]; omega
    have hv2 : (k0 == 0) = false := by rw [beq_eq_false_iff_ne]; exact hv
    clear hv
    go_wp2_with fail
    refine (kpick_eq a 8 _ (by decide) (by decide) ha1 ha2).mono ?_
    rintro e u2 ⟨rfl, rfl⟩
    have hpx := pickK_lt a 8 (by decide)
    generalize pickK a 8 = px at *
    obtain ⟨x, hxn⟩ : ∃ x : UInt8, x.toNat = 49 + px := ⟨UInt8.ofNat (49 + px), by rw [UInt8.toNat_ofNat', Nat.mod_eq_of_lt (by omega)]⟩
    have HXN := hide hxn
    have hx1 : 49 ≤ x.toNat := by omega
    have hx2 : x.toNat ≤ 56 := by omega
    clear hxn
    go_wp2_with fail
    refine (klines_any l u2 (by omega)).mono ?_
    rintro e u3 ⟨vl, rfl, hown, b3⟩
    have hB3 := b1.trans (b3.mono b1.size)
    obtain ⟨rows, hrows⟩ : ∃ X, X = P ++ C := ⟨_, rfl⟩
    have HR := hide hrows
    rw [lines_text hT, ← hrows] at hown
    obtain ⟨f1, f2⟩ := pref_rows_first hT
    have hjl : (joinN rows).length ≤ 2000 := by rw [hrows, ← hT.text]; exact hT.len
    have hge := joinN_ge rows
    have hpc : rows.length = P.length + C.length := by rw [hrows, List.length_append]
    have HPC := hide hpc
    have HLAW := hide (turned_law hT hx1 hx2)
    rw [unhide HVK] at HLAW
    clear hT hrows hpc
    obtain ⟨aL, cL, rfl⟩ := own_form hown
    go_wp2_with fail
    refine (kclauses_rows _ rows P C (unhide HR) aL cL u3 hown f1 f2 (by omega)).mono ?_
    rintro e u4 ⟨rfl, b4⟩
    have hB4 := hB3.trans (b4.mono hB3.size)
    have hownL := own_below hown b4
    have HF2 : Hid (∀ j (hj : j < C.length), ∃ xs, C[j] = 99 :: xs) := hide (fun j hj => f2 _ (List.getElem_mem hj))
    have HRC : Hid (∀ j (hj : j < C.length), ∀ (hk : P.length + j < rows.length), rows[P.length + j] = C[j]) := hide (fun j hj hk => by
      have e := unhide HR
      subst e
      rw [List.getElem_append_right (by omega)]
      simp)
    have HTP : Hid (rows.take P.length = P) := hide (by rw [unhide HR]; simp)
    have hple : P.length ≤ rows.length := by have := unhide HPC; omega
    clear f1 f2 hown
    rcases hownL.2 with ⟨hVe, hn0⟩ | ⟨g, cap, cur, hVe, hbg, hblk, hnc, hcm, hcs, htake⟩
    · injection hVe with hVe _ hV2
      subst hVe hV2
      have hpl0 : P.length = 0 := by omega
      have hC0 : C.length = 0 := by have := unhide HPC; omega
      have hPn : P = [] := List.eq_nil_of_length_eq_zero hpl0
      have hCn : C = [] := List.eq_nil_of_length_eq_zero hC0
      have HK : Hid ((vkind []).1 = k0) := hide (by
        have h2 := (unhide HLAW).2
        subst hPn hCn
        exact h2 (by simp [joinN]))
      clear HLAW HF2 HRC HTP hPn hCn HT
      go_wp2_with fail
      go_loopg [10, 11] 0 (fun n vm vi wx => vi = .int .i64 (-1) ∧ vm = .slice none 0 0 ∧ wx = u4)
      case atStart => exact ⟨rfl, rfl, rfl⟩
      case round =>
        obtain ⟨rfl, rfl, rfl⟩ := hrel
        go_wp2_with fail
        refine (kjoined_n 0 0 [] rfl none 0 wr (World.ownsRow_nil _ _ _ _) (by simp [joinN])).mono ?_
        rintro e u6 ⟨rfl, b6⟩
        rw [show joinN ([] : List (List UInt8)) = [] from rfl]
        have hB6 := hB4.trans (b6.mono hB4.size)
        go_wp2_with fail
        refine (kkind_any [] u6 (ht.later hB6)).mono ?_
        rintro e u7 ⟨rfl, b7⟩
        have hB8 := hB6.trans (b7.mono hB6.size)
        rw [unhide HK]
        generalize (vkind []).2 = p7
        have hx5 : ((k0 : Int) == (k0 : Int)) = true := beq_self_eq_true _
        have hx6 : (k0 == k0) = true := beq_self_eq_true _
        go_wp2_with fail
        go_ret
        exact ⟨rfl, hB8⟩
    · injection hVe with hVe _ hV2
      subst hVe hV2
      have hnw0 := strs_news (strs_at hownL) 0 P.length
      rw [List.drop_zero] at hnw0
      have hcc : rows.length ≤ cL := hnc
      clear hblk hcs htake hcm hnc hbg
      go_wp2_with (at_builtin; refine wpList_append_own _ rfl _ _ 31 rfl u4.heap.size 9 i0 (.string ⟨#[]⟩) 1 16 Tryd.underlying31 hi hz0 hz1 hz2 rfl (by decide) (.slice none 0 0) 0 [] rfl (World.ownsRow_nil _ _ _ _) ⟨g, 0, none⟩ P.length _ ((rows.take P.length).map S) rfl (by simp; omega) hnw0 (one_strs _) (by unfold maxLen; omega) (by omega) (Nat.le_refl _) ?_; intro v5 w5 hown5 hgrow5 hnn5; clear hnn5; have hB5 : Below u4.heap.size u4 w5 := below_grown (Below.refl _ _) hgrow5 (World.ownsRow_nil u4 u4.heap.size 9 1) (Nat.le_refl _) (Nat.le_refl _); clear hgrow5; rw [List.nil_append, Nat.zero_add, unhide HTP] at hown5; obtain ⟨a5, c5, rfl⟩ := own_form hown5)
      go_loopg [10, 11] (C.length) (fun n vm vi wx => ∃ (iv : Int), vi = .int .i64 iv ∧ iv + 1 = (P.length : Int) + (n : Int) ∧ n ≤ C.length ∧ wx.ownsRow u4.heap.size 9 1 vm (turnedTo x P C n).length ((turnedTo x P C n).map S) ∧ Below u4.heap.size u4 wx)
      case atStart => exact ⟨_, rfl, by have := unhide HPC; omega, Nat.le_refl _, by rw [turnedTo_all]; exact hown5, hB5⟩
      case round =>
        obtain ⟨iv, rfl, hiv, hnC, hown6, hB6⟩ := hrel
        obtain ⟨a6, c6, rfl⟩ := own_form hown6
        by_cases hz : gk = 0
        · have hd3 : decide ((P.length : Int) ≤ iv) = false := decide_eq_false (by omega)
          subst hz
          rw [turnedTo_zero] at hown6
          rw [turnedTo_zero]
          obtain ⟨out, hout⟩ : ∃ X, X = P ++ C.reverse.map (turnL x) := ⟨_, rfl⟩
          rw [← hout] at hown6 HLAW
          rw [← hout]
          have HL8 := hide (unhide HLAW).1
          have HL2 := hide (unhide HLAW).2
          clear hout hiv HLAW
          go_wp2_with fail
          refine (kjoined_any u4.heap.size out a6 c6 wr hown6 (by have := unhide HL8; omega)).mono ?_
          rintro e u6 ⟨rfl, b6⟩
          have hB6' := hB4.trans (hB6.mono hB4.size)
          have hB7 := hB6'.trans (b6.mono hB6'.size)
          clear hown6
          have hol := unhide HL8
          go_wp2_with fail
          refine (kkind_any (joinN out) u6 (ht.later hB7)).mono ?_
          rintro e u7 ⟨rfl, b7⟩
          have hB8 := hB7.trans (b7.mono hB7.size)
          generalize vkind (joinN out) = vk7 at *
          obtain ⟨k7, p7⟩ := vk7
          dsimp only at HL2 ⊢
          generalize joinN out = jo at *
          by_cases hjo : jo.length ≤ 2000
          · have h7 : k7 = k0 := unhide HL2 hjo
            have hx5 : ((k7 : Int) == (k0 : Int)) = true := by rw [beq_iff_eq]; omega
            have hx6 : (k7 == k0) = true := by rw [beq_iff_eq]; omega
            clear HL2 hjo h7
            go_wp2_with fail
            go_ret
            exact ⟨rfl, hB8⟩
          · have hx5 : decide ((2000 : Int) < (jo.length : Int)) = true := decide_eq_true (by omega)
            have hx6 : decide (2000 < jo.length) = true := decide_eq_true (by omega)
            clear HL2 hjo
            cases hx7 : ((k7 : Int) == (k0 : Int))
            · have hx8 : (k7 == k0) = false := by rw [beq_eq_false_iff_ne]; rw [beq_eq_false_iff_ne] at hx7; omega
              go_wp2_with fail
              go_ret
              exact ⟨rfl, hB8⟩
            · have hx8 : (k7 == k0) = true := by rw [beq_iff_eq]; rw [beq_iff_eq] at hx7; omega
              go_wp2_with fail
              go_ret
              exact ⟨rfl, hB8⟩
        · have hd3 : decide ((P.length : Int) ≤ iv) = true := decide_eq_true (by omega)
          obtain ⟨ix, rfl⟩ := Int.eq_ofNat_of_zero_le (show 0 ≤ iv by omega)
          have hd4 : decide (P.length ≤ ix) = true := decide_eq_true (by omega)
          have hix : ix = P.length + (gk - 1) := by omega
          have hjc : gk - 1 < C.length := by omega
          have hxr : ix < rows.length := by have := unhide HPC; omega
          have hcx := strs_at (own_below hownL hB6) ix hxr
          have hr0 := unhide HF2 (gk - 1) hjc
          have hrr : rows[ix] = C[gk - 1] := by subst hix; exact unhide HRC (gk - 1) hjc hxr
          have hrl : rows[ix].length ≤ 2000 := by
            have h1 := joinN_take_le rows (ix + 1)
            rw [List.take_succ_eq_append_getElem hxr, joinN_snoc, List.length_append, List.length_append] at h1
            omega
          have hnx := turnedTo_next x P C (gk - 1) hjc
          rw [show gk - 1 + 1 = gk from by omega] at hnx
          have hto := turnedTo_len x P C gk
          rw [hrr] at hcx hrl
          have HRX := hide hrr
          have hto2 : (turnedTo x P C gk).length ≤ 2000 := by have := unhide HPC; omega
          generalize C[gk - 1] = r at *
          have HNX := hide hnx
          have HR0 := hide hr0
          have HIV := hide hiv
          clear hnx hr0 hrr hix hiv
          obtain ⟨wo, rfl⟩ : ∃ wo, wo = wr := ⟨_, rfl⟩
          obtain ⟨go, rfl⟩ : ∃ go, go = gk := ⟨_, rfl⟩
          go_wp2_with fail
          go_loopg [12, 13] (r.length) (fun n vt vj wx => ∃ (k : Nat) (acc : List UInt8) (p : UInt8), vj = .int .i64 (k : Int) ∧ vt = .string ⟨acc.toArray⟩ ∧ k + n = r.length ∧ turnR x p acc (r.drop k) = turnL x r ∧ (∀ j, k = j + 1 → r[j]? = some p) ∧ (0 < k → 0 < acc.length) ∧ acc.length ≤ 2 * k ∧ Below wo.heap.size wo wx)
          case atStart => exact ⟨0, [], 0, rfl, rfl, by omega, rfl, fun j h => by omega, fun h => by omega, by simp, Below.refl _ _⟩
          case round =>
            obtain ⟨k, acc, p, rfl, rfl, hkm, htr, hpp, hpos, hal, hbi⟩ := hrel
            have hcx := strs_at (own_below (own_below hownL hB6) hbi) ix hxr
            rw [unhide HRX] at hcx
            have HTR := hide htr
            have HPP := hide hpp
            clear hpp htr
            by_cases hlt : k < r.length
            · have hd5 : decide ((k : Int) < (r.length : Int)) = true := decide_eq_true (by omega)
              have hd6 : decide (k < r.length) = true := decide_eq_true hlt
              have HNX2 := hide (turn_next x r k hlt p acc _ (unhide HTR))
              have HB : Hid (∀ j, k + 1 = j + 1 → r[j]? = some r[k]) := hide (fun j h => by
                have e : k = j := by omega
                subst e
                exact List.getElem?_eq_getElem hlt)
              have hext : ByteArray.extract ⟨r.toArray⟩ k (k + 1) = ⟨[r[k]].toArray⟩ := by
                rw [ba_extract, show k + 1 - k = 1 from by omega, List.drop_eq_getElem_cons hlt]
                rfl
              by_cases hbx : r[k] = x
              · have hk0 : 0 < k := by
                  rcases Nat.eq_zero_or_pos k with h | h
                  · subst h
                    obtain ⟨xs0, hr0⟩ := unhide HR0
                    subst hr0
                    exfalso
                    have hbx' : (99 : UInt8) = x := hbx
                    rw [← hbx'] at hx2
                    revert hx2
                    decide
                  · exact h
                have c1 : ((r[k].toNat : Int) == 49 + (px : Int)) = true := by rw [hbx, beq_iff_eq]; have := unhide HXN; omega
                have c1n : (r[k].toNat == 49 + px) = true := by rw [hbx, beq_iff_eq]; exact unhide HXN
                have hk1 : ((k : Int) - 1) = ((k - 1 : Nat) : Int) := by omega
                have hkl : k - 1 < r.length := by omega
                have hpk : r[k - 1] = p := by
                  have := unhide HPP (k - 1) (by omega)
                  rw [List.getElem?_eq_getElem hkl] at this
                  injection this
                have hap := hpos hk0
                by_cases hp45 : p = 45
                · have c2 : ((r[k - 1].toNat : Int) == 45) = true := by rw [hpk, hp45]; rfl
                  have c2n : (r[k - 1].toNat == 45) = true := by rw [hpk, hp45]; rfl
                  rw [if_pos hbx, if_pos hp45] at HNX2
                  have hext2 : ByteArray.extract ⟨acc.toArray⟩ 0 (acc.length - 1) = ⟨acc.dropLast.toArray⟩ := by
                    rw [ba_extract, List.drop_zero, Nat.sub_zero, ← List.dropLast_eq_take]
                  have hext3 : ByteArray.extract ⟨acc.toArray⟩ 0 ((acc.length : Int) - 1).toNat = ⟨acc.dropLast.toArray⟩ := by rw [show ((acc.length : Int) - 1).toNat = acc.length - 1 from by omega]; exact hext2
                  have HE : Hid (ByteArray.mk acc.dropLast.toArray ++ ByteArray.mk [r[k]].toArray = ⟨(acc.dropLast ++ [r[k]]).toArray⟩) := hide (ba_append _ _)
                  have HAL : Hid ((acc.dropLast ++ [r[k]]).length ≤ 2 * (k + 1)) := hide (by rw [List.length_append, List.length_dropLast, List.length_singleton]; omega)
                  have HAP : Hid (0 < (acc.dropLast ++ [r[k]]).length) := hide (by simp)
                  clear hpk hp45 hbx hk0 HTR HPP hpos
                  go_wp2_with fail
                  go_quiet (fail)
                  go_wp2_with fail
                  go_roundg (gk - 1)
                  case measure => omega
                  case rel => exact ⟨k + 1, acc.dropLast ++ [r[k]], r[k], by go_num, by rw [unhide HE], by omega, unhide HNX2, unhide HB, fun _ => unhide HAP, unhide HAL, below_drewN hbi nq⟩
                · have c2 : ((r[k - 1].toNat : Int) == 45) = false := by
                    rw [hpk, beq_eq_false_iff_ne]
                    intro e
                    exact hp45 (UInt8.toNat_inj.1 (by have : (45 : UInt8).toNat = 45 := rfl; omega))
                  have c2n : (r[k - 1].toNat == 45) = false := by rw [beq_eq_false_iff_ne]; intro e; rw [beq_eq_false_iff_ne] at c2; apply c2; omega
                  rw [if_pos hbx, if_neg hp45] at HNX2
                  have HE : Hid (ByteArray.mk acc.toArray ++ ⟨#[45]⟩ ++ ByteArray.mk [r[k]].toArray = ⟨(acc ++ [45, r[k]]).toArray⟩) := hide (by
                    have e := ba_append acc [45]
                    have e2 := ba_append (acc ++ [45]) [r[k]]
                    rw [← e] at e2
                    rw [show acc ++ [45, r[k]] = acc ++ [45] ++ [r[k]] from by simp]
                    exact e2)
                  have HAL : Hid ((acc ++ [45, r[k]]).length ≤ 2 * (k + 1)) := hide (by rw [List.length_append]; simp; omega)
                  have HAP : Hid (0 < (acc ++ [45, r[k]]).length) := hide (by simp)
                  clear hpk hp45 hbx hk0 HTR HPP hpos
                  go_wp2_with fail
                  go_roundg (gk - 1)
                  case measure => omega
                  case rel => exact ⟨k + 1, acc ++ [45, r[k]], r[k], by go_num, by rw [unhide HE], by omega, unhide HNX2, unhide HB, fun _ => unhide HAP, unhide HAL, hbi⟩
              · have c1 : ((r[k].toNat : Int) == 49 + (px : Int)) = false := by
                  rw [beq_eq_false_iff_ne]
                  intro e
                  exact hbx (UInt8.toNat_inj.1 (by have := unhide HXN; omega))
                have c1n : (r[k].toNat == 49 + px) = false := by rw [beq_eq_false_iff_ne]; intro e; exact hbx (UInt8.toNat_inj.1 (by have := unhide HXN; omega))
                rw [if_neg hbx] at HNX2
                have HE : Hid (ByteArray.mk acc.toArray ++ ByteArray.mk [r[k]].toArray = ⟨(acc ++ [r[k]]).toArray⟩) := hide (ba_append _ _)
                have HAL : Hid ((acc ++ [r[k]]).length ≤ 2 * (k + 1)) := hide (by rw [List.length_append, List.length_singleton]; omega)
                have HAP : Hid (0 < (acc ++ [r[k]]).length) := hide (by simp)
                clear hbx HTR HPP hpos
                go_wp2_with fail
                go_roundg (gk - 1)
                case measure => omega
                case rel => exact ⟨k + 1, acc ++ [r[k]], r[k], by go_num, by rw [unhide HE], by omega, unhide HNX2, unhide HB, fun _ => unhide HAP, unhide HAL, hbi⟩
            · have hd5 : decide ((k : Int) < (r.length : Int)) = false := decide_eq_false (by omega)
              have hd6 : decide (k < r.length) = false := decide_eq_false hlt
              have HF : Hid (acc = turnL x r) := hide (by
                have := unhide HTR
                rw [List.drop_of_length_le (by omega), turnR] at this
                exact this)
              have hown7 := own_below hown6 hbi
              have hB7 := hB6.trans (hbi.mono hB6.size)
              clear HTR HPP hpos hown6
              go_wp2_with (at_builtin; refine wpList_append_new rfl _ _ 31 rfl u4.heap.size i0 (.string ⟨#[]⟩) 1 16 Tryd.underlying31 hi hz0 hz1 hz2 rfl (by decide) _ _ _ hown7 rfl rfl rfl (by simp [Value.oneCell']) (by unfold maxLen; omega) (by omega) hB7.size ?_; intro v9 w9 hown9 hgrow9 hnn9)
              have hB9 : Below u4.heap.size u4 w9 := below_grown hB7 hgrow9 hown7 (Nat.le_refl _) hB7.size
              clear hgrow9 hnn9
              obtain ⟨a9, c9, rfl⟩ := own_form hown9
              go_wp2_with fail
              go_roundg (go - 1)
              case measure => omega
              case rel =>
                refine ⟨(ix : Int) - 1, by go_num, by have := unhide HIV; omega, by omega, ?_, hB9⟩
                rw [unhide HNX, List.length_append, List.map_append, ← unhide HF]
                simpa using hown9
end Go.Proofs.YtgipjjhkhfihpabDoor

namespace Go.Proofs.YtgipjjhkhfihpabDoor
open Go.ChangeShapes Go.WideShapes Go.ChangeAt Go.ChangeMaps Go.RowKit

theorem i64_wf2 {x : Int} (h : (Lit.int .i64 x).wf = true) : -9223372036854775808 ≤ x ∧ x ≤ 9223372036854775807 := bounds_i64 h
theorem turned_met (os : Os) (args : Array Value) : laidMetH Tryd.prog Rows.turnedRow.laid ((World.doorLaid Tryd.prog 400 os).forCall (fun _ _ => 0) ⟨#[], args, []⟩).memory :=
  laidMetH_of_parts3 (fuel := 8) (laidMet_of_run' 8 (by kernel_rfl) (by kernel_rfl)) (by kernel_rfl) (by kernel_rfl)
theorem turned_tab {W : World} (h : laidMetH Tryd.prog Rows.turnedRow.laid W) : TabAt W := by
  have hf : (Rows.turnedRow.laid.filter fun x => x.2.handleName?.isSome) = [] := by rfl
  unfold laidMetH at h
  rw [hf] at h
  exact tab_of_third2 h
set_option maxRecDepth 100000 in
set_option maxHeartbeats 800000 in
theorem turnedRow_any (l : List UInt8) (a : Int) (w : World) (ht : TabAt w) (ha1 : -9223372036854775808 ≤ a) (ha2 : a ≤ 9223372036854775807) :
    Calls Tryd.prog 3 #[.string ⟨l.toArray⟩, .int .i64 a] w fun e w' => e = .returned (.bool true) ∧ Below w.heap.size w w' := by
  by_cases hl : 8192 < l.length
  · have hd : decide ((8192 : Int) < (l.length : Int)) = true := decide_eq_true (by omega)
    have hd2 : decide (8192 < l.length) = true := decide_eq_true hl
    clear hl
    go_enter Tryd.func3, Tryd.ntmps3
    go_wp2_with fail
    go_ret
    exact ⟨rfl, Below.refl _ _⟩
  · have hd : decide ((8192 : Int) < (l.length : Int)) = false := decide_eq_false (by omega)
    have hd2 : decide (8192 < l.length) = false := decide_eq_false hl
    have HL : Hid (l.length ≤ 8192) := hide (by omega)
    clear hl
    go_enter Tryd.func3, Tryd.ntmps3
    go_wp2_with fail
    refine (anchored_any l w ht).mono ?_
    rintro e u1 ⟨rfl, b1⟩
    go_wp2_with fail
    refine (kturned_any l a u1 (ht.later b1) (unhide HL) ha1 ha2).mono ?_
    rintro e u2 ⟨rfl, b2⟩
    go_wp2_with fail
    go_ret
    exact ⟨rfl, b1.trans (b2.mono b1.size)⟩

set_option maxHeartbeats 1600000 in
set_option maxRecDepth 100000 in
theorem turned_lifted (os : Os) (started : os.Started) (H : Type) (enc : TypeId × Value → H) (F : Stop.Interp) :
    ReturnsInHanded {} Tryd.checked os 3 .any ((OpenSpec.ofChange Rows.turnedSpec).preRow enc Tryd.prog Tryd.f3 Rows.turnedRow.domain false Rows.turnedRow.laid) (((OpenSpec.ofChange Rows.turnedSpec).at F).post enc Tryd.prog Tryd.f3 false true false false) := by
  obtain ⟨places, hx⟩ : ∃ places, DataW.whole enc Tryd.prog ((World.doorLaid Tryd.prog 400 os).forCall (fun _ _ => 0) ⟨#[], #[.string ⟨#[]⟩, .int .i64 0], []⟩).memory Tryd.f3.params.toList Rows.turnedSpec.vars false #[Value.string ⟨#[]⟩, Value.int .i64 0].toList 8 = some ([.lit (.string []), .lit (.int .i64 0)], [], places) := ⟨[], by kernel_rfl⟩
  refine returnsInHanded_of_row (C := Tryd.checked) (s := OpenSpec.ofChange Rows.turnedSpec) (show ownKnob Tryd.prog.godebug = none by kernel_rfl) started (by kernel_rfl) Tryd.func3
    (witness_row_at (enc := enc) (C := Tryd.checked) false (World.doorLaid Tryd.prog 400 os) #[.string ⟨#[]⟩, .int .i64 0] rfl (by kernel_rfl) (by kernel_rfl) (by kernel_rfl)
      (OpenSpec.preRow_of_cond 8 hx (by kernel_rfl) (fun k hk => by cases hk) (by kernel_rfl) (turned_met os _))) ?_
  intro W base args ds gs before hval0 hW _ _ _ hL _ _
  have hval : ∀ (j : Nat) t v, Tryd.f3.params[j]? = some t → args[j]? = some v → Value.okWide Tryd.prog W .any base t v := hval0
  have hW' := hW
  obtain ⟨p, q, hA0, hV, rfl, hfz, hnd⟩ := hW
  have hA : DataW.TrodAll enc Tryd.prog W 0 (fun _ => true) true Tryd.f3.params.toList args.toList ds p := hA0
  rw [Tryd.params3] at hA hval
  obtain ⟨v0, vs0, d0, ds0, p0, q0, hargs0, rfl, rfl, h0, r0⟩ := trodAll_cons hA
  obtain ⟨v1, vs1, d1, ds1, p1, q1, hargs1, rfl, rfl, h1, r1⟩ := trodAll_cons r0
  obtain ⟨rfl, rfl, rfl⟩ := trodAll_nil r1
  obtain rfl : args = #[v0, v1] := by cases args; simp_all
  obtain ⟨rfl, rfl⟩ := trodVars_none hV
  obtain ⟨s0, rfl, rfl, rfl, w0⟩ := open_string Tryd.underlying9 (hval 0 9 v0 rfl rfl) h0
  obtain ⟨i1, rfl, rfl, rfl, w1⟩ := open_int Tryd.underlying3 (hval 1 3 v1 rfl rfl) h1
  have hb1 := i64_wf2 w1
  clear hA0 hval0
  simp only [List.append_nil] at hW'
  obtain ⟨l0, hl0⟩ : ∃ l : List UInt8, s0 = ⟨l.toArray⟩ := ⟨s0.data.toList, by simp⟩
  subst hl0
  refine (turnedRow_any l0 i1 W (turned_tab hL) hb1.1 hb1.2).mono fun e W' ⟨he, bel⟩ => ?_
  subst he
  exact ⟨_, rfl, _, _, _, [], _, [], hW', trodAll_mk1 (shut_bool Tryd.underlying4 _), trodAll_mk2 (shut_string Tryd.underlying9 w0) (shut_int Tryd.underlying3 w1), rfl, bel.frame _, fun h => by cases h⟩

theorem turned_said : Rows.TurnedSaid :=
  OpenClaim.holds_of_cond 3 Tryd.f3 rfl rfl rfl rfl rfl rfl rfl ⟨rfl, rfl, rfl, rfl, rfl⟩ rfl rfl rfl rfl rfl (by kernel_rfl) Tryd.func3 (by kernel_rfl)
    (of_decide_eq_true (by kernel_rfl)) (by unfold Func.isWrapper; first | (rw [if_pos (by decide +kernel)]; kernel_rfl) | (rw [if_neg (by decide +kernel)]; exact ⟨rfl, rfl⟩))
    (fun os started H enc _ F => by rw [OpenClaim.pre_eq_preRow]; exact turned_lifted os started H enc F)
/-- No parameter wants a stand-in; the program's own looks are off. -/
theorem turned_plain (f : FuncId) (fn : Func) (hf : Tryd.pinned.checked.prog.funcNamed "duel/duelkeep.Turned" = some f) (hfn : Tryd.pinned.checked.prog.funcs[f]? = some fn) :
    false = Tryd.pinned.checked.prog.looks [] ∧ ∀ (j : Nat) t, fn.params[j]? = some t → Tryd.pinned.checked.prog.wantsStandIn t = false := by
  obtain rfl : f = 3 := Option.some.inj ((show Tryd.prog.funcNamed "duel/duelkeep.Turned" = some 3 by kernel_rfl).symm.trans hf) |>.symm
  obtain rfl : fn = Tryd.f3 := (Option.some.inj (Tryd.func3.symm.trans hfn)).symm
  refine ⟨by kernel_rfl, fun j t ht => ?_⟩
  rw [Tryd.params3] at ht
  have h2 : t = 9 ∨ t = 3 := by
    have := Array.mem_of_getElem? ht
    simp at this
    first
      | exact this
      | omega
      | (rcases this with h | h | h <;> simp [h])
  rcases h2 with rfl | rfl
  · exact (show Tryd.prog.wantsStandIn 9 = false by kernel_rfl)
  · exact (show Tryd.prog.wantsStandIn 3 = false by kernel_rfl)
theorem turned_holds : Rows.TurnedCardSaid :=
  Claim7.holds_tied_plain_at .later [] _ _ _ _ turned_said (fun _ h => by cases h) (by kernel_rfl) (fun _ h => by cases h) turned_row_tie rfl ⟨rfl, rfl⟩ (by kernel_rfl) rfl turned_plain (by kernel_rfl)
#print axioms turned_holds
end Go.Proofs.YtgipjjhkhfihpabDoor
