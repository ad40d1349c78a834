import Derived.Test.YtgipjjhkhfihpabDoorAJ
import Derived.Test.YtgipjjhkhfihpabDoorAZ
import Derived.Test.YtgipjjhkhfihpabDoorCards
import Derived.Test.YtgipjjhkhfihpabDoorTie
import Derived.ProofKit
import Derived.LaidMore
import Derived.Stop.Joined
import Derived.Lib.LaidTab
import Derived.OpenShut
import Derived.Deep.DeepHandedRow
import Derived.WalkKit
import Derived.ChangeMaps5
namespace Go.Proofs.YtgipjjhkhfihpabDoor
open Go.RowKit

/-! ### Lines cut at blanks and joined again -/
theorem cutAt_same (c : UInt8) (r : List UInt8) : cutAt c (c :: r) = [] :: cutAt c r := by
  have e0 : cutAt c (c :: r) = (r.foldl (cutStep c) (cutStep c ([], []) c)).1 ++ [(r.foldl (cutStep c) (cutStep c ([], []) c)).2] := rfl
  have e : cutStep c ([], []) c = ([[]], []) := by unfold cutStep; rw [if_pos rfl]; rfl
  rw [e0, e, cut_shift]
  obtain ⟨hd, tl, h⟩ := cutAt_ne c r
  rw [h]; rfl
def joinB (tl : List (List UInt8)) : List UInt8 := tl.flatMap (fun w => 32 :: w)
theorem joinB_cons (w : List UInt8) (tl : List (List UInt8)) : joinB (w :: tl) = 32 :: (w ++ joinB tl) := by simp [joinB]
theorem cutAt_back (r : List UInt8) : ∀ hd tl, cutAt 32 r = hd :: tl → r = hd ++ joinB tl ∧ (32 : UInt8) ∉ hd ∧ ∀ w ∈ tl, (32 : UInt8) ∉ w := by
  induction r with
  | nil =>
    intro hd tl h
    have h' : [[]] = hd :: tl := h
    injection h' with a b
    subst a b
    simp [joinB]
  | cons b r ih =>
    intro hd tl h
    obtain ⟨hd', tl', h'⟩ := cutAt_ne 32 r
    obtain ⟨i1, i2, i3⟩ := ih hd' tl' h'
    by_cases hb : b = 32
    · subst hb
      rw [cutAt_same, h'] at h
      injection h with a c
      subst a c
      refine ⟨by rw [joinB_cons, ← i1]; rfl, by simp, ?_⟩
      intro w hw
      rcases List.mem_cons.1 hw with rfl | hw
      · exact i2
      · exact i3 w hw
    · rw [cutAt_cons 32 b r hb hd' tl' h'] at h
      injection h with a c
      subst a c
      exact ⟨by rw [List.cons_append, ← i1], by rw [List.mem_cons, not_or]; exact ⟨Ne.symm hb, i2⟩, i3⟩
theorem cutAt_joinB (tl : List (List UInt8)) : (∀ w ∈ tl, (32 : UInt8) ∉ w) → ∀ hd : List UInt8, (32 : UInt8) ∉ hd → cutAt 32 (hd ++ joinB tl) = hd :: tl := by
  induction tl with
  | nil =>
    intro _ hd
    induction hd with
    | nil => intro _; rfl
    | cons b hd ih =>
      intro h
      rw [List.mem_cons, not_or] at h
      exact cutAt_cons 32 b _ (Ne.symm h.1) hd [] (ih h.2)
  | cons w tl ih =>
    intro h3 hd
    have hi := ih (fun x hx => h3 x (by simp [hx])) w (h3 w (by simp))
    induction hd with
    | nil => intro _; rw [List.nil_append, joinB_cons, cutAt_same, hi]
    | cons b hd ih2 =>
      intro h
      rw [List.mem_cons, not_or] at h
      exact cutAt_cons 32 b _ (Ne.symm h.1) hd _ (ih2 h.2)
/-! ### Literals' words -/
theorem dig_pos {w : List UInt8} (h : 0 < dig w) : ∃ d : UInt8, w = [d] ∧ 49 ≤ d.toNat ∧ d.toNat ≤ 56 ∧ (dig w).toNat = d.toNat - 48 := by
  match w with
  | [] => exact absurd h (by decide)
  | _ :: _ :: _ => exact absurd h (by simp [dig])
  | [c] =>
    simp only [dig] at h ⊢
    split at h
    · next hc => exact ⟨c, rfl, by omega, by omega, by rw [if_pos hc]; omega⟩
    · exact absurd h (by decide)
theorem dig_one (d : UInt8) (h1 : 49 ≤ d.toNat) (h2 : d.toNat ≤ 56) : dig [d] = ((d.toNat - 48 : Nat) : Int) := by
  simp only [dig]
  rw [if_pos (by omega)]
  omega
def LitW (w : List UInt8) : Prop := ∃ d : UInt8, 49 ≤ d.toNat ∧ d.toNat ≤ 56 ∧ (w = [d] ∨ w = [45, d])
theorem litInto_ok {c : Nat × Nat} {w : List UInt8} (h : (litInto c w).2 = true) : LitW w := by
  by_cases hh : w.head? = some 45
  · cases w with
    | nil => cases hh
    | cons b r =>
      have hb : b = 45 := by simpa using hh
      subst hb
      rw [litInto_neg] at h
      obtain ⟨d, rfl, h1, h2, _⟩ := dig_pos (of_decide_eq_true h)
      exact ⟨d, h1, h2, Or.inr rfl⟩
  · rw [litInto_pos c w hh] at h
    obtain ⟨d, rfl, h1, h2, _⟩ := dig_pos (of_decide_eq_true h)
    exact ⟨d, h1, h2, Or.inl rfl⟩
theorem lits_all (ws : List (List UInt8)) : ∀ (st : (Nat × Nat) × Bool), (ws.foldl (fun st w => ((litInto st.1 w).1, st.2 && (litInto st.1 w).2)) st).2 = true → st.2 = true ∧ ∀ w ∈ ws, LitW w := by
  induction ws with
  | nil => intro st h; exact ⟨h, fun w hw => by cases hw⟩
  | cons w ws ih =>
    intro st h
    obtain ⟨h1, h2⟩ := ih _ h
    dsimp only at h1
    rw [Bool.and_eq_true] at h1
    refine ⟨h1.1, fun x hx => ?_⟩
    rcases List.mem_cons.1 hx with rfl | hx
    · exact litInto_ok h1.2
    · exact h2 x hx
/-- A line of a clause, by its words. -/
theorem cl_words {r : List UInt8} {c : Nat × Nat} (h : clRow r = some c) : ∃ tl, r = 99 :: joinB tl ∧ (∀ w ∈ tl, LitW w) ∧ (litsTo tl).2 = true ∧ c = (litsTo tl).1 := by
  unfold clRow at h
  obtain ⟨hd, tl, hw⟩ := cutAt_ne 32 r
  rw [hw] at h
  dsimp only at h
  split at h
  · next hh =>
    obtain ⟨rfl, h2⟩ := hh
    injection h with h
    exact ⟨tl, (cutAt_back r _ _ hw).1, (lits_all tl _ h2).2, h2, h.symm⟩
  · cases h
theorem litW_32 {w : List UInt8} (h : LitW w) : (32 : UInt8) ∉ w := by
  obtain ⟨d, h1, h2, h⟩ := h
  have : d ≠ 32 := fun e => by subst e; revert h1; decide
  rcases h with rfl | rfl <;> simp [Ne.symm this]
theorem litW_10 {w : List UInt8} (h : LitW w) : (10 : UInt8) ∉ w := by
  obtain ⟨d, h1, h2, h⟩ := h
  have : d ≠ 10 := fun e => by subst e; revert h1; decide
  rcases h with rfl | rfl <;> simp [Ne.symm this]
theorem cl_of_words {tl : List (List UInt8)} (h : ∀ w ∈ tl, LitW w) (h2 : (litsTo tl).2 = true) : clRow (99 :: joinB tl) = some (litsTo tl).1 := by
  have e := cutAt_joinB tl (fun w hw => litW_32 (h w hw)) [99] (by decide)
  unfold clRow
  rw [show (99 : UInt8) :: joinB tl = [99] ++ joinB tl from rfl, e]
  dsimp only
  rw [if_pos ⟨rfl, h2⟩]
end Go.Proofs.YtgipjjhkhfihpabDoor

namespace Go.Proofs.YtgipjjhkhfihpabDoor
open Go.RowKit

/-! ### Last: an innermost variable more -/
theorem text_is {u : List UInt8} {P C : List (List UInt8)} {qs : List (Bool × List Nat)} {cs : List (Nat × Nat)} (hk : (vkind u).1 ≠ 0) (hu : u = joinN (P ++ C)) (hnl : ∀ r ∈ P ++ C, (10 : UInt8) ∉ r) (hP : prefs P = some qs) (hC : cls C = some cs) : (vkind u).1 = if truthN qs cs then 2 else 1 := by
  obtain ⟨P', C', qs', cs', h'⟩ := text_vkind hk
  have e1 := lines_text h'
  have e2 : klinesOf u = P ++ C := by
    have := cut_more (P ++ C) hnl []
    rw [List.append_nil, ← hu] at this
    rw [this]
    simp [klinesOf, cutTo]
  obtain ⟨g1, g2⟩ := pref_rows_first h'
  have f1 : ∀ r ∈ P, ∃ x xs, r = x :: xs ∧ x ≠ (99 : UInt8) := by
    intro r hr
    obtain ⟨x, hx⟩ := prefs_rows hP r hr
    have := pref_first r x hx
    cases r with
    | nil => cases this
    | cons y ys =>
      refine ⟨y, ys, rfl, fun e => ?_⟩
      subst e
      injection this with this
      revert this
      split <;> decide
  have f2 : ∀ r ∈ C, ∃ xs, r = (99 : UInt8) :: xs := by
    intro r hr
    obtain ⟨x, hx⟩ := cls_rows hC r hr
    have := cl_first r x hx
    cases r with
    | nil => cases this
    | cons y ys => injection this with this; subst this; exact ⟨ys, rfl⟩
  obtain ⟨a1, a2⟩ := split_first (e2.symm.trans e1) f1 g1 (fun r hr => f2 r (List.mem_of_mem_head? hr)) (fun r hr => g2 r (List.mem_of_mem_head? hr))
  subst a1 a2
  have hq : qs' = qs := by have := h'.prefs; rw [hP] at this; injection this with this; exact this.symm
  have hc : cs' = cs := by have := h'.cls; rw [hC] at this; injection this with this; exact this.symm
  subst hq hc
  exact vkind_text h'
theorem vars_mem (ws : List (List UInt8)) : ∀ vs, varsOf ws = some vs → ∀ v ∈ vs, ∃ d : UInt8, [d] ∈ ws ∧ 49 ≤ d.toNat ∧ d.toNat ≤ 56 ∧ v = d.toNat - 48 := by
  induction ws with
  | nil => intro vs h v hv; simp [varsOf] at h; subst h; cases hv
  | cons w ws ih =>
    intro vs h v hv
    rw [varsOf] at h
    split at h
    · next hd =>
      cases hw : varsOf ws with
      | none => rw [hw] at h; cases h
      | some us =>
        rw [hw] at h
        have h' : (dig w).toNat :: us = vs := Option.some.inj h
        subst h'
        rcases List.mem_cons.1 hv with e | hv
        · obtain ⟨d, rfl, h1, h2, h3⟩ := dig_pos hd
          exact ⟨d, by simp, h1, h2, by rw [e, h3]⟩
        · obtain ⟨d, h1, h2⟩ := ih us hw v hv
          exact ⟨d, by simp [h1], h2⟩
    · cases h
theorem mem_joinB {w : List UInt8} {tl : List (List UInt8)} {b : UInt8} (hw : w ∈ tl) (hb : b ∈ w) : b ∈ joinB tl := List.mem_flatMap.2 ⟨w, hw, by simp [hb]⟩
theorem pref_free {r : List UInt8} {x : Bool × List Nat} (h : prefRow r = some x) (d : UInt8) (h1 : 49 ≤ d.toNat) (h2 : d.toNat ≤ 56) (hd : d ∉ r) : d.toNat - 48 ∉ x.2 := by
  unfold prefRow at h
  obtain ⟨hd', tl, hw⟩ := cutAt_ne 32 r
  rw [hw] at h
  dsimp only at h
  split at h
  · cases hv : varsOf tl with
    | none => rw [hv] at h; cases h
    | some vs =>
      rw [hv] at h
      have h' : (hd' == [97], vs) = x := Option.some.inj h
      subst h'
      intro hm
      obtain ⟨e, g1, g2, g3, g4⟩ := vars_mem tl vs hv _ hm
      have : e = d := UInt8.toNat_inj.1 (by omega)
      subst this
      apply hd
      rw [(cutAt_back r _ _ hw).1]
      exact List.mem_append_right _ (mem_joinB g1 (by simp))
  · cases h
theorem lits_free (d : UInt8) (h1 : 49 ≤ d.toNat) (h2 : d.toNat ≤ 56) (tl : List (List UInt8)) : (∀ w ∈ tl, LitW w) → (∀ w ∈ tl, d ∉ w) → ∀ (st : (Nat × Nat) × Bool), (st.1.1 ||| st.1.2).testBit (d.toNat - 48) = false →
    ((tl.foldl (fun st w => ((litInto st.1 w).1, st.2 && (litInto st.1 w).2)) st).1.1 ||| (tl.foldl (fun st w => ((litInto st.1 w).1, st.2 && (litInto st.1 w).2)) st).1.2).testBit (d.toNat - 48) = false := by
  induction tl with
  | nil => intro _ _ st h; exact h
  | cons w tl ih =>
    intro hw hn st h
    refine ih (fun x hx => hw x (by simp [hx])) (fun x hx => hn x (by simp [hx])) _ ?_
    dsimp only
    have hnd := hn w (by simp)
    have hb : ∀ e : UInt8, 49 ≤ e.toNat → e ≠ d → (2 ^ (e.toNat - 48)).testBit (d.toNat - 48) = false := by
      intro e he hne
      rw [Nat.testBit_two_pow]
      exact decide_eq_false (fun h => hne (UInt8.toNat_inj.1 (by omega)))
    rw [Nat.testBit_or, Bool.or_eq_false_iff] at h
    obtain ⟨e, g1, g2, rfl | rfl⟩ := hw w (by simp)
    · have he : e ≠ 45 := fun h => by subst h; revert g1; decide
      have hne : e ≠ d := fun h => hnd (by simp [h])
      rw [litInto_pos _ _ (by simpa using he), dig_one e g1 g2, Int.toNat_natCast]
      dsimp only
      rw [Nat.testBit_or, Nat.testBit_or, h.1, h.2, hb e g1 hne]; rfl
    · have hne : e ≠ d := fun h => hnd (by simp [h])
      rw [litInto_neg, dig_one e g1 g2, Int.toNat_natCast]
      dsimp only
      rw [Nat.testBit_or, Nat.testBit_or, h.1, h.2, hb e g1 hne]; rfl
theorem cl_free {r : List UInt8} {c : Nat × Nat} (h : clRow r = some c) (d : UInt8) (h1 : 49 ≤ d.toNat) (h2 : d.toNat ≤ 56) (hd : d ∉ r) : (c.1 ||| c.2).testBit (d.toNat - 48) = false := by
  obtain ⟨tl, rfl, hw, _, rfl⟩ := cl_words h
  refine lits_free d h1 h2 tl hw (fun w hm hh => hd ?_) ((0, 0), true) (by simp)
  exact List.mem_cons_of_mem _ (mem_joinB hm hh)
theorem joinN_mem {m : List (List UInt8)} {r : List UInt8} {b : UInt8} (hr : r ∈ m) (hb : b ∈ r) : b ∈ joinN m := List.mem_flatMap.2 ⟨r, hr, by simp [hb]⟩
theorem prefs_free (d : UInt8) (h1 : 49 ≤ d.toNat) (h2 : d.toNat ≤ 56) (P : List (List UInt8)) : ∀ qs, prefs P = some qs → (∀ r ∈ P, d ∉ r) → d.toNat - 48 ∉ toldP qs := by
  induction P with
  | nil => intro qs h _; simp [prefs] at h; subst h; simp [toldP]
  | cons r P ih =>
    intro qs h hd
    obtain ⟨qa, qb, g1, g2, g3⟩ := prefs_split [r] P qs h
    obtain ⟨x, g4, rfl⟩ := prefs_one r qa g1
    rw [g3, toldP_app, List.mem_append, not_or]
    refine ⟨?_, ih qb g2 (fun z hz => hd z (by simp [hz]))⟩
    have := pref_free g4 d h1 h2 (hd r (by simp))
    simpa [toldP] using this
theorem cls_free (d : UInt8) (h1 : 49 ≤ d.toNat) (h2 : d.toNat ≤ 56) (C : List (List UInt8)) : ∀ cs, cls C = some cs → (∀ r ∈ C, d ∉ r) → cs.any (fun c => (c.1 ||| c.2).testBit (d.toNat - 48)) = false := by
  induction C with
  | nil => intro cs h _; simp [cls] at h; subst h; rfl
  | cons r C ih =>
    intro cs h hd
    obtain ⟨ca, cb, g1, g2, g3⟩ := cls_split [r] C cs h
    obtain ⟨c, hc⟩ : ∃ c, clRow r = some c := cls_rows h r (by simp)
    have hca : ca = [c] := by simp [cls, hc] at g1; exact g1.symm
    subst hca
    rw [g3, List.singleton_append, List.any_cons, cl_free hc d h1 h2 (hd r (by simp)), ih cb g2 (fun z hz => hd z (by simp [hz]))]
    rfl
theorem pref_one (k : Bool) (d : UInt8) (h1 : 49 ≤ d.toNat) (h2 : d.toNat ≤ 56) : prefRow [if k then 97 else 101, 32, d] = some (k, [d.toNat - 48]) := by
  have h32 : d ≠ 32 := fun e => by subst e; revert h1; decide
  have e := cutAt_joinB [[d]] (by simpa using Ne.symm h32) [if k then 97 else 101] (by cases k <;> decide)
  have e' : cutAt 32 [if k then 97 else 101, 32, d] = [if k then 97 else 101] :: [[d]] := e
  unfold prefRow
  rw [e']
  dsimp only
  have hv : varsOf [[d]] = some [d.toNat - 48] := by
    rw [varsOf, dig_one d h1 h2, if_pos (by omega), varsOf, Int.toNat_natCast]
    rfl
  rw [hv]
  cases k <;> rfl
theorem cl_one (d : UInt8) (h1 : 49 ≤ d.toNat) (h2 : d.toNat ≤ 56) : clRow [99, 32, 45, d] = some (0, 2 ^ (d.toNat - 48)) := by
  have hw : ∀ w ∈ [[45, d]], LitW w := fun w hw => by
    have : w = [45, d] := by simpa using hw
    exact ⟨d, h1, h2, Or.inr this⟩
  have hl : litsTo [[45, d]] = ((0, 2 ^ (d.toNat - 48)), true) := by
    have : litsTo [[45, d]] = ((litInto (0, 0) [45, d]).1, true && (litInto (0, 0) [45, d]).2) := rfl
    rw [this, litInto_neg, dig_one d h1 h2, Int.toNat_natCast, decide_eq_true (by omega)]
    simp
  have := cl_of_words hw (by rw [hl])
  rw [hl] at this
  exact this
/-- An innermost variable more that no clause has, or a new clause alone. -/
theorem last_law {l : List UInt8} {P C : List (List UInt8)} {qs : List (Bool × List Nat)} {cs : List (Nat × Nat)} (h : TextIs l P C qs cs) (d : UInt8) (h1 : 49 ≤ d.toNat) (h2 : d.toNat ≤ 56) (hd : d ∉ l) :
    ((vkind (joinN P ++ [101, 32, d, 10] ++ joinN C)).1 = (vkind l).1 ∨ (vkind (joinN P ++ [101, 32, d, 10] ++ joinN C)).1 = 0) ∧
    ((vkind (joinN P ++ [97, 32, d, 10] ++ joinN C)).1 = (vkind l).1 ∨ (vkind (joinN P ++ [97, 32, d, 10] ++ joinN C)).1 = 0) ∧
    ((vkind (joinN P ++ [101, 32, d, 10] ++ joinN C ++ [99, 32, 45, d, 10])).1 = (vkind l).1 ∨ (vkind (joinN P ++ [101, 32, d, 10] ++ joinN C ++ [99, 32, 45, d, 10])).1 = 0) := by
  have hr : ∀ r ∈ P ++ C, d ∉ r := fun r hr hh => hd (by rw [h.text]; exact joinN_mem hr hh)
  have hx := prefs_free d h1 h2 P qs h.prefs (fun r hh => hr r (by simp [hh]))
  have hi := cls_free d h1 h2 C cs h.cls (fun r hh => hr r (by simp [hh]))
  have hd10 : d ≠ 10 := fun e => by subst e; revert h1; decide
  have hP : ∀ k, prefs (P ++ [[if k then 97 else 101, 32, d]]) = some (qs ++ [(k, [d.toNat - 48])]) := fun k => prefs_snoc P _ qs _ h.prefs (pref_one k d h1 h2)
  have hC : cls (C ++ [[99, 32, 45, d]]) = some (cs ++ [(0, 2 ^ (d.toNat - 48))]) := cls_app C _ cs _ h.cls (by simp [cls, cl_one d h1 h2])
  have ha : ∀ A B : List (List UInt8), joinN (A ++ B) = joinN A ++ joinN B := fun A B => by simp [joinN]
  have nlP : ∀ k : Bool, ∀ r ∈ (P ++ [[if k then 97 else 101, 32, d]]) ++ C, (10 : UInt8) ∉ r := by
    intro k r hh
    rcases List.mem_append.1 hh with hh | hh
    · rcases List.mem_append.1 hh with hh | hh
      · exact h.nl r (by simp [hh])
      · have : r = [if k then 97 else 101, 32, d] := by simpa using hh
        subst this
        cases k <;> simp [Ne.symm hd10]
    · exact h.nl r (by simp [hh])
  have key : ∀ k : Bool, (vkind (joinN P ++ [if k then 97 else 101, 32, d, 10] ++ joinN C)).1 = (vkind l).1 ∨ (vkind (joinN P ++ [if k then 97 else 101, 32, d, 10] ++ joinN C)).1 = 0 := by
    intro k
    by_cases h0 : (vkind (joinN P ++ [if k then 97 else 101, 32, d, 10] ++ joinN C)).1 = 0
    · exact Or.inr h0
    · left
      have hu : joinN P ++ [if k then 97 else 101, 32, d, 10] ++ joinN C = joinN ((P ++ [[if k then 97 else 101, 32, d]]) ++ C) := by
        rw [ha, ha]; rfl
      rw [text_is h0 hu (nlP k) (hP k) h.cls, vkind_text h, last_idle qs cs k (d.toNat - 48) hx hi]
  refine ⟨key false, key true, ?_⟩
  by_cases h0 : (vkind (joinN P ++ [101, 32, d, 10] ++ joinN C ++ [99, 32, 45, d, 10])).1 = 0
  · exact Or.inr h0
  · left
    have hu : joinN P ++ [101, 32, d, 10] ++ joinN C ++ [99, 32, 45, d, 10] = joinN ((P ++ [[if false then 97 else 101, 32, d]]) ++ (C ++ [[99, 32, 45, d]])) := by
      rw [ha, ha, ha, ← List.append_assoc]; rfl
    have nl2 : ∀ r ∈ (P ++ [[if false then 97 else 101, 32, d]]) ++ (C ++ [[99, 32, 45, d]]), (10 : UInt8) ∉ r := by
      intro r hh
      rw [← List.append_assoc] at hh
      rcases List.mem_append.1 hh with hh | hh
      · exact nlP false r hh
      · have : r = [99, 32, 45, d] := by simpa using hh
        subst this
        simp [Ne.symm hd10]
    rw [text_is h0 hu nl2 (hP false) hC, vkind_text h, last_clause qs cs (d.toNat - 48) hx hi]
end Go.Proofs.YtgipjjhkhfihpabDoor

namespace Go.Proofs.YtgipjjhkhfihpabDoor
open Go.RowKit

/-! ### joined, of a part of a row -/
attribute [local go_sem] ba_get
set_option maxRecDepth 100000 in
set_option maxHeartbeats 1600000 in
theorem kjoined_cells (rows : List (List UInt8)) (a : Option Addr) (c : Nat) (w : World) (hcell : ∀ k (hk : k < rows.length), ∃ g o, a = some ⟨g, o, none⟩ ∧ w.cell? ⟨g, o + k, none⟩ = some (S rows[k])) (hl : (joinN rows).length ≤ 1048576) :
    Calls Tryd.prog 19 #[.slice a rows.length c] w fun e w' => e = .returned (S (joinN rows)) ∧ w' = w := by
  have hge := joinN_ge rows
  have HCELL := hide hcell
  clear hcell
  go_enter Tryd.func19, Tryd.ntmps19
  go_wp2_with fail
  go_loopg [3, 4] (rows.length) (fun m vt vi wx => ∃ (k : Nat) (acc : List UInt8), vi = .int .i64 (k : Int) ∧ vt = .string ⟨acc.toArray⟩ ∧ k + m = rows.length ∧ acc = joinN (rows.take k) ∧ wx = w)
  case atStart => exact ⟨0, [], rfl, rfl, by omega, rfl, rfl⟩
  case round =>
    obtain ⟨k, acc, rfl, rfl, hkm, hac, rfl⟩ := hrel
    have HAC := hide hac
    clear hac
    by_cases hlt : k < rows.length
    · have hd3 : decide ((k : Int) < (rows.length : Int)) = true := decide_eq_true (by omega)
      have hd4 : decide (k < rows.length) = true := decide_eq_true hlt
      obtain ⟨g, o, hae, hx⟩ := unhide HCELL k hlt
      subst hae
      have HTK := hide (List.take_succ_eq_append_getElem hlt)
      have hle := joinN_take_le rows (k + 1)
      rw [unhide HTK, joinN_snoc, ← unhide HAC, List.length_append, List.length_append, List.length_singleton] at hle
      clear HCELL
      generalize rows[k] = r at *
      have HE : Hid (ByteArray.mk acc.toArray ++ ByteArray.mk r.toArray ++ ⟨#[10]⟩ = ⟨(acc ++ r ++ [10]).toArray⟩) := hide (by rw [ba_append acc r]; exact ba_append (acc ++ r) [10])
      have HN : Hid (acc ++ r ++ [10] = joinN (rows.take (k + 1))) := hide (by rw [unhide HTK, joinN_snoc, unhide HAC])
      have hl1 : acc.length ≤ 1048576 := by omega
      have hl2 : r.length ≤ 1048576 := by omega
      clear HAC
      go_wp2_with fail
      go_roundg (gk - 1)
      case measure => omega
      case rel => exact ⟨k + 1, acc ++ r ++ [10], by go_num, by rw [unhide HE], by omega, unhide HN, rfl⟩
    · have hd3 : decide ((k : Int) < (rows.length : Int)) = false := decide_eq_false (by omega)
      have hd4 : decide (k < rows.length) = false := decide_eq_false hlt
      have HF : Hid (joinN rows = acc) := hide (by rw [unhide HAC, List.take_of_length_le (by omega)])
      go_wp2_with fail
      go_ret
      exact ⟨by rw [unhide HF]; rfl, rfl⟩
end Go.Proofs.YtgipjjhkhfihpabDoor

namespace Go.Proofs.YtgipjjhkhfihpabDoor
open Go.RowKit

/-! ### last -/
theorem not_in_next (l : List UInt8) (k : Nat) (h : k < l.length) (d : UInt8) (h1 : d ∉ l.take k) (h2 : l[k] ≠ d) : d ∉ l.take (k + 1) := by
  rw [List.take_succ_eq_append_getElem h, List.mem_append, not_or]
  exact ⟨h1, by simpa using Ne.symm h2⟩
theorem kjoined_m (n : Nat) (rows : List (List UInt8)) (hn : n = rows.length) (a : Option Addr) (c : Nat) (w : World) (hcell : ∀ k (hk : k < rows.length), ∃ g o, a = some ⟨g, o, none⟩ ∧ w.cell? ⟨g, o + k, none⟩ = some (S rows[k])) (hl : (joinN rows).length ≤ 1048576) :
    Calls Tryd.prog 19 #[.slice a n c] w fun e w' => e = .returned (S (joinN rows)) ∧ w' = w := by
  subst hn
  exact kjoined_cells rows a c w hcell hl
/-- A variable that is free, or none. -/
def FreeX (l xs : List UInt8) : Prop := xs = [] ∨ ∃ d : UInt8, xs = [d] ∧ 49 ≤ d.toNat ∧ d.toNat ≤ 56 ∧ d ∉ l
attribute [local go_sem] ba_get
set_option maxRecDepth 100000 in
set_option maxHeartbeats 6400000 in
theorem klast_any (l : List UInt8) (w : World) (ht : TabAt w) (hll : l.length ≤ 8192) :
    Calls Tryd.prog 13 #[.string ⟨l.toArray⟩] w fun e w' => e = .returned (.bool true) ∧ Below w.heap.size w w' := by
  go_enter Tryd.func13, Tryd.ntmps13
  go_wp2_with fail
  refine (kkind_any l w ht).mono ?_
  rintro e u1 ⟨rfl, b1⟩
  generalize hvk : vkind l = vk at *
  have HVK := hide hvk
  clear hvk
  obtain ⟨k0, p0⟩ := vk
  dsimp only
  by_cases hv : k0 = 0
  · have hv1 : ((k0 : Int) == 0) = true := by rw [beq_iff_eq]; omega
    have hv2 : (k0 == 0) = true := by rw [beq_iff_eq]; exact hv
    clear hv
    go_wp2_with fail
    go_ret
    exact ⟨rfl, b1⟩
  · obtain ⟨P, C, qs, cs, hT⟩ := text_vkind (l := l) (by rw [unhide HVK]; exact hv)
    have HT := hide hT
    have hv1 : ((k0 : Int) == 0) = false := by rw [beq_eq_false_iff_ne]; omega
    have hv2 : (k0 == 0) = false := by rw [beq_eq_false_iff_ne]; exact hv
    clear hv hT
    go_wp2_with fail
    go_loopg [5, 6] 8 (fun n vx vc wx => ∃ (c : Nat) (xs : List UInt8), vc = .int .u8 (c : Int) ∧ vx = .string ⟨xs.toArray⟩ ∧ c + n = 57 ∧ 49 ≤ c ∧ FreeX l xs ∧ Below w.heap.size w wx)
    case atStart => exact ⟨49, [], rfl, rfl, rfl, by omega, Or.inl rfl, b1⟩
    case round =>
      obtain ⟨c, xs, rfl, rfl, hcn, hc49, hfx, hb⟩ := hrel
      have HFX := hide hfx
      clear hfx
      by_cases hlt : c ≤ 56
      · have hd3 : decide ((c : Int) ≤ 56) = true := decide_eq_true (by omega)
        have hd4 : decide (c ≤ 56) = true := decide_eq_true hlt
        obtain ⟨wo, rfl⟩ : ∃ wo, wo = wr := ⟨_, rfl⟩
        obtain ⟨go, rfl⟩ : ∃ go, go = gk := ⟨_, rfl⟩
        obtain ⟨d, hdn⟩ : ∃ d : UInt8, d.toNat = c := ⟨UInt8.ofNat c, by rw [UInt8.toNat_ofNat', Nat.mod_eq_of_lt (by omega)]⟩
        have HDN := hide hdn
        clear hdn
        go_wp2_with fail
        go_loopg [7, 8] (l.length) (fun n vb vi wx => ∃ (k : Nat) (b : Bool), vi = .int .i64 (k : Int) ∧ vb = .bool b ∧ k + n = l.length ∧ (b = false → d ∉ l.take k) ∧ wx = wo)
        case atStart => exact ⟨0, false, rfl, rfl, by omega, fun _ => by simp, rfl⟩
        case round =>
          obtain ⟨k, b, rfl, rfl, hkn, hbd, rfl⟩ := hrel
          have HBD := hide hbd
          clear hbd
          by_cases hlt2 : k < l.length
          · have hd5 : decide ((k : Int) < (l.length : Int)) = true := decide_eq_true (by omega)
            have hd6 : decide (k < l.length) = true := decide_eq_true hlt2
            cases b with
            | true =>
              go_wp2_with fail
              go_roundg (gk - 1)
              case measure => omega
              case rel => exact ⟨k + 1, true, by go_num, rfl, by omega, (fun h => by cases h), rfl⟩
            | false =>
              by_cases hbx : l[k] = d
              · have c1 : ((l[k].toNat : Int) == (c : Int)) = true := by rw [hbx, unhide HDN]; exact beq_self_eq_true _
                have c1n : (l[k].toNat == c) = true := by rw [hbx, unhide HDN]; exact beq_self_eq_true _
                clear hbx
                go_wp2_with fail
                go_roundg (gk - 1)
                case measure => omega
                case rel => exact ⟨k + 1, true, by go_num, rfl, by omega, (fun h => by cases h), rfl⟩
              · have c1 : ((l[k].toNat : Int) == (c : Int)) = false := by
                  rw [beq_eq_false_iff_ne]
                  intro e
                  exact hbx (UInt8.toNat_inj.1 (by have := unhide HDN; omega))
                have c1n : (l[k].toNat == c) = false := by rw [beq_eq_false_iff_ne]; intro e; exact hbx (UInt8.toNat_inj.1 (by have := unhide HDN; omega))
                have HNI := hide (not_in_next l k hlt2 d (unhide HBD rfl) hbx)
                clear hbx
                go_wp2_with fail
                go_roundg (gk - 1)
                case measure => omega
                case rel => exact ⟨k + 1, false, by go_num, rfl, by omega, fun _ => unhide HNI, rfl⟩
          · have hd5 : decide ((k : Int) < (l.length : Int)) = false := decide_eq_false (by omega)
            have hd6 : decide (k < l.length) = false := decide_eq_false hlt2
            cases b with
            | true =>
              go_wp2_with fail
              go_roundg (go - 1)
              case measure => omega
              case rel => exact ⟨c + 1, xs, by go_num, rfl, by omega, by omega, unhide HFX, hb⟩
            | false =>
              have HFD : Hid (FreeX l [d]) := hide (Or.inr ⟨d, rfl, by have := unhide HDN; omega, by have := unhide HDN; omega, by have := unhide HBD rfl; rw [List.take_of_length_le (by omega)] at this; exact this⟩)
              have hcv := conv_byte (c : Int) (by omega) (by omega) wr
              have HD2 : Hid (UInt8.ofNat (c : Int).toNat = d) := hide (by rw [Int.toNat_natCast, ← unhide HDN]; simp)
              rw [unhide HD2] at hcv
              go_wp2_with fail
              go_roundg (go - 1)
              case measure => omega
              case rel => exact ⟨c + 1, [d], by go_num, rfl, by omega, by omega, unhide HFD, hb.alloc hb.size _⟩
      · have hd3 : decide ((c : Int) ≤ 56) = false := decide_eq_false (by omega)
        have hd4 : decide (c ≤ 56) = false := decide_eq_false hlt
        rcases unhide HFX with hx0 | ⟨d, hx0, hd49, hd56, hdl⟩
        · subst hx0
          clear HFX
          go_wp2_with fail
          go_ret
          exact ⟨rfl, hb⟩
        · subst hx0
          clear HFX
          have hlaw := last_law (unhide HT) d hd49 hd56 hdl
          rw [unhide HVK] at hlaw
          have HLAW := hide hlaw
          clear hlaw
          go_wp2_with fail
          refine (klines_any l wr (by omega)).mono ?_
          rintro e u2 ⟨vl, rfl, hown, b2⟩
          have hB2 := hb.trans (b2.mono hb.size)
          have hT := unhide HT
          obtain ⟨rows, hrows⟩ : ∃ X, X = P ++ C := ⟨_, rfl⟩
          have HR := hide hrows
          rw [lines_text hT, ← hrows] at hown
          obtain ⟨f1, f2⟩ := pref_rows_first hT
          have hjl : (joinN rows).length ≤ 2000 := by rw [hrows, ← hT.text]; exact hT.len
          have hge := joinN_ge rows
          have hpc : rows.length = P.length + C.length := by rw [hrows, List.length_append]
          have hjp : (joinN P).length + (joinN C).length ≤ 2000 := by rw [hrows, joinN_app, List.length_append] at hjl; exact hjl
          have HPC := hide hpc
          clear hT hrows hpc
          obtain ⟨aL, cL, rfl⟩ := own_form hown
          go_wp2_with fail
          refine (kclauses_rows _ rows P C (unhide HR) aL cL u2 hown f1 f2 (by omega)).mono ?_
          rintro e u3 ⟨rfl, b3⟩
          have hB3 := hB2.trans (b3.mono hB2.size)
          have hownL := own_below hown b3
          have hple : P.length ≤ rows.length := by have := unhide HPC; omega
          have hrl : rows.length - P.length = C.length := by have := unhide HPC; omega
          have HRP : Hid (∀ k (hk : k < P.length), ∀ (hr : k < rows.length), rows[k] = P[k]) := hide (fun k hk hr => by
            have e := unhide HR
            subst e
            exact List.getElem_append_left hk)
          have HRC : Hid (∀ k (hk : k < C.length), ∀ (hr : P.length + k < rows.length), rows[P.length + k] = C[k]) := hide (fun k hk hr => by
            have e := unhide HR
            subst e
            rw [List.getElem_append_right (by omega)]
            simp)
          clear f1 f2 hown
          obtain ⟨A, hA⟩ : ∃ X, X = joinN P := ⟨_, rfl⟩
          obtain ⟨B, hB⟩ : ∃ X, X = joinN C := ⟨_, rfl⟩
          have HA := hide hA
          have HB := hide hB
          rw [← hA, ← hB] at HLAW hjp
          clear hA hB
          rcases hownL.2 with ⟨hVe, hn0⟩ | ⟨g, cap, cur, hVe, hbg, hblk, hnc, hcm, hcs, htake⟩
          · injection hVe with hVe _ hV2
            subst hVe hV2
            have hpl0 : P.length = 0 := by omega
            have hcl0 : C.length = 0 := by omega
            have HC1 : Hid (∀ k (hk : k < P.length), ∃ g o, (none : Option Addr) = some ⟨g, o, none⟩ ∧ u3.cell? ⟨g, o + k, none⟩ = some (S P[k])) := hide (fun k hk => by omega)
            have HC2 : Hid (∀ k (hk : k < C.length), ∃ g o, (none : Option Addr) = some ⟨g, o, none⟩ ∧ u3.cell? ⟨g, o + k, none⟩ = some (S C[k])) := hide (fun k hk => by omega)
            go_wp2_with fail
            refine (kjoined_m 0 P (by omega) _ _ u3 (unhide HC1) (by rw [← unhide HA]; omega)).mono ?_
            rintro e u4 ⟨rfl, rfl⟩
            rw [← unhide HA]
            go_wp2_with fail
            refine (kjoined_m 0 C (by omega) _ _ u4 (unhide HC2) (by rw [← unhide HB]; omega)).mono ?_
            rintro e u5 ⟨rfl, rfl⟩
            rw [← unhide HB]
            have hE1 : ByteArray.mk A.toArray ++ ⟨#[101, 32]⟩ ++ ⟨[d].toArray⟩ ++ ⟨#[10]⟩ ++ ByteArray.mk B.toArray = ⟨(A ++ [101, 32, d, 10] ++ B).toArray⟩ := by
              have e1 := ba_append A [101, 32]
              have e2 := ba_append (A ++ [101, 32]) [d]
              have e3 := ba_append (A ++ [101, 32] ++ [d]) [10]
              have e4 := ba_append (A ++ [101, 32] ++ [d] ++ [10]) B
              rw [← e3, ← e2, ← e1] at e4
              rw [show A ++ [101, 32, d, 10] ++ B = A ++ [101, 32] ++ [d] ++ [10] ++ B from by simp]
              exact e4
            have hE2 : ByteArray.mk A.toArray ++ ⟨#[97, 32]⟩ ++ ⟨[d].toArray⟩ ++ ⟨#[10]⟩ ++ ByteArray.mk B.toArray = ⟨(A ++ [97, 32, d, 10] ++ B).toArray⟩ := by
              have e1 := ba_append A [97, 32]
              have e2 := ba_append (A ++ [97, 32]) [d]
              have e3 := ba_append (A ++ [97, 32] ++ [d]) [10]
              have e4 := ba_append (A ++ [97, 32] ++ [d] ++ [10]) B
              rw [← e3, ← e2, ← e1] at e4
              rw [show A ++ [97, 32, d, 10] ++ B = A ++ [97, 32] ++ [d] ++ [10] ++ B from by simp]
              exact e4
            obtain ⟨T1, hT1⟩ : ∃ X, X = A ++ [101, 32, d, 10] ++ B := ⟨_, rfl⟩
            obtain ⟨T2, hT2⟩ : ∃ X, X = A ++ [97, 32, d, 10] ++ B := ⟨_, rfl⟩
            have hE3 : ByteArray.mk T1.toArray ++ ⟨#[99, 32, 45]⟩ ++ ⟨[d].toArray⟩ ++ ⟨#[10]⟩ = ⟨(T1 ++ [99, 32, 45, d, 10]).toArray⟩ := by
              have e1 := ba_append T1 [99, 32, 45]
              have e2 := ba_append (T1 ++ [99, 32, 45]) [d]
              have e3 := ba_append (T1 ++ [99, 32, 45] ++ [d]) [10]
              rw [← e2, ← e1] at e3
              rw [show T1 ++ [99, 32, 45, d, 10] = T1 ++ [99, 32, 45] ++ [d] ++ [10] from by simp]
              exact e3
            have hl1 : T1.length ≤ 2004 := by rw [hT1]; simp; omega
            rw [← hT1] at hE1
            rw [← hT2] at hE2
            have hlw := unhide HLAW
            rw [← hT1, ← hT2] at hlw
            obtain ⟨T3, hT3⟩ : ∃ X, X = T1 ++ [99, 32, 45, d, 10] := ⟨_, rfl⟩
            rw [← hT3] at hE3 hlw
            have HW1 := hide hlw.1
            have HW2 := hide hlw.2.1
            have HW3 := hide hlw.2.2
            have hla : A.length ≤ 2000 := by omega
            have hlb : B.length ≤ 2000 := by omega
            clear hlw HLAW hT1 hT2 hT3
            go_wp2_with fail
            refine (kkind_any T1 u5 (ht.later hB3)).mono ?_
            rintro e u6 ⟨rfl, b6⟩
            have hB6 := hB3.trans (b6.mono hB3.size)
            generalize vkind T1 = v1 at *
            obtain ⟨k1, q1⟩ := v1
            dsimp only at HW1 ⊢
            go_wp2_with fail
            refine (kkind_any T2 u6 (ht.later hB6)).mono ?_
            rintro e u7 ⟨rfl, b7⟩
            have hB7 := hB6.trans (b7.mono hB6.size)
            generalize vkind T2 = v2 at *
            obtain ⟨k2, q2⟩ := v2
            dsimp only at HW2 ⊢
            go_wp2_with fail
            refine (kkind_any T3 u7 (ht.later hB7)).mono ?_
            rintro e u8 ⟨rfl, b8⟩
            have hB8 := hB7.trans (b8.mono hB7.size)
            generalize vkind T3 = v3 at *
            obtain ⟨k3, q3⟩ := v3
            dsimp only at HW3 ⊢
            clear hE1 hE2 hE3
            have hor : ∀ kk : Nat, kk = k0 ∨ kk = 0 → (((kk : Int) == (k0 : Int)) = true ∧ (kk == k0) = true) ∨ ((((kk : Int) == (k0 : Int)) = false ∧ (kk == k0) = false) ∧ ((kk : Int) == 0) = true ∧ (kk == 0) = true) := by
              intro kk h
              by_cases e : kk = k0
              · exact Or.inl ⟨by rw [beq_iff_eq]; omega, by rw [beq_iff_eq]; exact e⟩
              · have e0 : kk = 0 := by omega
                exact Or.inr ⟨⟨by rw [beq_eq_false_iff_ne]; omega, by rw [beq_eq_false_iff_ne]; exact e⟩, by rw [beq_iff_eq]; omega, by rw [beq_iff_eq]; exact e0⟩
            have hq1 := hor k1 (unhide HW1)
            have hq2 := hor k2 (unhide HW2)
            have hq3 := hor k3 (unhide HW3)
            clear hor HW1 HW2 HW3
            rcases hq1 with ⟨g1, g1n⟩ | ⟨⟨g1, g1n⟩, g1z, g1zn⟩ <;> rcases hq2 with ⟨g2, g2n⟩ | ⟨⟨g2, g2n⟩, g2z, g2zn⟩ <;> rcases hq3 with ⟨g3, g3n⟩ | ⟨⟨g3, g3n⟩, g3z, g3zn⟩ <;> (go_wp2_with fail; go_ret; exact ⟨rfl, hB8⟩)
          · injection hVe with hVe _ hV2
            subst hVe hV2
            have hcc : rows.length ≤ cL := hnc
            clear hblk hcs htake hcm hnc hbg
            have hst := strs_at hownL
            have HC1 : Hid (∀ k (hk : k < P.length), ∃ g' o, some (⟨g, 0, none⟩ : Addr) = some ⟨g', o, none⟩ ∧ u3.cell? ⟨g', o + k, none⟩ = some (S P[k])) := hide (fun k hk => ⟨g, 0, rfl, by rw [Nat.zero_add, hst k (by omega), unhide HRP k hk (by omega)]⟩)
            have HC2 : Hid (∀ k (hk : k < C.length), ∃ g' o, some (⟨g, P.length, none⟩ : Addr) = some ⟨g', o, none⟩ ∧ u3.cell? ⟨g', o + k, none⟩ = some (S C[k])) := hide (fun k hk => ⟨g, P.length, rfl, by rw [hst (P.length + k) (by omega), unhide HRC k hk (by omega)]⟩)
            have HC3 : Hid (cL = P.length → ∀ k (hk : k < C.length), ∃ g' o, some (⟨g, 0, none⟩ : Addr) = some ⟨g', o, none⟩ ∧ u3.cell? ⟨g', o + k, none⟩ = some (S C[k])) := hide (fun e k hk => by omega)
            clear hst
            by_cases hcap : cL = P.length
            all_goals (
              go_wp2_with fail
              refine (kjoined_m P.length P rfl _ _ u3 (unhide HC1) (by rw [← unhide HA]; omega)).mono ?_
              rintro e u4 ⟨rfl, rfl⟩
              rw [← unhide HA]
              go_wp2_with fail
              refine (kjoined_m _ C (by first | rfl | exact hrl) _ _ u4 (by first | exact unhide HC3 hcap | exact unhide HC2) (by rw [← unhide HB]; omega)).mono ?_
              rintro e u5 ⟨rfl, rfl⟩
              rw [← unhide HB]
              have hE1 : ByteArray.mk A.toArray ++ ⟨#[101, 32]⟩ ++ ⟨[d].toArray⟩ ++ ⟨#[10]⟩ ++ ByteArray.mk B.toArray = ⟨(A ++ [101, 32, d, 10] ++ B).toArray⟩ := by
                have e1 := ba_append A [101, 32]
                have e2 := ba_append (A ++ [101, 32]) [d]
                have e3 := ba_append (A ++ [101, 32] ++ [d]) [10]
                have e4 := ba_append (A ++ [101, 32] ++ [d] ++ [10]) B
                rw [← e3, ← e2, ← e1] at e4
                rw [show A ++ [101, 32, d, 10] ++ B = A ++ [101, 32] ++ [d] ++ [10] ++ B from by simp]
                exact e4
              have hE2 : ByteArray.mk A.toArray ++ ⟨#[97, 32]⟩ ++ ⟨[d].toArray⟩ ++ ⟨#[10]⟩ ++ ByteArray.mk B.toArray = ⟨(A ++ [97, 32, d, 10] ++ B).toArray⟩ := by
                have e1 := ba_append A [97, 32]
                have e2 := ba_append (A ++ [97, 32]) [d]
                have e3 := ba_append (A ++ [97, 32] ++ [d]) [10]
                have e4 := ba_append (A ++ [97, 32] ++ [d] ++ [10]) B
                rw [← e3, ← e2, ← e1] at e4
                rw [show A ++ [97, 32, d, 10] ++ B = A ++ [97, 32] ++ [d] ++ [10] ++ B from by simp]
                exact e4
              obtain ⟨T1, hT1⟩ : ∃ X, X = A ++ [101, 32, d, 10] ++ B := ⟨_, rfl⟩
              obtain ⟨T2, hT2⟩ : ∃ X, X = A ++ [97, 32, d, 10] ++ B := ⟨_, rfl⟩
              have hE3 : ByteArray.mk T1.toArray ++ ⟨#[99, 32, 45]⟩ ++ ⟨[d].toArray⟩ ++ ⟨#[10]⟩ = ⟨(T1 ++ [99, 32, 45, d, 10]).toArray⟩ := by
                have e1 := ba_append T1 [99, 32, 45]
                have e2 := ba_append (T1 ++ [99, 32, 45]) [d]
                have e3 := ba_append (T1 ++ [99, 32, 45] ++ [d]) [10]
                rw [← e2, ← e1] at e3
                rw [show T1 ++ [99, 32, 45, d, 10] = T1 ++ [99, 32, 45] ++ [d] ++ [10] from by simp]
                exact e3
              have hl1 : T1.length ≤ 2004 := by rw [hT1]; simp; omega
              rw [← hT1] at hE1
              rw [← hT2] at hE2
              have hlw := unhide HLAW
              rw [← hT1, ← hT2] at hlw
              obtain ⟨T3, hT3⟩ : ∃ X, X = T1 ++ [99, 32, 45, d, 10] := ⟨_, rfl⟩
              rw [← hT3] at hE3 hlw
              have HW1 := hide hlw.1
              have HW2 := hide hlw.2.1
              have HW3 := hide hlw.2.2
              have hla : A.length ≤ 2000 := by omega
              have hlb : B.length ≤ 2000 := by omega
              clear hlw HLAW hT1 hT2 hT3
              go_wp2_with fail
              refine (kkind_any T1 u5 (ht.later hB3)).mono ?_
              rintro e u6 ⟨rfl, b6⟩
              have hB6 := hB3.trans (b6.mono hB3.size)
              generalize vkind T1 = v1 at *
              obtain ⟨k1, q1⟩ := v1
              dsimp only at HW1 ⊢
              go_wp2_with fail
              refine (kkind_any T2 u6 (ht.later hB6)).mono ?_
              rintro e u7 ⟨rfl, b7⟩
              have hB7 := hB6.trans (b7.mono hB6.size)
              generalize vkind T2 = v2 at *
              obtain ⟨k2, q2⟩ := v2
              dsimp only at HW2 ⊢
              go_wp2_with fail
              refine (kkind_any T3 u7 (ht.later hB7)).mono ?_
              rintro e u8 ⟨rfl, b8⟩
              have hB8 := hB7.trans (b8.mono hB7.size)
              generalize vkind T3 = v3 at *
              obtain ⟨k3, q3⟩ := v3
              dsimp only at HW3 ⊢
              clear hE1 hE2 hE3
              have hor : ∀ kk : Nat, kk = k0 ∨ kk = 0 → (((kk : Int) == (k0 : Int)) = true ∧ (kk == k0) = true) ∨ ((((kk : Int) == (k0 : Int)) = false ∧ (kk == k0) = false) ∧ ((kk : Int) == 0) = true ∧ (kk == 0) = true) := by
                intro kk h
                by_cases e : kk = k0
                · exact Or.inl ⟨by rw [beq_iff_eq]; omega, by rw [beq_iff_eq]; exact e⟩
                · have e0 : kk = 0 := by omega
                  exact Or.inr ⟨⟨by rw [beq_eq_false_iff_ne]; omega, by rw [beq_eq_false_iff_ne]; exact e⟩, by rw [beq_iff_eq]; omega, by rw [beq_iff_eq]; exact e0⟩
              have hq1 := hor k1 (unhide HW1)
              have hq2 := hor k2 (unhide HW2)
              have hq3 := hor k3 (unhide HW3)
              clear hor HW1 HW2 HW3
              rcases hq1 with ⟨g1, g1n⟩ | ⟨⟨g1, g1n⟩, g1z, g1zn⟩ <;> rcases hq2 with ⟨g2, g2n⟩ | ⟨⟨g2, g2n⟩, g2z, g2zn⟩ <;> rcases hq3 with ⟨g3, g3n⟩ | ⟨⟨g3, g3n⟩, g3z, g3zn⟩ <;> (go_wp2_with fail; go_ret; exact ⟨rfl, hB8⟩)
              )
end Go.Proofs.YtgipjjhkhfihpabDoor

namespace Go.Proofs.YtgipjjhkhfihpabDoor
open Go.ChangeShapes Go.WideShapes Go.ChangeAt Go.ChangeMaps Go.RowKit

theorem i64_wf2 {x : Int} (h : (Lit.int .i64 x).wf = true) : -9223372036854775808 ≤ x ∧ x ≤ 9223372036854775807 := bounds_i64 h
theorem last_met (os : Os) (args : Array Value) : laidMetH Tryd.prog Rows.lastRow.laid ((World.doorLaid Tryd.prog 400 os).forCall (fun _ _ => 0) ⟨#[], args, []⟩).memory :=
  laidMetH_of_parts3 (fuel := 8) (laidMet_of_run' 8 (by kernel_rfl) (by kernel_rfl)) (by kernel_rfl) (by kernel_rfl)
theorem last_tab {W : World} (h : laidMetH Tryd.prog Rows.lastRow.laid W) : TabAt W := by
  have hf : (Rows.lastRow.laid.filter fun x => x.2.handleName?.isSome) = [] := by rfl
  unfold laidMetH at h
  rw [hf] at h
  exact tab_of_third2 h
set_option maxRecDepth 100000 in
set_option maxHeartbeats 800000 in
theorem last_any (l : List UInt8) (w : World) (ht : TabAt w)  :
    Calls Tryd.prog 7 #[.string ⟨l.toArray⟩] w fun e w' => e = .returned (.bool true) ∧ Below w.heap.size w w' := by
  by_cases hl : 8192 < l.length
  · have hd : decide ((8192 : Int) < (l.length : Int)) = true := decide_eq_true (by omega)
    have hd2 : decide (8192 < l.length) = true := decide_eq_true hl
    clear hl
    go_enter Tryd.func7, Tryd.ntmps7
    go_wp2_with fail
    go_ret
    exact ⟨rfl, Below.refl _ _⟩
  · have hd : decide ((8192 : Int) < (l.length : Int)) = false := decide_eq_false (by omega)
    have hd2 : decide (8192 < l.length) = false := decide_eq_false hl
    have HL : Hid (l.length ≤ 8192) := hide (by omega)
    clear hl
    go_enter Tryd.func7, Tryd.ntmps7
    go_wp2_with fail
    refine (anchored_any l w ht).mono ?_
    rintro e u1 ⟨rfl, b1⟩
    go_wp2_with fail
    refine (klast_any l u1 (ht.later b1) (unhide HL)).mono ?_
    rintro e u2 ⟨rfl, b2⟩
    go_wp2_with fail
    go_ret
    exact ⟨rfl, b1.trans (b2.mono b1.size)⟩

set_option maxHeartbeats 1600000 in
set_option maxRecDepth 100000 in
theorem last_lifted (os : Os) (started : os.Started) (H : Type) (enc : TypeId × Value → H) (F : Stop.Interp) :
    ReturnsInHanded {} Tryd.checked os 7 .any ((OpenSpec.ofChange Rows.lastSpec).preRow enc Tryd.prog Tryd.f7 Rows.lastRow.domain false Rows.lastRow.laid) (((OpenSpec.ofChange Rows.lastSpec).at F).post enc Tryd.prog Tryd.f7 false true false false) := by
  obtain ⟨places, hx⟩ : ∃ places, DataW.whole enc Tryd.prog ((World.doorLaid Tryd.prog 400 os).forCall (fun _ _ => 0) ⟨#[], #[.string ⟨#[]⟩], []⟩).memory Tryd.f7.params.toList Rows.lastSpec.vars false #[Value.string ⟨#[]⟩].toList 8 = some ([.lit (.string [])], [], places) := ⟨[], by kernel_rfl⟩
  refine returnsInHanded_of_row (C := Tryd.checked) (s := OpenSpec.ofChange Rows.lastSpec) (show ownKnob Tryd.prog.godebug = none by kernel_rfl) started (by kernel_rfl) Tryd.func7
    (witness_row_at (enc := enc) (C := Tryd.checked) false (World.doorLaid Tryd.prog 400 os) #[.string ⟨#[]⟩] rfl (by kernel_rfl) (by kernel_rfl) (by kernel_rfl)
      (OpenSpec.preRow_of_cond 8 hx (by kernel_rfl) (fun k hk => by cases hk) (by kernel_rfl) (last_met os _))) ?_
  intro W base args ds gs before hval0 hW _ _ _ hL _ _
  have hval : ∀ (j : Nat) t v, Tryd.f7.params[j]? = some t → args[j]? = some v → Value.okWide Tryd.prog W .any base t v := hval0
  have hW' := hW
  obtain ⟨p, q, hA0, hV, rfl, hfz, hnd⟩ := hW
  have hA : DataW.TrodAll enc Tryd.prog W 0 (fun _ => true) true Tryd.f7.params.toList args.toList ds p := hA0
  rw [Tryd.params7] at hA hval
  obtain ⟨v0, vs0, d0, ds0, p0, q0, hargs0, rfl, rfl, h0, r0⟩ := trodAll_cons hA
  obtain ⟨rfl, rfl, rfl⟩ := trodAll_nil r0
  obtain rfl : args = #[v0] := by cases args; simp_all
  obtain ⟨rfl, rfl⟩ := trodVars_none hV
  obtain ⟨s0, rfl, rfl, rfl, w0⟩ := open_string Tryd.underlying9 (hval 0 9 v0 rfl rfl) h0
  clear hA0 hval0
  simp only [List.append_nil] at hW'
  obtain ⟨l0, hl0⟩ : ∃ l : List UInt8, s0 = ⟨l.toArray⟩ := ⟨s0.data.toList, by simp⟩
  subst hl0
  refine (last_any l0 W (last_tab hL) ).mono fun e W' ⟨he, bel⟩ => ?_
  subst he
  exact ⟨_, rfl, _, _, _, [], _, [], hW', trodAll_mk1 (shut_bool Tryd.underlying4 _), trodAll_mk1 (shut_string Tryd.underlying9 w0), rfl, bel.frame _, fun h => by cases h⟩

theorem last_said : Rows.LastSaid :=
  OpenClaim.holds_of_cond 7 Tryd.f7 rfl rfl rfl rfl rfl rfl rfl ⟨rfl, rfl, rfl, rfl, rfl⟩ rfl rfl rfl rfl rfl (by kernel_rfl) Tryd.func7 (by kernel_rfl)
    (of_decide_eq_true (by kernel_rfl)) (by unfold Func.isWrapper; first | (rw [if_pos (by decide +kernel)]; kernel_rfl) | (rw [if_neg (by decide +kernel)]; exact ⟨rfl, rfl⟩))
    (fun os started H enc _ F => by rw [OpenClaim.pre_eq_preRow]; exact last_lifted os started H enc F)
/-- No parameter wants a stand-in; the program's own looks are off. -/
theorem last_plain (f : FuncId) (fn : Func) (hf : Tryd.pinned.checked.prog.funcNamed "duel/duelkeep.Last" = some f) (hfn : Tryd.pinned.checked.prog.funcs[f]? = some fn) :
    false = Tryd.pinned.checked.prog.looks [] ∧ ∀ (j : Nat) t, fn.params[j]? = some t → Tryd.pinned.checked.prog.wantsStandIn t = false := by
  obtain rfl : f = 7 := Option.some.inj ((show Tryd.prog.funcNamed "duel/duelkeep.Last" = some 7 by kernel_rfl).symm.trans hf) |>.symm
  obtain rfl : fn = Tryd.f7 := (Option.some.inj (Tryd.func7.symm.trans hfn)).symm
  refine ⟨by kernel_rfl, fun j t ht => ?_⟩
  rw [Tryd.params7] at ht
  obtain rfl : t = 9 := by simpa using Array.mem_of_getElem? ht
  exact (show Tryd.prog.wantsStandIn 9 = false by kernel_rfl)
theorem last_holds : Rows.LastCardSaid :=
  Claim7.holds_tied_plain_at .later [] _ _ _ _ last_said (fun _ h => by cases h) (by kernel_rfl) (fun _ h => by cases h) last_row_tie rfl ⟨rfl, rfl⟩ (by kernel_rfl) rfl last_plain (by kernel_rfl)
#print axioms last_holds
end Go.Proofs.YtgipjjhkhfihpabDoor
