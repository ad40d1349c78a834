import Derived.Test.YtgipjjhkhfihpabDoorAJ
import Derived.Test.YtgipjjhkhfihpabDoorAZ
import Derived.Test.YtgipjjhkhfihpabDoorCards
import Derived.Test.YtgipjjhkhfihpabDoorTie
import Derived.ProofKit
import Derived.LaidMore
import Derived.Stop.Joined
import Derived.Lib.LaidTab
import Derived.OpenShut
import Derived.Deep.DeepHandedRow
import Derived.WalkKit
import Derived.ChangeMaps5
namespace Go.Proofs.YtgipjjhkhfihpabDoor
open Go.RowKit

/-! ### Lines cut at blanks and joined again -/
theorem cutAt_same (c : UInt8) (r : List UInt8) : cutAt c (c :: r) = [] :: cutAt c r := by
  have e0 : cutAt c (c :: r) = (r.foldl (cutStep c) (cutStep c ([], []) c)).1 ++ [(r.foldl (cutStep c) (cutStep c ([], []) c)).2] := rfl
  have e : cutStep c ([], []) c = ([[]], []) := by unfold cutStep; rw [if_pos rfl]; rfl
  rw [e0, e, cut_shift]
  obtain ⟨hd, tl, h⟩ := cutAt_ne c r
  rw [h]; rfl
def joinB (tl : List (List UInt8)) : List UInt8 := tl.flatMap (fun w => 32 :: w)
theorem joinB_cons (w : List UInt8) (tl : List (List UInt8)) : joinB (w :: tl) = 32 :: (w ++ joinB tl) := by simp [joinB]
theorem cutAt_back (r : List UInt8) : ∀ hd tl, cutAt 32 r = hd :: tl → r = hd ++ joinB tl ∧ (32 : UInt8) ∉ hd ∧ ∀ w ∈ tl, (32 : UInt8) ∉ w := by
  induction r with
  | nil =>
    intro hd tl h
    have h' : [[]] = hd :: tl := h
    injection h' with a b
    subst a b
    simp [joinB]
  | cons b r ih =>
    intro hd tl h
    obtain ⟨hd', tl', h'⟩ := cutAt_ne 32 r
    obtain ⟨i1, i2, i3⟩ := ih hd' tl' h'
    by_cases hb : b = 32
    · subst hb
      rw [cutAt_same, h'] at h
      injection h with a c
      subst a c
      refine ⟨by rw [joinB_cons, ← i1]; rfl, by simp, ?_⟩
      intro w hw
      rcases List.mem_cons.1 hw with rfl | hw
      · exact i2
      · exact i3 w hw
    · rw [cutAt_cons 32 b r hb hd' tl' h'] at h
      injection h with a c
      subst a c
      exact ⟨by rw [List.cons_append, ← i1], by rw [List.mem_cons, not_or]; exact ⟨Ne.symm hb, i2⟩, i3⟩
theorem cutAt_joinB (tl : List (List UInt8)) : (∀ w ∈ tl, (32 : UInt8) ∉ w) → ∀ hd : List UInt8, (32 : UInt8) ∉ hd → cutAt 32 (hd ++ joinB tl) = hd :: tl := by
  induction tl with
  | nil =>
    intro _ hd
    induction hd with
    | nil => intro _; rfl
    | cons b hd ih =>
      intro h
      rw [List.mem_cons, not_or] at h
      exact cutAt_cons 32 b _ (Ne.symm h.1) hd [] (ih h.2)
  | cons w tl ih =>
    intro h3 hd
    have hi := ih (fun x hx => h3 x (by simp [hx])) w (h3 w (by simp))
    induction hd with
    | nil => intro _; rw [List.nil_append, joinB_cons, cutAt_same, hi]
    | cons b hd ih2 =>
      intro h
      rw [List.mem_cons, not_or] at h
      exact cutAt_cons 32 b _ (Ne.symm h.1) hd _ (ih2 h.2)
/-! ### Literals' words -/
theorem dig_pos {w : List UInt8} (h : 0 < dig w) : ∃ d : UInt8, w = [d] ∧ 49 ≤ d.toNat ∧ d.toNat ≤ 56 ∧ (dig w).toNat = d.toNat - 48 := by
  match w with
  | [] => exact absurd h (by decide)
  | _ :: _ :: _ => exact absurd h (by simp [dig])
  | [c] =>
    simp only [dig] at h ⊢
    split at h
    · next hc => exact ⟨c, rfl, by omega, by omega, by rw [if_pos hc]; omega⟩
    · exact absurd h (by decide)
theorem dig_one (d : UInt8) (h1 : 49 ≤ d.toNat) (h2 : d.toNat ≤ 56) : dig [d] = ((d.toNat - 48 : Nat) : Int) := by
  simp only [dig]
  rw [if_pos (by omega)]
  omega
def LitW (w : List UInt8) : Prop := ∃ d : UInt8, 49 ≤ d.toNat ∧ d.toNat ≤ 56 ∧ (w = [d] ∨ w = [45, d])
theorem litInto_ok {c : Nat × Nat} {w : List UInt8} (h : (litInto c w).2 = true) : LitW w := by
  by_cases hh : w.head? = some 45
  · cases w with
    | nil => cases hh
    | cons b r =>
      have hb : b = 45 := by simpa using hh
      subst hb
      rw [litInto_neg] at h
      obtain ⟨d, rfl, h1, h2, _⟩ := dig_pos (of_decide_eq_true h)
      exact ⟨d, h1, h2, Or.inr rfl⟩
  · rw [litInto_pos c w hh] at h
    obtain ⟨d, rfl, h1, h2, _⟩ := dig_pos (of_decide_eq_true h)
    exact ⟨d, h1, h2, Or.inl rfl⟩
theorem lits_all (ws : List (List UInt8)) : ∀ (st : (Nat × Nat) × Bool), (ws.foldl (fun st w => ((litInto st.1 w).1, st.2 && (litInto st.1 w).2)) st).2 = true → st.2 = true ∧ ∀ w ∈ ws, LitW w := by
  induction ws with
  | nil => intro st h; exact ⟨h, fun w hw => by cases hw⟩
  | cons w ws ih =>
    intro st h
    obtain ⟨h1, h2⟩ := ih _ h
    dsimp only at h1
    rw [Bool.and_eq_true] at h1
    refine ⟨h1.1, fun x hx => ?_⟩
    rcases List.mem_cons.1 hx with rfl | hx
    · exact litInto_ok h1.2
    · exact h2 x hx
/-- A line of a clause, by its words. -/
theorem cl_words {r : List UInt8} {c : Nat × Nat} (h : clRow r = some c) : ∃ tl, r = 99 :: joinB tl ∧ (∀ w ∈ tl, LitW w) ∧ (litsTo tl).2 = true ∧ c = (litsTo tl).1 := by
  unfold clRow at h
  obtain ⟨hd, tl, hw⟩ := cutAt_ne 32 r
  rw [hw] at h
  dsimp only at h
  split at h
  · next hh =>
    obtain ⟨rfl, h2⟩ := hh
    injection h with h
    exact ⟨tl, (cutAt_back r _ _ hw).1, (lits_all tl _ h2).2, h2, h.symm⟩
  · cases h
theorem litW_32 {w : List UInt8} (h : LitW w) : (32 : UInt8) ∉ w := by
  obtain ⟨d, h1, h2, h⟩ := h
  have : d ≠ 32 := fun e => by subst e; revert h1; decide
  rcases h with rfl | rfl <;> simp [Ne.symm this]
theorem litW_10 {w : List UInt8} (h : LitW w) : (10 : UInt8) ∉ w := by
  obtain ⟨d, h1, h2, h⟩ := h
  have : d ≠ 10 := fun e => by subst e; revert h1; decide
  rcases h with rfl | rfl <;> simp [Ne.symm this]
theorem cl_of_words {tl : List (List UInt8)} (h : ∀ w ∈ tl, LitW w) (h2 : (litsTo tl).2 = true) : clRow (99 :: joinB tl) = some (litsTo tl).1 := by
  have e := cutAt_joinB tl (fun w hw => litW_32 (h w hw)) [99] (by decide)
  unfold clRow
  rw [show (99 : UInt8) :: joinB tl = [99] ++ joinB tl from rfl, e]
  dsimp only
  rw [if_pos ⟨rfl, h2⟩]
end Go.Proofs.YtgipjjhkhfihpabDoor

namespace Go.Proofs.YtgipjjhkhfihpabDoor
open Go.RowKit

/-! ### Renamed: variables by other names, in a text -/
def nameB (x : UInt8) : UInt8 := UInt8.ofNat (if 49 ≤ x.toNat ∧ x.toNat ≤ 56 then 49 + (x.toNat - 46) % 8 else x.toNat)
def nameV (v : Nat) : Nat := if 1 ≤ v ∧ v ≤ 8 then 1 + (v + 2) % 8 else v
theorem nameB_nat (x : UInt8) : (nameB x).toNat = if 49 ≤ x.toNat ∧ x.toNat ≤ 56 then 49 + (x.toNat - 46) % 8 else x.toNat := by
  have := x.toNat_lt
  unfold nameB
  rw [UInt8.toNat_ofNat', Nat.mod_eq_of_lt]
  split <;> omega
theorem nameB_iff (c : UInt8) (hc : c.toNat < 49 ∨ 56 < c.toNat) (x : UInt8) : nameB x = c ↔ x = c := by
  rw [← UInt8.toNat_inj, ← UInt8.toNat_inj, nameB_nat]
  split <;> omega
theorem nameV_inj (a b : Nat) (h : nameV a = nameV b) : a = b := by
  unfold nameV at h
  split at h <;> split at h <;> omega
theorem nameV_sur (u : Nat) : ∃ v, nameV v = u := by
  by_cases h : 1 ≤ u ∧ u ≤ 8
  · refine ⟨1 + (u + 4) % 8, ?_⟩
    unfold nameV
    rw [if_pos (by omega)]
    omega
  · exact ⟨u, by unfold nameV; rw [if_neg h]⟩
theorem nameV_8 (v : Nat) : (1 ≤ nameV v ∧ nameV v ≤ 8) ↔ (1 ≤ v ∧ v ≤ 8) := by
  unfold nameV
  split <;> omega
theorem cutTo_map (f : UInt8 → UInt8) (c : UInt8) (hf : ∀ x, f x = c ↔ x = c) (l : List UInt8) : ∀ (pre : List (List UInt8)) (cur : List UInt8), (l.map f).foldl (cutStep c) (pre.map (List.map f), cur.map f) = ((l.foldl (cutStep c) (pre, cur)).1.map (List.map f), (l.foldl (cutStep c) (pre, cur)).2.map f) := by
  induction l with
  | nil => intro pre cur; rfl
  | cons b l ih =>
    intro pre cur
    rw [List.map_cons, List.foldl_cons, List.foldl_cons]
    by_cases hb : b = c
    · have e1 : cutStep c (pre.map (List.map f), cur.map f) (f b) = ((pre ++ [cur]).map (List.map f), ([] : List UInt8).map f) := by unfold cutStep; rw [if_pos ((hf b).2 hb)]; simp
      have e2 : cutStep c (pre, cur) b = (pre ++ [cur], []) := by unfold cutStep; rw [if_pos hb]
      rw [e1, e2, ih]
    · have e1 : cutStep c (pre.map (List.map f), cur.map f) (f b) = (pre.map (List.map f), (cur ++ [b]).map f) := by unfold cutStep; rw [if_neg (fun h => hb ((hf b).1 h))]; simp
      have e2 : cutStep c (pre, cur) b = (pre, cur ++ [b]) := by unfold cutStep; rw [if_neg hb]
      rw [e1, e2, ih]
theorem cutAt_map (f : UInt8 → UInt8) (c : UInt8) (hf : ∀ x, f x = c ↔ x = c) (l : List UInt8) : cutAt c (l.map f) = (cutAt c l).map (List.map f) := by
  have := cutTo_map f c hf l [] []
  unfold cutAt cutTo
  rw [show (([] : List (List UInt8)), ([] : List UInt8)) = (([] : List (List UInt8)).map (List.map f), ([] : List UInt8).map f) from rfl, this, List.map_append]
  rfl
theorem joinN_named (m : List (List UInt8)) : (joinN m).map nameB = joinN (m.map (List.map nameB)) := by
  induction m with
  | nil => rfl
  | cons r m ih =>
    have e : ∀ (r : List UInt8) m, joinN (r :: m) = r ++ (10 :: joinN m) := fun r m => by simp [joinN]
    rw [List.map_cons, e, e, List.map_append, List.map_cons, ih]
    rfl
theorem dig_named (w : List UInt8) : dig (w.map nameB) = ((nameV (dig w).toNat : Nat) : Int) := by
  match w with
  | [] => rfl
  | _ :: _ :: _ => rfl
  | [c] =>
    have hn := nameB_nat c
    simp only [List.map_cons, List.map_nil, dig]
    generalize (nameB c).toNat = y at hn ⊢
    unfold nameV
    split at hn
    · rw [if_pos (show 49 ≤ (c.toNat : Int) ∧ (c.toNat : Int) ≤ 56 by omega), if_pos (show 49 ≤ (y : Int) ∧ (y : Int) ≤ 56 by omega), if_pos (by omega)]
      omega
    · rw [if_neg (show ¬ (49 ≤ (c.toNat : Int) ∧ (c.toNat : Int) ≤ 56) by omega), if_neg (show ¬ (49 ≤ (y : Int) ∧ (y : Int) ≤ 56) by omega)]
      rfl
theorem dig_named_pos (w : List UInt8) : 0 < dig (w.map nameB) ↔ 0 < dig w := by
  rw [dig_named]
  have h1 := dig_bd w
  have h2 := nameV_8 (dig w).toNat
  have h3 : nameV 0 = 0 := rfl
  by_cases h : 0 < dig w
  · have := h2.2 (by omega); exact ⟨fun _ => h, fun _ => by omega⟩
  · have h0 : dig w = 0 := by omega
    rw [h0]
    exact ⟨fun h => absurd h (by decide), fun h => absurd h (by decide)⟩
theorem vars_named (ws : List (List UInt8)) : varsOf (ws.map (List.map nameB)) = (varsOf ws).map (List.map nameV) := by
  induction ws with
  | nil => rfl
  | cons w ws ih =>
    rw [List.map_cons, varsOf, varsOf, ih]
    by_cases h : 0 < dig w
    · rw [if_pos h, if_pos ((dig_named_pos w).2 h), dig_named, Int.toNat_natCast]
      cases varsOf ws <;> rfl
    · rw [if_neg h, if_neg (fun h' => h ((dig_named_pos w).1 h'))]
      rfl
theorem map_one (c : UInt8) (hc : c.toNat < 49 ∨ 56 < c.toNat) (hd : List UInt8) : hd.map nameB = [c] ↔ hd = [c] := by
  match hd with
  | [] => simp
  | [x] => simp [nameB_iff c hc]
  | _ :: _ :: _ => simp
theorem pref_named {r : List UInt8} {x : Bool × List Nat} (h : prefRow r = some x) : prefRow (r.map nameB) = some (x.1, x.2.map nameV) := by
  unfold prefRow at h ⊢
  rw [cutAt_map nameB 32 (nameB_iff 32 (by decide))]
  obtain ⟨hd, tl, hw⟩ := cutAt_ne 32 r
  rw [hw] at h ⊢
  rw [List.map_cons]
  dsimp only at h ⊢
  split at h
  · next hh =>
    have hh' : (hd.map nameB = [101] ∨ hd.map nameB = [97]) ∧ tl.map (List.map nameB) ≠ [] := by
      rw [map_one 101 (by decide), map_one 97 (by decide)]
      exact ⟨hh.1, by simpa using hh.2⟩
    rw [if_pos hh', vars_named]
    cases hv : varsOf tl with
    | none => rw [hv] at h; cases h
    | some vs =>
      rw [hv] at h
      have h' : (hd == [97], vs) = x := Option.some.inj h
      subst h'
      have e : (hd.map nameB == [97]) = (hd == [97]) := by rw [Bool.eq_iff_iff, beq_iff_eq, beq_iff_eq]; exact map_one 97 (by decide) hd
      rw [e]; rfl
  · cases h
theorem prefs_named (P : List (List UInt8)) : ∀ qs, prefs P = some qs → prefs (P.map (List.map nameB)) = some (qs.map (fun x => (x.1, x.2.map nameV))) := by
  induction P with
  | nil => intro qs h; simp [prefs] at h; subst h; rfl
  | cons r P ih =>
    intro qs h
    rw [prefs] at h
    cases hr : prefRow r with
    | none => rw [hr] at h; cases h
    | some x =>
      cases hP : prefs P with
      | none => rw [hr, hP] at h; cases h
      | some ys =>
        rw [hr, hP] at h
        have h' : x :: ys = qs := Option.some.inj h
        subst h'
        rw [List.map_cons, prefs, pref_named hr, ih ys hP]
        rfl
/-- A clause by other names. -/
def NamedC (c c' : Nat × Nat) : Prop := ∀ v, c'.1.testBit (nameV v) = c.1.testBit v ∧ c'.2.testBit (nameV v) = c.2.testBit v
theorem name_bit {a a' : Nat} (d : Nat) (h : ∀ v, a'.testBit (nameV v) = a.testBit v) (v : Nat) : (a' ||| 2 ^ nameV d).testBit (nameV v) = (a ||| 2 ^ d).testBit v := by
  rw [Nat.testBit_or, Nat.testBit_or, Nat.testBit_two_pow, Nat.testBit_two_pow, h]
  congr 1
  by_cases e : d = v
  · subst e; simp
  · rw [decide_eq_false e, decide_eq_false (fun h => e (nameV_inj _ _ h))]
theorem lit_named (w : List UInt8) {c c' : Nat × Nat} (hc : NamedC c c') : (litInto c' (w.map nameB)).2 = (litInto c w).2 ∧ NamedC (litInto c w).1 (litInto c' (w.map nameB)).1 := by
  by_cases hh : w.head? = some 45
  · cases w with
    | nil => cases hh
    | cons b r =>
      have hb : b = 45 := by simpa using hh
      subst hb
      rw [List.map_cons, show nameB 45 = 45 from (nameB_iff 45 (by decide) 45).2 rfl, litInto_neg, litInto_neg]
      refine ⟨decide_eq_decide.2 (dig_named_pos r), fun v => ⟨(hc v).1, ?_⟩⟩
      dsimp only
      rw [dig_named, Int.toNat_natCast]
      exact name_bit _ (fun v => (hc v).2) v
  · have hh' : (w.map nameB).head? ≠ some 45 := by
      cases w with
      | nil => simp
      | cons b r =>
        intro e
        apply hh
        have : nameB b = 45 := by simpa using e
        rw [(nameB_iff 45 (by decide) b).1 this]; rfl
    rw [litInto_pos c w hh, litInto_pos c' _ hh']
    refine ⟨decide_eq_decide.2 (dig_named_pos w), fun v => ⟨?_, (hc v).2⟩⟩
    dsimp only
    rw [dig_named, Int.toNat_natCast]
    exact name_bit _ (fun v => (hc v).1) v
theorem lits_named (tl : List (List UInt8)) : ∀ (c c' : Nat × Nat) (b : Bool), NamedC c c' →
    ((tl.map (List.map nameB)).foldl (fun st w => ((litInto st.1 w).1, st.2 && (litInto st.1 w).2)) (c', b)).2 = (tl.foldl (fun st w => ((litInto st.1 w).1, st.2 && (litInto st.1 w).2)) (c, b)).2 ∧
    NamedC (tl.foldl (fun st w => ((litInto st.1 w).1, st.2 && (litInto st.1 w).2)) (c, b)).1 ((tl.map (List.map nameB)).foldl (fun st w => ((litInto st.1 w).1, st.2 && (litInto st.1 w).2)) (c', b)).1 := by
  induction tl with
  | nil => intro c c' b h; exact ⟨rfl, h⟩
  | cons w tl ih =>
    intro c c' b hc
    obtain ⟨e1, e2⟩ := lit_named w hc
    rw [List.map_cons, List.foldl_cons, List.foldl_cons]
    dsimp only
    rw [e1]
    exact ih _ _ _ e2
theorem cl_named {r : List UInt8} {c : Nat × Nat} (h : clRow r = some c) : ∃ c', clRow (r.map nameB) = some c' ∧ NamedC c c' := by
  unfold clRow at h ⊢
  rw [cutAt_map nameB 32 (nameB_iff 32 (by decide))]
  obtain ⟨hd, tl, hw⟩ := cutAt_ne 32 r
  rw [hw] at h ⊢
  rw [List.map_cons]
  dsimp only at h ⊢
  split at h
  · next hh =>
    obtain ⟨e1, e2⟩ := lits_named tl (0, 0) (0, 0) true (fun v => by simp)
    injection h with h
    subst h
    refine ⟨(litsTo (tl.map (List.map nameB))).1, ?_, e2⟩
    have e1' : (litsTo (tl.map (List.map nameB))).2 = (litsTo tl).2 := e1
    rw [if_pos ⟨(map_one 99 (by decide) hd).2 hh.1, by rw [e1']; exact hh.2⟩]
  · cases h
theorem sat_named {c c' : Nat × Nat} (h : NamedC c c') (t t' : Nat) (ht : ∀ v, t'.testBit (nameV v) = t.testBit v) : satC c' t' = satC c t := by
  rw [Bool.eq_iff_iff, satC_iff, satC_iff]
  constructor
  · rintro ⟨u, hu⟩
    obtain ⟨v, rfl⟩ := nameV_sur u
    rw [(h v).1, (h v).2, ht v] at hu
    exact ⟨v, hu⟩
  · rintro ⟨v, hv⟩
    refine ⟨nameV v, ?_⟩
    rw [(h v).1, (h v).2, ht v]
    exact hv
theorem cls_named (C : List (List UInt8)) : ∀ cs, cls C = some cs → ∃ cs', cls (C.map (List.map nameB)) = some cs' ∧ cs'.length = cs.length ∧ ∀ t t', (∀ v, t'.testBit (nameV v) = t.testBit v) → satB cs' t' = satB cs t := by
  induction C with
  | nil => intro cs h; simp [cls] at h; subst h; exact ⟨[], rfl, rfl, fun _ _ _ => rfl⟩
  | cons r C ih =>
    intro cs h
    obtain ⟨ca, cb, g1, g2, g3⟩ := cls_split [r] C cs h
    obtain ⟨c, hc⟩ : ∃ c, clRow r = some c := cls_rows h r (by simp)
    have hca : ca = [c] := by simp [cls, hc] at g1; exact g1.symm
    subst hca
    obtain ⟨cs', i1, i2, i3⟩ := ih cb g2
    obtain ⟨c', t1, t2⟩ := cl_named hc
    refine ⟨c' :: cs', by rw [List.map_cons, cls, t1, i1], by rw [g3]; simp [i2], fun t t' ht => ?_⟩
    have e : ∀ (c : Nat × Nat) cs t, satB (c :: cs) t = (satC c t && satB cs t) := fun c cs t => by unfold satB; rw [List.all_cons]
    rw [g3, List.singleton_append, e, e, i3 t t' ht, sat_named t2 t t' ht]
/-- Variables by other names: the same verdict. -/
theorem named_law {l : List UInt8} {P C : List (List UInt8)} {qs : List (Bool × List Nat)} {cs : List (Nat × Nat)} (h : TextIs l P C qs cs) : (vkind (l.map nameB)).1 = (vkind l).1 := by
  obtain ⟨cs', i1, i2, i3⟩ := cls_named C cs h.cls
  have htold : toldP (qs.map (fun x => (x.1, x.2.map nameV))) = (toldP qs).map nameV := by
    unfold toldP
    rw [List.flatMap_map, List.map_flatMap]
  have h' : TextIs (l.map nameB) (P.map (List.map nameB)) (C.map (List.map nameB)) (qs.map (fun x => (x.1, x.2.map nameV))) cs' := by
    refine ⟨by rw [List.length_map]; exact h.len, ?_, ?_, prefs_named P qs h.prefs, i1, by rw [i2]; exact h.c24, ?_⟩
    · rw [h.text, joinN_named, List.map_append]
    · intro r hr
      rw [← List.map_append] at hr
      obtain ⟨r0, hm, rfl⟩ := List.mem_map.1 hr
      intro hh
      obtain ⟨b, hb, e⟩ := List.mem_map.1 hh
      have := (nameB_iff 10 (by decide) b).1 e
      subst this
      exact h.nl r0 hm hb
    · rw [htold]
      have := h.nodup
      unfold List.Nodup at this ⊢
      rw [List.pairwise_map]
      exact this.imp (fun hne e => hne (nameV_inj _ _ e))
  rw [vkind_text h, vkind_text h', truth_named qs _ cs cs' nameV nameV_inj nameV_8 (fun v _ _ => nameV_sur v) rfl i3]
end Go.Proofs.YtgipjjhkhfihpabDoor

namespace Go.Proofs.YtgipjjhkhfihpabDoor
open Go.RowKit

/-! ### named -/
theorem named_next (l : List UInt8) (k : Nat) (h : k < l.length) (acc : List UInt8) (ha : acc = (l.take k).map nameB) : acc ++ [nameB l[k]] = (l.take (k + 1)).map nameB := by
  rw [List.take_succ_eq_append_getElem h, List.map_append, ← ha]
  rfl
attribute [local go_sem] ba_get
set_option maxRecDepth 100000 in
set_option maxHeartbeats 3200000 in
theorem knamed_any (l : List UInt8) (w : World) (ht : TabAt w) (hll : l.length ≤ 8192) :
    Calls Tryd.prog 12 #[.string ⟨l.toArray⟩] w fun e w' => e = .returned (.bool true) ∧ Below w.heap.size w w' := by
  go_enter Tryd.func12, Tryd.ntmps12
  go_wp2_with fail
  refine (kkind_any l w ht).mono ?_
  rintro e u1 ⟨rfl, b1⟩
  generalize hvk : vkind l = vk at *
  have HVK := hide hvk
  clear hvk
  obtain ⟨k0, p0⟩ := vk
  dsimp only
  by_cases hv : k0 = 0
  · have hv1 : ((k0 : Int) == 0) = true := by rw [beq_iff_eq]; omega
    have hv2 : (k0 == 0) = true := by rw [beq_iff_eq]; exact hv
    clear hv
    go_wp2_with fail
    go_ret
    exact ⟨rfl, b1⟩
  · obtain ⟨P, C, qs, cs, hT⟩ := text_vkind (l := l) (by rw [unhide HVK]; exact hv)
    have HLAW : Hid ((vkind (l.map nameB)).1 = k0) := hide (by rw [named_law hT, unhide HVK])
    have hv1 : ((k0 : Int) == 0) = false := by rw [beq_eq_false_iff_ne]; omega
    have hv2 : (k0 == 0) = false := by rw [beq_eq_false_iff_ne]; exact hv
    clear hT hv
    go_wp2_with fail
    go_loopg [5, 6] (l.length) (fun m vt vi wx => ∃ (k : Nat) (acc : List UInt8), vi = .int .i64 (k : Int) ∧ vt = .string ⟨acc.toArray⟩ ∧ k + m = l.length ∧ acc = (l.take k).map nameB ∧ Below w.heap.size w wx)
    case atStart => exact ⟨0, [], rfl, rfl, by omega, rfl, b1⟩
    case round =>
      obtain ⟨k, acc, rfl, rfl, hkm, hac, hb⟩ := hrel
      by_cases hlt : k < l.length
      · have hd3 : decide ((k : Int) < (l.length : Int)) = true := decide_eq_true (by omega)
        have hd4 : decide (k < l.length) = true := decide_eq_true hlt
        have HN := hide (named_next l k hlt acc hac)
        have hal : acc.length ≤ 8192 := by rw [hac, List.length_map, List.length_take]; omega
        clear hac
        have hx256 := l[k].toNat_lt
        by_cases h49 : 49 ≤ l[k].toNat
        · have c1 : decide ((49 : Int) ≤ (l[k].toNat : Int)) = true := decide_eq_true (by omega)
          have c2 : decide (49 ≤ l[k].toNat) = true := decide_eq_true h49
          by_cases h56 : l[k].toNat ≤ 56
          · have c3 : decide ((l[k].toNat : Int) ≤ 56) = true := decide_eq_true (by omega)
            have c4 : decide (l[k].toNat ≤ 56) = true := decide_eq_true h56
            obtain ⟨y, hy⟩ : ∃ y, y = (l[k].toNat - 46) % 8 := ⟨_, rfl⟩
            have hy1 : ((l[k].toNat : Int) - 49 + 3).tmod 8 = (y : Int) := by rw [Int.tmod_eq_emod_of_nonneg (by omega)]; omega
            have hy2 : y < 8 := by omega
            obtain ⟨nb, hnb⟩ : ∃ nb, nb = UInt8.ofNat (49 + y) := ⟨_, rfl⟩
            have hnb2 : nameB l[k] = nb := by unfold nameB; rw [if_pos ⟨h49, h56⟩, hnb, hy]
            rw [hnb2] at HN
            have hcv := conv_byte (49 + (y : Int)) (by omega) (by omega) wr
            rw [show (49 + (y : Int)).toNat = 49 + y from by omega, ← hnb] at hcv
            clear hnb hnb2 hy
            go_wp2_with fail
            go_roundg (gk - 1)
            case measure => omega
            case rel => exact ⟨k + 1, acc ++ [nb], by go_num, by rw [← ba_append], by omega, unhide HN, hb.alloc hb.size _⟩
          · have c3 : decide ((l[k].toNat : Int) ≤ 56) = false := decide_eq_false (by omega)
            have c4 : decide (l[k].toNat ≤ 56) = false := decide_eq_false h56
            obtain ⟨nb, hnb⟩ : ∃ nb, nb = UInt8.ofNat l[k].toNat := ⟨_, rfl⟩
            have hnb2 : nameB l[k] = nb := by unfold nameB; rw [if_neg (fun h => h56 h.2), hnb]
            rw [hnb2] at HN
            have hcv := conv_byte (l[k].toNat : Int) (by omega) (by omega) wr
            rw [Int.toNat_natCast, ← hnb] at hcv
            clear hnb hnb2
            go_wp2_with fail
            go_roundg (gk - 1)
            case measure => omega
            case rel => exact ⟨k + 1, acc ++ [nb], by go_num, by rw [← ba_append], by omega, unhide HN, hb.alloc hb.size _⟩
        · have c1 : decide ((49 : Int) ≤ (l[k].toNat : Int)) = false := decide_eq_false (by omega)
          have c2 : decide (49 ≤ l[k].toNat) = false := decide_eq_false h49
          obtain ⟨nb, hnb⟩ : ∃ nb, nb = UInt8.ofNat l[k].toNat := ⟨_, rfl⟩
          have hnb2 : nameB l[k] = nb := by unfold nameB; rw [if_neg (fun h => h49 h.1), hnb]
          rw [hnb2] at HN
          have hcv := conv_byte (l[k].toNat : Int) (by omega) (by omega) wr
          rw [Int.toNat_natCast, ← hnb] at hcv
          clear hnb hnb2
          go_wp2_with fail
          go_roundg (gk - 1)
          case measure => omega
          case rel => exact ⟨k + 1, acc ++ [nb], by go_num, by rw [← ba_append], by omega, unhide HN, hb.alloc hb.size _⟩
      · have hd3 : decide ((k : Int) < (l.length : Int)) = false := decide_eq_false (by omega)
        have hd4 : decide (k < l.length) = false := decide_eq_false hlt
        have hac2 : acc = l.map nameB := by rw [hac, List.take_of_length_le (by omega)]
        rw [← hac2] at HLAW
        clear hac hac2
        go_wp2_with fail
        refine (kkind_any acc wr (ht.later hb)).mono ?_
        rintro e u7 ⟨rfl, b7⟩
        have hB7 := hb.trans (b7.mono hb.size)
        generalize vkind acc = vk7 at *
        obtain ⟨k7, p7⟩ := vk7
        dsimp only at HLAW ⊢
        have hx1 : ((k7 : Int) == (k0 : Int)) = true := by rw [unhide HLAW]; exact beq_self_eq_true _
        have hx2 : (k7 == k0) = true := by rw [unhide HLAW]; exact beq_self_eq_true _
        clear HLAW
        go_wp2_with fail
        go_ret
        exact ⟨rfl, hB7⟩
end Go.Proofs.YtgipjjhkhfihpabDoor

namespace Go.Proofs.YtgipjjhkhfihpabDoor
open Go.ChangeShapes Go.WideShapes Go.ChangeAt Go.ChangeMaps Go.RowKit

theorem i64_wf2 {x : Int} (h : (Lit.int .i64 x).wf = true) : -9223372036854775808 ≤ x ∧ x ≤ 9223372036854775807 := bounds_i64 h
theorem renamed_met (os : Os) (args : Array Value) : laidMetH Tryd.prog Rows.renamedRow.laid ((World.doorLaid Tryd.prog 400 os).forCall (fun _ _ => 0) ⟨#[], args, []⟩).memory :=
  laidMetH_of_parts3 (fuel := 8) (laidMet_of_run' 8 (by kernel_rfl) (by kernel_rfl)) (by kernel_rfl) (by kernel_rfl)
theorem renamed_tab {W : World} (h : laidMetH Tryd.prog Rows.renamedRow.laid W) : TabAt W := by
  have hf : (Rows.renamedRow.laid.filter fun x => x.2.handleName?.isSome) = [] := by rfl
  unfold laidMetH at h
  rw [hf] at h
  exact tab_of_third2 h
set_option maxRecDepth 100000 in
set_option maxHeartbeats 800000 in
theorem renamed_any (l : List UInt8) (w : World) (ht : TabAt w)  :
    Calls Tryd.prog 6 #[.string ⟨l.toArray⟩] w fun e w' => e = .returned (.bool true) ∧ Below w.heap.size w w' := by
  by_cases hl : 8192 < l.length
  · have hd : decide ((8192 : Int) < (l.length : Int)) = true := decide_eq_true (by omega)
    have hd2 : decide (8192 < l.length) = true := decide_eq_true hl
    clear hl
    go_enter Tryd.func6, Tryd.ntmps6
    go_wp2_with fail
    go_ret
    exact ⟨rfl, Below.refl _ _⟩
  · have hd : decide ((8192 : Int) < (l.length : Int)) = false := decide_eq_false (by omega)
    have hd2 : decide (8192 < l.length) = false := decide_eq_false hl
    have HL : Hid (l.length ≤ 8192) := hide (by omega)
    clear hl
    go_enter Tryd.func6, Tryd.ntmps6
    go_wp2_with fail
    refine (anchored_any l w ht).mono ?_
    rintro e u1 ⟨rfl, b1⟩
    go_wp2_with fail
    refine (knamed_any l u1 (ht.later b1) (unhide HL)).mono ?_
    rintro e u2 ⟨rfl, b2⟩
    go_wp2_with fail
    go_ret
    exact ⟨rfl, b1.trans (b2.mono b1.size)⟩

set_option maxHeartbeats 1600000 in
set_option maxRecDepth 100000 in
theorem renamed_lifted (os : Os) (started : os.Started) (H : Type) (enc : TypeId × Value → H) (F : Stop.Interp) :
    ReturnsInHanded {} Tryd.checked os 6 .any ((OpenSpec.ofChange Rows.renamedSpec).preRow enc Tryd.prog Tryd.f6 Rows.renamedRow.domain false Rows.renamedRow.laid) (((OpenSpec.ofChange Rows.renamedSpec).at F).post enc Tryd.prog Tryd.f6 false true false false) := by
  obtain ⟨places, hx⟩ : ∃ places, DataW.whole enc Tryd.prog ((World.doorLaid Tryd.prog 400 os).forCall (fun _ _ => 0) ⟨#[], #[.string ⟨#[]⟩], []⟩).memory Tryd.f6.params.toList Rows.renamedSpec.vars false #[Value.string ⟨#[]⟩].toList 8 = some ([.lit (.string [])], [], places) := ⟨[], by kernel_rfl⟩
  refine returnsInHanded_of_row (C := Tryd.checked) (s := OpenSpec.ofChange Rows.renamedSpec) (show ownKnob Tryd.prog.godebug = none by kernel_rfl) started (by kernel_rfl) Tryd.func6
    (witness_row_at (enc := enc) (C := Tryd.checked) false (World.doorLaid Tryd.prog 400 os) #[.string ⟨#[]⟩] rfl (by kernel_rfl) (by kernel_rfl) (by kernel_rfl)
      (OpenSpec.preRow_of_cond 8 hx (by kernel_rfl) (fun k hk => by cases hk) (by kernel_rfl) (renamed_met os _))) ?_
  intro W base args ds gs before hval0 hW _ _ _ hL _ _
  have hval : ∀ (j : Nat) t v, Tryd.f6.params[j]? = some t → args[j]? = some v → Value.okWide Tryd.prog W .any base t v := hval0
  have hW' := hW
  obtain ⟨p, q, hA0, hV, rfl, hfz, hnd⟩ := hW
  have hA : DataW.TrodAll enc Tryd.prog W 0 (fun _ => true) true Tryd.f6.params.toList args.toList ds p := hA0
  rw [Tryd.params6] at hA hval
  obtain ⟨v0, vs0, d0, ds0, p0, q0, hargs0, rfl, rfl, h0, r0⟩ := trodAll_cons hA
  obtain ⟨rfl, rfl, rfl⟩ := trodAll_nil r0
  obtain rfl : args = #[v0] := by cases args; simp_all
  obtain ⟨rfl, rfl⟩ := trodVars_none hV
  obtain ⟨s0, rfl, rfl, rfl, w0⟩ := open_string Tryd.underlying9 (hval 0 9 v0 rfl rfl) h0
  clear hA0 hval0
  simp only [List.append_nil] at hW'
  obtain ⟨l0, hl0⟩ : ∃ l : List UInt8, s0 = ⟨l.toArray⟩ := ⟨s0.data.toList, by simp⟩
  subst hl0
  refine (renamed_any l0 W (renamed_tab hL) ).mono fun e W' ⟨he, bel⟩ => ?_
  subst he
  exact ⟨_, rfl, _, _, _, [], _, [], hW', trodAll_mk1 (shut_bool Tryd.underlying4 _), trodAll_mk1 (shut_string Tryd.underlying9 w0), rfl, bel.frame _, fun h => by cases h⟩

theorem renamed_said : Rows.RenamedSaid :=
  OpenClaim.holds_of_cond 6 Tryd.f6 rfl rfl rfl rfl rfl rfl rfl ⟨rfl, rfl, rfl, rfl, rfl⟩ rfl rfl rfl rfl rfl (by kernel_rfl) Tryd.func6 (by kernel_rfl)
    (of_decide_eq_true (by kernel_rfl)) (by unfold Func.isWrapper; first | (rw [if_pos (by decide +kernel)]; kernel_rfl) | (rw [if_neg (by decide +kernel)]; exact ⟨rfl, rfl⟩))
    (fun os started H enc _ F => by rw [OpenClaim.pre_eq_preRow]; exact renamed_lifted os started H enc F)
/-- No parameter wants a stand-in; the program's own looks are off. -/
theorem renamed_plain (f : FuncId) (fn : Func) (hf : Tryd.pinned.checked.prog.funcNamed "duel/duelkeep.Renamed" = some f) (hfn : Tryd.pinned.checked.prog.funcs[f]? = some fn) :
    false = Tryd.pinned.checked.prog.looks [] ∧ ∀ (j : Nat) t, fn.params[j]? = some t → Tryd.pinned.checked.prog.wantsStandIn t = false := by
  obtain rfl : f = 6 := Option.some.inj ((show Tryd.prog.funcNamed "duel/duelkeep.Renamed" = some 6 by kernel_rfl).symm.trans hf) |>.symm
  obtain rfl : fn = Tryd.f6 := (Option.some.inj (Tryd.func6.symm.trans hfn)).symm
  refine ⟨by kernel_rfl, fun j t ht => ?_⟩
  rw [Tryd.params6] at ht
  obtain rfl : t = 9 := by simpa using Array.mem_of_getElem? ht
  exact (show Tryd.prog.wantsStandIn 9 = false by kernel_rfl)
theorem renamed_holds : Rows.RenamedCardSaid :=
  Claim7.holds_tied_plain_at .later [] _ _ _ _ renamed_said (fun _ h => by cases h) (by kernel_rfl) (fun _ h => by cases h) renamed_row_tie rfl ⟨rfl, rfl⟩ (by kernel_rfl) rfl renamed_plain (by kernel_rfl)
#print axioms renamed_holds
end Go.Proofs.YtgipjjhkhfihpabDoor
