import Derived.Test.YtgipjjhkhfihpaaDoorAA
import Derived.Test.YtgipjjhkhfihpaaDoorAD
import Derived.Test.YtgipjjhkhfihpaaDoorAE
import Derived.Test.YtgipjjhkhfihpaaDoorAC
namespace Go.Proofs.YtgipjjhkhfihpaaDoor
open Go.RowKit

/-! ### A formula's text, by its lines -/
def varsOf : List (List UInt8) → Option (List Nat)
  | [] => some []
  | w :: ws => if 0 < dig w then (varsOf ws).map ((dig w).toNat :: ·) else none
/-- A line of the prefix: its kind, its variables. -/
def prefRow (row : List UInt8) : Option (Bool × List Nat) :=
  match cutAt 32 row with
  | [] => none
  | hd :: tl => if (hd = [101] ∨ hd = [97]) ∧ tl ≠ [] then (varsOf tl).map (fun vs => (hd == [97], vs)) else none
/-- A line of a clause. -/
def clRow (row : List UInt8) : Option (Nat × Nat) :=
  match cutAt 32 row with
  | [] => none
  | hd :: tl => if hd = [99] ∧ (litsTo tl).2 = true then some (litsTo tl).1 else none
def prefs : List (List UInt8) → Option (List (Bool × List Nat))
  | [] => some []
  | r :: rs => match prefRow r, prefs rs with
    | some p, some ps => some (p :: ps)
    | _, _ => none
def cls : List (List UInt8) → Option (List (Nat × Nat))
  | [] => some []
  | r :: rs => match clRow r, cls rs with
    | some p, some ps => some (p :: ps)
    | _, _ => none
def toldP (ps : List (Bool × List Nat)) : List Nat := ps.flatMap (·.2)
def kindsP (ps : List (Bool × List Nat)) : List Bool := ps.flatMap (fun x => x.2.map (fun _ => x.1))
structure StIs (st : RS) (ps : List (Bool × List Nat)) (cs : List (Nat × Nat)) : Prop where
  cl : st.cl = cs
  told : st.told = toldP ps
  kinds : st.kinds = kindsP ps
  seen : ∀ v, st.seen.testBit v = decide (v ∈ toldP ps)
  used : ∀ v, st.used.testBit v = cs.any (fun c => (c.1 ||| c.2).testBit v)

theorem fold_bad (a : Bool) (ws : List (List UInt8)) : ∀ (p : PS), p.ok = false → (ws.foldl (varStep a) p).ok = false := by
  induction ws with
  | nil => intro p h; exact h
  | cons w ws ih => intro p h; refine ih _ ?_; simp [varStep, h]
theorem vars_fold (a : Bool) (ws : List (List UInt8)) : ∀ (p : PS), p.ok = true → p.told.Nodup → (∀ v, p.seen.testBit v = decide (v ∈ p.told)) →
    match varsOf ws with
    | none => (ws.foldl (varStep a) p).ok = false
    | some vs => if (p.told ++ vs).Nodup then (ws.foldl (varStep a) p).ok = true ∧ (ws.foldl (varStep a) p).told = p.told ++ vs ∧ (ws.foldl (varStep a) p).kinds = p.kinds ++ vs.map (fun _ => a) ∧ (∀ v, (ws.foldl (varStep a) p).seen.testBit v = decide (v ∈ p.told ++ vs)) else (ws.foldl (varStep a) p).ok = false := by
  induction ws with
  | nil =>
    intro p h1 h2 h3
    show if (p.told ++ []).Nodup then _ else _
    rw [List.append_nil, if_pos h2]
    exact ⟨h1, rfl, by simp, h3⟩
  | cons w ws ih =>
    intro p h1 h2 h3
    obtain ⟨d0, d1⟩ := dig_bd w
    obtain ⟨dn, hdn⟩ := Int.eq_ofNat_of_zero_le d0
    have hvs := varStep_eq a p w dn hdn
    rw [varsOf, List.foldl_cons, hvs, hdn]
    by_cases hz : dn = 0
    · subst hz
      rw [if_neg (by simp)]
      exact fold_bad a ws _ (by simp)
    · rw [if_pos (by omega)]
      simp only [Int.toNat_natCast]
      by_cases hs : p.seen.testBit dn = true
      · have hm : dn ∈ p.told := by rw [h3] at hs; simpa using hs
        have hbad : (ws.foldl (varStep a) ⟨p.told ++ [dn], p.kinds ++ [a], p.seen ||| 2 ^ dn, if dn = 0 ∨ p.seen.testBit dn = true then false else p.ok⟩).ok = false := fold_bad a ws _ (by rw [if_pos (Or.inr hs)])
        cases varsOf ws with
        | none => exact hbad
        | some vs =>
          simp only [Option.map_some]
          rw [if_neg]
          · exact hbad
          · intro hn
            rw [List.nodup_append] at hn
            exact hn.2.2 dn hm dn (by simp) rfl
      · have hnm : dn ∉ p.told := fun hm => hs (by rw [h3]; simpa using hm)
        have hok : (if dn = 0 ∨ p.seen.testBit dn = true then false else p.ok) = true := by rw [if_neg (by rintro (h | h); exact hz h; exact hs h)]; exact h1
        have hnd : (p.told ++ [dn]).Nodup := by
          rw [List.nodup_append]
          refine ⟨h2, by simp, ?_⟩
          intro x hx y hy e
          simp at hy; subst hy; subst e; exact hnm hx
        have hih := ih ⟨p.told ++ [dn], p.kinds ++ [a], p.seen ||| 2 ^ dn, if dn = 0 ∨ p.seen.testBit dn = true then false else p.ok⟩ hok hnd (by
          intro v
          show (p.seen ||| 2 ^ dn).testBit v = decide (v ∈ p.told ++ [dn])
          rw [Nat.testBit_or, h3, Nat.testBit_two_pow]
          by_cases e : dn = v
          · subst e; simp
          · have : (v = dn) = False := by simp [Ne.symm e]
            simp [e, this])
        cases hv : varsOf ws with
        | none => rw [hv] at hih; exact hih
        | some vs =>
          rw [hv] at hih
          dsimp only at hih
          simp only [Option.map_some]
          have e : p.told ++ [dn] ++ vs = p.told ++ dn :: vs := by simp
          have e2 : p.kinds ++ [a] ++ vs.map (fun _ => a) = p.kinds ++ (dn :: vs).map (fun _ => a) := by simp
          rw [e, e2] at hih
          exact hih

theorem toldP_snoc (ps : List (Bool × List Nat)) (x : Bool × List Nat) : toldP (ps ++ [x]) = toldP ps ++ x.2 := by simp [toldP]
theorem kindsP_snoc (ps : List (Bool × List Nat)) (x : Bool × List Nat) : kindsP (ps ++ [x]) = kindsP ps ++ x.2.map (fun _ => x.1) := by simp [kindsP]
/-- A line of the prefix. -/
theorem pref_step {st : RS} {ps : List (Bool × List Nat)} (h : StIs st ps []) (hn : (toldP ps).Nodup) (row : List UInt8) :
    match prefRow row with
    | some x => if (toldP (ps ++ [x])).Nodup then (rowStep st row).2 = true ∧ StIs (rowStep st row).1 (ps ++ [x]) [] else (rowStep st row).2 = false
    | none => clRow row = none → (rowStep st row).2 = false := by
  unfold prefRow
  cases hw : cutAt 32 row with
  | nil => intro _; unfold rowStep; rw [hw]
  | cons hd tl =>
    dsimp only
    by_cases hc : (hd = [101] ∨ hd = [97]) ∧ tl ≠ []
    · rw [if_pos hc]
      have hp := rowStep_p st row hd tl hw hc.1 h.cl hc.2
      have hf := vars_fold (hd == [97]) tl ⟨st.told, st.kinds, st.seen, true⟩ rfl (by rw [h.told]; exact hn) (by intro v; rw [h.seen, h.told])
      cases hv : varsOf tl with
      | none =>
        rw [hv] at hf
        intro _
        rw [hp]; exact hf
      | some vs =>
        rw [hv] at hf
        dsimp only [Option.map_some] at hf ⊢
        rw [toldP_snoc, ← h.told]
        by_cases hd2 : (st.told ++ vs).Nodup
        · rw [if_pos hd2] at hf ⊢
          obtain ⟨f1, f2, f3, f4⟩ := hf
          rw [hp]
          refine ⟨f1, ⟨h.cl, ?_, ?_, ?_, h.used⟩⟩
          · rw [toldP_snoc, ← h.told]; exact f2
          · rw [kindsP_snoc, ← h.kinds]; exact f3
          · intro v; rw [toldP_snoc, ← h.told]; exact f4 v
        · rw [if_neg hd2] at hf ⊢
          rw [hp]; exact hf
    · rw [if_neg hc]
      intro hcl
      by_cases h99 : hd = [99]
      · subst h99
        rw [rowStep_c st row tl hw]
        unfold clRow at hcl
        rw [hw] at hcl
        dsimp only at hcl
        cases hl : (litsTo tl).2 with
        | false => rfl
        | true => rw [if_pos ⟨rfl, hl⟩] at hcl; cases hcl
      · exact rowStep_n st row hd tl hw h99 (fun hh => hc ⟨hh.1, hh.2.2⟩)
/-- A line of a clause. -/
theorem cl_step {st : RS} {ps : List (Bool × List Nat)} {cs : List (Nat × Nat)} (h : StIs st ps cs) (row : List UInt8) (c : Nat × Nat) (hc : clRow row = some c) : (rowStep st row).2 = true ∧ StIs (rowStep st row).1 ps (cs ++ [c]) := by
  unfold clRow at hc
  cases hw : cutAt 32 row with
  | nil => rw [hw] at hc; cases hc
  | cons hd tl =>
    rw [hw] at hc
    dsimp only at hc
    split at hc
    · next hh =>
      obtain ⟨rfl, hl⟩ := hh
      have hc' : (litsTo tl).1 = c := Option.some.inj hc
      rw [rowStep_c st row tl hw, hl, hc']
      refine ⟨rfl, ⟨by rw [h.cl], h.told, h.kinds, h.seen, ?_⟩⟩
      intro v
      show (st.used ||| c.1 ||| c.2).testBit v = _
      rw [List.any_append, Nat.testBit_or, Nat.testBit_or, h.used]
      simp [Nat.testBit_or, Bool.or_assoc]
    · cases hc
theorem cl_none {st : RS} (hcl : st.cl ≠ []) (row : List UInt8) (hc : clRow row = none) : (rowStep st row).2 = false := by
  unfold clRow at hc
  cases hw : cutAt 32 row with
  | nil => unfold rowStep; rw [hw]
  | cons hd tl =>
    rw [hw] at hc
    dsimp only at hc
    by_cases h99 : hd = [99]
    · subst h99
      rw [rowStep_c st row tl hw]
      cases hl : (litsTo tl).2 with
      | false => rfl
      | true => rw [if_pos ⟨rfl, hl⟩] at hc; cases hc
    · exact rowStep_n st row hd tl hw h99 (fun hh => hcl hh.2.1)

/-- Clauses alone. -/
theorem read_cls (rows : List (List UInt8)) : ∀ (st : RS) (ps : List (Bool × List Nat)) (cs : List (Nat × Nat)) (i : Nat), StIs st ps cs → cs ≠ [] →
    match cls rows with
    | some ds => ∃ st', readRows st i rows = .inl st' ∧ StIs st' ps (cs ++ ds)
    | none => ∃ j, readRows st i rows = .inr j := by
  induction rows with
  | nil => intro st ps cs i h _; exact ⟨st, rfl, by simpa using h⟩
  | cons r rows ih =>
    intro st ps cs i h hne
    rw [cls, readRows]
    cases hc : clRow r with
    | none => rw [if_neg (by rw [cl_none (by rw [h.cl]; exact hne) r hc]; decide)]; exact ⟨_, rfl⟩
    | some c =>
      obtain ⟨h1, h2⟩ := cl_step h r c hc
      rw [if_pos h1]
      have hih := ih _ ps (cs ++ [c]) (i + 1) h2 (by simp)
      cases hd : cls rows with
      | none => rw [hd] at hih; exact hih
      | some ds =>
        rw [hd] at hih
        obtain ⟨st', e1, e2⟩ := hih
        exact ⟨st', e1, by simpa using e2⟩
/-- What a list of lines says: lines of the prefix, then of clauses. -/
def norm : List (Bool × List Nat) → List (List UInt8) → Option (List (Bool × List Nat) × List (Nat × Nat))
  | ps, [] => some (ps, [])
  | ps, r :: rs => match prefRow r with
    | some x => if (toldP (ps ++ [x])).Nodup then norm (ps ++ [x]) rs else none
    | none => (cls (r :: rs)).map (fun cs => (ps, cs))
theorem pref_not_cl (r : List UInt8) (x : Bool × List Nat) (h : prefRow r = some x) : clRow r = none := by
  unfold prefRow at h
  unfold clRow
  cases hw : cutAt 32 r with
  | nil => rfl
  | cons hd tl =>
    rw [hw] at h
    dsimp only at h ⊢
    split at h
    · next hh =>
      rw [if_neg]
      rintro ⟨h99, _⟩
      subst h99
      rcases hh.1 with h | h <;> cases h
    · cases h
theorem read_norm (rows : List (List UInt8)) : ∀ (st : RS) (ps : List (Bool × List Nat)) (i : Nat), StIs st ps [] → (toldP ps).Nodup →
    match norm ps rows with
    | some (qs, cs) => ∃ st', readRows st i rows = .inl st' ∧ StIs st' qs cs ∧ (toldP qs).Nodup
    | none => ∃ j, readRows st i rows = .inr j := by
  induction rows with
  | nil => intro st ps i h hn; exact ⟨st, rfl, h, hn⟩
  | cons r rows ih =>
    intro st ps i h hn
    have hp := pref_step h hn r
    rw [norm]
    cases hr : prefRow r with
    | some x =>
      rw [hr] at hp
      dsimp only at hp ⊢
      by_cases hd : (toldP (ps ++ [x])).Nodup
      · rw [if_pos hd] at hp ⊢
        rw [readRows, if_pos hp.1]
        exact ih _ _ _ hp.2 hd
      · rw [if_neg hd] at hp ⊢
        rw [readRows, if_neg (by rw [hp]; decide)]
        exact ⟨_, rfl⟩
    | none =>
      rw [hr] at hp
      dsimp only at hp ⊢
      cases hc : clRow r with
      | none =>
        have hcl : cls (r :: rows) = none := by rw [cls, hc]
        rw [hcl, readRows, if_neg (by rw [hp hc]; decide)]
        exact ⟨_, rfl⟩
      | some c =>
        obtain ⟨h1, h2⟩ := cl_step h r c hc
        have hih := read_cls rows _ ps [c] (i + 1) h2 (by simp)
        rw [cls, hc]
        cases hd : cls rows with
        | none =>
          rw [hd] at hih
          rw [readRows, if_pos h1]
          exact hih
        | some ds =>
          rw [hd] at hih
          obtain ⟨st', e1, e2⟩ := hih
          rw [readRows, if_pos h1]
          exact ⟨st', e1, by simpa using e2, hn⟩
theorem st0_is : StIs rs0 [] [] := ⟨rfl, rfl, rfl, fun v => by simp [rs0, toldP], fun v => by simp [rs0]⟩
/-- A TEXT IS A FORMULA, BY ITS LINES. -/
theorem readSpec_norm (l : List UInt8) : match readSpec l with
    | .inl _ => 2000 < l.length ∨ (cutAt 10 l).getLast? ≠ some [] ∨ norm [] (cutAt 10 l).dropLast = none ∨ ∃ qs cs, norm [] (cutAt 10 l).dropLast = some (qs, cs) ∧ 24 < cs.length
    | .inr F => l.length ≤ 2000 ∧ (cutAt 10 l).getLast? = some [] ∧ ∃ qs cs st, norm [] (cutAt 10 l).dropLast = some (qs, cs) ∧ cs.length ≤ 24 ∧ (toldP qs).Nodup ∧ StIs st qs cs ∧ F = finish st := by
  unfold readSpec
  by_cases hl : 2000 < l.length
  · rw [if_pos hl]; exact Or.inl hl
  · rw [if_neg hl]
    have hr := read_norm (cutAt 10 l).dropLast rs0 [] 0 st0_is (by simp [toldP])
    cases hn : norm [] (cutAt 10 l).dropLast with
    | none =>
      rw [hn] at hr
      obtain ⟨j, hj⟩ := hr
      rw [hj]
      exact Or.inr (Or.inr (Or.inl rfl))
    | some x =>
      obtain ⟨qs, cs⟩ := x
      rw [hn] at hr
      obtain ⟨st, h1, h2, h3⟩ := hr
      rw [h1]
      dsimp only
      by_cases hg : (cutAt 10 l).getLast? ≠ some []
      · rw [if_pos hg]; exact Or.inr (Or.inl hg)
      · rw [if_neg hg, h2.cl]
        by_cases h24 : 24 < cs.length
        · rw [if_pos h24]; exact Or.inr (Or.inr (Or.inr ⟨qs, cs, rfl, h24⟩))
        · rw [if_neg h24]
          exact ⟨by omega, Classical.byContradiction hg, qs, cs, st, rfl, by omega, h3, h2, rfl⟩
end Go.Proofs.YtgipjjhkhfihpaaDoor

namespace Go.Proofs.YtgipjjhkhfihpaaDoor

/-! ### How truth turns with a formula (ahead of the statements without the document's answer) -/
section
variable {sat sat' : Nat → Bool} {all all' : Nat}

theorem fromL_step (sat : Nat → Bool) (all v : Nat) (vs : List Nat) (t : Nat) : fromL sat all (v :: vs) t = if all.testBit v then fromL sat all vs (t ||| 2 ^ v) && fromL sat all vs t else fromL sat all vs (t ||| 2 ^ v) || fromL sat all vs t := by
  show (if fromL sat all vs (t ||| 2 ^ v) != all.testBit v then fromL sat all vs (t ||| 2 ^ v) else fromL sat all vs t) = _
  cases fromL sat all vs (t ||| 2 ^ v) <;> cases all.testBit v <;> rfl
/-- Weaker clauses, or universal variables that are existential now: what was true is. -/
theorem fromL_mono (hs : ∀ t, sat t = true → sat' t = true) : ∀ (vs : List Nat), (∀ v ∈ vs, all'.testBit v = true → all.testBit v = true) → ∀ t, fromL sat all vs t = true → fromL sat' all' vs t = true := by
  intro vs
  induction vs with
  | nil => intro _ t h; exact hs t h
  | cons v vs ih =>
    intro ha t h
    have ih' := ih (fun u hu => ha u (by simp [hu]))
    rw [fromL_step] at h ⊢
    have hv := ha v (by simp)
    cases h1 : all.testBit v with
    | true =>
      rw [h1, if_pos rfl, Bool.and_eq_true] at h
      have a1 := ih' _ h.1
      have a2 := ih' _ h.2
      rw [a1, a2]; simp
    | false =>
      have h2 : all'.testBit v = false := by
        cases h2 : all'.testBit v with
        | false => rfl
        | true => rw [hv h2] at h1; cases h1
      rw [h1, if_neg (by decide), Bool.or_eq_true] at h
      rw [h2, if_neg (by decide), Bool.or_eq_true]
      rcases h with h | h
      · exact Or.inl (ih' _ h)
      · exact Or.inr (ih' _ h)
theorem fromL_congr (hs : ∀ t, sat t = sat' t) (vs : List Nat) (ha : ∀ v ∈ vs, all.testBit v = all'.testBit v) (t : Nat) : fromL sat all vs t = fromL sat' all' vs t := by
  rw [Bool.eq_iff_iff]
  constructor
  · exact fromL_mono (fun t h => by rw [← hs]; exact h) vs (fun v hv h => by rw [ha v hv]; exact h) t
  · exact fromL_mono (fun t h => by rw [hs]; exact h) vs (fun v hv h => by rw [← ha v hv]; exact h) t
/-- What follows further in, follows further out. -/
theorem fromL_ctx (a : List Nat) {vs vs' : List Nat} (h : ∀ t, fromL sat all vs t = true → fromL sat' all vs' t = true) : ∀ t, fromL sat all (a ++ vs) t = true → fromL sat' all (a ++ vs') t = true := by
  induction a with
  | nil => exact h
  | cons v a ih =>
    intro t ht
    rw [List.cons_append, fromL_step] at ht ⊢
    cases h1 : all.testBit v with
    | true =>
      rw [h1, if_pos rfl, Bool.and_eq_true] at ht
      rw [if_pos rfl, Bool.and_eq_true]
      exact ⟨ih _ ht.1, ih _ ht.2⟩
    | false =>
      rw [h1, if_neg (by decide), Bool.or_eq_true] at ht
      rw [if_neg (by decide), Bool.or_eq_true]
      rcases ht with ht | ht
      · exact Or.inl (ih _ ht)
      · exact Or.inr (ih _ ht)
theorem fromL_ctx_eq (a : List Nat) {vs vs' : List Nat} (h : ∀ t, fromL sat all vs t = fromL sat' all vs' t) (t : Nat) : fromL sat all (a ++ vs) t = fromL sat' all (a ++ vs') t := by
  rw [Bool.eq_iff_iff]
  exact ⟨fromL_ctx a (fun t ht => by rw [← h]; exact ht) t, fromL_ctx a (fun t ht => by rw [h]; exact ht) t⟩
theorem or_swap (t a b : Nat) : t ||| 2 ^ a ||| 2 ^ b = t ||| 2 ^ b ||| 2 ^ a := by
  rw [Nat.or_assoc, Nat.or_assoc, Nat.or_comm (2 ^ a)]
/-- Variables of one kind side by side change places. -/
theorem fromL_same (x y : Nat) (h : all.testBit x = all.testBit y) (vs : List Nat) (t : Nat) : fromL sat all (x :: y :: vs) t = fromL sat all (y :: x :: vs) t := by
  rw [fromL_step, fromL_step, fromL_step, fromL_step (v := y), fromL_step (v := x), fromL_step (v := x), or_swap t x y, h]
  cases all.testBit y <;> cases fromL sat all vs (t ||| 2 ^ y ||| 2 ^ x) <;> cases fromL sat all vs (t ||| 2 ^ x) <;> cases fromL sat all vs (t ||| 2 ^ y) <;> cases fromL sat all vs t <;> rfl
/-- An existential variable and the universal one behind it change places: what was true is. -/
theorem fromL_inward (x y : Nat) (hx : all.testBit x = false) (hy : all.testBit y = true) (vs : List Nat) (t : Nat) (h : fromL sat all (x :: y :: vs) t = true) : fromL sat all (y :: x :: vs) t = true := by
  rw [fromL_step, fromL_step, fromL_step, hx, hy, or_swap t x y] at h
  rw [fromL_step, fromL_step, fromL_step, hx, hy]
  revert h
  cases fromL sat all vs (t ||| 2 ^ y ||| 2 ^ x) <;> cases fromL sat all vs (t ||| 2 ^ x) <;> cases fromL sat all vs (t ||| 2 ^ y) <;> cases fromL sat all vs t <;> simp
theorem fromL_past (x : Nat) (hx : all.testBit x = false) (ys : List Nat) (hy : ∀ y ∈ ys, all.testBit y = true) : ∀ (vs : List Nat) (t : Nat), fromL sat all (x :: (ys ++ vs)) t = true → fromL sat all (ys ++ x :: vs) t = true := by
  induction ys with
  | nil => intro vs t h; exact h
  | cons y ys ih =>
    intro vs t h
    have h1 := fromL_inward x y hx (hy y (by simp)) (ys ++ vs) t h
    exact fromL_ctx (sat := sat) (sat' := sat) [y] (fun t ht => ih (fun z hz => hy z (by simp [hz])) vs t ht) t h1
/-- Blocks. -/
theorem fromL_blocks (xs ys : List Nat) (hx : ∀ x ∈ xs, all.testBit x = false) (hy : ∀ y ∈ ys, all.testBit y = true) : ∀ (vs : List Nat) (t : Nat), fromL sat all (xs ++ (ys ++ vs)) t = true → fromL sat all (ys ++ (xs ++ vs)) t = true := by
  induction xs with
  | nil => intro vs t h; exact h
  | cons x xs ih =>
    intro vs t h
    have h1 := fromL_ctx (sat := sat) (sat' := sat) (all := all) [x] (fun t ht => ih (fun z hz => hx z (by simp [hz])) vs t ht) t h
    have h2 := fromL_past x (hx x (by simp)) ys hy (xs ++ vs) t h1
    exact h2
/-- A variable that no clause has. -/
theorem fromL_idle (v : Nat) (hs : ∀ t, sat (t ||| 2 ^ v) = sat t) : ∀ (vs : List Nat) (t : Nat), fromL sat all vs (t ||| 2 ^ v) = fromL sat all vs t := by
  intro vs
  induction vs with
  | nil => intro t; exact hs t
  | cons u vs ih => intro t; rw [fromL_step, fromL_step, or_swap t v u, ih, ih]
theorem fromL_drop (v : Nat) (hs : ∀ t, sat (t ||| 2 ^ v) = sat t) (vs : List Nat) (t : Nat) : fromL sat all (v :: vs) t = fromL sat all vs t := by
  rw [fromL_step, fromL_idle v hs]
  cases all.testBit v <;> cases fromL sat all vs t <;> rfl
/-- Other names. -/
theorem fromL_named (r : Nat → Nat) (hr : ∀ a b, r a = r b → a = b) (hs : ∀ t t', (∀ v, t'.testBit (r v) = t.testBit v) → sat' t' = sat t) : ∀ (vs : List Nat), (∀ v ∈ vs, all'.testBit (r v) = all.testBit v) → ∀ t t', (∀ v, t'.testBit (r v) = t.testBit v) → fromL sat' all' (vs.map r) t' = fromL sat all vs t := by
  intro vs
  induction vs with
  | nil => intro _ t t' h; exact hs t t' h
  | cons v vs ih =>
    intro ha t t' h
    have ih' := ih (fun u hu => ha u (by simp [hu]))
    have h1 : ∀ u, (t' ||| 2 ^ r v).testBit (r u) = (t ||| 2 ^ v).testBit u := fun u => by
      rw [Nat.testBit_or, Nat.testBit_or, h, Nat.testBit_two_pow, Nat.testBit_two_pow]
      by_cases e : v = u
      · subst e; simp
      · have : r v ≠ r u := fun e' => e (hr _ _ e')
        simp [e, this]
    rw [List.map_cons, fromL_step, fromL_step, ih' _ _ h1, ih' _ _ h, ha v (by simp)]
/-- A variable turned. -/
def Flip (x t t' : Nat) : Prop := t'.testBit x = !t.testBit x ∧ ∀ u, u ≠ x → t'.testBit u = t.testBit u
theorem Flip.more {x t t' u : Nat} (h : Flip x t t') (hu : u ≠ x) : Flip x (t ||| 2 ^ u) (t' ||| 2 ^ u) := by
  constructor
  · rw [Nat.testBit_or, Nat.testBit_or, h.1, Nat.testBit_two_pow]; simp [hu]
  · intro v hv; rw [Nat.testBit_or, Nat.testBit_or, h.2 v hv]
theorem fromL_flipped (x : Nat) (hs : ∀ t t', Flip x t t' → sat' t' = sat t) : ∀ (vs : List Nat), x ∉ vs → ∀ t t', Flip x t t' → fromL sat' all vs t' = fromL sat all vs t := by
  intro vs
  induction vs with
  | nil => intro _ t t' h; exact hs t t' h
  | cons v vs ih =>
    intro hx t t' h
    rw [List.mem_cons, not_or] at hx
    rw [fromL_step, fromL_step, ih hx.2 _ _ (h.more (Ne.symm hx.1)), ih hx.2 _ _ h]
theorem fromL_turned (x : Nat) (hs : ∀ t t', Flip x t t' → sat' t' = sat t) : ∀ (vs : List Nat), vs.Nodup → x ∈ vs → ∀ t, t.testBit x = false → fromL sat' all vs t = fromL sat all vs t := by
  intro vs
  induction vs with
  | nil => intro _ h; simp at h
  | cons v vs ih =>
    intro hn hx t ht
    rw [List.nodup_cons] at hn
    by_cases e : v = x
    · subst e
      have f1 : Flip v t (t ||| 2 ^ v) := ⟨by rw [bit_or, ht]; simp, fun u hu => by rw [bit_or]; simp [Ne.symm hu]⟩
      have f2 : Flip v (t ||| 2 ^ v) t := ⟨by rw [bit_or, ht]; simp, fun u hu => by rw [bit_or]; simp [Ne.symm hu]⟩
      rw [fromL_step, fromL_step, fromL_flipped v hs vs hn.1 _ _ f1, fromL_flipped v hs vs hn.1 _ _ f2]
      cases all.testBit v <;> cases fromL sat all vs t <;> cases fromL sat all vs (t ||| 2 ^ v) <;> rfl
    · have hx' : x ∈ vs := by
        rcases List.mem_cons.1 hx with h | h
        · exact absurd h.symm e
        · exact h
      rw [fromL_step, fromL_step, ih hn.2 hx' _ (by rw [bit_or, ht]; simp [e]), ih hn.2 hx' t ht]
end
end Go.Proofs.YtgipjjhkhfihpaaDoor

namespace Go.Proofs.YtgipjjhkhfihpaaDoor
open Go.RowKit

/-! ### The formula that lines say, and its truth -/
def allN (qs : List (Bool × List Nat)) : Nat := ((toldP qs).zip (kindsP qs)).foldl (fun a x => if x.2 then a ||| 2 ^ x.1 else a) 0
def freeN (qs : List (Bool × List Nat)) (cs : List (Nat × Nat)) : List Nat := ((List.range 8).map (· + 1)).filter (fun v => cs.any (fun c => (c.1 ||| c.2).testBit v) && !decide (v ∈ toldP qs))
def formN (qs : List (Bool × List Nat)) (cs : List (Nat × Nat)) : Form :=
  { order := freeN qs cs ++ toldP qs, all := allN qs, ends := endsTo (freeN qs cs ++ toldP qs) (allN qs) (freeN qs cs ++ toldP qs).length, cl := cs }
theorem kinds_len (qs : List (Bool × List Nat)) : (kindsP qs).length = (toldP qs).length := by
  induction qs with
  | nil => rfl
  | cons x qs ih => simp [toldP, kindsP] at *
theorem finish_norm {st : RS} {qs : List (Bool × List Nat)} {cs : List (Nat × Nat)} (h : StIs st qs cs) : finish st = formN qs cs := by
  have e1 : freeTo st 8 = freeN qs cs := by
    unfold freeTo freeN
    congr 1
    funext v
    rw [h.used, h.seen]
  have e2 : orderOf st = freeN qs cs ++ toldP qs := by unfold orderOf; rw [e1, h.told]
  have e3 : allTo st st.told.length = allN qs := by
    unfold allTo allN
    rw [h.told, h.kinds, List.take_of_length_le (by rw [List.length_zip, kinds_len]; simp)]
  unfold finish formN
  rw [e2, e3, h.cl]
def truthN (qs : List (Bool × List Nat)) (cs : List (Nat × Nat)) : Bool := fromL (satB cs) (allN qs) (freeN qs cs ++ toldP qs) 0
/-- All variables that the prefix does not tell, and those that it does. -/
def restN (qs : List (Bool × List Nat)) : List Nat := ((List.range 8).map (· + 1)).filter (fun v => !decide (v ∈ toldP qs))
theorem sat_idle (cs : List (Nat × Nat)) (v : Nat) (h : cs.any (fun c => (c.1 ||| c.2).testBit v) = false) (t : Nat) : satB cs (t ||| 2 ^ v) = satB cs t := by
  unfold satB
  have hc : ∀ c ∈ cs, satC c (t ||| 2 ^ v) = satC c t := by
    intro c hcm
    rw [List.any_eq_false] at h
    have hb := h c hcm
    rw [Bool.not_eq_true, Nat.testBit_or, Bool.or_eq_false_iff] at hb
    unfold satC
    have e1 : c.1 &&& (t ||| 2 ^ v) = c.1 &&& t := by
      apply Nat.eq_of_testBit_eq
      intro i
      rw [Nat.testBit_and, Nat.testBit_and, bit_or]
      by_cases e : v = i
      · subst e; simp [hb.1]
      · simp [e]
    have e2 : less c.2 (t ||| 2 ^ v) = less c.2 t := by
      apply Nat.eq_of_testBit_eq
      intro i
      rw [testBit_less, testBit_less, bit_or]
      by_cases e : v = i
      · subst e; simp [hb.2]
      · simp [e]
    rw [e1, e2]
  rw [Bool.eq_iff_iff, List.all_eq_true, List.all_eq_true]
  constructor
  · intro hh c hcm; rw [← hc c hcm]; exact hh c hcm
  · intro hh c hcm; rw [hc c hcm]; exact hh c hcm
theorem fromL_filter (sat : Nat → Bool) (all : Nat) (P : Nat → Bool) (a b : List Nat) (h : ∀ v ∈ a, P v = false → ∀ t, sat (t ||| 2 ^ v) = sat t) : ∀ t, fromL sat all (a.filter P ++ b) t = fromL sat all (a ++ b) t := by
  induction a with
  | nil => intro t; rfl
  | cons v a ih =>
    intro t
    have ih' := ih (fun u hu => h u (by simp [hu]))
    cases hp : P v with
    | true =>
      rw [List.filter_cons_of_pos hp]
      exact fromL_ctx_eq (sat := sat) (sat' := sat) [v] ih' t
    | false =>
      rw [List.filter_cons_of_neg (by simp [hp]), ih', List.cons_append, fromL_drop v (h v (by simp) hp)]
theorem truth_full (qs : List (Bool × List Nat)) (cs : List (Nat × Nat)) : truthN qs cs = fromL (satB cs) (allN qs) (restN qs ++ toldP qs) 0 := by
  unfold truthN
  have e : freeN qs cs = (restN qs).filter (fun v => cs.any (fun c => (c.1 ||| c.2).testBit v)) := by
    unfold freeN restN
    rw [List.filter_filter]
  rw [e]
  exact fromL_filter _ _ _ _ _ (fun v _ hv t => sat_idle cs v hv t) 0
/-- WHAT A TEXT SAYS IS TRUE, BY ITS LINES. -/
theorem truth_norm {st : RS} {qs : List (Bool × List Nat)} {cs : List (Nat × Nat)} (h : StIs st qs cs) : fromL (satB (finish st).cl) (finish st).all (finish st).order 0 = truthN qs cs := by
  rw [finish_norm h]; rfl

/-! ### A clause less, a clause more -/
theorem sat_sub (cs cs' : List (Nat × Nat)) (h : ∀ c ∈ cs', c ∈ cs) (t : Nat) (hs : satB cs t = true) : satB cs' t = true := by
  unfold satB at *
  rw [List.all_eq_true] at *
  exact fun c hc => hs c (h c hc)
theorem truth_sub (qs : List (Bool × List Nat)) (cs cs' : List (Nat × Nat)) (h : ∀ c ∈ cs', c ∈ cs) (ht : truthN qs cs = true) : truthN qs cs' = true := by
  rw [truth_full] at *
  exact fromL_mono (fun t hs => sat_sub cs cs' h t hs) _ (fun _ _ hv => hv) 0 ht
/-! ### A line of the prefix of the other kind -/
theorem all_bits (l : List (Nat × Bool)) : ∀ (a v : Nat), (l.foldl (fun a x => if x.2 then a ||| 2 ^ x.1 else a) a).testBit v = (a.testBit v || l.any (fun x => x.2 && x.1 == v)) := by
  induction l with
  | nil => intro a v; simp
  | cons x l ih =>
    intro a v
    rw [List.foldl_cons, ih, List.any_cons]
    cases x.2 with
    | false => simp
    | true =>
      rw [if_pos rfl, Nat.testBit_or, Nat.testBit_two_pow, Bool.or_assoc]
      congr 1
theorem zip_any (qs : List (Bool × List Nat)) (v : Nat) : ((toldP qs).zip (kindsP qs)).any (fun x => x.2 && x.1 == v) = qs.any (fun x => x.1 && x.2.any (· == v)) := by
  induction qs with
  | nil => rfl
  | cons x qs ih =>
    have e1 : toldP (x :: qs) = x.2 ++ toldP qs := by simp [toldP]
    have e2 : kindsP (x :: qs) = x.2.map (fun _ => x.1) ++ kindsP qs := by simp [kindsP]
    rw [e1, e2, List.zip_append (by simp), List.any_append, ih, List.any_cons]
    congr 1
    obtain ⟨k, l⟩ := x
    dsimp only
    clear e1 e2 ih
    induction l with
    | nil => simp
    | cons u l ihl =>
      simp only [List.map_cons, List.zip_cons_cons, List.any_cons, ihl]
      cases k <;> simp
theorem allN_bit (qs : List (Bool × List Nat)) (v : Nat) : (allN qs).testBit v = qs.any (fun x => x.1 && x.2.any (· == v)) := by
  unfold allN; rw [all_bits, zip_any]; simp
theorem truth_weaker (qs qs' : List (Bool × List Nat)) (cs : List (Nat × Nat)) (ht : toldP qs' = toldP qs) (hk : ∀ v, (allN qs').testBit v = true → (allN qs).testBit v = true) (h : truthN qs cs = true) : truthN qs' cs = true := by
  rw [truth_full] at *
  have e : restN qs' = restN qs := by unfold restN; rw [ht]
  rw [e, ht]
  exact fromL_mono (fun t hs => hs) _ (fun v _ hv => hk v hv) 0 h
/-! ### Lines change places -/
theorem truth_inward (a b : List (Bool × List Nat)) (xs ys : List Nat) (cs : List (Nat × Nat)) (hn : (toldP (a ++ (false, xs) :: (true, ys) :: b)).Nodup) (h : truthN (a ++ (false, xs) :: (true, ys) :: b) cs = true) : truthN (a ++ (true, ys) :: (false, xs) :: b) cs = true := by
  rw [truth_full] at *
  have e1 : toldP (a ++ (false, xs) :: (true, ys) :: b) = toldP a ++ (xs ++ (ys ++ toldP b)) := by simp [toldP]
  have e2 : toldP (a ++ (true, ys) :: (false, xs) :: b) = toldP a ++ (ys ++ (xs ++ toldP b)) := by simp [toldP]
  have ea : ∀ v, (allN (a ++ (true, ys) :: (false, xs) :: b)).testBit v = (allN (a ++ (false, xs) :: (true, ys) :: b)).testBit v := by
    intro v
    rw [allN_bit, allN_bit]
    simp [List.any_append]
  have er : restN (a ++ (true, ys) :: (false, xs) :: b) = restN (a ++ (false, xs) :: (true, ys) :: b) := by
    unfold restN
    congr 1
    funext v
    rw [e1, e2]
    have : (v ∈ toldP a ++ (ys ++ (xs ++ toldP b))) = (v ∈ toldP a ++ (xs ++ (ys ++ toldP b))) := by
      simp only [List.mem_append, eq_iff_iff]
      constructor
      · rintro (h | h | h | h)
        · exact Or.inl h
        · exact Or.inr (Or.inr (Or.inl h))
        · exact Or.inr (Or.inl h)
        · exact Or.inr (Or.inr (Or.inr h))
      · rintro (h | h | h | h)
        · exact Or.inl h
        · exact Or.inr (Or.inr (Or.inl h))
        · exact Or.inr (Or.inl h)
        · exact Or.inr (Or.inr (Or.inr h))
    simp only [this]
  rw [er, e2, fromL_congr (sat' := satB cs) (all' := allN (a ++ (false, xs) :: (true, ys) :: b)) (fun _ => rfl) _ (fun v _ => ea v) 0]
  rw [e1] at h hn
  have hx : ∀ x ∈ xs, (allN (a ++ (false, xs) :: (true, ys) :: b)).testBit x = false := by
    intro x hx
    rw [allN_bit, List.any_eq_false]
    intro z hz hh
    rw [Bool.and_eq_true, List.any_eq_true] at hh
    obtain ⟨hk, u, hu, he⟩ := hh
    have he' : u = x := by simpa using he
    subst he'
    rw [List.nodup_append] at hn
    obtain ⟨n1, n2, n3⟩ := hn
    rw [List.nodup_append] at n2
    obtain ⟨n4, n5, n6⟩ := n2
    rcases List.mem_append.1 hz with hz | hz
    · exact n3 u (List.mem_flatMap.2 ⟨z, hz, hu⟩) u (by simp [hx]) rfl
    · rcases List.mem_cons.1 hz with rfl | hz
      · cases hk
      · rcases List.mem_cons.1 hz with rfl | hz
        · exact n6 u hx u (by simp [hu]) rfl
        · exact n6 u hx u (by rw [List.mem_append]; exact Or.inr (List.mem_flatMap.2 ⟨z, hz, hu⟩)) rfl
  have hy : ∀ y ∈ ys, (allN (a ++ (false, xs) :: (true, ys) :: b)).testBit y = true := by
    intro y hy
    rw [allN_bit, List.any_eq_true]
    exact ⟨(true, ys), by simp, by rw [Bool.and_eq_true, List.any_eq_true]; exact ⟨rfl, y, hy, by simp⟩⟩
  rw [← List.append_assoc] at h ⊢
  exact fromL_ctx (sat := satB cs) (sat' := satB cs) _ (fun t ht => fromL_blocks xs ys hx hy _ t ht) 0 h
end Go.Proofs.YtgipjjhkhfihpaaDoor

namespace Go.Proofs.YtgipjjhkhfihpaaDoor
open Go.RowKit

theorem rest_mem (qs : List (Bool × List Nat)) (v : Nat) : v ∈ restN qs ↔ (1 ≤ v ∧ v ≤ 8) ∧ v ∉ toldP qs := by
  unfold restN
  rw [List.mem_filter, List.mem_map]
  constructor
  · rintro ⟨⟨u, hu, rfl⟩, h⟩
    have : u < 8 := by simpa using hu
    exact ⟨by omega, by simpa using h⟩
  · rintro ⟨⟨h1, h8⟩, h⟩
    exact ⟨⟨v - 1, by simp; omega, by omega⟩, by simpa using h⟩
theorem rest_nodup (qs : List (Bool × List Nat)) : (restN qs).Nodup := by
  unfold restN
  refine List.Pairwise.filter _ ?_
  rw [List.pairwise_map]
  exact List.pairwise_lt_range.imp (fun h => by omega)
theorem full_nodup (qs : List (Bool × List Nat)) (hn : (toldP qs).Nodup) : (restN qs ++ toldP qs).Nodup := by
  rw [List.nodup_append]
  refine ⟨rest_nodup qs, hn, ?_⟩
  intro a ha b hb e
  subst e
  exact ((rest_mem qs a).1 ha).2 hb
theorem full_mem (qs : List (Bool × List Nat)) (v : Nat) (h1 : 1 ≤ v) (h8 : v ≤ 8) : v ∈ restN qs ++ toldP qs := by
  by_cases h : v ∈ toldP qs
  · exact List.mem_append_right _ h
  · exact List.mem_append_left _ ((rest_mem qs v).2 ⟨⟨h1, h8⟩, h⟩)
theorem rest_exists (qs : List (Bool × List Nat)) (v : Nat) (h : v ∉ toldP qs) : (allN qs).testBit v = false := by
  rw [allN_bit, List.any_eq_false]
  intro z hz hh
  rw [Bool.and_eq_true, List.any_eq_true] at hh
  obtain ⟨_, u, hu, he⟩ := hh
  have he' : u = v := by simpa using he
  subst he'
  exact h (List.mem_flatMap.2 ⟨z, hz, hu⟩)

/-! ### A variable turned -/
structure FlipC (x : Nat) (c c' : Nat × Nat) : Prop where
  p : c'.1.testBit x = c.2.testBit x
  n : c'.2.testBit x = c.1.testBit x
  rp : ∀ u, u ≠ x → c'.1.testBit u = c.1.testBit u
  rn : ∀ u, u ≠ x → c'.2.testBit u = c.2.testBit u
theorem FlipC.symm {x : Nat} {c c' : Nat × Nat} (h : FlipC x c c') : FlipC x c' c := ⟨h.n.symm, h.p.symm, fun u hu => (h.rp u hu).symm, fun u hu => (h.rn u hu).symm⟩
theorem Flip.symm {x t t' : Nat} (h : Flip x t t') : Flip x t' t := ⟨by rw [h.1]; simp, fun u hu => (h.2 u hu).symm⟩
theorem flip_sat {x : Nat} {c c' : Nat × Nat} {t t' : Nat} (hc : FlipC x c c') (ht : Flip x t t') (h : satC c t = true) : satC c' t' = true := by
  rw [satC_iff] at *
  obtain ⟨v, h⟩ := h
  refine ⟨v, ?_⟩
  by_cases e : v = x
  · subst e
    rw [hc.p, hc.n, ht.1]
    rcases h with h | h
    · exact Or.inr ⟨h.1, by rw [h.2]; rfl⟩
    · exact Or.inl ⟨h.1, by rw [h.2]; rfl⟩
  · rw [hc.rp v e, hc.rn v e, ht.2 v e]; exact h
theorem truth_turned (qs : List (Bool × List Nat)) (cs cs' : List (Nat × Nat)) (x : Nat) (h1 : 1 ≤ x) (h8 : x ≤ 8) (hn : (toldP qs).Nodup) (ha : ∀ c ∈ cs, ∃ c' ∈ cs', FlipC x c c') (hb : ∀ c' ∈ cs', ∃ c ∈ cs, FlipC x c c') : truthN qs cs' = truthN qs cs := by
  rw [truth_full, truth_full]
  refine fromL_turned x ?_ _ (full_nodup qs hn) (full_mem qs x h1 h8) 0 (by simp)
  intro t t' ht
  rw [Bool.eq_iff_iff, satB_iff, satB_iff]
  constructor
  · intro h c hc
    obtain ⟨c', hc', hf⟩ := ha c hc
    exact flip_sat hf.symm ht.symm (h c' hc')
  · intro h c' hc'
    obtain ⟨c, hc, hf⟩ := hb c' hc'
    exact flip_sat hf ht (h c hc)

/-! ### Other names -/
theorem fromL_perm {sat : Nat → Bool} {all : Nat} {a a' : List Nat} (hp : a.Perm a') : (∀ v ∈ a, all.testBit v = false) → ∀ (b : List Nat) (t : Nat), fromL sat all (a ++ b) t = fromL sat all (a' ++ b) t := by
  induction hp with
  | nil => intro _ b t; rfl
  | cons x _ ih =>
    intro h b t
    exact fromL_ctx_eq (sat := sat) (sat' := sat) [x] (fun t => ih (fun v hv => h v (by simp [hv])) b t) t
  | swap x y l =>
    intro h b t
    exact fromL_same y x (by rw [h y (by simp), h x (by simp)]) (l ++ b) t
  | trans h1 _ ih1 ih2 =>
    intro h b t
    rw [ih1 h b t, ih2 (fun v hv => h v (h1.symm.subset hv)) b t]
theorem truth_named (qs qs' : List (Bool × List Nat)) (cs cs' : List (Nat × Nat)) (r : Nat → Nat) (hr : ∀ a b, r a = r b → a = b) (hr8 : ∀ v, (1 ≤ r v ∧ r v ≤ 8) ↔ (1 ≤ v ∧ v ≤ 8)) (hon : ∀ v, 1 ≤ v → v ≤ 8 → ∃ u, r u = v)
    (hq : qs' = qs.map (fun x => (x.1, x.2.map r))) (hc : ∀ t t', (∀ v, t'.testBit (r v) = t.testBit v) → satB cs' t' = satB cs t) : truthN qs' cs' = truthN qs cs := by
  have htold : toldP qs' = (toldP qs).map r := by
    subst hq
    unfold toldP
    rw [List.flatMap_map, List.map_flatMap]
  have hall : ∀ v, (allN qs').testBit (r v) = (allN qs).testBit v := by
    intro v
    rw [allN_bit, allN_bit, hq, List.any_map]
    congr 1
    funext x
    simp only [Function.comp]
    congr 1
    rw [List.any_map]
    congr 1
    funext u
    simp only [Function.comp]
    rw [Bool.eq_iff_iff, beq_iff_eq, beq_iff_eq]
    exact ⟨fun h => hr _ _ h, fun h => by rw [h]⟩
  rw [truth_full, truth_full]
  have hperm : (restN qs').Perm ((restN qs).map r) := by
    apply (List.perm_ext_iff_of_nodup (rest_nodup qs') ?_).2
    · intro v
      rw [rest_mem, List.mem_map]
      constructor
      · rintro ⟨⟨h1, h8⟩, hv⟩
        obtain ⟨u, hu⟩ := hon v h1 h8
        subst hu
        refine ⟨u, (rest_mem qs u).2 ⟨(hr8 u).1 ⟨h1, h8⟩, fun hm => hv ?_⟩, rfl⟩
        rw [htold]; exact List.mem_map_of_mem hm
      · rintro ⟨u, hu, rfl⟩
        rw [rest_mem] at hu
        refine ⟨(hr8 u).2 hu.1, fun hm => hu.2 ?_⟩
        rw [htold, List.mem_map] at hm
        obtain ⟨z, hz, he⟩ := hm
        rw [← hr _ _ he]; exact hz
    · exact List.Pairwise.map r (fun a b hab e => hab (hr _ _ e)) (rest_nodup qs)
  rw [fromL_perm hperm (fun v hv => rest_exists qs' v ((rest_mem qs' v).1 hv).2), htold, ← List.map_append]
  exact fromL_named r hr hc _ (fun v _ => hall v) 0 0 (fun v => by simp)

/-! ### An innermost variable more -/
theorem fromL_ctx_on {sat sat' : Nat → Bool} {all all' : Nat} (x : Nat) (a : List Nat) {vs vs' : List Nat} (hx : x ∉ a) (ha : ∀ v ∈ a, all.testBit v = all'.testBit v) (h : ∀ t, t.testBit x = false → fromL sat all vs t = fromL sat' all' vs' t) : ∀ t, t.testBit x = false → fromL sat all (a ++ vs) t = fromL sat' all' (a ++ vs') t := by
  induction a with
  | nil => exact h
  | cons v a ih =>
    intro t ht
    rw [List.mem_cons, not_or] at hx
    have ih' := ih hx.2 (fun u hu => ha u (by simp [hu]))
    have hv : v ≠ x := Ne.symm hx.1
    rw [List.cons_append, List.cons_append, fromL_step, fromL_step, ih' _ (by rw [bit_or, ht]; simp [hv]), ih' t ht, ha v (by simp)]
theorem told_last (qs : List (Bool × List Nat)) (k : Bool) (x : Nat) : toldP (qs ++ [(k, [x])]) = toldP qs ++ [x] := by simp [toldP]
theorem rest_last (qs : List (Bool × List Nat)) (k : Bool) (x : Nat) : restN (qs ++ [(k, [x])]) = (restN qs).filter (fun v => v != x) := by
  unfold restN
  rw [List.filter_filter]
  congr 1
  funext v
  rw [told_last]
  by_cases e : v = x
  · subst e; simp
  · simp [e]
theorem all_last (qs : List (Bool × List Nat)) (k : Bool) (x v : Nat) (h : v ≠ x) : (allN (qs ++ [(k, [x])])).testBit v = (allN qs).testBit v := by
  rw [allN_bit, allN_bit, List.any_append]
  simp [Ne.symm h]
/-- One core for all three. -/
theorem truth_last (qs : List (Bool × List Nat)) (cs cs' : List (Nat × Nat)) (k : Bool) (x : Nat) (hx : x ∉ toldP qs) (hi : cs.any (fun c => (c.1 ||| c.2).testBit x) = false)
    (hl : ∀ t, t.testBit x = false → fromL (satB cs') (allN (qs ++ [(k, [x])])) [x] t = satB cs t) : truthN (qs ++ [(k, [x])]) cs' = truthN qs cs := by
  rw [truth_full, truth_full, rest_last, told_last, ← List.append_assoc]
  have hnx : x ∉ (restN qs).filter (fun v => v != x) ++ toldP qs := by
    rw [List.mem_append, not_or]
    refine ⟨?_, hx⟩
    rw [List.mem_filter]
    rintro ⟨_, h⟩
    simp at h
  have e1 := fromL_ctx_on (sat := satB cs') (sat' := satB cs) (all := allN (qs ++ [(k, [x])])) (all' := allN qs) x ((restN qs).filter (fun v => v != x) ++ toldP qs) (vs := [x]) (vs' := []) hnx
    (fun v hv => all_last qs k x v (fun e => hnx (e ▸ hv))) (fun t ht => hl t ht) 0 (by simp)
  rw [e1, List.append_nil]
  refine fromL_filter (satB cs) (allN qs) (fun v => v != x) (restN qs) (toldP qs) ?_ 0
  intro v _ hv t
  have : v = x := by simpa using hv
  subst this
  exact sat_idle cs v hi t
theorem last_idle (qs : List (Bool × List Nat)) (cs : List (Nat × Nat)) (k : Bool) (x : Nat) (hx : x ∉ toldP qs) (hi : cs.any (fun c => (c.1 ||| c.2).testBit x) = false) : truthN (qs ++ [(k, [x])]) cs = truthN qs cs := by
  refine truth_last qs cs cs k x hx hi ?_
  intro t _
  rw [fromL_step]
  show (if _ then satB cs (t ||| 2 ^ x) && satB cs t else satB cs (t ||| 2 ^ x) || satB cs t) = satB cs t
  rw [sat_idle cs x hi]
  cases (allN (qs ++ [(k, [x])])).testBit x <;> cases satB cs t <;> rfl
theorem last_clause (qs : List (Bool × List Nat)) (cs : List (Nat × Nat)) (x : Nat) (hx : x ∉ toldP qs) (hi : cs.any (fun c => (c.1 ||| c.2).testBit x) = false) : truthN (qs ++ [(false, [x])]) (cs ++ [(0, 2 ^ x)]) = truthN qs cs := by
  refine truth_last qs cs _ false x hx hi ?_
  intro t ht
  have hall : (allN (qs ++ [(false, [x])])).testBit x = false := by
    rw [allN_bit, List.any_append, Bool.or_eq_false_iff]
    refine ⟨?_, by simp⟩
    rw [← allN_bit]; exact rest_exists qs x hx
  rw [fromL_step, hall]
  show (satB (cs ++ [(0, 2 ^ x)]) (t ||| 2 ^ x) || satB (cs ++ [(0, 2 ^ x)]) t) = satB cs t
  have hb : ∀ u, satB (cs ++ [(0, 2 ^ x)]) u = (satB cs u && satC (0, 2 ^ x) u) := fun u => by unfold satB; rw [List.all_append]; simp
  have h1 : satC (0, 2 ^ x) (t ||| 2 ^ x) = false := by
    cases hh : satC (0, 2 ^ x) (t ||| 2 ^ x) with
    | false => rfl
    | true =>
      rw [satC_iff] at hh
      obtain ⟨v, h | h⟩ := hh
      · simp at h
      · have e : x = v := by
          have h1 := h.1
          rw [Nat.testBit_two_pow] at h1
          simpa using h1
        subst e
        rw [bit_or] at h
        simp at h
  have h2 : satC (0, 2 ^ x) t = true := by
    rw [satC_iff]
    exact ⟨x, Or.inr ⟨by rw [Nat.testBit_two_pow]; simp, ht⟩⟩
  rw [hb, hb, h1, h2]; simp
end Go.Proofs.YtgipjjhkhfihpaaDoor

namespace Go.Proofs.YtgipjjhkhfihpaaDoor
open Go.RowKit

theorem cutAt_join (m : List (List UInt8)) (h : ∀ r ∈ m, (10 : UInt8) ∉ r) : cutAt 10 (joinN m) = m ++ [[]] := by
  unfold cutAt cutTo
  rw [cut_join m h []]
  simp
/-- No line has a newline; the lines joined are the text, but for what stands behind the last newline. -/
theorem cut_inv (l : List UInt8) : ∀ (st : List (List UInt8) × List UInt8), (∀ r ∈ st.1, (10 : UInt8) ∉ r) → (10 : UInt8) ∉ st.2 → (∀ r ∈ (l.foldl (cutStep 10) st).1, (10 : UInt8) ∉ r) ∧ joinN (l.foldl (cutStep 10) st).1 ++ (l.foldl (cutStep 10) st).2 = joinN st.1 ++ st.2 ++ l := by
  induction l with
  | nil => intro st h1 _; exact ⟨h1, by simp⟩
  | cons b l ih =>
    intro st h1 h2
    rw [List.foldl_cons]
    by_cases hb : b = 10
    · have e : cutStep 10 st b = (st.1 ++ [st.2], []) := by unfold cutStep; rw [if_pos hb]
      rw [e]
      have := ih (st.1 ++ [st.2], []) (by
        intro r hr
        rcases List.mem_append.1 hr with hr | hr
        · exact h1 r hr
        · simp at hr; subst hr; exact h2) (by simp)
      refine ⟨this.1, ?_⟩
      rw [this.2, hb]
      simp [joinN]
    · have e : cutStep 10 st b = (st.1, st.2 ++ [b]) := by unfold cutStep; rw [if_neg hb]
      rw [e]
      have := ih (st.1, st.2 ++ [b]) h1 (by
        intro hh
        rcases List.mem_append.1 hh with hh | hh
        · exact h2 hh
        · simp at hh; exact hb hh.symm)
      refine ⟨this.1, ?_⟩
      rw [this.2]
      simp
theorem lines_no_nl (l : List UInt8) : ∀ r ∈ (cutTo 10 l).1, (10 : UInt8) ∉ r := (cut_inv l ([], []) (by simp) (by simp)).1
theorem lines_join (l : List UInt8) (h : (cutTo 10 l).2 = []) : joinN (cutTo 10 l).1 = l := by
  have := (cut_inv l ([], []) (by simp) (by simp)).2
  have e : joinN (cutTo 10 l).1 ++ (cutTo 10 l).2 = l := by
    unfold cutTo
    rw [this]; simp [joinN]
  rw [h, List.append_nil] at e
  exact e

/-! ### Prefix and clauses -/
theorem prefs_snoc (P : List (List UInt8)) (r : List UInt8) (qs : List (Bool × List Nat)) (x : Bool × List Nat) (h : prefs P = some qs) (hr : prefRow r = some x) : prefs (P ++ [r]) = some (qs ++ [x]) := by
  induction P generalizing qs with
  | nil => simp [prefs] at h; subst h; simp [prefs, hr]
  | cons p P ih =>
    rw [prefs] at h
    cases hp : prefRow p with
    | none => rw [hp] at h; cases h
    | some y =>
      cases hP : prefs P with
      | none => rw [hp, hP] at h; cases h
      | some ys =>
        rw [hp, hP] at h
        have h' : y :: ys = qs := Option.some.inj h
        subst h'
        rw [List.cons_append, prefs, hp, ih ys hP]
        rfl
theorem norm_split (rows : List (List UInt8)) : ∀ (ps : List (Bool × List Nat)) (qs : List (Bool × List Nat)) (cs : List (Nat × Nat)), norm ps rows = some (qs, cs) → ∃ P C qs', rows = P ++ C ∧ prefs P = some qs' ∧ qs = ps ++ qs' ∧ cls C = some cs ∧ ((toldP ps).Nodup → (toldP qs).Nodup) := by
  induction rows with
  | nil =>
    intro ps qs cs h
    simp [norm] at h
    obtain ⟨rfl, rfl⟩ := h
    exact ⟨[], [], [], rfl, rfl, by simp, rfl, fun h => h⟩
  | cons r rows ih =>
    intro ps qs cs h
    rw [norm] at h
    cases hr : prefRow r with
    | some x =>
      rw [hr] at h
      dsimp only at h
      by_cases hd : (toldP (ps ++ [x])).Nodup
      · rw [if_pos hd] at h
        obtain ⟨P, C, qs', h1, h2, h3, h4, h5⟩ := ih _ _ _ h
        refine ⟨r :: P, C, x :: qs', by rw [h1]; rfl, by rw [prefs, hr, h2], by rw [h3]; simp, h4, fun _ => h5 hd⟩
      · rw [if_neg hd] at h; cases h
    | none =>
      rw [hr] at h
      dsimp only at h
      cases hc : cls (r :: rows) with
      | none => rw [hc] at h; cases h
      | some ds =>
        rw [hc] at h
        have h' : (ps, ds) = (qs, cs) := Option.some.inj h
        injection h' with e1 e2
        subst e1 e2
        exact ⟨[], r :: rows, [], rfl, rfl, by simp, hc, fun h => h⟩
theorem cl_not_pref (r : List UInt8) (c : Nat × Nat) (h : clRow r = some c) : prefRow r = none := by
  cases hp : prefRow r with
  | none => rfl
  | some x => rw [pref_not_cl r x hp] at h; cases h
theorem norm_cls (C : List (List UInt8)) (cs : List (Nat × Nat)) (h : cls C = some cs) (ps : List (Bool × List Nat)) : norm ps C = some (ps, cs) := by
  cases C with
  | nil => simp [cls] at h; subst h; rfl
  | cons r C =>
    have hc : ∃ c, clRow r = some c := by
      rw [cls] at h
      cases hr : clRow r with
      | none => rw [hr] at h; cases h
      | some c => exact ⟨c, rfl⟩
    obtain ⟨c, hc⟩ := hc
    rw [norm, cl_not_pref r c hc]
    dsimp only
    rw [h]; rfl
theorem toldP_app (a b : List (Bool × List Nat)) : toldP (a ++ b) = toldP a ++ toldP b := by simp [toldP]
theorem norm_join (P : List (List UInt8)) : ∀ (C : List (List UInt8)) (ps qs : List (Bool × List Nat)) (cs : List (Nat × Nat)), prefs P = some qs → cls C = some cs → (toldP (ps ++ qs)).Nodup → norm ps (P ++ C) = some (ps ++ qs, cs) := by
  induction P with
  | nil =>
    intro C ps qs cs h1 h2 _
    simp [prefs] at h1; subst h1
    rw [List.nil_append, List.append_nil]
    exact norm_cls C cs h2 ps
  | cons r P ih =>
    intro C ps qs cs h1 h2 hn
    rw [prefs] at h1
    cases hr : prefRow r with
    | none => rw [hr] at h1; cases h1
    | some x =>
      cases hP : prefs P with
      | none => rw [hr, hP] at h1; cases h1
      | some ys =>
        rw [hr, hP] at h1
        have h' : x :: ys = qs := Option.some.inj h1
        subst h'
        have e : ps ++ x :: ys = ps ++ [x] ++ ys := by simp
        rw [List.cons_append, norm, hr]
        dsimp only
        rw [if_pos, ih C (ps ++ [x]) ys cs hP h2 (by rw [← e]; exact hn), ← e]
        rw [e, toldP_app, List.nodup_append] at hn
        exact hn.1
/-- A TEXT THAT IS A FORMULA: its prefix and its clauses. -/
structure TextIs (l : List UInt8) (P C : List (List UInt8)) (qs : List (Bool × List Nat)) (cs : List (Nat × Nat)) : Prop where
  len : l.length ≤ 2000
  text : l = joinN (P ++ C)
  nl : ∀ r ∈ P ++ C, (10 : UInt8) ∉ r
  prefs : prefs P = some qs
  cls : cls C = some cs
  c24 : cs.length ≤ 24
  nodup : (toldP qs).Nodup
theorem text_of (l : List UInt8) (F : Form) (h : readSpec l = .inr F) : ∃ P C qs cs, TextIs l P C qs cs ∧ F = formN qs cs := by
  have hr := readSpec_norm l
  rw [h] at hr
  obtain ⟨h1, h2, qs, cs, st, h3, h4, h5, h6, h7⟩ := hr
  have e1 : (cutAt 10 l).dropLast = (cutTo 10 l).1 := by unfold cutAt; simp
  have e2 : (cutTo 10 l).2 = [] := by
    unfold cutAt at h2
    simpa using h2
  rw [e1] at h3
  obtain ⟨P, C, qs', g1, g2, g3, g4, _⟩ := norm_split _ _ _ _ h3
  have g3' : qs = qs' := by simpa using g3
  subst g3'
  refine ⟨P, C, qs, cs, ⟨h1, ?_, ?_, g2, g4, h4, h5⟩, by rw [h7]; exact finish_norm h6⟩
  · rw [← g1]; exact (lines_join l e2).symm
  · rw [← g1]; exact lines_no_nl l
theorem text_to {l : List UInt8} {P C : List (List UInt8)} {qs : List (Bool × List Nat)} {cs : List (Nat × Nat)} (h : TextIs l P C qs cs) : readSpec l = .inr (formN qs cs) := by
  have hc : cutAt 10 l = (P ++ C) ++ [[]] := by rw [h.text]; exact cutAt_join _ h.nl
  have hn : norm [] (cutAt 10 l).dropLast = some (qs, cs) := by
    rw [hc]
    simp only [List.dropLast_concat]
    have := norm_join P C [] qs cs h.prefs h.cls (by simpa using h.nodup)
    simpa using this
  have hr := readSpec_norm l
  cases hs : readSpec l with
  | inl a =>
    rw [hs] at hr
    rcases hr with hr | hr | hr | ⟨qs', cs', hr, h24⟩
    · have := h.len; omega
    · exact absurd (by rw [hc]; simp) hr
    · rw [hn] at hr; cases hr
    · rw [hn] at hr
      have hr' := Option.some.inj hr
      injection hr' with e1 e2
      subst e2
      have := h.c24; omega
  | inr F =>
    rw [hs] at hr
    obtain ⟨_, _, qs', cs', st, h3, _, _, h6, h7⟩ := hr
    rw [hn] at h3
    have h3' := Option.some.inj h3
    injection h3' with e1 e2
    subst e1 e2
    rw [h7, finish_norm h6]
/-- A row's first byte. -/
theorem cut_first (c : UInt8) (r : List UInt8) : ∀ (a : List UInt8) (x : UInt8) (t : List (List UInt8)), x ≠ c → cutAt c r = (x :: a) :: t → r.head? = some x := by
  intro a x t hx h
  cases r with
  | nil => simp [cutAt, cutTo] at h
  | cons b r =>
    by_cases hb : b = c
    · exfalso
      have hp : [[]] <+: (cutTo c (b :: r)).1 := by
        have h1 : cutTo c (b :: r) = r.foldl (cutStep c) (cutStep c ([], []) b) := rfl
        have h2 : cutStep c ([], []) b = ([[]], []) := by unfold cutStep; rw [if_pos hb]; rfl
        rw [h1, h2]
        suffices hs : ∀ (l : List UInt8) (st : List (List UInt8) × List UInt8), st.1 <+: (l.foldl (cutStep c) st).1 from hs r ([[]], [])
        intro l
        induction l with
        | nil => intro st; exact List.prefix_refl _
        | cons y l ih =>
          intro st
          refine List.IsPrefix.trans ?_ (ih (cutStep c st y))
          unfold cutStep; split
          · exact List.prefix_append _ _
          · exact List.prefix_refl _
      obtain ⟨rest, hrest⟩ := hp
      unfold cutAt at h
      rw [← hrest] at h
      simp at h
    · have h1 : cutTo c (b :: r) = r.foldl (cutStep c) ([], [b]) := by
        show r.foldl (cutStep c) (cutStep c ([], []) b) = _
        have : cutStep c ([], []) b = ([], [b]) := by unfold cutStep; rw [if_neg hb]; rfl
        rw [this]
      have h2 : ∀ (l : List UInt8) (st : List (List UInt8) × List UInt8) (y : UInt8) (z : List UInt8), (st.1 = [] ∧ st.2 = y :: z) ∨ (∃ z' t', st.1 = (y :: z') :: t') → ∃ z' t', (l.foldl (cutStep c) st).1 ++ [(l.foldl (cutStep c) st).2] = (y :: z') :: t' := by
        intro l
        induction l with
        | nil =>
          intro st y z h
          rcases h with ⟨h1, h2⟩ | ⟨z', t', h1⟩
          · exact ⟨z, [], by simp [h1, h2]⟩
          · exact ⟨z', t' ++ [st.2], by simp [h1]⟩
        | cons d l ih =>
          intro st y z h
          rw [List.foldl_cons]
          by_cases hd : d = c
          · have e : cutStep c st d = (st.1 ++ [st.2], []) := by unfold cutStep; rw [if_pos hd]
            rw [e]
            apply ih (z := z)
            right
            rcases h with ⟨h1, h2⟩ | ⟨z', t', h1⟩
            · exact ⟨z, [], by simp [h1, h2]⟩
            · exact ⟨z', t' ++ [st.2], by simp [h1]⟩
          · have e : cutStep c st d = (st.1, st.2 ++ [d]) := by unfold cutStep; rw [if_neg hd]
            rw [e]
            rcases h with ⟨h1, h2⟩ | ⟨z', t', h1⟩
            · exact ih (st.1, st.2 ++ [d]) y (z ++ [d]) (Or.inl ⟨h1, by simp [h2]⟩)
            · exact ih (st.1, st.2 ++ [d]) y z (Or.inr ⟨z', t', h1⟩)
      obtain ⟨z', t', h3⟩ := h2 r ([], [b]) b [] (Or.inl ⟨rfl, rfl⟩)
      unfold cutAt at h
      rw [h1, h3] at h
      injection h with h4 _
      injection h4 with h5 _
      subst h5
      rfl
theorem pref_first (r : List UInt8) (x : Bool × List Nat) (h : prefRow r = some x) : r.head? = some (if x.1 then 97 else 101) := by
  unfold prefRow at h
  cases hw : cutAt 32 r with
  | nil => rw [hw] at h; cases h
  | cons hd tl =>
    rw [hw] at h
    dsimp only at h
    split at h
    · next hh =>
      cases hv : varsOf tl with
      | none => rw [hv] at h; cases h
      | some vs =>
        rw [hv] at h
        have h' : (hd == [97], vs) = x := Option.some.inj h
        subst h'
        rcases hh.1 with e | e
        · subst e; exact cut_first 32 r [] 101 tl (by decide) hw
        · subst e; exact cut_first 32 r [] 97 tl (by decide) hw
    · cases h
theorem cl_first (r : List UInt8) (c : Nat × Nat) (h : clRow r = some c) : r.head? = some 99 := by
  unfold clRow at h
  cases hw : cutAt 32 r with
  | nil => rw [hw] at h; cases h
  | cons hd tl =>
    rw [hw] at h
    dsimp only at h
    split at h
    · next hh =>
      obtain ⟨rfl, _⟩ := hh
      exact cut_first 32 r [] 99 tl (by decide) hw
    · cases h
end Go.Proofs.YtgipjjhkhfihpaaDoor
