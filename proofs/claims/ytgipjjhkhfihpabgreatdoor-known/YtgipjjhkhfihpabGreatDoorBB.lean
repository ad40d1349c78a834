import Derived.Test.YtgipjjhkhfihpabGreatDoorAA
import Derived.Test.YtgipjjhkhfihpabGreatDoorAB
import Derived.Test.YtgipjjhkhfihpabGreatDoorAF
import Derived.Test.YtgipjjhkhfihpabGreatDoorAH
import Derived.Test.YtgipjjhkhfihpabGreatDoorAC
import Derived.Deep.LoopGhost
import Derived.Test.YtgipjjhkhfihpabGreatDoorAK
namespace Go.Proofs.YtgipjjhkhfihpabGreatDoor
open Go.RowKit

/-! ### A formula's text, by its lines -/
def varsOf : List (List UInt8) → Option (List Nat)
  | [] => some []
  | w :: ws => if 0 < dig w then (varsOf ws).map ((dig w).toNat :: ·) else none
/-- A line of the prefix: its kind, its variables. -/
def prefRow (row : List UInt8) : Option (Bool × List Nat) :=
  match cutAt 32 row with
  | [] => none
  | hd :: tl => if (hd = [101] ∨ hd = [97]) ∧ tl ≠ [] then (varsOf tl).map (fun vs => (hd == [97], vs)) else none
/-- A line of a clause. -/
def clRow (row : List UInt8) : Option (Nat × Nat) :=
  match cutAt 32 row with
  | [] => none
  | hd :: tl => if hd = [99] ∧ (litsTo tl).2 = true then some (litsTo tl).1 else none
def prefs : List (List UInt8) → Option (List (Bool × List Nat))
  | [] => some []
  | r :: rs => match prefRow r, prefs rs with
    | some p, some ps => some (p :: ps)
    | _, _ => none
def cls : List (List UInt8) → Option (List (Nat × Nat))
  | [] => some []
  | r :: rs => match clRow r, cls rs with
    | some p, some ps => some (p :: ps)
    | _, _ => none
def toldP (ps : List (Bool × List Nat)) : List Nat := ps.flatMap (·.2)
def kindsP (ps : List (Bool × List Nat)) : List Bool := ps.flatMap (fun x => x.2.map (fun _ => x.1))
structure StIs (st : RS) (ps : List (Bool × List Nat)) (cs : List (Nat × Nat)) : Prop where
  cl : st.cl = cs
  told : st.told = toldP ps
  kinds : st.kinds = kindsP ps
  seen : ∀ v, st.seen.testBit v = decide (v ∈ toldP ps)
  used : ∀ v, st.used.testBit v = cs.any (fun c => (c.1 ||| c.2).testBit v)

theorem fold_bad (a : Bool) (ws : List (List UInt8)) : ∀ (p : PS), p.ok = false → (ws.foldl (varStep a) p).ok = false := by
  induction ws with
  | nil => intro p h; exact h
  | cons w ws ih => intro p h; refine ih _ ?_; simp [varStep, h]
theorem vars_fold (a : Bool) (ws : List (List UInt8)) : ∀ (p : PS), p.ok = true → p.told.Nodup → (∀ v, p.seen.testBit v = decide (v ∈ p.told)) →
    match varsOf ws with
    | none => (ws.foldl (varStep a) p).ok = false
    | some vs => if (p.told ++ vs).Nodup then (ws.foldl (varStep a) p).ok = true ∧ (ws.foldl (varStep a) p).told = p.told ++ vs ∧ (ws.foldl (varStep a) p).kinds = p.kinds ++ vs.map (fun _ => a) ∧ (∀ v, (ws.foldl (varStep a) p).seen.testBit v = decide (v ∈ p.told ++ vs)) else (ws.foldl (varStep a) p).ok = false := by
  induction ws with
  | nil =>
    intro p h1 h2 h3
    show if (p.told ++ []).Nodup then _ else _
    rw [List.append_nil, if_pos h2]
    exact ⟨h1, rfl, by simp, h3⟩
  | cons w ws ih =>
    intro p h1 h2 h3
    obtain ⟨d0, d1⟩ := dig_bd w
    obtain ⟨dn, hdn⟩ := Int.eq_ofNat_of_zero_le d0
    have hvs := varStep_eq a p w dn hdn
    rw [varsOf, List.foldl_cons, hvs, hdn]
    by_cases hz : dn = 0
    · subst hz
      rw [if_neg (by simp)]
      exact fold_bad a ws _ (by simp)
    · rw [if_pos (by omega)]
      simp only [Int.toNat_natCast]
      by_cases hs : p.seen.testBit dn = true
      · have hm : dn ∈ p.told := by rw [h3] at hs; simpa using hs
        have hbad : (ws.foldl (varStep a) ⟨p.told ++ [dn], p.kinds ++ [a], p.seen ||| 2 ^ dn, if dn = 0 ∨ p.seen.testBit dn = true then false else p.ok⟩).ok = false := fold_bad a ws _ (by rw [if_pos (Or.inr hs)])
        cases varsOf ws with
        | none => exact hbad
        | some vs =>
          simp only [Option.map_some]
          rw [if_neg]
          · exact hbad
          · intro hn
            rw [List.nodup_append] at hn
            exact hn.2.2 dn hm dn (by simp) rfl
      · have hnm : dn ∉ p.told := fun hm => hs (by rw [h3]; simpa using hm)
        have hok : (if dn = 0 ∨ p.seen.testBit dn = true then false else p.ok) = true := by rw [if_neg (by rintro (h | h); exact hz h; exact hs h)]; exact h1
        have hnd : (p.told ++ [dn]).Nodup := by
          rw [List.nodup_append]
          refine ⟨h2, by simp, ?_⟩
          intro x hx y hy e
          simp at hy; subst hy; subst e; exact hnm hx
        have hih := ih ⟨p.told ++ [dn], p.kinds ++ [a], p.seen ||| 2 ^ dn, if dn = 0 ∨ p.seen.testBit dn = true then false else p.ok⟩ hok hnd (by
          intro v
          show (p.seen ||| 2 ^ dn).testBit v = decide (v ∈ p.told ++ [dn])
          rw [Nat.testBit_or, h3, Nat.testBit_two_pow]
          by_cases e : dn = v
          · subst e; simp
          · have : (v = dn) = False := by simp [Ne.symm e]
            simp [e, this])
        cases hv : varsOf ws with
        | none => rw [hv] at hih; exact hih
        | some vs =>
          rw [hv] at hih
          dsimp only at hih
          simp only [Option.map_some]
          have e : p.told ++ [dn] ++ vs = p.told ++ dn :: vs := by simp
          have e2 : p.kinds ++ [a] ++ vs.map (fun _ => a) = p.kinds ++ (dn :: vs).map (fun _ => a) := by simp
          rw [e, e2] at hih
          exact hih

theorem toldP_snoc (ps : List (Bool × List Nat)) (x : Bool × List Nat) : toldP (ps ++ [x]) = toldP ps ++ x.2 := by simp [toldP]
theorem kindsP_snoc (ps : List (Bool × List Nat)) (x : Bool × List Nat) : kindsP (ps ++ [x]) = kindsP ps ++ x.2.map (fun _ => x.1) := by simp [kindsP]
/-- A line of the prefix. -/
theorem pref_step {st : RS} {ps : List (Bool × List Nat)} (h : StIs st ps []) (hn : (toldP ps).Nodup) (row : List UInt8) :
    match prefRow row with
    | some x => if (toldP (ps ++ [x])).Nodup then (rowStep st row).2 = true ∧ StIs (rowStep st row).1 (ps ++ [x]) [] else (rowStep st row).2 = false
    | none => clRow row = none → (rowStep st row).2 = false := by
  unfold prefRow
  cases hw : cutAt 32 row with
  | nil => intro _; unfold rowStep; rw [hw]
  | cons hd tl =>
    dsimp only
    by_cases hc : (hd = [101] ∨ hd = [97]) ∧ tl ≠ []
    · rw [if_pos hc]
      have hp := rowStep_p st row hd tl hw hc.1 h.cl hc.2
      have hf := vars_fold (hd == [97]) tl ⟨st.told, st.kinds, st.seen, true⟩ rfl (by rw [h.told]; exact hn) (by intro v; rw [h.seen, h.told])
      cases hv : varsOf tl with
      | none =>
        rw [hv] at hf
        intro _
        rw [hp]; exact hf
      | some vs =>
        rw [hv] at hf
        dsimp only [Option.map_some] at hf ⊢
        rw [toldP_snoc, ← h.told]
        by_cases hd2 : (st.told ++ vs).Nodup
        · rw [if_pos hd2] at hf ⊢
          obtain ⟨f1, f2, f3, f4⟩ := hf
          rw [hp]
          refine ⟨f1, ⟨h.cl, ?_, ?_, ?_, h.used⟩⟩
          · rw [toldP_snoc, ← h.told]; exact f2
          · rw [kindsP_snoc, ← h.kinds]; exact f3
          · intro v; rw [toldP_snoc, ← h.told]; exact f4 v
        · rw [if_neg hd2] at hf ⊢
          rw [hp]; exact hf
    · rw [if_neg hc]
      intro hcl
      by_cases h99 : hd = [99]
      · subst h99
        rw [rowStep_c st row tl hw]
        unfold clRow at hcl
        rw [hw] at hcl
        dsimp only at hcl
        cases hl : (litsTo tl).2 with
        | false => rfl
        | true => rw [if_pos ⟨rfl, hl⟩] at hcl; cases hcl
      · exact rowStep_n st row hd tl hw h99 (fun hh => hc ⟨hh.1, hh.2.2⟩)
/-- A line of a clause. -/
theorem cl_step {st : RS} {ps : List (Bool × List Nat)} {cs : List (Nat × Nat)} (h : StIs st ps cs) (row : List UInt8) (c : Nat × Nat) (hc : clRow row = some c) : (rowStep st row).2 = true ∧ StIs (rowStep st row).1 ps (cs ++ [c]) := by
  unfold clRow at hc
  cases hw : cutAt 32 row with
  | nil => rw [hw] at hc; cases hc
  | cons hd tl =>
    rw [hw] at hc
    dsimp only at hc
    split at hc
    · next hh =>
      obtain ⟨rfl, hl⟩ := hh
      have hc' : (litsTo tl).1 = c := Option.some.inj hc
      rw [rowStep_c st row tl hw, hl, hc']
      refine ⟨rfl, ⟨by rw [h.cl], h.told, h.kinds, h.seen, ?_⟩⟩
      intro v
      show (st.used ||| c.1 ||| c.2).testBit v = _
      rw [List.any_append, Nat.testBit_or, Nat.testBit_or, h.used]
      simp [Nat.testBit_or, Bool.or_assoc]
    · cases hc
theorem cl_none {st : RS} (hcl : st.cl ≠ []) (row : List UInt8) (hc : clRow row = none) : (rowStep st row).2 = false := by
  unfold clRow at hc
  cases hw : cutAt 32 row with
  | nil => unfold rowStep; rw [hw]
  | cons hd tl =>
    rw [hw] at hc
    dsimp only at hc
    by_cases h99 : hd = [99]
    · subst h99
      rw [rowStep_c st row tl hw]
      cases hl : (litsTo tl).2 with
      | false => rfl
      | true => rw [if_pos ⟨rfl, hl⟩] at hc; cases hc
    · exact rowStep_n st row hd tl hw h99 (fun hh => hcl hh.2.1)

/-- Clauses alone. -/
theorem read_cls (rows : List (List UInt8)) : ∀ (st : RS) (ps : List (Bool × List Nat)) (cs : List (Nat × Nat)) (i : Nat), StIs st ps cs → cs ≠ [] →
    match cls rows with
    | some ds => ∃ st', readRows st i rows = .inl st' ∧ StIs st' ps (cs ++ ds)
    | none => ∃ j, readRows st i rows = .inr j := by
  induction rows with
  | nil => intro st ps cs i h _; exact ⟨st, rfl, by simpa using h⟩
  | cons r rows ih =>
    intro st ps cs i h hne
    rw [cls, readRows]
    cases hc : clRow r with
    | none => rw [if_neg (by rw [cl_none (by rw [h.cl]; exact hne) r hc]; decide)]; exact ⟨_, rfl⟩
    | some c =>
      obtain ⟨h1, h2⟩ := cl_step h r c hc
      rw [if_pos h1]
      have hih := ih _ ps (cs ++ [c]) (i + 1) h2 (by simp)
      cases hd : cls rows with
      | none => rw [hd] at hih; exact hih
      | some ds =>
        rw [hd] at hih
        obtain ⟨st', e1, e2⟩ := hih
        exact ⟨st', e1, by simpa using e2⟩
/-- What a list of lines says: lines of the prefix, then of clauses. -/
def norm : List (Bool × List Nat) → List (List UInt8) → Option (List (Bool × List Nat) × List (Nat × Nat))
  | ps, [] => some (ps, [])
  | ps, r :: rs => match prefRow r with
    | some x => if (toldP (ps ++ [x])).Nodup then norm (ps ++ [x]) rs else none
    | none => (cls (r :: rs)).map (fun cs => (ps, cs))
theorem read_norm (rows : List (List UInt8)) : ∀ (st : RS) (ps : List (Bool × List Nat)) (i : Nat), StIs st ps [] → (toldP ps).Nodup →
    match norm ps rows with
    | some (qs, cs) => ∃ st', readRows st i rows = .inl st' ∧ StIs st' qs cs ∧ (toldP qs).Nodup
    | none => ∃ j, readRows st i rows = .inr j := by
  induction rows with
  | nil => intro st ps i h hn; exact ⟨st, rfl, h, hn⟩
  | cons r rows ih =>
    intro st ps i h hn
    have hp := pref_step h hn r
    rw [norm]
    cases hr : prefRow r with
    | some x =>
      rw [hr] at hp
      dsimp only at hp ⊢
      by_cases hd : (toldP (ps ++ [x])).Nodup
      · rw [if_pos hd] at hp ⊢
        rw [readRows, if_pos hp.1]
        exact ih _ _ _ hp.2 hd
      · rw [if_neg hd] at hp ⊢
        rw [readRows, if_neg (by rw [hp]; decide)]
        exact ⟨_, rfl⟩
    | none =>
      rw [hr] at hp
      dsimp only at hp ⊢
      cases hc : clRow r with
      | none =>
        have hcl : cls (r :: rows) = none := by rw [cls, hc]
        rw [hcl, readRows, if_neg (by rw [hp hc]; decide)]
        exact ⟨_, rfl⟩
      | some c =>
        obtain ⟨h1, h2⟩ := cl_step h r c hc
        have hih := read_cls rows _ ps [c] (i + 1) h2 (by simp)
        rw [cls, hc]
        cases hd : cls rows with
        | none =>
          rw [hd] at hih
          rw [readRows, if_pos h1]
          exact hih
        | some ds =>
          rw [hd] at hih
          obtain ⟨st', e1, e2⟩ := hih
          rw [readRows, if_pos h1]
          exact ⟨st', e1, by simpa using e2, hn⟩
theorem st0_is : StIs rs0 [] [] := ⟨rfl, rfl, rfl, fun v => by simp [rs0, toldP], fun v => by simp [rs0]⟩
/-- A TEXT IS A FORMULA, BY ITS LINES. -/
theorem readSpec_norm (l : List UInt8) : match readSpec l with
    | .inl _ => 2000 < l.length ∨ (cutAt 10 l).getLast? ≠ some [] ∨ norm [] (cutAt 10 l).dropLast = none ∨ ∃ qs cs, norm [] (cutAt 10 l).dropLast = some (qs, cs) ∧ 24 < cs.length
    | .inr F => l.length ≤ 2000 ∧ (cutAt 10 l).getLast? = some [] ∧ ∃ qs cs st, norm [] (cutAt 10 l).dropLast = some (qs, cs) ∧ cs.length ≤ 24 ∧ (toldP qs).Nodup ∧ StIs st qs cs ∧ F = finish st := by
  unfold readSpec
  by_cases hl : 2000 < l.length
  · rw [if_pos hl]; exact Or.inl hl
  · rw [if_neg hl]
    have hr := read_norm (cutAt 10 l).dropLast rs0 [] 0 st0_is (by simp [toldP])
    cases hn : norm [] (cutAt 10 l).dropLast with
    | none =>
      rw [hn] at hr
      obtain ⟨j, hj⟩ := hr
      rw [hj]
      exact Or.inr (Or.inr (Or.inl rfl))
    | some x =>
      obtain ⟨qs, cs⟩ := x
      rw [hn] at hr
      obtain ⟨st, h1, h2, h3⟩ := hr
      rw [h1]
      dsimp only
      by_cases hg : (cutAt 10 l).getLast? ≠ some []
      · rw [if_pos hg]; exact Or.inr (Or.inl hg)
      · rw [if_neg hg, h2.cl]
        by_cases h24 : 24 < cs.length
        · rw [if_pos h24]; exact Or.inr (Or.inr (Or.inr ⟨qs, cs, rfl, h24⟩))
        · rw [if_neg h24]
          exact ⟨by omega, Classical.byContradiction hg, qs, cs, st, rfl, by omega, h3, h2, rfl⟩
end Go.Proofs.YtgipjjhkhfihpabGreatDoor

namespace Go.Proofs.YtgipjjhkhfihpabGreatDoor

/-! ### How truth turns with a formula (ahead of the statements without the document's answer) -/
section
variable {sat sat' : Nat → Bool} {all all' : Nat}

/-- A variable turned. -/
def Flip (x t t' : Nat) : Prop := t'.testBit x = !t.testBit x ∧ ∀ u, u ≠ x → t'.testBit u = t.testBit u
theorem Flip.more {x t t' u : Nat} (h : Flip x t t') (hu : u ≠ x) : Flip x (t ||| 2 ^ u) (t' ||| 2 ^ u) := by
  constructor
  · rw [Nat.testBit_or, Nat.testBit_or, h.1, Nat.testBit_two_pow]; simp [hu]
  · intro v hv; rw [Nat.testBit_or, Nat.testBit_or, h.2 v hv]
end
end Go.Proofs.YtgipjjhkhfihpabGreatDoor

namespace Go.Proofs.YtgipjjhkhfihpabGreatDoor
open Go.RowKit

/-! ### The formula that lines say, and its truth -/
def allN (qs : List (Bool × List Nat)) : Nat := ((toldP qs).zip (kindsP qs)).foldl (fun a x => if x.2 then a ||| 2 ^ x.1 else a) 0
def freeN (qs : List (Bool × List Nat)) (cs : List (Nat × Nat)) : List Nat := ((List.range 8).map (· + 1)).filter (fun v => cs.any (fun c => (c.1 ||| c.2).testBit v) && !decide (v ∈ toldP qs))
def formN (qs : List (Bool × List Nat)) (cs : List (Nat × Nat)) : Form :=
  { order := freeN qs cs ++ toldP qs, all := allN qs, ends := endsTo (freeN qs cs ++ toldP qs) (allN qs) (freeN qs cs ++ toldP qs).length, cl := cs }
theorem kinds_len (qs : List (Bool × List Nat)) : (kindsP qs).length = (toldP qs).length := by
  induction qs with
  | nil => rfl
  | cons x qs ih => simp [toldP, kindsP] at *
theorem finish_norm {st : RS} {qs : List (Bool × List Nat)} {cs : List (Nat × Nat)} (h : StIs st qs cs) : finish st = formN qs cs := by
  have e1 : freeTo st 8 = freeN qs cs := by
    unfold freeTo freeN
    congr 1
    funext v
    rw [h.used, h.seen]
  have e2 : orderOf st = freeN qs cs ++ toldP qs := by unfold orderOf; rw [e1, h.told]
  have e3 : allTo st st.told.length = allN qs := by
    unfold allTo allN
    rw [h.told, h.kinds, List.take_of_length_le (by rw [List.length_zip, kinds_len]; simp)]
  unfold finish formN
  rw [e2, e3, h.cl]
/-! ### A clause less, a clause more -/
/-! ### A line of the prefix of the other kind -/
theorem all_bits (l : List (Nat × Bool)) : ∀ (a v : Nat), (l.foldl (fun a x => if x.2 then a ||| 2 ^ x.1 else a) a).testBit v = (a.testBit v || l.any (fun x => x.2 && x.1 == v)) := by
  induction l with
  | nil => intro a v; simp
  | cons x l ih =>
    intro a v
    rw [List.foldl_cons, ih, List.any_cons]
    cases x.2 with
    | false => simp
    | true =>
      rw [if_pos rfl, Nat.testBit_or, Nat.testBit_two_pow, Bool.or_assoc]
      congr 1
theorem zip_any (qs : List (Bool × List Nat)) (v : Nat) : ((toldP qs).zip (kindsP qs)).any (fun x => x.2 && x.1 == v) = qs.any (fun x => x.1 && x.2.any (· == v)) := by
  induction qs with
  | nil => rfl
  | cons x qs ih =>
    have e1 : toldP (x :: qs) = x.2 ++ toldP qs := by simp [toldP]
    have e2 : kindsP (x :: qs) = x.2.map (fun _ => x.1) ++ kindsP qs := by simp [kindsP]
    rw [e1, e2, List.zip_append (by simp), List.any_append, ih, List.any_cons]
    congr 1
    obtain ⟨k, l⟩ := x
    dsimp only
    clear e1 e2 ih
    induction l with
    | nil => simp
    | cons u l ihl =>
      simp only [List.map_cons, List.zip_cons_cons, List.any_cons, ihl]
      cases k <;> simp
theorem allN_bit (qs : List (Bool × List Nat)) (v : Nat) : (allN qs).testBit v = qs.any (fun x => x.1 && x.2.any (· == v)) := by
  unfold allN; rw [all_bits, zip_any]; simp
/-! ### Lines change places -/
end Go.Proofs.YtgipjjhkhfihpabGreatDoor

namespace Go.Proofs.YtgipjjhkhfihpabGreatDoor
open Go.RowKit

/-! ### A variable turned -/
structure FlipC (x : Nat) (c c' : Nat × Nat) : Prop where
  p : c'.1.testBit x = c.2.testBit x
  n : c'.2.testBit x = c.1.testBit x
  rp : ∀ u, u ≠ x → c'.1.testBit u = c.1.testBit u
  rn : ∀ u, u ≠ x → c'.2.testBit u = c.2.testBit u
theorem FlipC.symm {x : Nat} {c c' : Nat × Nat} (h : FlipC x c c') : FlipC x c' c := ⟨h.n.symm, h.p.symm, fun u hu => (h.rp u hu).symm, fun u hu => (h.rn u hu).symm⟩
theorem Flip.symm {x t t' : Nat} (h : Flip x t t') : Flip x t' t := ⟨by rw [h.1]; simp, fun u hu => (h.2 u hu).symm⟩
/-! ### Other names -/
/-! ### An innermost variable more -/
end Go.Proofs.YtgipjjhkhfihpabGreatDoor

namespace Go.Proofs.YtgipjjhkhfihpabGreatDoor
open Go.RowKit

/-- No line has a newline; the lines joined are the text, but for what stands behind the last newline. -/
theorem cut_inv (l : List UInt8) : ∀ (st : List (List UInt8) × List UInt8), (∀ r ∈ st.1, (10 : UInt8) ∉ r) → (10 : UInt8) ∉ st.2 → (∀ r ∈ (l.foldl (cutStep 10) st).1, (10 : UInt8) ∉ r) ∧ joinN (l.foldl (cutStep 10) st).1 ++ (l.foldl (cutStep 10) st).2 = joinN st.1 ++ st.2 ++ l := by
  induction l with
  | nil => intro st h1 _; exact ⟨h1, by simp⟩
  | cons b l ih =>
    intro st h1 h2
    rw [List.foldl_cons]
    by_cases hb : b = 10
    · have e : cutStep 10 st b = (st.1 ++ [st.2], []) := by unfold cutStep; rw [if_pos hb]
      rw [e]
      have := ih (st.1 ++ [st.2], []) (by
        intro r hr
        rcases List.mem_append.1 hr with hr | hr
        · exact h1 r hr
        · simp at hr; subst hr; exact h2) (by simp)
      refine ⟨this.1, ?_⟩
      rw [this.2, hb]
      simp [joinN]
    · have e : cutStep 10 st b = (st.1, st.2 ++ [b]) := by unfold cutStep; rw [if_neg hb]
      rw [e]
      have := ih (st.1, st.2 ++ [b]) h1 (by
        intro hh
        rcases List.mem_append.1 hh with hh | hh
        · exact h2 hh
        · simp at hh; exact hb hh.symm)
      refine ⟨this.1, ?_⟩
      rw [this.2]
      simp
theorem lines_no_nl (l : List UInt8) : ∀ r ∈ (cutTo 10 l).1, (10 : UInt8) ∉ r := (cut_inv l ([], []) (by simp) (by simp)).1
theorem lines_join (l : List UInt8) (h : (cutTo 10 l).2 = []) : joinN (cutTo 10 l).1 = l := by
  have := (cut_inv l ([], []) (by simp) (by simp)).2
  have e : joinN (cutTo 10 l).1 ++ (cutTo 10 l).2 = l := by
    unfold cutTo
    rw [this]; simp [joinN]
  rw [h, List.append_nil] at e
  exact e

/-! ### Prefix and clauses -/
theorem norm_split (rows : List (List UInt8)) : ∀ (ps : List (Bool × List Nat)) (qs : List (Bool × List Nat)) (cs : List (Nat × Nat)), norm ps rows = some (qs, cs) → ∃ P C qs', rows = P ++ C ∧ prefs P = some qs' ∧ qs = ps ++ qs' ∧ cls C = some cs ∧ ((toldP ps).Nodup → (toldP qs).Nodup) := by
  induction rows with
  | nil =>
    intro ps qs cs h
    simp [norm] at h
    obtain ⟨rfl, rfl⟩ := h
    exact ⟨[], [], [], rfl, rfl, by simp, rfl, fun h => h⟩
  | cons r rows ih =>
    intro ps qs cs h
    rw [norm] at h
    cases hr : prefRow r with
    | some x =>
      rw [hr] at h
      dsimp only at h
      by_cases hd : (toldP (ps ++ [x])).Nodup
      · rw [if_pos hd] at h
        obtain ⟨P, C, qs', h1, h2, h3, h4, h5⟩ := ih _ _ _ h
        refine ⟨r :: P, C, x :: qs', by rw [h1]; rfl, by rw [prefs, hr, h2], by rw [h3]; simp, h4, fun _ => h5 hd⟩
      · rw [if_neg hd] at h; cases h
    | none =>
      rw [hr] at h
      dsimp only at h
      cases hc : cls (r :: rows) with
      | none => rw [hc] at h; cases h
      | some ds =>
        rw [hc] at h
        have h' : (ps, ds) = (qs, cs) := Option.some.inj h
        injection h' with e1 e2
        subst e1 e2
        exact ⟨[], r :: rows, [], rfl, rfl, by simp, hc, fun h => h⟩
/-- A TEXT THAT IS A FORMULA: its prefix and its clauses. -/
structure TextIs (l : List UInt8) (P C : List (List UInt8)) (qs : List (Bool × List Nat)) (cs : List (Nat × Nat)) : Prop where
  len : l.length ≤ 2000
  text : l = joinN (P ++ C)
  nl : ∀ r ∈ P ++ C, (10 : UInt8) ∉ r
  prefs : prefs P = some qs
  cls : cls C = some cs
  c24 : cs.length ≤ 24
  nodup : (toldP qs).Nodup
theorem text_of (l : List UInt8) (F : Form) (h : readSpec l = .inr F) : ∃ P C qs cs, TextIs l P C qs cs ∧ F = formN qs cs := by
  have hr := readSpec_norm l
  rw [h] at hr
  obtain ⟨h1, h2, qs, cs, st, h3, h4, h5, h6, h7⟩ := hr
  have e1 : (cutAt 10 l).dropLast = (cutTo 10 l).1 := by unfold cutAt; simp
  have e2 : (cutTo 10 l).2 = [] := by
    unfold cutAt at h2
    simpa using h2
  rw [e1] at h3
  obtain ⟨P, C, qs', g1, g2, g3, g4, _⟩ := norm_split _ _ _ _ h3
  have g3' : qs = qs' := by simpa using g3
  subst g3'
  refine ⟨P, C, qs, cs, ⟨h1, ?_, ?_, g2, g4, h4, h5⟩, by rw [h7]; exact finish_norm h6⟩
  · rw [← g1]; exact (lines_join l e2).symm
  · rw [← g1]; exact lines_no_nl l
/-- A row's first byte. -/
theorem cut_first (c : UInt8) (r : List UInt8) : ∀ (a : List UInt8) (x : UInt8) (t : List (List UInt8)), x ≠ c → cutAt c r = (x :: a) :: t → r.head? = some x := by
  intro a x t hx h
  cases r with
  | nil => simp [cutAt, cutTo] at h
  | cons b r =>
    by_cases hb : b = c
    · exfalso
      have hp : [[]] <+: (cutTo c (b :: r)).1 := by
        have h1 : cutTo c (b :: r) = r.foldl (cutStep c) (cutStep c ([], []) b) := rfl
        have h2 : cutStep c ([], []) b = ([[]], []) := by unfold cutStep; rw [if_pos hb]; rfl
        rw [h1, h2]
        suffices hs : ∀ (l : List UInt8) (st : List (List UInt8) × List UInt8), st.1 <+: (l.foldl (cutStep c) st).1 from hs r ([[]], [])
        intro l
        induction l with
        | nil => intro st; exact List.prefix_refl _
        | cons y l ih =>
          intro st
          refine List.IsPrefix.trans ?_ (ih (cutStep c st y))
          unfold cutStep; split
          · exact List.prefix_append _ _
          · exact List.prefix_refl _
      obtain ⟨rest, hrest⟩ := hp
      unfold cutAt at h
      rw [← hrest] at h
      simp at h
    · have h1 : cutTo c (b :: r) = r.foldl (cutStep c) ([], [b]) := by
        show r.foldl (cutStep c) (cutStep c ([], []) b) = _
        have : cutStep c ([], []) b = ([], [b]) := by unfold cutStep; rw [if_neg hb]; rfl
        rw [this]
      have h2 : ∀ (l : List UInt8) (st : List (List UInt8) × List UInt8) (y : UInt8) (z : List UInt8), (st.1 = [] ∧ st.2 = y :: z) ∨ (∃ z' t', st.1 = (y :: z') :: t') → ∃ z' t', (l.foldl (cutStep c) st).1 ++ [(l.foldl (cutStep c) st).2] = (y :: z') :: t' := by
        intro l
        induction l with
        | nil =>
          intro st y z h
          rcases h with ⟨h1, h2⟩ | ⟨z', t', h1⟩
          · exact ⟨z, [], by simp [h1, h2]⟩
          · exact ⟨z', t' ++ [st.2], by simp [h1]⟩
        | cons d l ih =>
          intro st y z h
          rw [List.foldl_cons]
          by_cases hd : d = c
          · have e : cutStep c st d = (st.1 ++ [st.2], []) := by unfold cutStep; rw [if_pos hd]
            rw [e]
            apply ih (z := z)
            right
            rcases h with ⟨h1, h2⟩ | ⟨z', t', h1⟩
            · exact ⟨z, [], by simp [h1, h2]⟩
            · exact ⟨z', t' ++ [st.2], by simp [h1]⟩
          · have e : cutStep c st d = (st.1, st.2 ++ [d]) := by unfold cutStep; rw [if_neg hd]
            rw [e]
            rcases h with ⟨h1, h2⟩ | ⟨z', t', h1⟩
            · exact ih (st.1, st.2 ++ [d]) y (z ++ [d]) (Or.inl ⟨h1, by simp [h2]⟩)
            · exact ih (st.1, st.2 ++ [d]) y z (Or.inr ⟨z', t', h1⟩)
      obtain ⟨z', t', h3⟩ := h2 r ([], [b]) b [] (Or.inl ⟨rfl, rfl⟩)
      unfold cutAt at h
      rw [h1, h3] at h
      injection h with h4 _
      injection h4 with h5 _
      subst h5
      rfl
theorem pref_first (r : List UInt8) (x : Bool × List Nat) (h : prefRow r = some x) : r.head? = some (if x.1 then 97 else 101) := by
  unfold prefRow at h
  cases hw : cutAt 32 r with
  | nil => rw [hw] at h; cases h
  | cons hd tl =>
    rw [hw] at h
    dsimp only at h
    split at h
    · next hh =>
      cases hv : varsOf tl with
      | none => rw [hv] at h; cases h
      | some vs =>
        rw [hv] at h
        have h' : (hd == [97], vs) = x := Option.some.inj h
        subst h'
        rcases hh.1 with e | e
        · subst e; exact cut_first 32 r [] 101 tl (by decide) hw
        · subst e; exact cut_first 32 r [] 97 tl (by decide) hw
    · cases h
theorem cl_first (r : List UInt8) (c : Nat × Nat) (h : clRow r = some c) : r.head? = some 99 := by
  unfold clRow at h
  cases hw : cutAt 32 r with
  | nil => rw [hw] at h; cases h
  | cons hd tl =>
    rw [hw] at h
    dsimp only at h
    split at h
    · next hh =>
      obtain ⟨rfl, _⟩ := hh
      exact cut_first 32 r [] 99 tl (by decide) hw
    · cases h
end Go.Proofs.YtgipjjhkhfihpabGreatDoor

namespace Go.Proofs.YtgipjjhkhfihpabGreatDoor
open Go.RowKit

/-! ### Texts that the statements without the document's answer make -/
theorem cut_shift (c : UInt8) (l : List UInt8) : ∀ (pre : List (List UInt8)) (cur : List UInt8), (l.foldl (cutStep c) (pre, cur)).1 ++ [(l.foldl (cutStep c) (pre, cur)).2] = pre ++ (match cutAt c l with | [] => [] | hd :: tl => (cur ++ hd) :: tl) := by
  induction l with
  | nil => intro pre cur; simp [cutAt, cutTo]
  | cons b l ih =>
    intro pre cur
    rw [List.foldl_cons]
    have e0 : cutAt c (b :: l) = (l.foldl (cutStep c) (cutStep c ([], []) b)).1 ++ [(l.foldl (cutStep c) (cutStep c ([], []) b)).2] := rfl
    by_cases hb : b = c
    · have e : ∀ st : List (List UInt8) × List UInt8, cutStep c st b = (st.1 ++ [st.2], []) := fun st => by unfold cutStep; rw [if_pos hb]
      rw [e, ih]
      rw [e0, e, ih]
      cases h : cutAt c l with
      | nil => simp [cutAt] at h
      | cons hd tl => simp
    · have e : ∀ st : List (List UInt8) × List UInt8, cutStep c st b = (st.1, st.2 ++ [b]) := fun st => by unfold cutStep; rw [if_neg hb]
      rw [e, ih]
      rw [e0, e, ih]
      cases h : cutAt c l with
      | nil => simp [cutAt] at h
      | cons hd tl => simp
theorem cutAt_cons (c b : UInt8) (r : List UInt8) (hb : b ≠ c) (hd : List UInt8) (tl : List (List UInt8)) (h : cutAt c r = hd :: tl) : cutAt c (b :: r) = (b :: hd) :: tl := by
  have e0 : cutAt c (b :: r) = (r.foldl (cutStep c) (cutStep c ([], []) b)).1 ++ [(r.foldl (cutStep c) (cutStep c ([], []) b)).2] := rfl
  have e : cutStep c ([], []) b = ([], [b]) := by unfold cutStep; rw [if_neg hb]; rfl
  rw [e0, e, cut_shift, h]; rfl
theorem cutAt_ne (c : UInt8) (r : List UInt8) : ∃ hd tl, cutAt c r = hd :: tl := by
  cases h : cutAt c r with
  | nil => simp [cutAt] at h
  | cons hd tl => exact ⟨hd, tl, rfl⟩
theorem prefs_split (A B : List (List UInt8)) (qs : List (Bool × List Nat)) (h : prefs (A ++ B) = some qs) : ∃ qa qb, prefs A = some qa ∧ prefs B = some qb ∧ qs = qa ++ qb := by
  induction A generalizing qs with
  | nil => exact ⟨[], qs, rfl, h, rfl⟩
  | cons r A ih =>
    rw [List.cons_append, prefs] at h
    cases hr : prefRow r with
    | none => rw [hr] at h; cases h
    | some x =>
      cases hA : prefs (A ++ B) with
      | none => rw [hr, hA] at h; cases h
      | some ys =>
        rw [hr, hA] at h
        have h' : x :: ys = qs := Option.some.inj h
        subst h'
        obtain ⟨qa, qb, h1, h2, h3⟩ := ih ys hA
        exact ⟨x :: qa, qb, by rw [prefs, hr, h1], h2, by rw [h3]; rfl⟩
theorem prefs_one (r : List UInt8) (qs : List (Bool × List Nat)) (h : prefs [r] = some qs) : ∃ x, prefRow r = some x ∧ qs = [x] := by
  rw [prefs] at h
  cases hr : prefRow r with
  | none => rw [hr] at h; cases h
  | some x => rw [hr] at h; exact ⟨x, rfl, (Option.some.inj h).symm⟩
theorem cls_split (A B : List (List UInt8)) (cs : List (Nat × Nat)) (h : cls (A ++ B) = some cs) : ∃ ca cb, cls A = some ca ∧ cls B = some cb ∧ cs = ca ++ cb := by
  induction A generalizing cs with
  | nil => exact ⟨[], cs, rfl, h, rfl⟩
  | cons r A ih =>
    rw [List.cons_append, cls] at h
    cases hr : clRow r with
    | none => rw [hr] at h; cases h
    | some x =>
      cases hA : cls (A ++ B) with
      | none => rw [hr, hA] at h; cases h
      | some ys =>
        rw [hr, hA] at h
        have h' : x :: ys = cs := Option.some.inj h
        subst h'
        obtain ⟨ca, cb, h1, h2, h3⟩ := ih ys hA
        exact ⟨x :: ca, cb, by rw [cls, hr, h1], h2, by rw [h3]; rfl⟩
end Go.Proofs.YtgipjjhkhfihpabGreatDoor

namespace Go.Proofs.YtgipjjhkhfihpabGreatDoor
open Go.RowKit

/-! ### duelkeep: lines -/
def klinesOf (l : List UInt8) : List (List UInt8) := (cutTo 10 l).1
theorem infoStr : (Tryz.prog.info? 9).map (fun i => (i.zero, i.size, i.bytes)) = some (some (.string ⟨#[]⟩), 1, 16) := by kernel_rfl
theorem cutTo_nl (l : List UInt8) (k : Nat) (h : k < l.length) (rows : List (List UInt8)) (cur : List UInt8) (hc : cutTo 10 (l.take k) = (rows, cur)) : cutTo 10 (l.take (k + 1)) = if l[k] = 10 then (rows ++ [cur], []) else (rows, cur ++ [l[k]]) := by
  rw [cutTo_take 10 l k h, hc]
  unfold cutStep
  rfl
theorem cur_next (l : List UInt8) (k fr : Nat) (h : k < l.length) (hf : fr ≤ k) (cur : List UInt8) (hc : (l.drop fr).take (k - fr) = cur) : (l.drop fr).take (k + 1 - fr) = cur ++ [l[k]] := by
  have h1 : k - fr < (l.drop fr).length := by rw [List.length_drop]; omega
  rw [show k + 1 - fr = (k - fr) + 1 from by omega, List.take_succ_eq_append_getElem h1, hc]
  congr 2
  rw [List.getElem_drop]
  congr 1
  omega
attribute [local go_sem] ba_get
set_option maxRecDepth 100000 in
set_option maxHeartbeats 1600000 in
theorem klines_any (l : List UInt8) (w : World) (hl : l.length ≤ 1048576) :
    Calls Tryz.prog 41 #[.string ⟨l.toArray⟩] w fun e w' => ∃ v, e = .returned v ∧ w'.ownsRow w.heap.size 9 1 v (klinesOf l).length ((klinesOf l).map S) ∧ Below w.heap.size w w' := by
  obtain ⟨i0, hi, hz0, hz1, hz2⟩ := info_parts infoStr
  go_enter Tryz.func41, Tryz.ntmps41
  go_wp2_with fail
  go_loopg [3, 4, 5] (l.length) (fun m vo vf vi wx => ∃ (k fr : Nat) (rows : List (List UInt8)) (cur : List UInt8), vi = .int .i64 (k : Int) ∧ vf = .int .i64 (fr : Int) ∧ k + m = l.length ∧ cutTo 10 (l.take k) = (rows, cur) ∧ fr ≤ k ∧ (l.drop fr).take (k - fr) = cur ∧ rows.length ≤ k ∧ wx.ownsRow w.heap.size 9 1 vo rows.length (rows.map S) ∧ Below w.heap.size w wx)
  case atStart => exact ⟨0, 0, [], [], rfl, rfl, by omega, rfl, by omega, by simp, by simp, World.ownsRow_nil _ _ _ _, Below.refl _ _⟩
  case round =>
    obtain ⟨k, fr, rows, cur, rfl, rfl, hkm, hct, hfk, hcu, hrl, hown, hb⟩ := hrel
    have HCT := hide hct
    have HCU := hide hcu
    have hbs := hb.size
    obtain ⟨aO, cO, rfl⟩ := own_form hown
    by_cases hlt : k < l.length
    · have hd3 : decide ((k : Int) < (l.length : Int)) = true := decide_eq_true (by omega)
      have hd4 : decide (k < l.length) = true := decide_eq_true hlt
      have HN := hide (cutTo_nl l k hlt rows cur hct)
      have HC := hide (cur_next l k fr hlt hfk cur hcu)
      clear hct hcu
      by_cases h10 : l[k] = 10
      · have HN2 : Hid (cutTo 10 (l.take (k + 1)) = (rows ++ [cur], [])) := hide (by rw [unhide HN, if_pos h10])
        have hex : ByteArray.extract ⟨l.toArray⟩ fr k = ⟨cur.toArray⟩ := by rw [ba_extract, unhide HCU]
        have HE := hide hex
        clear hex
        clear HN HC
        go_wp2_with (at_builtin; refine wpList_append_new rfl _ _ 72 rfl w.heap.size i0 (.string ⟨#[]⟩) 1 16 Tryz.underlying72 hi hz0 hz1 hz2 rfl (by decide) _ _ _ hown rfl rfl rfl (by simp [Value.oneCell']) (by unfold maxLen; omega) (by omega) hbs ?_; intro v4 w4 hown4 hgrow4 hnn4)
        have hB4 : Below w.heap.size w w4 := below_grown hb hgrow4 hown (Nat.le_refl _) hbs
        rw [unhide HE] at hown4
        obtain ⟨a4, c4, rfl⟩ := own_form hown4
        go_wp2_with fail
        go_roundg (gk - 1)
        case measure => omega
        case rel => exact ⟨k + 1, k + 1, rows ++ [cur], [], by go_num, by go_num, by omega, unhide HN2, by omega, by simp, by simp; omega, by simpa using hown4, hB4⟩
      · have HN2 : Hid (cutTo 10 (l.take (k + 1)) = (rows, cur ++ [l[k]])) := hide (by rw [unhide HN, if_neg h10])
        have hne : ((l[k].toNat : Int) == 10) = false := by
          rw [beq_eq_false_iff_ne]
          intro e
          apply h10
          rw [← UInt8.toNat_inj]
          have : (10 : UInt8).toNat = 10 := rfl
          omega
        have hne2 : (l[k].toNat == 10) = false := by rw [beq_eq_false_iff_ne]; intro e; rw [beq_eq_false_iff_ne] at hne; apply hne; omega
        clear HN h10
        go_wp2_with fail
        go_roundg (gk - 1)
        case measure => omega
        case rel => exact ⟨k + 1, fr, rows, cur ++ [l[k]], by go_num, rfl, by omega, unhide HN2, by omega, unhide HC, by omega, hown, hb⟩
    · have hd3 : decide ((k : Int) < (l.length : Int)) = false := decide_eq_false (by omega)
      have hd4 : decide (k < l.length) = false := decide_eq_false hlt
      have HF : Hid (klinesOf l = rows) := hide (by unfold klinesOf; have := unhide HCT; rw [List.take_of_length_le (by omega)] at this; rw [this])
      clear hct hcu
      go_wp2_with fail
      go_ret
      exact ⟨_, rfl, by rw [unhide HF]; exact hown, hb⟩
end Go.Proofs.YtgipjjhkhfihpabGreatDoor

namespace Go.Proofs.YtgipjjhkhfihpabGreatDoor
open Go.RowKit

/-! ### duelkeep: joined, starts, clauses -/
theorem mapS_at (rows : List (List UInt8)) (k : Nat) (h : k < rows.length) : (rows.map S)[k]? = some (S rows[k]) := by simp [h]
attribute [local go_sem] ba_get
set_option maxRecDepth 100000 in
set_option maxHeartbeats 400000 in
theorem kstarts_any (l : List UInt8) (c : UInt8) (w : World) (hl : l.length ≤ 1048576) :
    Calls Tryz.prog 42 #[.string ⟨l.toArray⟩, .int .u8 c.toNat] w fun e w' => e = .returned (.bool (l.head? == some c)) ∧ Below w.heap.size w w' := by
  cases l with
  | nil =>
    go_enter Tryz.func42, Tryz.ntmps42
    go_wp2_with fail
    go_ret
    exact ⟨rfl, Below.refl _ _⟩
  | cons x l =>
    have HB := hide (u8_beq (a := x) (b := c))
    go_enter Tryz.func42, Tryz.ntmps42
    go_wp2_with fail
    go_ret
    exact ⟨by rw [show ((x :: l).head? == some c) = (x == c) from rfl, ← unhide HB]; rfl, Below.refl _ _⟩
end Go.Proofs.YtgipjjhkhfihpabGreatDoor

namespace Go.Proofs.YtgipjjhkhfihpabGreatDoor
open Go.RowKit

/-! ### Texts, their lines and their verdicts -/
theorem cut_more (m : List (List UInt8)) (hm : ∀ r ∈ m, (10 : UInt8) ∉ r) (x : List UInt8) : klinesOf (joinN m ++ x) = m ++ klinesOf x := by
  unfold klinesOf cutTo
  rw [List.foldl_append, cut_join m hm []]
  have key : ∀ (x : List UInt8) (st : List (List UInt8)) (cur : List UInt8), (x.foldl (cutStep 10) (st, cur)).1 = st ++ (x.foldl (cutStep 10) ([], cur)).1 := by
    intro x
    induction x with
    | nil => intro st cur; simp
    | cons b x ih =>
      intro st cur
      rw [List.foldl_cons, List.foldl_cons]
      by_cases hb : b = 10
      · have e : ∀ s : List (List UInt8), cutStep 10 (s, cur) b = (s ++ [cur], []) := fun s => by unfold cutStep; exact if_pos hb
        rw [e, e, ih (st ++ [cur]) [], ih ([] ++ [cur]) []]
        simp
      · have e : ∀ s : List (List UInt8), cutStep 10 (s, cur) b = (s, cur ++ [b]) := fun s => by unfold cutStep; exact if_neg hb
        rw [e, e, ih st]
  rw [key]
  simp
theorem lines_text {l : List UInt8} {P C : List (List UInt8)} {qs : List (Bool × List Nat)} {cs : List (Nat × Nat)} (h : TextIs l P C qs cs) : klinesOf l = P ++ C := by
  have := cut_more (P ++ C) h.nl []
  rw [List.append_nil, ← h.text] at this
  rw [this]
  simp [klinesOf, cutTo]
theorem prefs_rows {P : List (List UInt8)} : ∀ {qs : List (Bool × List Nat)}, prefs P = some qs → ∀ r ∈ P, ∃ x, prefRow r = some x := by
  induction P with
  | nil => intro qs _ r hr; cases hr
  | cons p P ih =>
    intro qs h r hr
    obtain ⟨qa, qb, h1, h2, _⟩ := prefs_split [p] P qs h
    rcases List.mem_cons.1 hr with rfl | hr
    · obtain ⟨x, hx⟩ : ∃ x, prefRow r = some x := by
        cases hp : prefRow r with
        | some x => exact ⟨x, rfl⟩
        | none => simp [prefs, hp] at h1
      exact ⟨x, hx⟩
    · exact ih h2 r hr
theorem cls_rows {C : List (List UInt8)} : ∀ {cs : List (Nat × Nat)}, cls C = some cs → ∀ r ∈ C, ∃ x, clRow r = some x := by
  induction C with
  | nil => intro cs _ r hr; cases hr
  | cons p C ih =>
    intro cs h r hr
    obtain ⟨ca, cb, h1, h2, _⟩ := cls_split [p] C cs h
    rcases List.mem_cons.1 hr with rfl | hr
    · obtain ⟨x, hx⟩ : ∃ x, clRow r = some x := by
        cases hp : clRow r with
        | some x => exact ⟨x, rfl⟩
        | none => simp [cls, hp] at h1
      exact ⟨x, hx⟩
    · exact ih h2 r hr
theorem pref_rows_first {l : List UInt8} {P C : List (List UInt8)} {qs : List (Bool × List Nat)} {cs : List (Nat × Nat)} (h : TextIs l P C qs cs) : (∀ r ∈ P, ∃ x xs, r = x :: xs ∧ x ≠ 99) ∧ (∀ r ∈ C, ∃ xs, r = 99 :: xs) := by
  constructor
  · intro r hr
    obtain ⟨x, hx⟩ := prefs_rows h.prefs r hr
    have := pref_first r x hx
    cases r with
    | nil => cases this
    | cons y ys =>
      refine ⟨y, ys, rfl, fun e => ?_⟩
      subst e
      injection this with this
      revert this
      split <;> decide
  · intro r hr
    obtain ⟨x, hx⟩ := cls_rows h.cls r hr
    have := cl_first r x hx
    cases r with
    | nil => cases this
    | cons y ys => injection this with this; subst this; exact ⟨ys, rfl⟩
end Go.Proofs.YtgipjjhkhfihpabGreatDoor

namespace Go.Proofs.YtgipjjhkhfihpabGreatDoor
open Go.RowKit

/-! ### Fewer: a text with a line less, with lines more -/
end Go.Proofs.YtgipjjhkhfihpabGreatDoor

namespace Go.Proofs.YtgipjjhkhfihpabGreatDoor
open Go.RowKit

/-! ### Lines cut at blanks and joined again -/
theorem cutAt_same (c : UInt8) (r : List UInt8) : cutAt c (c :: r) = [] :: cutAt c r := by
  have e0 : cutAt c (c :: r) = (r.foldl (cutStep c) (cutStep c ([], []) c)).1 ++ [(r.foldl (cutStep c) (cutStep c ([], []) c)).2] := rfl
  have e : cutStep c ([], []) c = ([[]], []) := by unfold cutStep; rw [if_pos rfl]; rfl
  rw [e0, e, cut_shift]
  obtain ⟨hd, tl, h⟩ := cutAt_ne c r
  rw [h]; rfl
def joinB (tl : List (List UInt8)) : List UInt8 := tl.flatMap (fun w => 32 :: w)
theorem joinB_cons (w : List UInt8) (tl : List (List UInt8)) : joinB (w :: tl) = 32 :: (w ++ joinB tl) := by simp [joinB]
theorem cutAt_back (r : List UInt8) : ∀ hd tl, cutAt 32 r = hd :: tl → r = hd ++ joinB tl ∧ (32 : UInt8) ∉ hd ∧ ∀ w ∈ tl, (32 : UInt8) ∉ w := by
  induction r with
  | nil =>
    intro hd tl h
    have h' : [[]] = hd :: tl := h
    injection h' with a b
    subst a b
    simp [joinB]
  | cons b r ih =>
    intro hd tl h
    obtain ⟨hd', tl', h'⟩ := cutAt_ne 32 r
    obtain ⟨i1, i2, i3⟩ := ih hd' tl' h'
    by_cases hb : b = 32
    · subst hb
      rw [cutAt_same, h'] at h
      injection h with a c
      subst a c
      refine ⟨by rw [joinB_cons, ← i1]; rfl, by simp, ?_⟩
      intro w hw
      rcases List.mem_cons.1 hw with rfl | hw
      · exact i2
      · exact i3 w hw
    · rw [cutAt_cons 32 b r hb hd' tl' h'] at h
      injection h with a c
      subst a c
      exact ⟨by rw [List.cons_append, ← i1], by rw [List.mem_cons, not_or]; exact ⟨Ne.symm hb, i2⟩, i3⟩
/-! ### Literals' words -/
theorem dig_pos {w : List UInt8} (h : 0 < dig w) : ∃ d : UInt8, w = [d] ∧ 49 ≤ d.toNat ∧ d.toNat ≤ 56 ∧ (dig w).toNat = d.toNat - 48 := by
  match w with
  | [] => exact absurd h (by decide)
  | _ :: _ :: _ => exact absurd h (by simp [dig])
  | [c] =>
    simp only [dig] at h ⊢
    split at h
    · next hc => exact ⟨c, rfl, by omega, by omega, by rw [if_pos hc]; omega⟩
    · exact absurd h (by decide)
theorem dig_one (d : UInt8) (h1 : 49 ≤ d.toNat) (h2 : d.toNat ≤ 56) : dig [d] = ((d.toNat - 48 : Nat) : Int) := by
  simp only [dig]
  rw [if_pos (by omega)]
  omega
def LitW (w : List UInt8) : Prop := ∃ d : UInt8, 49 ≤ d.toNat ∧ d.toNat ≤ 56 ∧ (w = [d] ∨ w = [45, d])
theorem litInto_ok {c : Nat × Nat} {w : List UInt8} (h : (litInto c w).2 = true) : LitW w := by
  by_cases hh : w.head? = some 45
  · cases w with
    | nil => cases hh
    | cons b r =>
      have hb : b = 45 := by simpa using hh
      subst hb
      rw [litInto_neg] at h
      obtain ⟨d, rfl, h1, h2, _⟩ := dig_pos (of_decide_eq_true h)
      exact ⟨d, h1, h2, Or.inr rfl⟩
  · rw [litInto_pos c w hh] at h
    obtain ⟨d, rfl, h1, h2, _⟩ := dig_pos (of_decide_eq_true h)
    exact ⟨d, h1, h2, Or.inl rfl⟩
theorem lits_all (ws : List (List UInt8)) : ∀ (st : (Nat × Nat) × Bool), (ws.foldl (fun st w => ((litInto st.1 w).1, st.2 && (litInto st.1 w).2)) st).2 = true → st.2 = true ∧ ∀ w ∈ ws, LitW w := by
  induction ws with
  | nil => intro st h; exact ⟨h, fun w hw => by cases hw⟩
  | cons w ws ih =>
    intro st h
    obtain ⟨h1, h2⟩ := ih _ h
    dsimp only at h1
    rw [Bool.and_eq_true] at h1
    refine ⟨h1.1, fun x hx => ?_⟩
    rcases List.mem_cons.1 hx with rfl | hx
    · exact litInto_ok h1.2
    · exact h2 x hx
/-- A line of a clause, by its words. -/
theorem cl_words {r : List UInt8} {c : Nat × Nat} (h : clRow r = some c) : ∃ tl, r = 99 :: joinB tl ∧ (∀ w ∈ tl, LitW w) ∧ (litsTo tl).2 = true ∧ c = (litsTo tl).1 := by
  unfold clRow at h
  obtain ⟨hd, tl, hw⟩ := cutAt_ne 32 r
  rw [hw] at h
  dsimp only at h
  split at h
  · next hh =>
    obtain ⟨rfl, h2⟩ := hh
    injection h with h
    exact ⟨tl, (cutAt_back r _ _ hw).1, (lits_all tl _ h2).2, h2, h.symm⟩
  · cases h
end Go.Proofs.YtgipjjhkhfihpabGreatDoor

namespace Go.Proofs.YtgipjjhkhfihpabGreatDoor
open Go.RowKit

/-! ### The law's own reading of a text: which variables are universal, which clauses hold -/
def uniRow (r : List UInt8) (v : Int) : Bool := r.head? == some 97 && r.tail.any (fun b => (b.toNat : Int) - 48 == v)
def kuni (l : List UInt8) (v : Int) : Bool := (klinesOf l).any (fun r => uniRow r v)
theorem pref_words {r : List UInt8} {k : Bool} {vs : List Nat} (h : prefRow r = some (k, vs)) : ∃ tl, r = (if k then 97 else 101) :: joinB tl ∧ varsOf tl = some vs := by
  unfold prefRow at h
  obtain ⟨hd, tl, hw⟩ := cutAt_ne 32 r
  rw [hw] at h
  dsimp only at h
  split at h
  · next hh =>
    cases hv : varsOf tl with
    | none => rw [hv] at h; cases h
    | some ws =>
      rw [hv] at h
      have h' : (hd == [97], ws) = (k, vs) := Option.some.inj h
      injection h' with e1 e2
      subst e2
      refine ⟨tl, ?_, hv⟩
      rw [(cutAt_back r _ _ hw).1]
      rcases hh.1 with rfl | rfl
      · rw [← e1]; rfl
      · rw [← e1]; rfl
  · cases h
theorem words_any (tl : List (List UInt8)) (v : Nat) (h1 : 1 ≤ v) : ∀ vs, varsOf tl = some vs → (joinB tl).any (fun b => (b.toNat : Int) - 48 == (v : Int)) = vs.any (· == v) := by
  induction tl with
  | nil => intro vs h; simp [varsOf] at h; subst h; rfl
  | cons w tl ih =>
    intro vs h
    rw [varsOf] at h
    split at h
    · next hd =>
      cases hw : varsOf tl with
      | none => rw [hw] at h; cases h
      | some us =>
        rw [hw] at h
        have h' : (dig w).toNat :: us = vs := Option.some.inj h
        subst h'
        obtain ⟨d, rfl, g1, g2, g3⟩ := dig_pos hd
        rw [joinB_cons, List.any_cons, List.singleton_append, List.any_cons, ih us hw, List.any_cons, g3]
        have e32 : (((32 : UInt8).toNat : Int) - 48 == (v : Int)) = false := by
          rw [beq_eq_false_iff_ne]
          have : (32 : UInt8).toNat = 32 := rfl
          omega
        have ed : ((d.toNat : Int) - 48 == (v : Int)) = (d.toNat - 48 == v) := by
          rw [Bool.eq_iff_iff, beq_iff_eq, beq_iff_eq]
          omega
        rw [e32, ed, Bool.false_or]
    · cases h
theorem pref_uni {r : List UInt8} {x : Bool × List Nat} (h : prefRow r = some x) (v : Nat) (h1 : 1 ≤ v) : uniRow r (v : Int) = (x.1 && x.2.any (· == v)) := by
  obtain ⟨k, vs⟩ := x
  obtain ⟨tl, rfl, hv⟩ := pref_words h
  unfold uniRow
  rw [List.tail_cons, words_any tl v h1 vs hv]
  cases k
  · rfl
  · rfl
theorem prefs_uni (P : List (List UInt8)) (v : Nat) (h1 : 1 ≤ v) : ∀ qs, prefs P = some qs → P.any (fun r => uniRow r (v : Int)) = qs.any (fun x => x.1 && x.2.any (· == v)) := by
  induction P with
  | nil => intro qs h; simp [prefs] at h; subst h; rfl
  | cons r P ih =>
    intro qs h
    obtain ⟨qa, qb, g1, g2, g3⟩ := prefs_split [r] P qs h
    obtain ⟨x, g4, rfl⟩ := prefs_one r qa g1
    rw [g3, List.singleton_append, List.any_cons, List.any_cons, ih qb g2, pref_uni g4 v h1]
theorem kuni_all {l : List UInt8} {P C : List (List UInt8)} {qs : List (Bool × List Nat)} {cs : List (Nat × Nat)} (h : TextIs l P C qs cs) (v : Nat) (h1 : 1 ≤ v) : kuni l (v : Int) = (allN qs).testBit v := by
  unfold kuni
  rw [lines_text h, List.any_append, prefs_uni P v h1 qs h.prefs, allN_bit]
  have hC : C.any (fun r => uniRow r (v : Int)) = false := by
    rw [List.any_eq_false]
    intro r hr
    obtain ⟨xs, rfl⟩ := (pref_rows_first h).2 r hr
    simp [uniRow]
  rw [hC, Bool.or_false]
/-! ### Clauses -/
def satStep (val : Nat → Int) (st : Bool × Bool) (b : UInt8) : Bool × Bool :=
  if b = 32 then (st.1, false) else if b = 45 then (st.1, true) else ((st.1 || (val (b.toNat - 48) == 1 && !st.2)) || (val (b.toNat - 48) == -1 && st.2), st.2)
def satRow (val : Nat → Int) (r : List UInt8) : Bool := (r.tail.foldl (satStep val) (false, false)).1
def satT (val : Nat → Int) (l : List UInt8) : Bool := (klinesOf l).all (fun r => !(r.head? == some 99) || satRow val r)
/-- What a literal's word says. -/
def litSays (val : Nat → Int) (w : List UInt8) : Bool := match w with
  | [d] => val (d.toNat - 48) == 1
  | [_, d] => val (d.toNat - 48) == -1
  | _ => false
theorem litSays_neg (val : Nat → Int) (d : UInt8) : litSays val [45, d] = (val (d.toNat - 48) == -1) := rfl
theorem litSays_pos (val : Nat → Int) (d : UInt8) : litSays val [d] = (val (d.toNat - 48) == 1) := rfl
theorem sat_words (val : Nat → Int) (tl : List (List UInt8)) : (∀ w ∈ tl, LitW w) → ∀ (st : Bool × Bool), ((joinB tl).foldl (satStep val) st).1 = (st.1 || tl.any (litSays val)) := by
  induction tl with
  | nil => intro _ st; simp [joinB]
  | cons w tl ih =>
    intro h st
    obtain ⟨d, g1, g2, hw⟩ := h w (by simp)
    have hd32 : d ≠ 32 := fun e => by subst e; revert g1; decide
    have hd45 : d ≠ 45 := fun e => by subst e; revert g1; decide
    have s32 : ∀ st : Bool × Bool, satStep val st 32 = (st.1, false) := fun st => by unfold satStep; rw [if_pos rfl]
    have s45 : ∀ st : Bool × Bool, satStep val st 45 = (st.1, true) := fun st => by unfold satStep; rw [if_neg (by decide), if_pos rfl]
    have sd : ∀ st : Bool × Bool, satStep val st d = ((st.1 || (val (d.toNat - 48) == 1 && !st.2)) || (val (d.toNat - 48) == -1 && st.2), st.2) := fun st => by unfold satStep; rw [if_neg hd32, if_neg hd45]
    rw [joinB_cons, List.foldl_cons, s32, List.foldl_append, ih (fun x hx => h x (by simp [hx])), List.any_cons]
    rcases hw with rfl | rfl
    · rw [List.foldl_cons, List.foldl_nil, sd, litSays_pos]
      simp [Bool.or_assoc]
    · rw [List.foldl_cons, List.foldl_cons, List.foldl_nil, s45, sd, litSays_neg]
      simp [Bool.or_assoc]
theorem satC_pos (c : Nat × Nat) (v t : Nat) : satC (c.1 ||| 2 ^ v, c.2) t = (satC c t || t.testBit v) := by
  rw [Bool.eq_iff_iff, Bool.or_eq_true, satC_iff, satC_iff]
  constructor
  · rintro ⟨u, h⟩
    dsimp only at h
    rw [Nat.testBit_or, Nat.testBit_two_pow, Bool.or_eq_true, decide_eq_true_eq] at h
    rcases h with ⟨h1 | h1, h2⟩ | h
    · exact Or.inl ⟨u, Or.inl ⟨h1, h2⟩⟩
    · subst h1; exact Or.inr h2
    · exact Or.inl ⟨u, Or.inr h⟩
  · rintro (⟨u, h⟩ | h)
    · refine ⟨u, ?_⟩
      dsimp only
      rw [Nat.testBit_or, Bool.or_eq_true]
      rcases h with ⟨h1, h2⟩ | h
      · exact Or.inl ⟨Or.inl h1, h2⟩
      · exact Or.inr h
    · refine ⟨v, Or.inl ⟨?_, h⟩⟩
      dsimp only
      rw [Nat.testBit_or, Nat.testBit_two_pow, decide_eq_true rfl, Bool.or_true]
theorem satC_neg (c : Nat × Nat) (v t : Nat) : satC (c.1, c.2 ||| 2 ^ v) t = (satC c t || !t.testBit v) := by
  rw [Bool.eq_iff_iff, Bool.or_eq_true, satC_iff, satC_iff]
  constructor
  · rintro ⟨u, h⟩
    dsimp only at h
    rw [Nat.testBit_or, Nat.testBit_two_pow, Bool.or_eq_true, decide_eq_true_eq] at h
    rcases h with h | ⟨h1 | h1, h2⟩
    · exact Or.inl ⟨u, Or.inl h⟩
    · exact Or.inl ⟨u, Or.inr ⟨h1, h2⟩⟩
    · subst h1; exact Or.inr (by rw [h2]; rfl)
  · rintro (⟨u, h⟩ | h)
    · refine ⟨u, ?_⟩
      dsimp only
      rw [Nat.testBit_or, Bool.or_eq_true]
      rcases h with h | ⟨h1, h2⟩
      · exact Or.inl h
      · exact Or.inr ⟨Or.inl h1, h2⟩
    · refine ⟨v, Or.inr ⟨?_, by simpa using h⟩⟩
      dsimp only
      rw [Nat.testBit_or, Nat.testBit_two_pow, decide_eq_true rfl, Bool.or_true]
/-- The values that are set agree with the assignment. -/
def Agrees (val : Nat → Int) (t v : Nat) : Prop := (val v == 1) = t.testBit v ∧ (val v == -1) = !t.testBit v
theorem lits_sat (val : Nat → Int) (t : Nat) (tl : List (List UInt8)) : (∀ w ∈ tl, LitW w) → (∀ w ∈ tl, ∀ d : UInt8, d ∈ w → 49 ≤ d.toNat → Agrees val t (d.toNat - 48)) → ∀ (st : (Nat × Nat) × Bool),
    satC (tl.foldl (fun st w => ((litInto st.1 w).1, st.2 && (litInto st.1 w).2)) st).1 t = (satC st.1 t || tl.any (litSays val)) := by
  induction tl with
  | nil => intro _ _ st; simp
  | cons w tl ih =>
    intro h hA st
    obtain ⟨d, g1, g2, hw⟩ := h w (by simp)
    have ha := hA w (by simp) d (by rcases hw with rfl | rfl <;> simp) g1
    rw [List.foldl_cons, ih (fun x hx => h x (by simp [hx])) (fun x hx => hA x (by simp [hx])), List.any_cons, ← Bool.or_assoc]
    congr 1
    dsimp only
    have hd : d ≠ 45 := fun e => by subst e; revert g1; decide
    rcases hw with rfl | rfl
    · rw [litInto_pos _ [d] (by simpa using hd), dig_one d g1 g2, Int.toNat_natCast, litSays_pos, ha.1]
      exact satC_pos _ _ _
    · rw [litInto_neg, dig_one d g1 g2, Int.toNat_natCast, litSays_neg, ha.2]
      exact satC_neg _ _ _
theorem lits_bit (tl : List (List UInt8)) : (∀ w ∈ tl, LitW w) → ∀ (st : (Nat × Nat) × Bool) (v : Nat), ((st.1.1 ||| st.1.2).testBit v = true ∨ ∃ w ∈ tl, ∃ d : UInt8, d ∈ w ∧ 49 ≤ d.toNat ∧ d.toNat - 48 = v) →
    ((tl.foldl (fun st w => ((litInto st.1 w).1, st.2 && (litInto st.1 w).2)) st).1.1 ||| (tl.foldl (fun st w => ((litInto st.1 w).1, st.2 && (litInto st.1 w).2)) st).1.2).testBit v = true := by
  induction tl with
  | nil =>
    intro _ st v h
    rcases h with h | ⟨w, hw, _⟩
    · exact h
    · cases hw
  | cons w tl ih =>
    intro hl st v h
    rw [List.foldl_cons]
    refine ih (fun x hx => hl x (by simp [hx])) _ v ?_
    dsimp only
    obtain ⟨d, g1, g2, hw⟩ := hl w (by simp)
    have hd : d ≠ 45 := fun e => by subst e; revert g1; decide
    have key : ((litInto st.1 w).1.1 ||| (litInto st.1 w).1.2).testBit v = ((st.1.1 ||| st.1.2).testBit v || decide (d.toNat - 48 = v)) := by
      rcases hw with rfl | rfl
      · rw [litInto_pos _ [d] (by simpa using hd), dig_one d g1 g2, Int.toNat_natCast]
        simp only [Nat.testBit_or, Nat.testBit_two_pow]
        cases st.1.1.testBit v <;> cases st.1.2.testBit v <;> simp
      · rw [litInto_neg, dig_one d g1 g2, Int.toNat_natCast]
        simp only [Nat.testBit_or, Nat.testBit_two_pow]
        cases st.1.1.testBit v <;> cases st.1.2.testBit v <;> simp
    rw [key, Bool.or_eq_true]
    rcases h with h | ⟨w', hw', e, he, ge, rfl⟩
    · exact Or.inl (Or.inl h)
    · rcases List.mem_cons.1 hw' with rfl | hw'
      · left; right
        have : e = d := by
          rcases hw with rfl | rfl
          · simpa using he
          · rcases List.mem_cons.1 he with rfl | he
            · exfalso; revert ge; decide
            · simpa using he
        subst this
        exact decide_eq_true rfl
      · exact Or.inr ⟨w', hw', e, he, ge, rfl⟩
theorem row_sat (val : Nat → Int) (t : Nat) {r : List UInt8} {c : Nat × Nat} (h : clRow r = some c) (hA : ∀ v, (c.1 ||| c.2).testBit v = true → Agrees val t v) : satRow val r = satC c t := by
  obtain ⟨tl, rfl, hw, _, rfl⟩ := cl_words h
  unfold satRow
  rw [List.tail_cons, sat_words val tl hw]
  have := lits_sat val t tl hw (fun w hm d hd g => hA _ (lits_bit tl hw ((0, 0), true) _ (Or.inr ⟨w, hm, d, hd, g, rfl⟩))) ((0, 0), true)
  unfold litsTo
  rw [this]
  have h0 : satC (0, 0) t = false := by
    cases hs : satC (0, 0) t with
    | false => rfl
    | true => obtain ⟨v, h | h⟩ := (satC_iff _ _).1 hs <;> simp at h
  rw [h0]
theorem cls_sat (val : Nat → Int) (t : Nat) (C : List (List UInt8)) : ∀ cs, cls C = some cs → (∀ c ∈ cs, ∀ v, (c.1 ||| c.2).testBit v = true → Agrees val t v) → C.all (fun r => !(r.head? == some 99) || satRow val r) = satB cs t := by
  induction C with
  | nil => intro cs h _; simp [cls] at h; subst h; rfl
  | cons r C ih =>
    intro cs h hA
    obtain ⟨ca, cb, g1, g2, g3⟩ := cls_split [r] C cs h
    obtain ⟨c, hc⟩ : ∃ c, clRow r = some c := cls_rows h r (by simp)
    have hca : ca = [c] := by simp [cls, hc] at g1; exact g1.symm
    subst hca
    have e : satB ([c] ++ cb) t = (satC c t && satB cb t) := by unfold satB; rw [List.singleton_append, List.all_cons]
    rw [g3, e, List.all_cons, ih cb g2 (fun x hx => hA x (by rw [g3]; simp [hx])), row_sat val t hc (hA c (by rw [g3]; simp)), cl_first r c hc]
    rfl
theorem satT_eq {l : List UInt8} {P C : List (List UInt8)} {qs : List (Bool × List Nat)} {cs : List (Nat × Nat)} (h : TextIs l P C qs cs) (val : Nat → Int) (t : Nat) (hA : ∀ c ∈ cs, ∀ v, (c.1 ||| c.2).testBit v = true → Agrees val t v) : satT val l = satB cs t := by
  unfold satT
  rw [lines_text h, List.all_append, cls_sat val t C cs h.cls hA]
  have hP : P.all (fun r => !(r.head? == some 99) || satRow val r) = true := by
    rw [List.all_eq_true]
    intro r hr
    obtain ⟨x, xs, rfl, hx⟩ := (pref_rows_first h).1 r hr
    have : ((x :: xs).head? == some 99) = false := by simpa using hx
    rw [this]; rfl
  rw [hP, Bool.true_and]
/-! ### Whose turn it is -/
def turnTo : List Bool → Nat → Nat
  | [], _ => 0
  | true :: ws, k => 1 + turnTo ws k
  | false :: ws, k => if k = 0 then 0 else 1 + turnTo ws (k - 1)
theorem turnTo_of (ws : List Bool) : ∀ (t k : Nat), t ≤ ws.length → (∀ h : t < ws.length, ws[t] = false) → (ws.take t).count false = k → turnTo ws k = t := by
  induction ws with
  | nil => intro t k h _ _; simp at h; subst h; rfl
  | cons b ws ih =>
    intro t k h hl hc
    cases t with
    | zero =>
      have hb : b = false := hl (by simp)
      subst hb
      have hk : k = 0 := by simpa using hc.symm
      subst hk
      rfl
    | succ t =>
      have h' : t ≤ ws.length := by simpa using h
      have hl' : ∀ h : t < ws.length, ws[t] = false := fun hh => hl (by simpa using hh)
      rw [List.take_succ_cons, List.count_cons] at hc
      cases b with
      | true =>
        rw [turnTo, ih t k h' hl' (by simpa using hc)]
        omega
      | false =>
        have hk : k ≠ 0 := by rw [← hc]; simp
        rw [turnTo, if_neg hk, ih t (k - 1) h' hl' (by rw [← hc]; simp)]
        omega
end Go.Proofs.YtgipjjhkhfihpabGreatDoor
