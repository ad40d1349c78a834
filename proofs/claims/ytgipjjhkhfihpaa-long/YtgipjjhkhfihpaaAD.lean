import Derived.Test.YtgipjjhkhfihpaaAC
import Derived.Test.YtgipjjhkhfihpaaAB
import Derived.Deep.QuietTactic
import Derived.BigQuiet
import Derived.Test.YtgipjjhkhfihpaaRows
import Derived.ProofKit
import Derived.SizedLaws
import Derived.OpenShut
import Derived.Deep.Slices
import Derived.Test.YtgipjjhkhfihpaaAA
namespace Go.Proofs.Ytgipjjhkhfihpaa
open Go.RowKit

/-! ### Read and Load agree -/
theorem bitOf_dig (r : List UInt8) (h : 0 < dig r) : bitOf (dig r) = 2 ^ (dig r).toNat := by
  have := dig_bd r
  unfold bitOf; rw [if_pos ⟨by omega, by omega⟩]
theorem litInto_good (c : Nat × Nat) (w : List UInt8) : (litInto c w).2 = litGood w ∧ (litGood w = true → (litInto c w).1 = withLit c (litNum w)) := by
  unfold litInto litGood litNum
  split
  · next r =>
    refine ⟨rfl, ?_⟩
    intro h
    have h' : 0 < dig r := of_decide_eq_true h
    show (c.1, c.2 ||| 2 ^ (dig r).toNat) = withLit c (- dig r)
    unfold withLit
    rw [if_pos (by omega), Int.neg_neg, bitOf_dig r h']
  · next hw =>
    have hh : ¬ w.head? = some 45 := by
      intro e
      cases w with
      | nil => simp at e
      | cons a b => simp at e; subst e; exact hw b rfl
    rw [if_neg hh, if_neg hh]
    refine ⟨rfl, ?_⟩
    intro h
    have h' : 0 < dig w := of_decide_eq_true h
    unfold withLit
    rw [if_neg (by omega), bitOf_dig w h']
theorem lits_false (ws : List (List UInt8)) : ∀ (c : Nat × Nat), (ws.foldl (fun st w => ((litInto st.1 w).1, st.2 && (litInto st.1 w).2)) (c, false)).2 = false := by
  induction ws with
  | nil => intro c; rfl
  | cons w ws ih => intro c; exact ih _
theorem lits_eq (ws : List (List UInt8)) : ∀ (c : Nat × Nat),
    match clTo c ws with
    | none => (ws.foldl (fun st w => ((litInto st.1 w).1, st.2 && (litInto st.1 w).2)) (c, true)).2 = false
    | some c' => ws.foldl (fun st w => ((litInto st.1 w).1, st.2 && (litInto st.1 w).2)) (c, true) = (c', true) := by
  induction ws with
  | nil => intro c; rfl
  | cons w ws ih =>
    intro c
    obtain ⟨h1, h2⟩ := litInto_good c w
    rw [clTo]
    simp only [List.foldl_cons, Bool.true_and, h1]
    cases hg : litGood w with
    | false => exact lits_false ws _
    | true =>
      rw [h2 hg]
      exact ih _

/-- What Read gathers and what the program holds say the same. -/
structure Same (st : RS) (q : QS) : Prop where
  cl : st.cl = q.cl
  told : st.told = q.vars.map (·.1)
  kinds : st.kinds = q.vars.map (·.2)
  seen : ∀ v, st.seen.testBit v = hasV q.vars v
  used : ∀ v : Nat, 1 ≤ v → v ≤ 8 → st.used.testBit v = inC q.cl v

theorem hasV_snoc (vs : List (Nat × Bool)) (x : Nat × Bool) (v : Nat) : hasV (vs ++ [x]) v = (hasV vs v || (x.1 == v)) := by
  unfold hasV; rw [List.any_append]; simp
theorem testBit_pow (n v : Nat) : (2 ^ n).testBit v = (n == v) := by
  rw [Nat.testBit_two_pow]; rfl

theorem vars_false (a : Bool) (ws : List (List UInt8)) : ∀ (p : PS), p.ok = false → (ws.foldl (varStep a) p).ok = false := by
  induction ws with
  | nil => intro p h; exact h
  | cons w ws ih => intro p h; refine ih _ ?_; simp [varStep, h]
theorem vars_eq (a : Bool) (ws : List (List UInt8)) : ∀ (p : PS) (vs : List (Nat × Bool)), p.ok = true → p.told = vs.map (·.1) → p.kinds = vs.map (·.2) → (∀ v, p.seen.testBit v = hasV vs v) →
    match prefTo a vs ws with
    | none => (ws.foldl (varStep a) p).ok = false
    | some vs' => (ws.foldl (varStep a) p).ok = true ∧ (ws.foldl (varStep a) p).told = vs'.map (·.1) ∧ (ws.foldl (varStep a) p).kinds = vs'.map (·.2) ∧ ∀ v, (ws.foldl (varStep a) p).seen.testBit v = hasV vs' v := by
  induction ws with
  | nil => intro p vs h1 h2 h3 h4; exact ⟨h1, h2, h3, h4⟩
  | cons w ws ih =>
    intro p vs h1 h2 h3 h4
    obtain ⟨d0, d1⟩ := dig_bd w
    obtain ⟨dn, hdn⟩ := Int.eq_ofNat_of_zero_le d0
    have hvs := varStep_eq a p w dn hdn
    have hb : badVar vs w = decide (dn = 0 ∨ p.seen.testBit dn = true) := by
      unfold badVar
      rw [hdn, h4]
      rw [Bool.eq_iff_iff]
      simp
    rw [prefTo, List.foldl_cons, hvs, hb]
    by_cases hbad : dn = 0 ∨ p.seen.testBit dn = true
    · rw [if_pos hbad, if_pos (by simpa using hbad)]
      exact vars_false a ws _ rfl
    · rw [if_neg hbad, if_neg (by simpa using hbad)]
      have e : (dig w).toNat = dn := by rw [hdn]; simp
      rw [e]
      refine ih _ _ h1 (by simp [h2]) (by simp [h3]) ?_
      intro v
      rw [hasV_snoc]
      show (p.seen ||| 2 ^ dn).testBit v = _
      rw [Nat.testBit_or, h4, testBit_pow]

theorem inC_snoc (cl : List (Nat × Nat)) (c : Nat × Nat) (v : Nat) (h1 : 1 ≤ v) (h8 : v ≤ 8) : inC (cl ++ [c]) v = (inC cl v || (c.1 ||| c.2).testBit v) := by
  unfold inC
  rw [List.any_append]
  congr 1
  simp only [List.any_cons, List.any_nil, Bool.or_false]
  have e : bitOf (v : Int) = 2 ^ v := by unfold bitOf; rw [if_pos ⟨by omega, by omega⟩]; simp
  rw [e, nat_bit, Nat.testBit_eq_decide_div_mod_eq]
  have hp : 0 < 2 ^ v := Nat.two_pow_pos v
  rcases Nat.mod_two_eq_zero_or_one ((c.1 ||| c.2) / 2 ^ v) with h | h
  · rw [h]; simp
  · rw [h]; simp

theorem dig_nil : dig [] = 0 := rfl
theorem split_words (row hd : List UInt8) (tl : List (List UInt8)) (h : cutAt 32 row = hd :: tl) (hs : splitOk row = false) : hd = [] ∨ [] ∈ tl := by
  unfold splitOk at hs
  rw [h, Bool.not_eq_false', List.any_eq_true] at hs
  obtain ⟨x, hx, he⟩ := hs
  have : x = [] := by simpa using he
  subst this
  simp at hx
  rcases hx with hx | hx
  · exact Or.inl hx
  · exact Or.inr hx
theorem clTo_bad (ws : List (List UInt8)) (h : [] ∈ ws) : ∀ c, clTo c ws = none := by
  induction ws with
  | nil => simp at h
  | cons w ws ih =>
    intro c
    rw [clTo]
    rcases List.mem_cons.1 h with h | h
    · subst h; rw [if_neg (by decide)]
    · split
      · exact ih h _
      · rfl
theorem prefTo_bad (u : Bool) (ws : List (List UInt8)) (h : [] ∈ ws) : ∀ vs, prefTo u vs ws = none := by
  induction ws with
  | nil => simp at h
  | cons w ws ih =>
    intro vs
    rw [prefTo]
    rcases List.mem_cons.1 h with h | h
    · subst h; rw [if_pos (by unfold badVar; rw [dig_nil]; rfl)]
    · split
      · rfl
      · exact ih h _

theorem rowOf_qOf (st : RS) (q : QS) (hd : List UInt8) (tl : List (List UInt8)) (h : Same st q) :
    match qOf q hd tl with
    | none => (rowOf st hd tl).2 = false
    | some q' => (rowOf st hd tl).2 = true ∧ Same (rowOf st hd tl).1 q' := by
  have hpre : ∀ a : Bool, match (qPrefix q tl a).map (fun vs => ({ q with vars := vs } : QS)) with
      | none => st.cl = [] ∧ tl ≠ [] → (varsTo a st tl).ok = false
      | some q' => (st.cl = [] ∧ tl ≠ []) ∧ (varsTo a st tl).ok = true ∧ Same { st with told := (varsTo a st tl).told, kinds := (varsTo a st tl).kinds, seen := (varsTo a st tl).seen } q' := by
    intro a
    unfold qPrefix
    by_cases hc : tl = [] ∨ q.cl ≠ []
    · rw [if_pos hc]
      rintro ⟨h1, h2⟩
      rcases hc with hc | hc
      · exact absurd hc h2
      · rw [h.cl] at h1; exact absurd h1 hc
    · rw [if_neg hc]
      have hc1 : tl ≠ [] := fun e => hc (Or.inl e)
      have hc2 : st.cl = [] := by rw [h.cl]; exact Classical.byContradiction fun e => hc (Or.inr e)
      have hv := vars_eq a tl ⟨st.told, st.kinds, st.seen, true⟩ q.vars rfl h.told h.kinds h.seen
      cases hp : prefTo a q.vars tl with
      | none => rw [hp] at hv; exact fun _ => hv
      | some vs =>
        rw [hp] at hv
        obtain ⟨v1, v2, v3, v4⟩ := hv
        exact ⟨⟨hc2, hc1⟩, v1, h.cl, v2, v3, v4, h.used⟩
  unfold qOf
  by_cases he : hd = [101]
  · subst he
    rw [if_pos rfl]
    have hp := hpre false
    unfold rowOf
    rw [if_neg (by decide)]
    cases hq : (qPrefix q tl false).map (fun vs => ({ q with vars := vs } : QS)) with
    | none =>
      rw [hq] at hp
      by_cases hc : st.cl = [] ∧ tl ≠ []
      · rw [if_pos ⟨Or.inl rfl, hc.1, hc.2⟩]; exact hp hc
      · rw [if_neg (fun x => hc ⟨x.2.1, x.2.2⟩)]
    | some q' =>
      rw [hq] at hp
      obtain ⟨hc, h1, h2⟩ := hp
      rw [if_pos ⟨Or.inl rfl, hc.1, hc.2⟩]
      exact ⟨h1, h2⟩
  · rw [if_neg he]
    by_cases ha : hd = [97]
    · subst ha
      rw [if_pos rfl]
      have hp := hpre true
      unfold rowOf
      rw [if_neg (by decide)]
      cases hq : (qPrefix q tl true).map (fun vs => ({ q with vars := vs } : QS)) with
      | none =>
        rw [hq] at hp
        by_cases hc : st.cl = [] ∧ tl ≠ []
        · rw [if_pos ⟨Or.inr rfl, hc.1, hc.2⟩]; exact hp hc
        · rw [if_neg (fun x => hc ⟨x.2.1, x.2.2⟩)]
      | some q' =>
        rw [hq] at hp
        obtain ⟨hc, h1, h2⟩ := hp
        rw [if_pos ⟨Or.inr rfl, hc.1, hc.2⟩]
        exact ⟨h1, h2⟩
    · rw [if_neg ha]
      by_cases hc : hd = [99]
      · subst hc
        rw [if_pos rfl]
        unfold rowOf
        rw [if_pos rfl]
        have hl := lits_eq tl (0, 0)
        have hll := litsTo_lt tl
        cases hq : clTo (0, 0) tl with
        | none => rw [hq] at hl; exact hl
        | some c =>
          rw [hq] at hl
          have hl' : litsTo tl = (c, true) := hl
          simp only [Option.map_some]
          rw [hl']
          refine ⟨rfl, by simp [h.cl], h.told, h.kinds, h.seen, ?_⟩
          intro v h1 h8
          dsimp only
          rw [inC_snoc _ _ _ h1 h8, Nat.testBit_or, Nat.testBit_or, Nat.testBit_or, h.used v h1 h8, Bool.or_assoc]
      · rw [if_neg hc]
        unfold rowOf
        rw [if_neg hc, if_neg (fun x => by rcases x.1 with h | h; exact he h; exact ha h)]

theorem row_line (st : RS) (q : QS) (row : List UInt8) (h : Same st q) :
    match qLine q row with
    | none => (rowStep st row).2 = false
    | some q' => (rowStep st row).2 = true ∧ Same (rowStep st row).1 q' := by
  obtain ⟨hd, tl, hws⟩ : ∃ hd tl, cutAt 32 row = hd :: tl := by
    cases h : cutAt 32 row with
    | nil => simp [cutAt] at h
    | cons a b => exact ⟨a, b, rfl⟩
  rw [rowStep_eq st row hd tl hws]
  cases hs : splitOk row with
  | true => rw [qLine_eq q row hd tl hws hs]; exact rowOf_qOf st q hd tl h
  | false =>
    have hn : qLine q row = none := by unfold qLine; rw [hs]; rfl
    rw [hn]
    have hw := split_words row hd tl hws hs
    have hr := rowOf_qOf st q hd tl h
    have hq : qOf q hd tl = none := by
      unfold qOf
      split
      · next he =>
        rcases hw with hw | hw
        · rw [hw] at he; cases he
        · unfold qPrefix; split; rfl; rw [prefTo_bad _ _ hw]; rfl
      · split
        · next he =>
          rcases hw with hw | hw
          · rw [hw] at he; cases he
          · unfold qPrefix; split; rfl; rw [prefTo_bad _ _ hw]; rfl
        · split
          · next he =>
            rcases hw with hw | hw
            · rw [hw] at he; cases he
            · rw [clTo_bad _ hw]; rfl
          · rfl
    rw [hq] at hr
    exact hr

theorem rows_eq (rows : List (List UInt8)) : ∀ (st : RS) (q : QS) (i : Nat), Same st q →
    match qRows q i rows with
    | .inr j => readRows st i rows = .inr j
    | .inl q' => ∃ st', readRows st i rows = .inl st' ∧ Same st' q' := by
  induction rows with
  | nil => intro st q i h; exact ⟨st, rfl, h⟩
  | cons r rows ih =>
    intro st q i h
    have hr := row_line st q r h
    rw [qRows, readRows]
    cases hq : qLine q r with
    | none => rw [hq] at hr; dsimp only; rw [if_neg (by rw [hr]; decide)]
    | some q' =>
      rw [hq] at hr
      dsimp only
      rw [if_pos hr.1]
      exact ih _ _ _ hr.2

/-! ### What holds of every formula that is read -/
structure QNice (q : QS) : Prop where
  nodup : (q.vars.map (·.1)).Nodup
  names : ∀ x ∈ q.vars, 1 ≤ x.1 ∧ x.1 ≤ 8
  bits : ∀ c ∈ q.cl, c.1 < 512 ∧ c.2 < 512
  bit0 : ∀ c ∈ q.cl, c.1.testBit 0 = false ∧ c.2.testBit 0 = false
theorem bitOf_zero (x : Int) : (bitOf x).testBit 0 = false := by
  unfold bitOf
  split
  · next h => rw [Nat.testBit_two_pow]; simp; omega
  · simp
theorem withLit_zero (c : Nat × Nat) (x : Int) (h1 : c.1.testBit 0 = false) (h2 : c.2.testBit 0 = false) : (withLit c x).1.testBit 0 = false ∧ (withLit c x).2.testBit 0 = false := by
  unfold withLit; split
  · refine ⟨h1, ?_⟩
    show (c.2 ||| _).testBit 0 = false
    rw [Nat.testBit_or, h2, bitOf_zero]; rfl
  · refine ⟨?_, h2⟩
    show (c.1 ||| _).testBit 0 = false
    rw [Nat.testBit_or, h1, bitOf_zero]; rfl
theorem clTo_zero (ws : List (List UInt8)) : ∀ (c c' : Nat × Nat), c.1.testBit 0 = false → c.2.testBit 0 = false → clTo c ws = some c' → c'.1.testBit 0 = false ∧ c'.2.testBit 0 = false := by
  induction ws with
  | nil => intro c c' h1 h2 h; simp [clTo] at h; subst h; exact ⟨h1, h2⟩
  | cons w ws ih =>
    intro c c' h1 h2 h
    rw [clTo] at h
    split at h
    · have := withLit_zero c (litNum w) h1 h2
      exact ih _ _ this.1 this.2 h
    · cases h
theorem prefTo_nice (u : Bool) (ws : List (List UInt8)) : ∀ (vs vs' : List (Nat × Bool)), (vs.map (·.1)).Nodup → (∀ x ∈ vs, 1 ≤ x.1 ∧ x.1 ≤ 8) → prefTo u vs ws = some vs' → (vs'.map (·.1)).Nodup ∧ ∀ x ∈ vs', 1 ≤ x.1 ∧ x.1 ≤ 8 := by
  induction ws with
  | nil => intro vs vs' h1 h2 h; simp [prefTo] at h; subst h; exact ⟨h1, h2⟩
  | cons w ws ih =>
    intro vs vs' h1 h2 h
    rw [prefTo] at h
    split at h
    · cases h
    · next hb =>
      have hb' : badVar vs w = false := by simpa using hb
      unfold badVar at hb'
      rw [Bool.or_eq_false_iff] at hb'
      obtain ⟨hd, hv⟩ := hb'
      have hd' : 0 < dig w := by simpa using hd
      have hbd := dig_bd w
      refine ih _ _ ?_ ?_ h
      · rw [List.map_append, List.nodup_append]
        refine ⟨h1, by simp, ?_⟩
        intro a ha b hb e
        simp at hb
        subst hb
        subst e
        rw [List.mem_map] at ha
        obtain ⟨x, hx, hxe⟩ := ha
        have : hasV vs (dig w).toNat = true := by
          unfold hasV; rw [List.any_eq_true]; exact ⟨x, hx, by simpa using hxe⟩
        rw [this] at hv; cases hv
      · intro x hx
        rcases List.mem_append.1 hx with hx | hx
        · exact h2 x hx
        · simp at hx; subst hx; constructor <;> (dsimp only; omega)
theorem qLine_nice {q q' : QS} {r : List UInt8} (hq : QNice q) (h : qLine q r = some q') : QNice q' := by
  have hpre : ∀ u tl vs, qPrefix q tl u = some vs → QNice { q with vars := vs } := by
    intro u tl vs hv
    unfold qPrefix at hv
    split at hv
    · cases hv
    · have := prefTo_nice u tl _ _ hq.nodup hq.names hv
      exact ⟨this.1, this.2, hq.bits, hq.bit0⟩
  unfold qLine at h
  split at h
  · split at h
    · cases h
    · next hd tl hws =>
      unfold qOf at h
      split at h
      · cases hp : qPrefix q tl false with
        | none => rw [hp] at h; cases h
        | some vs => rw [hp] at h; simp at h; subst h; exact hpre _ _ _ hp
      · split at h
        · cases hp : qPrefix q tl true with
          | none => rw [hp] at h; cases h
          | some vs => rw [hp] at h; simp at h; subst h; exact hpre _ _ _ hp
        · split at h
          · cases hp : clTo (0, 0) tl with
            | none => rw [hp] at h; cases h
            | some c =>
              rw [hp] at h; simp at h; subst h
              refine ⟨hq.nodup, hq.names, ?_, ?_⟩
              · intro c' hc'
                simp at hc'
                rcases hc' with hc' | hc'
                · exact hq.bits c' hc'
                · subst hc'; exact clTo_lt tl _ _ (by decide) (by decide) hp
              · intro c' hc'
                simp at hc'
                rcases hc' with hc' | hc'
                · exact hq.bit0 c' hc'
                · subst hc'; exact clTo_zero tl _ _ (by decide) (by decide) hp
          · cases h
  · cases h
theorem qRows_nice (rows : List (List UInt8)) : ∀ (q q' : QS) (i : Nat), QNice q → qRows q i rows = .inl q' → QNice q' := by
  induction rows with
  | nil => intro q q' i h e; simp [qRows] at e; subst e; exact h
  | cons r rows ih =>
    intro q q' i h e
    rw [qRows] at e
    cases hq : qLine q r with
    | none => rw [hq] at e; cases e
    | some q1 => rw [hq] at e; exact ih _ _ _ (qLine_nice h hq) e

/-- Read and Load: the same error and line; or formulas that say the same. -/
theorem spec_eq (l : List UInt8) :
    match loadSpec l with
    | .inl a => readSpec l = .inl a
    | .inr q => ∃ st q0, readSpec l = .inr (finish st) ∧ Same st q0 ∧ q = qFinish q0 ∧ q0.cl.length ≤ 24 ∧ QNice q0 := by
  unfold loadSpec readSpec
  by_cases hl : 2000 < l.length
  · rw [if_pos hl, if_pos hl]
  · rw [if_neg hl, if_neg hl]
    have e1 : (cutAt 10 l).dropLast = (cutTo 10 l).1 := by unfold cutAt; simp
    have e2 : (cutAt 10 l).getLast? = some (cutTo 10 l).2 := by unfold cutAt; simp
    have e3 : (cutAt 10 l).length = (cutTo 10 l).1.length + 1 := by unfold cutAt; simp
    rw [e1, e2, e3]
    have hr := rows_eq (cutTo 10 l).1 rs0 ⟨[], []⟩ 0 ⟨rfl, rfl, rfl, fun v => by simp [rs0, hasV], fun v _ _ => by simp [rs0, inC]⟩
    cases hq : qRows ⟨[], []⟩ 0 (cutTo 10 l).1 with
    | inr j => rw [hq] at hr; dsimp only; rw [hr]
    | inl q =>
      rw [hq] at hr
      obtain ⟨st, h1, h2⟩ := hr
      dsimp only
      rw [h1]
      dsimp only
      by_cases hn : (cutTo 10 l).2 = []
      · have c1 : ¬ ((cutTo 10 l).2 ≠ []) := fun h => h hn
        have c2 : ¬ (some (cutTo 10 l).2 ≠ some []) := fun h => h (by rw [hn])
        rw [if_neg c1, if_neg c2, h2.cl]
        by_cases h24 : 24 < q.cl.length
        · rw [if_pos h24, if_pos h24]
        · rw [if_neg h24, if_neg h24]
          exact ⟨st, q, rfl, h2, rfl, by omega, qRows_nice _ _ _ _ ⟨by simp, by simp, by simp, by simp⟩ hq⟩
      · have c2 : some (cutTo 10 l).2 ≠ some [] := fun h => hn (by simpa using h)
        rw [if_pos hn, if_pos c2]
end Go.Proofs.Ytgipjjhkhfihpaa

namespace Go.Proofs.Ytgipjjhkhfihpaa
open Go.RowKit

end Go.Proofs.Ytgipjjhkhfihpaa

namespace Go.Proofs.Ytgipjjhkhfihpaa
open Go.RowKit

theorem ProgAt.later {lo b : Nat} {w w' : World} {q : QS} (h : ProgAt lo w b q) (hb : Below w.heap.size w w') : ProgAt lo w' b q := by
  obtain ⟨h1, vV, vC, h2, h3, h4⟩ := h
  exact ⟨h1, vV, vC, (hb.block b (blk_lt h2)).trans h2, own_below h3 hb, own_below h4 hb⟩
theorem ProgAt.set {lo b bw o : Nat} {w : World} {q : QS} {u : Value} (h : ProgAt lo w b q) (hlt : bw < lo) : ProgAt lo (w.setCell ⟨bw, o, none⟩ u) b q := by
  obtain ⟨h1, vV, vC, h2, h3, h4⟩ := h
  exact ⟨h1, vV, vC, (Below.heap_setCell _ _ _ _ (by show b ≠ bw; omega)).trans h2, ownsRow_setCell_below h3 (a := ⟨bw, o, none⟩) hlt u, ownsRow_setCell_below h4 (a := ⟨bw, o, none⟩) hlt u⟩
theorem ProgAt.lo {lo lo' b : Nat} {w : World} {q : QS} (h : ProgAt lo w b q) (hl : lo' ≤ lo) : ProgAt lo' w b q := by
  obtain ⟨h1, vV, vC, h2, h3, h4⟩ := h
  exact ⟨by omega, vV, vC, h2, own_lo h3 hl, own_lo h4 hl⟩
/-- A block that is below lo, or of none of these types. -/
def Foreign (lo : Nat) (w : World) (ts : List TypeId) (k : Nat) : Prop := k < lo ∨ ∃ cs t fr, w.heap[k]? = some (.cells cs t fr) ∧ t ∉ ts
theorem own_only {w w' : World} {T : Nat → Prop} {base : Nat} {e : TypeId} {size : Nat} {v : Value} {n : Nat} {xs : List Value} {ts : List TypeId} (h : w.ownsRow base e size v n xs) (ho : Only T w w') (he : e ∈ ts) (hT : ∀ k, k < w.heap.size → T k → Foreign base w ts k) : w'.ownsRow base e size v n xs := by
  obtain ⟨h1, h2⟩ := h
  refine ⟨h1, ?_⟩
  rcases h2 with h2 | ⟨g, cap, cur, rfl, hg, hh, h3⟩
  · exact Or.inl h2
  · refine Or.inr ⟨g, cap, cur, rfl, hg, ?_, h3⟩
    rw [ho.block g (blk_lt hh) (fun ht => ?_)]
    · exact hh
    · rcases hT g (blk_lt hh) ht with h | ⟨cs, t, fr, h4, h5⟩
      · omega
      · rw [hh] at h4
        simp at h4
        exact h5 (h4.2.1 ▸ he)
theorem blk_only {w w' : World} {T : Nat → Prop} {lo b : Nat} {cs : Array Value} {t : TypeId} {fr : Nat × Nat} {ts : List TypeId} (h : w.heap[b]? = some (.cells cs t fr)) (hlo : lo ≤ b) (ho : Only T w w') (he : t ∈ ts) (hT : ∀ k, k < w.heap.size → T k → Foreign lo w ts k) : w'.heap[b]? = some (.cells cs t fr) := by
  rw [ho.block b (blk_lt h) (fun ht => ?_)]
  · exact h
  · rcases hT b (blk_lt h) ht with h1 | ⟨cs', t', fr', h4, h5⟩
    · omega
    · rw [h] at h4
      simp at h4
      exact h5 (h4.2.1 ▸ he)
end Go.Proofs.Ytgipjjhkhfihpaa

namespace Go.Proofs.Ytgipjjhkhfihpaa
open Go.RowKit

/-- One step of a script. -/
structure OpV where
  kind : Int
  a : Int
  b : Int
  c : Int
  s : List UInt8
  t : List UInt8
def OpV.cells (o : OpV) : List Value := [.int .i64 o.kind, .int .i64 o.a, .int .i64 o.b, .int .i64 o.c, S o.s, S o.t]
def i64ok (x : Int) : Prop := -9223372036854775808 ≤ x ∧ x ≤ 9223372036854775807
structure OpV.Ok (o : OpV) : Prop where
  kind : i64ok o.kind
  a : i64ok o.a
  b : i64ok o.b
  c : i64ok o.c

theorem here_foreign {bw : Nat} {w : World} {ts : List TypeId} : ∀ k, k < w.heap.size → k = bw → Foreign (bw + 1) w ts k := fun k _ e => Or.inl (by omega)

theorem Only.pre {T : Nat → Prop} {a b c : World} (h : Below a.heap.size a b) (k : Only T b c) : Only T a c := (Only.of_below h).trans k

/-- The kinds of steps that only turn texts. -/
def base4 (k : Int) : Bool := k == 1 || k == 2 || k == 4 || k == 5
def opCells (l : List OpV) : List Value := l.flatMap OpV.cells
theorem opCells_length (l : List OpV) : (opCells l).length = l.length * 6 := by
  induction l with
  | nil => rfl
  | cons a l ih => simp [opCells, OpV.cells] at *; omega
theorem opCells_snoc (l : List OpV) (o : OpV) : opCells (l ++ [o]) = opCells l ++ o.cells := by simp [opCells]
theorem opCells_at (l : List OpV) (k j : Nat) (h : k < l.length) (hj : j < 6) : (opCells l)[k * 6 + j]? = l[k].cells[j]? := by
  induction l generalizing k with
  | nil => simp at h
  | cons a l ih =>
    cases k with
    | zero =>
      simp only [opCells, List.flatMap_cons]
      rw [List.getElem?_append_left (by simp [OpV.cells]; omega)]
      simp
    | succ k =>
      have := ih k (by simpa using h)
      simp only [opCells, List.flatMap_cons] at this ⊢
      rw [show (k + 1) * 6 + j = k * 6 + j + 6 from by omega, List.getElem?_append_right (by simp [OpV.cells])]
      simpa [OpV.cells] using this
def sizeTo (l : List OpV) (k : Nat) : Nat := ((l.take k).map (fun o => o.s.length + 1)).sum
theorem sizeTo_succ (l : List OpV) (k : Nat) (h : k < l.length) : sizeTo l (k + 1) = sizeTo l k + (l[k].s.length + 1) := by
  unfold sizeTo
  rw [List.take_succ_eq_append_getElem h, List.map_append, List.sum_append]
  simp only [List.map_cons, List.map_nil, List.sum_cons, List.sum_nil, Nat.add_zero]
theorem sizeTo_le (l : List OpV) (k : Nat) (_h : k ≤ l.length) : sizeTo l k ≤ sizeTo l l.length := by
  have e : l.take l.length = l.take k ++ l.drop k := by rw [List.take_length, List.take_append_drop]
  unfold sizeTo
  rw [e, List.map_append, List.sum_append]
  omega

end Go.Proofs.Ytgipjjhkhfihpaa

namespace Go.Proofs.Ytgipjjhkhfihpaa
open Go.RowKit

/-- A script lies at an address. -/
def ScriptAt (w : World) (ao : Option Addr) (ops : List OpV) : Prop :=
  ops ≠ [] → ∃ b off, ao = some ⟨b, off, none⟩ ∧ b < w.heap.size ∧ ∀ k (hk : k < ops.length) j (_ : j < 6) u, ops[k].cells[j]? = some u → w.cell? ⟨b, off + (k * 6 + j), none⟩ = some u
theorem ScriptAt.cells {w wr : World} {b off : Nat} {ops : List OpV} (h : ∀ k (hk : k < ops.length) j (_ : j < 6) u, ops[k].cells[j]? = some u → w.cell? ⟨b, off + (k * 6 + j), none⟩ = some u) (hlt : b < w.heap.size) (hb : Below w.heap.size w wr) (k : Nat) (hk : k < ops.length) :
    wr.cell? ⟨b, off + k * 6, none⟩ = some (.int .i64 ops[k].kind) ∧ wr.cell? ⟨b, off + k * 6 + 1, none⟩ = some (.int .i64 ops[k].a) ∧ wr.cell? ⟨b, off + k * 6 + 2, none⟩ = some (.int .i64 ops[k].b) ∧
    wr.cell? ⟨b, off + k * 6 + 3, none⟩ = some (.int .i64 ops[k].c) ∧ wr.cell? ⟨b, off + k * 6 + 4, none⟩ = some (S ops[k].s) ∧ wr.cell? ⟨b, off + k * 6 + 5, none⟩ = some (S ops[k].t) := by
  have hc : ∀ j (_ : j < 6) u, ops[k].cells[j]? = some u → wr.cell? ⟨b, off + k * 6 + j, none⟩ = some u := fun j hj u hu => by
    rw [hb.cell (p := ⟨b, off + k * 6 + j, none⟩) hlt, show off + k * 6 + j = off + (k * 6 + j) from by omega]; exact h k hk j hj u hu
  exact ⟨hc 0 (by omega) _ rfl, hc 1 (by omega) _ rfl, hc 2 (by omega) _ rfl, hc 3 (by omega) _ rfl, hc 4 (by omega) _ rfl, hc 5 (by omega) _ rfl⟩

def totTo (ops : List OpV) (k : Nat) : Nat := ops.length + ((ops.take k).map (fun o => o.s.length + o.t.length)).sum
theorem totTo_succ (ops : List OpV) (k : Nat) (h : k < ops.length) : totTo ops (k + 1) = totTo ops k + (ops[k].s.length + ops[k].t.length) := by
  unfold totTo
  rw [List.take_succ_eq_append_getElem h, List.map_append, List.sum_append]
  simp only [List.map_cons, List.map_nil, List.sum_cons, List.sum_nil, Nat.add_zero]
  omega
theorem totTo_le (ops : List OpV) (k : Nat) (_h : k ≤ ops.length) : totTo ops k ≤ totTo ops ops.length := by
  have e : ops.take ops.length = ops.take k ++ ops.drop k := by rw [List.take_length, List.take_append_drop]
  unfold totTo
  rw [e, List.map_append, List.sum_append]
  omega
theorem totTo_zero (ops : List OpV) : totTo ops 0 = ops.length := by simp [totTo]
def smallB (ops : List OpV) : Bool := decide (totTo ops ops.length ≤ 524288)
/-- Each text takes as many bytes as may be. -/
def Sized (ops : List OpV) : Prop := ∀ o ∈ ops, o.s.length ≤ 140737488355328 ∧ o.t.length ≤ 140737488355328

theorem drewN_below (w : World) (n : Nat) : Below w.heap.size w (w.drewN n) := below_drewN (Below.refl _ _) n

/-! ### plays -/
/-- Numbers lie at an address. -/
def KindsAt (w : World) (ko : Option Addr) (ks : List Int) : Prop :=
  ks ≠ [] → ∃ b off, ko = some ⟨b, off, none⟩ ∧ b < w.heap.size ∧ ∀ j (hj : j < ks.length), w.cell? ⟨b, off + j, none⟩ = some (.int .i64 ks[j])
def inB (ks : List Int) (k : Int) : Bool := base4 k || ks.any (· == k)
def selTo (ks : List Int) (ops : List OpV) (k : Nat) : List OpV := (ops.take k).filter (fun o => inB ks o.kind)
theorem selTo_succ (ks : List Int) (ops : List OpV) (k : Nat) (h : k < ops.length) : selTo ks ops (k + 1) = selTo ks ops k ++ (if inB ks ops[k].kind then [ops[k]] else []) := by
  unfold selTo
  rw [List.take_succ_eq_append_getElem h, List.filter_append]
  congr 1
  simp [List.filter_cons]
theorem selTo_len (ks : List Int) (ops : List OpV) (k : Nat) : (selTo ks ops k).length ≤ ops.length := by
  unfold selTo
  refine Nat.le_trans (List.length_filter_le _ _) ?_
  simp; omega
theorem any_take (ks : List Int) (x : Int) (j : Nat) (h : j < ks.length) : (ks.take (j + 1)).any (· == x) = ((ks.take j).any (· == x) || (ks[j] == x)) := by
  rw [List.take_succ_eq_append_getElem h, List.any_append]; simp

theorem filter_sizes (p : OpV → Bool) (ops : List OpV) : sizeTo (ops.filter p) (ops.filter p).length ≤ totTo ops ops.length := by
  unfold sizeTo totTo
  rw [List.take_length, List.take_length]
  induction ops with
  | nil => simp
  | cons o ops ih =>
    rw [List.filter_cons]
    split
    · simp only [List.map_cons, List.sum_cons, List.length_cons]; omega
    · simp only [List.map_cons, List.sum_cons, List.length_cons]; omega

end Go.Proofs.Ytgipjjhkhfihpaa

namespace Go.Proofs.Ytgipjjhkhfihpaa
open Go.ChangeShapes Go.WideShapes Go.ChangeAt Go.RowKit Go.Deep

theorem Try.cellsInt : Try.prog.cellsOf 3 = 1 := by kernel_rfl
theorem Try.cellsStr : Try.prog.cellsOf 9 = 1 := by kernel_rfl
theorem Try.own : ownKnob Try.prog.godebug = none := by kernel_rfl
theorem Try.laidOut : laidOutB Try.prog = true := by kernel_rfl

section
variable {H : Type} {enc : TypeId × Value → H} {w : World} {base : Nat} {spare : Nat → Bool} {held : Bool}

def OpV.data (o : OpV) : DataW H := .agg [.lit (.int .i64 o.kind), .lit (.int .i64 o.a), .lit (.int .i64 o.b), .lit (.int .i64 o.c), .lit (.string o.s), .lit (.string o.t)]

theorem i64_of_wf {x : Int} (h : (Lit.int .i64 x).wf = true) : i64ok x := bounds_i64 h

theorem weightsAll_in {P : Program} {e : TypeId} : ∀ {l : List (DataW H)} {d : DataW H}, d ∈ l → ∀ n ∈ d.weights P e, n ∈ DataW.weightsAll P e l
  | d0 :: l, d, hd, n, hn => by
    simp only [DataW.weightsAll, List.mem_append]
    rcases List.mem_cons.1 hd with rfl | h
    · exact Or.inl hn
    · exact Or.inr (weightsAll_in h n hn)

end
end Go.Proofs.Ytgipjjhkhfihpaa

namespace Go.Proofs.Ytgipjjhkhfihpaa
open Go.RowKit

abbrev SetV (c : Nat × Nat) : Value := .agg #[.int .i64 (c.1 : Int), .int .i64 (c.2 : Int)]
theorem int_ne_zero (a : Nat) : ((a : Int) != 0) = (a != 0) := by
  rw [Bool.eq_iff_iff, bne_iff_ne, bne_iff_ne]; omega
theorem int_eq_zero (a : Nat) : ((a : Int) == 0) = (a == 0) := by
  rw [Bool.eq_iff_iff, beq_iff_eq, beq_iff_eq]; omega
theorem and_lt9 (a b : Nat) (ha : a < 512) : a &&& b < 512 := Nat.lt_of_le_of_lt Nat.and_le_left ha
theorem less_lt9 (a b : Nat) (ha : a < 512) : less a b < 512 := Nat.lt_of_le_of_lt (less_le a b) ha

set_option maxRecDepth 100000 in
set_option maxHeartbeats 800000 in
theorem varOf_any (x : Int) (w : World) (hx : -9223372036854775807 ≤ x) (hx2 : x ≤ 9223372036854775807) :
    Calls Try.prog 52 #[.int .i64 x] w fun e w' => e = .returned (.int .i64 (x.natAbs : Nat)) ∧ w' = w := by
  by_cases h : x < 0
  · have hd : decide (x < 0) = true := by simpa using h
    have hwx : IntKind.i64.wrap (-x) = -x := by
      obtain ⟨m, hm⟩ := Int.eq_ofNat_of_zero_le (show 0 ≤ -x by omega)
      rw [hm]; exact wrap_i64_nat m (by omega)
    go_enter Try.func52, Try.ntmps52
    go_wp2_with fail
    go_ret
    exact ⟨ret_int (by omega), rfl⟩
  · have hd : decide (x < 0) = false := by simpa using h
    go_enter Try.func52, Try.ntmps52
    go_wp2_with fail
    go_ret
    exact ⟨ret_int (by omega), rfl⟩

set_option maxRecDepth 100000 in
set_option maxHeartbeats 800000 in
theorem empty_any (p n : Nat) (w : World) (hp : p < 512) (hn : n < 512) :
    Calls Try.prog 34 #[SetV (p, n)] w fun e w' => e = .returned (.bool (p ||| n == 0)) ∧ Below w.heap.size w w' := by
  have hor : bits .or .i64 (p : Int) (n : Int) = ((p ||| n : Nat) : Int) := i64_or _ _ (by omega) (by omega)
  have HE := hide (int_eq_zero (p ||| n))
  go_enter Try.func34, Try.ntmps34
  go_wp2_with fail
  go_ret
  exact ⟨ret_bool (unhide HE), (Below.refl _ _).alloc (Nat.le_refl _) _⟩

set_option maxRecDepth 100000 in
set_option maxHeartbeats 800000 in
theorem clashes_any (p n : Nat) (w : World) (hp : p < 512) (hn : n < 512) :
    Calls Try.prog 51 #[SetV (p, n)] w fun e w' => e = .returned (.bool (p &&& n != 0)) ∧ Below w.heap.size w w' := by
  have hand : bits .and .i64 (p : Int) (n : Int) = ((p &&& n : Nat) : Int) := i64_and _ _ (by omega) (by omega)
  have HE := hide (int_ne_zero (p &&& n))
  go_enter Try.func51, Try.ntmps51
  go_wp2_with fail
  go_ret
  exact ⟨ret_bool (unhide HE), (Below.refl _ _).alloc (Nat.le_refl _) _⟩

set_option maxRecDepth 100000 in
set_option maxHeartbeats 800000 in
theorem meets_any (p n p2 n2 : Nat) (w : World) (hp : p < 512) (hn : n < 512) (hp2 : p2 < 512) (hn2 : n2 < 512) :
    Calls Try.prog 58 #[SetV (p, n), SetV (p2, n2)] w fun e w' => e = .returned (.bool ((p &&& p2) ||| (n &&& n2) != 0)) ∧ Below w.heap.size w w' := by
  have h1 : bits .and .i64 (p : Int) (p2 : Int) = ((p &&& p2 : Nat) : Int) := i64_and _ _ (by omega) (by omega)
  have h2 : bits .and .i64 (n : Int) (n2 : Int) = ((n &&& n2 : Nat) : Int) := i64_and _ _ (by omega) (by omega)
  have h3 : bits .or .i64 ((p &&& p2 : Nat) : Int) ((n &&& n2 : Nat) : Int) = (((p &&& p2) ||| (n &&& n2) : Nat) : Int) := i64_or _ _ (by have := and_lt9 p p2 hp; omega) (by have := and_lt9 n n2 hn; omega)
  have HE := hide (int_ne_zero ((p &&& p2) ||| (n &&& n2)))
  go_enter Try.func58, Try.ntmps58
  go_wp2_with fail
  go_ret
  exact ⟨ret_bool (unhide HE), ((Below.refl _ _).alloc (Nat.le_refl _) _).alloc (by simp) _⟩

/-- A set has a literal. -/
def hasLit (c : Nat × Nat) (x : Int) : Bool := if x < 0 then c.2 &&& bitOf (-x) != 0 else c.1 &&& bitOf x != 0
set_option maxRecDepth 100000 in
set_option maxHeartbeats 800000 in
theorem has_any (p n : Nat) (x : Int) (w : World) (hp : p < 512) (hn : n < 512) (hx : -9223372036854775807 ≤ x) (hx2 : x ≤ 9223372036854775807) :
    Calls Try.prog 48 #[SetV (p, n), .int .i64 x] w fun e w' => e = .returned (.bool (hasLit (p, n) x)) ∧ Below w.heap.size w w' := by
  by_cases h : x < 0
  · have HW : Hid (hasLit (p, n) x = (n &&& bitOf (-x) != 0)) := hide (by unfold hasLit; rw [if_pos h])
    have hd : decide (x < 0) = true := by simpa using h
    have hwx : IntKind.i64.wrap (-x) = -x := by
      obtain ⟨m, hm⟩ := Int.eq_ofNat_of_zero_le (show 0 ≤ -x by omega)
      rw [hm]; exact wrap_i64_nat m (by omega)
    have hand : bits .and .i64 (n : Int) (bitOf (-x) : Nat) = ((n &&& bitOf (-x) : Nat) : Int) := i64_and _ _ (by omega) (by have := bitOf_lt (-x); omega)
    have HE := hide (int_ne_zero (n &&& bitOf (-x)))
    go_enter Try.func48, Try.ntmps48
    go_wp2_with fail
    go_quiet ((go_at_call 50; exact Calls.quiet_of_same (bit_any _ _)))
    go_wp2_with fail
    go_ret
    exact ⟨ret_bool (by rw [unhide HW]; exact unhide HE), below_drewN ((Below.refl _ _).alloc (Nat.le_refl _) _) nq⟩
  · have HW : Hid (hasLit (p, n) x = (p &&& bitOf x != 0)) := hide (by unfold hasLit; rw [if_neg h])
    have hd : decide (x < 0) = false := by simpa using h
    have hand : bits .and .i64 (p : Int) (bitOf x : Nat) = ((p &&& bitOf x : Nat) : Int) := i64_and _ _ (by omega) (by have := bitOf_lt x; omega)
    have HE := hide (int_ne_zero (p &&& bitOf x))
    go_enter Try.func48, Try.ntmps48
    go_wp2_with fail
    go_quiet ((go_at_call 50; exact Calls.quiet_of_same (bit_any _ _)))
    go_wp2_with fail
    go_ret
    exact ⟨ret_bool (by rw [unhide HW]; exact unhide HE), below_drewN ((Below.refl _ _).alloc (Nat.le_refl _) _) nq⟩

set_option maxRecDepth 100000 in
set_option maxHeartbeats 800000 in
theorem union_any (p n p2 n2 : Nat) (w : World) (hp : p < 512) (hn : n < 512) (hp2 : p2 < 512) (hn2 : n2 < 512) :
    Calls Try.prog 60 #[SetV (p, n), SetV (p2, n2)] w fun e w' => e = .returned (SetV (p ||| p2, n ||| n2)) ∧ Below w.heap.size w w' := by
  have h1 : bits .or .i64 (p : Int) (p2 : Int) = ((p ||| p2 : Nat) : Int) := i64_or _ _ (by omega) (by omega)
  have h2 : bits .or .i64 (n : Int) (n2 : Int) = ((n ||| n2 : Nat) : Int) := i64_or _ _ (by omega) (by omega)
  go_enter Try.func60, Try.ntmps60
  go_wp2_with fail
  refine bodyPost_ret (v := SetV (p ||| p2, n ||| n2)) (by simp [results, Try.results60, go_sem]) rfl ⟨rfl, ?_⟩
  exact ((((Below.refl _ _).alloc (Nat.le_refl _) _).alloc (by simp) _)).alloc (by simp; omega) _

/-- A set without a variable's literals. -/
def without (c : Nat × Nat) (v : Int) : Nat × Nat := (less c.1 (bitOf v), less c.2 (bitOf v))
set_option maxRecDepth 100000 in
set_option maxHeartbeats 800000 in
theorem withoutVar_any (p n : Nat) (v : Int) (w : World) (hp : p < 512) (hn : n < 512) :
    Calls Try.prog 61 #[SetV (p, n), .int .i64 v] w fun e w' => e = .returned (SetV (without (p, n) v)) ∧ Below w.heap.size w w' := by
  have hb := bitOf_lt v
  have h1 : bits .andNot .i64 (p : Int) (bitOf v : Nat) = ((less p (bitOf v) : Nat) : Int) := i64_andNot _ _ (by omega) (by omega)
  have h2 : bits .andNot .i64 (n : Int) (bitOf v : Nat) = ((less n (bitOf v) : Nat) : Int) := i64_andNot _ _ (by omega) (by omega)
  go_enter Try.func61, Try.ntmps61
  go_wp2_with fail
  refine (bit_any _ _).mono ?_
  rintro e w1 ⟨rfl, rfl⟩
  go_wp2_with fail
  refine bodyPost_ret (v := SetV (without (p, n) v)) (by simp [results, Try.results61, go_sem, without]) rfl ⟨rfl, ?_⟩
  exact (((Below.refl _ _).alloc (Nat.le_refl _) _).alloc (by simp) _)
end Go.Proofs.Ytgipjjhkhfihpaa

namespace Go.Proofs.Ytgipjjhkhfihpaa
open Go.RowKit

/-- What holds of the formula and the steps. -/
structure QB (q : QS) : Prop where
  vl : q.vars.length ≤ 8
  cl : q.cl.length ≤ 24
  bits : ∀ c ∈ q.cl, c.1 < 512 ∧ c.2 < 512
  names : ∀ x ∈ q.vars, 1 ≤ x.1 ∧ x.1 ≤ 8
structure SB (ss : List (Nat × Nat)) : Prop where
  len : ss.length ≤ 9000
  bits : ∀ c ∈ ss, c.1 < 512 ∧ c.2 < 512
def pivotB (kind : Nat) (u : Bool) : Bool := u == (kind == 2)
def hasVarB (c : Nat × Nat) (v : Nat) : Bool := (c.1 ||| c.2) &&& bitOf v != 0
/-- From the innermost variable outwards. -/
def redQ (kind : Nat) : List (Nat × Bool) → Nat × Nat → Nat × Nat
  | [], c => c
  | v :: vs, c => if hasVarB c v.1 then (if pivotB kind v.2 then c else redQ kind vs (without c v.1)) else redQ kind vs c
theorem without_lt (c : Nat × Nat) (v : Int) (h : c.1 < 512 ∧ c.2 < 512) : (without c v).1 < 512 ∧ (without c v).2 < 512 := ⟨less_lt9 _ _ h.1, less_lt9 _ _ h.2⟩
theorem redQ_lt (kind : Nat) (vs : List (Nat × Bool)) : ∀ (c : Nat × Nat), c.1 < 512 ∧ c.2 < 512 → (redQ kind vs c).1 < 512 ∧ (redQ kind vs c).2 < 512 := by
  induction vs with
  | nil => intro c h; exact h
  | cons v vs ih =>
    intro c h
    rw [redQ]
    split
    · split
      · exact h
      · exact ih _ (without_lt _ _ h)
    · exact ih _ h
theorem redQ_step (kind : Nat) (vs : List (Nat × Bool)) (k : Nat) (h : k < vs.length) (c : Nat × Nat) :
    redQ kind (vs.take (k + 1)).reverse c = if hasVarB c vs[k].1 then (if pivotB kind vs[k].2 then c else redQ kind (vs.take k).reverse (without c vs[k].1)) else redQ kind (vs.take k).reverse c := by
  rw [List.take_succ_eq_append_getElem h, List.reverse_append]
  rfl
def without2 (a b : Nat × Nat) (v : Nat) : Nat × Nat := without (a.1 ||| b.1, a.2 ||| b.2) v
def okC (x c : Nat × Nat) : Bool := ((x.1 &&& c.1) ||| (x.2 &&& c.2) != 0) || (x.1 &&& x.2 != 0)
def satQ (cl : List (Nat × Nat)) (c : Nat × Nat) : Bool := cl.all (okC · c)
theorem satQ_take (cl : List (Nat × Nat)) (c : Nat × Nat) (k : Nat) (h : k < cl.length) : satQ (cl.take (k + 1)) c = (satQ (cl.take k) c && okC cl[k] c) := by
  unfold satQ; rw [List.take_succ_eq_append_getElem h, List.all_append]; simp
theorem satQ_of (cl : List (Nat × Nat)) (c : Nat × Nat) (k : Nat) (h : k < cl.length) (hc : okC cl[k] c = false) : satQ cl c = false := by
  unfold satQ; rw [List.all_eq_false]; exact ⟨cl[k], List.getElem_mem h, by rw [hc]; decide⟩

/-! ### Steps as the program holds them -/
structure Stp where
  rule : Nat
  first : Nat
  second : Nat
  var : Nat
  lits : Nat × Nat
def litsAt (p : List Stp) (n : Nat) : Nat × Nat := if n = 0 then (0, 0) else match p[n - 1]? with
  | some s => s.lits
  | none => (0, 0)
def psCells (l : List Stp) : List Value := l.flatMap (fun s => [Value.int .i64 (s.rule : Int), Value.int .i64 (s.first : Int), Value.int .i64 (s.second : Int), Value.int .i64 (s.var : Int), Value.int .i64 (s.lits.1 : Int), Value.int .i64 (s.lits.2 : Int)])
theorem psCells_length (l : List Stp) : (psCells l).length = l.length * 6 := by
  induction l with
  | nil => rfl
  | cons a l ih => simp [psCells] at *; omega
theorem psCells_snoc (l : List Stp) (s : Stp) : psCells (l ++ [s]) = psCells l ++ [Value.int .i64 (s.rule : Int), Value.int .i64 (s.first : Int), Value.int .i64 (s.second : Int), Value.int .i64 (s.var : Int), Value.int .i64 (s.lits.1 : Int), Value.int .i64 (s.lits.2 : Int)] := by simp [psCells]
theorem psCells_at (l : List Stp) (k j : Nat) (h : k < l.length) (hj : j < 6) : (psCells l)[k * 6 + j]? = [Value.int .i64 (l[k].rule : Int), Value.int .i64 (l[k].first : Int), Value.int .i64 (l[k].second : Int), Value.int .i64 (l[k].var : Int), Value.int .i64 (l[k].lits.1 : Int), Value.int .i64 (l[k].lits.2 : Int)][j]? := by
  induction l generalizing k with
  | nil => simp at h
  | cons a l ih =>
    cases k with
    | zero =>
      simp only [psCells, List.flatMap_cons, Nat.zero_mul, Nat.zero_add, List.getElem_cons_zero]
      rw [List.getElem?_append_left (by simpa using hj)]
    | succ k =>
      have := ih k (by simpa using h)
      simp only [psCells, List.flatMap_cons] at this ⊢
      rw [show (k + 1) * 6 + j = (k * 6 + j) + 6 from by omega, List.getElem?_append_right (by simp)]
      simpa using this
theorem litsAt_in (p : List Stp) (m : Nat) (h : m < p.length) : litsAt p (m + 1) = p[m].lits := by
  unfold litsAt; rw [if_neg (by omega), Nat.add_sub_cancel, List.getElem?_eq_getElem h]
theorem litsAt_out (p : List Stp) (n : Nat) (h : n < 1 ∨ p.length < n) : litsAt p n = (0, 0) := by
  unfold litsAt
  split
  · rfl
  · rw [List.getElem?_eq_none (by omega)]
theorem litsAt_lt (p : List Stp) (h : ∀ s ∈ p, s.lits.1 < 512 ∧ s.lits.2 < 512) (n : Nat) : (litsAt p n).1 < 512 ∧ (litsAt p n).2 < 512 := by
  unfold litsAt
  split
  · exact ⟨by decide, by decide⟩
  · split
    · next s hs => exact h s (List.mem_of_getElem? hs)
    · exact ⟨by decide, by decide⟩
end Go.Proofs.Ytgipjjhkhfihpaa

namespace Go.Proofs.Ytgipjjhkhfihpaa
open Go.RowKit

/-! ### The search, as a function -/
def meetsB (a b : Nat × Nat) : Bool := (a.1 &&& b.1) ||| (a.2 &&& b.2) != 0
def clashB (a : Nat × Nat) : Bool := a.1 &&& a.2 != 0
def emptyB (a : Nat × Nat) : Bool := a.1 ||| a.2 == 0
def minus (a b : Nat × Nat) : Nat × Nat := (less a.1 b.1, less a.2 b.2)
def swapL (a : Nat × Nat) : Nat × Nat := (a.2, a.1)
/-- The resolvent of two steps, added. -/
def resP (p : List Stp) (a b v : Nat) : List Stp × Nat :=
  if hasLit (litsAt p a) v then (p ++ [⟨3, a, b, v, without2 (litsAt p a) (litsAt p b) v⟩], p.length + 1)
  else (p ++ [⟨3, b, a, v, without2 (litsAt p b) (litsAt p a) v⟩], p.length + 1)
def redP (q : QS) (kind : Nat) (p : List Stp) (n : Nat) : List Stp × Nat :=
  if redQ kind q.vars.reverse (litsAt p n) = litsAt p n then (p, n) else (p ++ [⟨4, n, 0, 0, redQ kind q.vars.reverse (litsAt p n)⟩], p.length + 1)
/-- What changes while nodes are looked at. -/
structure SS where
  nodes : Nat
  ref : List Stp
  aff : List Stp
  kept : List (Nat × Nat)
  most : Nat
/-- What doesn't. -/
structure SC where
  q : QS
  uni : Nat × Nat
  budget : Nat
  room : Nat
def SS.proof (s : SS) (kind : Nat) : List Stp := if kind = 2 then s.aff else s.ref
def SS.lits (s : SS) (f : Nat × Nat) : Nat × Nat := litsAt (s.proof f.1) f.2
def SS.put (s : SS) (kind : Nat) (p : List Stp) : SS := if kind = 2 then { s with aff := p } else { s with ref := p }
def storeK (room : Nat) (kept : List (Nat × Nat)) (f : Nat × Nat) : List (Nat × Nat) := if room = 0 then kept else if room ≤ kept.length then kept.drop 1 ++ [f] else kept ++ [f]
def storeM (room : Nat) (kept : List (Nat × Nat)) (f : Nat × Nat) (most : Nat) : Nat := if room = 0 then most else if most < (storeK room kept f).length then (storeK room kept f).length else most
def SS.store (room : Nat) (s : SS) (f : Nat × Nat) : SS := { s with kept := storeK room s.kept f, most := storeM room s.kept f s.most }
def SS.keep (room : Nat) (s : SS) (f : Nat × Nat) : SS := if emptyB (s.lits f) then s else s.store room f
def SS.reduce (q : QS) (s : SS) (f : Nat × Nat) : SS × (Nat × Nat) := (s.put f.1 (redP q f.1 (s.proof f.1) f.2).1, (f.1, (redP q f.1 (s.proof f.1) f.2).2))

def clausesOf (q : QS) (kept : List (Nat × Nat)) : List Nat := (List.range q.cl.length).map (· + 1) ++ (kept.filter (fun f => f.1 == 1)).map (·.2)
def leftOf (c vals : Nat × Nat) : Nat × Nat := minus c (swapL vals)
def openB (c vals : Nat × Nat) : Bool := !meetsB c vals && !clashB c
def isConf (uni vals c : Nat × Nat) : Bool := openB c vals && emptyB (minus (leftOf c vals) uni)
def confOf (ref : List Stp) (uni : Nat × Nat) (cs : List Nat) (vals : Nat × Nat) : Nat := (cs.find? (fun s => isConf uni vals (litsAt ref s))).getD 0
def listFrom (c : Nat × Nat) : Nat → Nat → List Int
  | 0, _ => []
  | k + 1, v => (if hasLit c v then [(v : Int)] else []) ++ ((if hasLit c (-(v : Int)) then [-(v : Int)] else []) ++ listFrom c k (v + 1))
/-- The literals, rising. -/
def listOf (c : Nat × Nat) : List Int := listFrom c 8 1
def isUnit (uni vals c : Nat × Nat) : Bool := openB c vals && ((listOf (leftOf c vals)).length == 1 && !meetsB (leftOf c vals) uni)
def unitOf (ref : List Stp) (uni : Nat × Nat) (cs : List Nat) (vals : Nat × Nat) : Int × Nat := match cs.find? (fun s => isUnit uni vals (litsAt ref s)) with
  | none => (0, 0)
  | some s => ((listOf (leftOf (litsAt ref s) vals)).headD 0, s)
structure US where
  vals : Nat × Nat
  trail : List (Int × Nat)
  conf : Nat
def unitsGo (ref : List Stp) (uni : Nat × Nat) (cs : List Nat) : Nat → Nat × Nat → List (Int × Nat) → US
  | 0, vals, trail => ⟨vals, trail, 0⟩
  | m + 1, vals, trail => if confOf ref uni cs vals ≠ 0 then ⟨vals, trail, confOf ref uni cs vals⟩ else
    if (unitOf ref uni cs vals).2 = 0 then ⟨vals, trail, 0⟩ else unitsGo ref uni cs m (withLit vals (unitOf ref uni cs vals).1) (trail ++ [unitOf ref uni cs vals])
def unitsOf (C : SC) (s : SS) (path : Nat × Nat) : US := unitsGo s.ref C.uni (clausesOf C.q s.kept) (C.q.vars.length + 1) path []
/-- From the last unit to the first. -/
def expl : List (Int × Nat) → List Stp → Nat → List Stp × Nat
  | [], p, n => (p, n)
  | m :: ms, p, n => if hasLit (litsAt p n) (-m.1) then expl ms (resP p m.2 n m.1.natAbs).1 (resP p m.2 n m.1.natAbs).2 else expl ms p n
def explain (C : SC) (s : SS) (u : US) : SS × (Nat × Nat) :=
  let r := expl u.trail.reverse s.ref u.conf
  let d := redP C.q 1 r.1 r.2
  let s2 : SS := { s with ref := d.1 }
  (if r.2 ≠ u.conf then s2.keep C.room (1, d.2) else s2, (1, d.2))
def holdsB (c path : Nat × Nat) : Bool := emptyB (minus c path)
def shrinkStep (q : QS) (u : Bool) (c : Nat × Nat) (v : Nat × Bool) : Nat × Nat := if v.2 = u ∧ satQ q.cl (without c v.1) = true then without c v.1 else c
def shrinkK (q : QS) (u : Bool) (c : Nat × Nat) : Nat × Nat := q.vars.reverse.foldl (shrinkStep q u) c
def shrinkQ (q : QS) (c : Nat × Nat) : Nat × Nat := shrinkK q false (shrinkK q true c)
def cubeOf (C : SC) (s : SS) (path vals : Nat × Nat) : SS × (Nat × Nat) :=
  match s.kept.find? (fun f => f.1 == 2 && holdsB (s.lits f) path) with
  | some f => (s, f)
  | none => if satQ C.q.cl vals then
      let p := s.aff ++ [⟨2, 0, 0, 0, shrinkQ C.q vals⟩]
      let d := redP C.q 2 p p.length
      let s2 : SS := { s with aff := d.1 }
      (s2.keep C.room (2, d.2), (2, d.2))
    else (s, (0, 0))
/-- A node ahead of its branches: what was found, or the values. -/
def nodeOf (C : SC) (s : SS) (path : Nat × Nat) : (SS × (Nat × Nat)) ⊕ (SS × (Nat × Nat)) :=
  if 0 < C.budget ∧ C.budget ≤ s.nodes then .inl (s, (0, 0)) else
  let s1 : SS := { s with nodes := s.nodes + 1 }
  let u := unitsOf C s1 path
  if u.conf ≠ 0 then .inl (explain C s1 u) else
  let r := cubeOf C s1 path u.vals
  if r.2.1 ≠ 0 then .inl r else .inr (r.1, u.vals)
def joinOf (C : SC) (s : SS) (a b : Nat × Nat) (v : Nat) : SS × (Nat × Nat) :=
  let r := resP (s.proof a.1) a.2 b.2 v
  let d := redP C.q a.1 r.1 r.2
  let s2 := s.put a.1 d.1
  (s2.keep C.room (a.1, d.2), (a.1, d.2))
def lookM (C : SC) : Nat → Nat × Nat → Nat → SS → SS × (Nat × Nat)
  | 0, path, _, s => match nodeOf C s path with
    | .inl r => r
    | .inr r => (r.1, (0, 0))
  | m + 1, path, depth, s => match nodeOf C s path with
    | .inl r => r
    | .inr (s1, vals) =>
      let v := (C.q.vars.getD depth (0, false)).1
      let side : Int := if hasLit vals (-(v : Int)) then -(v : Int) else v
      let a := lookM C m (withLit path side) (depth + 1) s1
      if hasVarB (a.1.lits a.2) v then
        let b := lookM C m (withLit path (-side)) (depth + 1) a.1
        if hasVarB (b.1.lits b.2) v then joinOf C b.1 a.2 b.2 v else b
      else a
/-! ### What is needed of a proof, and its text -/
def markOne (b : Bool) (i n : Nat) (m : List Bool) : List Bool := if b = true ∧ 0 < n ∧ n < i then m.set n true else m
def markStep (p : List Stp) (last i : Nat) (m : List Bool) : List Bool :=
  let m1 := if i = last then m.set i true else m
  let b := m1.getD i false && decide ((p.getD (i - 1) ⟨0, 0, 0, 0, (0, 0)⟩).rule ≠ 1)
  markOne b i (p.getD (i - 1) ⟨0, 0, 0, 0, (0, 0)⟩).second (markOne b i (p.getD (i - 1) ⟨0, 0, 0, 0, (0, 0)⟩).first m1)
def markTo (p : List Stp) (last : Nat) : Nat → List Bool → List Bool
  | 0, m => m
  | i + 1, m => markTo p last i (markStep p last (i + 1) m)
def needs (p : List Stp) (last : Nat) : List Bool := markTo p last p.length (List.replicate (p.length + 1) false)
/-- A step with the new numbers of those that it is made of. -/
def renum (nums : List Nat) (i : Nat) (s : Stp) : Stp := { s with first := if s.rule ≠ 1 ∧ s.first ≤ i then nums.getD s.first 0 else s.first, second := if s.second ≤ i then nums.getD s.second 0 else s.second }
def shortTo (p : List Stp) (mk : List Bool) : Nat → List Stp → List Nat → List Stp × List Nat
  | 0, sh, nums => (sh, nums)
  | m + 1, sh, nums =>
    let i := p.length - (m + 1)
    if mk.getD (i + 1) false then shortTo p mk m (sh ++ [renum nums i (p.getD i ⟨0, 0, 0, 0, (0, 0)⟩)]) (nums.set (i + 1) (sh.length + 1)) else shortTo p mk m sh nums
def shortOf (p : List Stp) (last : Nat) : List Stp := (shortTo p (needs p last) p.length [] (List.replicate (p.length + 1) 0)).1

def uniTo (vs : List (Nat × Bool)) (u : Nat × Nat) : Nat × Nat := vs.foldl (fun u v => if v.2 then withLit (withLit u v.1) (-(v.1 : Int)) else u) u
def axioms (cl : List (Nat × Nat)) : List Stp := cl.zipIdx.map (fun c => ⟨1, c.2 + 1, 0, 0, c.1⟩)
def beginC (q : QS) (budget room : Nat) : SC := ⟨q, uniTo q.vars (0, 0), budget, room⟩
def beginS (q : QS) : SS := ⟨0, axioms q.cl, [], [], 0⟩
def solveM (q : QS) (budget room : Nat) : SS × (Nat × Nat) := lookM (beginC q budget room) q.vars.length (0, 0) 0 (beginS q)
end Go.Proofs.Ytgipjjhkhfihpaa

namespace Go.Proofs.Ytgipjjhkhfihpaa

/-! ### Truth by all assignments, and why steps prove -/
/-- Variable by variable: one value that makes it so, or (of universal ones) both. -/
def fromL (sat : Nat → Bool) (all : Nat) : List Nat → Nat → Bool
  | [], t => sat t
  | v :: vs, t => if fromL sat all vs (t ||| 2 ^ v) != all.testBit v then fromL sat all vs (t ||| 2 ^ v) else fromL sat all vs t
/-- A set of literals is hit by t: it has one that is true (val: true), or one that is false (val: false). -/
def Hit (val : Bool) (c : Nat × Nat) (t : Nat) : Prop := ∃ v, (c.1.testBit v = true ∧ t.testBit v = val) ∨ (c.2.testBit v = true ∧ t.testBit v = !val)
/-- t comes out of t0 by values of vs, at each of which the outcome stays val. -/
def Plays (sat : Nat → Bool) (all : Nat) (val : Bool) : List Nat → Nat → Nat → Prop
  | [], t0, t => sat t0 = val ∧ t = t0
  | v :: vs, t0, t => fromL sat all (v :: vs) t0 = val ∧ ∃ b : Bool, Plays sat all val vs (if b then t0 ||| 2 ^ v else t0) t

section
variable {sat : Nat → Bool} {all : Nat} {val : Bool}

theorem Plays.from {vs : List Nat} {t0 t : Nat} (h : Plays sat all val vs t0 t) : fromL sat all vs t0 = val := by
  cases vs with
  | nil => exact h.1
  | cons v vs => exact h.1
theorem from_both {v : Nat} {vs : List Nat} {t : Nat} (h : fromL sat all (v :: vs) t = val) (hk : all.testBit v = val) (b : Bool) : fromL sat all vs (if b then t ||| 2 ^ v else t) = val := by
  rw [fromL, hk] at h
  cases ha : fromL sat all vs (t ||| 2 ^ v) <;> cases hv : val <;> cases b <;> simp_all
theorem from_one {v : Nat} {vs : List Nat} {t : Nat} (h : fromL sat all (v :: vs) t = val) : ∃ b : Bool, fromL sat all vs (if b then t ||| 2 ^ v else t) = val := by
  rw [fromL] at h
  split at h
  · exact ⟨true, h⟩
  · exact ⟨false, h⟩
theorem bit_or (t v u : Nat) : (t ||| 2 ^ v).testBit u = (t.testBit u || decide (v = u)) := by rw [Nat.testBit_or, Nat.testBit_two_pow]
theorem pick_bit (b : Bool) (t v u : Nat) (h : u ≠ v) : (if b then t ||| 2 ^ v else t).testBit u = t.testBit u := by
  cases b with
  | false => rfl
  | true => rw [if_pos rfl, bit_or]; simp [Ne.symm h]
theorem pick_at (b : Bool) (t v : Nat) (h : t.testBit v = false) : (if b then t ||| 2 ^ v else t).testBit v = b := by
  cases b with
  | false => exact h
  | true => rw [if_pos rfl, bit_or]; simp
/-- Bits of other variables stay. -/
theorem Plays.stays : ∀ {vs : List Nat} {t0 t : Nat}, Plays sat all val vs t0 t → ∀ u, u ∉ vs → t.testBit u = t0.testBit u := by
  intro vs
  induction vs with
  | nil => intro t0 t h u _; rw [h.2]
  | cons v vs ih =>
    intro t0 t h u hu
    obtain ⟨_, b, h⟩ := h
    rw [List.mem_cons, not_or] at hu
    rw [ih h u hu.2, pick_bit _ _ _ _ hu.1]
/-- Where the outcome is val, some play leads on, whatever values the variables have that are of the kind that val is for. -/
theorem plays_ext (f : Nat → Bool) : ∀ (vs : List Nat) (t0 : Nat), fromL sat all vs t0 = val → vs.Nodup → (∀ v ∈ vs, t0.testBit v = false) → ∃ t, Plays sat all val vs t0 t ∧ ∀ v ∈ vs, all.testBit v = val → t.testBit v = f v := by
  intro vs
  induction vs with
  | nil => intro t0 h _ _; exact ⟨t0, ⟨h, rfl⟩, by simp⟩
  | cons v vs ih =>
    intro t0 h hn h0
    rw [List.nodup_cons] at hn
    have hstep : ∃ b : Bool, fromL sat all vs (if b then t0 ||| 2 ^ v else t0) = val ∧ (all.testBit v = val → b = f v) := by
      by_cases hk : all.testBit v = val
      · exact ⟨f v, from_both h hk _, fun _ => rfl⟩
      · obtain ⟨b, hb⟩ := from_one h
        exact ⟨b, hb, fun e => absurd e hk⟩
    obtain ⟨b, hb, hf⟩ := hstep
    obtain ⟨t, hp, ht⟩ := ih _ hb hn.2 (fun u hu => by
      rw [pick_bit b t0 v u (fun e => hn.1 (by rw [← e]; exact hu))]
      exact h0 u (by simp [hu]))
    refine ⟨t, ⟨h, b, hp⟩, fun u hu hk => ?_⟩
    rcases List.mem_cons.1 hu with rfl | hu
    · rw [hp.stays u hn.1, pick_at _ _ _ (h0 u (by simp))]
      exact hf hk
    · exact ht u hu hk
theorem plays_any_one (vs : List Nat) (t0 : Nat) (h : fromL sat all vs t0 = val) (hn : vs.Nodup) (h0 : ∀ v ∈ vs, t0.testBit v = false) : ∃ t, Plays sat all val vs t0 t := by
  obtain ⟨t, ht, _⟩ := plays_ext (fun _ => false) vs t0 h hn h0
  exact ⟨t, ht⟩
/-- A play cut in two. -/
theorem Plays.cut : ∀ {a b : List Nat} {t0 t : Nat}, Plays sat all val (a ++ b) t0 t → ∃ t1, Plays sat all val b t1 t ∧ (∀ t', Plays sat all val b t1 t' → Plays sat all val (a ++ b) t0 t') ∧ (∀ u, u ∉ a → t1.testBit u = t0.testBit u) := by
  intro a
  induction a with
  | nil => intro b t0 t h; exact ⟨t0, h, fun t' h' => h', fun u _ => rfl⟩
  | cons v a ih =>
    intro b t0 t h
    obtain ⟨h1, c, h2⟩ := h
    obtain ⟨t1, h3, h4, h5⟩ := ih h2
    refine ⟨t1, h3, fun t' h' => ⟨h1, c, h4 t' h'⟩, fun u hu => ?_⟩
    rw [List.mem_cons, not_or] at hu
    rw [h5 u hu.2, pick_bit _ _ _ _ hu.1]
theorem Plays.leaf : ∀ {vs : List Nat} {t0 t : Nat}, Plays sat all val vs t0 t → sat t = val := by
  intro vs
  induction vs with
  | nil => intro t0 t h; rw [h.2]; exact h.1
  | cons v vs ih => intro t0 t h; obtain ⟨_, b, h⟩ := h; exact ih h

/-- What holds of every step of a proof. -/
structure Good (sat : Nat → Bool) (all : Nat) (val : Bool) (order : List Nat) (c : Nat × Nat) : Prop where
  apart : ∀ v, c.1.testBit v = true → c.2.testBit v = true → False
  vars : ∀ v, c.1.testBit v = true ∨ c.2.testBit v = true → v ∈ order
  hits : ∀ t, Plays sat all val order 0 t → Hit val c t

/-- Reduction. -/
theorem good_reduced {pre suf : List Nat} {c c' : Nat × Nat} (hg : Good sat all val (pre ++ suf) c) (hn : (pre ++ suf).Nodup)
    (hlast : ∀ v ∈ suf, c.1.testBit v = true ∨ c.2.testBit v = true → all.testBit v = val)
    (h1 : ∀ v, c'.1.testBit v = (c.1.testBit v && !(decide (v ∈ suf) && (all.testBit v == val)))) (h2 : ∀ v, c'.2.testBit v = (c.2.testBit v && !(decide (v ∈ suf) && (all.testBit v == val)))) : Good sat all val (pre ++ suf) c' := by
  have s1 : ∀ v, c'.1.testBit v = true → c.1.testBit v = true := fun v h => by rw [h1, Bool.and_eq_true] at h; exact h.1
  have s2 : ∀ v, c'.2.testBit v = true → c.2.testBit v = true := fun v h => by rw [h2, Bool.and_eq_true] at h; exact h.1
  refine ⟨fun v a b => hg.apart v (s1 v a) (s2 v b), fun v h => hg.vars v (h.elim (fun h => Or.inl (s1 v h)) (fun h => Or.inr (s2 v h))), fun t ht => ?_⟩
  obtain ⟨t1, h3, h4, h5⟩ := ht.cut
  rw [List.nodup_append] at hn
  obtain ⟨hn1, hn2, hn3⟩ := hn
  have hz : ∀ v ∈ suf, t1.testBit v = false := fun v hv => by
    rw [h5 v (fun hp => hn3 v hp v hv rfl)]; simp
  obtain ⟨t', hp', hf'⟩ := plays_ext (fun v => if c.1.testBit v then !val else val) suf t1 h3.from hn2 hz
  obtain ⟨v, hv⟩ := hg.hits t' (h4 t' hp')
  have hvo : v ∈ pre ++ suf := hg.vars v (hv.elim (fun h => Or.inl h.1) (fun h => Or.inr h.1))
  by_cases hs : v ∈ suf
  · have hk := hlast v hs (hv.elim (fun h => Or.inl h.1) (fun h => Or.inr h.1))
    have hb := hf' v hs hk
    rcases hv with ⟨a, b⟩ | ⟨a, b⟩
    · rw [b, a, if_pos rfl] at hb
      cases val <;> cases hb
    · have hc1 : c.1.testBit v = false := by
        cases h : c.1.testBit v with
        | false => rfl
        | true => exact (hg.apart v h a).elim
      rw [b, hc1, if_neg (by decide)] at hb
      cases val <;> cases hb
  · have e1 : t'.testBit v = t.testBit v := by rw [hp'.stays v hs, h3.stays v hs]
    refine ⟨v, ?_⟩
    rw [h1, h2, ← e1]
    simpa [hs] using hv
/-- Resolution. -/
theorem good_resolved {order : List Nat} {a b c : Nat × Nat} {p : Nat} (ha : Good sat all val order a) (hb : Good sat all val order b) (_hap : a.1.testBit p = true) (_hbp : b.2.testBit p = true)
    (h1 : ∀ v, c.1.testBit v = ((a.1.testBit v && !(decide (v = p))) || b.1.testBit v)) (h2 : ∀ v, c.2.testBit v = (a.2.testBit v || (b.2.testBit v && !(decide (v = p)))))
    (hc : ∀ v, c.1.testBit v = true → c.2.testBit v = true → False) : Good sat all val order c := by
  refine ⟨hc, fun v h => ?_, fun t ht => ?_⟩
  · rw [h1, h2] at h
    simp at h
    rcases h with (h | h) | (h | h)
    · exact ha.vars v (Or.inl h.1)
    · exact hb.vars v (Or.inl h)
    · exact ha.vars v (Or.inr h)
    · exact hb.vars v (Or.inr h.1)
  · obtain ⟨v, hv⟩ := ha.hits t ht
    obtain ⟨u, hu⟩ := hb.hits t ht
    rcases hv with ⟨x, y⟩ | ⟨x, y⟩
    · by_cases hvp : v = p
      · subst hvp
        rcases hu with ⟨x', y'⟩ | ⟨x', y'⟩
        · exact ⟨u, Or.inl ⟨by rw [h1]; simp [x'], y'⟩⟩
        · by_cases hup : u = v
          · subst hup
            rw [y] at y'
            cases val <;> cases y'
          · exact ⟨u, Or.inr ⟨by rw [h2]; simp [x', hup], y'⟩⟩
      · exact ⟨v, Or.inl ⟨by rw [h1]; simp [x, hvp], y⟩⟩
    · exact ⟨v, Or.inr ⟨by rw [h2]; simp [x], y⟩⟩
/-- A step with no literals ends it. -/
theorem good_empty {order : List Nat} {c : Nat × Nat} (hg : Good sat all val order c) (hn : order.Nodup) (h1 : c.1 = 0) (h2 : c.2 = 0) : fromL sat all order 0 = !val := by
  by_cases h : fromL sat all order 0 = val
  · obtain ⟨t, ht⟩ := plays_any_one order 0 h hn (fun v _ => by simp)
    obtain ⟨v, hv⟩ := hg.hits t ht
    rw [h1, h2] at hv
    simp at hv
  · cases val <;> cases hh : fromL sat all order 0 <;> simp_all
end
end Go.Proofs.Ytgipjjhkhfihpaa
