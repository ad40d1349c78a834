import Derived.Test.YtgipjjhkhfihpaaDoorAD
import Derived.Test.YtgipjjhkhfihpaaDoorAB
import Derived.Deep.QuietTactic
import Derived.BigQuiet
import Derived.Test.YtgipjjhkhfihpaaDoorAC
namespace Go.Proofs.YtgipjjhkhfihpaaDoor
open Go.RowKit

/-! ### Read and Load agree -/
theorem bitOf_dig (r : List UInt8) (h : 0 < dig r) : bitOf (dig r) = 2 ^ (dig r).toNat := by
  have := dig_bd r
  unfold bitOf; rw [if_pos ⟨by omega, by omega⟩]
theorem litInto_good (c : Nat × Nat) (w : List UInt8) : (litInto c w).2 = litGood w ∧ (litGood w = true → (litInto c w).1 = withLit c (litNum w)) := by
  unfold litInto litGood litNum
  split
  · next r =>
    refine ⟨rfl, ?_⟩
    intro h
    have h' : 0 < dig r := of_decide_eq_true h
    show (c.1, c.2 ||| 2 ^ (dig r).toNat) = withLit c (- dig r)
    unfold withLit
    rw [if_pos (by omega), Int.neg_neg, bitOf_dig r h']
  · next hw =>
    have hh : ¬ w.head? = some 45 := by
      intro e
      cases w with
      | nil => simp at e
      | cons a b => simp at e; subst e; exact hw b rfl
    rw [if_neg hh, if_neg hh]
    refine ⟨rfl, ?_⟩
    intro h
    have h' : 0 < dig w := of_decide_eq_true h
    unfold withLit
    rw [if_neg (by omega), bitOf_dig w h']
theorem lits_false (ws : List (List UInt8)) : ∀ (c : Nat × Nat), (ws.foldl (fun st w => ((litInto st.1 w).1, st.2 && (litInto st.1 w).2)) (c, false)).2 = false := by
  induction ws with
  | nil => intro c; rfl
  | cons w ws ih => intro c; exact ih _
theorem lits_eq (ws : List (List UInt8)) : ∀ (c : Nat × Nat),
    match clTo c ws with
    | none => (ws.foldl (fun st w => ((litInto st.1 w).1, st.2 && (litInto st.1 w).2)) (c, true)).2 = false
    | some c' => ws.foldl (fun st w => ((litInto st.1 w).1, st.2 && (litInto st.1 w).2)) (c, true) = (c', true) := by
  induction ws with
  | nil => intro c; rfl
  | cons w ws ih =>
    intro c
    obtain ⟨h1, h2⟩ := litInto_good c w
    rw [clTo]
    simp only [List.foldl_cons, Bool.true_and, h1]
    cases hg : litGood w with
    | false => exact lits_false ws _
    | true =>
      rw [h2 hg]
      exact ih _

/-- What Read gathers and what the program holds say the same. -/
structure Same (st : RS) (q : QS) : Prop where
  cl : st.cl = q.cl
  told : st.told = q.vars.map (·.1)
  kinds : st.kinds = q.vars.map (·.2)
  seen : ∀ v, st.seen.testBit v = hasV q.vars v
  used : ∀ v : Nat, 1 ≤ v → v ≤ 8 → st.used.testBit v = inC q.cl v

theorem hasV_snoc (vs : List (Nat × Bool)) (x : Nat × Bool) (v : Nat) : hasV (vs ++ [x]) v = (hasV vs v || (x.1 == v)) := by
  unfold hasV; rw [List.any_append]; simp
theorem testBit_pow (n v : Nat) : (2 ^ n).testBit v = (n == v) := by
  rw [Nat.testBit_two_pow]; rfl

theorem vars_false (a : Bool) (ws : List (List UInt8)) : ∀ (p : PS), p.ok = false → (ws.foldl (varStep a) p).ok = false := by
  induction ws with
  | nil => intro p h; exact h
  | cons w ws ih => intro p h; refine ih _ ?_; simp [varStep, h]
theorem vars_eq (a : Bool) (ws : List (List UInt8)) : ∀ (p : PS) (vs : List (Nat × Bool)), p.ok = true → p.told = vs.map (·.1) → p.kinds = vs.map (·.2) → (∀ v, p.seen.testBit v = hasV vs v) →
    match prefTo a vs ws with
    | none => (ws.foldl (varStep a) p).ok = false
    | some vs' => (ws.foldl (varStep a) p).ok = true ∧ (ws.foldl (varStep a) p).told = vs'.map (·.1) ∧ (ws.foldl (varStep a) p).kinds = vs'.map (·.2) ∧ ∀ v, (ws.foldl (varStep a) p).seen.testBit v = hasV vs' v := by
  induction ws with
  | nil => intro p vs h1 h2 h3 h4; exact ⟨h1, h2, h3, h4⟩
  | cons w ws ih =>
    intro p vs h1 h2 h3 h4
    obtain ⟨d0, d1⟩ := dig_bd w
    obtain ⟨dn, hdn⟩ := Int.eq_ofNat_of_zero_le d0
    have hvs := varStep_eq a p w dn hdn
    have hb : badVar vs w = decide (dn = 0 ∨ p.seen.testBit dn = true) := by
      unfold badVar
      rw [hdn, h4]
      rw [Bool.eq_iff_iff]
      simp
    rw [prefTo, List.foldl_cons, hvs, hb]
    by_cases hbad : dn = 0 ∨ p.seen.testBit dn = true
    · rw [if_pos hbad, if_pos (by simpa using hbad)]
      exact vars_false a ws _ rfl
    · rw [if_neg hbad, if_neg (by simpa using hbad)]
      have e : (dig w).toNat = dn := by rw [hdn]; simp
      rw [e]
      refine ih _ _ h1 (by simp [h2]) (by simp [h3]) ?_
      intro v
      rw [hasV_snoc]
      show (p.seen ||| 2 ^ dn).testBit v = _
      rw [Nat.testBit_or, h4, testBit_pow]

theorem inC_snoc (cl : List (Nat × Nat)) (c : Nat × Nat) (v : Nat) (h1 : 1 ≤ v) (h8 : v ≤ 8) : inC (cl ++ [c]) v = (inC cl v || (c.1 ||| c.2).testBit v) := by
  unfold inC
  rw [List.any_append]
  congr 1
  simp only [List.any_cons, List.any_nil, Bool.or_false]
  have e : bitOf (v : Int) = 2 ^ v := by unfold bitOf; rw [if_pos ⟨by omega, by omega⟩]; simp
  rw [e, nat_bit, Nat.testBit_eq_decide_div_mod_eq]
  have hp : 0 < 2 ^ v := Nat.two_pow_pos v
  rcases Nat.mod_two_eq_zero_or_one ((c.1 ||| c.2) / 2 ^ v) with h | h
  · rw [h]; simp
  · rw [h]; simp

theorem dig_nil : dig [] = 0 := rfl
theorem split_words (row hd : List UInt8) (tl : List (List UInt8)) (h : cutAt 32 row = hd :: tl) (hs : splitOk row = false) : hd = [] ∨ [] ∈ tl := by
  unfold splitOk at hs
  rw [h, Bool.not_eq_false', List.any_eq_true] at hs
  obtain ⟨x, hx, he⟩ := hs
  have : x = [] := by simpa using he
  subst this
  simp at hx
  rcases hx with hx | hx
  · exact Or.inl hx
  · exact Or.inr hx
theorem clTo_bad (ws : List (List UInt8)) (h : [] ∈ ws) : ∀ c, clTo c ws = none := by
  induction ws with
  | nil => simp at h
  | cons w ws ih =>
    intro c
    rw [clTo]
    rcases List.mem_cons.1 h with h | h
    · subst h; rw [if_neg (by decide)]
    · split
      · exact ih h _
      · rfl
theorem prefTo_bad (u : Bool) (ws : List (List UInt8)) (h : [] ∈ ws) : ∀ vs, prefTo u vs ws = none := by
  induction ws with
  | nil => simp at h
  | cons w ws ih =>
    intro vs
    rw [prefTo]
    rcases List.mem_cons.1 h with h | h
    · subst h; rw [if_pos (by unfold badVar; rw [dig_nil]; rfl)]
    · split
      · rfl
      · exact ih h _

theorem rowOf_qOf (st : RS) (q : QS) (hd : List UInt8) (tl : List (List UInt8)) (h : Same st q) :
    match qOf q hd tl with
    | none => (rowOf st hd tl).2 = false
    | some q' => (rowOf st hd tl).2 = true ∧ Same (rowOf st hd tl).1 q' := by
  have hpre : ∀ a : Bool, match (qPrefix q tl a).map (fun vs => ({ q with vars := vs } : QS)) with
      | none => st.cl = [] ∧ tl ≠ [] → (varsTo a st tl).ok = false
      | some q' => (st.cl = [] ∧ tl ≠ []) ∧ (varsTo a st tl).ok = true ∧ Same { st with told := (varsTo a st tl).told, kinds := (varsTo a st tl).kinds, seen := (varsTo a st tl).seen } q' := by
    intro a
    unfold qPrefix
    by_cases hc : tl = [] ∨ q.cl ≠ []
    · rw [if_pos hc]
      rintro ⟨h1, h2⟩
      rcases hc with hc | hc
      · exact absurd hc h2
      · rw [h.cl] at h1; exact absurd h1 hc
    · rw [if_neg hc]
      have hc1 : tl ≠ [] := fun e => hc (Or.inl e)
      have hc2 : st.cl = [] := by rw [h.cl]; exact Classical.byContradiction fun e => hc (Or.inr e)
      have hv := vars_eq a tl ⟨st.told, st.kinds, st.seen, true⟩ q.vars rfl h.told h.kinds h.seen
      cases hp : prefTo a q.vars tl with
      | none => rw [hp] at hv; exact fun _ => hv
      | some vs =>
        rw [hp] at hv
        obtain ⟨v1, v2, v3, v4⟩ := hv
        exact ⟨⟨hc2, hc1⟩, v1, h.cl, v2, v3, v4, h.used⟩
  unfold qOf
  by_cases he : hd = [101]
  · subst he
    rw [if_pos rfl]
    have hp := hpre false
    unfold rowOf
    rw [if_neg (by decide)]
    cases hq : (qPrefix q tl false).map (fun vs => ({ q with vars := vs } : QS)) with
    | none =>
      rw [hq] at hp
      by_cases hc : st.cl = [] ∧ tl ≠ []
      · rw [if_pos ⟨Or.inl rfl, hc.1, hc.2⟩]; exact hp hc
      · rw [if_neg (fun x => hc ⟨x.2.1, x.2.2⟩)]
    | some q' =>
      rw [hq] at hp
      obtain ⟨hc, h1, h2⟩ := hp
      rw [if_pos ⟨Or.inl rfl, hc.1, hc.2⟩]
      exact ⟨h1, h2⟩
  · rw [if_neg he]
    by_cases ha : hd = [97]
    · subst ha
      rw [if_pos rfl]
      have hp := hpre true
      unfold rowOf
      rw [if_neg (by decide)]
      cases hq : (qPrefix q tl true).map (fun vs => ({ q with vars := vs } : QS)) with
      | none =>
        rw [hq] at hp
        by_cases hc : st.cl = [] ∧ tl ≠ []
        · rw [if_pos ⟨Or.inr rfl, hc.1, hc.2⟩]; exact hp hc
        · rw [if_neg (fun x => hc ⟨x.2.1, x.2.2⟩)]
      | some q' =>
        rw [hq] at hp
        obtain ⟨hc, h1, h2⟩ := hp
        rw [if_pos ⟨Or.inr rfl, hc.1, hc.2⟩]
        exact ⟨h1, h2⟩
    · rw [if_neg ha]
      by_cases hc : hd = [99]
      · subst hc
        rw [if_pos rfl]
        unfold rowOf
        rw [if_pos rfl]
        have hl := lits_eq tl (0, 0)
        have hll := litsTo_lt tl
        cases hq : clTo (0, 0) tl with
        | none => rw [hq] at hl; exact hl
        | some c =>
          rw [hq] at hl
          have hl' : litsTo tl = (c, true) := hl
          simp only [Option.map_some]
          rw [hl']
          refine ⟨rfl, by simp [h.cl], h.told, h.kinds, h.seen, ?_⟩
          intro v h1 h8
          dsimp only
          rw [inC_snoc _ _ _ h1 h8, Nat.testBit_or, Nat.testBit_or, Nat.testBit_or, h.used v h1 h8, Bool.or_assoc]
      · rw [if_neg hc]
        unfold rowOf
        rw [if_neg hc, if_neg (fun x => by rcases x.1 with h | h; exact he h; exact ha h)]

theorem row_line (st : RS) (q : QS) (row : List UInt8) (h : Same st q) :
    match qLine q row with
    | none => (rowStep st row).2 = false
    | some q' => (rowStep st row).2 = true ∧ Same (rowStep st row).1 q' := by
  obtain ⟨hd, tl, hws⟩ : ∃ hd tl, cutAt 32 row = hd :: tl := by
    cases h : cutAt 32 row with
    | nil => simp [cutAt] at h
    | cons a b => exact ⟨a, b, rfl⟩
  rw [rowStep_eq st row hd tl hws]
  cases hs : splitOk row with
  | true => rw [qLine_eq q row hd tl hws hs]; exact rowOf_qOf st q hd tl h
  | false =>
    have hn : qLine q row = none := by unfold qLine; rw [hs]; rfl
    rw [hn]
    have hw := split_words row hd tl hws hs
    have hr := rowOf_qOf st q hd tl h
    have hq : qOf q hd tl = none := by
      unfold qOf
      split
      · next he =>
        rcases hw with hw | hw
        · rw [hw] at he; cases he
        · unfold qPrefix; split; rfl; rw [prefTo_bad _ _ hw]; rfl
      · split
        · next he =>
          rcases hw with hw | hw
          · rw [hw] at he; cases he
          · unfold qPrefix; split; rfl; rw [prefTo_bad _ _ hw]; rfl
        · split
          · next he =>
            rcases hw with hw | hw
            · rw [hw] at he; cases he
            · rw [clTo_bad _ hw]; rfl
          · rfl
    rw [hq] at hr
    exact hr

theorem rows_eq (rows : List (List UInt8)) : ∀ (st : RS) (q : QS) (i : Nat), Same st q →
    match qRows q i rows with
    | .inr j => readRows st i rows = .inr j
    | .inl q' => ∃ st', readRows st i rows = .inl st' ∧ Same st' q' := by
  induction rows with
  | nil => intro st q i h; exact ⟨st, rfl, h⟩
  | cons r rows ih =>
    intro st q i h
    have hr := row_line st q r h
    rw [qRows, readRows]
    cases hq : qLine q r with
    | none => rw [hq] at hr; dsimp only; rw [if_neg (by rw [hr]; decide)]
    | some q' =>
      rw [hq] at hr
      dsimp only
      rw [if_pos hr.1]
      exact ih _ _ _ hr.2

/-! ### What holds of every formula that is read -/
structure QNice (q : QS) : Prop where
  nodup : (q.vars.map (·.1)).Nodup
  names : ∀ x ∈ q.vars, 1 ≤ x.1 ∧ x.1 ≤ 8
  bits : ∀ c ∈ q.cl, c.1 < 512 ∧ c.2 < 512
  bit0 : ∀ c ∈ q.cl, c.1.testBit 0 = false ∧ c.2.testBit 0 = false
theorem bitOf_zero (x : Int) : (bitOf x).testBit 0 = false := by
  unfold bitOf
  split
  · next h => rw [Nat.testBit_two_pow]; simp; omega
  · simp
theorem withLit_zero (c : Nat × Nat) (x : Int) (h1 : c.1.testBit 0 = false) (h2 : c.2.testBit 0 = false) : (withLit c x).1.testBit 0 = false ∧ (withLit c x).2.testBit 0 = false := by
  unfold withLit; split
  · refine ⟨h1, ?_⟩
    show (c.2 ||| _).testBit 0 = false
    rw [Nat.testBit_or, h2, bitOf_zero]; rfl
  · refine ⟨?_, h2⟩
    show (c.1 ||| _).testBit 0 = false
    rw [Nat.testBit_or, h1, bitOf_zero]; rfl
theorem clTo_zero (ws : List (List UInt8)) : ∀ (c c' : Nat × Nat), c.1.testBit 0 = false → c.2.testBit 0 = false → clTo c ws = some c' → c'.1.testBit 0 = false ∧ c'.2.testBit 0 = false := by
  induction ws with
  | nil => intro c c' h1 h2 h; simp [clTo] at h; subst h; exact ⟨h1, h2⟩
  | cons w ws ih =>
    intro c c' h1 h2 h
    rw [clTo] at h
    split at h
    · have := withLit_zero c (litNum w) h1 h2
      exact ih _ _ this.1 this.2 h
    · cases h
theorem prefTo_nice (u : Bool) (ws : List (List UInt8)) : ∀ (vs vs' : List (Nat × Bool)), (vs.map (·.1)).Nodup → (∀ x ∈ vs, 1 ≤ x.1 ∧ x.1 ≤ 8) → prefTo u vs ws = some vs' → (vs'.map (·.1)).Nodup ∧ ∀ x ∈ vs', 1 ≤ x.1 ∧ x.1 ≤ 8 := by
  induction ws with
  | nil => intro vs vs' h1 h2 h; simp [prefTo] at h; subst h; exact ⟨h1, h2⟩
  | cons w ws ih =>
    intro vs vs' h1 h2 h
    rw [prefTo] at h
    split at h
    · cases h
    · next hb =>
      have hb' : badVar vs w = false := by simpa using hb
      unfold badVar at hb'
      rw [Bool.or_eq_false_iff] at hb'
      obtain ⟨hd, hv⟩ := hb'
      have hd' : 0 < dig w := by simpa using hd
      have hbd := dig_bd w
      refine ih _ _ ?_ ?_ h
      · rw [List.map_append, List.nodup_append]
        refine ⟨h1, by simp, ?_⟩
        intro a ha b hb e
        simp at hb
        subst hb
        subst e
        rw [List.mem_map] at ha
        obtain ⟨x, hx, hxe⟩ := ha
        have : hasV vs (dig w).toNat = true := by
          unfold hasV; rw [List.any_eq_true]; exact ⟨x, hx, by simpa using hxe⟩
        rw [this] at hv; cases hv
      · intro x hx
        rcases List.mem_append.1 hx with hx | hx
        · exact h2 x hx
        · simp at hx; subst hx; constructor <;> (dsimp only; omega)
theorem qLine_nice {q q' : QS} {r : List UInt8} (hq : QNice q) (h : qLine q r = some q') : QNice q' := by
  have hpre : ∀ u tl vs, qPrefix q tl u = some vs → QNice { q with vars := vs } := by
    intro u tl vs hv
    unfold qPrefix at hv
    split at hv
    · cases hv
    · have := prefTo_nice u tl _ _ hq.nodup hq.names hv
      exact ⟨this.1, this.2, hq.bits, hq.bit0⟩
  unfold qLine at h
  split at h
  · split at h
    · cases h
    · next hd tl hws =>
      unfold qOf at h
      split at h
      · cases hp : qPrefix q tl false with
        | none => rw [hp] at h; cases h
        | some vs => rw [hp] at h; simp at h; subst h; exact hpre _ _ _ hp
      · split at h
        · cases hp : qPrefix q tl true with
          | none => rw [hp] at h; cases h
          | some vs => rw [hp] at h; simp at h; subst h; exact hpre _ _ _ hp
        · split at h
          · cases hp : clTo (0, 0) tl with
            | none => rw [hp] at h; cases h
            | some c =>
              rw [hp] at h; simp at h; subst h
              refine ⟨hq.nodup, hq.names, ?_, ?_⟩
              · intro c' hc'
                simp at hc'
                rcases hc' with hc' | hc'
                · exact hq.bits c' hc'
                · subst hc'; exact clTo_lt tl _ _ (by decide) (by decide) hp
              · intro c' hc'
                simp at hc'
                rcases hc' with hc' | hc'
                · exact hq.bit0 c' hc'
                · subst hc'; exact clTo_zero tl _ _ (by decide) (by decide) hp
          · cases h
  · cases h
theorem qRows_nice (rows : List (List UInt8)) : ∀ (q q' : QS) (i : Nat), QNice q → qRows q i rows = .inl q' → QNice q' := by
  induction rows with
  | nil => intro q q' i h e; simp [qRows] at e; subst e; exact h
  | cons r rows ih =>
    intro q q' i h e
    rw [qRows] at e
    cases hq : qLine q r with
    | none => rw [hq] at e; cases e
    | some q1 => rw [hq] at e; exact ih _ _ _ (qLine_nice h hq) e

/-- Read and Load: the same error and line; or formulas that say the same. -/
theorem spec_eq (l : List UInt8) :
    match loadSpec l with
    | .inl a => readSpec l = .inl a
    | .inr q => ∃ st q0, readSpec l = .inr (finish st) ∧ Same st q0 ∧ q = qFinish q0 ∧ q0.cl.length ≤ 24 ∧ QNice q0 := by
  unfold loadSpec readSpec
  by_cases hl : 2000 < l.length
  · rw [if_pos hl, if_pos hl]
  · rw [if_neg hl, if_neg hl]
    have e1 : (cutAt 10 l).dropLast = (cutTo 10 l).1 := by unfold cutAt; simp
    have e2 : (cutAt 10 l).getLast? = some (cutTo 10 l).2 := by unfold cutAt; simp
    have e3 : (cutAt 10 l).length = (cutTo 10 l).1.length + 1 := by unfold cutAt; simp
    rw [e1, e2, e3]
    have hr := rows_eq (cutTo 10 l).1 rs0 ⟨[], []⟩ 0 ⟨rfl, rfl, rfl, fun v => by simp [rs0, hasV], fun v _ _ => by simp [rs0, inC]⟩
    cases hq : qRows ⟨[], []⟩ 0 (cutTo 10 l).1 with
    | inr j => rw [hq] at hr; dsimp only; rw [hr]
    | inl q =>
      rw [hq] at hr
      obtain ⟨st, h1, h2⟩ := hr
      dsimp only
      rw [h1]
      dsimp only
      by_cases hn : (cutTo 10 l).2 = []
      · have c1 : ¬ ((cutTo 10 l).2 ≠ []) := fun h => h hn
        have c2 : ¬ (some (cutTo 10 l).2 ≠ some []) := fun h => h (by rw [hn])
        rw [if_neg c1, if_neg c2, h2.cl]
        by_cases h24 : 24 < q.cl.length
        · rw [if_pos h24, if_pos h24]
        · rw [if_neg h24, if_neg h24]
          exact ⟨st, q, rfl, h2, rfl, by omega, qRows_nice _ _ _ _ ⟨by simp, by simp, by simp, by simp⟩ hq⟩
      · have c2 : some (cutTo 10 l).2 ≠ some [] := fun h => hn (by simpa using h)
        rw [if_pos hn, if_pos c2]
end Go.Proofs.YtgipjjhkhfihpaaDoor

namespace Go.Proofs.YtgipjjhkhfihpaaDoor
open Go.RowKit

end Go.Proofs.YtgipjjhkhfihpaaDoor

namespace Go.Proofs.YtgipjjhkhfihpaaDoor
open Go.RowKit

theorem ProgAt.later {lo b : Nat} {w w' : World} {q : QS} (h : ProgAt lo w b q) (hb : Below w.heap.size w w') : ProgAt lo w' b q := by
  obtain ⟨h1, vV, vC, h2, h3, h4⟩ := h
  exact ⟨h1, vV, vC, (hb.block b (blk_lt h2)).trans h2, own_below h3 hb, own_below h4 hb⟩
theorem ProgAt.set {lo b bw o : Nat} {w : World} {q : QS} {u : Value} (h : ProgAt lo w b q) (hlt : bw < lo) : ProgAt lo (w.setCell ⟨bw, o, none⟩ u) b q := by
  obtain ⟨h1, vV, vC, h2, h3, h4⟩ := h
  exact ⟨h1, vV, vC, (Below.heap_setCell _ _ _ _ (by show b ≠ bw; omega)).trans h2, ownsRow_setCell_below h3 (a := ⟨bw, o, none⟩) hlt u, ownsRow_setCell_below h4 (a := ⟨bw, o, none⟩) hlt u⟩
theorem ProgAt.lo {lo lo' b : Nat} {w : World} {q : QS} (h : ProgAt lo w b q) (hl : lo' ≤ lo) : ProgAt lo' w b q := by
  obtain ⟨h1, vV, vC, h2, h3, h4⟩ := h
  exact ⟨by omega, vV, vC, h2, own_lo h3 hl, own_lo h4 hl⟩
/-- A block that is below lo, or of none of these types. -/
def Foreign (lo : Nat) (w : World) (ts : List TypeId) (k : Nat) : Prop := k < lo ∨ ∃ cs t fr, w.heap[k]? = some (.cells cs t fr) ∧ t ∉ ts
theorem own_only {w w' : World} {T : Nat → Prop} {base : Nat} {e : TypeId} {size : Nat} {v : Value} {n : Nat} {xs : List Value} {ts : List TypeId} (h : w.ownsRow base e size v n xs) (ho : Only T w w') (he : e ∈ ts) (hT : ∀ k, k < w.heap.size → T k → Foreign base w ts k) : w'.ownsRow base e size v n xs := by
  obtain ⟨h1, h2⟩ := h
  refine ⟨h1, ?_⟩
  rcases h2 with h2 | ⟨g, cap, cur, rfl, hg, hh, h3⟩
  · exact Or.inl h2
  · refine Or.inr ⟨g, cap, cur, rfl, hg, ?_, h3⟩
    rw [ho.block g (blk_lt hh) (fun ht => ?_)]
    · exact hh
    · rcases hT g (blk_lt hh) ht with h | ⟨cs, t, fr, h4, h5⟩
      · omega
      · rw [hh] at h4
        simp at h4
        exact h5 (h4.2.1 ▸ he)
theorem blk_only {w w' : World} {T : Nat → Prop} {lo b : Nat} {cs : Array Value} {t : TypeId} {fr : Nat × Nat} {ts : List TypeId} (h : w.heap[b]? = some (.cells cs t fr)) (hlo : lo ≤ b) (ho : Only T w w') (he : t ∈ ts) (hT : ∀ k, k < w.heap.size → T k → Foreign lo w ts k) : w'.heap[b]? = some (.cells cs t fr) := by
  rw [ho.block b (blk_lt h) (fun ht => ?_)]
  · exact h
  · rcases hT b (blk_lt h) ht with h1 | ⟨cs', t', fr', h4, h5⟩
    · omega
    · rw [h] at h4
      simp at h4
      exact h5 (h4.2.1 ▸ he)
end Go.Proofs.YtgipjjhkhfihpaaDoor

namespace Go.Proofs.YtgipjjhkhfihpaaDoor
open Go.RowKit

/-! ### Satisfied -/
def satC (c : Nat × Nat) (t : Nat) : Bool := !((c.1 &&& t == 0) && (less c.2 t == 0))
def satB (cl : List (Nat × Nat)) (t : Nat) : Bool := cl.all (satC · t)
theorem satB_take (cl : List (Nat × Nat)) (t k : Nat) (h : k < cl.length) : satB (cl.take (k + 1)) t = (satB (cl.take k) t && satC cl[k] t) := by
  unfold satB; rw [List.take_succ_eq_append_getElem h, List.all_append]; simp
theorem satB_of (cl : List (Nat × Nat)) (t k : Nat) (h : k < cl.length) (hc : satC cl[k] t = false) : satB cl t = false := by
  unfold satB; rw [List.all_eq_false]; exact ⟨cl[k], List.getElem_mem h, by rw [hc]; decide⟩
theorem nat_beq_zero (n : Nat) : ((n : Int) == 0) = (n == 0) := by
  rw [Bool.eq_iff_iff, beq_iff_eq, beq_iff_eq]; omega

end Go.Proofs.YtgipjjhkhfihpaaDoor

namespace Go.Proofs.YtgipjjhkhfihpaaDoor
open Go.RowKit

theorem bits_apart {a b : Nat} (h : a &&& b = 0) (v : Nat) (ha : a.testBit v = true) (hb : b.testBit v = true) : False := by
  have : (a &&& b).testBit v = true := by rw [Nat.testBit_and, ha, hb]; rfl
  rw [h] at this; simp at this
theorem apart_bits {a b : Nat} (h : ∀ v, a.testBit v = true → b.testBit v = true → False) : a &&& b = 0 := by
  apply Nat.eq_of_testBit_eq
  intro v
  rw [Nat.testBit_and, Nat.zero_testBit]
  cases ha : a.testBit v with
  | false => rfl
  | true =>
    cases hb : b.testBit v with
    | false => rfl
    | true => exact (h v ha hb).elim
theorem some_bit {a : Nat} (h : a ≠ 0) : ∃ v, a.testBit v = true := by
  apply Classical.byContradiction
  intro hn
  apply h
  apply Nat.eq_of_testBit_eq
  intro v
  rw [Nat.zero_testBit]
  cases hv : a.testBit v with
  | false => rfl
  | true => exact (hn ⟨v, hv⟩).elim

theorem getD_at {α : Type} (l : List α) (k : Nat) (d : α) (h : k < l.length) : l.getD k d = l[k] := by
  rw [List.getD, List.getElem?_eq_getElem h]; rfl
/-- What is so of a formula that was read. -/
structure FOk (F : Form) : Prop where
  nodup : F.order.Nodup
  names : ∀ v ∈ F.order, 1 ≤ v ∧ v ≤ 8
  bits : ∀ c ∈ F.cl, Bd c
  vars : ∀ c ∈ F.cl, ∀ v, c.1.testBit v = true ∨ c.2.testBit v = true → v ∈ F.order

theorem good_ax {F : Form} (hF : FOk F) {c : Nat × Nat} (hc : c ∈ F.cl) (ha : c.1 &&& c.2 = 0) : Good (satB F.cl) F.all true F.order c := by
  refine ⟨fun v h1 h2 => bits_apart ha v h1 h2, hF.vars c hc, fun t ht => ?_⟩
  have hs := ht.leaf
  unfold satB at hs
  rw [List.all_eq_true] at hs
  have hs := hs c hc
  unfold satC at hs
  rw [Bool.not_eq_true', Bool.and_eq_false_iff, beq_eq_false_iff_ne, beq_eq_false_iff_ne] at hs
  rcases hs with hs | hs
  · obtain ⟨v, hv⟩ := some_bit hs
    rw [Nat.testBit_and, Bool.and_eq_true] at hv
    exact ⟨v, Or.inl hv⟩
  · obtain ⟨v, hv⟩ := some_bit hs
    rw [testBit_less, Bool.and_eq_true, Bool.not_eq_true'] at hv
    exact ⟨v, Or.inr hv⟩
theorem good_cube {F : Form} {c : Nat × Nat} (h1 : ∀ v, c.1.testBit v = true → c.2.testBit v = true → False) (h2 : ∀ v, c.1.testBit v = true ∨ c.2.testBit v = true → v ∈ F.order) (h3 : satR F.cl c = true) : Good (satB F.cl) F.all false F.order c := by
  refine ⟨h1, h2, fun t ht => ?_⟩
  have hs := ht.leaf
  unfold satB at hs
  rw [List.all_eq_false] at hs
  obtain ⟨x, hx, hs⟩ := hs
  have hs : satC x t = false := by simpa using hs
  unfold satC at hs
  rw [Bool.not_eq_false', Bool.and_eq_true, beq_iff_eq, beq_iff_eq] at hs
  obtain ⟨hp, hn⟩ := hs
  have hp' : ∀ v, x.1.testBit v = true → t.testBit v = false := fun v hv => by
    cases ht : t.testBit v with
    | false => rfl
    | true => exact (bits_apart hp v hv ht).elim
  have hn' : ∀ v, x.2.testBit v = true → t.testBit v = true := fun v hv => by
    cases ht : t.testBit v with
    | true => rfl
    | false =>
      have : (less x.2 t).testBit v = true := by rw [testBit_less, hv, ht]; rfl
      rw [hn] at this; simp at this
  unfold satR at h3
  rw [List.all_eq_true] at h3
  have hm := h3 x hx
  unfold missed at hm
  rw [Bool.not_eq_true', Bool.and_eq_false_iff, Bool.and_eq_false_iff, beq_eq_false_iff_ne, beq_eq_false_iff_ne, beq_eq_false_iff_ne] at hm
  rcases hm with hm | hm | hm
  · obtain ⟨v, hv⟩ := some_bit hm
    rw [Nat.testBit_and, Bool.and_eq_true] at hv
    have a1 := hp' v hv.1
    rw [hn' v hv.2] at a1; cases a1
  · obtain ⟨v, hv⟩ := some_bit hm
    rw [Nat.testBit_and, Bool.and_eq_true] at hv
    exact ⟨v, Or.inl ⟨hv.2, hp' v hv.1⟩⟩
  · obtain ⟨v, hv⟩ := some_bit hm
    rw [Nat.testBit_and, Bool.and_eq_true] at hv
    exact ⟨v, Or.inr ⟨hv.2, by rw [hn' v hv.1]; rfl⟩⟩

/-! ### Cubes -/
theorem litInto_form (c : Nat × Nat) (w : List UInt8) (h : (litInto c w).2 = true) : 1 ≤ litVar w ∧ ((litInto c w).1 = (c.1, c.2 ||| 2 ^ litVar w) ∨ (litInto c w).1 = (c.1 ||| 2 ^ litVar w, c.2)) := by
  unfold litInto at h ⊢
  split at h
  · next r =>
    have h' : 0 < dig r := of_decide_eq_true h
    have hd : dig (45 :: r) = 0 := by
      cases r with
      | nil => rfl
      | cons a b => rfl
    have e : litVar (45 :: r) = (dig r).toNat := by unfold litVar; rw [if_pos hd]; rfl
    rw [e]
    exact ⟨by omega, Or.inl rfl⟩
  · next hw =>
    have h' : 0 < dig w := of_decide_eq_true h
    have e : litVar w = (dig w).toNat := by unfold litVar; rw [if_neg (by omega)]
    rw [e]
    exact ⟨by omega, Or.inr rfl⟩
structure CI (order : List Nat) (c : Nat × Nat) (last : Nat) : Prop where
  apart : ∀ v, c.1.testBit v = true → c.2.testBit v = true → False
  vars : ∀ v, c.1.testBit v = true ∨ c.2.testBit v = true → v ≤ last ∧ v ∈ order
theorem cubeTo_ci (order : List Nat) (ws : List (List UInt8)) : ∀ c last c', CI order c last → cubeTo order c last ws = some c' → ∃ last', CI order c' last' := by
  induction ws with
  | nil => intro c last c' h e; simp [cubeTo] at e; subst e; exact ⟨last, h⟩
  | cons w ws ih =>
    intro c last c' h e
    rw [cubeTo] at e
    split at e
    · next hc =>
      obtain ⟨h1, h2, h3⟩ := hc
      refine ih _ _ _ ?_ e
      obtain ⟨_, hf⟩ := litInto_form c w h1
      have hno1 : c.1.testBit (litVar w) = false := by
        cases hh : c.1.testBit (litVar w) with
        | false => rfl
        | true => have := (h.vars _ (Or.inl hh)).1; omega
      have hno2 : c.2.testBit (litVar w) = false := by
        cases hh : c.2.testBit (litVar w) with
        | false => rfl
        | true => have := (h.vars _ (Or.inr hh)).1; omega
      rcases hf with hf | hf
      · rw [hf]
        constructor
        · intro v a b
          have b : (c.2 ||| 2 ^ litVar w).testBit v = true := b
          rw [bit_or, Bool.or_eq_true] at b
          rcases b with b | b
          · exact h.apart v a b
          · have : litVar w = v := of_decide_eq_true b
            subst this
            have a : c.1.testBit (litVar w) = true := a
            rw [hno1] at a; cases a
        · intro v a
          rcases a with a | a
          · have := h.vars v (Or.inl a); exact ⟨by omega, this.2⟩
          · have a : (c.2 ||| 2 ^ litVar w).testBit v = true := a
            rw [bit_or, Bool.or_eq_true] at a
            rcases a with a | a
            · have := h.vars v (Or.inr a); exact ⟨by omega, this.2⟩
            · have : litVar w = v := of_decide_eq_true a
              subst this; exact ⟨Nat.le_refl _, h3⟩
      · rw [hf]
        constructor
        · intro v a b
          have a : (c.1 ||| 2 ^ litVar w).testBit v = true := a
          rw [bit_or, Bool.or_eq_true] at a
          rcases a with a | a
          · exact h.apart v a b
          · have : litVar w = v := of_decide_eq_true a
            subst this
            have b : c.2.testBit (litVar w) = true := b
            rw [hno2] at b; cases b
        · intro v a
          rcases a with a | a
          · have a : (c.1 ||| 2 ^ litVar w).testBit v = true := a
            rw [bit_or, Bool.or_eq_true] at a
            rcases a with a | a
            · have := h.vars v (Or.inl a); exact ⟨by omega, this.2⟩
            · have : litVar w = v := of_decide_eq_true a
              subst this; exact ⟨Nat.le_refl _, h3⟩
          · have := h.vars v (Or.inr a); exact ⟨by omega, this.2⟩
    · cases e

/-! ### Reduction -/
theorem lastTo_le (order : List Nat) (kind : Nat) (c : Nat × Nat) (k : Nat) : lastTo order kind c k ≤ k := by
  induction k with
  | zero => exact Nat.le_refl _
  | succ k ih => rw [lastTo]; split <;> omega
theorem lastTo_past (order : List Nat) (kind : Nat) (c : Nat × Nat) (k i : Nat) (h1 : lastTo order kind c k ≤ i) (h2 : i < k) : hasB c (order.getD i 0) = true → kind.testBit (order.getD i 0) = true := by
  induction k with
  | zero => omega
  | succ k ih =>
    rw [lastTo] at h1
    split at h1
    · omega
    · next hc =>
      by_cases hk : i = k
      · subst hk
        intro hh
        rw [hh] at hc
        cases hb : kind.testBit (order.getD i 0) with
        | true => rfl
        | false => rw [hb] at hc; simp at hc
      · exact ih h1 (by omega)
theorem clr_bits (kind : Nat) (c : Nat × Nat) (u v : Nat) : (clr kind c u).1.testBit v = (c.1.testBit v && !(decide (v = u) && kind.testBit u)) ∧ (clr kind c u).2.testBit v = (c.2.testBit v && !(decide (v = u) && kind.testBit u)) := by
  unfold clr
  cases hk : kind.testBit u with
  | false => simp
  | true =>
    have e : ∀ a : Nat, (less a (2 ^ u)).testBit v = (a.testBit v && !(decide (v = u) && true)) := fun a => by
      rw [testBit_less, Nat.testBit_two_pow, Bool.and_true]
      by_cases h : u = v
      · subst h; simp
      · simp [h, Ne.symm h]
    exact ⟨e _, e _⟩
theorem clrs_bits (kind : Nat) (l : List Nat) (v : Nat) : ∀ c : Nat × Nat, (l.foldl (clr kind) c).1.testBit v = (c.1.testBit v && !(decide (v ∈ l) && kind.testBit v)) ∧ (l.foldl (clr kind) c).2.testBit v = (c.2.testBit v && !(decide (v ∈ l) && kind.testBit v)) := by
  induction l with
  | nil => intro c; simp
  | cons u l ih =>
    intro c
    have h1 := ih (clr kind c u)
    have h2 := clr_bits kind c u v
    rw [List.foldl_cons, h1.1, h1.2, h2.1, h2.2]
    by_cases hv : v = u
    · subst hv
      cases kind.testBit v <;> cases decide (v ∈ l) <;> simp
    · have e : decide (v ∈ u :: l) = decide (v ∈ l) := by simp [hv]
      rw [e]; simp [hv]
theorem bits510 (v : Nat) (h1 : 1 ≤ v) (h2 : v ≤ 8) : (510 : Nat).testBit v = true := by
  have : ∀ v : Fin 9, 1 ≤ v.val → (510 : Nat).testBit v.val = true := by decide
  exact this ⟨v, by omega⟩ h1
theorem kind_bit {F : Form} (hF : FOk F) (truth : Bool) (v : Nat) (hv : v ∈ F.order) : (kindR F truth).testBit v = (F.all.testBit v == !truth) := by
  have hn := hF.names v hv
  unfold kindR
  cases truth with
  | false => simp
  | true =>
    rw [if_pos rfl, testBit_less, bits510 v hn.1 hn.2]
    cases F.all.testBit v <;> rfl
theorem good_reductR {F : Form} (hF : FOk F) (truth : Bool) {c : Nat × Nat} (hg : Good (satB F.cl) F.all (!truth) F.order c) : Good (satB F.cl) F.all (!truth) F.order (redR F.order (kindR F truth) c) := by
  generalize hm : lastTo F.order (kindR F truth) c F.order.length = m
  have hml : m ≤ F.order.length := by rw [← hm]; exact lastTo_le _ _ _ _
  have e : F.order = F.order.take m ++ F.order.drop m := (List.take_append_drop m F.order).symm
  have hsub : ∀ v, v ∈ F.order.drop m → v ∈ F.order := fun v hv => List.mem_of_mem_drop hv
  have hb := clrs_bits (kindR F truth) (F.order.drop m)
  have hk : ∀ v, (decide (v ∈ F.order.drop m) && (kindR F truth).testBit v) = (decide (v ∈ F.order.drop m) && (F.all.testBit v == !truth)) := fun v => by
    by_cases hv : v ∈ F.order.drop m
    · rw [kind_bit hF truth v (hsub v hv)]
    · simp [hv]
  unfold redR
  rw [hm]
  have hg2 := hg
  rw [e] at hg2 ⊢
  have hd : (F.order.take m ++ F.order.drop m).drop m = F.order.drop m := by rw [List.take_append_drop]
  rw [hd]
  refine good_reduced hg2 (by rw [← e]; exact hF.nodup) ?_ ?_ ?_
  · intro v hv hc
    obtain ⟨i, hi, rfl⟩ := List.getElem_of_mem hv
    rw [List.getElem_drop]
    have hi' : m + i < F.order.length := by simp at hi; omega
    have hp := lastTo_past F.order (kindR F truth) c F.order.length (m + i) (by omega) hi'
    rw [getD_at _ _ _ hi'] at hp
    have hh : hasB c F.order[m + i] = true := by
      unfold hasB
      rw [Nat.testBit_or, Bool.or_eq_true]
      rw [List.getElem_drop] at hc
      exact hc
    have hk2 := hp hh
    rw [kind_bit hF truth _ (List.getElem_mem hi')] at hk2
    simpa using hk2
  · intro v; rw [(hb v c).1, hk]
  · intro v; rw [(hb v c).2, hk]

/-! ### Steps -/
theorem good_stepR {F : Form} (hF : FOk F) (truth : Bool) (ss : List (Nat × Nat)) (hd : List UInt8) (tl : List (List UInt8)) (c : Nat × Nat) (hS : ∀ c ∈ ss, Good (satB F.cl) F.all (!truth) F.order c) (h : stepR F truth ss hd tl = some c) : Good (satB F.cl) F.all (!truth) F.order c := by
  have hget : ∀ i, 1 ≤ i → i ≤ ss.length → Good (satB F.cl) F.all (!truth) F.order (ss.getD (i - 1) (0, 0)) := fun i h1 h2 => by
    have : i - 1 < ss.length := by omega
    rw [getD_at _ _ _ this]
    exact hS _ (List.getElem_mem this)
  unfold stepR at h
  split at h
  · next hc =>
    obtain ⟨_, ht, _⟩ := hc
    subst ht
    unfold axR at h
    split at h
    · cases h
    · next hk =>
      obtain ⟨rfl, ha⟩ := apartO_some h
      have : cnt (tl.getD 0 []) big - 1 < F.cl.length := by omega
      rw [getD_at _ _ _ this] at ha ⊢
      exact good_ax hF (List.getElem_mem this) ha
  · split at h
    · next hc =>
      obtain ⟨_, ht⟩ := hc
      subst ht
      unfold cubeR at h
      cases hq : cubeTo F.order (0, 0) 0 tl with
      | none => rw [hq] at h; cases h
      | some c' =>
        rw [hq] at h
        simp only [Option.bind_some] at h
        split at h
        · next hs =>
          simp at h; subst h
          obtain ⟨last, hci⟩ := cubeTo_ci _ _ (0, 0) 0 _ ⟨by simp, by simp⟩ hq
          exact good_cube hci.apart (fun v hv => (hci.vars v hv).2) hs
        · cases h
    · split at h
      · unfold resR at h
        split at h
        · cases h
        · next hr =>
          split at h
          · cases h
          · next hr2 =>
            obtain ⟨rfl, ha⟩ := apartO_some h
            simp only [not_or, Bool.not_eq_false] at hr hr2
            refine good_resolved (hget _ (by omega) (by omega)) (hget _ (by omega) (by omega)) hr2.2.1 hr2.2.2 ?_ ?_ (fun v h1 h2 => bits_apart ha v h1 h2)
            · intro v
              show (less _ _ ||| _).testBit v = _
              rw [Nat.testBit_or, testBit_less, Nat.testBit_two_pow]
              simp only [eq_comm]
            · intro v
              show (_ ||| less _ _).testBit v = _
              rw [Nat.testBit_or, testBit_less, Nat.testBit_two_pow]
              simp only [eq_comm]
      · split at h
        · unfold reductR at h
          split at h
          · cases h
          · next hr =>
            have h := Option.some.inj h
            subst h
            exact good_reductR hF truth (hget _ (by omega) (by omega))
        · cases h
theorem good_rows {F : Form} (hF : FOk F) (truth : Bool) (rs : List (List UInt8)) : ∀ (ss : List (Nat × Nat)) (n : Nat) (ss' : List (Nat × Nat)), (∀ c ∈ ss, Good (satB F.cl) F.all (!truth) F.order c) → rowsR F truth ss n rs = .inl ss' → ∀ c ∈ ss', Good (satB F.cl) F.all (!truth) F.order c := by
  induction rs with
  | nil => intro ss n ss' h e; simp [rowsR] at e; subst e; exact h
  | cons r rs ih =>
    intro ss n ss' h e
    rw [rowsR] at e
    cases hl : lineR F truth ss r with
    | none => rw [hl] at e; cases e
    | some c =>
      rw [hl] at e
      refine ih _ _ _ ?_ e
      intro c' hc'
      rcases List.mem_append.1 hc' with hc' | hc'
      · exact h c' hc'
      · simp at hc'; subst hc'
        unfold lineR at hl
        split at hl
        · cases hl
        · split at hl
          · cases hl
          · exact good_stepR hF truth ss _ _ _ h hl
/-- WHAT IS PROVED IS SO. -/
theorem proves_sound {F : Form} (hF : FOk F) (l : List UInt8) (truth : Bool) (two : Nat) (h : provesR F l = .inr (truth, two)) : fromL (satB F.cl) F.all F.order 0 = truth := by
  unfold provesR at h
  split at h
  · cases h
  · split at h
    · cases h
    · next r0 rs hrows =>
      split at h
      · split at h
        · cases h
        · next ss hss =>
          split at h
          · next hc =>
            have h' : (r0 == sTrue) = truth := by injection h with h; injection h
            rw [h'] at hss
            have hg := good_rows hF truth rs [] 1 ss (by simp) hss
            have he := hc.2
            unfold emptyLast at he
            split at he
            · cases he
            · next c hlast =>
              have hc0 : c.1 ||| c.2 = 0 := by simpa using he
              have hm : c ∈ ss := List.mem_of_getLast? hlast
              have h1 : c.1 = 0 := by
                apply Nat.eq_of_testBit_eq; intro v
                have : (c.1 ||| c.2).testBit v = false := by rw [hc0]; simp
                rw [Nat.testBit_or, Bool.or_eq_false_iff] at this
                rw [this.1]; simp
              have h2 : c.2 = 0 := by
                apply Nat.eq_of_testBit_eq; intro v
                have : (c.1 ||| c.2).testBit v = false := by rw [hc0]; simp
                rw [Nat.testBit_or, Bool.or_eq_false_iff] at this
                rw [this.2]; simp
              have := good_empty (hg c hm) hF.nodup h1 h2
              rw [this]; simp
          · cases h
      · cases h

/-! ### When a clause is satisfied -/
theorem satC_iff (c : Nat × Nat) (t : Nat) : satC c t = true ↔ ∃ v, (c.1.testBit v = true ∧ t.testBit v = true) ∨ (c.2.testBit v = true ∧ t.testBit v = false) := by
  unfold satC
  rw [Bool.not_eq_true', Bool.and_eq_false_iff, beq_eq_false_iff_ne, beq_eq_false_iff_ne]
  constructor
  · rintro (h | h)
    · obtain ⟨v, hv⟩ := some_bit h
      rw [Nat.testBit_and, Bool.and_eq_true] at hv
      exact ⟨v, Or.inl hv⟩
    · obtain ⟨v, hv⟩ := some_bit h
      rw [testBit_less, Bool.and_eq_true, Bool.not_eq_true'] at hv
      exact ⟨v, Or.inr hv⟩
  · rintro ⟨v, h | h⟩
    · left
      intro e
      have : (c.1 &&& t).testBit v = true := by rw [Nat.testBit_and, h.1, h.2]; rfl
      rw [e] at this; simp at this
    · right
      intro e
      have : (less c.2 t).testBit v = true := by rw [testBit_less, h.1, h.2]; rfl
      rw [e] at this; simp at this
theorem satB_iff (cs : List (Nat × Nat)) (t : Nat) : satB cs t = true ↔ ∀ c ∈ cs, satC c t = true := by unfold satB; rw [List.all_eq_true]
end Go.Proofs.YtgipjjhkhfihpaaDoor

namespace Go.Proofs.YtgipjjhkhfihpaaDoor
open Go.RowKit

theorem ints_at (l : List Nat) (k : Nat) (h : k < l.length) : (ints l)[k]? = some (.int .i64 (l[k] : Int)) := by
  unfold ints; rw [List.getElem?_map, List.getElem?_eq_getElem h]; rfl

/-! ### place -/
/-! ### count -/
theorem dec_lt (l : List UInt8) (h : l.all isDigit = true) : dec l < 10 ^ l.length := by
  suffices hh : ∀ (n : Nat) (l : List UInt8), l.length = n → l.all isDigit = true → dec l < 10 ^ n from hh _ l rfl h
  intro n
  induction n with
  | zero => intro l hl _; rw [List.eq_nil_of_length_eq_zero hl]; decide
  | succ n ih =>
    intro l hl ha
    have hlt : n < l.length := by omega
    have hall : (l.take n).all isDigit = true := by
      rw [List.all_eq_true] at ha ⊢
      exact fun x hx => ha x (List.mem_of_mem_take hx)
    have h1 := ih (l.take n) (by simp; omega) hall
    have h2 := dec_take l n hlt
    rw [show l.take (n + 1) = l from by rw [← hl]; exact List.take_length] at h2
    have hd : isDigit l[n] = true := by rw [List.all_eq_true] at ha; exact ha _ (List.getElem_mem hlt)
    have hd' : 48 ≤ l[n].toNat ∧ l[n].toNat ≤ 57 := of_decide_eq_true hd
    rw [h2, Nat.pow_succ]
    omega
theorem ten_six (k : Nat) (h : k ≤ 6) : 10 ^ k ≤ 1000000 := by
  have := Nat.pow_le_pow_right (n := 10) (by omega) h
  simpa using this

attribute [local go_sem] ba_get

end Go.Proofs.YtgipjjhkhfihpaaDoor

namespace Go.Proofs.YtgipjjhkhfihpaaDoor
open Go.RowKit

/-! ### Both sides read proofs alike -/
theorem dec_ge (l : List UInt8) (h : l.all isDigit = true) (h0 : l ≠ []) (h48 : l.head? ≠ some 48) : ∀ k, k < l.length → 10 ^ k ≤ dec (l.take (k + 1)) := by
  intro k
  induction k with
  | zero =>
    intro hk
    match l, h0 with
    | c :: r, _ =>
      have hd : isDigit c = true := by simp at h; exact h.1
      have hd' : 48 ≤ c.toNat ∧ c.toNat ≤ 57 := of_decide_eq_true hd
      have hne : c.toNat ≠ 48 := fun e => h48 (by simp; apply UInt8.toNat_inj.1; exact e)
      simp [dec]; omega
  | succ k ih =>
    intro hk
    have h1 := ih (by omega)
    rw [dec_take l (k + 1) hk, Nat.pow_succ]
    omega
theorem num_cnt (w : List UInt8) (most : Nat) (hm : most ≤ 999999) : numOf w most = if 1 ≤ cnt w big ∧ cnt w big ≤ most then some (cnt w big) else none := by
  by_cases hbad : w = [] ∨ w.head? = some 48 ∨ w.all isDigit = false
  · have h1 : numOf w most = none := by
      unfold numOf
      rw [if_pos]
      rcases hbad with h | h | h
      · exact Or.inl h
      · exact Or.inr (Or.inl h)
      · exact Or.inr (Or.inr (Or.inl h))
    have h2 : cnt w big = 0 := by
      rcases hbad with h | h | h
      · subst h; rfl
      · unfold cnt; rw [if_neg]; rintro ⟨_, _, h3, _⟩; exact h3 h
      · unfold cnt; rw [if_neg]; rintro ⟨h3, _⟩; rw [h] at h3; cases h3
    rw [h1, h2, if_neg (by omega)]
  · simp only [not_or, Bool.not_eq_false] at hbad
    obtain ⟨b1, b2, b3⟩ := hbad
    have hpos : 0 < w.length := List.length_pos_iff.2 b1
    by_cases h6 : w.length ≤ 6
    · have hd := dec_lt w b3
      have ht := ten_six w.length h6
      have hc : cnt w big = dec w := by
        unfold cnt; rw [if_pos ⟨b3, h6, b2, by unfold big; omega⟩]
      have h1 : 1 ≤ dec w := by
        have := dec_ge w b3 b1 b2 0 hpos
        have hmm := dec_mono w 1
        simp at this; omega
      rw [hc]
      unfold numOf
      by_cases hmo : most < dec w
      · rw [if_pos (Or.inr (Or.inr (Or.inr hmo))), if_neg (by omega)]
      · rw [if_neg, if_pos ⟨h1, by omega⟩]
        rintro (h | h | h | h)
        · exact b1 h
        · exact b2 h
        · rw [b3] at h; cases h
        · exact hmo h
    · have hc : cnt w big = 0 := by unfold cnt; rw [if_neg]; rintro ⟨_, h2, _⟩; exact h6 h2
      have hg := dec_ge w b3 b1 b2 6 (by omega)
      have hmm := dec_mono w (6 + 1)
      rw [hc, if_neg (by omega)]
      unfold numOf
      rw [if_pos]
      right; right; right
      have : (10 : Nat) ^ 6 = 1000000 := by decide
      omega
/-- What both sides hold of a formula. -/
structure FQ (F : Form) (q : QS) : Prop where
  order : F.order = q.vars.map (·.1)
  kinds : ∀ x ∈ q.vars, F.all.testBit x.1 = x.2
  nodup : (q.vars.map (·.1)).Nodup
  names : ∀ x ∈ q.vars, 1 ≤ x.1 ∧ x.1 ≤ 8
  cl : F.cl = q.cl
  clen : q.cl.length ≤ 24
  bits : ∀ c ∈ q.cl, Bd c
  vars : ∀ c ∈ q.cl, ∀ v, c.1.testBit v = true ∨ c.2.testBit v = true → v ∈ F.order
/-- What holds of every step. -/
structure SI (F : Form) (c : Nat × Nat) : Prop where
  bd : Bd c
  apart : c.1 &&& c.2 = 0
  vars : ∀ v, c.1.testBit v = true ∨ c.2.testBit v = true → v ∈ F.order
def kd (truth : Bool) : Nat := if truth then 2 else 1

theorem find_mem {F : Form} {q : QS} (h : FQ F q) (v : Nat) : (∃ x, findV q.vars v = some x ∧ x.1 = v ∧ x ∈ q.vars ∧ v ∈ F.order) ∨ (findV q.vars v = none ∧ v ∉ F.order) := by
  cases hf : findV q.vars v with
  | none =>
    right
    refine ⟨rfl, ?_⟩
    unfold findV at hf
    rw [List.find?_eq_none] at hf
    rw [h.order, List.mem_map]
    rintro ⟨x, hx, hxe⟩
    exact hf x hx (by simpa using hxe)
  | some x =>
    left
    unfold findV at hf
    have hm := List.mem_of_find?_eq_some hf
    have he := List.find?_some hf
    have he' : x.1 = v := by simpa using he
    exact ⟨x, rfl, he', hm, by rw [h.order, ← he']; exact List.mem_map_of_mem hm⟩
theorem bitOf_nat (v : Nat) (h1 : 1 ≤ v) (h8 : v ≤ 8) : bitOf (v : Int) = 2 ^ v := by unfold bitOf; rw [if_pos ⟨by omega, by omega⟩]; simp
theorem and_pow_ne (x v : Nat) : (x &&& 2 ^ v != 0) = x.testBit v := by
  rw [bne, show (x &&& 2 ^ v == 0) = !x.testBit v from ?_]
  · simp
  · cases h : x.testBit v with
    | false =>
      have : x &&& 2 ^ v = 0 := by
        apply Nat.eq_of_testBit_eq
        intro i
        rw [Nat.testBit_and, Nat.testBit_two_pow, Nat.zero_testBit]
        by_cases e : v = i
        · subst e; rw [h]; rfl
        · simp [e]
      rw [this]; rfl
    | true =>
      have : x &&& 2 ^ v ≠ 0 := fun e => by
        have h2 : (x &&& 2 ^ v).testBit v = true := by rw [Nat.testBit_and, Nat.testBit_two_pow, h]; simp
        rw [e] at h2; simp at h2
      simpa using this
theorem has_eq (c : Nat × Nat) (v : Nat) (h1 : 1 ≤ v) (h8 : v ≤ 8) : hasVarB c v = hasB c v := by
  unfold hasVarB hasB; rw [bitOf_nat v h1 h8, and_pow_ne]
theorem hasLit_pos (c : Nat × Nat) (v : Nat) (h1 : 1 ≤ v) (h8 : v ≤ 8) : hasLit c v = c.1.testBit v := by
  unfold hasLit; rw [if_neg (by omega), bitOf_nat v h1 h8, and_pow_ne]
theorem hasLit_neg (c : Nat × Nat) (v : Nat) (h1 : 1 ≤ v) (h8 : v ≤ 8) : hasLit c (-(v : Int)) = c.2.testBit v := by
  unfold hasLit; rw [if_pos (by omega), Int.neg_neg, bitOf_nat v h1 h8, and_pow_ne]
theorem pair_ext {a b : Nat × Nat} (h1 : ∀ v, a.1.testBit v = b.1.testBit v) (h2 : ∀ v, a.2.testBit v = b.2.testBit v) : a = b := by
  obtain ⟨a1, a2⟩ := a
  obtain ⟨b1, b2⟩ := b
  have e1 : a1 = b1 := Nat.eq_of_testBit_eq h1
  have e2 : a2 = b2 := Nat.eq_of_testBit_eq h2
  rw [e1, e2]

/-! Reduction -/
theorem lastTo_same (order : List Nat) (kind : Nat) (c c' : Nat × Nat) (k : Nat) (h : ∀ i, i < k → hasB c' (order.getD i 0) = hasB c (order.getD i 0)) : lastTo order kind c' k = lastTo order kind c k := by
  induction k with
  | zero => rfl
  | succ k ih =>
    rw [lastTo, lastTo, h k (by omega), ih (fun i hi => h i (by omega))]
theorem red_eq {F : Form} {q : QS} (h : FQ F q) (hF : FOk F) (truth : Bool) : ∀ (k : Nat), k ≤ q.vars.length → ∀ c, redQ (kd truth) (q.vars.take k).reverse c = ((F.order.take k).drop (lastTo F.order (kindR F truth) c k)).foldl (clr (kindR F truth)) c := by
  intro k
  induction k with
  | zero => intro _ c; simp [redQ]
  | succ k ih =>
    intro hk c
    have hlt : k < q.vars.length := by omega
    have hlen : F.order.length = q.vars.length := by rw [h.order]; simp
    have hlt' : k < F.order.length := by omega
    have hv : F.order[k] = q.vars[k].1 := by simp only [h.order, List.getElem_map]
    have hx := h.names _ (List.getElem_mem hlt)
    have hkind := h.kinds _ (List.getElem_mem hlt)
    have hmem : F.order[k] ∈ F.order := List.getElem_mem hlt'
    have hkb := kind_bit hF truth F.order[k] hmem
    have hgd : F.order.getD k 0 = F.order[k] := getD_at _ _ _ hlt'
    rw [redQ_step _ _ _ hlt, has_eq c _ hx.1 hx.2, ← hv]
    rw [← hv] at hkind
    have hpiv : pivotB (kd truth) q.vars[k].2 = !(kindR F truth).testBit F.order[k] := by
      rw [hkb, hkind]
      unfold pivotB kd
      generalize q.vars[k].2 = u
      cases truth <;> cases u <;> rfl
    rw [hpiv, lastTo, hgd]
    have hsplit : ∀ m, m ≤ k → (F.order.take (k + 1)).drop m = (F.order.take k).drop m ++ [F.order[k]] := fun m hm => by
      rw [List.take_succ_eq_append_getElem hlt', List.drop_append_of_le_length (by simp; omega)]
    have hnk : F.order[k] ∉ F.order.take k := by
      have hn := hF.nodup
      rw [← List.take_append_drop k F.order, List.nodup_append] at hn
      have hkd : F.order[k] ∈ F.order.drop k := by
        have e := List.drop_eq_getElem_cons hlt'
        rw [e]
        exact List.mem_cons_self
      intro hm
      exact hn.2.2 _ hm _ hkd rfl
    cases hh : hasB c F.order[k] with
    | false =>
      simp only [Bool.false_and, Bool.false_eq_true, if_false]
      rw [ih (by omega) c, hsplit _ (lastTo_le _ _ _ _), List.foldl_append]
      have hno : c.1.testBit F.order[k] = false ∧ c.2.testBit F.order[k] = false := by
        unfold hasB at hh; rw [Nat.testBit_or, Bool.or_eq_false_iff] at hh; exact hh
      generalize ((F.order.take k).drop (lastTo F.order (kindR F truth) c k)) = L
      show _ = clr _ (L.foldl _ c) F.order[k]
      apply pair_ext
      · intro v
        rw [(clr_bits _ _ _ _).1, (clrs_bits _ _ _ _).1]
        by_cases e : v = F.order[k]
        · subst e; simp [hno.1]
        · simp [e]
      · intro v
        rw [(clr_bits _ _ _ _).2, (clrs_bits _ _ _ _).2]
        by_cases e : v = F.order[k]
        · subst e; simp [hno.2]
        · simp [e]
    | true =>
      cases hb : (kindR F truth).testBit F.order[k] with
      | false =>
        simp only [Bool.not_false, Bool.and_self, if_true]
        rw [List.drop_eq_nil_of_le (by simp; omega)]
        rfl
      | true =>
        simp only [Bool.not_true, Bool.and_false, Bool.false_eq_true, if_false, if_true]
        have hw : without c (F.order[k] : Int) = clr (kindR F truth) c F.order[k] := by
          unfold without clr
          rw [if_pos hb, bitOf_nat _ (by rw [hv]; exact hx.1) (by rw [hv]; exact hx.2)]
        rw [hw, ih (by omega), hsplit _ (lastTo_le _ _ _ _)]
        have hls : lastTo F.order (kindR F truth) (clr (kindR F truth) c F.order[k]) k = lastTo F.order (kindR F truth) c k := by
          apply lastTo_same
          intro i hi
          have hil : i < F.order.length := by omega
          rw [getD_at _ _ _ hil]
          have hne : F.order[i] ≠ F.order[k] := fun e => hnk (by rw [← e]; exact List.mem_take_iff_getElem.2 ⟨i, by omega, rfl⟩)
          unfold hasB
          rw [Nat.testBit_or, Nat.testBit_or, (clr_bits _ _ _ _).1, (clr_bits _ _ _ _).2]
          simp [hne]
        rw [hls]
        generalize ((F.order.take k).drop (lastTo F.order (kindR F truth) c k)) = L
        apply pair_ext
        · intro v
          rw [(clrs_bits _ _ _ _).1, (clrs_bits _ _ _ _).1, (clr_bits _ _ _ _).1, hb]
          by_cases e : v = F.order[k]
          · subst e; simp [hb]
          · simp [e]
        · intro v
          rw [(clrs_bits _ _ _ _).2, (clrs_bits _ _ _ _).2, (clr_bits _ _ _ _).2, hb]
          by_cases e : v = F.order[k]
          · subst e; simp [hb]
          · simp [e]
theorem redQ_eq {F : Form} {q : QS} (h : FQ F q) (hF : FOk F) (truth : Bool) (c : Nat × Nat) : redQ (kd truth) q.vars.reverse c = redR F.order (kindR F truth) c := by
  have h1 := red_eq h hF truth q.vars.length (Nat.le_refl _) c
  have hlen : F.order.length = q.vars.length := by rw [h.order]; simp
  rw [List.take_length] at h1
  rw [h1, ← hlen, List.take_length]
  rfl

end Go.Proofs.YtgipjjhkhfihpaaDoor
