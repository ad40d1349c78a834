import Derived.Test.YtgipjjhkhfihpaaGreatDoorD
import Derived.Test.YtgipjjhkhfihpaaGreatDoorA
import Derived.Deep.QuietTactic
import Derived.BigQuiet
namespace Go.Proofs.YtgipjjhkhfihpaaGreatDoor
open Go.RowKit

/-! ### Read and Load agree -/
theorem bitOf_dig (r : List UInt8) (h : 0 < dig r) : bitOf (dig r) = 2 ^ (dig r).toNat := by
  have := dig_bd r
  unfold bitOf; rw [if_pos ⟨by omega, by omega⟩]
theorem litInto_good (c : Nat × Nat) (w : List UInt8) : (litInto c w).2 = litGood w ∧ (litGood w = true → (litInto c w).1 = withLit c (litNum w)) := by
  unfold litInto litGood litNum
  split
  · next r =>
    refine ⟨rfl, ?_⟩
    intro h
    have h' : 0 < dig r := of_decide_eq_true h
    show (c.1, c.2 ||| 2 ^ (dig r).toNat) = withLit c (- dig r)
    unfold withLit
    rw [if_pos (by omega), Int.neg_neg, bitOf_dig r h']
  · next hw =>
    have hh : ¬ w.head? = some 45 := by
      intro e
      cases w with
      | nil => simp at e
      | cons a b => simp at e; subst e; exact hw b rfl
    rw [if_neg hh, if_neg hh]
    refine ⟨rfl, ?_⟩
    intro h
    have h' : 0 < dig w := of_decide_eq_true h
    unfold withLit
    rw [if_neg (by omega), bitOf_dig w h']
theorem lits_false (ws : List (List UInt8)) : ∀ (c : Nat × Nat), (ws.foldl (fun st w => ((litInto st.1 w).1, st.2 && (litInto st.1 w).2)) (c, false)).2 = false := by
  induction ws with
  | nil => intro c; rfl
  | cons w ws ih => intro c; exact ih _
theorem lits_eq (ws : List (List UInt8)) : ∀ (c : Nat × Nat),
    match clTo c ws with
    | none => (ws.foldl (fun st w => ((litInto st.1 w).1, st.2 && (litInto st.1 w).2)) (c, true)).2 = false
    | some c' => ws.foldl (fun st w => ((litInto st.1 w).1, st.2 && (litInto st.1 w).2)) (c, true) = (c', true) := by
  induction ws with
  | nil => intro c; rfl
  | cons w ws ih =>
    intro c
    obtain ⟨h1, h2⟩ := litInto_good c w
    rw [clTo]
    simp only [List.foldl_cons, Bool.true_and, h1]
    cases hg : litGood w with
    | false => exact lits_false ws _
    | true =>
      rw [h2 hg]
      exact ih _

/-- What Read gathers and what the program holds say the same. -/
structure Same (st : RS) (q : QS) : Prop where
  cl : st.cl = q.cl
  told : st.told = q.vars.map (·.1)
  kinds : st.kinds = q.vars.map (·.2)
  seen : ∀ v, st.seen.testBit v = hasV q.vars v
  used : ∀ v : Nat, 1 ≤ v → v ≤ 8 → st.used.testBit v = inC q.cl v

theorem hasV_snoc (vs : List (Nat × Bool)) (x : Nat × Bool) (v : Nat) : hasV (vs ++ [x]) v = (hasV vs v || (x.1 == v)) := by
  unfold hasV; rw [List.any_append]; simp
theorem testBit_pow (n v : Nat) : (2 ^ n).testBit v = (n == v) := by
  rw [Nat.testBit_two_pow]; rfl

theorem vars_false (a : Bool) (ws : List (List UInt8)) : ∀ (p : PS), p.ok = false → (ws.foldl (varStep a) p).ok = false := by
  induction ws with
  | nil => intro p h; exact h
  | cons w ws ih => intro p h; refine ih _ ?_; simp [varStep, h]
theorem vars_eq (a : Bool) (ws : List (List UInt8)) : ∀ (p : PS) (vs : List (Nat × Bool)), p.ok = true → p.told = vs.map (·.1) → p.kinds = vs.map (·.2) → (∀ v, p.seen.testBit v = hasV vs v) →
    match prefTo a vs ws with
    | none => (ws.foldl (varStep a) p).ok = false
    | some vs' => (ws.foldl (varStep a) p).ok = true ∧ (ws.foldl (varStep a) p).told = vs'.map (·.1) ∧ (ws.foldl (varStep a) p).kinds = vs'.map (·.2) ∧ ∀ v, (ws.foldl (varStep a) p).seen.testBit v = hasV vs' v := by
  induction ws with
  | nil => intro p vs h1 h2 h3 h4; exact ⟨h1, h2, h3, h4⟩
  | cons w ws ih =>
    intro p vs h1 h2 h3 h4
    obtain ⟨d0, d1⟩ := dig_bd w
    obtain ⟨dn, hdn⟩ := Int.eq_ofNat_of_zero_le d0
    have hvs := varStep_eq a p w dn hdn
    have hb : badVar vs w = decide (dn = 0 ∨ p.seen.testBit dn = true) := by
      unfold badVar
      rw [hdn, h4]
      rw [Bool.eq_iff_iff]
      simp
    rw [prefTo, List.foldl_cons, hvs, hb]
    by_cases hbad : dn = 0 ∨ p.seen.testBit dn = true
    · rw [if_pos hbad, if_pos (by simpa using hbad)]
      exact vars_false a ws _ rfl
    · rw [if_neg hbad, if_neg (by simpa using hbad)]
      have e : (dig w).toNat = dn := by rw [hdn]; simp
      rw [e]
      refine ih _ _ h1 (by simp [h2]) (by simp [h3]) ?_
      intro v
      rw [hasV_snoc]
      show (p.seen ||| 2 ^ dn).testBit v = _
      rw [Nat.testBit_or, h4, testBit_pow]

theorem inC_snoc (cl : List (Nat × Nat)) (c : Nat × Nat) (v : Nat) (h1 : 1 ≤ v) (h8 : v ≤ 8) : inC (cl ++ [c]) v = (inC cl v || (c.1 ||| c.2).testBit v) := by
  unfold inC
  rw [List.any_append]
  congr 1
  simp only [List.any_cons, List.any_nil, Bool.or_false]
  have e : bitOf (v : Int) = 2 ^ v := by unfold bitOf; rw [if_pos ⟨by omega, by omega⟩]; simp
  rw [e, nat_bit, Nat.testBit_eq_decide_div_mod_eq]
  have hp : 0 < 2 ^ v := Nat.two_pow_pos v
  rcases Nat.mod_two_eq_zero_or_one ((c.1 ||| c.2) / 2 ^ v) with h | h
  · rw [h]; simp
  · rw [h]; simp

theorem dig_nil : dig [] = 0 := rfl
theorem split_words (row hd : List UInt8) (tl : List (List UInt8)) (h : cutAt 32 row = hd :: tl) (hs : splitOk row = false) : hd = [] ∨ [] ∈ tl := by
  unfold splitOk at hs
  rw [h, Bool.not_eq_false', List.any_eq_true] at hs
  obtain ⟨x, hx, he⟩ := hs
  have : x = [] := by simpa using he
  subst this
  simp at hx
  rcases hx with hx | hx
  · exact Or.inl hx
  · exact Or.inr hx
theorem clTo_bad (ws : List (List UInt8)) (h : [] ∈ ws) : ∀ c, clTo c ws = none := by
  induction ws with
  | nil => simp at h
  | cons w ws ih =>
    intro c
    rw [clTo]
    rcases List.mem_cons.1 h with h | h
    · subst h; rw [if_neg (by decide)]
    · split
      · exact ih h _
      · rfl
theorem prefTo_bad (u : Bool) (ws : List (List UInt8)) (h : [] ∈ ws) : ∀ vs, prefTo u vs ws = none := by
  induction ws with
  | nil => simp at h
  | cons w ws ih =>
    intro vs
    rw [prefTo]
    rcases List.mem_cons.1 h with h | h
    · subst h; rw [if_pos (by unfold badVar; rw [dig_nil]; rfl)]
    · split
      · rfl
      · exact ih h _

theorem rowOf_qOf (st : RS) (q : QS) (hd : List UInt8) (tl : List (List UInt8)) (h : Same st q) :
    match qOf q hd tl with
    | none => (rowOf st hd tl).2 = false
    | some q' => (rowOf st hd tl).2 = true ∧ Same (rowOf st hd tl).1 q' := by
  have hpre : ∀ a : Bool, match (qPrefix q tl a).map (fun vs => ({ q with vars := vs } : QS)) with
      | none => st.cl = [] ∧ tl ≠ [] → (varsTo a st tl).ok = false
      | some q' => (st.cl = [] ∧ tl ≠ []) ∧ (varsTo a st tl).ok = true ∧ Same { st with told := (varsTo a st tl).told, kinds := (varsTo a st tl).kinds, seen := (varsTo a st tl).seen } q' := by
    intro a
    unfold qPrefix
    by_cases hc : tl = [] ∨ q.cl ≠ []
    · rw [if_pos hc]
      rintro ⟨h1, h2⟩
      rcases hc with hc | hc
      · exact absurd hc h2
      · rw [h.cl] at h1; exact absurd h1 hc
    · rw [if_neg hc]
      have hc1 : tl ≠ [] := fun e => hc (Or.inl e)
      have hc2 : st.cl = [] := by rw [h.cl]; exact Classical.byContradiction fun e => hc (Or.inr e)
      have hv := vars_eq a tl ⟨st.told, st.kinds, st.seen, true⟩ q.vars rfl h.told h.kinds h.seen
      cases hp : prefTo a q.vars tl with
      | none => rw [hp] at hv; exact fun _ => hv
      | some vs =>
        rw [hp] at hv
        obtain ⟨v1, v2, v3, v4⟩ := hv
        exact ⟨⟨hc2, hc1⟩, v1, h.cl, v2, v3, v4, h.used⟩
  unfold qOf
  by_cases he : hd = [101]
  · subst he
    rw [if_pos rfl]
    have hp := hpre false
    unfold rowOf
    rw [if_neg (by decide)]
    cases hq : (qPrefix q tl false).map (fun vs => ({ q with vars := vs } : QS)) with
    | none =>
      rw [hq] at hp
      by_cases hc : st.cl = [] ∧ tl ≠ []
      · rw [if_pos ⟨Or.inl rfl, hc.1, hc.2⟩]; exact hp hc
      · rw [if_neg (fun x => hc ⟨x.2.1, x.2.2⟩)]
    | some q' =>
      rw [hq] at hp
      obtain ⟨hc, h1, h2⟩ := hp
      rw [if_pos ⟨Or.inl rfl, hc.1, hc.2⟩]
      exact ⟨h1, h2⟩
  · rw [if_neg he]
    by_cases ha : hd = [97]
    · subst ha
      rw [if_pos rfl]
      have hp := hpre true
      unfold rowOf
      rw [if_neg (by decide)]
      cases hq : (qPrefix q tl true).map (fun vs => ({ q with vars := vs } : QS)) with
      | none =>
        rw [hq] at hp
        by_cases hc : st.cl = [] ∧ tl ≠ []
        · rw [if_pos ⟨Or.inr rfl, hc.1, hc.2⟩]; exact hp hc
        · rw [if_neg (fun x => hc ⟨x.2.1, x.2.2⟩)]
      | some q' =>
        rw [hq] at hp
        obtain ⟨hc, h1, h2⟩ := hp
        rw [if_pos ⟨Or.inr rfl, hc.1, hc.2⟩]
        exact ⟨h1, h2⟩
    · rw [if_neg ha]
      by_cases hc : hd = [99]
      · subst hc
        rw [if_pos rfl]
        unfold rowOf
        rw [if_pos rfl]
        have hl := lits_eq tl (0, 0)
        have hll := litsTo_lt tl
        cases hq : clTo (0, 0) tl with
        | none => rw [hq] at hl; exact hl
        | some c =>
          rw [hq] at hl
          have hl' : litsTo tl = (c, true) := hl
          simp only [Option.map_some]
          rw [hl']
          refine ⟨rfl, by simp [h.cl], h.told, h.kinds, h.seen, ?_⟩
          intro v h1 h8
          dsimp only
          rw [inC_snoc _ _ _ h1 h8, Nat.testBit_or, Nat.testBit_or, Nat.testBit_or, h.used v h1 h8, Bool.or_assoc]
      · rw [if_neg hc]
        unfold rowOf
        rw [if_neg hc, if_neg (fun x => by rcases x.1 with h | h; exact he h; exact ha h)]

theorem row_line (st : RS) (q : QS) (row : List UInt8) (h : Same st q) :
    match qLine q row with
    | none => (rowStep st row).2 = false
    | some q' => (rowStep st row).2 = true ∧ Same (rowStep st row).1 q' := by
  obtain ⟨hd, tl, hws⟩ : ∃ hd tl, cutAt 32 row = hd :: tl := by
    cases h : cutAt 32 row with
    | nil => simp [cutAt] at h
    | cons a b => exact ⟨a, b, rfl⟩
  rw [rowStep_eq st row hd tl hws]
  cases hs : splitOk row with
  | true => rw [qLine_eq q row hd tl hws hs]; exact rowOf_qOf st q hd tl h
  | false =>
    have hn : qLine q row = none := by unfold qLine; rw [hs]; rfl
    rw [hn]
    have hw := split_words row hd tl hws hs
    have hr := rowOf_qOf st q hd tl h
    have hq : qOf q hd tl = none := by
      unfold qOf
      split
      · next he =>
        rcases hw with hw | hw
        · rw [hw] at he; cases he
        · unfold qPrefix; split; rfl; rw [prefTo_bad _ _ hw]; rfl
      · split
        · next he =>
          rcases hw with hw | hw
          · rw [hw] at he; cases he
          · unfold qPrefix; split; rfl; rw [prefTo_bad _ _ hw]; rfl
        · split
          · next he =>
            rcases hw with hw | hw
            · rw [hw] at he; cases he
            · rw [clTo_bad _ hw]; rfl
          · rfl
    rw [hq] at hr
    exact hr

theorem rows_eq (rows : List (List UInt8)) : ∀ (st : RS) (q : QS) (i : Nat), Same st q →
    match qRows q i rows with
    | .inr j => readRows st i rows = .inr j
    | .inl q' => ∃ st', readRows st i rows = .inl st' ∧ Same st' q' := by
  induction rows with
  | nil => intro st q i h; exact ⟨st, rfl, h⟩
  | cons r rows ih =>
    intro st q i h
    have hr := row_line st q r h
    rw [qRows, readRows]
    cases hq : qLine q r with
    | none => rw [hq] at hr; dsimp only; rw [if_neg (by rw [hr]; decide)]
    | some q' =>
      rw [hq] at hr
      dsimp only
      rw [if_pos hr.1]
      exact ih _ _ _ hr.2

/-! ### What holds of every formula that is read -/
structure QNice (q : QS) : Prop where
  nodup : (q.vars.map (·.1)).Nodup
  names : ∀ x ∈ q.vars, 1 ≤ x.1 ∧ x.1 ≤ 8
  bits : ∀ c ∈ q.cl, c.1 < 512 ∧ c.2 < 512
  bit0 : ∀ c ∈ q.cl, c.1.testBit 0 = false ∧ c.2.testBit 0 = false
theorem bitOf_zero (x : Int) : (bitOf x).testBit 0 = false := by
  unfold bitOf
  split
  · next h => rw [Nat.testBit_two_pow]; simp; omega
  · simp
theorem withLit_zero (c : Nat × Nat) (x : Int) (h1 : c.1.testBit 0 = false) (h2 : c.2.testBit 0 = false) : (withLit c x).1.testBit 0 = false ∧ (withLit c x).2.testBit 0 = false := by
  unfold withLit; split
  · refine ⟨h1, ?_⟩
    show (c.2 ||| _).testBit 0 = false
    rw [Nat.testBit_or, h2, bitOf_zero]; rfl
  · refine ⟨?_, h2⟩
    show (c.1 ||| _).testBit 0 = false
    rw [Nat.testBit_or, h1, bitOf_zero]; rfl
theorem clTo_zero (ws : List (List UInt8)) : ∀ (c c' : Nat × Nat), c.1.testBit 0 = false → c.2.testBit 0 = false → clTo c ws = some c' → c'.1.testBit 0 = false ∧ c'.2.testBit 0 = false := by
  induction ws with
  | nil => intro c c' h1 h2 h; simp [clTo] at h; subst h; exact ⟨h1, h2⟩
  | cons w ws ih =>
    intro c c' h1 h2 h
    rw [clTo] at h
    split at h
    · have := withLit_zero c (litNum w) h1 h2
      exact ih _ _ this.1 this.2 h
    · cases h
theorem prefTo_nice (u : Bool) (ws : List (List UInt8)) : ∀ (vs vs' : List (Nat × Bool)), (vs.map (·.1)).Nodup → (∀ x ∈ vs, 1 ≤ x.1 ∧ x.1 ≤ 8) → prefTo u vs ws = some vs' → (vs'.map (·.1)).Nodup ∧ ∀ x ∈ vs', 1 ≤ x.1 ∧ x.1 ≤ 8 := by
  induction ws with
  | nil => intro vs vs' h1 h2 h; simp [prefTo] at h; subst h; exact ⟨h1, h2⟩
  | cons w ws ih =>
    intro vs vs' h1 h2 h
    rw [prefTo] at h
    split at h
    · cases h
    · next hb =>
      have hb' : badVar vs w = false := by simpa using hb
      unfold badVar at hb'
      rw [Bool.or_eq_false_iff] at hb'
      obtain ⟨hd, hv⟩ := hb'
      have hd' : 0 < dig w := by simpa using hd
      have hbd := dig_bd w
      refine ih _ _ ?_ ?_ h
      · rw [List.map_append, List.nodup_append]
        refine ⟨h1, by simp, ?_⟩
        intro a ha b hb e
        simp at hb
        subst hb
        subst e
        rw [List.mem_map] at ha
        obtain ⟨x, hx, hxe⟩ := ha
        have : hasV vs (dig w).toNat = true := by
          unfold hasV; rw [List.any_eq_true]; exact ⟨x, hx, by simpa using hxe⟩
        rw [this] at hv; cases hv
      · intro x hx
        rcases List.mem_append.1 hx with hx | hx
        · exact h2 x hx
        · simp at hx; subst hx; constructor <;> (dsimp only; omega)
theorem qLine_nice {q q' : QS} {r : List UInt8} (hq : QNice q) (h : qLine q r = some q') : QNice q' := by
  have hpre : ∀ u tl vs, qPrefix q tl u = some vs → QNice { q with vars := vs } := by
    intro u tl vs hv
    unfold qPrefix at hv
    split at hv
    · cases hv
    · have := prefTo_nice u tl _ _ hq.nodup hq.names hv
      exact ⟨this.1, this.2, hq.bits, hq.bit0⟩
  unfold qLine at h
  split at h
  · split at h
    · cases h
    · next hd tl hws =>
      unfold qOf at h
      split at h
      · cases hp : qPrefix q tl false with
        | none => rw [hp] at h; cases h
        | some vs => rw [hp] at h; simp at h; subst h; exact hpre _ _ _ hp
      · split at h
        · cases hp : qPrefix q tl true with
          | none => rw [hp] at h; cases h
          | some vs => rw [hp] at h; simp at h; subst h; exact hpre _ _ _ hp
        · split at h
          · cases hp : clTo (0, 0) tl with
            | none => rw [hp] at h; cases h
            | some c =>
              rw [hp] at h; simp at h; subst h
              refine ⟨hq.nodup, hq.names, ?_, ?_⟩
              · intro c' hc'
                simp at hc'
                rcases hc' with hc' | hc'
                · exact hq.bits c' hc'
                · subst hc'; exact clTo_lt tl _ _ (by decide) (by decide) hp
              · intro c' hc'
                simp at hc'
                rcases hc' with hc' | hc'
                · exact hq.bit0 c' hc'
                · subst hc'; exact clTo_zero tl _ _ (by decide) (by decide) hp
          · cases h
  · cases h
theorem qRows_nice (rows : List (List UInt8)) : ∀ (q q' : QS) (i : Nat), QNice q → qRows q i rows = .inl q' → QNice q' := by
  induction rows with
  | nil => intro q q' i h e; simp [qRows] at e; subst e; exact h
  | cons r rows ih =>
    intro q q' i h e
    rw [qRows] at e
    cases hq : qLine q r with
    | none => rw [hq] at e; cases e
    | some q1 => rw [hq] at e; exact ih _ _ _ (qLine_nice h hq) e

/-- Read and Load: the same error and line; or formulas that say the same. -/
theorem spec_eq (l : List UInt8) :
    match loadSpec l with
    | .inl a => readSpec l = .inl a
    | .inr q => ∃ st q0, readSpec l = .inr (finish st) ∧ Same st q0 ∧ q = qFinish q0 ∧ q0.cl.length ≤ 24 ∧ QNice q0 := by
  unfold loadSpec readSpec
  by_cases hl : 2000 < l.length
  · rw [if_pos hl, if_pos hl]
  · rw [if_neg hl, if_neg hl]
    have e1 : (cutAt 10 l).dropLast = (cutTo 10 l).1 := by unfold cutAt; simp
    have e2 : (cutAt 10 l).getLast? = some (cutTo 10 l).2 := by unfold cutAt; simp
    have e3 : (cutAt 10 l).length = (cutTo 10 l).1.length + 1 := by unfold cutAt; simp
    rw [e1, e2, e3]
    have hr := rows_eq (cutTo 10 l).1 rs0 ⟨[], []⟩ 0 ⟨rfl, rfl, rfl, fun v => by simp [rs0, hasV], fun v _ _ => by simp [rs0, inC]⟩
    cases hq : qRows ⟨[], []⟩ 0 (cutTo 10 l).1 with
    | inr j => rw [hq] at hr; dsimp only; rw [hr]
    | inl q =>
      rw [hq] at hr
      obtain ⟨st, h1, h2⟩ := hr
      dsimp only
      rw [h1]
      dsimp only
      by_cases hn : (cutTo 10 l).2 = []
      · have c1 : ¬ ((cutTo 10 l).2 ≠ []) := fun h => h hn
        have c2 : ¬ (some (cutTo 10 l).2 ≠ some []) := fun h => h (by rw [hn])
        rw [if_neg c1, if_neg c2, h2.cl]
        by_cases h24 : 24 < q.cl.length
        · rw [if_pos h24, if_pos h24]
        · rw [if_neg h24, if_neg h24]
          exact ⟨st, q, rfl, h2, rfl, by omega, qRows_nice _ _ _ _ ⟨by simp, by simp, by simp, by simp⟩ hq⟩
      · have c2 : some (cutTo 10 l).2 ≠ some [] := fun h => hn (by simpa using h)
        rw [if_pos hn, if_pos c2]
end Go.Proofs.YtgipjjhkhfihpaaGreatDoor

namespace Go.Proofs.YtgipjjhkhfihpaaGreatDoor

/-! ### Blocks, by the kinds of the variables -/
def kindAt (vs : List (Nat × Bool)) (i : Nat) : Bool := (vs.getD i (0, false)).2
def newAt (vs : List (Nat × Bool)) (i : Nat) : Bool := decide (0 < i) && (kindAt vs i != kindAt vs (i - 1))
/-- Where blocks end ahead of k. -/
def cutsTo (vs : List (Nat × Bool)) (k : Nat) : List Nat := (List.range k).filter (newAt vs)
theorem cutsTo_succ (vs : List (Nat × Bool)) (k : Nat) : cutsTo vs (k + 1) = cutsTo vs k ++ (if newAt vs k then [k] else []) := by
  unfold cutsTo
  rw [List.range_succ, List.filter_append]
  congr 1
  simp [List.filter_cons]
theorem cutsTo_lt (vs : List (Nat × Bool)) (k : Nat) : ∀ x ∈ cutsTo vs k, 0 < x ∧ x < k := by
  intro x hx
  unfold cutsTo at hx
  rw [List.mem_filter] at hx
  obtain ⟨h1, h2⟩ := hx
  simp [newAt] at h1 h2
  exact ⟨h2.1, h1⟩
/-- What the program has gathered behind k variables: whole blocks, and the one at hand. -/
def gather (vs : List (Nat × Bool)) : Nat → List (List Nat) × List Nat
  | 0 => ([], [])
  | k + 1 => if newAt vs k then ((gather vs k).1 ++ [(gather vs k).2], [(vs.getD k (0, false)).1]) else ((gather vs k).1, (gather vs k).2 ++ [(vs.getD k (0, false)).1])
def progBlocks (vs : List (Nat × Bool)) : List (List Nat) := if 0 < (gather vs vs.length).2.length then (gather vs vs.length).1 ++ [(gather vs vs.length).2] else (gather vs vs.length).1

theorem getD_left {α : Type} (a b : List α) (j : Nat) (d : α) (h : j < a.length) : (a ++ b).getD j d = a.getD j d := by
  simp [List.getD, List.getElem?_append_left h]
/-- A piece of a list. -/
def piece (l : List Nat) (a b : Nat) : List Nat := (l.drop a).take (b - a)
def startOf (es : List Nat) (j : Nat) : Nat := if 0 < j then es.getD (j - 1) 0 else 0
theorem piece_snoc (l : List Nat) (a b : Nat) (hab : a ≤ b) (hb : b < l.length) : piece l a (b + 1) = piece l a b ++ [l[b]] := by
  unfold piece
  rw [show b + 1 - a = (b - a) + 1 from by omega, List.take_succ_eq_append_getElem (by simp; omega)]
  congr 1
  simp
  congr 1
  omega
theorem gather_eq (vs : List (Nat × Bool)) : ∀ k, k ≤ vs.length → 
    (gather vs k).1 = (List.range (cutsTo vs k).length).map (fun j => piece (vs.map (·.1)) (startOf (cutsTo vs k) j) ((cutsTo vs k).getD j 0)) ∧
    (gather vs k).2 = piece (vs.map (·.1)) (startOf (cutsTo vs k) (cutsTo vs k).length) k := by
  intro k
  induction k with
  | zero => intro _; simp [gather, cutsTo, piece, startOf]
  | succ k ih =>
    intro hk
    obtain ⟨h1, h2⟩ := ih (by omega)
    have hlt := cutsTo_lt vs k
    have hst : startOf (cutsTo vs k) (cutsTo vs k).length ≤ k := by
      unfold startOf
      split
      · next hp =>
        have hm : (cutsTo vs k).getD ((cutsTo vs k).length - 1) 0 ∈ cutsTo vs k := by
          rw [List.getD, List.getElem?_eq_getElem (by omega)]
          exact List.getElem_mem _
        have := (hlt _ hm).2; omega
      · omega
    have hv : (vs.getD k (0, false)).1 = (vs.map (·.1))[k]'(by simp; omega) := by
      simp [List.getD, show k < vs.length by omega]
    rw [gather, cutsTo_succ]
    cases hn : newAt vs k with
    | false =>
      rw [if_neg (by decide), if_neg (by decide)]
      simp only [List.append_nil]
      refine ⟨h1, ?_⟩
      rw [h2, hv, ← piece_snoc _ _ _ hst]
    | true =>
      rw [if_pos rfl, if_pos rfl]
      constructor
      · show (gather vs k).1 ++ [(gather vs k).2] = _
        rw [List.length_append, List.length_singleton, List.range_succ, List.map_append, h1, h2]
        congr 1
        · apply List.map_congr_left
          intro j hj
          have hj' : j < (cutsTo vs k).length := by simpa using hj
          have e1 : startOf (cutsTo vs k ++ [k]) j = startOf (cutsTo vs k) j := by
            unfold startOf
            split
            · rw [getD_left _ _ _ _ (by omega)]
            · rfl
          rw [e1, getD_left _ _ _ _ hj']
        · simp only [List.map_cons, List.map_nil]
          have e1 : startOf (cutsTo vs k ++ [k]) (cutsTo vs k).length = startOf (cutsTo vs k) (cutsTo vs k).length := by
            unfold startOf
            split
            · rw [getD_left _ _ _ _ (by omega)]
            · rfl
          rw [e1]
          simp [List.getD]
      · show [(vs.getD k (0, false)).1] = _
        have e1 : startOf (cutsTo vs k ++ [k]) (cutsTo vs k ++ [k]).length = k := by
          unfold startOf
          rw [if_pos (by simp)]
          simp [List.getD]
        rw [e1]
        unfold piece
        rw [show k + 1 - k = 1 from by omega, List.drop_eq_getElem_cons (by simp; omega), hv]
        rfl

/-- Where all blocks end. -/
def endsOf (vs : List (Nat × Bool)) : List Nat := if 0 < vs.length then cutsTo vs vs.length ++ [vs.length] else []
theorem gather_pos (vs : List (Nat × Bool)) (k : Nat) : 0 < (gather vs (k + 1)).2.length := by
  rw [gather]; split <;> simp
theorem progBlocks_eq (vs : List (Nat × Bool)) : progBlocks vs = (List.range (endsOf vs).length).map (fun j => piece (vs.map (·.1)) (startOf (endsOf vs) j) ((endsOf vs).getD j 0)) := by
  obtain ⟨h1, h2⟩ := gather_eq vs vs.length (Nat.le_refl _)
  unfold progBlocks endsOf
  rcases Nat.eq_zero_or_pos vs.length with h0 | h0
  · rw [h0]; simp [gather]
  · have hp : 0 < (gather vs vs.length).2.length := by
      obtain ⟨k, hk⟩ : ∃ k, vs.length = k + 1 := ⟨vs.length - 1, by omega⟩
      rw [hk]; exact gather_pos vs k
    rw [if_pos hp, if_pos h0]
    rw [List.length_append, List.length_singleton, List.range_succ, List.map_append, h1, h2]
    congr 1
    · apply List.map_congr_left
      intro j hj
      have hj' : j < (cutsTo vs vs.length).length := by simpa using hj
      have e1 : startOf (cutsTo vs vs.length ++ [vs.length]) j = startOf (cutsTo vs vs.length) j := by
        unfold startOf
        split
        · rw [getD_left _ _ _ _ (by omega)]
        · rfl
      rw [e1, getD_left _ _ _ _ hj']
    · simp only [List.map_cons, List.map_nil]
      have e1 : startOf (cutsTo vs vs.length ++ [vs.length]) (cutsTo vs vs.length).length = startOf (cutsTo vs vs.length) (cutsTo vs vs.length).length := by
        unfold startOf
        split
        · rw [getD_left _ _ _ _ (by omega)]
        · rfl
      rw [e1]
      simp [List.getD]

/-- Read's ends, where its bits tell the kinds. -/
theorem ends_eq (vs : List (Nat × Bool)) (all : Nat) (hk : ∀ x ∈ vs, all.testBit x.1 = x.2) : endsTo (vs.map (·.1)) all vs.length = endsOf vs := by
  have hka : ∀ i, i < vs.length → all.testBit ((vs.map (·.1)).getD i 0) = kindAt vs i := by
    intro i hi
    unfold kindAt
    have := hk vs[i] (List.getElem_mem hi)
    simpa [List.getD, hi] using this
  have h : ∀ k, k ≤ vs.length → endsTo (vs.map (·.1)) all k = (cutsTo vs (min (k + 1) vs.length)) ++ (if k = vs.length ∧ 0 < vs.length then [vs.length] else []) := by
    intro k
    induction k with
    | zero =>
      intro _
      rcases Nat.eq_zero_or_pos vs.length with h0 | h0
      · rw [h0]; simp [endsTo, cutsTo]
      · rw [show min (0 + 1) vs.length = 1 from by omega, if_neg (by omega)]
        simp [endsTo, cutsTo, newAt]
    | succ k ih =>
      intro hle
      rw [endsTo_succ, ih (by omega)]
      have hne : ¬ (k = vs.length ∧ 0 < vs.length) := by omega
      rw [if_neg hne, List.append_nil, show min (k + 1) vs.length = k + 1 from by omega]
      by_cases hlast : k + 1 = vs.length
      · have e : endAt (vs.map (·.1)) all (k + 1) = true := by
          unfold endAt; simp [hlast]
        rw [e, if_pos rfl, if_pos ⟨hlast, by omega⟩, show min (k + 1 + 1) vs.length = k + 1 from by omega, hlast]
      · have hlt : k + 1 < vs.length := by omega
        have e : endAt (vs.map (·.1)) all (k + 1) = newAt vs (k + 1) := by
          unfold endAt newAt
          rw [hka (k + 1) hlt, hka (k + 1 - 1) (by omega)]
          simp [hlast]
        have hne2 : ¬ (k + 1 = vs.length ∧ 0 < vs.length) := by omega
        rw [e, if_neg hne2, List.append_nil, show min (k + 1 + 1) vs.length = k + 1 + 1 from by omega, cutsTo_succ vs (k + 1)]
  rw [h vs.length (Nat.le_refl _)]
  unfold endsOf
  rw [show min (vs.length + 1) vs.length = vs.length from by omega]
  by_cases h0 : 0 < vs.length
  · rw [if_pos ⟨rfl, h0⟩, if_pos h0]
  · rw [if_neg (by omega), if_neg h0, show vs.length = 0 from by omega]
    rfl
end Go.Proofs.YtgipjjhkhfihpaaGreatDoor

namespace Go.Proofs.YtgipjjhkhfihpaaGreatDoor
open Go.RowKit

theorem Tryz.infoInts : (Tryz.prog.info? 25).map (fun i => (i.zero, i.size, i.bytes)) = some (some (.slice none 0 0), 1, 24) := by kernel_rfl

/-- Lists of numbers, each in a row of its own; their headers in a row. -/
structure RowsAt (base : Nat) (w : World) (bs : List (List Nat)) (hdrs : List Value) : Prop where
  len : hdrs.length = bs.length
  row : ∀ j (hj : j < bs.length), w.ownsRow base 3 1 (hdrs[j]'(by omega)) bs[j].length (ints bs[j]) ∧ bs[j] ≠ []
  apart : ∀ i j (hi : i < hdrs.length) (hj : j < hdrs.length), i ≠ j → apart hdrs[i] hdrs[j]
structure BInv (base : Nat) (w : World) (bs : List (List Nat)) (cur : List Nat) (hdrs : List Value) (vB vb : Value) : Prop where
  rows : RowsAt base w bs hdrs
  oB : w.ownsRow base 25 1 vB bs.length hdrs
  ob : w.ownsRow base 3 1 vb cur.length (ints cur)
  ap : ∀ j (hj : j < hdrs.length), apart vb hdrs[j]

theorem RowsAt.later {base : Nat} {w w' : World} {bs : List (List Nat)} {hdrs : List Value} (h : RowsAt base w bs hdrs) (hb : Below w.heap.size w w') : RowsAt base w' bs hdrs :=
  ⟨h.len, fun j hj => ⟨own_below (h.row j hj).1 hb, (h.row j hj).2⟩, h.apart⟩
theorem BInv.later {base : Nat} {w w' : World} {bs : List (List Nat)} {cur : List Nat} {hdrs : List Value} {vB vb : Value} (h : BInv base w bs cur hdrs vB vb) (hb : Below w.heap.size w w') : BInv base w' bs cur hdrs vB vb :=
  ⟨h.rows.later hb, own_below h.oB hb, own_below h.ob hb, h.ap⟩

theorem BInv.push_block {base : Nat} {w w' : World} {bs : List (List Nat)} {cur : List Nat} {hdrs : List Value} {vB vb v' : Value} (h : BInv base w bs cur hdrs vB vb) (hc : cur ≠ []) (hg : w.grownBy w' vB.ownBlock)
    (hown : w'.ownsRow base 25 1 v' (bs.length + 1) (hdrs ++ [vb])) : BInv base w' (bs ++ [cur]) [] (hdrs ++ [vb]) v' (.slice none 0 0) := by
  have hl := h.rows.len
  have kb := own_kept h.ob (Below.refl _ _) h.oB hg (by decide)
  refine ⟨⟨by simp [hl], ?_, ?_⟩, by simpa using hown, World.ownsRow_nil _ _ _ _, fun _ _ => apart_nil _⟩
  · intro j hj
    by_cases hjl : j < bs.length
    · have := h.rows.row j hjl
      simp only [List.getElem_append_left hjl, List.getElem_append_left (show j < hdrs.length by omega)]
      exact ⟨own_kept this.1 (Below.refl _ _) h.oB hg (by decide), this.2⟩
    · have hje : j = bs.length := by simp at hj; omega
      subst hje
      simp only [List.getElem_concat_length]
      rw [show (hdrs ++ [vb])[bs.length]'(by simp; omega) = vb from by simp [← hl]]
      exact ⟨kb, hc⟩
  · intro i j hi hj hij
    by_cases hil : i < hdrs.length
    · by_cases hjl : j < hdrs.length
      · simp only [List.getElem_append_left hil, List.getElem_append_left hjl]
        exact h.rows.apart i j hil hjl hij
      · have hje : j = hdrs.length := by simp at hj; omega
        subst hje
        simp only [List.getElem_append_left hil, List.getElem_concat_length]
        exact (h.ap i hil).symm
    · have hie : i = hdrs.length := by simp at hi; omega
      subst hie
      have hjl : j < hdrs.length := by simp at hj; omega
      simp only [List.getElem_append_left hjl, List.getElem_concat_length]
      exact h.ap j hjl
theorem BInv.push_var {base : Nat} {w w' : World} {bs : List (List Nat)} {cur : List Nat} {hdrs : List Value} {vB vb v' : Value} {x : Nat} (h : BInv base w bs cur hdrs vB vb) (hg : w.grownBy w' vb.ownBlock)
    (hown : w'.ownsRow base 3 1 v' (cur.length + 1) (ints cur ++ [.int .i64 (x : Int)])) (hat : v'.ownBlock = vb.ownBlock ∨ ∃ k, v'.ownBlock = some k ∧ w.heap.size ≤ k) : BInv base w' bs (cur ++ [x]) hdrs vB v' := by
  refine ⟨⟨h.rows.len, fun j hj => ⟨?_, (h.rows.row j hj).2⟩, h.rows.apart⟩, own_kept h.oB (Below.refl _ _) h.ob hg (by decide), by simpa [ints] using hown, fun j hj => ?_⟩
  · have hl := h.rows.len
    exact (h.rows.row j hj).1.kept hg (h.ap j (by omega)).symm.keep
  · have hl := h.rows.len
    exact (h.ap j hj).grown (h.rows.row j (by omega)).1 hat

/-- A block of another kind is as it was behind an append. -/
theorem blk_kept {w w' : World} {v : Value} {base n size g : Nat} {e t : TypeId} {xs : List Value} {cs : Array Value} (hg : w.grownBy w' v.ownBlock) (ho : w.ownsRow base e size v n xs) (hb : w.heap[g]? = some (.cells cs t (0, 0))) (he : t ≠ e) : w'.heap[g]? = some (.cells cs t (0, 0)) := by
  rw [hg.block g (blk_lt hb) (fun eq => by
    rcases ho.2 with ⟨rfl, _⟩ | ⟨g', cap, cur', rfl, _, hh, _⟩
    · simp [Value.ownBlock] at eq
    · simp [Value.ownBlock] at eq
      subst eq
      rw [hb] at hh
      simp at hh
      exact he hh.2)]
  exact hb

theorem gather_len (vs : List (Nat × Bool)) (k : Nat) : (gather vs k).1.length ≤ k ∧ (gather vs k).2.length ≤ k := by
  induction k with
  | zero => simp [gather]
  | succ k ih =>
    rw [gather]
    split <;> simp <;> omega

def QBlocksPost (vs : List (Nat × Bool)) (w : World) (e : Ending) (w' : World) : Prop :=
  ∃ v hdrs, e = .returned v ∧ w'.ownsRow w.heap.size 25 1 v (progBlocks vs).length hdrs ∧ RowsAt w.heap.size w' (progBlocks vs) hdrs ∧ Below w.heap.size w w'

set_option maxRecDepth 100000 in
set_option maxHeartbeats 3200000 in
theorem qblocks_any (base b : Nat) (q : QS) (w : World) (aV : Option Addr) (cV : Nat) (hf : w.cell? ⟨b, 0, none⟩ = some (.slice aV q.vars.length cV)) (hb : b < w.heap.size) (hV : w.ownsRow base 139 2 (.slice aV q.vars.length cV) q.vars.length (varCells q.vars)) (hl : q.vars.length ≤ 1048576) :
    Calls Tryz.prog 49 #[.pointer (some ⟨b, 0, none⟩)] w fun e w' => QBlocksPost q.vars w e w' := by
  obtain ⟨i3, hi3, hz30, hz31, hz32⟩ := info_parts Tryz.info3
  obtain ⟨i5, hi5, hz50, hz51, hz52⟩ := info_parts Tryz.infoInts
  go_enter Tryz.func49, Tryz.ntmps49
  go_wp2_with fail
  go_loopg [3, 4, 12] (q.vars.length) (fun n vB vb i wx => ∃ (k : Nat) (hdrs : List Value), i = .int .i64 k ∧ k + n = q.vars.length ∧ BInv w.heap.size wx (gather q.vars k).1 (gather q.vars k).2 hdrs vB vb ∧ Below w.heap.size w wx)
  case atStart => exact ⟨0, [], rfl, by omega, ⟨⟨rfl, fun j hj => by simp [gather] at hj, fun i j hi => by simp at hi⟩, World.ownsRow_nil _ _ _ _, World.ownsRow_nil _ _ _ _, fun j hj => by simp at hj⟩, Below.refl _ _⟩
  case round =>
    obtain ⟨k, hdrs, rfl, hk, hB, hbx⟩ := hrel
    have hbs := hbx.size
    obtain ⟨gl1, gl2⟩ := gather_len q.vars k
    by_cases hlt : k < q.vars.length
    · obtain ⟨g, cap, hVe, hg, hg', _, hcell⟩ := own_pos hV (by omega)
      injection hVe with hVe _ hV2
      subst hVe hV2
      have hgw : g < wr.heap.size := by omega
      have hbw : b < wr.heap.size := by omega
      obtain ⟨ha, hb'⟩ := varCells_at q.vars k hlt
      have hx0 : wr.cell? ⟨g, k * 2, none⟩ = some (.int .i64 (q.vars[k].1 : Int)) := by rw [hbx.cell (p := ⟨g, k * 2, none⟩) hg']; exact hcell _ _ ha
      have hx1 : wr.cell? ⟨g, k * 2 + 1, none⟩ = some (.bool q.vars[k].2) := by rw [hbx.cell (p := ⟨g, k * 2 + 1, none⟩) hg']; exact hcell _ _ hb'
      have hf1 : wr.cell? ⟨b, 0, none⟩ = some (.slice (some ⟨g, 0, none⟩) q.vars.length cV) := by rw [hbx.cell (p := ⟨b, 0, none⟩) hb]; exact hf
      have hdk : decide ((k : Int) < (q.vars.length : Int)) = true := by simp; omega
      have HG : Hid (gather q.vars (k + 1) = if newAt q.vars k then ((gather q.vars k).1 ++ [(gather q.vars k).2], [q.vars[k].1]) else ((gather q.vars k).1, (gather q.vars k).2 ++ [q.vars[k].1])) := hide (by
        rw [gather]; simp [List.getD, hlt])
      by_cases h0 : 0 < k
      · obtain ⟨ha1, hb1⟩ := varCells_at q.vars (k - 1) (by omega)
        have hy1 : wr.cell? ⟨g, (k - 1) * 2 + 1, none⟩ = some (.bool q.vars[k - 1].2) := by rw [hbx.cell (p := ⟨g, (k - 1) * 2 + 1, none⟩) hg']; exact hcell _ _ hb1
        have hd0 : decide (0 < k) = true := by simpa using h0
        have HN : Hid (newAt q.vars k = (q.vars[k].2 != q.vars[k - 1].2)) := hide (by
          unfold newAt kindAt; simp [List.getD, hlt, show k - 1 < q.vars.length by omega, h0])
        have hcur : (gather q.vars k).2 ≠ [] := by
          intro e
          have := gather_pos q.vars (k - 1)
          rw [show k - 1 + 1 = k from by omega, e] at this
          simp at this
        clear hcell ha hb' ha1 hb1
        generalize gather q.vars k = G at *
        obtain ⟨bs, cur⟩ := G
        dsimp only at hB gl1 gl2 hcur
        generalize q.vars[k - 1] = y at *
        generalize q.vars[k] = x at *
        obtain ⟨x1, x2⟩ := x
        obtain ⟨y1, y2⟩ := y
        dsimp only at hx0 hx1 hy1
        have hbelA : ∀ nq, Below wr.heap.size wr ((wr.alloc (.cells #[.int .i64 (x1 : Int), .bool x2] 139)).drewN nq) := fun nq => below_drewN ((Below.refl _ _).alloc (Nat.le_refl _) _) nq
        have hcvA : ∀ nq, ((wr.alloc (.cells #[.int .i64 (x1 : Int), .bool x2] 139)).drewN nq).heap[wr.heap.size]? = some (.cells #[.int .i64 (x1 : Int), .bool x2] 139 (0, 0)) := fun nq => heap_alloc_new wr _
        have HBA := hide hbelA
        have HCA := hide hcvA
        clear hbelA hcvA
        cases hxy : (x2 != y2) with
        | false =>
          have HN2 : Hid (newAt q.vars k = false) := hide (by rw [unhide HN]; exact hxy)
          have HXY := hide hxy
          clear hxy
          cases x2 <;> cases y2 <;> first | (exfalso; exact absurd (unhide HXY) (by decide)) | skip
          all_goals
            go_wp2_with fail
            go_quiet (fail)
            have hb1 := unhide HBA nq
            have hc1 := unhide HCA nq
            generalize World.drewN _ nq = W at *
            have hBW := hB.later hb1
            have hbW : Below w.heap.size w W := hbx.trans (hb1.mono hbs)
            have hbWs := hbW.size
            have hcv : W.cell? ⟨wr.heap.size, 0, none⟩ = some (.int .i64 (x1 : Int)) := by rw [blk_cell hc1]; rfl
            go_wp2_with (at_builtin; refine wpList_append_at rfl (.tmp 37) (.tmp 40) 25 rfl w.heap.size i3 (.int .i64 0) 1 8 Tryz.underlying25 hi3 hz30 hz31 hz32 rfl (by decide) _ _ _ hBW.ob rfl rfl rfl (by simp [Value.oneCell']) (by unfold maxLen; omega) (by omega) hbWs ?_; intro v5 w5 hown5 hgrow5 hat5)
            go_roundg (gk - 1)
            case measure => omega
            case rel =>
              refine ⟨k + 1, hdrs, by go_num, by omega, ?_, below_grown hbW hgrow5 hBW.ob (Nat.le_refl _) hbWs⟩
              rw [unhide HG, unhide HN2, if_neg (by decide)]
              exact hBW.push_var hgrow5 hown5 hat5
        | true =>
          have HN2 : Hid (newAt q.vars k = true) := hide (by rw [unhide HN]; exact hxy)
          have HXY := hide hxy
          clear hxy
          have hcl : 0 < cur.length := List.length_pos_iff.2 hcur
          cases x2 <;> cases y2 <;> first | (exfalso; exact absurd (unhide HXY) (by decide)) | skip
          all_goals
            go_wp2_with fail
            go_quiet (fail)
            have hb1 := unhide HBA nq
            have hc1 := unhide HCA nq
            generalize World.drewN _ nq = W at *
            have hBW := hB.later hb1
            have hbW : Below w.heap.size w W := hbx.trans (hb1.mono hbs)
            have hbWs := hbW.size
            obtain ⟨gb, capb, rfl, _, _, _, _⟩ := own_pos hBW.ob hcl
            go_wp2_with (first | (at_builtin; refine wpList_append_at rfl (.tmp 33) (.tmp 35) 45 rfl w.heap.size i5 (.slice none 0 0) 1 24 Tryz.underlying45 hi5 hz50 hz51 hz52 rfl (by decide) _ _ _ hBW.oB rfl rfl rfl (by simp [Value.oneCell']) (by unfold maxLen; omega) (by omega) hbWs ?_; intro v4 w4 hown4 hgrow4 hat4; have hB4 := hBW.push_block hcur hgrow4 hown4; have hc4 := blk_kept hgrow4 hBW.oB hc1 (by decide); have hcv : w4.cell? ⟨wr.heap.size, 0, none⟩ = some (.int .i64 (x1 : Int)) := (by rw [blk_cell hc4]; rfl); have hb4 := below_grown hbW hgrow4 hBW.oB (Nat.le_refl _) hbWs; have hb4s := hb4.size) | (at_builtin; refine wpList_append_at rfl (.tmp 37) (.tmp 40) 25 rfl w.heap.size i3 (.int .i64 0) 1 8 Tryz.underlying25 hi3 hz30 hz31 hz32 rfl (by decide) _ _ _ hB4.ob rfl rfl rfl (by simp [Value.oneCell']) (by unfold maxLen; simp) (by simp) hb4s ?_; intro v5 w5 hown5 hgrow5 hat5))
            go_roundg (gk - 1)
            case measure => omega
            case rel =>
              refine ⟨k + 1, hdrs ++ [.slice (some ⟨gb, 0, none⟩) cur.length capb], by go_num, by omega, ?_, below_grown hb4 hgrow5 hB4.ob (Nat.le_refl _) hb4s⟩
              rw [unhide HG, unhide HN2, if_pos rfl]
              exact hB4.push_var hgrow5 hown5 hat5
      · have hd0 : decide (0 < k) = false := by simpa using h0
        have HN2 : Hid (newAt q.vars k = false) := hide (by unfold newAt; rw [hd0]; rfl)
        clear hcell ha hb' h0
        generalize gather q.vars k = G at *
        obtain ⟨bs, cur⟩ := G
        dsimp only at hB gl1 gl2
        generalize q.vars[k] = x at *
        obtain ⟨x1, x2⟩ := x
        dsimp only at hx0 hx1
        have HBA : Hid (∀ nq, Below wr.heap.size wr ((wr.alloc (.cells #[.int .i64 (x1 : Int), .bool x2] 139)).drewN nq)) := hide (fun nq => below_drewN ((Below.refl _ _).alloc (Nat.le_refl _) _) nq)
        have HCA : Hid (∀ nq, ((wr.alloc (.cells #[.int .i64 (x1 : Int), .bool x2] 139)).drewN nq).heap[wr.heap.size]? = some (.cells #[.int .i64 (x1 : Int), .bool x2] 139 (0, 0))) := hide (fun nq => heap_alloc_new wr _)
        go_wp2_with fail
        go_quiet (fail)
        have hb1 := unhide HBA nq
        have hc1 := unhide HCA nq
        generalize World.drewN _ nq = W at *
        have hBW := hB.later hb1
        have hbW : Below w.heap.size w W := hbx.trans (hb1.mono hbs)
        have hbWs := hbW.size
        have hcv : W.cell? ⟨wr.heap.size, 0, none⟩ = some (.int .i64 (x1 : Int)) := by rw [blk_cell hc1]; rfl
        go_wp2_with (at_builtin; refine wpList_append_at rfl (.tmp 37) (.tmp 40) 25 rfl w.heap.size i3 (.int .i64 0) 1 8 Tryz.underlying25 hi3 hz30 hz31 hz32 rfl (by decide) _ _ _ hBW.ob rfl rfl rfl (by simp [Value.oneCell']) (by unfold maxLen; omega) (by omega) hbWs ?_; intro v5 w5 hown5 hgrow5 hat5)
        go_roundg (gk - 1)
        case measure => omega
        case rel =>
          refine ⟨k + 1, hdrs, by go_num, by omega, ?_, below_grown hbW hgrow5 hBW.ob (Nat.le_refl _) hbWs⟩
          rw [unhide HG, unhide HN2, if_neg (by decide)]
          exact hBW.push_var hgrow5 hown5 hat5
    · have hkl : k = q.vars.length := by omega
      subst hkl
      have hdk : decide ((q.vars.length : Int) < (q.vars.length : Int)) = false := by simp
      obtain ⟨pb, hpb⟩ : ∃ pb, progBlocks q.vars = pb := ⟨_, rfl⟩
      have hpb2 := hpb
      unfold progBlocks at hpb2
      have HPB := hide hpb
      have HPB2 := hide hpb2
      clear hpb hpb2
      generalize gather q.vars q.vars.length = G at *
      obtain ⟨bs, cur⟩ := G
      dsimp only at hB gl1 gl2
      by_cases hc : 0 < cur.length
      · have hdc : decide (0 < cur.length) = true := by simpa using hc
        have HP : Hid (progBlocks q.vars = bs ++ [cur]) := hide (by rw [unhide HPB, ← unhide HPB2]; exact if_pos hc)
        obtain ⟨gb, capb, rfl, _, _, _, _⟩ := own_pos hB.ob hc
        have hcur : cur ≠ [] := List.length_pos_iff.1 hc
        go_wp2_with (at_builtin; refine wpList_append_at rfl (.tmp 46) (.tmp 48) 45 rfl w.heap.size i5 (.slice none 0 0) 1 24 Tryz.underlying45 hi5 hz50 hz51 hz52 rfl (by decide) _ _ _ hB.oB rfl rfl rfl (by simp [Value.oneCell']) (by unfold maxLen; omega) (by omega) hbs ?_; intro v4 w4 hown4 hgrow4 hat4)
        go_ret
        have hB4 := hB.push_block hcur hgrow4 hown4
        refine ⟨v4, hdrs ++ [.slice (some ⟨gb, 0, none⟩) cur.length capb], rfl, ?_, ?_, below_grown hbx hgrow4 hB.oB (Nat.le_refl _) hbs⟩
        · rw [unhide HP]; exact hB4.oB
        · rw [unhide HP]; exact hB4.rows
      · have hdc : decide (0 < cur.length) = false := by simpa using hc
        have HP : Hid (progBlocks q.vars = bs) := hide (by rw [unhide HPB, ← unhide HPB2]; exact if_neg hc)
        obtain ⟨ab, cb, rfl⟩ := own_form hB.ob
        go_wp2_with fail
        go_ret
        refine ⟨_, hdrs, rfl, ?_, ?_, hbx⟩
        · rw [unhide HP]; exact hB.oB
        · rw [unhide HP]; exact hB.rows
end Go.Proofs.YtgipjjhkhfihpaaGreatDoor

namespace Go.Proofs.YtgipjjhkhfihpaaGreatDoor
open Go.RowKit

theorem qblocks_before {vs : List (Nat × Bool)} {w w0 w' : World} {e : Ending} (h : QBlocksPost vs w0 e w') (hb : Below w.heap.size w w0) : QBlocksPost vs w e w' := by
  obtain ⟨v, hdrs, h0, h1, h2, h3⟩ := h
  exact ⟨v, hdrs, h0, own_lo h1 hb.size, ⟨h2.len, fun j hj => ⟨own_lo (h2.row j hj).1 hb.size, (h2.row j hj).2⟩, h2.apart⟩, hb.trans (h3.mono hb.size)⟩
set_option maxRecDepth 100000 in
set_option maxHeartbeats 800000 in
theorem dblocks_any (lo b : Nat) (q : QS) (w : World) (hP : ProgAt lo w b q) (hl : q.vars.length ≤ 1048576) :
    Calls Tryz.prog 58 #[.pointer (some ⟨b, 0, none⟩)] w fun e w' => QBlocksPost q.vars w e w' := by
  obtain ⟨_, vV, vC, hb, hV, hC⟩ := hP
  obtain ⟨aV, cV, rfl⟩ := own_form hV
  obtain ⟨aC, cC, rfl⟩ := own_form hC
  have hbl := blk_lt hb
  go_enter Tryz.func58, Tryz.ntmps58
  go_wp2_with fail
  refine (formula_any b _ _ aV aC _ cV _ cC rfl rfl w hb).mono ?_
  rintro e w0 ⟨rfl, hb0⟩
  go_wp2_with fail
  have hB : Below w.heap.size w (w0.alloc (.cells #[.slice aV q.vars.length cV, .slice aC q.cl.length cC] 60)) := hb0.alloc hb0.size _
  have hf : (w0.alloc (.cells #[.slice aV q.vars.length cV, .slice aC q.cl.length cC] 60)).cell? ⟨w0.heap.size, 0, none⟩ = some (.slice aV q.vars.length cV) := by rw [blk_cell (heap_alloc_new _ _)]; rfl
  refine (qblocks_any lo w0.heap.size q _ aV cV hf (by simp) (own_below hV hB) hl).mono ?_
  intro e w1 hp
  have hp := qblocks_before hp hB
  obtain ⟨v, hdrs, rfl, h1, h2, h3⟩ := hp
  obtain ⟨av, cv, rfl⟩ := own_form h1
  go_wp2_with fail
  go_ret
  exact ⟨_, hdrs, rfl, h1, h2, h3⟩
end Go.Proofs.YtgipjjhkhfihpaaGreatDoor

namespace Go.Proofs.YtgipjjhkhfihpaaGreatDoor

/-! ### Both sides' blocks are the same -/
theorem all_fold (l : List (Nat × Bool)) : ∀ (a v : Nat), (l.foldl (fun a x => if x.2 then a ||| 2 ^ x.1 else a) a).testBit v = (a.testBit v || l.any (fun x => x.2 && x.1 == v)) := by
  induction l with
  | nil => intro a v; simp
  | cons x l ih =>
    intro a v
    rw [List.foldl_cons, ih, List.any_cons]
    cases x.2 with
    | false => simp
    | true =>
      rw [if_pos rfl, Nat.testBit_or, testBit_pow, Bool.or_assoc]; simp
theorem zip_map (l : List (Nat × Bool)) : (l.map (·.1)).zip (l.map (·.2)) = l := by
  induction l with
  | nil => rfl
  | cons x l ih => simp [ih]
theorem all_bit {st : RS} {q : QS} (h : Same st q) (v : Nat) : (finish st).all.testBit v = q.vars.any (fun x => x.2 && x.1 == v) := by
  show (allTo st st.told.length).testBit v = _
  unfold allTo
  rw [h.told, h.kinds, zip_map, List.length_map, List.take_length, all_fold]
  simp
theorem any_unique (l : List (Nat × Bool)) (hn : (l.map (·.1)).Nodup) (x : Nat × Bool) (hx : x ∈ l) : l.any (fun y => y.2 && y.1 == x.1) = x.2 := by
  induction l with
  | nil => simp at hx
  | cons y l ih =>
    rw [List.map_cons, List.nodup_cons] at hn
    rw [List.any_cons]
    rcases List.mem_cons.1 hx with e | hx
    · subst e
      have : l.any (fun y => y.2 && y.1 == x.1) = false := by
        rw [List.any_eq_false]
        intro z hz hh
        simp at hh
        exact hn.1 (by rw [← hh.2]; exact List.mem_map_of_mem hz)
      rw [this]; simp
    · rw [ih hn.2 hx]
      have : (y.1 == x.1) = false := by
        rw [beq_eq_false_iff_ne]; intro e; exact hn.1 (by rw [e]; exact List.mem_map_of_mem hx)
      rw [this]; simp
theorem free_eq {st : RS} {q : QS} (h : Same st q) : freeTo st 8 = freeQ q 8 := by
  unfold freeTo freeQ
  apply List.filter_congr
  intro v hv
  rw [List.mem_map] at hv
  obtain ⟨u, hu, rfl⟩ := hv
  have : u < 8 := by simpa using hu
  rw [h.used (u + 1) (by omega) (by omega), h.seen, Bool.and_comm]
theorem order_eq {st : RS} {q : QS} (h : Same st q) : (finish st).order = (qFinish q).vars.map (·.1) := by
  show freeTo st 8 ++ st.told = (exv (freeQ q 8) ++ q.vars).map (·.1)
  rw [free_eq h, h.told, List.map_append]
  congr 1
  simp [exv, Function.comp_def]
theorem kinds_eq {st : RS} {q : QS} (h : Same st q) (hn : QNice q) : ∀ x ∈ (qFinish q).vars, (finish st).all.testBit x.1 = x.2 := by
  intro x hx
  rw [all_bit h]
  rcases List.mem_append.1 (show x ∈ exv (freeQ q 8) ++ q.vars from hx) with hx | hx
  · unfold exv at hx
    rw [List.mem_map] at hx
    obtain ⟨v, hv, rfl⟩ := hx
    unfold freeQ at hv
    rw [List.mem_filter, Bool.and_eq_true, Bool.not_eq_true'] at hv
    have hh := hv.2.1
    dsimp only
    rw [List.any_eq_false]
    intro z hz hzz
    simp at hzz
    have : hasV q.vars v = true := by unfold hasV; rw [List.any_eq_true]; exact ⟨z, hz, by simpa using hzz.2⟩
    rw [hh] at this; cases this
  · exact any_unique _ hn.nodup x hx
theorem finish_ends {st : RS} {q : QS} (h : Same st q) (hn : QNice q) : (finish st).ends = endsOf (qFinish q).vars := by
  have := ends_eq (qFinish q).vars (finish st).all (kinds_eq h hn)
  rw [← this]
  show endsTo (finish st).order (finish st).all (finish st).order.length = _
  rw [order_eq h, List.length_map]
theorem progBlocks_len (vs : List (Nat × Bool)) : (progBlocks vs).length = (endsOf vs).length := by rw [progBlocks_eq]; simp

/-- Names: rising bounds. -/
theorem nodup_lt : ∀ (n : Nat) (l : List Nat), l.Nodup → (∀ x ∈ l, x < n) → l.length ≤ n := by
  intro n
  induction n with
  | zero =>
    intro l _ h
    cases l with
    | nil => simp
    | cons x l => exact absurd (h x (by simp)) (by omega)
  | succ n ih =>
    intro l hn h
    have h1 := ih (l.erase n) (hn.erase n) (by
      intro x hx
      rw [hn.mem_erase_iff] at hx
      have := h x hx.2; omega)
    rw [List.length_erase] at h1
    split at h1 <;> omega
theorem nodup_le (l : List Nat) (hn : l.Nodup) (hb : ∀ x ∈ l, 1 ≤ x ∧ x ≤ 8) : l.length ≤ 8 := by
  have h := nodup_lt 9 (0 :: l) (by
    rw [List.nodup_cons]
    exact ⟨fun h => by have := hb 0 h; omega, hn⟩) (by
    intro x hx
    rcases List.mem_cons.1 hx with rfl | hx
    · omega
    · have := hb x hx; omega)
  simpa using h
theorem names_all {q : QS} (hn : QNice q) : ((qFinish q).vars.map (·.1)).Nodup ∧ ∀ x ∈ (qFinish q).vars, 1 ≤ x.1 ∧ x.1 ≤ 8 := by
  show ((exv (freeQ q 8) ++ q.vars).map (·.1)).Nodup ∧ ∀ x ∈ exv (freeQ q 8) ++ q.vars, 1 ≤ x.1 ∧ x.1 ≤ 8
  have e : (exv (freeQ q 8)).map (·.1) = freeQ q 8 := by simp [exv, Function.comp_def]
  have hmem : ∀ v ∈ freeQ q 8, (1 ≤ v ∧ v ≤ 8) ∧ hasV q.vars v = false := by
    intro v hv
    unfold freeQ at hv
    rw [List.mem_filter, Bool.and_eq_true, Bool.not_eq_true', List.mem_map] at hv
    obtain ⟨⟨u, hu, rfl⟩, hh, _⟩ := hv
    have : u < 8 := by simpa using hu
    exact ⟨by omega, hh⟩
  constructor
  · rw [List.map_append, e, List.nodup_append]
    refine ⟨?_, hn.nodup, ?_⟩
    · unfold freeQ
      refine List.Pairwise.filter _ ?_
      rw [List.pairwise_map]
      exact List.pairwise_lt_range.imp (fun h => by omega)
    · intro a ha b hb e
      subst e
      rw [List.mem_map] at hb
      obtain ⟨x, hx, hxe⟩ := hb
      have : hasV q.vars a = true := by unfold hasV; rw [List.any_eq_true]; exact ⟨x, hx, by simpa using hxe⟩
      rw [(hmem a ha).2] at this; cases this
  · intro x hx
    rcases List.mem_append.1 hx with hx | hx
    · unfold exv at hx
      rw [List.mem_map] at hx
      obtain ⟨v, hv, rfl⟩ := hx
      exact (hmem v hv).1
    · exact hn.names x hx
theorem vars_le {q : QS} (hn : QNice q) : (qFinish q).vars.length ≤ 8 := by
  have h := names_all hn
  have := nodup_le _ h.1 (by
    intro x hx
    rw [List.mem_map] at hx
    obtain ⟨y, hy, rfl⟩ := hx
    exact h.2 y hy)
  simpa using this

/-! ### Where blocks end: rising, within the variables -/
theorem cuts_sorted (vs : List (Nat × Bool)) (k : Nat) : (cutsTo vs k).Pairwise (· < ·) := by
  unfold cutsTo
  exact List.Pairwise.filter _ List.pairwise_lt_range
theorem ends_sorted (vs : List (Nat × Bool)) : (endsOf vs).Pairwise (· < ·) := by
  unfold endsOf
  split
  · rw [List.pairwise_append]
    refine ⟨cuts_sorted _ _, by simp, ?_⟩
    intro a ha b hb
    simp at hb; subst hb
    exact (cutsTo_lt vs _ a ha).2
  · simp
theorem ends_mem (vs : List (Nat × Bool)) : ∀ x ∈ endsOf vs, 0 < x ∧ x ≤ vs.length := by
  unfold endsOf
  split
  · intro x hx
    rcases List.mem_append.1 hx with hx | hx
    · have := cutsTo_lt vs _ x hx; omega
    · simp at hx; omega
  · simp
theorem ends_len (vs : List (Nat × Bool)) : (endsOf vs).length ≤ vs.length := by
  unfold endsOf
  split
  · next h =>
    have hc : (cutsTo vs vs.length).length ≤ vs.length - 1 := by
      obtain ⟨n, hn⟩ : ∃ n, vs.length = n + 1 := ⟨vs.length - 1, by omega⟩
      rw [hn]
      unfold cutsTo
      rw [show List.range (n + 1) = 0 :: (List.range n).map (· + 1) from List.range_succ_eq_map, List.filter_cons, if_neg (by simp [newAt])]
      refine Nat.le_trans (List.length_filter_le _ _) ?_
      simp
    simp; omega
  · simp
theorem start_le (vs : List (Nat × Bool)) (k : Nat) (h : k < (endsOf vs).length) : startOf (endsOf vs) k ≤ (endsOf vs).getD k 0 := by
  unfold startOf
  split
  · have hs := ends_sorted vs
    rw [List.pairwise_iff_getElem] at hs
    have := hs (k - 1) k (by omega) h (by omega)
    simp only [List.getD, List.getElem?_eq_getElem h, List.getElem?_eq_getElem (show k - 1 < (endsOf vs).length by omega), Option.getD_some]
    omega
  · omega
theorem end_le (vs : List (Nat × Bool)) (k : Nat) (h : k < (endsOf vs).length) : (endsOf vs).getD k 0 ≤ vs.length := by
  simp only [List.getD, List.getElem?_eq_getElem h, Option.getD_some]
  exact (ends_mem vs _ (List.getElem_mem h)).2
end Go.Proofs.YtgipjjhkhfihpaaGreatDoor
