import Derived.Test.YtgipjjhkhfihpaaGreatDoorAJ
namespace Go.Proofs.YtgipjjhkhfihpaaGreatDoor
open Go.RowKit

/-! ### Read and Load agree -/
theorem bitOf_dig (r : List UInt8) (h : 0 < dig r) : bitOf (dig r) = 2 ^ (dig r).toNat := by
  have := dig_bd r
  unfold bitOf; rw [if_pos ⟨by omega, by omega⟩]
theorem litInto_good (c : Nat × Nat) (w : List UInt8) : (litInto c w).2 = litGood w ∧ (litGood w = true → (litInto c w).1 = withLit c (litNum w)) := by
  unfold litInto litGood litNum
  split
  · next r =>
    refine ⟨rfl, ?_⟩
    intro h
    have h' : 0 < dig r := of_decide_eq_true h
    show (c.1, c.2 ||| 2 ^ (dig r).toNat) = withLit c (- dig r)
    unfold withLit
    rw [if_pos (by omega), Int.neg_neg, bitOf_dig r h']
  · next hw =>
    have hh : ¬ w.head? = some 45 := by
      intro e
      cases w with
      | nil => simp at e
      | cons a b => simp at e; subst e; exact hw b rfl
    rw [if_neg hh, if_neg hh]
    refine ⟨rfl, ?_⟩
    intro h
    have h' : 0 < dig w := of_decide_eq_true h
    unfold withLit
    rw [if_neg (by omega), bitOf_dig w h']
theorem lits_false (ws : List (List UInt8)) : ∀ (c : Nat × Nat), (ws.foldl (fun st w => ((litInto st.1 w).1, st.2 && (litInto st.1 w).2)) (c, false)).2 = false := by
  induction ws with
  | nil => intro c; rfl
  | cons w ws ih => intro c; exact ih _
theorem lits_eq (ws : List (List UInt8)) : ∀ (c : Nat × Nat),
    match clTo c ws with
    | none => (ws.foldl (fun st w => ((litInto st.1 w).1, st.2 && (litInto st.1 w).2)) (c, true)).2 = false
    | some c' => ws.foldl (fun st w => ((litInto st.1 w).1, st.2 && (litInto st.1 w).2)) (c, true) = (c', true) := by
  induction ws with
  | nil => intro c; rfl
  | cons w ws ih =>
    intro c
    obtain ⟨h1, h2⟩ := litInto_good c w
    rw [clTo]
    simp only [List.foldl_cons, Bool.true_and, h1]
    cases hg : litGood w with
    | false => exact lits_false ws _
    | true =>
      rw [h2 hg]
      exact ih _

/-- What Read gathers and what the program holds say the same. -/
structure Same (st : RS) (q : QS) : Prop where
  cl : st.cl = q.cl
  told : st.told = q.vars.map (·.1)
  kinds : st.kinds = q.vars.map (·.2)
  seen : ∀ v, st.seen.testBit v = hasV q.vars v
  used : ∀ v : Nat, 1 ≤ v → v ≤ 8 → st.used.testBit v = inC q.cl v

theorem hasV_snoc (vs : List (Nat × Bool)) (x : Nat × Bool) (v : Nat) : hasV (vs ++ [x]) v = (hasV vs v || (x.1 == v)) := by
  unfold hasV; rw [List.any_append]; simp
theorem testBit_pow (n v : Nat) : (2 ^ n).testBit v = (n == v) := by
  rw [Nat.testBit_two_pow]; rfl

theorem vars_false (a : Bool) (ws : List (List UInt8)) : ∀ (p : PS), p.ok = false → (ws.foldl (varStep a) p).ok = false := by
  induction ws with
  | nil => intro p h; exact h
  | cons w ws ih => intro p h; refine ih _ ?_; simp [varStep, h]
theorem vars_eq (a : Bool) (ws : List (List UInt8)) : ∀ (p : PS) (vs : List (Nat × Bool)), p.ok = true → p.told = vs.map (·.1) → p.kinds = vs.map (·.2) → (∀ v, p.seen.testBit v = hasV vs v) →
    match prefTo a vs ws with
    | none => (ws.foldl (varStep a) p).ok = false
    | some vs' => (ws.foldl (varStep a) p).ok = true ∧ (ws.foldl (varStep a) p).told = vs'.map (·.1) ∧ (ws.foldl (varStep a) p).kinds = vs'.map (·.2) ∧ ∀ v, (ws.foldl (varStep a) p).seen.testBit v = hasV vs' v := by
  induction ws with
  | nil => intro p vs h1 h2 h3 h4; exact ⟨h1, h2, h3, h4⟩
  | cons w ws ih =>
    intro p vs h1 h2 h3 h4
    obtain ⟨d0, d1⟩ := dig_bd w
    obtain ⟨dn, hdn⟩ := Int.eq_ofNat_of_zero_le d0
    have hvs := varStep_eq a p w dn hdn
    have hb : badVar vs w = decide (dn = 0 ∨ p.seen.testBit dn = true) := by
      unfold badVar
      rw [hdn, h4]
      rw [Bool.eq_iff_iff]
      simp
    rw [prefTo, List.foldl_cons, hvs, hb]
    by_cases hbad : dn = 0 ∨ p.seen.testBit dn = true
    · rw [if_pos hbad, if_pos (by simpa using hbad)]
      exact vars_false a ws _ rfl
    · rw [if_neg hbad, if_neg (by simpa using hbad)]
      have e : (dig w).toNat = dn := by rw [hdn]; simp
      rw [e]
      refine ih _ _ h1 (by simp [h2]) (by simp [h3]) ?_
      intro v
      rw [hasV_snoc]
      show (p.seen ||| 2 ^ dn).testBit v = _
      rw [Nat.testBit_or, h4, testBit_pow]

theorem inC_snoc (cl : List (Nat × Nat)) (c : Nat × Nat) (v : Nat) (h1 : 1 ≤ v) (h8 : v ≤ 8) : inC (cl ++ [c]) v = (inC cl v || (c.1 ||| c.2).testBit v) := by
  unfold inC
  rw [List.any_append]
  congr 1
  simp only [List.any_cons, List.any_nil, Bool.or_false]
  have e : bitOf (v : Int) = 2 ^ v := by unfold bitOf; rw [if_pos ⟨by omega, by omega⟩]; simp
  rw [e, nat_bit, Nat.testBit_eq_decide_div_mod_eq]
  have hp : 0 < 2 ^ v := Nat.two_pow_pos v
  rcases Nat.mod_two_eq_zero_or_one ((c.1 ||| c.2) / 2 ^ v) with h | h
  · rw [h]; simp
  · rw [h]; simp

theorem dig_nil : dig [] = 0 := rfl
theorem split_words (row hd : List UInt8) (tl : List (List UInt8)) (h : cutAt 32 row = hd :: tl) (hs : splitOk row = false) : hd = [] ∨ [] ∈ tl := by
  unfold splitOk at hs
  rw [h, Bool.not_eq_false', List.any_eq_true] at hs
  obtain ⟨x, hx, he⟩ := hs
  have : x = [] := by simpa using he
  subst this
  simp at hx
  rcases hx with hx | hx
  · exact Or.inl hx
  · exact Or.inr hx
theorem clTo_bad (ws : List (List UInt8)) (h : [] ∈ ws) : ∀ c, clTo c ws = none := by
  induction ws with
  | nil => simp at h
  | cons w ws ih =>
    intro c
    rw [clTo]
    rcases List.mem_cons.1 h with h | h
    · subst h; rw [if_neg (by decide)]
    · split
      · exact ih h _
      · rfl
theorem prefTo_bad (u : Bool) (ws : List (List UInt8)) (h : [] ∈ ws) : ∀ vs, prefTo u vs ws = none := by
  induction ws with
  | nil => simp at h
  | cons w ws ih =>
    intro vs
    rw [prefTo]
    rcases List.mem_cons.1 h with h | h
    · subst h; rw [if_pos (by unfold badVar; rw [dig_nil]; rfl)]
    · split
      · rfl
      · exact ih h _

theorem rowOf_qOf (st : RS) (q : QS) (hd : List UInt8) (tl : List (List UInt8)) (h : Same st q) :
    match qOf q hd tl with
    | none => (rowOf st hd tl).2 = false
    | some q' => (rowOf st hd tl).2 = true ∧ Same (rowOf st hd tl).1 q' := by
  have hpre : ∀ a : Bool, match (qPrefix q tl a).map (fun vs => ({ q with vars := vs } : QS)) with
      | none => st.cl = [] ∧ tl ≠ [] → (varsTo a st tl).ok = false
      | some q' => (st.cl = [] ∧ tl ≠ []) ∧ (varsTo a st tl).ok = true ∧ Same { st with told := (varsTo a st tl).told, kinds := (varsTo a st tl).kinds, seen := (varsTo a st tl).seen } q' := by
    intro a
    unfold qPrefix
    by_cases hc : tl = [] ∨ q.cl ≠ []
    · rw [if_pos hc]
      rintro ⟨h1, h2⟩
      rcases hc with hc | hc
      · exact absurd hc h2
      · rw [h.cl] at h1; exact absurd h1 hc
    · rw [if_neg hc]
      have hc1 : tl ≠ [] := fun e => hc (Or.inl e)
      have hc2 : st.cl = [] := by rw [h.cl]; exact Classical.byContradiction fun e => hc (Or.inr e)
      have hv := vars_eq a tl ⟨st.told, st.kinds, st.seen, true⟩ q.vars rfl h.told h.kinds h.seen
      cases hp : prefTo a q.vars tl with
      | none => rw [hp] at hv; exact fun _ => hv
      | some vs =>
        rw [hp] at hv
        obtain ⟨v1, v2, v3, v4⟩ := hv
        exact ⟨⟨hc2, hc1⟩, v1, h.cl, v2, v3, v4, h.used⟩
  unfold qOf
  by_cases he : hd = [101]
  · subst he
    rw [if_pos rfl]
    have hp := hpre false
    unfold rowOf
    rw [if_neg (by decide)]
    cases hq : (qPrefix q tl false).map (fun vs => ({ q with vars := vs } : QS)) with
    | none =>
      rw [hq] at hp
      by_cases hc : st.cl = [] ∧ tl ≠ []
      · rw [if_pos ⟨Or.inl rfl, hc.1, hc.2⟩]; exact hp hc
      · rw [if_neg (fun x => hc ⟨x.2.1, x.2.2⟩)]
    | some q' =>
      rw [hq] at hp
      obtain ⟨hc, h1, h2⟩ := hp
      rw [if_pos ⟨Or.inl rfl, hc.1, hc.2⟩]
      exact ⟨h1, h2⟩
  · rw [if_neg he]
    by_cases ha : hd = [97]
    · subst ha
      rw [if_pos rfl]
      have hp := hpre true
      unfold rowOf
      rw [if_neg (by decide)]
      cases hq : (qPrefix q tl true).map (fun vs => ({ q with vars := vs } : QS)) with
      | none =>
        rw [hq] at hp
        by_cases hc : st.cl = [] ∧ tl ≠ []
        · rw [if_pos ⟨Or.inr rfl, hc.1, hc.2⟩]; exact hp hc
        · rw [if_neg (fun x => hc ⟨x.2.1, x.2.2⟩)]
      | some q' =>
        rw [hq] at hp
        obtain ⟨hc, h1, h2⟩ := hp
        rw [if_pos ⟨Or.inr rfl, hc.1, hc.2⟩]
        exact ⟨h1, h2⟩
    · rw [if_neg ha]
      by_cases hc : hd = [99]
      · subst hc
        rw [if_pos rfl]
        unfold rowOf
        rw [if_pos rfl]
        have hl := lits_eq tl (0, 0)
        have hll := litsTo_lt tl
        cases hq : clTo (0, 0) tl with
        | none => rw [hq] at hl; exact hl
        | some c =>
          rw [hq] at hl
          have hl' : litsTo tl = (c, true) := hl
          simp only [Option.map_some]
          rw [hl']
          refine ⟨rfl, by simp [h.cl], h.told, h.kinds, h.seen, ?_⟩
          intro v h1 h8
          dsimp only
          rw [inC_snoc _ _ _ h1 h8, Nat.testBit_or, Nat.testBit_or, Nat.testBit_or, h.used v h1 h8, Bool.or_assoc]
      · rw [if_neg hc]
        unfold rowOf
        rw [if_neg hc, if_neg (fun x => by rcases x.1 with h | h; exact he h; exact ha h)]

theorem row_line (st : RS) (q : QS) (row : List UInt8) (h : Same st q) :
    match qLine q row with
    | none => (rowStep st row).2 = false
    | some q' => (rowStep st row).2 = true ∧ Same (rowStep st row).1 q' := by
  obtain ⟨hd, tl, hws⟩ : ∃ hd tl, cutAt 32 row = hd :: tl := by
    cases h : cutAt 32 row with
    | nil => simp [cutAt] at h
    | cons a b => exact ⟨a, b, rfl⟩
  rw [rowStep_eq st row hd tl hws]
  cases hs : splitOk row with
  | true => rw [qLine_eq q row hd tl hws hs]; exact rowOf_qOf st q hd tl h
  | false =>
    have hn : qLine q row = none := by unfold qLine; rw [hs]; rfl
    rw [hn]
    have hw := split_words row hd tl hws hs
    have hr := rowOf_qOf st q hd tl h
    have hq : qOf q hd tl = none := by
      unfold qOf
      split
      · next he =>
        rcases hw with hw | hw
        · rw [hw] at he; cases he
        · unfold qPrefix; split; rfl; rw [prefTo_bad _ _ hw]; rfl
      · split
        · next he =>
          rcases hw with hw | hw
          · rw [hw] at he; cases he
          · unfold qPrefix; split; rfl; rw [prefTo_bad _ _ hw]; rfl
        · split
          · next he =>
            rcases hw with hw | hw
            · rw [hw] at he; cases he
            · rw [clTo_bad _ hw]; rfl
          · rfl
    rw [hq] at hr
    exact hr

theorem rows_eq (rows : List (List UInt8)) : ∀ (st : RS) (q : QS) (i : Nat), Same st q →
    match qRows q i rows with
    | .inr j => readRows st i rows = .inr j
    | .inl q' => ∃ st', readRows st i rows = .inl st' ∧ Same st' q' := by
  induction rows with
  | nil => intro st q i h; exact ⟨st, rfl, h⟩
  | cons r rows ih =>
    intro st q i h
    have hr := row_line st q r h
    rw [qRows, readRows]
    cases hq : qLine q r with
    | none => rw [hq] at hr; dsimp only; rw [if_neg (by rw [hr]; decide)]
    | some q' =>
      rw [hq] at hr
      dsimp only
      rw [if_pos hr.1]
      exact ih _ _ _ hr.2

/-! ### What holds of every formula that is read -/
structure QNice (q : QS) : Prop where
  nodup : (q.vars.map (·.1)).Nodup
  names : ∀ x ∈ q.vars, 1 ≤ x.1 ∧ x.1 ≤ 8
  bits : ∀ c ∈ q.cl, c.1 < 512 ∧ c.2 < 512
  bit0 : ∀ c ∈ q.cl, c.1.testBit 0 = false ∧ c.2.testBit 0 = false
theorem bitOf_zero (x : Int) : (bitOf x).testBit 0 = false := by
  unfold bitOf
  split
  · next h => rw [Nat.testBit_two_pow]; simp; omega
  · simp
theorem withLit_zero (c : Nat × Nat) (x : Int) (h1 : c.1.testBit 0 = false) (h2 : c.2.testBit 0 = false) : (withLit c x).1.testBit 0 = false ∧ (withLit c x).2.testBit 0 = false := by
  unfold withLit; split
  · refine ⟨h1, ?_⟩
    show (c.2 ||| _).testBit 0 = false
    rw [Nat.testBit_or, h2, bitOf_zero]; rfl
  · refine ⟨?_, h2⟩
    show (c.1 ||| _).testBit 0 = false
    rw [Nat.testBit_or, h1, bitOf_zero]; rfl
theorem clTo_zero (ws : List (List UInt8)) : ∀ (c c' : Nat × Nat), c.1.testBit 0 = false → c.2.testBit 0 = false → clTo c ws = some c' → c'.1.testBit 0 = false ∧ c'.2.testBit 0 = false := by
  induction ws with
  | nil => intro c c' h1 h2 h; simp [clTo] at h; subst h; exact ⟨h1, h2⟩
  | cons w ws ih =>
    intro c c' h1 h2 h
    rw [clTo] at h
    split at h
    · have := withLit_zero c (litNum w) h1 h2
      exact ih _ _ this.1 this.2 h
    · cases h
theorem prefTo_nice (u : Bool) (ws : List (List UInt8)) : ∀ (vs vs' : List (Nat × Bool)), (vs.map (·.1)).Nodup → (∀ x ∈ vs, 1 ≤ x.1 ∧ x.1 ≤ 8) → prefTo u vs ws = some vs' → (vs'.map (·.1)).Nodup ∧ ∀ x ∈ vs', 1 ≤ x.1 ∧ x.1 ≤ 8 := by
  induction ws with
  | nil => intro vs vs' h1 h2 h; simp [prefTo] at h; subst h; exact ⟨h1, h2⟩
  | cons w ws ih =>
    intro vs vs' h1 h2 h
    rw [prefTo] at h
    split at h
    · cases h
    · next hb =>
      have hb' : badVar vs w = false := by simpa using hb
      unfold badVar at hb'
      rw [Bool.or_eq_false_iff] at hb'
      obtain ⟨hd, hv⟩ := hb'
      have hd' : 0 < dig w := by simpa using hd
      have hbd := dig_bd w
      refine ih _ _ ?_ ?_ h
      · rw [List.map_append, List.nodup_append]
        refine ⟨h1, by simp, ?_⟩
        intro a ha b hb e
        simp at hb
        subst hb
        subst e
        rw [List.mem_map] at ha
        obtain ⟨x, hx, hxe⟩ := ha
        have : hasV vs (dig w).toNat = true := by
          unfold hasV; rw [List.any_eq_true]; exact ⟨x, hx, by simpa using hxe⟩
        rw [this] at hv; cases hv
      · intro x hx
        rcases List.mem_append.1 hx with hx | hx
        · exact h2 x hx
        · simp at hx; subst hx; constructor <;> (dsimp only; omega)
theorem qLine_nice {q q' : QS} {r : List UInt8} (hq : QNice q) (h : qLine q r = some q') : QNice q' := by
  have hpre : ∀ u tl vs, qPrefix q tl u = some vs → QNice { q with vars := vs } := by
    intro u tl vs hv
    unfold qPrefix at hv
    split at hv
    · cases hv
    · have := prefTo_nice u tl _ _ hq.nodup hq.names hv
      exact ⟨this.1, this.2, hq.bits, hq.bit0⟩
  unfold qLine at h
  split at h
  · split at h
    · cases h
    · next hd tl hws =>
      unfold qOf at h
      split at h
      · cases hp : qPrefix q tl false with
        | none => rw [hp] at h; cases h
        | some vs => rw [hp] at h; simp at h; subst h; exact hpre _ _ _ hp
      · split at h
        · cases hp : qPrefix q tl true with
          | none => rw [hp] at h; cases h
          | some vs => rw [hp] at h; simp at h; subst h; exact hpre _ _ _ hp
        · split at h
          · cases hp : clTo (0, 0) tl with
            | none => rw [hp] at h; cases h
            | some c =>
              rw [hp] at h; simp at h; subst h
              refine ⟨hq.nodup, hq.names, ?_, ?_⟩
              · intro c' hc'
                simp at hc'
                rcases hc' with hc' | hc'
                · exact hq.bits c' hc'
                · subst hc'; exact clTo_lt tl _ _ (by decide) (by decide) hp
              · intro c' hc'
                simp at hc'
                rcases hc' with hc' | hc'
                · exact hq.bit0 c' hc'
                · subst hc'; exact clTo_zero tl _ _ (by decide) (by decide) hp
          · cases h
  · cases h
theorem qRows_nice (rows : List (List UInt8)) : ∀ (q q' : QS) (i : Nat), QNice q → qRows q i rows = .inl q' → QNice q' := by
  induction rows with
  | nil => intro q q' i h e; simp [qRows] at e; subst e; exact h
  | cons r rows ih =>
    intro q q' i h e
    rw [qRows] at e
    cases hq : qLine q r with
    | none => rw [hq] at e; cases e
    | some q1 => rw [hq] at e; exact ih _ _ _ (qLine_nice h hq) e

/-- Read and Load: the same error and line; or formulas that say the same. -/
theorem spec_eq (l : List UInt8) :
    match loadSpec l with
    | .inl a => readSpec l = .inl a
    | .inr q => ∃ st q0, readSpec l = .inr (finish st) ∧ Same st q0 ∧ q = qFinish q0 ∧ q0.cl.length ≤ 24 ∧ QNice q0 := by
  unfold loadSpec readSpec
  by_cases hl : 2000 < l.length
  · rw [if_pos hl, if_pos hl]
  · rw [if_neg hl, if_neg hl]
    have e1 : (cutAt 10 l).dropLast = (cutTo 10 l).1 := by unfold cutAt; simp
    have e2 : (cutAt 10 l).getLast? = some (cutTo 10 l).2 := by unfold cutAt; simp
    have e3 : (cutAt 10 l).length = (cutTo 10 l).1.length + 1 := by unfold cutAt; simp
    rw [e1, e2, e3]
    have hr := rows_eq (cutTo 10 l).1 rs0 ⟨[], []⟩ 0 ⟨rfl, rfl, rfl, fun v => by simp [rs0, hasV], fun v _ _ => by simp [rs0, inC]⟩
    cases hq : qRows ⟨[], []⟩ 0 (cutTo 10 l).1 with
    | inr j => rw [hq] at hr; dsimp only; rw [hr]
    | inl q =>
      rw [hq] at hr
      obtain ⟨st, h1, h2⟩ := hr
      dsimp only
      rw [h1]
      dsimp only
      by_cases hn : (cutTo 10 l).2 = []
      · have c1 : ¬ ((cutTo 10 l).2 ≠ []) := fun h => h hn
        have c2 : ¬ (some (cutTo 10 l).2 ≠ some []) := fun h => h (by rw [hn])
        rw [if_neg c1, if_neg c2, h2.cl]
        by_cases h24 : 24 < q.cl.length
        · rw [if_pos h24, if_pos h24]
        · rw [if_neg h24, if_neg h24]
          exact ⟨st, q, rfl, h2, rfl, by omega, qRows_nice _ _ _ _ ⟨by simp, by simp, by simp, by simp⟩ hq⟩
      · have c2 : some (cutTo 10 l).2 ≠ some [] := fun h => hn (by simpa using h)
        rw [if_pos hn, if_pos c2]
end Go.Proofs.YtgipjjhkhfihpaaGreatDoor
