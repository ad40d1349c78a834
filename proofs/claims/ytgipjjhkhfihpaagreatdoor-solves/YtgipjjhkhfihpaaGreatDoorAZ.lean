import Derived.Test.YtgipjjhkhfihpaaGreatDoorAU
import Derived.Test.YtgipjjhkhfihpaaGreatDoorAY
import Derived.Test.YtgipjjhkhfihpaaGreatDoorAR
import Derived.Test.YtgipjjhkhfihpaaGreatDoorAS
import Derived.Test.YtgipjjhkhfihpaaGreatDoorAV
import Derived.Test.YtgipjjhkhfihpaaGreatDoorAX
import Derived.Shelf.Strconv.Itoa3
import Derived.Ground.NamesProg
import Derived.Test.YtgipjjhkhfihpaaGreatDoorAC
import Derived.Test.YtgipjjhkhfihpaaGreatDoorAD
import Derived.Test.YtgipjjhkhfihpaaGreatDoorAN
import Derived.Lib.AppendIntMem
import Derived.Lib.ItoaLen
namespace Go.Proofs.YtgipjjhkhfihpaaGreatDoor
open Go.RowKit

/-! ### Units, as the document counts them -/
def sing (u : Nat) (s : Bool) : Nat × Nat := if s then (2 ^ u, 0) else (0, 2 ^ u)
theorem L_sing (u : Nat) (s t : Bool) (v : Nat) : L (sing u s) t v = (t == s && decide (v = u)) := by
  unfold sing
  cases s <;> cases t <;> simp [L, Nat.testBit_two_pow, eq_comm]
theorem pow_of_one : ∀ p : Fin 512, p.val ≠ 0 → p.val &&& (p.val - 1) = 0 → ∃ v : Fin 9, p.val = 2 ^ v.val := by decide +kernel
theorem sing_one : ∀ (u : Fin 9), 1 ≤ u.val → (listOf (sing u.val true) = [(u.val : Int)] ∧ oneB (sing u.val true).1 (sing u.val true).2 = true) ∧ (listOf (sing u.val false) = [-(u.val : Int)] ∧ oneB (sing u.val false).1 (sing u.val false).2 = true) := by decide +kernel
theorem sing_list (u : Nat) (s : Bool) (h1 : 1 ≤ u) (h8 : u ≤ 8) : listOf (sing u s) = [litI u s] ∧ oneB (sing u s).1 (sing u s).2 = true := by
  have := sing_one ⟨u, by omega⟩ h1
  cases s
  · exact this.2
  · exact this.1
/-- The values: no variable both ways; of the formula's variables. -/
structure VOk (q : QS) (vals : Nat × Nat) : Prop where
  free : Free vals
  lok : LOk q vals
theorem dead_conf {q : QS} {uni : Nat × Nat} {t n : Nat} (hv : VOk q (t, n)) {c : Nat × Nat} (hd : deadC t n c = true) : isConf uni (t, n) c = true := by
  unfold deadC at hd
  rw [Bool.and_eq_true, beq_iff_eq, beq_iff_eq] at hd
  have hl : leftOf c (t, n) = (0, 0) := by
    show (less c.1 n, less c.2 t) = (0, 0)
    rw [hd.1, hd.2]
  have hall : ∀ s v, L c s v = true → L (t, n) (!s) v = true := by
    intro s v hs
    have := L_left c (t, n) s v
    rw [hl, L_zero, hs] at this
    simpa using this.symm
  unfold isConf openB
  have h1 : meetsB c (t, n) = false := by
    cases h : meetsB c (t, n) with
    | false => rfl
    | true =>
      obtain ⟨s, v, a, b⟩ := (meets_iff _ _).1 h
      have h2 := hall s v a
      cases s
      · exact (hv.free v h2 b).elim
      · exact (hv.free v b h2).elim
  have h2 : clashB c = false := by
    rw [free_iff]
    intro v a b
    exact hv.free v (hall false v b) (hall true v a)
  have h3 : emptyB (minus (0, 0) uni) = true := (empty_iff _).2 (fun s v => by rw [L_minus, L_zero]; rfl)
  rw [h1, h2, hl, h3]
  rfl
theorem unit_same {q : QS} (hq : QGood q) {F : Form} (hF : FQ F q) {uni : Nat × Nat} (hu : UniOk q uni) {t n : Nat} (hv : VOk q (t, n)) {c : Nat × Nat} (hc : LOk q c) (hnd : deadC t n c = false) : unitC F.all t n c = isUnit uni (t, n) c ∧ (isUnit uni (t, n) c = true → ∃ u s, 1 ≤ u ∧ u ≤ 8 ∧ leftOf c (t, n) = sing u s) := by
  have hll : LOk q (leftOf c (t, n)) := lok_sub hc ⟨less_lt9 _ _ hc.bd.1, less_lt9 _ _ hc.bd.2⟩ (fun s v h => by rw [L_left, Bool.and_eq_true] at h; exact h.1)
  have hback : isUnit uni (t, n) c = true → ∃ u s, 1 ≤ u ∧ u ≤ 8 ∧ leftOf c (t, n) = sing u s := by
    intro h
    unfold isUnit at h
    rw [Bool.and_eq_true, Bool.and_eq_true, beq_iff_eq] at h
    obtain ⟨u, s, h1, h8, _, hL, hone⟩ := list_one h.2.1
    refine ⟨u, s, h1, h8, L_ext (fun t' v => ?_)⟩
    rw [L_sing]
    cases hh : L (leftOf c (t, n)) t' v with
    | true =>
      have hn := hq.name (hll.vars t' v hh)
      obtain ⟨rfl, rfl⟩ := hone t' v hn.1 hn.2 hh
      simp
    | false =>
      by_cases e : v = u
      · subst e
        by_cases e2 : t' = s
        · subst e2; rw [hL] at hh; cases hh
        · simp [e2]
      · simp [e]
  refine ⟨?_, hback⟩
  have hopen : ∀ u s, 1 ≤ u → u ≤ 8 → leftOf c (t, n) = sing u s → (openB c (t, n) = true ↔ (less c.1 n &&& t = 0 ∧ less c.2 t &&& n = 0)) := by
    intro u s h1 h8 hl
    have e1 : less c.1 n = (sing u s).1 := congrArg Prod.fst hl
    have e2 : less c.2 t = (sing u s).2 := congrArg Prod.snd hl
    have hm : (less c.1 n &&& t = 0 ∧ less c.2 t &&& n = 0) ↔ L (t, n) s u = false := by
      rw [e1, e2]
      cases s
      · simp only [sing, Bool.false_eq_true, if_false, Nat.zero_and, true_and, L]
        rw [Nat.and_comm, ← Bool.not_eq_true, ← and_pow_ne, bne_iff_ne, Decidable.not_not]
      · simp only [sing, if_true, Nat.zero_and, and_true, L]
        rw [Nat.and_comm, ← Bool.not_eq_true, ← and_pow_ne, bne_iff_ne, Decidable.not_not]
    rw [hm]
    have hin : L c s u = true ∧ L (t, n) (!s) u = false := by
      have := L_left c (t, n) s u
      rw [hl, L_sing] at this
      simp at this
      exact ⟨this.1, this.2⟩
    have hoth : ∀ r v, L c r v = true → (v = u ∧ r = s) ∨ L (t, n) (!r) v = true := by
      intro r v hr
      have := L_left c (t, n) r v
      rw [hl, L_sing, hr] at this
      cases hh : L (t, n) (!r) v with
      | true => exact Or.inr rfl
      | false => rw [hh] at this; simp at this; exact Or.inl ⟨this.2, this.1⟩
    unfold openB
    rw [Bool.and_eq_true, Bool.not_eq_true', Bool.not_eq_true', free_iff]
    constructor
    · rintro ⟨h3, _⟩
      cases hh : L (t, n) s u with
      | false => rfl
      | true => rw [(meets_iff _ _).2 ⟨s, u, hin.1, hh⟩] at h3; cases h3
    · intro h3
      constructor
      · cases hme : meetsB c (t, n) with
        | false => rfl
        | true =>
          obtain ⟨r, v, a, b⟩ := (meets_iff _ _).1 hme
          rcases hoth r v a with ⟨rfl, rfl⟩ | h4
          · rw [h3] at b; cases b
          · cases r
            · exact (hv.free v h4 b).elim
            · exact (hv.free v b h4).elim
      · intro v a b
        rcases hoth true v a with ⟨rfl, rfl⟩ | h4
        · rcases hoth false v b with ⟨_, h5⟩ | h5
          · cases h5
          · have : L (t, n) true v = true := h5
            rw [h3] at this; cases this
        · rcases hoth false v b with ⟨rfl, rfl⟩ | h5
          · have : L (t, n) false v = true := h4
            rw [h3] at this; cases this
          · exact hv.free v h5 h4
  have huni : ∀ u s, 1 ≤ u → u ≤ 8 → leftOf c (t, n) = sing u s → (meetsB (leftOf c (t, n)) uni = false ↔ (less c.1 n ||| less c.2 t) &&& F.all = 0) := by
    intro u s h1 h8 hl
    have e1 : less c.1 n = (sing u s).1 := congrArg Prod.fst hl
    have e2 : less c.2 t = (sing u s).2 := congrArg Prod.snd hl
    have hmem : u ∈ q.vars.map (·.1) := hll.vars s u (by rw [hl, L_sing]; simp)
    obtain ⟨x, hx, hxe⟩ := List.mem_map.1 hmem
    have hor : (less c.1 n ||| less c.2 t) = 2 ^ u := by rw [e1, e2]; cases s <;> simp [sing]
    rw [hor, Nat.and_comm]
    have hk : F.all.testBit u = x.2 := by rw [← hxe]; exact hF.kinds x hx
    have hz : (F.all &&& 2 ^ u = 0) ↔ x.2 = false := by rw [← hk, ← Bool.not_eq_true, ← and_pow_ne, bne_iff_ne, Decidable.not_not]
    rw [hz, hl, ← Bool.not_eq_true, meets_iff]
    constructor
    · intro h
      cases hx2 : x.2 with
      | false => rfl
      | true => exact absurd ⟨s, u, by rw [L_sing]; simp, (hu s u).2 ⟨x, hx, hxe, hx2⟩⟩ h
    · rintro h ⟨r, v, a, b⟩
      rw [L_sing, Bool.and_eq_true, beq_iff_eq, decide_eq_true_eq] at a
      obtain ⟨rfl, rfl⟩ := a
      obtain ⟨y, hy, hye, hyu⟩ := (hu r v).1 b
      have := kind_one hq hy hx (by rw [hye]; exact hxe.symm)
      rw [this, h] at hyu; cases hyu
  have hsing : ∀ u s, 1 ≤ u → u ≤ 8 → leftOf c (t, n) = sing u s → unitC F.all t n c = isUnit uni (t, n) c := by
    intro u s h1 h8 hl
    obtain ⟨l1, l2⟩ := sing_list u s h1 h8
    have e1 : less c.1 n = (sing u s).1 := congrArg Prod.fst hl
    have e2 : less c.2 t = (sing u s).2 := congrArg Prod.snd hl
    have ho := hopen u s h1 h8 hl
    have hun := huni u s h1 h8 hl
    unfold unitC isUnit
    rw [show oneB (less c.1 n) (less c.2 t) = true from by rw [e1, e2]; exact l2, show (listOf (leftOf c (t, n))).length = 1 from by rw [hl, l1]; rfl]
    rw [Bool.eq_iff_iff]
    simp only [Bool.true_and, Bool.and_eq_true, beq_iff_eq, Bool.not_eq_true', beq_self_eq_true]
    rw [ho, ← hun]
    constructor
    · rintro ⟨a, b, d⟩; exact ⟨⟨b, d⟩, a⟩
    · rintro ⟨⟨b, d⟩, a⟩; exact ⟨a, b, d⟩
  cases hi : isUnit uni (t, n) c with
  | true =>
    obtain ⟨u, s, h1, h8, hl⟩ := hback hi
    rw [hsing u s h1 h8 hl]; exact hi
  | false =>
    cases hc2 : unitC F.all t n c with
    | false => rfl
    | true =>
      exfalso
      unfold unitC oneB at hc2
      simp only [Bool.and_eq_true, Bool.or_eq_true, beq_iff_eq] at hc2
      obtain ⟨⟨p1, p2, p3⟩, _⟩ := hc2
      have hnz : less c.1 n ≠ 0 ∨ less c.2 t ≠ 0 := by
        unfold deadC at hnd
        rw [Bool.and_eq_false_iff, beq_eq_false_iff_ne, beq_eq_false_iff_ne] at hnd
        exact hnd
      have hex : ∃ u s, leftOf c (t, n) = sing u s := by
        rcases p3 with h | h
        · have hne : less c.2 t ≠ 0 := by
            rcases hnz with h5 | h5
            · exact absurd h h5
            · exact h5
          obtain ⟨v, hv2⟩ := pow_of_one ⟨less c.2 t, less_lt9 _ _ hc.bd.2⟩ hne p2
          exact ⟨v.val, false, by show (less c.1 n, less c.2 t) = (0, 2 ^ v.val); rw [h]; exact congrArg _ hv2⟩
        · have hne : less c.1 n ≠ 0 := by
            rcases hnz with h5 | h5
            · exact h5
            · exact absurd h h5
          obtain ⟨v, hv2⟩ := pow_of_one ⟨less c.1 n, less_lt9 _ _ hc.bd.1⟩ hne p1
          exact ⟨v.val, true, by show (less c.1 n, less c.2 t) = (2 ^ v.val, 0); rw [h]; exact congrArg (fun z => (z, 0)) hv2⟩
      obtain ⟨u, s, hl⟩ := hex
      have hn := hq.name (hll.vars s u (by rw [hl, L_sing]; simp))
      have := hsing u s hn.1 hn.2 hl
      rw [hi] at this
      unfold unitC oneB at this
      simp_all
/-- How many variables have no value. -/
def unas (q : QS) (vals : Nat × Nat) : Nat := (q.vars.filter (fun x => !L vals true x.1 && !L vals false x.1)).length
theorem unas_lt {q : QS} (hq : QGood q) {vals : Nat × Nat} {x : Nat × Bool} (hx : x ∈ q.vars) (h1 : L vals true x.1 = false) (h2 : L vals false x.1 = false) (s : Bool) : unas q (withLit vals (litI x.1 s)) < unas q vals := by
  have hn := hq.qb.names x hx
  unfold unas
  have e : q.vars.filter (fun y => !L (withLit vals (litI x.1 s)) true y.1 && !L (withLit vals (litI x.1 s)) false y.1) = (q.vars.filter (fun y => !L vals true y.1 && !L vals false y.1)).filter (fun y => !L (withLit vals (litI x.1 s)) true y.1 && !L (withLit vals (litI x.1 s)) false y.1) := by
    rw [List.filter_filter]
    apply List.filter_congr
    intro y _
    rw [L_with _ _ _ hn.1 hn.2, L_with _ _ _ hn.1 hn.2]
    cases L vals true y.1 <;> cases L vals false y.1 <;> simp
  rw [e]
  refine List.length_filter_lt_length_iff_exists.2 ⟨x, List.mem_filter.2 ⟨hx, by rw [h1, h2]; rfl⟩, ?_⟩
  rw [L_with _ _ _ hn.1 hn.2, L_with _ _ _ hn.1 hn.2]
  cases s <;> simp
theorem unitsF_ge (cl : List (Nat × Nat)) (all : Nat) : ∀ f k t n, k ≤ (unitsF cl all f k t n).2 := by
  intro f
  induction f with
  | zero => intro k t n; exact Nat.le_refl _
  | succ f ih =>
    intro k t n
    rw [unitsF]
    split
    · exact Nat.le_refl _
    · split
      · exact Nat.le_refl _
      · exact Nat.le_trans (Nat.le_succ k) (ih _ _ _)
theorem cs_map {q : QS} : (clausesOf q []).map (litsAt (axioms q.cl)) = q.cl := by
  unfold clausesOf
  simp only [List.filter_nil, List.map_nil, List.append_nil, List.map_map]
  apply List.ext_getElem
  · simp
  · intro i h1 h2
    simp only [List.getElem_map, List.getElem_range, Function.comp]
    rw [litsAt_in _ i (by rw [axioms_len]; exact h2), axioms_at q.cl i h2]
theorem cs_pos {q : QS} : ∀ s ∈ clausesOf q [], 1 ≤ s := by
  intro s hs
  unfold clausesOf at hs
  simp only [List.filter_nil, List.map_nil, List.append_nil, List.mem_map] at hs
  obtain ⟨i, _, rfl⟩ := hs
  omega
theorem units_sim {q : QS} (hq : QGood q) {F : Form} (hF : FQ F q) {uni : Nat × Nat} (hu : UniOk q uni) : ∀ (f k t n m : Nat) (trail : List (Int × Nat)), VOk q (t, n) → unas q (t, n) < m → (unitsF q.cl F.all f k t n).1 = true →
    (unitsGo (axioms q.cl) uni (clausesOf q []) m (t, n) trail).conf ≠ 0 ∧ (unitsGo (axioms q.cl) uni (clausesOf q []) m (t, n) trail).trail.length + k ≤ trail.length + (unitsF q.cl F.all f k t n).2 := by
  intro f
  induction f with
  | zero => intro k t n m trail _ _ h; cases h
  | succ f ih =>
    intro k t n m trail hv hm h
    obtain ⟨m, rfl⟩ : ∃ m', m = m' + 1 := ⟨m - 1, by omega⟩
    have hge := unitsF_ge q.cl F.all (f + 1) k t n
    rw [unitsGo]
    by_cases hcf : confOf (axioms q.cl) uni (clausesOf q []) (t, n) ≠ 0
    · rw [if_pos hcf]
      exact ⟨hcf, by show trail.length + k ≤ _; omega⟩
    · rw [if_neg hcf]
      have hnoconf : ∀ c ∈ q.cl, isConf uni (t, n) c = false := by
        intro c hc
        cases hh : isConf uni (t, n) c with
        | false => rfl
        | true =>
          exfalso
          apply hcf
          rw [← cs_map] at hc
          obtain ⟨s, hs, rfl⟩ := List.mem_map.1 hc
          exact conf_find cs_pos hs hh
      have hnd : ∀ c ∈ q.cl, deadC t n c = false := by
        intro c hc
        cases hh : deadC t n c with
        | false => rfl
        | true => have := dead_conf (uni := uni) hv hh; rw [hnoconf c hc] at this; cases this
      have hany : q.cl.any (deadC t n) = false := by rw [List.any_eq_false]; intro c hc; rw [hnd c hc]; decide
      have hF1 : unitsF q.cl F.all (f + 1) k t n = match q.cl.find? (unitC F.all t n) with
        | none => (false, k)
        | some c => unitsF q.cl F.all f (k + 1) (t ||| less c.1 n) (n ||| less c.2 t) := by rw [unitsF, hany]; rfl
      rw [hF1] at h ⊢
      have hlok : ∀ c ∈ q.cl, LOk q c := fun c hc => ⟨hq.qb.bits c hc, hq.vars c hc⟩
      have hfind : q.cl.find? (unitC F.all t n) = q.cl.find? (isUnit uni (t, n)) := by
        have : ∀ l : List (Nat × Nat), (∀ c ∈ l, c ∈ q.cl) → l.find? (unitC F.all t n) = l.find? (isUnit uni (t, n)) := by
          intro l
          induction l with
          | nil => intro _; rfl
          | cons c l il =>
            intro hl
            rw [List.find?_cons, List.find?_cons, (unit_same hq hF hu hv (hlok c (hl c (by simp))) (hnd c (hl c (by simp)))).1, il (fun x hx => hl x (by simp [hx]))]
        exact this q.cl (fun _ h => h)
      cases hfd : q.cl.find? (unitC F.all t n) with
      | none => rw [hfd] at h; cases h
      | some c =>
        rw [hfd] at h
        dsimp only at h ⊢
        rw [hfind] at hfd
        have hcm := List.mem_of_find?_eq_some hfd
        have hci := List.find?_some hfd
        have hcs : ∃ s, (clausesOf q []).find? (fun s => isUnit uni (t, n) (litsAt (axioms q.cl) s)) = some s ∧ litsAt (axioms q.cl) s = c := by
          have h5 := hfd
          rw [← cs_map (q := q), List.find?_map] at h5
          cases hg : (clausesOf q []).find? (isUnit uni (t, n) ∘ litsAt (axioms q.cl)) with
          | none => rw [hg] at h5; cases h5
          | some s => rw [hg] at h5; injection h5 with h5; exact ⟨s, hg, h5⟩
        obtain ⟨s, hs1, hs2⟩ := hcs
        have hspos := cs_pos s (List.mem_of_find?_eq_some hs1)
        obtain ⟨u, sg, hu1, hu8, hl⟩ := (unit_same hq hF hu hv (hlok c hcm) (hnd c hcm)).2 hci
        have hun : unitOf (axioms q.cl) uni (clausesOf q []) (t, n) = (litI u sg, s) := by
          unfold unitOf
          rw [hs1]
          dsimp only
          rw [hs2, hl, (sing_list u sg hu1 hu8).1]
          rfl
        rw [hun, if_neg (by show ¬ s = 0; omega)]
        dsimp only
        have e1 : less c.1 n = (sing u sg).1 := congrArg Prod.fst hl
        have e2 : less c.2 t = (sing u sg).2 := congrArg Prod.snd hl
        have hw : withLit (t, n) (litI u sg) = (t ||| less c.1 n, n ||| less c.2 t) := by
          rw [e1, e2]
          apply L_ext
          intro r v
          rw [L_with _ _ _ hu1 hu8]
          cases sg <;> cases r <;> simp [L, sing, Nat.testBit_two_pow, eq_comm]
        have hnone : L (t, n) true u = false ∧ L (t, n) false u = false ∧ ∃ x ∈ q.vars, x.1 = u := by
          have h6 := L_left c (t, n) sg u
          rw [hl, L_sing] at h6
          simp at h6
          have h7 : L (t, n) sg u = false := by
            unfold isUnit openB at hci
            rw [Bool.and_eq_true, Bool.and_eq_true, Bool.not_eq_true'] at hci
            cases hh : L (t, n) sg u with
            | false => rfl
            | true => have h9 := hci.1.1; rw [(meets_iff _ _).2 ⟨sg, u, h6.1, hh⟩] at h9; cases h9
          obtain ⟨x, hx, hxe⟩ := List.mem_map.1 ((hlok c hcm).vars sg u h6.1)
          refine ⟨?_, ?_, x, hx, hxe⟩
          · cases sg
            · exact h6.2
            · exact h7
          · cases sg
            · exact h7
            · exact h6.2
        obtain ⟨hn1, hn2, x, hx, hxe⟩ := hnone
        have hv' : VOk q (withLit (t, n) (litI u sg)) := by
          refine ⟨with_free hu1 hu8 hv.free (by cases sg <;> assumption), with_bd _ _ hv.lok.bd, fun r v hr => ?_⟩
          rw [L_with _ _ _ hu1 hu8, Bool.or_eq_true, Bool.and_eq_true] at hr
          rcases hr with hr | ⟨_, hr⟩
          · exact hv.lok.vars r v hr
          · rw [of_decide_eq_true hr, ← hxe]; exact List.mem_map_of_mem hx
        have hlt : unas q (withLit (t, n) (litI u sg)) < unas q (t, n) := by
          have := unas_lt hq hx (by rw [hxe]; exact hn1) (by rw [hxe]; exact hn2) sg
          rwa [hxe] at this
        rw [hw] at hv' hlt ⊢
        have := ih (k + 1) _ _ m (trail ++ [(litI u sg, s)]) hv' (by omega) h
        refine ⟨this.1, ?_⟩
        have h8 := this.2
        simp only [List.length_append, List.length_cons, List.length_nil] at h8
        omega
end Go.Proofs.YtgipjjhkhfihpaaGreatDoor

namespace Go.Proofs.YtgipjjhkhfihpaaGreatDoor
open Go.RowKit

theorem look_inl {C : SC} {m : Nat} {path : Nat × Nat} {d : Nat} {s : SS} {r : SS × (Nat × Nat)} (h : nodeOf C s path = .inl r) : lookM C m path d s = r := by
  cases m with
  | zero => rw [lookM, h]
  | succ m => rw [lookM, h]
theorem twos_axioms (cl : List (Nat × Nat)) : twos (axioms cl) = 0 := by
  unfold twos axioms
  rw [List.length_eq_zero_iff, List.filter_eq_nil_iff]
  intro s hs
  obtain ⟨c, _, rfl⟩ := List.mem_map.1 hs
  simp
/-- P7: where units leave a clause all false: one node, few steps. -/
theorem solve_units {F : Form} {q : QS} (hq : QGood q) (hF : FQ F q) (budget room : Nat) (h : (unitsR F).1 = true) : (solveM q budget room).2.1 = 1 ∧ (solveM q budget room).1.nodes = 1 ∧ twos (solveM q budget room).1.ref ≤ (unitsR F).2 := by
  have hun : unitsR F = unitsF q.cl F.all 1024 0 0 0 := by unfold unitsR; rw [hF.cl]
  rw [hun] at h ⊢
  have hz : VOk q (0, 0) := ⟨fun v a => (by rw [L_zero] at a; cases a), lok_zero q⟩
  have hlt : unas q (0, 0) < q.vars.length + 1 := Nat.lt_succ_of_le (List.length_filter_le _ _)
  obtain ⟨h1, h2⟩ := units_sim hq hF (uni_ok hq) 1024 0 0 0 (q.vars.length + 1) [] hz hlt h
  have hS1 := nodes_inv (begin_inv hq budget room) 1
  have hU : unitsOf (beginC q budget room) { beginS q with nodes := 1 } (0, 0) = unitsGo (axioms q.cl) (uniTo q.vars (0, 0)) (clausesOf q []) (q.vars.length + 1) (0, 0) [] := rfl
  have hc : (unitsOf (beginC q budget room) { beginS q with nodes := 1 } (0, 0)).conf ≠ 0 := by rw [hU]; exact h1
  have hex := explain_ok (C := beginC q budget room) hq (uni_ok hq) hS1 (path_zero q) hc
  have hn : nodeOf (beginC q budget room) (beginS q) (0, 0) = .inl (explain (beginC q budget room) { beginS q with nodes := 1 } (unitsOf (beginC q budget room) { beginS q with nodes := 1 } (0, 0))) := by
    have hb : ¬ (0 < (beginC q budget room).budget ∧ (beginC q budget room).budget ≤ (beginS q).nodes) := by
      show ¬ (0 < budget ∧ budget ≤ 0)
      omega
    rw [nodeOf, if_neg hb]
    dsimp only
    exact if_pos hc
  have hl : solveM q budget room = explain (beginC q budget room) { beginS q with nodes := 1 } (unitsOf (beginC q budget room) { beginS q with nodes := 1 } (0, 0)) := look_inl hn
  rw [hl]
  refine ⟨hex.2.2.2.2.2.1, hex.2.2.2.1, ?_⟩
  have h3 := hex.2.2.2.2.2.2
  have h4 : twos ({ beginS q with nodes := 1 } : SS).ref = 0 := twos_axioms q.cl
  rw [h4] at h3
  have h5 : (unitsOf (beginC q budget room) { beginS q with nodes := 1 } (0, 0)).trail.length ≤ (unitsF q.cl F.all 1024 0 0 0).2 := by
    rw [hU]
    simpa using h2
  rw [Nat.zero_add] at h3
  exact Nat.le_trans h3 h5

/-! ### What is told -/
/-- The verdict: kind, nodes, lemmas, text. -/
structure Vd where
  kind : Nat
  nodes : Nat
  lemmas : Nat
  text : List UInt8
def verdict (q : QS) (budget room : Nat) : Vd :=
  let r := solveM q budget room
  ⟨r.2.1, r.1.nodes, r.1.most, if r.2.1 = 0 then [] else textP (r.2.1 == 2) (shortOf (r.1.proof r.2.1) r.2.2)⟩
end Go.Proofs.YtgipjjhkhfihpaaGreatDoor

namespace Go.Proofs.YtgipjjhkhfihpaaGreatDoor
open Go.RowKit

/-! ### Solve -/
theorem look_all : ∀ m, LookSpec m := by
  intro m
  induction m with
  | zero => exact look_of_branch 0 branch_zero
  | succ m ih => exact look_of_branch (m + 1) (branch_succ m ih)
theorem uniTo_lt (vs : List (Nat × Bool)) (u : Nat × Nat) (h : u.1 < 512 ∧ u.2 < 512) : (uniTo vs u).1 < 512 ∧ (uniTo vs u).2 < 512 := by
  unfold uniTo
  induction vs generalizing u with
  | nil => exact h
  | cons v vs ih =>
    rw [List.foldl_cons]
    apply ih
    split
    · have h1 := withLit_lt u v.1 h.1 h.2
      exact withLit_lt _ _ h1.1 h1.2
    · exact h
theorem begin_cbd {q : QS} (hq : QGood q) {budget room : Nat} (hb : budget ≤ 1048576) (hr : room ≤ 64) : CBd (beginC q budget room) := ⟨hq, uni_ok hq, uniTo_lt _ _ ⟨by decide, by decide⟩, hb, hr⟩
theorem begin_in {q : QS} (hq : QGood q) (budget room : Nat) : LookIn (beginC q budget room) q.vars.length 0 (0, 0) (beginS q) := by
  have h1 := hq.qb.vl
  have h2 := hq.qb.cl
  refine ⟨⟨begin_inv hq budget room, ?_, Nat.zero_le _⟩, path_zero _, Nat.zero_add _, ?_⟩
  · show (axioms q.cl).length + 0 ≤ 100 + 12 * 0
    rw [axioms_len]; omega
  · have h3 : 2 ^ (q.vars.length + 1) ≤ 2 ^ 9 := Nat.pow_le_pow_right (by decide) (by omega)
    have h4 : (2 : Nat) ^ 9 = 512 := by decide
    show 0 + 2 ^ (q.vars.length + 1) ≤ 2001
    omega
/-- The proof that goes with an answer. -/
def solvedP (r : SS × (Nat × Nat)) : Nat × List Stp := if r.2.1 = 1 then (1, shortOf r.1.ref r.2.2) else if r.2.1 = 2 then (2, shortOf r.1.aff r.2.2) else (0, [])
theorem look_kind {C : SC} {m : Nat} {path : Nat × Nat} {S : SS} {r : SS × (Nat × Nat)} (h : LookOk C m path S r) : r.2.1 = 0 ∨ r.2.1 = 1 ∨ r.2.1 = 2 := by
  by_cases h0 : r.2.1 = 0
  · exact Or.inl h0
  · exact Or.inr (h.fact h0).inn.kind
def SolvePost (r : SS × (Nat × Nat)) (w : World) (e : Ending) (w' : World) : Prop := ∃ v, e = .returned (.agg #[.int .i64 (r.2.1 : Int), .int .i64 (r.1.nodes : Int), .int .i64 (r.1.most : Int), .int .i64 ((solvedP r).1 : Int), v]) ∧ w'.ownsRow w.heap.size 134 6 v (solvedP r).2.length (psCells (solvedP r).2) ∧ Below w.heap.size w w'
set_option maxRecDepth 100000 in
set_option maxHeartbeats 6400000 in
theorem ssolve_any (q : QS) (aV aC : Option Addr) (cV cC budget room : Nat) (w : World) (hoV : w.ownsRow 0 139 2 (.slice aV q.vars.length cV) q.vars.length (varCells q.vars)) (hoC : w.ownsRow 0 74 2 (.slice aC q.cl.length cC) q.cl.length (pairs q.cl)) (hq : QGood q) (hbu : budget ≤ 1048576) (hro : room ≤ 64) :
    Calls Tryz.prog 41 #[.agg #[.slice aV q.vars.length cV, .slice aC q.cl.length cC], .int .i64 (budget : Int), .int .i64 (room : Int)] w fun e w' => SolvePost (solveM q budget room) w e w' := by
  have hvl := hq.qb.vl
  have hcl := hq.qb.cl
  have hcb := begin_cbd hq hbu hro
  have hin := begin_in hq budget room
  have hlk := hin.lk hcb
  have hlo := hin.out hcb
  have HSM : Hid (solveM q budget room = lookM (beginC q budget room) q.vars.length (0, 0) 0 (beginS q)) := hide rfl
  go_enter Tryz.func41, Tryz.ntmps41
  go_wp2_with fail
  generalize hw0 : ((w.alloc (.cells #[.slice aV q.vars.length cV, .slice aC q.cl.length cC] 60)).alloc (.cells #[.int .i64 0, .int .i64 0, .int .i64 0, .int .i64 0, .slice none 0 0] 97)) = u1
  have hB : Below w.heap.size w u1 := by rw [← hw0]; exact ((Below.refl _ _).alloc (Nat.le_refl _) _).alloc (by simp; try omega) _
  have hfo : u1.heap[w.heap.size]? = some (.cells #[.slice aV q.vars.length cV, .slice aC q.cl.length cC] 60 (0, 0)) := by rw [← hw0, heap_alloc_old _ _ (by simp; try omega)]; exact alloc_new_at (by simp)
  have hrs : u1.heap[w.heap.size + 1]? = some (.cells #[.int .i64 0, .int .i64 0, .int .i64 0, .int .i64 0, .slice none 0 0] 97 (0, 0)) := by rw [← hw0]; exact alloc_new_at (by simp)
  clear hw0
  have cfo0 : u1.cell? ⟨w.heap.size, 0, none⟩ = some (.slice aV q.vars.length cV) := by rw [blk_cell hfo]; rfl
  have cfo1 : u1.cell? ⟨w.heap.size, 1, none⟩ = some (.slice aC q.cl.length cC) := by rw [blk_cell hfo]; rfl
  have lfo := blk_lt hfo
  have crs0 : u1.cell? ⟨w.heap.size + 1, 0, none⟩ = some (.int .i64 0) := by rw [blk_cell hrs]; rfl
  have crs1 : u1.cell? ⟨w.heap.size + 1, 1, none⟩ = some (.int .i64 0) := by rw [blk_cell hrs]; rfl
  have crs2 : u1.cell? ⟨w.heap.size + 1, 2, none⟩ = some (.int .i64 0) := by rw [blk_cell hrs]; rfl
  have crs3 : u1.cell? ⟨w.heap.size + 1, 3, none⟩ = some (.int .i64 0) := by rw [blk_cell hrs]; rfl
  have crs4 : u1.cell? ⟨w.heap.size + 1, 4, none⟩ = some (.slice none 0 0) := by rw [blk_cell hrs]; rfl
  have lrs := blk_lt hrs
  have hoV1 := own_below hoV hB
  have hoC1 := own_below hoC hB
  refine (begin_any q aV aC cV cC budget room _ hoV1 hoC1 hq.qb hbu hro).mono ?_
  rintro e u2 ⟨b0, V, rfl, hS0, hVv, hVc, hfr, hfa, hfk, b2⟩
  replace hB := hB.trans (b2.mono hB.size)
  replace hrs := (b2.block _ (blk_lt hrs)).trans hrs
  have hrl : w.heap.size + 1 < u1.heap.size := lrs
  clear hfo cfo0 cfo1 lfo crs0 crs1 crs2 crs3 crs4 lrs
  obtain ⟨aR, cR, hVR⟩ := own_form hS0.oR
  obtain ⟨aA, cA, hVA⟩ := own_form hS0.oA
  obtain ⟨aK, cK, hVK⟩ := hS0.oK.form
  have HCS : Hid (sCells (beginC q budget room) (beginS q) V = #[.slice aV q.vars.length cV, .slice aC q.cl.length cC, .int .i64 ((beginC q budget room).uni.1 : Int), .int .i64 ((beginC q budget room).uni.2 : Int), .int .i64 (budget : Int), .int .i64 0, .int .i64 1, .slice aR (beginS q).ref.length cR, .int .i64 2, .slice aA (beginS q).aff.length cA, .int .i64 (room : Int), .slice aK (beginS q).kept.length cK, .int .i64 0]) := hide (by simp only [sCells, hVv, hVc, hVR, hVA, hVK]; rfl)
  rw [unhide HCS]
  obtain ⟨C, hCe⟩ : ∃ X, X = beginC q budget room := ⟨_, rfl⟩
  obtain ⟨S, hSe⟩ : ∃ X, X = beginS q := ⟨_, rfl⟩
  have hCq : C.q = q := by rw [hCe]; rfl
  rw [← hCe] at hcb hin hlk hlo HSM hS0 HCS ⊢
  rw [← hSe] at hin hlk hlo HSM hS0 HCS ⊢
  clear hCe hSe
  obtain ⟨⟨n1, n2⟩, hne⟩ : ∃ X, X = C.uni := ⟨_, rfl⟩
  rw [← hne] at HCS ⊢
  clear hne
  dsimp only at HCS ⊢
  generalize hLR : S.ref.length = lr at *
  generalize hLA : S.aff.length = la at *
  generalize hLK : S.kept.length = lk at *
  go_wp2_with fail
  have hA3 : Below u2.heap.size u2 (u2.alloc (.cells #[.slice aV q.vars.length cV, .slice aC q.cl.length cC, .int .i64 (n1 : Int), .int .i64 (n2 : Int), .int .i64 (budget : Int), .int .i64 0, .int .i64 1, .slice aR lr cR, .int .i64 2, .slice aA la cA, .int .i64 (room : Int), .slice aK lk cK, .int .i64 0] 126)) := (Below.refl _ _).alloc (Nat.le_refl _) _
  have hSb : (u2.alloc (.cells #[.slice aV q.vars.length cV, .slice aC q.cl.length cC, .int .i64 (n1 : Int), .int .i64 (n2 : Int), .int .i64 (budget : Int), .int .i64 0, .int .i64 1, .slice aR lr cR, .int .i64 2, .slice aA la cA, .int .i64 (room : Int), .slice aK lk cK, .int .i64 0] 126)).heap[u2.heap.size]? = some (.cells (sCells C S V) 126 (0, 0)) := by rw [unhide HCS]; exact heap_alloc_new _ _
  have hS9 := hS0.later hA3
  have hS : SAt (u2.alloc (.cells #[.slice aV q.vars.length cV, .slice aC q.cl.length cC, .int .i64 (n1 : Int), .int .i64 (n2 : Int), .int .i64 (budget : Int), .int .i64 0, .int .i64 1, .slice aR lr cR, .int .i64 2, .slice aA la cA, .int .i64 (room : Int), .slice aK lk cK, .int .i64 0] 126)) u2.heap.size C S V := ⟨hSb, hS9.oV, hS9.oC, hS9.oR, hS9.oA, hS9.oK, hS9.ap⟩
  have hl2 : w.heap.size + 1 < u2.heap.size := blk_lt hrs
  replace hrs := (hA3.block _ hl2).trans hrs
  replace hB := hB.trans (hA3.mono hB.size)
  have nrs : Far u2.heap.size V (w.heap.size + 1) := ⟨by omega, fun e => (by rw [hVv] at e; have := (hoV.lt _ e).2; omega), fun e => (by rw [hVc] at e; have := (hoC.lt _ e).2; omega), fun e => (by have := hfr _ e; omega), fun e => (by have := hfa _ e; omega), fun e => (by have := hfk _ e; omega)⟩
  have HFR : Hid ((∀ k, V.r.ownBlock = some k → w.heap.size ≤ k) ∧ (∀ k, V.a.ownBlock = some k → w.heap.size ≤ k) ∧ (∀ k, V.k.ownBlock = some k → w.heap.size ≤ k)) := hide ⟨fun k hk => (by have := hfr _ hk; omega), fun k hk => (by have := hfa _ hk; omega), fun k hk => (by have := hfk _ hk; omega)⟩
  clear hSb hS9 hS0 HCS hfr hfa hfk hVR hVA hVK
  generalize (u2.alloc (.cells #[.slice aV q.vars.length cV, .slice aC q.cl.length cC, .int .i64 (n1 : Int), .int .i64 (n2 : Int), .int .i64 (budget : Int), .int .i64 0, .int .i64 1, .slice aR lr cR, .int .i64 2, .slice aA la cA, .int .i64 (room : Int), .slice aK lk cK, .int .i64 0] 126)) = u3 at *
  clear hA3
  refine (look_all q.vars.length u2.heap.size C S V (0, 0) 0 _ hcb hin hS).mono ?_
  rintro e u4 ⟨rfl, V2, hS2, hM2⟩
  have lrs := blk_lt hrs
  replace hrs := hM2.blk hrs nrs
  replace nrs := hM2.far lrs nrs
  have hB4 := hM2.only.under hB (Nat.le_refl _) (fun k hk => by
    rcases hk with hk | hk | hk | hk
    · omega
    · exact (unhide HFR).1 k hk
    · exact (unhide HFR).2.1 k hk
    · exact (unhide HFR).2.2 k hk)
  replace hB := hB4
  replace hS := hS2
  clear hB4 hS2 hM2 lrs HFR
  generalize lookM C q.vars.length (0, 0) 0 S = R at *
  obtain ⟨S4, f1, f2⟩ := R
  have hki := look_kind hlk
  have hpl1 := hlo.plen 1
  have hpl2 := hlo.plen 2
  dsimp only at hS hlo hki hpl1 hpl2 ⊢
  have HSX : Hid (solveM q budget room = (S4, f1, f2)) := HSM
  have cb5 : u4.cell? ⟨u2.heap.size, 5, none⟩ = some (.int .i64 (S4.nodes : Int)) := by rw [blk_cell hS.fb]; rfl
  have cb12 : u4.cell? ⟨u2.heap.size, 12, none⟩ = some (.int .i64 (S4.most : Int)) := by rw [blk_cell hS.fb]; rfl
  have lb := blk_lt hS.fb
  rcases hki with hki | hki | hki
  · have hd1 : ((f1 : Int) == 1) = false := by rw [beq_eq_false_iff_ne]; omega
    have hn1 : (f1 == 1) = false := by rw [beq_eq_false_iff_ne]; omega
    have hd2 : ((f1 : Int) == 2) = false := by rw [beq_eq_false_iff_ne]; omega
    have hn2 : (f1 == 2) = false := by rw [beq_eq_false_iff_ne]; omega
    have HSP : Hid (solvedP (S4, f1, f2) = (0, [])) := hide (by unfold solvedP; rw [if_neg (show ¬ f1 = 1 by omega), if_neg (show ¬ f1 = 2 by omega)])
    clear hki
    have hA5 : Below u4.heap.size u4 ((u4.alloc (.cells #[.int .i64 (f1 : Int), .int .i64 (f2 : Int)] 129)).alloc (.cells #[.int .i64 (f1 : Int), .int .i64 (S4.nodes : Int), .int .i64 (S4.most : Int), .int .i64 0, .slice none 0 0] 97)) := ((Below.refl _ _).alloc (Nat.le_refl _) _).alloc (by simp) _
    have hrs5 := (hA5.block _ (blk_lt hrs)).trans hrs
    have hB5 := hB.trans (hA5.mono hB.size)
    go_wp2_with (refine wpList_store_row rfl 97 _ _ rfl (w.heap.size + 1) _ rfl rfl 97 _ hrs5 (by kernel_rfl) rfl (by simp [Value.oneCell']) ?_)
    refine bodyPost_ret (v := .agg #[.int .i64 (f1 : Int), .int .i64 (S4.nodes : Int), .int .i64 (S4.most : Int), .int .i64 0, .slice none 0 0]) (results_cell_row rfl _ _ (w.heap.size + 1) 97 _ (0, 0) _ rfl (setRow_heap _ _ _ _ _ _ hrs5) Tryz.underlying97 rfl (by kernel_rfl)) rfl ?_
    rw [unhide HSX]
    refine ⟨.slice none 0 0, by rw [unhide HSP]; rfl, by rw [unhide HSP]; exact World.ownsRow_nil _ _ _ _, below_setRow hB5 (Nat.le_succ _) _⟩
  · have hd1 : ((f1 : Int) == 1) = true := by rw [beq_iff_eq]; omega
    have hn1 : (f1 == 1) = true := by rw [beq_iff_eq]; exact hki
    have hd2 : ((f1 : Int) == 2) = false := by rw [beq_eq_false_iff_ne]; omega
    have hn2 : (f1 == 2) = false := by rw [beq_eq_false_iff_ne]; omega
    have HSP : Hid (solvedP (S4, f1, f2) = (1, shortOf S4.ref f2)) := hide (by unfold solvedP; rw [if_pos (show f1 = 1 from hki)])
    clear hki
    have hA5 : Below u4.heap.size u4 ((u4.alloc (.cells #[.int .i64 (f1 : Int), .int .i64 (f2 : Int)] 129)).alloc (.cells #[.int .i64 (f1 : Int), .int .i64 (S4.nodes : Int), .int .i64 (S4.most : Int), .int .i64 0, .slice none 0 0] 97)) := ((Below.refl _ _).alloc (Nat.le_refl _) _).alloc (by simp) _
    have hrs5 := (hA5.block _ (blk_lt hrs)).trans hrs
    have hB5 := hB.trans (hA5.mono hB.size)
    have hfd : ((u4.alloc (.cells #[.int .i64 (f1 : Int), .int .i64 (f2 : Int)] 129)).alloc (.cells #[.int .i64 (f1 : Int), .int .i64 (S4.nodes : Int), .int .i64 (S4.most : Int), .int .i64 0, .slice none 0 0] 97)).heap[u4.heap.size]? = some (.cells #[.int .i64 (f1 : Int), .int .i64 (f2 : Int)] 129 (0, 0)) := by rw [heap_alloc_old _ _ (by simp)]; exact alloc_new_at (by simp)
    have han : ((u4.alloc (.cells #[.int .i64 (f1 : Int), .int .i64 (f2 : Int)] 129)).alloc (.cells #[.int .i64 (f1 : Int), .int .i64 (S4.nodes : Int), .int .i64 (S4.most : Int), .int .i64 0, .slice none 0 0] 97)).heap[u4.heap.size + 1]? = some (.cells #[.int .i64 (f1 : Int), .int .i64 (S4.nodes : Int), .int .i64 (S4.most : Int), .int .i64 0, .slice none 0 0] 97 (0, 0)) := alloc_new_at (by simp)
    have hS5 := hS.later hA5
    go_wp2_with fail
    have hz45 : u4.heap.size + 2 = ((u4.alloc (.cells #[.int .i64 (f1 : Int), .int .i64 (f2 : Int)] 129)).alloc (.cells #[.int .i64 (f1 : Int), .int .i64 (S4.nodes : Int), .int .i64 (S4.most : Int), .int .i64 0, .slice none 0 0] 97)).heap.size := by simp
    generalize ((u4.alloc (.cells #[.int .i64 (f1 : Int), .int .i64 (f2 : Int)] 129)).alloc (.cells #[.int .i64 (f1 : Int), .int .i64 (S4.nodes : Int), .int .i64 (S4.most : Int), .int .i64 0, .slice none 0 0] 97)) = u5 at *
    refine (short_any u2.heap.size 6 (sCells C S4 V2) 126 S4.ref V2.r 1 f2 _ (hS5.pat (Or.inl rfl)) (by have := hpl1; exact Nat.le_trans this (by decide))).mono ?_
    rintro e u6 ⟨v6, rfl, ho6, b6⟩
    replace hrs5 := (b6.block _ (blk_lt hrs5)).trans hrs5
    replace han := (b6.block _ (blk_lt han)).trans han
    replace hB5 := hB5.trans (b6.mono hB5.size)
    obtain ⟨a6, c6, rfl⟩ := own_form ho6
    generalize hSL : shortOf S4.ref f2 = sl at *
    have z3 := blk_free han 3
    have z4 := blk_free han 4
    have q3 : u6.cell? ⟨u4.heap.size + 1, 3, none⟩ = some (.int .i64 0) := by rw [blk_cell han]; rfl
    have q4 : u6.cell? ⟨u4.heap.size + 1, 4, none⟩ = some (.slice none 0 0) := by rw [blk_cell han]; rfl
    have lan := blk_lt han
    have hanS : ((u6.setCell ⟨u4.heap.size + 1, 3, none⟩ (.int .i64 1)).setCell ⟨u4.heap.size + 1, 4, none⟩ (.slice a6 sl.length c6)).heap[u4.heap.size + 1]? = some (.cells #[.int .i64 (f1 : Int), .int .i64 (S4.nodes : Int), .int .i64 (S4.most : Int), .int .i64 1, .slice a6 sl.length c6] 97 (0, 0)) := blk_set (blk_set han 3 (.int .i64 1)) 4 (.slice a6 sl.length c6)
    have hl4 : w.heap.size + 1 < u4.heap.size := blk_lt hrs
    have hrsS := blk_other (blk_other hrs5 (c := u4.heap.size + 1) (by omega) 3 (.int .i64 1)) (c := u4.heap.size + 1) (by omega) 4 (.slice a6 sl.length c6)
    have hne : (Value.slice a6 sl.length c6).ownBlock ≠ some (u4.heap.size + 1) := fun e => (by have := own_ge ho6 e; omega)
    have hne2 : (Value.slice a6 sl.length c6).ownBlock ≠ some (w.heap.size + 1) := fun e => (by have := own_ge ho6 e; omega)
    have hoS := own_set_ne (own_set_ne ho6 (p := ⟨u4.heap.size + 1, 3, none⟩) hne (.int .i64 1)) (p := ⟨u4.heap.size + 1, 4, none⟩) hne (.slice a6 sl.length c6)
    have hBS := (hB5.setCell (p := ⟨u4.heap.size + 1, 3, none⟩) (show w.heap.size ≤ u4.heap.size + 1 by omega) (.int .i64 1)).setCell (p := ⟨u4.heap.size + 1, 4, none⟩) (show w.heap.size ≤ u4.heap.size + 1 by omega) (.slice a6 sl.length c6)
    go_wp2_with (first | (refine wpList_load_row rfl 97 _ rfl (u4.heap.size + 1) rfl 97 _ (0, 0) _ hanS Tryz.underlying97 rfl (by kernel_rfl) ?_) | (refine wpList_store_row rfl 97 _ _ rfl (w.heap.size + 1) _ rfl rfl 97 _ hrsS (by kernel_rfl) rfl (by simp [Value.oneCell']) ?_))
    refine bodyPost_ret (v := .agg #[.int .i64 (f1 : Int), .int .i64 (S4.nodes : Int), .int .i64 (S4.most : Int), .int .i64 1, .slice a6 sl.length c6]) (results_cell_row rfl _ _ (w.heap.size + 1) 97 _ (0, 0) _ rfl (setRow_heap _ _ _ _ _ _ hrsS) Tryz.underlying97 rfl (by kernel_rfl)) rfl ?_
    rw [unhide HSX]
    refine ⟨.slice a6 sl.length c6, by rw [unhide HSP]; rfl, ?_, below_setRow hBS (Nat.le_succ _) _⟩
    rw [unhide HSP]
    exact own_lo (own_keep hoS (only_setRow _ (w.heap.size + 1) _) (fun k hk e => hne2 (by rw [hk, e]))) (by omega)
  · have hd1 : ((f1 : Int) == 1) = false := by rw [beq_eq_false_iff_ne]; omega
    have hn1 : (f1 == 1) = false := by rw [beq_eq_false_iff_ne]; omega
    have hd2 : ((f1 : Int) == 2) = true := by rw [beq_iff_eq]; omega
    have hn2 : (f1 == 2) = true := by rw [beq_iff_eq]; exact hki
    have HSP : Hid (solvedP (S4, f1, f2) = (2, shortOf S4.aff f2)) := hide (by unfold solvedP; rw [if_neg (show ¬ f1 = 1 by omega), if_pos (show f1 = 2 from hki)])
    clear hki
    have hA5 : Below u4.heap.size u4 ((u4.alloc (.cells #[.int .i64 (f1 : Int), .int .i64 (f2 : Int)] 129)).alloc (.cells #[.int .i64 (f1 : Int), .int .i64 (S4.nodes : Int), .int .i64 (S4.most : Int), .int .i64 0, .slice none 0 0] 97)) := ((Below.refl _ _).alloc (Nat.le_refl _) _).alloc (by simp) _
    have hrs5 := (hA5.block _ (blk_lt hrs)).trans hrs
    have hB5 := hB.trans (hA5.mono hB.size)
    have hfd : ((u4.alloc (.cells #[.int .i64 (f1 : Int), .int .i64 (f2 : Int)] 129)).alloc (.cells #[.int .i64 (f1 : Int), .int .i64 (S4.nodes : Int), .int .i64 (S4.most : Int), .int .i64 0, .slice none 0 0] 97)).heap[u4.heap.size]? = some (.cells #[.int .i64 (f1 : Int), .int .i64 (f2 : Int)] 129 (0, 0)) := by rw [heap_alloc_old _ _ (by simp)]; exact alloc_new_at (by simp)
    have han : ((u4.alloc (.cells #[.int .i64 (f1 : Int), .int .i64 (f2 : Int)] 129)).alloc (.cells #[.int .i64 (f1 : Int), .int .i64 (S4.nodes : Int), .int .i64 (S4.most : Int), .int .i64 0, .slice none 0 0] 97)).heap[u4.heap.size + 1]? = some (.cells #[.int .i64 (f1 : Int), .int .i64 (S4.nodes : Int), .int .i64 (S4.most : Int), .int .i64 0, .slice none 0 0] 97 (0, 0)) := alloc_new_at (by simp)
    have hS5 := hS.later hA5
    go_wp2_with fail
    have hz45 : u4.heap.size + 2 = ((u4.alloc (.cells #[.int .i64 (f1 : Int), .int .i64 (f2 : Int)] 129)).alloc (.cells #[.int .i64 (f1 : Int), .int .i64 (S4.nodes : Int), .int .i64 (S4.most : Int), .int .i64 0, .slice none 0 0] 97)).heap.size := by simp
    generalize ((u4.alloc (.cells #[.int .i64 (f1 : Int), .int .i64 (f2 : Int)] 129)).alloc (.cells #[.int .i64 (f1 : Int), .int .i64 (S4.nodes : Int), .int .i64 (S4.most : Int), .int .i64 0, .slice none 0 0] 97)) = u5 at *
    refine (short_any u2.heap.size 8 (sCells C S4 V2) 126 S4.aff V2.a 2 f2 _ (hS5.pat (Or.inr rfl)) (by have := hpl2; exact Nat.le_trans this (by decide))).mono ?_
    rintro e u6 ⟨v6, rfl, ho6, b6⟩
    replace hrs5 := (b6.block _ (blk_lt hrs5)).trans hrs5
    replace han := (b6.block _ (blk_lt han)).trans han
    replace hB5 := hB5.trans (b6.mono hB5.size)
    obtain ⟨a6, c6, rfl⟩ := own_form ho6
    generalize hSL : shortOf S4.aff f2 = sl at *
    have z3 := blk_free han 3
    have z4 := blk_free han 4
    have q3 : u6.cell? ⟨u4.heap.size + 1, 3, none⟩ = some (.int .i64 0) := by rw [blk_cell han]; rfl
    have q4 : u6.cell? ⟨u4.heap.size + 1, 4, none⟩ = some (.slice none 0 0) := by rw [blk_cell han]; rfl
    have lan := blk_lt han
    have hanS : ((u6.setCell ⟨u4.heap.size + 1, 3, none⟩ (.int .i64 2)).setCell ⟨u4.heap.size + 1, 4, none⟩ (.slice a6 sl.length c6)).heap[u4.heap.size + 1]? = some (.cells #[.int .i64 (f1 : Int), .int .i64 (S4.nodes : Int), .int .i64 (S4.most : Int), .int .i64 2, .slice a6 sl.length c6] 97 (0, 0)) := blk_set (blk_set han 3 (.int .i64 2)) 4 (.slice a6 sl.length c6)
    have hl4 : w.heap.size + 1 < u4.heap.size := blk_lt hrs
    have hrsS := blk_other (blk_other hrs5 (c := u4.heap.size + 1) (by omega) 3 (.int .i64 2)) (c := u4.heap.size + 1) (by omega) 4 (.slice a6 sl.length c6)
    have hne : (Value.slice a6 sl.length c6).ownBlock ≠ some (u4.heap.size + 1) := fun e => (by have := own_ge ho6 e; omega)
    have hne2 : (Value.slice a6 sl.length c6).ownBlock ≠ some (w.heap.size + 1) := fun e => (by have := own_ge ho6 e; omega)
    have hoS := own_set_ne (own_set_ne ho6 (p := ⟨u4.heap.size + 1, 3, none⟩) hne (.int .i64 2)) (p := ⟨u4.heap.size + 1, 4, none⟩) hne (.slice a6 sl.length c6)
    have hBS := (hB5.setCell (p := ⟨u4.heap.size + 1, 3, none⟩) (show w.heap.size ≤ u4.heap.size + 1 by omega) (.int .i64 2)).setCell (p := ⟨u4.heap.size + 1, 4, none⟩) (show w.heap.size ≤ u4.heap.size + 1 by omega) (.slice a6 sl.length c6)
    go_wp2_with (first | (refine wpList_load_row rfl 97 _ rfl (u4.heap.size + 1) rfl 97 _ (0, 0) _ hanS Tryz.underlying97 rfl (by kernel_rfl) ?_) | (refine wpList_store_row rfl 97 _ _ rfl (w.heap.size + 1) _ rfl rfl 97 _ hrsS (by kernel_rfl) rfl (by simp [Value.oneCell']) ?_))
    refine bodyPost_ret (v := .agg #[.int .i64 (f1 : Int), .int .i64 (S4.nodes : Int), .int .i64 (S4.most : Int), .int .i64 2, .slice a6 sl.length c6]) (results_cell_row rfl _ _ (w.heap.size + 1) 97 _ (0, 0) _ rfl (setRow_heap _ _ _ _ _ _ hrsS) Tryz.underlying97 rfl (by kernel_rfl)) rfl ?_
    rw [unhide HSX]
    refine ⟨.slice a6 sl.length c6, by rw [unhide HSP]; rfl, ?_, below_setRow hBS (Nat.le_succ _) _⟩
    rw [unhide HSP]
    exact own_lo (own_keep hoS (only_setRow _ (w.heap.size + 1) _) (fun k hk e => hne2 (by rw [hk, e]))) (by omega)
end Go.Proofs.YtgipjjhkhfihpaaGreatDoor

namespace Go.Proofs
open Go.Shelf
def Tryz.laysItoa_ren : Go.Shelf.Ren := ⟨fun | 171 => 94 | 243 => 121 | 246 => 137 | 283 => 141 | 284 => 142 | 285 => 143 | 286 => 144 | 129 => 146 | 317 => 145 | 318 => 147 | 319 => 148 | 320 => 149 | 337 => 150 | 338 => 151 | n => n, fun | 3 => 3 | 9 => 9 | 2 => 2 | 4 => 4 | 171 => 199 | 0 => 0 | 53 => 200 | 37 => 114 | 5 => 5 | 173 => 203 | 212 => 206 | 51 => 207 | 20 => 20 | 213 => 208 | 46 => 209 | 232 => 212 | 233 => 213 | n => n, fun | 17 => 0 | 18 => 1 | 19 => 2 | n => n⟩
theorem Tryz.laysItoa : Go.Proofs.LaysM.n171 Tryz.prog Tryz.laysItoa_ren := {
  mixed := by kernel_rfl
  f129 := Tryz.func146.trans (congrArg some (by kernel_rfl))
  f171 := Tryz.func94.trans (congrArg some (by kernel_rfl))
  f243 := Tryz.func121.trans (congrArg some (by kernel_rfl))
  f246 := Tryz.func137.trans (congrArg some (by kernel_rfl))
  f283 := Tryz.func141.trans (congrArg some (by kernel_rfl))
  f284 := Tryz.func142.trans (congrArg some (by kernel_rfl))
  f285 := Tryz.func143.trans (congrArg some (by kernel_rfl))
  f286 := Tryz.func144.trans (congrArg some (by kernel_rfl))
  f317 := Tryz.func145.trans (congrArg some (by kernel_rfl))
  f318 := Tryz.func147.trans (congrArg some (by kernel_rfl))
  f319 := Tryz.func148.trans (congrArg some (by kernel_rfl))
  f320 := Tryz.func149.trans (congrArg some (by kernel_rfl))
  f337 := Tryz.func150.trans (congrArg some (by kernel_rfl))
  f338 := Tryz.func151.trans (congrArg some (by kernel_rfl))
  t0 := Tryz.underlying0
  a0 := Tryz.isAgg0
  z0 := Tryz.sizeOf0
  v0 := Tryz.zeroValue0
  t2 := Tryz.underlying2
  a2 := Tryz.isAgg2
  z2 := Tryz.sizeOf2
  v2 := Tryz.zeroValue2
  t3 := Tryz.underlying3
  a3 := Tryz.isAgg3
  z3 := Tryz.sizeOf3
  v3 := Tryz.zeroValue3
  t4 := Tryz.underlying4
  a4 := Tryz.isAgg4
  z4 := Tryz.sizeOf4
  v4 := Tryz.zeroValue4
  t5 := Tryz.underlying5
  a5 := Tryz.isAgg5
  z5 := Tryz.sizeOf5
  v5 := Tryz.zeroValue5
  t9 := Tryz.underlying9
  a9 := Tryz.isAgg9
  z9 := Tryz.sizeOf9
  v9 := Tryz.zeroValue9
  t20 := Tryz.underlying20
  a20 := Tryz.isAgg20
  z20 := Tryz.sizeOf20
  v20 := Tryz.zeroValue20
  t37 := Tryz.underlying114
  a37 := Tryz.isAgg114
  z37 := Tryz.sizeOf114
  v37 := Tryz.zeroValue114
  t46 := Tryz.underlying209
  a46 := Tryz.isAgg209
  z46 := Tryz.sizeOf209
  v46 := Tryz.zeroValue209
  t51 := Tryz.underlying207
  a51 := Tryz.isAgg207
  z51 := Tryz.sizeOf207
  v51 := Tryz.zeroValue207
  t53 := Tryz.underlying200
  a53 := Tryz.isAgg200
  z53 := Tryz.sizeOf200
  v53 := Tryz.zeroValue200
  t171 := Tryz.underlying199
  a171 := Tryz.isAgg199
  z171 := Tryz.sizeOf199
  v171 := Tryz.zeroValue199
  t173 := Tryz.underlying203
  a173 := Tryz.isAgg203
  z173 := Tryz.sizeOf203
  v173 := Tryz.zeroValue203
  t212 := Tryz.underlying206
  a212 := Tryz.isAgg206
  z212 := Tryz.sizeOf206
  v212 := Tryz.zeroValue206
  t213 := Tryz.underlying208
  a213 := Tryz.isAgg208
  z213 := Tryz.sizeOf208
  t232 := Tryz.underlying212
  a232 := Tryz.isAgg212
  z232 := Tryz.sizeOf212
  v232 := Tryz.zeroValue212
  t233 := Tryz.underlying213
  a233 := Tryz.isAgg213
  z233 := Tryz.sizeOf213
  v233 := Tryz.zeroValue213
  g17 := by kernel_rfl
  g18 := by kernel_rfl
  g19 := by kernel_rfl
  i0 := by kernel_rfl
  i2 := by kernel_rfl
  i3 := by kernel_rfl
  i4 := by kernel_rfl
  i5 := by kernel_rfl
  i9 := by kernel_rfl
  i20 := by kernel_rfl
  i37 := by kernel_rfl
  i46 := by kernel_rfl
  i51 := by kernel_rfl
  i53 := by kernel_rfl
  i171 := by kernel_rfl
  i173 := by kernel_rfl
  i212 := by kernel_rfl
  i232 := by kernel_rfl
  i233 := by kernel_rfl
  m17 := by kernel_rfl
  m18 := by kernel_rfl
  m19 := by kernel_rfl }
end Go.Proofs
namespace Go.Proofs.YtgipjjhkhfihpaaGreatDoor
open Go.RowKit

/-- The library's table of powers of ten, where the program's start laid it. -/
def TabAt (w : World) : Prop := Lib.TabIs Tryz.prog w "internal/strconv.uint64pow10" .u64 Lib.pow10Tab
theorem below_grow (w : World) (k : Nat) (os : Array Obj) : Below w.heap.size w (Sort.grow (w.drewN k) os) := by
  have h := below_drewN (Below.refl w.heap.size w) k
  refine ⟨h.os, h.tape, h.output, ?_, fun i hi => ?_⟩
  · have h2 := h.size
    show w.heap.size ≤ ((w.drewN k).heap ++ os).size
    rw [Array.size_append]; omega
  · show ((w.drewN k).heap ++ os)[i]? = _
    rw [Array.getElem?_append_left (Nat.lt_of_lt_of_le hi h.size)]
    exact h.block i hi
theorem itoa_any (n : Int) (h0 : -9223372036854775808 ≤ n) (h1 : n ≤ 9223372036854775807) (w : World) (ht : TabAt w) :
    Calls Tryz.prog 94 #[.int .i64 n] w fun e w' => e = .returned (.string ⟨(Lib.itoa n).toArray⟩) ∧ Below w.heap.size w w' :=
  (Any.strconv_Itoa Tryz.laysItoa n h0 h1 w ht).mono fun e w' ⟨he, k, os, hw⟩ => ⟨he, by rw [hw]; exact below_grow w k os⟩
end Go.Proofs.YtgipjjhkhfihpaaGreatDoor

namespace Go.Proofs.YtgipjjhkhfihpaaGreatDoor
open Go.RowKit

/-! ### The lines of a proof's text -/
theorem TabAt.later {w w' : World} (h : TabAt w) (hb : Below w.heap.size w w') : TabAt w' := Lib.tabBelow_of_tabIs h w' hb
def resLine (s : Stp) : List UInt8 := [114, 32] ++ Lib.itoa s.first ++ [32] ++ Lib.itoa s.second ++ [32] ++ Lib.itoa s.var ++ [10]
theorem resLine_bytes (a b c : List UInt8) : ByteArray.mk #[114, 32] ++ ByteArray.mk a.toArray ++ ByteArray.mk #[32] ++ ByteArray.mk b.toArray ++ ByteArray.mk #[32] ++ ByteArray.mk c.toArray ++ ByteArray.mk #[10] = ByteArray.mk ([114, 32] ++ a ++ [32] ++ b ++ [32] ++ c ++ [10]).toArray := by
  rw [show (ByteArray.mk #[114, 32]) = ByteArray.mk ([114, 32] : List UInt8).toArray from rfl, show (ByteArray.mk #[32]) = ByteArray.mk ([32] : List UInt8).toArray from rfl, show (ByteArray.mk #[10]) = ByteArray.mk ([10] : List UInt8).toArray from rfl]
  simp only [ba_append]
set_option maxRecDepth 100000 in
set_option maxHeartbeats 1600000 in
theorem resolventLine_any (s : Stp) (w : World) (ht : TabAt w) (h1 : s.first ≤ 1048576) (h2 : s.second ≤ 1048576) (h3 : s.var ≤ 1048576) :
    Calls Tryz.prog 96 #[StpV s] w fun e w' => e = .returned (.string ⟨(resLine s).toArray⟩) ∧ Below w.heap.size w w' := by
  obtain ⟨sr, sf, ss, sv, l1, l2⟩ := s
  dsimp only at h1 h2 h3 ⊢
  have HR : Hid (resLine ⟨sr, sf, ss, sv, (l1, l2)⟩ = [114, 32] ++ Lib.itoa (sf : Int) ++ [32] ++ Lib.itoa (ss : Int) ++ [32] ++ Lib.itoa (sv : Int) ++ [10]) := hide rfl
  go_enter Tryz.func96, Tryz.ntmps96
  go_wp2_with fail
  generalize hw0 : (w.alloc (.cells #[.int .i64 (sr : Int), .int .i64 (sf : Int), .int .i64 (ss : Int), .int .i64 (sv : Int), .int .i64 (l1 : Int), .int .i64 (l2 : Int)] 134)) = u1
  have hB : Below w.heap.size w u1 := by rw [← hw0]; exact (Below.refl _ _).alloc (Nat.le_refl _) _
  have hst : u1.heap[w.heap.size]? = some (.cells #[.int .i64 (sr : Int), .int .i64 (sf : Int), .int .i64 (ss : Int), .int .i64 (sv : Int), .int .i64 (l1 : Int), .int .i64 (l2 : Int)] 134 (0, 0)) := by rw [← hw0]; exact alloc_new_at (by simp)
  clear hw0
  have cst0 : u1.cell? ⟨w.heap.size, 0, none⟩ = some (.int .i64 (sr : Int)) := by rw [blk_cell hst]; rfl
  have cst1 : u1.cell? ⟨w.heap.size, 1, none⟩ = some (.int .i64 (sf : Int)) := by rw [blk_cell hst]; rfl
  have cst2 : u1.cell? ⟨w.heap.size, 2, none⟩ = some (.int .i64 (ss : Int)) := by rw [blk_cell hst]; rfl
  have cst3 : u1.cell? ⟨w.heap.size, 3, none⟩ = some (.int .i64 (sv : Int)) := by rw [blk_cell hst]; rfl
  have cst4 : u1.cell? ⟨w.heap.size, 4, none⟩ = some (.int .i64 (l1 : Int)) := by rw [blk_cell hst]; rfl
  have cst5 : u1.cell? ⟨w.heap.size, 5, none⟩ = some (.int .i64 (l2 : Int)) := by rw [blk_cell hst]; rfl
  have lst := blk_lt hst
  have ht0 := ht.later hB
  refine (itoa_any (sf : Int) (by omega) (by omega) _ ht0).mono ?_
  rintro e u2 ⟨rfl, b2⟩
  replace hB := hB.trans (b2.mono hB.size)
  replace hst := (b2.block _ (blk_lt hst)).trans hst
  replace cst0 : u2.cell? ⟨w.heap.size, 0, none⟩ = some (.int .i64 (sr : Int)) := by rw [blk_cell hst]; rfl
  replace cst1 : u2.cell? ⟨w.heap.size, 1, none⟩ = some (.int .i64 (sf : Int)) := by rw [blk_cell hst]; rfl
  replace cst2 : u2.cell? ⟨w.heap.size, 2, none⟩ = some (.int .i64 (ss : Int)) := by rw [blk_cell hst]; rfl
  replace cst3 : u2.cell? ⟨w.heap.size, 3, none⟩ = some (.int .i64 (sv : Int)) := by rw [blk_cell hst]; rfl
  replace cst4 : u2.cell? ⟨w.heap.size, 4, none⟩ = some (.int .i64 (l1 : Int)) := by rw [blk_cell hst]; rfl
  replace cst5 : u2.cell? ⟨w.heap.size, 5, none⟩ = some (.int .i64 (l2 : Int)) := by rw [blk_cell hst]; rfl
  replace lst := blk_lt hst
  have hx0 := Lib.itoa_length_le (sf : Int) (by omega) (by omega)
  generalize Lib.itoa (sf : Int) = x0 at *
  go_wp2_with fail
  have ht1 := ht.later hB
  refine (itoa_any (ss : Int) (by omega) (by omega) _ ht1).mono ?_
  rintro e u3 ⟨rfl, b3⟩
  replace hB := hB.trans (b3.mono hB.size)
  replace hst := (b3.block _ (blk_lt hst)).trans hst
  replace cst0 : u3.cell? ⟨w.heap.size, 0, none⟩ = some (.int .i64 (sr : Int)) := by rw [blk_cell hst]; rfl
  replace cst1 : u3.cell? ⟨w.heap.size, 1, none⟩ = some (.int .i64 (sf : Int)) := by rw [blk_cell hst]; rfl
  replace cst2 : u3.cell? ⟨w.heap.size, 2, none⟩ = some (.int .i64 (ss : Int)) := by rw [blk_cell hst]; rfl
  replace cst3 : u3.cell? ⟨w.heap.size, 3, none⟩ = some (.int .i64 (sv : Int)) := by rw [blk_cell hst]; rfl
  replace cst4 : u3.cell? ⟨w.heap.size, 4, none⟩ = some (.int .i64 (l1 : Int)) := by rw [blk_cell hst]; rfl
  replace cst5 : u3.cell? ⟨w.heap.size, 5, none⟩ = some (.int .i64 (l2 : Int)) := by rw [blk_cell hst]; rfl
  replace lst := blk_lt hst
  have hx1 := Lib.itoa_length_le (ss : Int) (by omega) (by omega)
  generalize Lib.itoa (ss : Int) = x1 at *
  go_wp2_with fail
  have ht2 := ht.later hB
  refine (itoa_any (sv : Int) (by omega) (by omega) _ ht2).mono ?_
  rintro e u4 ⟨rfl, b4⟩
  replace hB := hB.trans (b4.mono hB.size)
  replace hst := (b4.block _ (blk_lt hst)).trans hst
  replace cst0 : u4.cell? ⟨w.heap.size, 0, none⟩ = some (.int .i64 (sr : Int)) := by rw [blk_cell hst]; rfl
  replace cst1 : u4.cell? ⟨w.heap.size, 1, none⟩ = some (.int .i64 (sf : Int)) := by rw [blk_cell hst]; rfl
  replace cst2 : u4.cell? ⟨w.heap.size, 2, none⟩ = some (.int .i64 (ss : Int)) := by rw [blk_cell hst]; rfl
  replace cst3 : u4.cell? ⟨w.heap.size, 3, none⟩ = some (.int .i64 (sv : Int)) := by rw [blk_cell hst]; rfl
  replace cst4 : u4.cell? ⟨w.heap.size, 4, none⟩ = some (.int .i64 (l1 : Int)) := by rw [blk_cell hst]; rfl
  replace cst5 : u4.cell? ⟨w.heap.size, 5, none⟩ = some (.int .i64 (l2 : Int)) := by rw [blk_cell hst]; rfl
  replace lst := blk_lt hst
  have hx2 := Lib.itoa_length_le (sv : Int) (by omega) (by omega)
  generalize Lib.itoa (sv : Int) = x2 at *
  go_wp2_with fail
  have HE := hide (resLine_bytes x0 x1 x2)
  go_ret
  exact ⟨by rw [unhide HE, unhide HR]; rfl, hB⟩

def litsLine (l : List Int) : List UInt8 := l.flatMap (fun x => 32 :: Lib.itoa x)
theorem litsLine_snoc (l : List Int) (x : Int) : litsLine (l ++ [x]) = litsLine l ++ 32 :: Lib.itoa x := by simp [litsLine]
def cubeLn (s : Stp) : List UInt8 := [99] ++ litsLine (listOf s.lits) ++ [10]
theorem cube_bytes (a b : List UInt8) : ByteArray.mk ([99] ++ a).toArray ++ (ByteArray.mk #[32] ++ ByteArray.mk b.toArray) = ByteArray.mk ([99] ++ (a ++ 32 :: b)).toArray := by
  rw [show (ByteArray.mk #[32]) = ByteArray.mk ([32] : List UInt8).toArray from rfl, ba_append, ba_append]; simp
theorem cube_end (a : List UInt8) : ByteArray.mk ([99] ++ a).toArray ++ ByteArray.mk #[10] = ByteArray.mk ([99] ++ a ++ [10]).toArray := by
  rw [show (ByteArray.mk #[10]) = ByteArray.mk ([10] : List UInt8).toArray from rfl, ba_append]
theorem intsI_at (l : List Int) (k : Nat) (h : k < l.length) : (intsI l)[k]? = some (.int .i64 l[k]) := by simp [intsI, h]
theorem listOf_bd (c : Nat × Nat) : ∀ x ∈ listOf c, -8 ≤ x ∧ x ≤ 8 := listFrom_bd c 8 1 (by decide) (by decide)
set_option maxRecDepth 100000 in
set_option maxHeartbeats 1600000 in
theorem cubeLine_any (s : Stp) (w : World) (ht : TabAt w) (hl : s.lits.1 < 512 ∧ s.lits.2 < 512) :
    Calls Tryz.prog 95 #[StpV s] w fun e w' => e = .returned (.string ⟨(cubeLn s).toArray⟩) ∧ Below w.heap.size w w' := by
  obtain ⟨sr, sf, ss, sv, l1, l2⟩ := s
  dsimp only at hl ⊢
  have HR : Hid (cubeLn ⟨sr, sf, ss, sv, (l1, l2)⟩ = [99] ++ litsLine (listOf (l1, l2)) ++ [10]) := hide rfl
  have hbd := listOf_bd (l1, l2)
  have hll : (listOf (l1, l2)).length ≤ 16 := listFrom_len (l1, l2) 8 1
  go_enter Tryz.func95, Tryz.ntmps95
  go_wp2_with fail
  generalize hw0 : (w.alloc (.cells #[.int .i64 (sr : Int), .int .i64 (sf : Int), .int .i64 (ss : Int), .int .i64 (sv : Int), .int .i64 (l1 : Int), .int .i64 (l2 : Int)] 134)) = u1
  have hB : Below w.heap.size w u1 := by rw [← hw0]; exact (Below.refl _ _).alloc (Nat.le_refl _) _
  have hst : u1.heap[w.heap.size]? = some (.cells #[.int .i64 (sr : Int), .int .i64 (sf : Int), .int .i64 (ss : Int), .int .i64 (sv : Int), .int .i64 (l1 : Int), .int .i64 (l2 : Int)] 134 (0, 0)) := by rw [← hw0]; exact alloc_new_at (by simp)
  clear hw0
  have cst0 : u1.cell? ⟨w.heap.size, 0, none⟩ = some (.int .i64 (sr : Int)) := by rw [blk_cell hst]; rfl
  have cst1 : u1.cell? ⟨w.heap.size, 1, none⟩ = some (.int .i64 (sf : Int)) := by rw [blk_cell hst]; rfl
  have cst2 : u1.cell? ⟨w.heap.size, 2, none⟩ = some (.int .i64 (ss : Int)) := by rw [blk_cell hst]; rfl
  have cst3 : u1.cell? ⟨w.heap.size, 3, none⟩ = some (.int .i64 (sv : Int)) := by rw [blk_cell hst]; rfl
  have cst4 : u1.cell? ⟨w.heap.size, 4, none⟩ = some (.int .i64 (l1 : Int)) := by rw [blk_cell hst]; rfl
  have cst5 : u1.cell? ⟨w.heap.size, 5, none⟩ = some (.int .i64 (l2 : Int)) := by rw [blk_cell hst]; rfl
  have lst := blk_lt hst
  refine (list_any l1 l2 _ hl.1 hl.2).mono ?_
  rintro e u2 ⟨vL, rfl, hrow, b2⟩
  replace hB := hB.trans (b2.mono hB.size)
  replace hst := (b2.block _ (blk_lt hst)).trans hst
  replace cst0 : u2.cell? ⟨w.heap.size, 0, none⟩ = some (.int .i64 (sr : Int)) := by rw [blk_cell hst]; rfl
  replace cst1 : u2.cell? ⟨w.heap.size, 1, none⟩ = some (.int .i64 (sf : Int)) := by rw [blk_cell hst]; rfl
  replace cst2 : u2.cell? ⟨w.heap.size, 2, none⟩ = some (.int .i64 (ss : Int)) := by rw [blk_cell hst]; rfl
  replace cst3 : u2.cell? ⟨w.heap.size, 3, none⟩ = some (.int .i64 (sv : Int)) := by rw [blk_cell hst]; rfl
  replace cst4 : u2.cell? ⟨w.heap.size, 4, none⟩ = some (.int .i64 (l1 : Int)) := by rw [blk_cell hst]; rfl
  replace cst5 : u2.cell? ⟨w.heap.size, 5, none⟩ = some (.int .i64 (l2 : Int)) := by rw [blk_cell hst]; rfl
  replace lst := blk_lt hst
  generalize listOf (l1, l2) = ls at *
  have HBD := hide hbd
  clear hbd
  obtain ⟨aL, cL, rfl⟩ := own_form hrow
  go_wp2_with fail
  go_loopg [3, 10] (ls.length) (fun m sv i wx => ∃ (k : Nat) (bs : List UInt8), sv = .string ⟨bs.toArray⟩ ∧ i = .int .i64 k ∧ k + m = ls.length ∧ bs = [99] ++ litsLine (ls.take k) ∧ bs.length ≤ 1 + 22 * k ∧ Below w.heap.size w wx ∧ Below u2.heap.size u2 wx)
  case atStart => exact ⟨0, [99], rfl, rfl, by omega, rfl, by decide, hB, Below.refl _ _⟩
  case round =>
    obtain ⟨k, bs, rfl, rfl, hkm, hbs, hbl, hbw, hbu⟩ := hrel
    have HBS := hide hbs
    clear hbs
    by_cases hlt : k < ls.length
    · have hd3 : decide ((k : Int) < (ls.length : Int)) = true := decide_eq_true (by omega)
      have hd4 : decide (k < ls.length) = true := decide_eq_true hlt
      obtain ⟨g, cap, hVe, _, hg', _, hcell⟩ := own_pos (own_below hrow hbu) (by omega)
      injection hVe with hVe _ hV2
      subst hVe hV2
      have hx := hcell _ _ (intsI_at ls k hlt)
      have hb8 := unhide HBD _ (List.getElem_mem hlt)
      have HTK := hide (List.take_succ_eq_append_getElem hlt)
      clear hcell
      generalize ls[k] = x at *
      have htr := ht.later hbw
      have hxl := Lib.itoa_length_le x (by omega) (by omega)
      go_wp2_with fail
      refine (itoa_any x (by omega) (by omega) _ htr).mono ?_
      rintro e u9 ⟨rfl, b9⟩
      have HSN := hide (litsLine_snoc (ls.take k) x)
      generalize Lib.itoa x = y at *
      have HE := hide (cube_bytes (litsLine (ls.take k)) y)
      rw [← unhide HBS] at HE
      have HN : Hid ([99] ++ (litsLine (ls.take k) ++ 32 :: y) = [99] ++ litsLine (ls.take (k + 1))) := hide (by rw [unhide HTK, unhide HSN])
      go_wp2_with fail
      go_roundg (gk - 1)
      case measure => omega
      case rel => exact ⟨k + 1, [99] ++ (litsLine (ls.take k) ++ 32 :: y), by rw [unhide HE], by go_num, by omega, unhide HN, by rw [← List.append_assoc, ← unhide HBS, List.length_append, List.length_cons]; omega, hbw.trans (b9.mono hbw.size), hbu.trans (b9.mono hbu.size)⟩
    · have hd3 : decide ((k : Int) < (ls.length : Int)) = false := decide_eq_false (by omega)
      have hd4 : decide (k < ls.length) = false := decide_eq_false hlt
      have HN : Hid (bs = [99] ++ litsLine ls) := hide (by rw [unhide HBS, List.take_of_length_le (by omega)])
      have HE := hide (cube_end (litsLine ls))
      rw [← unhide HN] at HE
      go_wp2_with fail
      go_ret
      exact ⟨by rw [unhide HE, unhide HR, ← unhide HN]; rfl, hbw⟩
end Go.Proofs.YtgipjjhkhfihpaaGreatDoor
