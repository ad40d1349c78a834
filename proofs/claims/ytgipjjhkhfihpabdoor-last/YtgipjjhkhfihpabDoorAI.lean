import Derived.Test.YtgipjjhkhfihpabDoorAG
import Derived.Test.YtgipjjhkhfihpabDoorAH
import Derived.Test.YtgipjjhkhfihpabDoorAA
import Derived.Test.YtgipjjhkhfihpabDoorAC
import Derived.Test.YtgipjjhkhfihpabDoorAD
namespace Go.Proofs.YtgipjjhkhfihpabDoor
open Go.RowKit

/-! ### Units, as the document counts them -/
def sing (u : Nat) (s : Bool) : Nat × Nat := if s then (2 ^ u, 0) else (0, 2 ^ u)
theorem L_sing (u : Nat) (s t : Bool) (v : Nat) : L (sing u s) t v = (t == s && decide (v = u)) := by
  unfold sing
  cases s <;> cases t <;> simp [L, Nat.testBit_two_pow, eq_comm]
theorem pow_of_one : ∀ p : Fin 512, p.val ≠ 0 → p.val &&& (p.val - 1) = 0 → ∃ v : Fin 9, p.val = 2 ^ v.val := by decide +kernel
theorem sing_one : ∀ (u : Fin 9), 1 ≤ u.val → (listOf (sing u.val true) = [(u.val : Int)] ∧ oneB (sing u.val true).1 (sing u.val true).2 = true) ∧ (listOf (sing u.val false) = [-(u.val : Int)] ∧ oneB (sing u.val false).1 (sing u.val false).2 = true) := by decide +kernel
theorem sing_list (u : Nat) (s : Bool) (h1 : 1 ≤ u) (h8 : u ≤ 8) : listOf (sing u s) = [litI u s] ∧ oneB (sing u s).1 (sing u s).2 = true := by
  have := sing_one ⟨u, by omega⟩ h1
  cases s
  · exact this.2
  · exact this.1
/-- The values: no variable both ways; of the formula's variables. -/
structure VOk (q : QS) (vals : Nat × Nat) : Prop where
  free : Free vals
  lok : LOk q vals
theorem dead_conf {q : QS} {uni : Nat × Nat} {t n : Nat} (hv : VOk q (t, n)) {c : Nat × Nat} (hd : deadC t n c = true) : isConf uni (t, n) c = true := by
  unfold deadC at hd
  rw [Bool.and_eq_true, beq_iff_eq, beq_iff_eq] at hd
  have hl : leftOf c (t, n) = (0, 0) := by
    show (less c.1 n, less c.2 t) = (0, 0)
    rw [hd.1, hd.2]
  have hall : ∀ s v, L c s v = true → L (t, n) (!s) v = true := by
    intro s v hs
    have := L_left c (t, n) s v
    rw [hl, L_zero, hs] at this
    simpa using this.symm
  unfold isConf openB
  have h1 : meetsB c (t, n) = false := by
    cases h : meetsB c (t, n) with
    | false => rfl
    | true =>
      obtain ⟨s, v, a, b⟩ := (meets_iff _ _).1 h
      have h2 := hall s v a
      cases s
      · exact (hv.free v h2 b).elim
      · exact (hv.free v b h2).elim
  have h2 : clashB c = false := by
    rw [free_iff]
    intro v a b
    exact hv.free v (hall false v b) (hall true v a)
  have h3 : emptyB (minus (0, 0) uni) = true := (empty_iff _).2 (fun s v => by rw [L_minus, L_zero]; rfl)
  rw [h1, h2, hl, h3]
  rfl
theorem unit_same {q : QS} (hq : QGood q) {F : Form} (hF : FQ F q) {uni : Nat × Nat} (hu : UniOk q uni) {t n : Nat} (hv : VOk q (t, n)) {c : Nat × Nat} (hc : LOk q c) (hnd : deadC t n c = false) : unitC F.all t n c = isUnit uni (t, n) c ∧ (isUnit uni (t, n) c = true → ∃ u s, 1 ≤ u ∧ u ≤ 8 ∧ leftOf c (t, n) = sing u s) := by
  have hll : LOk q (leftOf c (t, n)) := lok_sub hc ⟨less_lt9 _ _ hc.bd.1, less_lt9 _ _ hc.bd.2⟩ (fun s v h => by rw [L_left, Bool.and_eq_true] at h; exact h.1)
  have hback : isUnit uni (t, n) c = true → ∃ u s, 1 ≤ u ∧ u ≤ 8 ∧ leftOf c (t, n) = sing u s := by
    intro h
    unfold isUnit at h
    rw [Bool.and_eq_true, Bool.and_eq_true, beq_iff_eq] at h
    obtain ⟨u, s, h1, h8, _, hL, hone⟩ := list_one h.2.1
    refine ⟨u, s, h1, h8, L_ext (fun t' v => ?_)⟩
    rw [L_sing]
    cases hh : L (leftOf c (t, n)) t' v with
    | true =>
      have hn := hq.name (hll.vars t' v hh)
      obtain ⟨rfl, rfl⟩ := hone t' v hn.1 hn.2 hh
      simp
    | false =>
      by_cases e : v = u
      · subst e
        by_cases e2 : t' = s
        · subst e2; rw [hL] at hh; cases hh
        · simp [e2]
      · simp [e]
  refine ⟨?_, hback⟩
  have hopen : ∀ u s, 1 ≤ u → u ≤ 8 → leftOf c (t, n) = sing u s → (openB c (t, n) = true ↔ (less c.1 n &&& t = 0 ∧ less c.2 t &&& n = 0)) := by
    intro u s h1 h8 hl
    have e1 : less c.1 n = (sing u s).1 := congrArg Prod.fst hl
    have e2 : less c.2 t = (sing u s).2 := congrArg Prod.snd hl
    have hm : (less c.1 n &&& t = 0 ∧ less c.2 t &&& n = 0) ↔ L (t, n) s u = false := by
      rw [e1, e2]
      cases s
      · simp only [sing, Bool.false_eq_true, if_false, Nat.zero_and, true_and, L]
        rw [Nat.and_comm, ← Bool.not_eq_true, ← and_pow_ne, bne_iff_ne, Decidable.not_not]
      · simp only [sing, if_true, Nat.zero_and, and_true, L]
        rw [Nat.and_comm, ← Bool.not_eq_true, ← and_pow_ne, bne_iff_ne, Decidable.not_not]
    rw [hm]
    have hin : L c s u = true ∧ L (t, n) (!s) u = false := by
      have := L_left c (t, n) s u
      rw [hl, L_sing] at this
      simp at this
      exact ⟨this.1, this.2⟩
    have hoth : ∀ r v, L c r v = true → (v = u ∧ r = s) ∨ L (t, n) (!r) v = true := by
      intro r v hr
      have := L_left c (t, n) r v
      rw [hl, L_sing, hr] at this
      cases hh : L (t, n) (!r) v with
      | true => exact Or.inr rfl
      | false => rw [hh] at this; simp at this; exact Or.inl ⟨this.2, this.1⟩
    unfold openB
    rw [Bool.and_eq_true, Bool.not_eq_true', Bool.not_eq_true', free_iff]
    constructor
    · rintro ⟨h3, _⟩
      cases hh : L (t, n) s u with
      | false => rfl
      | true => rw [(meets_iff _ _).2 ⟨s, u, hin.1, hh⟩] at h3; cases h3
    · intro h3
      constructor
      · cases hme : meetsB c (t, n) with
        | false => rfl
        | true =>
          obtain ⟨r, v, a, b⟩ := (meets_iff _ _).1 hme
          rcases hoth r v a with ⟨rfl, rfl⟩ | h4
          · rw [h3] at b; cases b
          · cases r
            · exact (hv.free v h4 b).elim
            · exact (hv.free v b h4).elim
      · intro v a b
        rcases hoth true v a with ⟨rfl, rfl⟩ | h4
        · rcases hoth false v b with ⟨_, h5⟩ | h5
          · cases h5
          · have : L (t, n) true v = true := h5
            rw [h3] at this; cases this
        · rcases hoth false v b with ⟨rfl, rfl⟩ | h5
          · have : L (t, n) false v = true := h4
            rw [h3] at this; cases this
          · exact hv.free v h5 h4
  have huni : ∀ u s, 1 ≤ u → u ≤ 8 → leftOf c (t, n) = sing u s → (meetsB (leftOf c (t, n)) uni = false ↔ (less c.1 n ||| less c.2 t) &&& F.all = 0) := by
    intro u s h1 h8 hl
    have e1 : less c.1 n = (sing u s).1 := congrArg Prod.fst hl
    have e2 : less c.2 t = (sing u s).2 := congrArg Prod.snd hl
    have hmem : u ∈ q.vars.map (·.1) := hll.vars s u (by rw [hl, L_sing]; simp)
    obtain ⟨x, hx, hxe⟩ := List.mem_map.1 hmem
    have hor : (less c.1 n ||| less c.2 t) = 2 ^ u := by rw [e1, e2]; cases s <;> simp [sing]
    rw [hor, Nat.and_comm]
    have hk : F.all.testBit u = x.2 := by rw [← hxe]; exact hF.kinds x hx
    have hz : (F.all &&& 2 ^ u = 0) ↔ x.2 = false := by rw [← hk, ← Bool.not_eq_true, ← and_pow_ne, bne_iff_ne, Decidable.not_not]
    rw [hz, hl, ← Bool.not_eq_true, meets_iff]
    constructor
    · intro h
      cases hx2 : x.2 with
      | false => rfl
      | true => exact absurd ⟨s, u, by rw [L_sing]; simp, (hu s u).2 ⟨x, hx, hxe, hx2⟩⟩ h
    · rintro h ⟨r, v, a, b⟩
      rw [L_sing, Bool.and_eq_true, beq_iff_eq, decide_eq_true_eq] at a
      obtain ⟨rfl, rfl⟩ := a
      obtain ⟨y, hy, hye, hyu⟩ := (hu r v).1 b
      have := kind_one hq hy hx (by rw [hye]; exact hxe.symm)
      rw [this, h] at hyu; cases hyu
  have hsing : ∀ u s, 1 ≤ u → u ≤ 8 → leftOf c (t, n) = sing u s → unitC F.all t n c = isUnit uni (t, n) c := by
    intro u s h1 h8 hl
    obtain ⟨l1, l2⟩ := sing_list u s h1 h8
    have e1 : less c.1 n = (sing u s).1 := congrArg Prod.fst hl
    have e2 : less c.2 t = (sing u s).2 := congrArg Prod.snd hl
    have ho := hopen u s h1 h8 hl
    have hun := huni u s h1 h8 hl
    unfold unitC isUnit
    rw [show oneB (less c.1 n) (less c.2 t) = true from by rw [e1, e2]; exact l2, show (listOf (leftOf c (t, n))).length = 1 from by rw [hl, l1]; rfl]
    rw [Bool.eq_iff_iff]
    simp only [Bool.true_and, Bool.and_eq_true, beq_iff_eq, Bool.not_eq_true', beq_self_eq_true]
    rw [ho, ← hun]
    constructor
    · rintro ⟨a, b, d⟩; exact ⟨⟨b, d⟩, a⟩
    · rintro ⟨⟨b, d⟩, a⟩; exact ⟨a, b, d⟩
  cases hi : isUnit uni (t, n) c with
  | true =>
    obtain ⟨u, s, h1, h8, hl⟩ := hback hi
    rw [hsing u s h1 h8 hl]; exact hi
  | false =>
    cases hc2 : unitC F.all t n c with
    | false => rfl
    | true =>
      exfalso
      unfold unitC oneB at hc2
      simp only [Bool.and_eq_true, Bool.or_eq_true, beq_iff_eq] at hc2
      obtain ⟨⟨p1, p2, p3⟩, _⟩ := hc2
      have hnz : less c.1 n ≠ 0 ∨ less c.2 t ≠ 0 := by
        unfold deadC at hnd
        rw [Bool.and_eq_false_iff, beq_eq_false_iff_ne, beq_eq_false_iff_ne] at hnd
        exact hnd
      have hex : ∃ u s, leftOf c (t, n) = sing u s := by
        rcases p3 with h | h
        · have hne : less c.2 t ≠ 0 := by
            rcases hnz with h5 | h5
            · exact absurd h h5
            · exact h5
          obtain ⟨v, hv2⟩ := pow_of_one ⟨less c.2 t, less_lt9 _ _ hc.bd.2⟩ hne p2
          exact ⟨v.val, false, by show (less c.1 n, less c.2 t) = (0, 2 ^ v.val); rw [h]; exact congrArg _ hv2⟩
        · have hne : less c.1 n ≠ 0 := by
            rcases hnz with h5 | h5
            · exact h5
            · exact absurd h h5
          obtain ⟨v, hv2⟩ := pow_of_one ⟨less c.1 n, less_lt9 _ _ hc.bd.1⟩ hne p1
          exact ⟨v.val, true, by show (less c.1 n, less c.2 t) = (2 ^ v.val, 0); rw [h]; exact congrArg (fun z => (z, 0)) hv2⟩
      obtain ⟨u, s, hl⟩ := hex
      have hn := hq.name (hll.vars s u (by rw [hl, L_sing]; simp))
      have := hsing u s hn.1 hn.2 hl
      rw [hi] at this
      unfold unitC oneB at this
      simp_all
/-- How many variables have no value. -/
def unas (q : QS) (vals : Nat × Nat) : Nat := (q.vars.filter (fun x => !L vals true x.1 && !L vals false x.1)).length
theorem unas_lt {q : QS} (hq : QGood q) {vals : Nat × Nat} {x : Nat × Bool} (hx : x ∈ q.vars) (h1 : L vals true x.1 = false) (h2 : L vals false x.1 = false) (s : Bool) : unas q (withLit vals (litI x.1 s)) < unas q vals := by
  have hn := hq.qb.names x hx
  unfold unas
  have e : q.vars.filter (fun y => !L (withLit vals (litI x.1 s)) true y.1 && !L (withLit vals (litI x.1 s)) false y.1) = (q.vars.filter (fun y => !L vals true y.1 && !L vals false y.1)).filter (fun y => !L (withLit vals (litI x.1 s)) true y.1 && !L (withLit vals (litI x.1 s)) false y.1) := by
    rw [List.filter_filter]
    apply List.filter_congr
    intro y _
    rw [L_with _ _ _ hn.1 hn.2, L_with _ _ _ hn.1 hn.2]
    cases L vals true y.1 <;> cases L vals false y.1 <;> simp
  rw [e]
  refine List.length_filter_lt_length_iff_exists.2 ⟨x, List.mem_filter.2 ⟨hx, by rw [h1, h2]; rfl⟩, ?_⟩
  rw [L_with _ _ _ hn.1 hn.2, L_with _ _ _ hn.1 hn.2]
  cases s <;> simp
theorem unitsF_ge (cl : List (Nat × Nat)) (all : Nat) : ∀ f k t n, k ≤ (unitsF cl all f k t n).2 := by
  intro f
  induction f with
  | zero => intro k t n; exact Nat.le_refl _
  | succ f ih =>
    intro k t n
    rw [unitsF]
    split
    · exact Nat.le_refl _
    · split
      · exact Nat.le_refl _
      · exact Nat.le_trans (Nat.le_succ k) (ih _ _ _)
theorem cs_map {q : QS} : (clausesOf q []).map (litsAt (axioms q.cl)) = q.cl := by
  unfold clausesOf
  simp only [List.filter_nil, List.map_nil, List.append_nil, List.map_map]
  apply List.ext_getElem
  · simp
  · intro i h1 h2
    simp only [List.getElem_map, List.getElem_range, Function.comp]
    rw [litsAt_in _ i (by rw [axioms_len]; exact h2), axioms_at q.cl i h2]
theorem cs_pos {q : QS} : ∀ s ∈ clausesOf q [], 1 ≤ s := by
  intro s hs
  unfold clausesOf at hs
  simp only [List.filter_nil, List.map_nil, List.append_nil, List.mem_map] at hs
  obtain ⟨i, _, rfl⟩ := hs
  omega
theorem units_sim {q : QS} (hq : QGood q) {F : Form} (hF : FQ F q) {uni : Nat × Nat} (hu : UniOk q uni) : ∀ (f k t n m : Nat) (trail : List (Int × Nat)), VOk q (t, n) → unas q (t, n) < m → (unitsF q.cl F.all f k t n).1 = true →
    (unitsGo (axioms q.cl) uni (clausesOf q []) m (t, n) trail).conf ≠ 0 ∧ (unitsGo (axioms q.cl) uni (clausesOf q []) m (t, n) trail).trail.length + k ≤ trail.length + (unitsF q.cl F.all f k t n).2 := by
  intro f
  induction f with
  | zero => intro k t n m trail _ _ h; cases h
  | succ f ih =>
    intro k t n m trail hv hm h
    obtain ⟨m, rfl⟩ : ∃ m', m = m' + 1 := ⟨m - 1, by omega⟩
    have hge := unitsF_ge q.cl F.all (f + 1) k t n
    rw [unitsGo]
    by_cases hcf : confOf (axioms q.cl) uni (clausesOf q []) (t, n) ≠ 0
    · rw [if_pos hcf]
      exact ⟨hcf, by show trail.length + k ≤ _; omega⟩
    · rw [if_neg hcf]
      have hnoconf : ∀ c ∈ q.cl, isConf uni (t, n) c = false := by
        intro c hc
        cases hh : isConf uni (t, n) c with
        | false => rfl
        | true =>
          exfalso
          apply hcf
          rw [← cs_map] at hc
          obtain ⟨s, hs, rfl⟩ := List.mem_map.1 hc
          exact conf_find cs_pos hs hh
      have hnd : ∀ c ∈ q.cl, deadC t n c = false := by
        intro c hc
        cases hh : deadC t n c with
        | false => rfl
        | true => have := dead_conf (uni := uni) hv hh; rw [hnoconf c hc] at this; cases this
      have hany : q.cl.any (deadC t n) = false := by rw [List.any_eq_false]; intro c hc; rw [hnd c hc]; decide
      have hF1 : unitsF q.cl F.all (f + 1) k t n = match q.cl.find? (unitC F.all t n) with
        | none => (false, k)
        | some c => unitsF q.cl F.all f (k + 1) (t ||| less c.1 n) (n ||| less c.2 t) := by rw [unitsF, hany]; rfl
      rw [hF1] at h ⊢
      have hlok : ∀ c ∈ q.cl, LOk q c := fun c hc => ⟨hq.qb.bits c hc, hq.vars c hc⟩
      have hfind : q.cl.find? (unitC F.all t n) = q.cl.find? (isUnit uni (t, n)) := by
        have : ∀ l : List (Nat × Nat), (∀ c ∈ l, c ∈ q.cl) → l.find? (unitC F.all t n) = l.find? (isUnit uni (t, n)) := by
          intro l
          induction l with
          | nil => intro _; rfl
          | cons c l il =>
            intro hl
            rw [List.find?_cons, List.find?_cons, (unit_same hq hF hu hv (hlok c (hl c (by simp))) (hnd c (hl c (by simp)))).1, il (fun x hx => hl x (by simp [hx]))]
        exact this q.cl (fun _ h => h)
      cases hfd : q.cl.find? (unitC F.all t n) with
      | none => rw [hfd] at h; cases h
      | some c =>
        rw [hfd] at h
        dsimp only at h ⊢
        rw [hfind] at hfd
        have hcm := List.mem_of_find?_eq_some hfd
        have hci := List.find?_some hfd
        have hcs : ∃ s, (clausesOf q []).find? (fun s => isUnit uni (t, n) (litsAt (axioms q.cl) s)) = some s ∧ litsAt (axioms q.cl) s = c := by
          have h5 := hfd
          rw [← cs_map (q := q), List.find?_map] at h5
          cases hg : (clausesOf q []).find? (isUnit uni (t, n) ∘ litsAt (axioms q.cl)) with
          | none => rw [hg] at h5; cases h5
          | some s => rw [hg] at h5; injection h5 with h5; exact ⟨s, hg, h5⟩
        obtain ⟨s, hs1, hs2⟩ := hcs
        have hspos := cs_pos s (List.mem_of_find?_eq_some hs1)
        obtain ⟨u, sg, hu1, hu8, hl⟩ := (unit_same hq hF hu hv (hlok c hcm) (hnd c hcm)).2 hci
        have hun : unitOf (axioms q.cl) uni (clausesOf q []) (t, n) = (litI u sg, s) := by
          unfold unitOf
          rw [hs1]
          dsimp only
          rw [hs2, hl, (sing_list u sg hu1 hu8).1]
          rfl
        rw [hun, if_neg (by show ¬ s = 0; omega)]
        dsimp only
        have e1 : less c.1 n = (sing u sg).1 := congrArg Prod.fst hl
        have e2 : less c.2 t = (sing u sg).2 := congrArg Prod.snd hl
        have hw : withLit (t, n) (litI u sg) = (t ||| less c.1 n, n ||| less c.2 t) := by
          rw [e1, e2]
          apply L_ext
          intro r v
          rw [L_with _ _ _ hu1 hu8]
          cases sg <;> cases r <;> simp [L, sing, Nat.testBit_two_pow, eq_comm]
        have hnone : L (t, n) true u = false ∧ L (t, n) false u = false ∧ ∃ x ∈ q.vars, x.1 = u := by
          have h6 := L_left c (t, n) sg u
          rw [hl, L_sing] at h6
          simp at h6
          have h7 : L (t, n) sg u = false := by
            unfold isUnit openB at hci
            rw [Bool.and_eq_true, Bool.and_eq_true, Bool.not_eq_true'] at hci
            cases hh : L (t, n) sg u with
            | false => rfl
            | true => have h9 := hci.1.1; rw [(meets_iff _ _).2 ⟨sg, u, h6.1, hh⟩] at h9; cases h9
          obtain ⟨x, hx, hxe⟩ := List.mem_map.1 ((hlok c hcm).vars sg u h6.1)
          refine ⟨?_, ?_, x, hx, hxe⟩
          · cases sg
            · exact h6.2
            · exact h7
          · cases sg
            · exact h7
            · exact h6.2
        obtain ⟨hn1, hn2, x, hx, hxe⟩ := hnone
        have hv' : VOk q (withLit (t, n) (litI u sg)) := by
          refine ⟨with_free hu1 hu8 hv.free (by cases sg <;> assumption), with_bd _ _ hv.lok.bd, fun r v hr => ?_⟩
          rw [L_with _ _ _ hu1 hu8, Bool.or_eq_true, Bool.and_eq_true] at hr
          rcases hr with hr | ⟨_, hr⟩
          · exact hv.lok.vars r v hr
          · rw [of_decide_eq_true hr, ← hxe]; exact List.mem_map_of_mem hx
        have hlt : unas q (withLit (t, n) (litI u sg)) < unas q (t, n) := by
          have := unas_lt hq hx (by rw [hxe]; exact hn1) (by rw [hxe]; exact hn2) sg
          rwa [hxe] at this
        rw [hw] at hv' hlt ⊢
        have := ih (k + 1) _ _ m (trail ++ [(litI u sg, s)]) hv' (by omega) h
        refine ⟨this.1, ?_⟩
        have h8 := this.2
        simp only [List.length_append, List.length_cons, List.length_nil] at h8
        omega
end Go.Proofs.YtgipjjhkhfihpabDoor

namespace Go.Proofs.YtgipjjhkhfihpabDoor
open Go.RowKit

theorem look_inl {C : SC} {m : Nat} {path : Nat × Nat} {d : Nat} {s : SS} {r : SS × (Nat × Nat)} (h : nodeOf C s path = .inl r) : lookM C m path d s = r := by
  cases m with
  | zero => rw [lookM, h]
  | succ m => rw [lookM, h]
theorem twos_axioms (cl : List (Nat × Nat)) : twos (axioms cl) = 0 := by
  unfold twos axioms
  rw [List.length_eq_zero_iff, List.filter_eq_nil_iff]
  intro s hs
  obtain ⟨c, _, rfl⟩ := List.mem_map.1 hs
  simp
/-- P7: where units leave a clause all false: one node, few steps. -/
theorem solve_units {F : Form} {q : QS} (hq : QGood q) (hF : FQ F q) (budget room : Nat) (h : (unitsR F).1 = true) : (solveM q budget room).2.1 = 1 ∧ (solveM q budget room).1.nodes = 1 ∧ twos (solveM q budget room).1.ref ≤ (unitsR F).2 := by
  have hun : unitsR F = unitsF q.cl F.all 1024 0 0 0 := by unfold unitsR; rw [hF.cl]
  rw [hun] at h ⊢
  have hz : VOk q (0, 0) := ⟨fun v a => (by rw [L_zero] at a; cases a), lok_zero q⟩
  have hlt : unas q (0, 0) < q.vars.length + 1 := Nat.lt_succ_of_le (List.length_filter_le _ _)
  obtain ⟨h1, h2⟩ := units_sim hq hF (uni_ok hq) 1024 0 0 0 (q.vars.length + 1) [] hz hlt h
  have hS1 := nodes_inv (begin_inv hq budget room) 1
  have hU : unitsOf (beginC q budget room) { beginS q with nodes := 1 } (0, 0) = unitsGo (axioms q.cl) (uniTo q.vars (0, 0)) (clausesOf q []) (q.vars.length + 1) (0, 0) [] := rfl
  have hc : (unitsOf (beginC q budget room) { beginS q with nodes := 1 } (0, 0)).conf ≠ 0 := by rw [hU]; exact h1
  have hex := explain_ok (C := beginC q budget room) hq (uni_ok hq) hS1 (path_zero q) hc
  have hn : nodeOf (beginC q budget room) (beginS q) (0, 0) = .inl (explain (beginC q budget room) { beginS q with nodes := 1 } (unitsOf (beginC q budget room) { beginS q with nodes := 1 } (0, 0))) := by
    have hb : ¬ (0 < (beginC q budget room).budget ∧ (beginC q budget room).budget ≤ (beginS q).nodes) := by
      show ¬ (0 < budget ∧ budget ≤ 0)
      omega
    rw [nodeOf, if_neg hb]
    dsimp only
    exact if_pos hc
  have hl : solveM q budget room = explain (beginC q budget room) { beginS q with nodes := 1 } (unitsOf (beginC q budget room) { beginS q with nodes := 1 } (0, 0)) := look_inl hn
  rw [hl]
  refine ⟨hex.2.2.2.2.2.1, hex.2.2.2.1, ?_⟩
  have h3 := hex.2.2.2.2.2.2
  have h4 : twos ({ beginS q with nodes := 1 } : SS).ref = 0 := twos_axioms q.cl
  rw [h4] at h3
  have h5 : (unitsOf (beginC q budget room) { beginS q with nodes := 1 } (0, 0)).trail.length ≤ (unitsF q.cl F.all 1024 0 0 0).2 := by
    rw [hU]
    simpa using h2
  rw [Nat.zero_add] at h3
  exact Nat.le_trans h3 h5

/-! ### What is told -/
/-- The verdict: kind, nodes, lemmas, text. -/
structure Vd where
  kind : Nat
  nodes : Nat
  lemmas : Nat
  text : List UInt8
def verdict (q : QS) (budget room : Nat) : Vd :=
  let r := solveM q budget room
  ⟨r.2.1, r.1.nodes, r.1.most, if r.2.1 = 0 then [] else textP (r.2.1 == 2) (shortOf (r.1.proof r.2.1) r.2.2)⟩
end Go.Proofs.YtgipjjhkhfihpabDoor

namespace Go.Proofs.YtgipjjhkhfihpabDoor
open Go.RowKit

/-! ### Verdicts of texts -/
theorem kgood {F : Form} {q : QS} (h : FQ F q) (hb : QB q) : QGood q :=
  ⟨hb, h.nodup, fun c hc s v hl => by
    rw [← h.order]
    refine h.vars c hc v ?_
    cases s with
    | true => exact Or.inl hl
    | false => exact Or.inr hl⟩
/-- A text that was read: the formula on both sides. -/
theorem load_good {l : List UInt8} {q : QS} (h : loadSpec l = .inr q) : QGood q ∧ ∃ F, readSpec l = .inr F ∧ FQ F q ∧ FOk F := by
  have hs := spec_eq l
  rw [h] at hs
  obtain ⟨st, q0, h1, h2, rfl, h3, h4⟩ := hs
  obtain ⟨f1, f2, f3⟩ := fq_of h2 h4 h3
  exact ⟨kgood f1 (qb_of h4 h3), finish st, h1, f1, f2⟩
/-- What holds of a verdict whose budget is not told. -/
structure VFree (F : Form) (room : Nat) (v : Vd) : Prop where
  kind : v.kind = (if fromL (satB F.cl) F.all F.order 0 then 2 else 1)
  one : 1 ≤ v.nodes
  lem : v.lemmas ≤ room
  small : v.nodes ≤ 512
theorem vfree {F : Form} {q : QS} (hq : QGood q) (hF : FQ F q) (hO : FOk F) (room : Nat) : VFree F room (verdict q 0 room) := by
  have h := solve_ok hq hF hO 0 room
  have hk : (verdict q 0 room).kind = (solveM q 0 room).2.1 := rfl
  have hn : (verdict q 0 room).nodes = (solveM q 0 room).1.nodes := rfl
  have hm : (verdict q 0 room).lemmas = (solveM q 0 room).1.most := rfl
  have h0 : (solveM q 0 room).2.1 ≠ 0 := fun e => by have := (h.unknown e).1; omega
  have hvl := hq.qb.vl
  refine ⟨?_, by rw [hn]; exact h.one, by rw [hm]; exact h.lemmas, ?_⟩
  · rw [hk, proves_sound hO _ _ _ (h.proof h0).2.2.1]
    rcases h.kind with e | e | e
    · exact absurd e h0
    · rw [e]; rfl
    · rw [e]; rfl
  · rw [hn]
    have h1 := h.most
    have h3 : 2 ^ (q.vars.length + 1) ≤ 2 ^ 9 := Nat.pow_le_pow_right (by decide) (by omega)
    have h4 : (2 : Nat) ^ 9 = 512 := by decide
    omega
theorem VFree.two {F : Form} {room : Nat} {v : Vd} (h : VFree F room v) : v.kind = 1 ∨ v.kind = 2 := by
  rw [h.kind]; split
  · exact Or.inr rfl
  · exact Or.inl rfl
/-- The verdict of a text, and its proof. -/
def vkind (l : List UInt8) : Nat × List UInt8 := match loadSpec l with
  | .inl _ => (0, [])
  | .inr q => ((verdict q 0 8).kind, (verdict q 0 8).text)
theorem vkind_bad {l : List UInt8} {a : Nat × Nat} (h : loadSpec l = .inl a) : vkind l = (0, []) := by unfold vkind; rw [h]
theorem vkind_good {l : List UInt8} {q : QS} (h : loadSpec l = .inr q) : vkind l = ((verdict q 0 8).kind, (verdict q 0 8).text) := by unfold vkind; rw [h]
theorem vkind_two {l : List UInt8} {q : QS} (h : loadSpec l = .inr q) : (vkind l).1 = 1 ∨ (vkind l).1 = 2 := by
  obtain ⟨hq, F, _, hF, hO⟩ := load_good h
  rw [vkind_good h]
  exact (vfree hq hF hO 8).two
theorem vkind_nil : (vkind []).1 = 2 := by kernel_rfl
theorem vkind_c : (vkind [99, 10]).1 = 1 := by kernel_rfl
end Go.Proofs.YtgipjjhkhfihpabDoor

namespace Go.Proofs.YtgipjjhkhfihpabDoor
open Go.RowKit

/-! ### A formula's text, by its lines -/
def varsOf : List (List UInt8) → Option (List Nat)
  | [] => some []
  | w :: ws => if 0 < dig w then (varsOf ws).map ((dig w).toNat :: ·) else none
/-- A line of the prefix: its kind, its variables. -/
def prefRow (row : List UInt8) : Option (Bool × List Nat) :=
  match cutAt 32 row with
  | [] => none
  | hd :: tl => if (hd = [101] ∨ hd = [97]) ∧ tl ≠ [] then (varsOf tl).map (fun vs => (hd == [97], vs)) else none
/-- A line of a clause. -/
def clRow (row : List UInt8) : Option (Nat × Nat) :=
  match cutAt 32 row with
  | [] => none
  | hd :: tl => if hd = [99] ∧ (litsTo tl).2 = true then some (litsTo tl).1 else none
def prefs : List (List UInt8) → Option (List (Bool × List Nat))
  | [] => some []
  | r :: rs => match prefRow r, prefs rs with
    | some p, some ps => some (p :: ps)
    | _, _ => none
def cls : List (List UInt8) → Option (List (Nat × Nat))
  | [] => some []
  | r :: rs => match clRow r, cls rs with
    | some p, some ps => some (p :: ps)
    | _, _ => none
def toldP (ps : List (Bool × List Nat)) : List Nat := ps.flatMap (·.2)
def kindsP (ps : List (Bool × List Nat)) : List Bool := ps.flatMap (fun x => x.2.map (fun _ => x.1))
structure StIs (st : RS) (ps : List (Bool × List Nat)) (cs : List (Nat × Nat)) : Prop where
  cl : st.cl = cs
  told : st.told = toldP ps
  kinds : st.kinds = kindsP ps
  seen : ∀ v, st.seen.testBit v = decide (v ∈ toldP ps)
  used : ∀ v, st.used.testBit v = cs.any (fun c => (c.1 ||| c.2).testBit v)

theorem fold_bad (a : Bool) (ws : List (List UInt8)) : ∀ (p : PS), p.ok = false → (ws.foldl (varStep a) p).ok = false := by
  induction ws with
  | nil => intro p h; exact h
  | cons w ws ih => intro p h; refine ih _ ?_; simp [varStep, h]
theorem vars_fold (a : Bool) (ws : List (List UInt8)) : ∀ (p : PS), p.ok = true → p.told.Nodup → (∀ v, p.seen.testBit v = decide (v ∈ p.told)) →
    match varsOf ws with
    | none => (ws.foldl (varStep a) p).ok = false
    | some vs => if (p.told ++ vs).Nodup then (ws.foldl (varStep a) p).ok = true ∧ (ws.foldl (varStep a) p).told = p.told ++ vs ∧ (ws.foldl (varStep a) p).kinds = p.kinds ++ vs.map (fun _ => a) ∧ (∀ v, (ws.foldl (varStep a) p).seen.testBit v = decide (v ∈ p.told ++ vs)) else (ws.foldl (varStep a) p).ok = false := by
  induction ws with
  | nil =>
    intro p h1 h2 h3
    show if (p.told ++ []).Nodup then _ else _
    rw [List.append_nil, if_pos h2]
    exact ⟨h1, rfl, by simp, h3⟩
  | cons w ws ih =>
    intro p h1 h2 h3
    obtain ⟨d0, d1⟩ := dig_bd w
    obtain ⟨dn, hdn⟩ := Int.eq_ofNat_of_zero_le d0
    have hvs := varStep_eq a p w dn hdn
    rw [varsOf, List.foldl_cons, hvs, hdn]
    by_cases hz : dn = 0
    · subst hz
      rw [if_neg (by simp)]
      exact fold_bad a ws _ (by simp)
    · rw [if_pos (by omega)]
      simp only [Int.toNat_natCast]
      by_cases hs : p.seen.testBit dn = true
      · have hm : dn ∈ p.told := by rw [h3] at hs; simpa using hs
        have hbad : (ws.foldl (varStep a) ⟨p.told ++ [dn], p.kinds ++ [a], p.seen ||| 2 ^ dn, if dn = 0 ∨ p.seen.testBit dn = true then false else p.ok⟩).ok = false := fold_bad a ws _ (by rw [if_pos (Or.inr hs)])
        cases varsOf ws with
        | none => exact hbad
        | some vs =>
          simp only [Option.map_some]
          rw [if_neg]
          · exact hbad
          · intro hn
            rw [List.nodup_append] at hn
            exact hn.2.2 dn hm dn (by simp) rfl
      · have hnm : dn ∉ p.told := fun hm => hs (by rw [h3]; simpa using hm)
        have hok : (if dn = 0 ∨ p.seen.testBit dn = true then false else p.ok) = true := by rw [if_neg (by rintro (h | h); exact hz h; exact hs h)]; exact h1
        have hnd : (p.told ++ [dn]).Nodup := by
          rw [List.nodup_append]
          refine ⟨h2, by simp, ?_⟩
          intro x hx y hy e
          simp at hy; subst hy; subst e; exact hnm hx
        have hih := ih ⟨p.told ++ [dn], p.kinds ++ [a], p.seen ||| 2 ^ dn, if dn = 0 ∨ p.seen.testBit dn = true then false else p.ok⟩ hok hnd (by
          intro v
          show (p.seen ||| 2 ^ dn).testBit v = decide (v ∈ p.told ++ [dn])
          rw [Nat.testBit_or, h3, Nat.testBit_two_pow]
          by_cases e : dn = v
          · subst e; simp
          · have : (v = dn) = False := by simp [Ne.symm e]
            simp [e, this])
        cases hv : varsOf ws with
        | none => rw [hv] at hih; exact hih
        | some vs =>
          rw [hv] at hih
          dsimp only at hih
          simp only [Option.map_some]
          have e : p.told ++ [dn] ++ vs = p.told ++ dn :: vs := by simp
          have e2 : p.kinds ++ [a] ++ vs.map (fun _ => a) = p.kinds ++ (dn :: vs).map (fun _ => a) := by simp
          rw [e, e2] at hih
          exact hih

theorem toldP_snoc (ps : List (Bool × List Nat)) (x : Bool × List Nat) : toldP (ps ++ [x]) = toldP ps ++ x.2 := by simp [toldP]
theorem kindsP_snoc (ps : List (Bool × List Nat)) (x : Bool × List Nat) : kindsP (ps ++ [x]) = kindsP ps ++ x.2.map (fun _ => x.1) := by simp [kindsP]
/-- A line of the prefix. -/
theorem pref_step {st : RS} {ps : List (Bool × List Nat)} (h : StIs st ps []) (hn : (toldP ps).Nodup) (row : List UInt8) :
    match prefRow row with
    | some x => if (toldP (ps ++ [x])).Nodup then (rowStep st row).2 = true ∧ StIs (rowStep st row).1 (ps ++ [x]) [] else (rowStep st row).2 = false
    | none => clRow row = none → (rowStep st row).2 = false := by
  unfold prefRow
  cases hw : cutAt 32 row with
  | nil => intro _; unfold rowStep; rw [hw]
  | cons hd tl =>
    dsimp only
    by_cases hc : (hd = [101] ∨ hd = [97]) ∧ tl ≠ []
    · rw [if_pos hc]
      have hp := rowStep_p st row hd tl hw hc.1 h.cl hc.2
      have hf := vars_fold (hd == [97]) tl ⟨st.told, st.kinds, st.seen, true⟩ rfl (by rw [h.told]; exact hn) (by intro v; rw [h.seen, h.told])
      cases hv : varsOf tl with
      | none =>
        rw [hv] at hf
        intro _
        rw [hp]; exact hf
      | some vs =>
        rw [hv] at hf
        dsimp only [Option.map_some] at hf ⊢
        rw [toldP_snoc, ← h.told]
        by_cases hd2 : (st.told ++ vs).Nodup
        · rw [if_pos hd2] at hf ⊢
          obtain ⟨f1, f2, f3, f4⟩ := hf
          rw [hp]
          refine ⟨f1, ⟨h.cl, ?_, ?_, ?_, h.used⟩⟩
          · rw [toldP_snoc, ← h.told]; exact f2
          · rw [kindsP_snoc, ← h.kinds]; exact f3
          · intro v; rw [toldP_snoc, ← h.told]; exact f4 v
        · rw [if_neg hd2] at hf ⊢
          rw [hp]; exact hf
    · rw [if_neg hc]
      intro hcl
      by_cases h99 : hd = [99]
      · subst h99
        rw [rowStep_c st row tl hw]
        unfold clRow at hcl
        rw [hw] at hcl
        dsimp only at hcl
        cases hl : (litsTo tl).2 with
        | false => rfl
        | true => rw [if_pos ⟨rfl, hl⟩] at hcl; cases hcl
      · exact rowStep_n st row hd tl hw h99 (fun hh => hc ⟨hh.1, hh.2.2⟩)
/-- A line of a clause. -/
theorem cl_step {st : RS} {ps : List (Bool × List Nat)} {cs : List (Nat × Nat)} (h : StIs st ps cs) (row : List UInt8) (c : Nat × Nat) (hc : clRow row = some c) : (rowStep st row).2 = true ∧ StIs (rowStep st row).1 ps (cs ++ [c]) := by
  unfold clRow at hc
  cases hw : cutAt 32 row with
  | nil => rw [hw] at hc; cases hc
  | cons hd tl =>
    rw [hw] at hc
    dsimp only at hc
    split at hc
    · next hh =>
      obtain ⟨rfl, hl⟩ := hh
      have hc' : (litsTo tl).1 = c := Option.some.inj hc
      rw [rowStep_c st row tl hw, hl, hc']
      refine ⟨rfl, ⟨by rw [h.cl], h.told, h.kinds, h.seen, ?_⟩⟩
      intro v
      show (st.used ||| c.1 ||| c.2).testBit v = _
      rw [List.any_append, Nat.testBit_or, Nat.testBit_or, h.used]
      simp [Nat.testBit_or, Bool.or_assoc]
    · cases hc
theorem cl_none {st : RS} (hcl : st.cl ≠ []) (row : List UInt8) (hc : clRow row = none) : (rowStep st row).2 = false := by
  unfold clRow at hc
  cases hw : cutAt 32 row with
  | nil => unfold rowStep; rw [hw]
  | cons hd tl =>
    rw [hw] at hc
    dsimp only at hc
    by_cases h99 : hd = [99]
    · subst h99
      rw [rowStep_c st row tl hw]
      cases hl : (litsTo tl).2 with
      | false => rfl
      | true => rw [if_pos ⟨rfl, hl⟩] at hc; cases hc
    · exact rowStep_n st row hd tl hw h99 (fun hh => hcl hh.2.1)

/-- Clauses alone. -/
theorem read_cls (rows : List (List UInt8)) : ∀ (st : RS) (ps : List (Bool × List Nat)) (cs : List (Nat × Nat)) (i : Nat), StIs st ps cs → cs ≠ [] →
    match cls rows with
    | some ds => ∃ st', readRows st i rows = .inl st' ∧ StIs st' ps (cs ++ ds)
    | none => ∃ j, readRows st i rows = .inr j := by
  induction rows with
  | nil => intro st ps cs i h _; exact ⟨st, rfl, by simpa using h⟩
  | cons r rows ih =>
    intro st ps cs i h hne
    rw [cls, readRows]
    cases hc : clRow r with
    | none => rw [if_neg (by rw [cl_none (by rw [h.cl]; exact hne) r hc]; decide)]; exact ⟨_, rfl⟩
    | some c =>
      obtain ⟨h1, h2⟩ := cl_step h r c hc
      rw [if_pos h1]
      have hih := ih _ ps (cs ++ [c]) (i + 1) h2 (by simp)
      cases hd : cls rows with
      | none => rw [hd] at hih; exact hih
      | some ds =>
        rw [hd] at hih
        obtain ⟨st', e1, e2⟩ := hih
        exact ⟨st', e1, by simpa using e2⟩
/-- What a list of lines says: lines of the prefix, then of clauses. -/
def norm : List (Bool × List Nat) → List (List UInt8) → Option (List (Bool × List Nat) × List (Nat × Nat))
  | ps, [] => some (ps, [])
  | ps, r :: rs => match prefRow r with
    | some x => if (toldP (ps ++ [x])).Nodup then norm (ps ++ [x]) rs else none
    | none => (cls (r :: rs)).map (fun cs => (ps, cs))
theorem pref_not_cl (r : List UInt8) (x : Bool × List Nat) (h : prefRow r = some x) : clRow r = none := by
  unfold prefRow at h
  unfold clRow
  cases hw : cutAt 32 r with
  | nil => rfl
  | cons hd tl =>
    rw [hw] at h
    dsimp only at h ⊢
    split at h
    · next hh =>
      rw [if_neg]
      rintro ⟨h99, _⟩
      subst h99
      rcases hh.1 with h | h <;> cases h
    · cases h
theorem read_norm (rows : List (List UInt8)) : ∀ (st : RS) (ps : List (Bool × List Nat)) (i : Nat), StIs st ps [] → (toldP ps).Nodup →
    match norm ps rows with
    | some (qs, cs) => ∃ st', readRows st i rows = .inl st' ∧ StIs st' qs cs ∧ (toldP qs).Nodup
    | none => ∃ j, readRows st i rows = .inr j := by
  induction rows with
  | nil => intro st ps i h hn; exact ⟨st, rfl, h, hn⟩
  | cons r rows ih =>
    intro st ps i h hn
    have hp := pref_step h hn r
    rw [norm]
    cases hr : prefRow r with
    | some x =>
      rw [hr] at hp
      dsimp only at hp ⊢
      by_cases hd : (toldP (ps ++ [x])).Nodup
      · rw [if_pos hd] at hp ⊢
        rw [readRows, if_pos hp.1]
        exact ih _ _ _ hp.2 hd
      · rw [if_neg hd] at hp ⊢
        rw [readRows, if_neg (by rw [hp]; decide)]
        exact ⟨_, rfl⟩
    | none =>
      rw [hr] at hp
      dsimp only at hp ⊢
      cases hc : clRow r with
      | none =>
        have hcl : cls (r :: rows) = none := by rw [cls, hc]
        rw [hcl, readRows, if_neg (by rw [hp hc]; decide)]
        exact ⟨_, rfl⟩
      | some c =>
        obtain ⟨h1, h2⟩ := cl_step h r c hc
        have hih := read_cls rows _ ps [c] (i + 1) h2 (by simp)
        rw [cls, hc]
        cases hd : cls rows with
        | none =>
          rw [hd] at hih
          rw [readRows, if_pos h1]
          exact hih
        | some ds =>
          rw [hd] at hih
          obtain ⟨st', e1, e2⟩ := hih
          rw [readRows, if_pos h1]
          exact ⟨st', e1, by simpa using e2, hn⟩
theorem st0_is : StIs rs0 [] [] := ⟨rfl, rfl, rfl, fun v => by simp [rs0, toldP], fun v => by simp [rs0]⟩
/-- A TEXT IS A FORMULA, BY ITS LINES. -/
theorem readSpec_norm (l : List UInt8) : match readSpec l with
    | .inl _ => 2000 < l.length ∨ (cutAt 10 l).getLast? ≠ some [] ∨ norm [] (cutAt 10 l).dropLast = none ∨ ∃ qs cs, norm [] (cutAt 10 l).dropLast = some (qs, cs) ∧ 24 < cs.length
    | .inr F => l.length ≤ 2000 ∧ (cutAt 10 l).getLast? = some [] ∧ ∃ qs cs st, norm [] (cutAt 10 l).dropLast = some (qs, cs) ∧ cs.length ≤ 24 ∧ (toldP qs).Nodup ∧ StIs st qs cs ∧ F = finish st := by
  unfold readSpec
  by_cases hl : 2000 < l.length
  · rw [if_pos hl]; exact Or.inl hl
  · rw [if_neg hl]
    have hr := read_norm (cutAt 10 l).dropLast rs0 [] 0 st0_is (by simp [toldP])
    cases hn : norm [] (cutAt 10 l).dropLast with
    | none =>
      rw [hn] at hr
      obtain ⟨j, hj⟩ := hr
      rw [hj]
      exact Or.inr (Or.inr (Or.inl rfl))
    | some x =>
      obtain ⟨qs, cs⟩ := x
      rw [hn] at hr
      obtain ⟨st, h1, h2, h3⟩ := hr
      rw [h1]
      dsimp only
      by_cases hg : (cutAt 10 l).getLast? ≠ some []
      · rw [if_pos hg]; exact Or.inr (Or.inl hg)
      · rw [if_neg hg, h2.cl]
        by_cases h24 : 24 < cs.length
        · rw [if_pos h24]; exact Or.inr (Or.inr (Or.inr ⟨qs, cs, rfl, h24⟩))
        · rw [if_neg h24]
          exact ⟨by omega, Classical.byContradiction hg, qs, cs, st, rfl, by omega, h3, h2, rfl⟩
end Go.Proofs.YtgipjjhkhfihpabDoor

namespace Go.Proofs.YtgipjjhkhfihpabDoor

/-! ### How truth turns with a formula (ahead of the statements without the document's answer) -/
section
variable {sat sat' : Nat → Bool} {all all' : Nat}

theorem fromL_step (sat : Nat → Bool) (all v : Nat) (vs : List Nat) (t : Nat) : fromL sat all (v :: vs) t = if all.testBit v then fromL sat all vs (t ||| 2 ^ v) && fromL sat all vs t else fromL sat all vs (t ||| 2 ^ v) || fromL sat all vs t := by
  show (if fromL sat all vs (t ||| 2 ^ v) != all.testBit v then fromL sat all vs (t ||| 2 ^ v) else fromL sat all vs t) = _
  cases fromL sat all vs (t ||| 2 ^ v) <;> cases all.testBit v <;> rfl
/-- Weaker clauses, or universal variables that are existential now: what was true is. -/
theorem fromL_mono (hs : ∀ t, sat t = true → sat' t = true) : ∀ (vs : List Nat), (∀ v ∈ vs, all'.testBit v = true → all.testBit v = true) → ∀ t, fromL sat all vs t = true → fromL sat' all' vs t = true := by
  intro vs
  induction vs with
  | nil => intro _ t h; exact hs t h
  | cons v vs ih =>
    intro ha t h
    have ih' := ih (fun u hu => ha u (by simp [hu]))
    rw [fromL_step] at h ⊢
    have hv := ha v (by simp)
    cases h1 : all.testBit v with
    | true =>
      rw [h1, if_pos rfl, Bool.and_eq_true] at h
      have a1 := ih' _ h.1
      have a2 := ih' _ h.2
      rw [a1, a2]; simp
    | false =>
      have h2 : all'.testBit v = false := by
        cases h2 : all'.testBit v with
        | false => rfl
        | true => rw [hv h2] at h1; cases h1
      rw [h1, if_neg (by decide), Bool.or_eq_true] at h
      rw [h2, if_neg (by decide), Bool.or_eq_true]
      rcases h with h | h
      · exact Or.inl (ih' _ h)
      · exact Or.inr (ih' _ h)
theorem fromL_congr (hs : ∀ t, sat t = sat' t) (vs : List Nat) (ha : ∀ v ∈ vs, all.testBit v = all'.testBit v) (t : Nat) : fromL sat all vs t = fromL sat' all' vs t := by
  rw [Bool.eq_iff_iff]
  constructor
  · exact fromL_mono (fun t h => by rw [← hs]; exact h) vs (fun v hv h => by rw [ha v hv]; exact h) t
  · exact fromL_mono (fun t h => by rw [hs]; exact h) vs (fun v hv h => by rw [← ha v hv]; exact h) t
/-- What follows further in, follows further out. -/
theorem fromL_ctx (a : List Nat) {vs vs' : List Nat} (h : ∀ t, fromL sat all vs t = true → fromL sat' all vs' t = true) : ∀ t, fromL sat all (a ++ vs) t = true → fromL sat' all (a ++ vs') t = true := by
  induction a with
  | nil => exact h
  | cons v a ih =>
    intro t ht
    rw [List.cons_append, fromL_step] at ht ⊢
    cases h1 : all.testBit v with
    | true =>
      rw [h1, if_pos rfl, Bool.and_eq_true] at ht
      rw [if_pos rfl, Bool.and_eq_true]
      exact ⟨ih _ ht.1, ih _ ht.2⟩
    | false =>
      rw [h1, if_neg (by decide), Bool.or_eq_true] at ht
      rw [if_neg (by decide), Bool.or_eq_true]
      rcases ht with ht | ht
      · exact Or.inl (ih _ ht)
      · exact Or.inr (ih _ ht)
theorem fromL_ctx_eq (a : List Nat) {vs vs' : List Nat} (h : ∀ t, fromL sat all vs t = fromL sat' all vs' t) (t : Nat) : fromL sat all (a ++ vs) t = fromL sat' all (a ++ vs') t := by
  rw [Bool.eq_iff_iff]
  exact ⟨fromL_ctx a (fun t ht => by rw [← h]; exact ht) t, fromL_ctx a (fun t ht => by rw [h]; exact ht) t⟩
theorem or_swap (t a b : Nat) : t ||| 2 ^ a ||| 2 ^ b = t ||| 2 ^ b ||| 2 ^ a := by
  rw [Nat.or_assoc, Nat.or_assoc, Nat.or_comm (2 ^ a)]
/-- Variables of one kind side by side change places. -/
theorem fromL_same (x y : Nat) (h : all.testBit x = all.testBit y) (vs : List Nat) (t : Nat) : fromL sat all (x :: y :: vs) t = fromL sat all (y :: x :: vs) t := by
  rw [fromL_step, fromL_step, fromL_step, fromL_step (v := y), fromL_step (v := x), fromL_step (v := x), or_swap t x y, h]
  cases all.testBit y <;> cases fromL sat all vs (t ||| 2 ^ y ||| 2 ^ x) <;> cases fromL sat all vs (t ||| 2 ^ x) <;> cases fromL sat all vs (t ||| 2 ^ y) <;> cases fromL sat all vs t <;> rfl
/-- An existential variable and the universal one behind it change places: what was true is. -/
theorem fromL_inward (x y : Nat) (hx : all.testBit x = false) (hy : all.testBit y = true) (vs : List Nat) (t : Nat) (h : fromL sat all (x :: y :: vs) t = true) : fromL sat all (y :: x :: vs) t = true := by
  rw [fromL_step, fromL_step, fromL_step, hx, hy, or_swap t x y] at h
  rw [fromL_step, fromL_step, fromL_step, hx, hy]
  revert h
  cases fromL sat all vs (t ||| 2 ^ y ||| 2 ^ x) <;> cases fromL sat all vs (t ||| 2 ^ x) <;> cases fromL sat all vs (t ||| 2 ^ y) <;> cases fromL sat all vs t <;> simp
theorem fromL_past (x : Nat) (hx : all.testBit x = false) (ys : List Nat) (hy : ∀ y ∈ ys, all.testBit y = true) : ∀ (vs : List Nat) (t : Nat), fromL sat all (x :: (ys ++ vs)) t = true → fromL sat all (ys ++ x :: vs) t = true := by
  induction ys with
  | nil => intro vs t h; exact h
  | cons y ys ih =>
    intro vs t h
    have h1 := fromL_inward x y hx (hy y (by simp)) (ys ++ vs) t h
    exact fromL_ctx (sat := sat) (sat' := sat) [y] (fun t ht => ih (fun z hz => hy z (by simp [hz])) vs t ht) t h1
/-- Blocks. -/
theorem fromL_blocks (xs ys : List Nat) (hx : ∀ x ∈ xs, all.testBit x = false) (hy : ∀ y ∈ ys, all.testBit y = true) : ∀ (vs : List Nat) (t : Nat), fromL sat all (xs ++ (ys ++ vs)) t = true → fromL sat all (ys ++ (xs ++ vs)) t = true := by
  induction xs with
  | nil => intro vs t h; exact h
  | cons x xs ih =>
    intro vs t h
    have h1 := fromL_ctx (sat := sat) (sat' := sat) (all := all) [x] (fun t ht => ih (fun z hz => hx z (by simp [hz])) vs t ht) t h
    have h2 := fromL_past x (hx x (by simp)) ys hy (xs ++ vs) t h1
    exact h2
/-- A variable that no clause has. -/
theorem fromL_idle (v : Nat) (hs : ∀ t, sat (t ||| 2 ^ v) = sat t) : ∀ (vs : List Nat) (t : Nat), fromL sat all vs (t ||| 2 ^ v) = fromL sat all vs t := by
  intro vs
  induction vs with
  | nil => intro t; exact hs t
  | cons u vs ih => intro t; rw [fromL_step, fromL_step, or_swap t v u, ih, ih]
theorem fromL_drop (v : Nat) (hs : ∀ t, sat (t ||| 2 ^ v) = sat t) (vs : List Nat) (t : Nat) : fromL sat all (v :: vs) t = fromL sat all vs t := by
  rw [fromL_step, fromL_idle v hs]
  cases all.testBit v <;> cases fromL sat all vs t <;> rfl
/-- Other names. -/
theorem fromL_named (r : Nat → Nat) (hr : ∀ a b, r a = r b → a = b) (hs : ∀ t t', (∀ v, t'.testBit (r v) = t.testBit v) → sat' t' = sat t) : ∀ (vs : List Nat), (∀ v ∈ vs, all'.testBit (r v) = all.testBit v) → ∀ t t', (∀ v, t'.testBit (r v) = t.testBit v) → fromL sat' all' (vs.map r) t' = fromL sat all vs t := by
  intro vs
  induction vs with
  | nil => intro _ t t' h; exact hs t t' h
  | cons v vs ih =>
    intro ha t t' h
    have ih' := ih (fun u hu => ha u (by simp [hu]))
    have h1 : ∀ u, (t' ||| 2 ^ r v).testBit (r u) = (t ||| 2 ^ v).testBit u := fun u => by
      rw [Nat.testBit_or, Nat.testBit_or, h, Nat.testBit_two_pow, Nat.testBit_two_pow]
      by_cases e : v = u
      · subst e; simp
      · have : r v ≠ r u := fun e' => e (hr _ _ e')
        simp [e, this]
    rw [List.map_cons, fromL_step, fromL_step, ih' _ _ h1, ih' _ _ h, ha v (by simp)]
/-- A variable turned. -/
def Flip (x t t' : Nat) : Prop := t'.testBit x = !t.testBit x ∧ ∀ u, u ≠ x → t'.testBit u = t.testBit u
theorem Flip.more {x t t' u : Nat} (h : Flip x t t') (hu : u ≠ x) : Flip x (t ||| 2 ^ u) (t' ||| 2 ^ u) := by
  constructor
  · rw [Nat.testBit_or, Nat.testBit_or, h.1, Nat.testBit_two_pow]; simp [hu]
  · intro v hv; rw [Nat.testBit_or, Nat.testBit_or, h.2 v hv]
theorem fromL_flipped (x : Nat) (hs : ∀ t t', Flip x t t' → sat' t' = sat t) : ∀ (vs : List Nat), x ∉ vs → ∀ t t', Flip x t t' → fromL sat' all vs t' = fromL sat all vs t := by
  intro vs
  induction vs with
  | nil => intro _ t t' h; exact hs t t' h
  | cons v vs ih =>
    intro hx t t' h
    rw [List.mem_cons, not_or] at hx
    rw [fromL_step, fromL_step, ih hx.2 _ _ (h.more (Ne.symm hx.1)), ih hx.2 _ _ h]
theorem fromL_turned (x : Nat) (hs : ∀ t t', Flip x t t' → sat' t' = sat t) : ∀ (vs : List Nat), vs.Nodup → x ∈ vs → ∀ t, t.testBit x = false → fromL sat' all vs t = fromL sat all vs t := by
  intro vs
  induction vs with
  | nil => intro _ h; simp at h
  | cons v vs ih =>
    intro hn hx t ht
    rw [List.nodup_cons] at hn
    by_cases e : v = x
    · subst e
      have f1 : Flip v t (t ||| 2 ^ v) := ⟨by rw [bit_or, ht]; simp, fun u hu => by rw [bit_or]; simp [Ne.symm hu]⟩
      have f2 : Flip v (t ||| 2 ^ v) t := ⟨by rw [bit_or, ht]; simp, fun u hu => by rw [bit_or]; simp [Ne.symm hu]⟩
      rw [fromL_step, fromL_step, fromL_flipped v hs vs hn.1 _ _ f1, fromL_flipped v hs vs hn.1 _ _ f2]
      cases all.testBit v <;> cases fromL sat all vs t <;> cases fromL sat all vs (t ||| 2 ^ v) <;> rfl
    · have hx' : x ∈ vs := by
        rcases List.mem_cons.1 hx with h | h
        · exact absurd h.symm e
        · exact h
      rw [fromL_step, fromL_step, ih hn.2 hx' _ (by rw [bit_or, ht]; simp [e]), ih hn.2 hx' t ht]
end
end Go.Proofs.YtgipjjhkhfihpabDoor

namespace Go.Proofs.YtgipjjhkhfihpabDoor
open Go.RowKit

/-! ### The formula that lines say, and its truth -/
def allN (qs : List (Bool × List Nat)) : Nat := ((toldP qs).zip (kindsP qs)).foldl (fun a x => if x.2 then a ||| 2 ^ x.1 else a) 0
def freeN (qs : List (Bool × List Nat)) (cs : List (Nat × Nat)) : List Nat := ((List.range 8).map (· + 1)).filter (fun v => cs.any (fun c => (c.1 ||| c.2).testBit v) && !decide (v ∈ toldP qs))
def formN (qs : List (Bool × List Nat)) (cs : List (Nat × Nat)) : Form :=
  { order := freeN qs cs ++ toldP qs, all := allN qs, ends := endsTo (freeN qs cs ++ toldP qs) (allN qs) (freeN qs cs ++ toldP qs).length, cl := cs }
theorem kinds_len (qs : List (Bool × List Nat)) : (kindsP qs).length = (toldP qs).length := by
  induction qs with
  | nil => rfl
  | cons x qs ih => simp [toldP, kindsP] at *
theorem finish_norm {st : RS} {qs : List (Bool × List Nat)} {cs : List (Nat × Nat)} (h : StIs st qs cs) : finish st = formN qs cs := by
  have e1 : freeTo st 8 = freeN qs cs := by
    unfold freeTo freeN
    congr 1
    funext v
    rw [h.used, h.seen]
  have e2 : orderOf st = freeN qs cs ++ toldP qs := by unfold orderOf; rw [e1, h.told]
  have e3 : allTo st st.told.length = allN qs := by
    unfold allTo allN
    rw [h.told, h.kinds, List.take_of_length_le (by rw [List.length_zip, kinds_len]; simp)]
  unfold finish formN
  rw [e2, e3, h.cl]
def truthN (qs : List (Bool × List Nat)) (cs : List (Nat × Nat)) : Bool := fromL (satB cs) (allN qs) (freeN qs cs ++ toldP qs) 0
/-- All variables that the prefix does not tell, and those that it does. -/
def restN (qs : List (Bool × List Nat)) : List Nat := ((List.range 8).map (· + 1)).filter (fun v => !decide (v ∈ toldP qs))
theorem sat_idle (cs : List (Nat × Nat)) (v : Nat) (h : cs.any (fun c => (c.1 ||| c.2).testBit v) = false) (t : Nat) : satB cs (t ||| 2 ^ v) = satB cs t := by
  unfold satB
  have hc : ∀ c ∈ cs, satC c (t ||| 2 ^ v) = satC c t := by
    intro c hcm
    rw [List.any_eq_false] at h
    have hb := h c hcm
    rw [Bool.not_eq_true, Nat.testBit_or, Bool.or_eq_false_iff] at hb
    unfold satC
    have e1 : c.1 &&& (t ||| 2 ^ v) = c.1 &&& t := by
      apply Nat.eq_of_testBit_eq
      intro i
      rw [Nat.testBit_and, Nat.testBit_and, bit_or]
      by_cases e : v = i
      · subst e; simp [hb.1]
      · simp [e]
    have e2 : less c.2 (t ||| 2 ^ v) = less c.2 t := by
      apply Nat.eq_of_testBit_eq
      intro i
      rw [testBit_less, testBit_less, bit_or]
      by_cases e : v = i
      · subst e; simp [hb.2]
      · simp [e]
    rw [e1, e2]
  rw [Bool.eq_iff_iff, List.all_eq_true, List.all_eq_true]
  constructor
  · intro hh c hcm; rw [← hc c hcm]; exact hh c hcm
  · intro hh c hcm; rw [hc c hcm]; exact hh c hcm
theorem fromL_filter (sat : Nat → Bool) (all : Nat) (P : Nat → Bool) (a b : List Nat) (h : ∀ v ∈ a, P v = false → ∀ t, sat (t ||| 2 ^ v) = sat t) : ∀ t, fromL sat all (a.filter P ++ b) t = fromL sat all (a ++ b) t := by
  induction a with
  | nil => intro t; rfl
  | cons v a ih =>
    intro t
    have ih' := ih (fun u hu => h u (by simp [hu]))
    cases hp : P v with
    | true =>
      rw [List.filter_cons_of_pos hp]
      exact fromL_ctx_eq (sat := sat) (sat' := sat) [v] ih' t
    | false =>
      rw [List.filter_cons_of_neg (by simp [hp]), ih', List.cons_append, fromL_drop v (h v (by simp) hp)]
theorem truth_full (qs : List (Bool × List Nat)) (cs : List (Nat × Nat)) : truthN qs cs = fromL (satB cs) (allN qs) (restN qs ++ toldP qs) 0 := by
  unfold truthN
  have e : freeN qs cs = (restN qs).filter (fun v => cs.any (fun c => (c.1 ||| c.2).testBit v)) := by
    unfold freeN restN
    rw [List.filter_filter]
  rw [e]
  exact fromL_filter _ _ _ _ _ (fun v _ hv t => sat_idle cs v hv t) 0
/-- WHAT A TEXT SAYS IS TRUE, BY ITS LINES. -/
theorem truth_norm {st : RS} {qs : List (Bool × List Nat)} {cs : List (Nat × Nat)} (h : StIs st qs cs) : fromL (satB (finish st).cl) (finish st).all (finish st).order 0 = truthN qs cs := by
  rw [finish_norm h]; rfl

/-! ### A clause less, a clause more -/
theorem sat_sub (cs cs' : List (Nat × Nat)) (h : ∀ c ∈ cs', c ∈ cs) (t : Nat) (hs : satB cs t = true) : satB cs' t = true := by
  unfold satB at *
  rw [List.all_eq_true] at *
  exact fun c hc => hs c (h c hc)
theorem truth_sub (qs : List (Bool × List Nat)) (cs cs' : List (Nat × Nat)) (h : ∀ c ∈ cs', c ∈ cs) (ht : truthN qs cs = true) : truthN qs cs' = true := by
  rw [truth_full] at *
  exact fromL_mono (fun t hs => sat_sub cs cs' h t hs) _ (fun _ _ hv => hv) 0 ht
/-! ### A line of the prefix of the other kind -/
theorem all_bits (l : List (Nat × Bool)) : ∀ (a v : Nat), (l.foldl (fun a x => if x.2 then a ||| 2 ^ x.1 else a) a).testBit v = (a.testBit v || l.any (fun x => x.2 && x.1 == v)) := by
  induction l with
  | nil => intro a v; simp
  | cons x l ih =>
    intro a v
    rw [List.foldl_cons, ih, List.any_cons]
    cases x.2 with
    | false => simp
    | true =>
      rw [if_pos rfl, Nat.testBit_or, Nat.testBit_two_pow, Bool.or_assoc]
      congr 1
theorem zip_any (qs : List (Bool × List Nat)) (v : Nat) : ((toldP qs).zip (kindsP qs)).any (fun x => x.2 && x.1 == v) = qs.any (fun x => x.1 && x.2.any (· == v)) := by
  induction qs with
  | nil => rfl
  | cons x qs ih =>
    have e1 : toldP (x :: qs) = x.2 ++ toldP qs := by simp [toldP]
    have e2 : kindsP (x :: qs) = x.2.map (fun _ => x.1) ++ kindsP qs := by simp [kindsP]
    rw [e1, e2, List.zip_append (by simp), List.any_append, ih, List.any_cons]
    congr 1
    obtain ⟨k, l⟩ := x
    dsimp only
    clear e1 e2 ih
    induction l with
    | nil => simp
    | cons u l ihl =>
      simp only [List.map_cons, List.zip_cons_cons, List.any_cons, ihl]
      cases k <;> simp
theorem allN_bit (qs : List (Bool × List Nat)) (v : Nat) : (allN qs).testBit v = qs.any (fun x => x.1 && x.2.any (· == v)) := by
  unfold allN; rw [all_bits, zip_any]; simp
theorem truth_weaker (qs qs' : List (Bool × List Nat)) (cs : List (Nat × Nat)) (ht : toldP qs' = toldP qs) (hk : ∀ v, (allN qs').testBit v = true → (allN qs).testBit v = true) (h : truthN qs cs = true) : truthN qs' cs = true := by
  rw [truth_full] at *
  have e : restN qs' = restN qs := by unfold restN; rw [ht]
  rw [e, ht]
  exact fromL_mono (fun t hs => hs) _ (fun v _ hv => hk v hv) 0 h
/-! ### Lines change places -/
theorem truth_inward (a b : List (Bool × List Nat)) (xs ys : List Nat) (cs : List (Nat × Nat)) (hn : (toldP (a ++ (false, xs) :: (true, ys) :: b)).Nodup) (h : truthN (a ++ (false, xs) :: (true, ys) :: b) cs = true) : truthN (a ++ (true, ys) :: (false, xs) :: b) cs = true := by
  rw [truth_full] at *
  have e1 : toldP (a ++ (false, xs) :: (true, ys) :: b) = toldP a ++ (xs ++ (ys ++ toldP b)) := by simp [toldP]
  have e2 : toldP (a ++ (true, ys) :: (false, xs) :: b) = toldP a ++ (ys ++ (xs ++ toldP b)) := by simp [toldP]
  have ea : ∀ v, (allN (a ++ (true, ys) :: (false, xs) :: b)).testBit v = (allN (a ++ (false, xs) :: (true, ys) :: b)).testBit v := by
    intro v
    rw [allN_bit, allN_bit]
    simp [List.any_append]
  have er : restN (a ++ (true, ys) :: (false, xs) :: b) = restN (a ++ (false, xs) :: (true, ys) :: b) := by
    unfold restN
    congr 1
    funext v
    rw [e1, e2]
    have : (v ∈ toldP a ++ (ys ++ (xs ++ toldP b))) = (v ∈ toldP a ++ (xs ++ (ys ++ toldP b))) := by
      simp only [List.mem_append, eq_iff_iff]
      constructor
      · rintro (h | h | h | h)
        · exact Or.inl h
        · exact Or.inr (Or.inr (Or.inl h))
        · exact Or.inr (Or.inl h)
        · exact Or.inr (Or.inr (Or.inr h))
      · rintro (h | h | h | h)
        · exact Or.inl h
        · exact Or.inr (Or.inr (Or.inl h))
        · exact Or.inr (Or.inl h)
        · exact Or.inr (Or.inr (Or.inr h))
    simp only [this]
  rw [er, e2, fromL_congr (sat' := satB cs) (all' := allN (a ++ (false, xs) :: (true, ys) :: b)) (fun _ => rfl) _ (fun v _ => ea v) 0]
  rw [e1] at h hn
  have hx : ∀ x ∈ xs, (allN (a ++ (false, xs) :: (true, ys) :: b)).testBit x = false := by
    intro x hx
    rw [allN_bit, List.any_eq_false]
    intro z hz hh
    rw [Bool.and_eq_true, List.any_eq_true] at hh
    obtain ⟨hk, u, hu, he⟩ := hh
    have he' : u = x := by simpa using he
    subst he'
    rw [List.nodup_append] at hn
    obtain ⟨n1, n2, n3⟩ := hn
    rw [List.nodup_append] at n2
    obtain ⟨n4, n5, n6⟩ := n2
    rcases List.mem_append.1 hz with hz | hz
    · exact n3 u (List.mem_flatMap.2 ⟨z, hz, hu⟩) u (by simp [hx]) rfl
    · rcases List.mem_cons.1 hz with rfl | hz
      · cases hk
      · rcases List.mem_cons.1 hz with rfl | hz
        · exact n6 u hx u (by simp [hu]) rfl
        · exact n6 u hx u (by rw [List.mem_append]; exact Or.inr (List.mem_flatMap.2 ⟨z, hz, hu⟩)) rfl
  have hy : ∀ y ∈ ys, (allN (a ++ (false, xs) :: (true, ys) :: b)).testBit y = true := by
    intro y hy
    rw [allN_bit, List.any_eq_true]
    exact ⟨(true, ys), by simp, by rw [Bool.and_eq_true, List.any_eq_true]; exact ⟨rfl, y, hy, by simp⟩⟩
  rw [← List.append_assoc] at h ⊢
  exact fromL_ctx (sat := satB cs) (sat' := satB cs) _ (fun t ht => fromL_blocks xs ys hx hy _ t ht) 0 h
end Go.Proofs.YtgipjjhkhfihpabDoor
