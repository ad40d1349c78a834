import Derived.Test.YtgipjjhkhfihpaaDoorAH
import Derived.Test.YtgipjjhkhfihpaaDoorAI
import Derived.Test.YtgipjjhkhfihpaaDoorAC
namespace Go.Proofs.YtgipjjhkhfihpaaDoor
open Go.RowKit

/-! ### Units, as the document counts them -/
def sing (u : Nat) (s : Bool) : Nat × Nat := if s then (2 ^ u, 0) else (0, 2 ^ u)
theorem L_sing (u : Nat) (s t : Bool) (v : Nat) : L (sing u s) t v = (t == s && decide (v = u)) := by
  unfold sing
  cases s <;> cases t <;> simp [L, Nat.testBit_two_pow, eq_comm]
theorem pow_of_one : ∀ p : Fin 512, p.val ≠ 0 → p.val &&& (p.val - 1) = 0 → ∃ v : Fin 9, p.val = 2 ^ v.val := by decide +kernel
theorem sing_one : ∀ (u : Fin 9), 1 ≤ u.val → (listOf (sing u.val true) = [(u.val : Int)] ∧ oneB (sing u.val true).1 (sing u.val true).2 = true) ∧ (listOf (sing u.val false) = [-(u.val : Int)] ∧ oneB (sing u.val false).1 (sing u.val false).2 = true) := by decide +kernel
theorem sing_list (u : Nat) (s : Bool) (h1 : 1 ≤ u) (h8 : u ≤ 8) : listOf (sing u s) = [litI u s] ∧ oneB (sing u s).1 (sing u s).2 = true := by
  have := sing_one ⟨u, by omega⟩ h1
  cases s
  · exact this.2
  · exact this.1
/-- The values: no variable both ways; of the formula's variables. -/
structure VOk (q : QS) (vals : Nat × Nat) : Prop where
  free : Free vals
  lok : LOk q vals
theorem dead_conf {q : QS} {uni : Nat × Nat} {t n : Nat} (hv : VOk q (t, n)) {c : Nat × Nat} (hd : deadC t n c = true) : isConf uni (t, n) c = true := by
  unfold deadC at hd
  rw [Bool.and_eq_true, beq_iff_eq, beq_iff_eq] at hd
  have hl : leftOf c (t, n) = (0, 0) := by
    show (less c.1 n, less c.2 t) = (0, 0)
    rw [hd.1, hd.2]
  have hall : ∀ s v, L c s v = true → L (t, n) (!s) v = true := by
    intro s v hs
    have := L_left c (t, n) s v
    rw [hl, L_zero, hs] at this
    simpa using this.symm
  unfold isConf openB
  have h1 : meetsB c (t, n) = false := by
    cases h : meetsB c (t, n) with
    | false => rfl
    | true =>
      obtain ⟨s, v, a, b⟩ := (meets_iff _ _).1 h
      have h2 := hall s v a
      cases s
      · exact (hv.free v h2 b).elim
      · exact (hv.free v b h2).elim
  have h2 : clashB c = false := by
    rw [free_iff]
    intro v a b
    exact hv.free v (hall false v b) (hall true v a)
  have h3 : emptyB (minus (0, 0) uni) = true := (empty_iff _).2 (fun s v => by rw [L_minus, L_zero]; rfl)
  rw [h1, h2, hl, h3]
  rfl
theorem unit_same {q : QS} (hq : QGood q) {F : Form} (hF : FQ F q) {uni : Nat × Nat} (hu : UniOk q uni) {t n : Nat} (hv : VOk q (t, n)) {c : Nat × Nat} (hc : LOk q c) (hnd : deadC t n c = false) : unitC F.all t n c = isUnit uni (t, n) c ∧ (isUnit uni (t, n) c = true → ∃ u s, 1 ≤ u ∧ u ≤ 8 ∧ leftOf c (t, n) = sing u s) := by
  have hll : LOk q (leftOf c (t, n)) := lok_sub hc ⟨less_lt9 _ _ hc.bd.1, less_lt9 _ _ hc.bd.2⟩ (fun s v h => by rw [L_left, Bool.and_eq_true] at h; exact h.1)
  have hback : isUnit uni (t, n) c = true → ∃ u s, 1 ≤ u ∧ u ≤ 8 ∧ leftOf c (t, n) = sing u s := by
    intro h
    unfold isUnit at h
    rw [Bool.and_eq_true, Bool.and_eq_true, beq_iff_eq] at h
    obtain ⟨u, s, h1, h8, _, hL, hone⟩ := list_one h.2.1
    refine ⟨u, s, h1, h8, L_ext (fun t' v => ?_)⟩
    rw [L_sing]
    cases hh : L (leftOf c (t, n)) t' v with
    | true =>
      have hn := hq.name (hll.vars t' v hh)
      obtain ⟨rfl, rfl⟩ := hone t' v hn.1 hn.2 hh
      simp
    | false =>
      by_cases e : v = u
      · subst e
        by_cases e2 : t' = s
        · subst e2; rw [hL] at hh; cases hh
        · simp [e2]
      · simp [e]
  refine ⟨?_, hback⟩
  have hopen : ∀ u s, 1 ≤ u → u ≤ 8 → leftOf c (t, n) = sing u s → (openB c (t, n) = true ↔ (less c.1 n &&& t = 0 ∧ less c.2 t &&& n = 0)) := by
    intro u s h1 h8 hl
    have e1 : less c.1 n = (sing u s).1 := congrArg Prod.fst hl
    have e2 : less c.2 t = (sing u s).2 := congrArg Prod.snd hl
    have hm : (less c.1 n &&& t = 0 ∧ less c.2 t &&& n = 0) ↔ L (t, n) s u = false := by
      rw [e1, e2]
      cases s
      · simp only [sing, Bool.false_eq_true, if_false, Nat.zero_and, true_and, L]
        rw [Nat.and_comm, ← Bool.not_eq_true, ← and_pow_ne, bne_iff_ne, Decidable.not_not]
      · simp only [sing, if_true, Nat.zero_and, and_true, L]
        rw [Nat.and_comm, ← Bool.not_eq_true, ← and_pow_ne, bne_iff_ne, Decidable.not_not]
    rw [hm]
    have hin : L c s u = true ∧ L (t, n) (!s) u = false := by
      have := L_left c (t, n) s u
      rw [hl, L_sing] at this
      simp at this
      exact ⟨this.1, this.2⟩
    have hoth : ∀ r v, L c r v = true → (v = u ∧ r = s) ∨ L (t, n) (!r) v = true := by
      intro r v hr
      have := L_left c (t, n) r v
      rw [hl, L_sing, hr] at this
      cases hh : L (t, n) (!r) v with
      | true => exact Or.inr rfl
      | false => rw [hh] at this; simp at this; exact Or.inl ⟨this.2, this.1⟩
    unfold openB
    rw [Bool.and_eq_true, Bool.not_eq_true', Bool.not_eq_true', free_iff]
    constructor
    · rintro ⟨h3, _⟩
      cases hh : L (t, n) s u with
      | false => rfl
      | true => rw [(meets_iff _ _).2 ⟨s, u, hin.1, hh⟩] at h3; cases h3
    · intro h3
      constructor
      · cases hme : meetsB c (t, n) with
        | false => rfl
        | true =>
          obtain ⟨r, v, a, b⟩ := (meets_iff _ _).1 hme
          rcases hoth r v a with ⟨rfl, rfl⟩ | h4
          · rw [h3] at b; cases b
          · cases r
            · exact (hv.free v h4 b).elim
            · exact (hv.free v b h4).elim
      · intro v a b
        rcases hoth true v a with ⟨rfl, rfl⟩ | h4
        · rcases hoth false v b with ⟨_, h5⟩ | h5
          · cases h5
          · have : L (t, n) true v = true := h5
            rw [h3] at this; cases this
        · rcases hoth false v b with ⟨rfl, rfl⟩ | h5
          · have : L (t, n) false v = true := h4
            rw [h3] at this; cases this
          · exact hv.free v h5 h4
  have huni : ∀ u s, 1 ≤ u → u ≤ 8 → leftOf c (t, n) = sing u s → (meetsB (leftOf c (t, n)) uni = false ↔ (less c.1 n ||| less c.2 t) &&& F.all = 0) := by
    intro u s h1 h8 hl
    have e1 : less c.1 n = (sing u s).1 := congrArg Prod.fst hl
    have e2 : less c.2 t = (sing u s).2 := congrArg Prod.snd hl
    have hmem : u ∈ q.vars.map (·.1) := hll.vars s u (by rw [hl, L_sing]; simp)
    obtain ⟨x, hx, hxe⟩ := List.mem_map.1 hmem
    have hor : (less c.1 n ||| less c.2 t) = 2 ^ u := by rw [e1, e2]; cases s <;> simp [sing]
    rw [hor, Nat.and_comm]
    have hk : F.all.testBit u = x.2 := by rw [← hxe]; exact hF.kinds x hx
    have hz : (F.all &&& 2 ^ u = 0) ↔ x.2 = false := by rw [← hk, ← Bool.not_eq_true, ← and_pow_ne, bne_iff_ne, Decidable.not_not]
    rw [hz, hl, ← Bool.not_eq_true, meets_iff]
    constructor
    · intro h
      cases hx2 : x.2 with
      | false => rfl
      | true => exact absurd ⟨s, u, by rw [L_sing]; simp, (hu s u).2 ⟨x, hx, hxe, hx2⟩⟩ h
    · rintro h ⟨r, v, a, b⟩
      rw [L_sing, Bool.and_eq_true, beq_iff_eq, decide_eq_true_eq] at a
      obtain ⟨rfl, rfl⟩ := a
      obtain ⟨y, hy, hye, hyu⟩ := (hu r v).1 b
      have := kind_one hq hy hx (by rw [hye]; exact hxe.symm)
      rw [this, h] at hyu; cases hyu
  have hsing : ∀ u s, 1 ≤ u → u ≤ 8 → leftOf c (t, n) = sing u s → unitC F.all t n c = isUnit uni (t, n) c := by
    intro u s h1 h8 hl
    obtain ⟨l1, l2⟩ := sing_list u s h1 h8
    have e1 : less c.1 n = (sing u s).1 := congrArg Prod.fst hl
    have e2 : less c.2 t = (sing u s).2 := congrArg Prod.snd hl
    have ho := hopen u s h1 h8 hl
    have hun := huni u s h1 h8 hl
    unfold unitC isUnit
    rw [show oneB (less c.1 n) (less c.2 t) = true from by rw [e1, e2]; exact l2, show (listOf (leftOf c (t, n))).length = 1 from by rw [hl, l1]; rfl]
    rw [Bool.eq_iff_iff]
    simp only [Bool.true_and, Bool.and_eq_true, beq_iff_eq, Bool.not_eq_true', beq_self_eq_true]
    rw [ho, ← hun]
    constructor
    · rintro ⟨a, b, d⟩; exact ⟨⟨b, d⟩, a⟩
    · rintro ⟨⟨b, d⟩, a⟩; exact ⟨a, b, d⟩
  cases hi : isUnit uni (t, n) c with
  | true =>
    obtain ⟨u, s, h1, h8, hl⟩ := hback hi
    rw [hsing u s h1 h8 hl]; exact hi
  | false =>
    cases hc2 : unitC F.all t n c with
    | false => rfl
    | true =>
      exfalso
      unfold unitC oneB at hc2
      simp only [Bool.and_eq_true, Bool.or_eq_true, beq_iff_eq] at hc2
      obtain ⟨⟨p1, p2, p3⟩, _⟩ := hc2
      have hnz : less c.1 n ≠ 0 ∨ less c.2 t ≠ 0 := by
        unfold deadC at hnd
        rw [Bool.and_eq_false_iff, beq_eq_false_iff_ne, beq_eq_false_iff_ne] at hnd
        exact hnd
      have hex : ∃ u s, leftOf c (t, n) = sing u s := by
        rcases p3 with h | h
        · have hne : less c.2 t ≠ 0 := by
            rcases hnz with h5 | h5
            · exact absurd h h5
            · exact h5
          obtain ⟨v, hv2⟩ := pow_of_one ⟨less c.2 t, less_lt9 _ _ hc.bd.2⟩ hne p2
          exact ⟨v.val, false, by show (less c.1 n, less c.2 t) = (0, 2 ^ v.val); rw [h]; exact congrArg _ hv2⟩
        · have hne : less c.1 n ≠ 0 := by
            rcases hnz with h5 | h5
            · exact h5
            · exact absurd h h5
          obtain ⟨v, hv2⟩ := pow_of_one ⟨less c.1 n, less_lt9 _ _ hc.bd.1⟩ hne p1
          exact ⟨v.val, true, by show (less c.1 n, less c.2 t) = (2 ^ v.val, 0); rw [h]; exact congrArg (fun z => (z, 0)) hv2⟩
      obtain ⟨u, s, hl⟩ := hex
      have hn := hq.name (hll.vars s u (by rw [hl, L_sing]; simp))
      have := hsing u s hn.1 hn.2 hl
      rw [hi] at this
      unfold unitC oneB at this
      simp_all
/-- How many variables have no value. -/
def unas (q : QS) (vals : Nat × Nat) : Nat := (q.vars.filter (fun x => !L vals true x.1 && !L vals false x.1)).length
theorem unas_lt {q : QS} (hq : QGood q) {vals : Nat × Nat} {x : Nat × Bool} (hx : x ∈ q.vars) (h1 : L vals true x.1 = false) (h2 : L vals false x.1 = false) (s : Bool) : unas q (withLit vals (litI x.1 s)) < unas q vals := by
  have hn := hq.qb.names x hx
  unfold unas
  have e : q.vars.filter (fun y => !L (withLit vals (litI x.1 s)) true y.1 && !L (withLit vals (litI x.1 s)) false y.1) = (q.vars.filter (fun y => !L vals true y.1 && !L vals false y.1)).filter (fun y => !L (withLit vals (litI x.1 s)) true y.1 && !L (withLit vals (litI x.1 s)) false y.1) := by
    rw [List.filter_filter]
    apply List.filter_congr
    intro y _
    rw [L_with _ _ _ hn.1 hn.2, L_with _ _ _ hn.1 hn.2]
    cases L vals true y.1 <;> cases L vals false y.1 <;> simp
  rw [e]
  refine List.length_filter_lt_length_iff_exists.2 ⟨x, List.mem_filter.2 ⟨hx, by rw [h1, h2]; rfl⟩, ?_⟩
  rw [L_with _ _ _ hn.1 hn.2, L_with _ _ _ hn.1 hn.2]
  cases s <;> simp
theorem unitsF_ge (cl : List (Nat × Nat)) (all : Nat) : ∀ f k t n, k ≤ (unitsF cl all f k t n).2 := by
  intro f
  induction f with
  | zero => intro k t n; exact Nat.le_refl _
  | succ f ih =>
    intro k t n
    rw [unitsF]
    split
    · exact Nat.le_refl _
    · split
      · exact Nat.le_refl _
      · exact Nat.le_trans (Nat.le_succ k) (ih _ _ _)
theorem cs_map {q : QS} : (clausesOf q []).map (litsAt (axioms q.cl)) = q.cl := by
  unfold clausesOf
  simp only [List.filter_nil, List.map_nil, List.append_nil, List.map_map]
  apply List.ext_getElem
  · simp
  · intro i h1 h2
    simp only [List.getElem_map, List.getElem_range, Function.comp]
    rw [litsAt_in _ i (by rw [axioms_len]; exact h2), axioms_at q.cl i h2]
theorem cs_pos {q : QS} : ∀ s ∈ clausesOf q [], 1 ≤ s := by
  intro s hs
  unfold clausesOf at hs
  simp only [List.filter_nil, List.map_nil, List.append_nil, List.mem_map] at hs
  obtain ⟨i, _, rfl⟩ := hs
  omega
theorem units_sim {q : QS} (hq : QGood q) {F : Form} (hF : FQ F q) {uni : Nat × Nat} (hu : UniOk q uni) : ∀ (f k t n m : Nat) (trail : List (Int × Nat)), VOk q (t, n) → unas q (t, n) < m → (unitsF q.cl F.all f k t n).1 = true →
    (unitsGo (axioms q.cl) uni (clausesOf q []) m (t, n) trail).conf ≠ 0 ∧ (unitsGo (axioms q.cl) uni (clausesOf q []) m (t, n) trail).trail.length + k ≤ trail.length + (unitsF q.cl F.all f k t n).2 := by
  intro f
  induction f with
  | zero => intro k t n m trail _ _ h; cases h
  | succ f ih =>
    intro k t n m trail hv hm h
    obtain ⟨m, rfl⟩ : ∃ m', m = m' + 1 := ⟨m - 1, by omega⟩
    have hge := unitsF_ge q.cl F.all (f + 1) k t n
    rw [unitsGo]
    by_cases hcf : confOf (axioms q.cl) uni (clausesOf q []) (t, n) ≠ 0
    · rw [if_pos hcf]
      exact ⟨hcf, by show trail.length + k ≤ _; omega⟩
    · rw [if_neg hcf]
      have hnoconf : ∀ c ∈ q.cl, isConf uni (t, n) c = false := by
        intro c hc
        cases hh : isConf uni (t, n) c with
        | false => rfl
        | true =>
          exfalso
          apply hcf
          rw [← cs_map] at hc
          obtain ⟨s, hs, rfl⟩ := List.mem_map.1 hc
          exact conf_find cs_pos hs hh
      have hnd : ∀ c ∈ q.cl, deadC t n c = false := by
        intro c hc
        cases hh : deadC t n c with
        | false => rfl
        | true => have := dead_conf (uni := uni) hv hh; rw [hnoconf c hc] at this; cases this
      have hany : q.cl.any (deadC t n) = false := by rw [List.any_eq_false]; intro c hc; rw [hnd c hc]; decide
      have hF1 : unitsF q.cl F.all (f + 1) k t n = match q.cl.find? (unitC F.all t n) with
        | none => (false, k)
        | some c => unitsF q.cl F.all f (k + 1) (t ||| less c.1 n) (n ||| less c.2 t) := by rw [unitsF, hany]; rfl
      rw [hF1] at h ⊢
      have hlok : ∀ c ∈ q.cl, LOk q c := fun c hc => ⟨hq.qb.bits c hc, hq.vars c hc⟩
      have hfind : q.cl.find? (unitC F.all t n) = q.cl.find? (isUnit uni (t, n)) := by
        have : ∀ l : List (Nat × Nat), (∀ c ∈ l, c ∈ q.cl) → l.find? (unitC F.all t n) = l.find? (isUnit uni (t, n)) := by
          intro l
          induction l with
          | nil => intro _; rfl
          | cons c l il =>
            intro hl
            rw [List.find?_cons, List.find?_cons, (unit_same hq hF hu hv (hlok c (hl c (by simp))) (hnd c (hl c (by simp)))).1, il (fun x hx => hl x (by simp [hx]))]
        exact this q.cl (fun _ h => h)
      cases hfd : q.cl.find? (unitC F.all t n) with
      | none => rw [hfd] at h; cases h
      | some c =>
        rw [hfd] at h
        dsimp only at h ⊢
        rw [hfind] at hfd
        have hcm := List.mem_of_find?_eq_some hfd
        have hci := List.find?_some hfd
        have hcs : ∃ s, (clausesOf q []).find? (fun s => isUnit uni (t, n) (litsAt (axioms q.cl) s)) = some s ∧ litsAt (axioms q.cl) s = c := by
          have h5 := hfd
          rw [← cs_map (q := q), List.find?_map] at h5
          cases hg : (clausesOf q []).find? (isUnit uni (t, n) ∘ litsAt (axioms q.cl)) with
          | none => rw [hg] at h5; cases h5
          | some s => rw [hg] at h5; injection h5 with h5; exact ⟨s, hg, h5⟩
        obtain ⟨s, hs1, hs2⟩ := hcs
        have hspos := cs_pos s (List.mem_of_find?_eq_some hs1)
        obtain ⟨u, sg, hu1, hu8, hl⟩ := (unit_same hq hF hu hv (hlok c hcm) (hnd c hcm)).2 hci
        have hun : unitOf (axioms q.cl) uni (clausesOf q []) (t, n) = (litI u sg, s) := by
          unfold unitOf
          rw [hs1]
          dsimp only
          rw [hs2, hl, (sing_list u sg hu1 hu8).1]
          rfl
        rw [hun, if_neg (by show ¬ s = 0; omega)]
        dsimp only
        have e1 : less c.1 n = (sing u sg).1 := congrArg Prod.fst hl
        have e2 : less c.2 t = (sing u sg).2 := congrArg Prod.snd hl
        have hw : withLit (t, n) (litI u sg) = (t ||| less c.1 n, n ||| less c.2 t) := by
          rw [e1, e2]
          apply L_ext
          intro r v
          rw [L_with _ _ _ hu1 hu8]
          cases sg <;> cases r <;> simp [L, sing, Nat.testBit_two_pow, eq_comm]
        have hnone : L (t, n) true u = false ∧ L (t, n) false u = false ∧ ∃ x ∈ q.vars, x.1 = u := by
          have h6 := L_left c (t, n) sg u
          rw [hl, L_sing] at h6
          simp at h6
          have h7 : L (t, n) sg u = false := by
            unfold isUnit openB at hci
            rw [Bool.and_eq_true, Bool.and_eq_true, Bool.not_eq_true'] at hci
            cases hh : L (t, n) sg u with
            | false => rfl
            | true => have h9 := hci.1.1; rw [(meets_iff _ _).2 ⟨sg, u, h6.1, hh⟩] at h9; cases h9
          obtain ⟨x, hx, hxe⟩ := List.mem_map.1 ((hlok c hcm).vars sg u h6.1)
          refine ⟨?_, ?_, x, hx, hxe⟩
          · cases sg
            · exact h6.2
            · exact h7
          · cases sg
            · exact h7
            · exact h6.2
        obtain ⟨hn1, hn2, x, hx, hxe⟩ := hnone
        have hv' : VOk q (withLit (t, n) (litI u sg)) := by
          refine ⟨with_free hu1 hu8 hv.free (by cases sg <;> assumption), with_bd _ _ hv.lok.bd, fun r v hr => ?_⟩
          rw [L_with _ _ _ hu1 hu8, Bool.or_eq_true, Bool.and_eq_true] at hr
          rcases hr with hr | ⟨_, hr⟩
          · exact hv.lok.vars r v hr
          · rw [of_decide_eq_true hr, ← hxe]; exact List.mem_map_of_mem hx
        have hlt : unas q (withLit (t, n) (litI u sg)) < unas q (t, n) := by
          have := unas_lt hq hx (by rw [hxe]; exact hn1) (by rw [hxe]; exact hn2) sg
          rwa [hxe] at this
        rw [hw] at hv' hlt ⊢
        have := ih (k + 1) _ _ m (trail ++ [(litI u sg, s)]) hv' (by omega) h
        refine ⟨this.1, ?_⟩
        have h8 := this.2
        simp only [List.length_append, List.length_cons, List.length_nil] at h8
        omega
end Go.Proofs.YtgipjjhkhfihpaaDoor

namespace Go.Proofs.YtgipjjhkhfihpaaDoor
open Go.RowKit

theorem look_inl {C : SC} {m : Nat} {path : Nat × Nat} {d : Nat} {s : SS} {r : SS × (Nat × Nat)} (h : nodeOf C s path = .inl r) : lookM C m path d s = r := by
  cases m with
  | zero => rw [lookM, h]
  | succ m => rw [lookM, h]
theorem twos_axioms (cl : List (Nat × Nat)) : twos (axioms cl) = 0 := by
  unfold twos axioms
  rw [List.length_eq_zero_iff, List.filter_eq_nil_iff]
  intro s hs
  obtain ⟨c, _, rfl⟩ := List.mem_map.1 hs
  simp
/-- P7: where units leave a clause all false: one node, few steps. -/
theorem solve_units {F : Form} {q : QS} (hq : QGood q) (hF : FQ F q) (budget room : Nat) (h : (unitsR F).1 = true) : (solveM q budget room).2.1 = 1 ∧ (solveM q budget room).1.nodes = 1 ∧ twos (solveM q budget room).1.ref ≤ (unitsR F).2 := by
  have hun : unitsR F = unitsF q.cl F.all 1024 0 0 0 := by unfold unitsR; rw [hF.cl]
  rw [hun] at h ⊢
  have hz : VOk q (0, 0) := ⟨fun v a => (by rw [L_zero] at a; cases a), lok_zero q⟩
  have hlt : unas q (0, 0) < q.vars.length + 1 := Nat.lt_succ_of_le (List.length_filter_le _ _)
  obtain ⟨h1, h2⟩ := units_sim hq hF (uni_ok hq) 1024 0 0 0 (q.vars.length + 1) [] hz hlt h
  have hS1 := nodes_inv (begin_inv hq budget room) 1
  have hU : unitsOf (beginC q budget room) { beginS q with nodes := 1 } (0, 0) = unitsGo (axioms q.cl) (uniTo q.vars (0, 0)) (clausesOf q []) (q.vars.length + 1) (0, 0) [] := rfl
  have hc : (unitsOf (beginC q budget room) { beginS q with nodes := 1 } (0, 0)).conf ≠ 0 := by rw [hU]; exact h1
  have hex := explain_ok (C := beginC q budget room) hq (uni_ok hq) hS1 (path_zero q) hc
  have hn : nodeOf (beginC q budget room) (beginS q) (0, 0) = .inl (explain (beginC q budget room) { beginS q with nodes := 1 } (unitsOf (beginC q budget room) { beginS q with nodes := 1 } (0, 0))) := by
    have hb : ¬ (0 < (beginC q budget room).budget ∧ (beginC q budget room).budget ≤ (beginS q).nodes) := by
      show ¬ (0 < budget ∧ budget ≤ 0)
      omega
    rw [nodeOf, if_neg hb]
    dsimp only
    exact if_pos hc
  have hl : solveM q budget room = explain (beginC q budget room) { beginS q with nodes := 1 } (unitsOf (beginC q budget room) { beginS q with nodes := 1 } (0, 0)) := look_inl hn
  rw [hl]
  refine ⟨hex.2.2.2.2.2.1, hex.2.2.2.1, ?_⟩
  have h3 := hex.2.2.2.2.2.2
  have h4 : twos ({ beginS q with nodes := 1 } : SS).ref = 0 := twos_axioms q.cl
  rw [h4] at h3
  have h5 : (unitsOf (beginC q budget room) { beginS q with nodes := 1 } (0, 0)).trail.length ≤ (unitsF q.cl F.all 1024 0 0 0).2 := by
    rw [hU]
    simpa using h2
  rw [Nat.zero_add] at h3
  exact Nat.le_trans h3 h5

/-! ### What is told -/
/-- The verdict: kind, nodes, lemmas, text. -/
structure Vd where
  kind : Nat
  nodes : Nat
  lemmas : Nat
  text : List UInt8
def verdict (q : QS) (budget room : Nat) : Vd :=
  let r := solveM q budget room
  ⟨r.2.1, r.1.nodes, r.1.most, if r.2.1 = 0 then [] else textP (r.2.1 == 2) (shortOf (r.1.proof r.2.1) r.2.2)⟩
end Go.Proofs.YtgipjjhkhfihpaaDoor

namespace Go.Proofs.YtgipjjhkhfihpaaDoor
open Go.RowKit

/-! ### Verdicts of texts -/
theorem kgood {F : Form} {q : QS} (h : FQ F q) (hb : QB q) : QGood q :=
  ⟨hb, h.nodup, fun c hc s v hl => by
    rw [← h.order]
    refine h.vars c hc v ?_
    cases s with
    | true => exact Or.inl hl
    | false => exact Or.inr hl⟩
/-- A text that was read: the formula on both sides. -/
theorem load_good {l : List UInt8} {q : QS} (h : loadSpec l = .inr q) : QGood q ∧ ∃ F, readSpec l = .inr F ∧ FQ F q ∧ FOk F := by
  have hs := spec_eq l
  rw [h] at hs
  obtain ⟨st, q0, h1, h2, rfl, h3, h4⟩ := hs
  obtain ⟨f1, f2, f3⟩ := fq_of h2 h4 h3
  exact ⟨kgood f1 (qb_of h4 h3), finish st, h1, f1, f2⟩
/-- What holds of a verdict whose budget is not told. -/
structure VFree (F : Form) (room : Nat) (v : Vd) : Prop where
  kind : v.kind = (if fromL (satB F.cl) F.all F.order 0 then 2 else 1)
  one : 1 ≤ v.nodes
  lem : v.lemmas ≤ room
  small : v.nodes ≤ 512
theorem vfree {F : Form} {q : QS} (hq : QGood q) (hF : FQ F q) (hO : FOk F) (room : Nat) : VFree F room (verdict q 0 room) := by
  have h := solve_ok hq hF hO 0 room
  have hk : (verdict q 0 room).kind = (solveM q 0 room).2.1 := rfl
  have hn : (verdict q 0 room).nodes = (solveM q 0 room).1.nodes := rfl
  have hm : (verdict q 0 room).lemmas = (solveM q 0 room).1.most := rfl
  have h0 : (solveM q 0 room).2.1 ≠ 0 := fun e => by have := (h.unknown e).1; omega
  have hvl := hq.qb.vl
  refine ⟨?_, by rw [hn]; exact h.one, by rw [hm]; exact h.lemmas, ?_⟩
  · rw [hk, proves_sound hO _ _ _ (h.proof h0).2.2.1]
    rcases h.kind with e | e | e
    · exact absurd e h0
    · rw [e]; rfl
    · rw [e]; rfl
  · rw [hn]
    have h1 := h.most
    have h3 : 2 ^ (q.vars.length + 1) ≤ 2 ^ 9 := Nat.pow_le_pow_right (by decide) (by omega)
    have h4 : (2 : Nat) ^ 9 = 512 := by decide
    omega
theorem VFree.two {F : Form} {room : Nat} {v : Vd} (h : VFree F room v) : v.kind = 1 ∨ v.kind = 2 := by
  rw [h.kind]; split
  · exact Or.inr rfl
  · exact Or.inl rfl
/-- The verdict of a text, and its proof. -/
def vkind (l : List UInt8) : Nat × List UInt8 := match loadSpec l with
  | .inl _ => (0, [])
  | .inr q => ((verdict q 0 8).kind, (verdict q 0 8).text)
theorem vkind_bad {l : List UInt8} {a : Nat × Nat} (h : loadSpec l = .inl a) : vkind l = (0, []) := by unfold vkind; rw [h]
theorem vkind_good {l : List UInt8} {q : QS} (h : loadSpec l = .inr q) : vkind l = ((verdict q 0 8).kind, (verdict q 0 8).text) := by unfold vkind; rw [h]
theorem vkind_two {l : List UInt8} {q : QS} (h : loadSpec l = .inr q) : (vkind l).1 = 1 ∨ (vkind l).1 = 2 := by
  obtain ⟨hq, F, _, hF, hO⟩ := load_good h
  rw [vkind_good h]
  exact (vfree hq hF hO 8).two
theorem vkind_nil : (vkind []).1 = 2 := by kernel_rfl
theorem vkind_c : (vkind [99, 10]).1 = 1 := by kernel_rfl
end Go.Proofs.YtgipjjhkhfihpaaDoor

namespace Go.Proofs.YtgipjjhkhfihpaaDoor
open Go.RowKit

theorem alloc_new_at {w : World} {o : Obj} {n : Nat} (h : n = w.heap.size) : (w.alloc o).heap[n]? = some o := by subst h; exact heap_alloc_new w o
/-- A row whose block lies below B stays where all blocks below B do. -/
theorem own_under {w w' : World} {B base : Nat} {e : TypeId} {size : Nat} {v : Value} {n : Nat} {xs : List Value} (h : w.ownsRow base e size v n xs) (hl : ∀ k, v.ownBlock = some k → k < B) (hb : Below B w w') : w'.ownsRow base e size v n xs := by
  obtain ⟨h1, h2⟩ := h
  refine ⟨h1, ?_⟩
  rcases h2 with h2 | ⟨g, cap, cur, rfl, hg, hh, h3⟩
  · exact Or.inl h2
  · exact Or.inr ⟨g, cap, cur, rfl, hg, (hb.block g (hl g rfl)).trans hh, h3⟩

set_option maxRecDepth 100000 in
set_option maxHeartbeats 800000 in
theorem isPivot_any (b o : Nat) (kind : Nat) (v : Nat) (u : Bool) (w : World) (hc : w.cell? ⟨b, o, none⟩ = some (.int .i64 kind)) :
    Calls Tryd.prog 84 #[.pointer (some ⟨b, o, none⟩), .agg #[.int .i64 v, .bool u]] w fun e w' => e = .returned (.bool (pivotB kind u)) ∧ Below w.heap.size w w' := by
  have hbw := cell_lt hc
  have HE : Hid (((kind : Int) == 2) = (kind == 2)) := hide (by rw [Bool.eq_iff_iff, beq_iff_eq, beq_iff_eq]; omega)
  go_enter Tryd.func84, Tryd.ntmps84
  go_wp2_with fail
  go_quiet (fail)
  go_wp2_with fail
  go_ret
  exact ⟨ret_bool (by rw [unhide HE]; rfl), below_drewN ((Below.refl _ _).alloc (Nat.le_refl _) _) nq⟩

set_option maxRecDepth 100000 in
set_option maxHeartbeats 800000 in
theorem plits_any (base b o : Nat) (p : List Stp) (vS : Value) (n : Nat) (w : World) (hs : w.cell? ⟨b, o + 1, none⟩ = some vS) (hown : w.ownsRow base 76 6 vS p.length (psCells p)) (hl : p.length ≤ 1048576) :
    Calls Tryd.prog 50 #[.pointer (some ⟨b, o, none⟩), .int .i64 n] w fun e w' => e = .returned (SetV (litsAt p n)) ∧ Below w.heap.size w w' := by
  obtain ⟨aS, cS, rfl⟩ := own_form hown
  have hbw := cell_lt hs
  by_cases h1 : n < 1
  · have HL : Hid (litsAt p n = (0, 0)) := hide (litsAt_out p n (Or.inl h1))
    have e : n = 0 := by omega
    subst e
    clear h1
    go_enter Tryd.func50, Tryd.ntmps50
    go_wp2_with fail
    refine bodyPost_ret (v := SetV (0, 0)) (by simp [results, Tryd.results50, go_sem]) rfl ⟨by rw [unhide HL], ?_⟩
    exact (Below.refl _ _).alloc (Nat.le_refl _) _
  · have hd1 : decide ((n : Int) < 1) = false := by simp; omega
    by_cases h2 : p.length < n
    · have HL : Hid (litsAt p n = (0, 0)) := hide (litsAt_out p n (Or.inr h2))
      have hd2 : decide (p.length < n) = true := by simpa using h2
      clear h1 h2
      go_enter Tryd.func50, Tryd.ntmps50
      go_wp2_with fail
      refine bodyPost_ret (v := SetV (0, 0)) (by simp [results, Tryd.results50, go_sem]) rfl ⟨by rw [unhide HL], ?_⟩
      exact (Below.refl _ _).alloc (Nat.le_refl _) _
    · obtain ⟨m, rfl⟩ : ∃ m, n = m + 1 := ⟨n - 1, by omega⟩
      have hm : m < p.length := by omega
      have hd2 : decide (p.length < m + 1) = false := by simp; omega
      have hd3 : decide ((p.length : Int) < ((m : Int) + 1)) = false := by simp; omega
      have hd4 : decide ((m : Int) + 1 < 1) = false := by simp; omega
      have HL : Hid (litsAt p (m + 1) = p[m].lits) := hide (litsAt_in p m hm)
      obtain ⟨g, cap, hVe, hg, hg', _, hcell⟩ := own_pos hown (by omega)
      injection hVe with hVe _ hV2
      subst hVe hV2
      have hx0 : w.cell? ⟨g, m * 6 + 4, none⟩ = some (.int .i64 (p[m].lits.1 : Int)) := hcell _ _ (psCells_at p m 4 hm (by omega))
      have hx1 : w.cell? ⟨g, m * 6 + 5, none⟩ = some (.int .i64 (p[m].lits.2 : Int)) := hcell _ _ (psCells_at p m 5 hm (by omega))
      clear hcell h1 h2
      generalize p[m].lits = c at *
      obtain ⟨c1, c2⟩ := c
      dsimp only at *
      go_enter Tryd.func50, Tryd.ntmps50
      go_wp2_with fail
      refine bodyPost_ret (v := SetV (c1, c2)) (by simp [results, Tryd.results50, go_sem]) rfl ⟨by rw [unhide HL], ?_⟩
      exact (Below.refl _ _).alloc (Nat.le_refl _) _

abbrev StpV (s : Stp) : Value := .agg #[.int .i64 (s.rule : Int), .int .i64 (s.first : Int), .int .i64 (s.second : Int), .int .i64 (s.var : Int), .int .i64 (s.lits.1 : Int), .int .i64 (s.lits.2 : Int)]

set_option maxRecDepth 100000 in
set_option maxHeartbeats 800000 in
theorem resolvent_any (base b o : Nat) (p : List Stp) (vS : Value) (s : Stp) (w : World) (hs : w.cell? ⟨b, o + 1, none⟩ = some vS) (hown : w.ownsRow base 76 6 vS p.length (psCells p)) (hl : p.length ≤ 1048576) (hb : ∀ s ∈ p, s.lits.1 < 512 ∧ s.lits.2 < 512) :
    Calls Tryd.prog 68 #[.pointer (some ⟨b, o, none⟩), StpV s] w fun e w' => e = .returned (SetV (without2 (litsAt p s.first) (litsAt p s.second) s.var)) ∧ Below w.heap.size w w' := by
  have hbw := cell_lt hs
  have hl1 := litsAt_lt p hb s.first
  have hl2 := litsAt_lt p hb s.second
  have HW : Hid (without2 (litsAt p s.first) (litsAt p s.second) s.var = without ((litsAt p s.first).1 ||| (litsAt p s.second).1, (litsAt p s.first).2 ||| (litsAt p s.second).2) s.var) := hide rfl
  obtain ⟨sr, sf, ss, sv, sl⟩ := s
  obtain ⟨sl1, sl2⟩ := sl
  dsimp only at *
  go_enter Tryd.func68, Tryd.ntmps68
  go_wp2_with fail
  generalize hw0 : ((w.alloc (.cells #[.int .i64 (sr : Int), .int .i64 (sf : Int), .int .i64 (ss : Int), .int .i64 (sv : Int), .int .i64 (sl1 : Int), .int .i64 (sl2 : Int)] 76)).alloc (.cells #[.int .i64 0, .int .i64 0] 63)) = u1
  have hB : Below w.heap.size w u1 := by rw [← hw0]; exact ((Below.refl _ _).alloc (Nat.le_refl _) _).alloc (by simp) _
  have hst : u1.heap[w.heap.size]? = some (.cells #[.int .i64 (sr : Int), .int .i64 (sf : Int), .int .i64 (ss : Int), .int .i64 (sv : Int), .int .i64 (sl1 : Int), .int .i64 (sl2 : Int)] 76 (0, 0)) := by rw [← hw0, heap_alloc_old _ _ (by simp)]; exact alloc_new_at (by simp)
  have hrs : u1.heap[w.heap.size + 1]? = some (.cells #[.int .i64 0, .int .i64 0] 63 (0, 0)) := by rw [← hw0]; exact alloc_new_at (by simp)
  clear hw0
  have cst0 : u1.cell? ⟨w.heap.size, 0, none⟩ = some (.int .i64 (sr : Int)) := by rw [blk_cell hst]; rfl
  have cst1 : u1.cell? ⟨w.heap.size, 1, none⟩ = some (.int .i64 (sf : Int)) := by rw [blk_cell hst]; rfl
  have cst2 : u1.cell? ⟨w.heap.size, 2, none⟩ = some (.int .i64 (ss : Int)) := by rw [blk_cell hst]; rfl
  have cst3 : u1.cell? ⟨w.heap.size, 3, none⟩ = some (.int .i64 (sv : Int)) := by rw [blk_cell hst]; rfl
  have cst4 : u1.cell? ⟨w.heap.size, 4, none⟩ = some (.int .i64 (sl1 : Int)) := by rw [blk_cell hst]; rfl
  have cst5 : u1.cell? ⟨w.heap.size, 5, none⟩ = some (.int .i64 (sl2 : Int)) := by rw [blk_cell hst]; rfl
  have lst := blk_lt hst
  have crs0 : u1.cell? ⟨w.heap.size + 1, 0, none⟩ = some (.int .i64 0) := by rw [blk_cell hrs]; rfl
  have crs1 : u1.cell? ⟨w.heap.size + 1, 1, none⟩ = some (.int .i64 0) := by rw [blk_cell hrs]; rfl
  have lrs := blk_lt hrs
  have hc : u1.cell? ⟨b, o + 1, none⟩ = some vS := by rw [hB.cell (p := ⟨b, o + 1, none⟩) hbw]; exact hs
  have hbw2 : b < u1.heap.size := Nat.lt_of_lt_of_le hbw hB.size
  refine (plits_any base b o p vS sf _ hc (own_below hown hB) hl).mono ?_
  rintro e u2 ⟨rfl, b2⟩
  replace hB := hB.trans (b2.mono hB.size)
  replace hst := (b2.block _ (blk_lt hst)).trans hst
  replace cst0 : u2.cell? ⟨w.heap.size, 0, none⟩ = some (.int .i64 (sr : Int)) := by rw [blk_cell hst]; rfl
  replace cst1 : u2.cell? ⟨w.heap.size, 1, none⟩ = some (.int .i64 (sf : Int)) := by rw [blk_cell hst]; rfl
  replace cst2 : u2.cell? ⟨w.heap.size, 2, none⟩ = some (.int .i64 (ss : Int)) := by rw [blk_cell hst]; rfl
  replace cst3 : u2.cell? ⟨w.heap.size, 3, none⟩ = some (.int .i64 (sv : Int)) := by rw [blk_cell hst]; rfl
  replace cst4 : u2.cell? ⟨w.heap.size, 4, none⟩ = some (.int .i64 (sl1 : Int)) := by rw [blk_cell hst]; rfl
  replace cst5 : u2.cell? ⟨w.heap.size, 5, none⟩ = some (.int .i64 (sl2 : Int)) := by rw [blk_cell hst]; rfl
  replace lst := blk_lt hst
  replace hrs := (b2.block _ (blk_lt hrs)).trans hrs
  replace crs0 : u2.cell? ⟨w.heap.size + 1, 0, none⟩ = some (.int .i64 0) := by rw [blk_cell hrs]; rfl
  replace crs1 : u2.cell? ⟨w.heap.size + 1, 1, none⟩ = some (.int .i64 0) := by rw [blk_cell hrs]; rfl
  replace lrs := blk_lt hrs
  replace hc : u2.cell? ⟨b, o + 1, none⟩ = some vS := by rw [hB.cell (p := ⟨b, o + 1, none⟩) hbw]; exact hs
  replace hbw2 : b < u2.heap.size := Nat.lt_of_lt_of_le hbw hB.size
  generalize hea : litsAt p sf = a at *
  have HEA := hide hea
  clear hea
  obtain ⟨a1, a2⟩ := a
  dsimp only at *
  go_wp2_with fail
  generalize hw0 : u2.alloc (.cells #[.int .i64 (a1 : Int), .int .i64 (a2 : Int)] 63) = u3
  have b3 : Below u2.heap.size u2 u3 := by rw [← hw0]; exact (Below.refl _ _).alloc (Nat.le_refl _) _
  have hfi : u3.heap[u2.heap.size]? = some (.cells #[.int .i64 (a1 : Int), .int .i64 (a2 : Int)] 63 (0, 0)) := by rw [← hw0]; exact heap_alloc_new _ _
  clear hw0
  replace hB := hB.trans (b3.mono hB.size)
  replace hst := (b3.block _ (blk_lt hst)).trans hst
  replace cst0 : u3.cell? ⟨w.heap.size, 0, none⟩ = some (.int .i64 (sr : Int)) := by rw [blk_cell hst]; rfl
  replace cst1 : u3.cell? ⟨w.heap.size, 1, none⟩ = some (.int .i64 (sf : Int)) := by rw [blk_cell hst]; rfl
  replace cst2 : u3.cell? ⟨w.heap.size, 2, none⟩ = some (.int .i64 (ss : Int)) := by rw [blk_cell hst]; rfl
  replace cst3 : u3.cell? ⟨w.heap.size, 3, none⟩ = some (.int .i64 (sv : Int)) := by rw [blk_cell hst]; rfl
  replace cst4 : u3.cell? ⟨w.heap.size, 4, none⟩ = some (.int .i64 (sl1 : Int)) := by rw [blk_cell hst]; rfl
  replace cst5 : u3.cell? ⟨w.heap.size, 5, none⟩ = some (.int .i64 (sl2 : Int)) := by rw [blk_cell hst]; rfl
  replace lst := blk_lt hst
  replace hrs := (b3.block _ (blk_lt hrs)).trans hrs
  replace crs0 : u3.cell? ⟨w.heap.size + 1, 0, none⟩ = some (.int .i64 0) := by rw [blk_cell hrs]; rfl
  replace crs1 : u3.cell? ⟨w.heap.size + 1, 1, none⟩ = some (.int .i64 0) := by rw [blk_cell hrs]; rfl
  replace lrs := blk_lt hrs
  replace hc : u3.cell? ⟨b, o + 1, none⟩ = some vS := by rw [hB.cell (p := ⟨b, o + 1, none⟩) hbw]; exact hs
  replace hbw2 : b < u3.heap.size := Nat.lt_of_lt_of_le hbw hB.size
  have cfi0 : u3.cell? ⟨u2.heap.size, 0, none⟩ = some (.int .i64 (a1 : Int)) := by rw [blk_cell hfi]; rfl
  have cfi1 : u3.cell? ⟨u2.heap.size, 1, none⟩ = some (.int .i64 (a2 : Int)) := by rw [blk_cell hfi]; rfl
  have lfi := blk_lt hfi
  refine (plits_any base b o p vS ss _ hc (own_below hown hB) hl).mono ?_
  rintro e u4 ⟨rfl, b4⟩
  replace hB := hB.trans (b4.mono hB.size)
  replace hst := (b4.block _ (blk_lt hst)).trans hst
  replace cst0 : u4.cell? ⟨w.heap.size, 0, none⟩ = some (.int .i64 (sr : Int)) := by rw [blk_cell hst]; rfl
  replace cst1 : u4.cell? ⟨w.heap.size, 1, none⟩ = some (.int .i64 (sf : Int)) := by rw [blk_cell hst]; rfl
  replace cst2 : u4.cell? ⟨w.heap.size, 2, none⟩ = some (.int .i64 (ss : Int)) := by rw [blk_cell hst]; rfl
  replace cst3 : u4.cell? ⟨w.heap.size, 3, none⟩ = some (.int .i64 (sv : Int)) := by rw [blk_cell hst]; rfl
  replace cst4 : u4.cell? ⟨w.heap.size, 4, none⟩ = some (.int .i64 (sl1 : Int)) := by rw [blk_cell hst]; rfl
  replace cst5 : u4.cell? ⟨w.heap.size, 5, none⟩ = some (.int .i64 (sl2 : Int)) := by rw [blk_cell hst]; rfl
  replace lst := blk_lt hst
  replace hrs := (b4.block _ (blk_lt hrs)).trans hrs
  replace crs0 : u4.cell? ⟨w.heap.size + 1, 0, none⟩ = some (.int .i64 0) := by rw [blk_cell hrs]; rfl
  replace crs1 : u4.cell? ⟨w.heap.size + 1, 1, none⟩ = some (.int .i64 0) := by rw [blk_cell hrs]; rfl
  replace lrs := blk_lt hrs
  replace hfi := (b4.block _ (blk_lt hfi)).trans hfi
  replace cfi0 : u4.cell? ⟨u2.heap.size, 0, none⟩ = some (.int .i64 (a1 : Int)) := by rw [blk_cell hfi]; rfl
  replace cfi1 : u4.cell? ⟨u2.heap.size, 1, none⟩ = some (.int .i64 (a2 : Int)) := by rw [blk_cell hfi]; rfl
  replace lfi := blk_lt hfi
  replace hc : u4.cell? ⟨b, o + 1, none⟩ = some vS := by rw [hB.cell (p := ⟨b, o + 1, none⟩) hbw]; exact hs
  replace hbw2 : b < u4.heap.size := Nat.lt_of_lt_of_le hbw hB.size
  generalize hea : litsAt p ss = a at *
  have HEB := hide hea
  clear hea
  obtain ⟨d1, d2⟩ := a
  dsimp only at *
  go_wp2_with fail
  generalize hw0 : u4.alloc (.cells #[.int .i64 (d1 : Int), .int .i64 (d2 : Int)] 63) = u5
  have b5 : Below u4.heap.size u4 u5 := by rw [← hw0]; exact (Below.refl _ _).alloc (Nat.le_refl _) _
  have hse : u5.heap[u4.heap.size]? = some (.cells #[.int .i64 (d1 : Int), .int .i64 (d2 : Int)] 63 (0, 0)) := by rw [← hw0]; exact heap_alloc_new _ _
  clear hw0
  replace hB := hB.trans (b5.mono hB.size)
  replace hst := (b5.block _ (blk_lt hst)).trans hst
  replace cst0 : u5.cell? ⟨w.heap.size, 0, none⟩ = some (.int .i64 (sr : Int)) := by rw [blk_cell hst]; rfl
  replace cst1 : u5.cell? ⟨w.heap.size, 1, none⟩ = some (.int .i64 (sf : Int)) := by rw [blk_cell hst]; rfl
  replace cst2 : u5.cell? ⟨w.heap.size, 2, none⟩ = some (.int .i64 (ss : Int)) := by rw [blk_cell hst]; rfl
  replace cst3 : u5.cell? ⟨w.heap.size, 3, none⟩ = some (.int .i64 (sv : Int)) := by rw [blk_cell hst]; rfl
  replace cst4 : u5.cell? ⟨w.heap.size, 4, none⟩ = some (.int .i64 (sl1 : Int)) := by rw [blk_cell hst]; rfl
  replace cst5 : u5.cell? ⟨w.heap.size, 5, none⟩ = some (.int .i64 (sl2 : Int)) := by rw [blk_cell hst]; rfl
  replace lst := blk_lt hst
  replace hrs := (b5.block _ (blk_lt hrs)).trans hrs
  replace crs0 : u5.cell? ⟨w.heap.size + 1, 0, none⟩ = some (.int .i64 0) := by rw [blk_cell hrs]; rfl
  replace crs1 : u5.cell? ⟨w.heap.size + 1, 1, none⟩ = some (.int .i64 0) := by rw [blk_cell hrs]; rfl
  replace lrs := blk_lt hrs
  replace hfi := (b5.block _ (blk_lt hfi)).trans hfi
  replace cfi0 : u5.cell? ⟨u2.heap.size, 0, none⟩ = some (.int .i64 (a1 : Int)) := by rw [blk_cell hfi]; rfl
  replace cfi1 : u5.cell? ⟨u2.heap.size, 1, none⟩ = some (.int .i64 (a2 : Int)) := by rw [blk_cell hfi]; rfl
  replace lfi := blk_lt hfi
  replace hc : u5.cell? ⟨b, o + 1, none⟩ = some vS := by rw [hB.cell (p := ⟨b, o + 1, none⟩) hbw]; exact hs
  replace hbw2 : b < u5.heap.size := Nat.lt_of_lt_of_le hbw hB.size
  have cse0 : u5.cell? ⟨u4.heap.size, 0, none⟩ = some (.int .i64 (d1 : Int)) := by rw [blk_cell hse]; rfl
  have cse1 : u5.cell? ⟨u4.heap.size, 1, none⟩ = some (.int .i64 (d2 : Int)) := by rw [blk_cell hse]; rfl
  have lse := blk_lt hse
  refine (union_any a1 a2 d1 d2 _ hl1.1 hl1.2 hl2.1 hl2.2).mono ?_
  rintro e u6 ⟨rfl, b6⟩
  replace hB := hB.trans (b6.mono hB.size)
  replace hst := (b6.block _ (blk_lt hst)).trans hst
  replace cst0 : u6.cell? ⟨w.heap.size, 0, none⟩ = some (.int .i64 (sr : Int)) := by rw [blk_cell hst]; rfl
  replace cst1 : u6.cell? ⟨w.heap.size, 1, none⟩ = some (.int .i64 (sf : Int)) := by rw [blk_cell hst]; rfl
  replace cst2 : u6.cell? ⟨w.heap.size, 2, none⟩ = some (.int .i64 (ss : Int)) := by rw [blk_cell hst]; rfl
  replace cst3 : u6.cell? ⟨w.heap.size, 3, none⟩ = some (.int .i64 (sv : Int)) := by rw [blk_cell hst]; rfl
  replace cst4 : u6.cell? ⟨w.heap.size, 4, none⟩ = some (.int .i64 (sl1 : Int)) := by rw [blk_cell hst]; rfl
  replace cst5 : u6.cell? ⟨w.heap.size, 5, none⟩ = some (.int .i64 (sl2 : Int)) := by rw [blk_cell hst]; rfl
  replace lst := blk_lt hst
  replace hrs := (b6.block _ (blk_lt hrs)).trans hrs
  replace crs0 : u6.cell? ⟨w.heap.size + 1, 0, none⟩ = some (.int .i64 0) := by rw [blk_cell hrs]; rfl
  replace crs1 : u6.cell? ⟨w.heap.size + 1, 1, none⟩ = some (.int .i64 0) := by rw [blk_cell hrs]; rfl
  replace lrs := blk_lt hrs
  replace hfi := (b6.block _ (blk_lt hfi)).trans hfi
  replace cfi0 : u6.cell? ⟨u2.heap.size, 0, none⟩ = some (.int .i64 (a1 : Int)) := by rw [blk_cell hfi]; rfl
  replace cfi1 : u6.cell? ⟨u2.heap.size, 1, none⟩ = some (.int .i64 (a2 : Int)) := by rw [blk_cell hfi]; rfl
  replace lfi := blk_lt hfi
  replace hse := (b6.block _ (blk_lt hse)).trans hse
  replace cse0 : u6.cell? ⟨u4.heap.size, 0, none⟩ = some (.int .i64 (d1 : Int)) := by rw [blk_cell hse]; rfl
  replace cse1 : u6.cell? ⟨u4.heap.size, 1, none⟩ = some (.int .i64 (d2 : Int)) := by rw [blk_cell hse]; rfl
  replace lse := blk_lt hse
  replace hc : u6.cell? ⟨b, o + 1, none⟩ = some vS := by rw [hB.cell (p := ⟨b, o + 1, none⟩) hbw]; exact hs
  replace hbw2 : b < u6.heap.size := Nat.lt_of_lt_of_le hbw hB.size
  have hu1 := or_lt a1 d1 hl1.1 hl2.1
  have hu2 := or_lt a2 d2 hl1.2 hl2.2
  generalize a1 ||| d1 = pu at *
  generalize a2 ||| d2 = nu at *
  go_wp2_with fail
  generalize hw0 : u6.alloc (.cells #[.int .i64 (pu : Int), .int .i64 (nu : Int)] 63) = u7
  have b7 : Below u6.heap.size u6 u7 := by rw [← hw0]; exact (Below.refl _ _).alloc (Nat.le_refl _) _
  have hbo : u7.heap[u6.heap.size]? = some (.cells #[.int .i64 (pu : Int), .int .i64 (nu : Int)] 63 (0, 0)) := by rw [← hw0]; exact heap_alloc_new _ _
  clear hw0
  replace hB := hB.trans (b7.mono hB.size)
  replace hst := (b7.block _ (blk_lt hst)).trans hst
  replace cst0 : u7.cell? ⟨w.heap.size, 0, none⟩ = some (.int .i64 (sr : Int)) := by rw [blk_cell hst]; rfl
  replace cst1 : u7.cell? ⟨w.heap.size, 1, none⟩ = some (.int .i64 (sf : Int)) := by rw [blk_cell hst]; rfl
  replace cst2 : u7.cell? ⟨w.heap.size, 2, none⟩ = some (.int .i64 (ss : Int)) := by rw [blk_cell hst]; rfl
  replace cst3 : u7.cell? ⟨w.heap.size, 3, none⟩ = some (.int .i64 (sv : Int)) := by rw [blk_cell hst]; rfl
  replace cst4 : u7.cell? ⟨w.heap.size, 4, none⟩ = some (.int .i64 (sl1 : Int)) := by rw [blk_cell hst]; rfl
  replace cst5 : u7.cell? ⟨w.heap.size, 5, none⟩ = some (.int .i64 (sl2 : Int)) := by rw [blk_cell hst]; rfl
  replace lst := blk_lt hst
  replace hrs := (b7.block _ (blk_lt hrs)).trans hrs
  replace crs0 : u7.cell? ⟨w.heap.size + 1, 0, none⟩ = some (.int .i64 0) := by rw [blk_cell hrs]; rfl
  replace crs1 : u7.cell? ⟨w.heap.size + 1, 1, none⟩ = some (.int .i64 0) := by rw [blk_cell hrs]; rfl
  replace lrs := blk_lt hrs
  replace hfi := (b7.block _ (blk_lt hfi)).trans hfi
  replace cfi0 : u7.cell? ⟨u2.heap.size, 0, none⟩ = some (.int .i64 (a1 : Int)) := by rw [blk_cell hfi]; rfl
  replace cfi1 : u7.cell? ⟨u2.heap.size, 1, none⟩ = some (.int .i64 (a2 : Int)) := by rw [blk_cell hfi]; rfl
  replace lfi := blk_lt hfi
  replace hse := (b7.block _ (blk_lt hse)).trans hse
  replace cse0 : u7.cell? ⟨u4.heap.size, 0, none⟩ = some (.int .i64 (d1 : Int)) := by rw [blk_cell hse]; rfl
  replace cse1 : u7.cell? ⟨u4.heap.size, 1, none⟩ = some (.int .i64 (d2 : Int)) := by rw [blk_cell hse]; rfl
  replace lse := blk_lt hse
  replace hc : u7.cell? ⟨b, o + 1, none⟩ = some vS := by rw [hB.cell (p := ⟨b, o + 1, none⟩) hbw]; exact hs
  replace hbw2 : b < u7.heap.size := Nat.lt_of_lt_of_le hbw hB.size
  have cbo0 : u7.cell? ⟨u6.heap.size, 0, none⟩ = some (.int .i64 (pu : Int)) := by rw [blk_cell hbo]; rfl
  have cbo1 : u7.cell? ⟨u6.heap.size, 1, none⟩ = some (.int .i64 (nu : Int)) := by rw [blk_cell hbo]; rfl
  have lbo := blk_lt hbo
  refine (withoutVar_any pu nu sv _ hu1 hu2).mono ?_
  rintro e u8 ⟨rfl, b8⟩
  replace hB := hB.trans (b8.mono hB.size)
  replace hst := (b8.block _ (blk_lt hst)).trans hst
  replace cst0 : u8.cell? ⟨w.heap.size, 0, none⟩ = some (.int .i64 (sr : Int)) := by rw [blk_cell hst]; rfl
  replace cst1 : u8.cell? ⟨w.heap.size, 1, none⟩ = some (.int .i64 (sf : Int)) := by rw [blk_cell hst]; rfl
  replace cst2 : u8.cell? ⟨w.heap.size, 2, none⟩ = some (.int .i64 (ss : Int)) := by rw [blk_cell hst]; rfl
  replace cst3 : u8.cell? ⟨w.heap.size, 3, none⟩ = some (.int .i64 (sv : Int)) := by rw [blk_cell hst]; rfl
  replace cst4 : u8.cell? ⟨w.heap.size, 4, none⟩ = some (.int .i64 (sl1 : Int)) := by rw [blk_cell hst]; rfl
  replace cst5 : u8.cell? ⟨w.heap.size, 5, none⟩ = some (.int .i64 (sl2 : Int)) := by rw [blk_cell hst]; rfl
  replace lst := blk_lt hst
  replace hrs := (b8.block _ (blk_lt hrs)).trans hrs
  replace crs0 : u8.cell? ⟨w.heap.size + 1, 0, none⟩ = some (.int .i64 0) := by rw [blk_cell hrs]; rfl
  replace crs1 : u8.cell? ⟨w.heap.size + 1, 1, none⟩ = some (.int .i64 0) := by rw [blk_cell hrs]; rfl
  replace lrs := blk_lt hrs
  replace hfi := (b8.block _ (blk_lt hfi)).trans hfi
  replace cfi0 : u8.cell? ⟨u2.heap.size, 0, none⟩ = some (.int .i64 (a1 : Int)) := by rw [blk_cell hfi]; rfl
  replace cfi1 : u8.cell? ⟨u2.heap.size, 1, none⟩ = some (.int .i64 (a2 : Int)) := by rw [blk_cell hfi]; rfl
  replace lfi := blk_lt hfi
  replace hse := (b8.block _ (blk_lt hse)).trans hse
  replace cse0 : u8.cell? ⟨u4.heap.size, 0, none⟩ = some (.int .i64 (d1 : Int)) := by rw [blk_cell hse]; rfl
  replace cse1 : u8.cell? ⟨u4.heap.size, 1, none⟩ = some (.int .i64 (d2 : Int)) := by rw [blk_cell hse]; rfl
  replace lse := blk_lt hse
  replace hbo := (b8.block _ (blk_lt hbo)).trans hbo
  replace cbo0 : u8.cell? ⟨u6.heap.size, 0, none⟩ = some (.int .i64 (pu : Int)) := by rw [blk_cell hbo]; rfl
  replace cbo1 : u8.cell? ⟨u6.heap.size, 1, none⟩ = some (.int .i64 (nu : Int)) := by rw [blk_cell hbo]; rfl
  replace lbo := blk_lt hbo
  replace hc : u8.cell? ⟨b, o + 1, none⟩ = some vS := by rw [hB.cell (p := ⟨b, o + 1, none⟩) hbw]; exact hs
  replace hbw2 : b < u8.heap.size := Nat.lt_of_lt_of_le hbw hB.size
  have hlt := without_lt (pu, nu) sv ⟨hu1, hu2⟩
  generalize without (pu, nu) sv = cw at *
  obtain ⟨p', n'⟩ := cw
  dsimp only at *
  have z0 := blk_free hrs 0
  have z1 := blk_free hrs 1
  have hR := blk_set (blk_set hrs 0 (.int .i64 (p' : Int))) 1 (.int .i64 (n' : Int))
  have j0 := blk_cell hR 0
  have j1 := blk_cell hR 1
  go_wp2_with fail
  refine bodyPost_ret (v := SetV (p', n')) (by simp [results, Tryd.results68, go_sem, j0, j1]) rfl ⟨by rw [unhide HEA, unhide HEB, unhide HW], ?_⟩
  exact (hB.setCell (p := ⟨w.heap.size + 1, 0, none⟩) (Nat.le_succ _) _).setCell (p := ⟨w.heap.size + 1, 1, none⟩) (Nat.le_succ _) _
end Go.Proofs.YtgipjjhkhfihpaaDoor

namespace Go.Proofs.YtgipjjhkhfihpaaDoor
open Go.RowKit

/-! ### reduced -/
set_option maxRecDepth 100000 in
set_option maxHeartbeats 1600000 in
theorem preduced_any (base b o : Nat) (q : QS) (kind : Nat) (vV vC : Value) (c : Nat × Nat) (w : World) (hk : w.cell? ⟨b, o, none⟩ = some (.int .i64 kind)) (hoV : w.ownsRow base 81 2 vV q.vars.length (varCells q.vars)) (hQ : QB q) (hc : c.1 < 512 ∧ c.2 < 512) (hCf : ∃ aC nC cC, vC = .slice aC nC cC) :
    Calls Tryd.prog 79 #[.pointer (some ⟨b, o, none⟩), .agg #[vV, vC], SetV c] w fun e w' => e = .returned (SetV (redQ kind q.vars.reverse c)) ∧ Below w.heap.size w w' := by
  obtain ⟨aV, cV, rfl⟩ := own_form hoV
  obtain ⟨aC, nC, cC, rfl⟩ := hCf
  have hbw := cell_lt hk
  have hvl := hQ.vl
  go_enter Tryd.func79, Tryd.ntmps79
  obtain ⟨p0, n0⟩ := c
  go_wp2_with fail
  go_loopg [7] (q.vars.length + 1) (fun m i wx => ∃ (k p n : Nat), i = .int .i64 ((k : Int) - 1) ∧ k + 1 ≤ m ∧ m ≤ k + 1 ∧ k ≤ q.vars.length ∧ p < 512 ∧ n < 512 ∧ redQ kind q.vars.reverse (p0, n0) = redQ kind (q.vars.take k).reverse (p, n) ∧ Below w.heap.size w wx ∧
     wx.heap[w.heap.size]? = some (.cells #[.slice aV q.vars.length cV, .slice aC nC cC] 44 (0, 0)) ∧ wx.heap[w.heap.size + 1]? = some (.cells #[.int .i64 p, .int .i64 n] 63 (0, 0)) ∧ wx.heap[w.heap.size + 2]? = some (.cells #[.int .i64 0, .int .i64 0] 63 (0, 0)))
  case atStart => exact ⟨q.vars.length, p0, n0, by go_num, by omega, by omega, by omega, hc.1, hc.2, by rw [List.take_length], (((Below.refl _ _).alloc (Nat.le_refl _) _).alloc (by simp) _).alloc (by simp; omega) _, by rw [heap_alloc_old _ _ (by simp; omega), heap_alloc_old _ _ (by simp)]; exact heap_alloc_new _ _, by rw [heap_alloc_old _ _ (by simp)]; exact alloc_new_at (by simp), alloc_new_at (by simp)⟩
  case round =>
    obtain ⟨k, p, n, rfl, hkm, hkm2, hkl, hp, hn, hred, hb, hfo, hset, hres⟩ := hrel
    have HR := hide hred; clear hred
    have hv0 : wr.cell? ⟨w.heap.size, 0, none⟩ = some (.slice aV q.vars.length cV) := by rw [blk_cell hfo]; rfl
    have hs0 : wr.cell? ⟨w.heap.size + 1, 0, none⟩ = some (.int .i64 p) := by rw [blk_cell hset]; rfl
    have hs1 : wr.cell? ⟨w.heap.size + 1, 1, none⟩ = some (.int .i64 n) := by rw [blk_cell hset]; rfl
    have hr0 : wr.cell? ⟨w.heap.size + 2, 0, none⟩ = some (.int .i64 0) := by rw [blk_cell hres]; rfl
    have hr1 : wr.cell? ⟨w.heap.size + 2, 1, none⟩ = some (.int .i64 0) := by rw [blk_cell hres]; rfl
    have hz0 := blk_free hset 0
    have hz1 := blk_free hset 1
    have hy0 := blk_free hres 0
    have hy1 := blk_free hres 1
    have hbs := blk_lt hres
    have hbs0 : w.heap.size < wr.heap.size := by omega
    have hbs1 : w.heap.size + 1 < wr.heap.size := by omega
    have hbw1 : b < wr.heap.size := by omega
    cases k with
    | zero =>
      have HF : Hid (redQ kind q.vars.reverse (p0, n0) = (p, n)) := hide (by rw [unhide HR]; rfl)
      have hR := blk_set (blk_set hres 0 (.int .i64 p)) 1 (.int .i64 n)
      have j0 := blk_cell hR 0
      have j1 := blk_cell hR 1
      go_wp2_with fail
      refine bodyPost_ret (v := SetV (p, n)) (by simp [results, Tryd.results79, go_sem, j0, j1]) rfl ⟨by rw [unhide HF], ?_⟩
      exact (hb.setCell (p := ⟨w.heap.size + 2, 0, none⟩) (by simp) _).setCell (p := ⟨w.heap.size + 2, 1, none⟩) (by simp) _
    | succ k =>
      have hlt : k < q.vars.length := by omega
      obtain ⟨g, cap, hVe, hg, hg', _, hcell⟩ := own_pos hoV (by omega)
      injection hVe with hVe _ hV2
      subst hVe hV2
      obtain ⟨ha, hb'⟩ := varCells_at q.vars k hlt
      have hx0 : wr.cell? ⟨g, k * 2, none⟩ = some (.int .i64 (q.vars[k].1 : Int)) := by rw [hb.cell (p := ⟨g, k * 2, none⟩) hg']; exact hcell _ _ ha
      have hx1 : wr.cell? ⟨g, k * 2 + 1, none⟩ = some (.bool q.vars[k].2) := by rw [hb.cell (p := ⟨g, k * 2 + 1, none⟩) hg']; exact hcell _ _ hb'
      have hgw : g < wr.heap.size := by omega
      have HST := hide (redQ_step kind q.vars k hlt (p, n))
      clear hcell ha hb'
      generalize q.vars[k] = x at *
      obtain ⟨vn, vu⟩ := x
      dsimp only at *
      go_wp2_with fail
      refine (hasVar_any p n vn _ hp hn).mono ?_
      rintro e w2 ⟨rfl, hb2⟩
      have hw2 : Below wr.heap.size wr w2 := ((Below.refl _ wr).alloc (Nat.le_refl _) _).trans (hb2.mono (by simp))
      have hsz2 := hw2.size
      have hv2 : w2.heap[wr.heap.size]? = some (.cells #[.int .i64 vn, .bool vu] 81 (0, 0)) := (hb2.block _ (by simp)).trans (heap_alloc_new _ _)
      have hfo2 := (hw2.block _ hbs0).trans hfo
      have hset2 := (hw2.block _ hbs1).trans hset
      have hres2 := (hw2.block _ hbs).trans hres
      have hbw2 : Below w.heap.size w w2 := hb.trans (hw2.mono (by omega))
      rw [show ((p ||| n) &&& bitOf vn != 0) = hasVarB (p, n) vn from rfl]
      cases hh : hasVarB (p, n) vn with
      | false =>
        have HF : Hid (redQ kind q.vars.reverse (p0, n0) = redQ kind (q.vars.take k).reverse (p, n)) := hide (by rw [unhide HR, unhide HST, hh]; rfl)
        go_wp2_with fail
        go_roundg (gk - 1)
        case measure => omega
        case rel => exact ⟨k, p, n, by go_num, by omega, by omega, by omega, hp, hn, unhide HF, hbw2, hfo2, hset2, hres2⟩
      | true =>
        have y2 : w2.cell? ⟨b, o, none⟩ = some (.int .i64 kind) := by rw [hbw2.cell (p := ⟨b, o, none⟩) hbw]; exact hk
        have hc0 : w2.cell? ⟨wr.heap.size, 0, none⟩ = some (.int .i64 vn) := by rw [blk_cell hv2]; rfl
        have hc1 : w2.cell? ⟨wr.heap.size, 1, none⟩ = some (.bool vu) := by rw [blk_cell hv2]; rfl
        go_wp2_with fail
        refine (isPivot_any b o kind vn vu w2 y2).mono ?_
        rintro e w3 ⟨rfl, hb3⟩
        have hv3 := (hb3.block _ (blk_lt hv2)).trans hv2
        have hfo3 := (hb3.block _ (blk_lt hfo2)).trans hfo2
        have hset3 := (hb3.block _ (blk_lt hset2)).trans hset2
        have hres3 := (hb3.block _ (blk_lt hres2)).trans hres2
        have hbw3 : Below w.heap.size w w3 := hbw2.trans (hb3.mono hbw2.size)
        have e0 : w3.cell? ⟨w.heap.size + 1, 0, none⟩ = some (.int .i64 p) := by rw [blk_cell hset3]; rfl
        have e1 : w3.cell? ⟨w.heap.size + 1, 1, none⟩ = some (.int .i64 n) := by rw [blk_cell hset3]; rfl
        have f0 : w3.cell? ⟨w.heap.size + 2, 0, none⟩ = some (.int .i64 0) := by rw [blk_cell hres3]; rfl
        have f1 : w3.cell? ⟨w.heap.size + 2, 1, none⟩ = some (.int .i64 0) := by rw [blk_cell hres3]; rfl
        have g0 : w3.cell? ⟨wr.heap.size, 0, none⟩ = some (.int .i64 vn) := by rw [blk_cell hv3]; rfl
        have z0 := blk_free hset3 0
        have z1 := blk_free hset3 1
        have y0 := blk_free hres3 0
        have y1 := blk_free hres3 1
        cases hpv : pivotB kind vu with
        | true =>
          have HF : Hid (redQ kind q.vars.reverse (p0, n0) = (p, n)) := hide (by rw [unhide HR, unhide HST, hh, hpv]; rfl)
          have hR := blk_set (blk_set hres3 0 (.int .i64 p)) 1 (.int .i64 n)
          have j0 := blk_cell hR 0
          have j1 := blk_cell hR 1
          go_wp2_with fail
          refine bodyPost_ret (v := SetV (p, n)) (by simp [results, Tryd.results79, go_sem, j0, j1]) rfl ⟨by rw [unhide HF], ?_⟩
          exact (hbw3.setCell (p := ⟨w.heap.size + 2, 0, none⟩) (by simp) _).setCell (p := ⟨w.heap.size + 2, 1, none⟩) (by simp) _
        | false =>
          have HF : Hid (redQ kind q.vars.reverse (p0, n0) = redQ kind (q.vars.take k).reverse (without (p, n) vn)) := hide (by rw [unhide HR, unhide HST, hh, hpv]; rfl)
          have hwl := without_lt (p, n) vn ⟨hp, hn⟩
          go_wp2_with fail
          refine (withoutVar_any p n vn w3 hp hn).mono ?_
          rintro e w4 ⟨rfl, hb4⟩
          have hfo4 := (hb4.block _ (blk_lt hfo3)).trans hfo3
          have hset4 := (hb4.block _ (blk_lt hset3)).trans hset3
          have hres4 := (hb4.block _ (blk_lt hres3)).trans hres3
          have hbw4 : Below w.heap.size w w4 := hbw3.trans (hb4.mono hbw3.size)
          have i0 : w4.cell? ⟨w.heap.size + 1, 0, none⟩ = some (.int .i64 p) := by rw [blk_cell hset4]; rfl
          have i1 : w4.cell? ⟨w.heap.size + 1, 1, none⟩ = some (.int .i64 n) := by rw [blk_cell hset4]; rfl
          have u0 := blk_free hset4 0
          have u1 := blk_free hset4 1
          generalize without (p, n) vn = cw at *
          obtain ⟨p', n'⟩ := cw
          go_wp2_with fail
          go_roundg (gk - 1)
          case measure => omega
          case rel =>
            refine ⟨k, p', n', by go_num, by omega, by omega, by omega, hwl.1, hwl.2, unhide HF, (hbw4.setCell (p := ⟨w.heap.size + 1, 0, none⟩) (by simp) _).setCell (p := ⟨w.heap.size + 1, 1, none⟩) (by simp) _, ?_, blk_set (blk_set hset4 0 _) 1 _, ?_⟩
            · rw [Below.heap_setCell _ _ _ _ (by simp), Below.heap_setCell _ _ _ _ (by simp)]; exact hfo4
            · rw [Below.heap_setCell _ _ _ _ (by simp), Below.heap_setCell _ _ _ _ (by simp)]; exact hres4
end Go.Proofs.YtgipjjhkhfihpaaDoor
