import Derived.Test.YtgipjjhkhfihpabGreatDoorAC
import Derived.Test.YtgipjjhkhfihpabGreatDoorAF
import Derived.Test.YtgipjjhkhfihpabGreatDoorAD
import Derived.Test.YtgipjjhkhfihpabGreatDoorAB
namespace Go.Proofs.YtgipjjhkhfihpabGreatDoor
open Go.RowKit

/-! ### How a proof is played, as functions -/
abbrev RuleP := (Nat × Nat) × (Nat × Nat)
def ruleW (kind : Nat) (p : List Stp) (s : Stp) : RuleP :=
  if kind = 1 then (swapL s.lits, swapL (minus (litsAt p s.first) s.lits)) else (s.lits, minus (litsAt p s.first) s.lits)
def rulesW (kind : Nat) (p : List Stp) : List RuleP := (p.filter (fun s => s.rule == 4)).map (ruleW kind p)
def fitsW (v : Nat) (vals : Nat × Nat) (r : RuleP) : Bool := emptyB (minus r.1 vals) && hasVarB r.2 v
def wantedW (rs : List RuleP) (vals : Nat × Nat) (v : Nat) : Bool := match rs.find? (fitsW v vals) with
  | some r => hasLit r.2 (v : Int)
  | none => false
/-- The values behind as many variables as there are answers. -/
def valsTo (vs : List Nat) : List Bool → Nat × Nat
  | [] => (0, 0)
  | b :: bs => withLit (valsTo vs bs) (litI (vs.getD bs.length 0) b)

/-! ### Positions -/
theorem valsTo_L (vs : List Nat) (hn : ∀ v ∈ vs, 1 ≤ v ∧ v ≤ 8) : ∀ (bs : List Bool), bs.length ≤ vs.length → ∀ s v, L (valsTo vs bs) s v = true ↔ ∃ j, j < bs.length ∧ vs.getD j 0 = v ∧ bs.reverse.getD j false = s := by
  intro bs
  induction bs with
  | nil => intro _ s v; rw [valsTo, L_zero]; simp
  | cons b bs ih =>
    intro hl s v
    have hl' : bs.length < vs.length := by simp at hl; omega
    have hv := hn (vs.getD bs.length 0) (by rw [List.getD, List.getElem?_eq_getElem hl']; exact List.getElem_mem hl')
    rw [valsTo, L_with _ _ _ hv.1 hv.2, Bool.or_eq_true, ih (by omega) s v]
    constructor
    · rintro (⟨j, h1, h2, h3⟩ | h)
      · refine ⟨j, by simp; omega, h2, ?_⟩
        rw [List.reverse_cons, List.getD, List.getElem?_append_left (by simpa using h1)]; exact h3
      · simp only [Bool.and_eq_true, beq_iff_eq, decide_eq_true_eq] at h
        refine ⟨bs.length, by simp, h.2.symm, ?_⟩
        rw [List.reverse_cons, List.getD, List.getElem?_append_right (by simp)]
        simp [h.1]
    · rintro ⟨j, h1, h2, h3⟩
      by_cases e : j < bs.length
      · refine Or.inl ⟨j, e, h2, ?_⟩
        rw [List.reverse_cons, List.getD, List.getElem?_append_left (by simpa using e)] at h3; exact h3
      · have e2 : j = bs.length := by simp at h1; omega
        subst e2
        rw [List.reverse_cons, List.getD, List.getElem?_append_right (by simp)] at h3
        simp at h3
        refine Or.inr ?_
        rw [h2, h3]; simp
theorem red_pos {q : QS} (hq : QGood q) (k : Nat) : ∀ (n : Nat), n ≤ q.vars.length → ∀ c s i (hi : i < q.vars.length), L c s q.vars[i].1 = true → L (redQ k (q.vars.take n).reverse c) s q.vars[i].1 = false →
    i < n ∧ pivotB k q.vars[i].2 = false ∧ ∀ t j (hj : j < q.vars.length), j < n → L (redQ k (q.vars.take n).reverse c) t q.vars[j].1 = true → j < i := by
  have hne : ∀ i j (hi : i < q.vars.length) (hj : j < q.vars.length), q.vars[i].1 = q.vars[j].1 → i = j := fun i j hi hj e => index_inj hq hi hj e
  intro n
  induction n with
  | zero =>
    intro _ c s i hi h1 h2
    rw [show redQ k (q.vars.take 0).reverse c = c from rfl, h1] at h2
    cases h2
  | succ n ih =>
    intro hn c s i hi h1 h2
    have hnl : n < q.vars.length := by omega
    obtain ⟨m1, m8⟩ := var_ok hq n hnl
    rw [redQ_step k q.vars n hnl c] at h2 ⊢
    by_cases hv : hasVarB c q.vars[n].1 = true
    · rw [if_pos hv] at h2 ⊢
      by_cases hp : pivotB k q.vars[n].2 = true
      · rw [if_pos hp, h1] at h2; cases h2
      · rw [if_neg hp] at h2 ⊢
        have hout : ∀ t, L (redQ k (q.vars.take n).reverse (without c q.vars[n].1)) t q.vars[n].1 = true → False := fun t h => by
          have h' := redQ_sub hq k n (by omega) _ _ _ h
          rw [L_without _ _ m1 m8] at h'
          simp at h'
        by_cases e : i = n
        · subst e
          refine ⟨by omega, by simpa using hp, fun t j hj hjn hl => ?_⟩
          by_cases e2 : j = i
          · subst e2; exact (hout t hl).elim
          · omega
        · have hcw : L (without c q.vars[n].1) s q.vars[i].1 = true := by
            rw [L_without _ _ m1 m8, h1]
            simp only [Bool.true_and, Bool.not_eq_true', decide_eq_false_iff_not]
            exact fun e' => e (hne i n hi hnl e')
          obtain ⟨a1, a2, a3⟩ := ih (by omega) _ s i hi hcw h2
          refine ⟨by omega, a2, fun t j hj hjn hl => ?_⟩
          by_cases e2 : j = n
          · subst e2; exact (hout t hl).elim
          · exact a3 t j hj (by omega) hl
    · rw [if_neg hv] at h2 ⊢
      obtain ⟨a1, a2, a3⟩ := ih (by omega) c s i hi h1 h2
      refine ⟨by omega, a2, fun t j hj hjn hl => ?_⟩
      by_cases e2 : j = n
      · subst e2
        have h' := redQ_sub hq k j (by omega) _ _ _ hl
        rw [hasVar_L _ _ m1 m8] at hv
        exfalso; apply hv
        cases t <;> rw [h'] <;> simp
      · exact a3 t j hj (by omega) hl

/-! ### Who keeps to the rules wins -/
def sgn (kind : Nat) (s : Bool) : Bool := if kind = 1 then !s else s
def Hits (kind : Nat) (V c : Nat × Nat) : Prop := ∀ s v, L c s v = true → L V (sgn kind s) v = true
theorem L_when (kind : Nat) (p : List Stp) (s : Stp) (t : Bool) (v : Nat) : L (ruleW kind p s).1 (sgn kind t) v = L s.lits t v := by
  unfold ruleW sgn
  split
  · rw [L_swap]; simp
  · rfl
theorem L_then (kind : Nat) (p : List Stp) (s : Stp) (t : Bool) (v : Nat) : L (ruleW kind p s).2 (sgn kind t) v = (L (litsAt p s.first) t v && !L s.lits t v) := by
  unfold ruleW sgn
  split
  · rw [L_swap]; simp [L_minus]
  · exact L_minus _ _ _ _
theorem sgn_sgn (kind : Nat) (s : Bool) : sgn kind (sgn kind s) = s := by unfold sgn; split <;> simp
theorem fits_iff (kind : Nat) (p : List Stp) (s : Stp) (v : Nat) (V : Nat × Nat) (h1 : 1 ≤ v) (h8 : v ≤ 8) : fitsW v V (ruleW kind p s) = true ↔ Hits kind V s.lits ∧ ∃ t, L (litsAt p s.first) t v = true ∧ L s.lits t v = false := by
  unfold fitsW
  rw [Bool.and_eq_true, empty_iff, hasVar_L _ _ h1 h8, Bool.or_eq_true]
  constructor
  · rintro ⟨h2, h3⟩
    refine ⟨fun t u ht => ?_, ?_⟩
    · have h := h2 (sgn kind t) u
      rw [L_minus, L_when, ht] at h
      simpa using h
    · rcases h3 with h3 | h3
      · have h := L_then kind p s (sgn kind true) v
        rw [sgn_sgn, h3] at h
        refine ⟨sgn kind true, ?_⟩
        simpa using h.symm
      · have h := L_then kind p s (sgn kind false) v
        rw [sgn_sgn, h3] at h
        refine ⟨sgn kind false, ?_⟩
        simpa using h.symm
  · rintro ⟨h2, t, h3, h4⟩
    refine ⟨fun a u => ?_, ?_⟩
    · have h := L_when kind p s (sgn kind a) u
      rw [sgn_sgn] at h
      rw [L_minus]
      cases ha : L (ruleW kind p s).1 a u with
      | false => rfl
      | true =>
        rw [ha] at h
        have h5 := h2 _ _ h.symm
        rw [sgn_sgn] at h5
        rw [h5]; rfl
    · have h := L_then kind p s t v
      rw [h3, h4] at h
      generalize sgn kind t = a at h
      cases a
      · exact Or.inr h
      · exact Or.inl h
theorem find_rules (kind : Nat) (p : List Stp) (v : Nat) (V : Nat × Nat) (P : List Stp) : ((P.filter (fun s => s.rule == 4)).map (ruleW kind p)).find? (fitsW v V) = (P.find? (fun s => s.rule == 4 && fitsW v V (ruleW kind p s))).map (ruleW kind p) := by
  induction P with
  | nil => rfl
  | cons s P ih =>
    rw [List.filter_cons, List.find?_cons]
    cases h : (s.rule == 4) with
    | true =>
      rw [if_pos rfl, List.map_cons, List.find?_cons, Bool.true_and]
      cases fitsW v V (ruleW kind p s) with
      | true => rfl
      | false => exact ih
    | false =>
      rw [if_neg (by simp), Bool.false_and]
      exact ih
structure Steps2 (q : QS) (kind : Nat) (ss : List Stp) : Prop where
  tags : Tags q kind ss
  lok : ∀ s ∈ ss, LOk q s.lits
  free : ∀ s ∈ ss, Free s.lits
/-- A side that answers by the rules: what it says of each of its variables. -/
def Keeps (q : QS) (kind : Nat) (rs : List RuleP) : List Bool → Prop
  | [] => True
  | b :: bs => Keeps q kind rs bs ∧ (pivotB kind (q.vars.getD bs.length (0, false)).2 = false → b = wantedW rs (valsTo (q.vars.map (·.1)) bs) (q.vars.getD bs.length (0, false)).1)
theorem keeps_at {q : QS} {kind : Nat} {rs : List RuleP} : ∀ {bs : List Bool}, Keeps q kind rs bs → ∀ i, i < bs.length → pivotB kind (q.vars.getD i (0, false)).2 = false → bs.reverse.getD i false = wantedW rs (valsTo (q.vars.map (·.1)) (bs.drop (bs.length - i))) (q.vars.getD i (0, false)).1 := by
  intro bs
  induction bs with
  | nil => intro _ i hi; simp at hi
  | cons b bs ih =>
    intro h i hi hp
    by_cases e : i < bs.length
    · have := ih h.1 i e hp
      rw [List.reverse_cons, List.getD, List.getElem?_append_left (by simpa using e)]
      rw [show (b :: bs).length - i = (bs.length - i) + 1 from by simp; omega, List.drop_succ_cons]
      exact this
    · have e2 : i = bs.length := by simp at hi; omega
      subst e2
      rw [List.reverse_cons, List.getD, List.getElem?_append_right (by simp)]
      simpa using h.2 hp
theorem litsAt_take (ss : List Stp) (i n : Nat) (h1 : 1 ≤ n) (h2 : n ≤ (ss.take i).length) : ∃ j, ∃ hj : j < ss.length, j < i ∧ litsAt (ss.take i) n = ss[j].lits ∧ litsAt ss n = ss[j].lits := by
  have hl : n - 1 < ss.length ∧ n - 1 < i := by simp at h2; omega
  refine ⟨n - 1, hl.1, hl.2, ?_, ?_⟩
  · have h := litsAt_in (ss.take i) (n - 1) (by omega)
    rw [show n - 1 + 1 = n from by omega] at h
    rw [h, List.getElem_take]
  · have h := litsAt_in ss (n - 1) hl.1
    rwa [show n - 1 + 1 = n from by omega] at h
def WonBy (q : QS) (kind : Nat) (V : Nat × Nat) : Prop := (kind = 1 ∧ ∃ c ∈ q.cl, Free c ∧ Hits 1 V c) ∨ (kind = 2 ∧ ∃ c, satQ q.cl c = true ∧ Hits 2 V c)
theorem ahead_some {ss : List Stp} {w : List UInt8} {a : Nat × Nat} (h : aheadQ (litsL ss) w = some a) : ∃ n, 1 ≤ n ∧ n ≤ ss.length ∧ a = litsAt ss n := by
  rw [ahead_lits] at h
  cases hn : numOf w ss.length with
  | none => rw [hn] at h; cases h
  | some n => rw [hn] at h; simp at h; exact ⟨n, (numOf_range hn).1, (numOf_range hn).2, h.symm⟩
theorem pivQ_range {q : QS} {kind : Nat} {z : List UInt8} {v : Nat} (h : pivQ q kind z = some v) : 1 ≤ v ∧ v ≤ 8 := by
  unfold pivQ at h
  have hd := dig_bd z
  split at h
  · cases hf : findV q.vars (dig z).toNat with
    | none => rw [hf] at h; cases h
    | some x =>
      rw [hf] at h
      simp only [Option.bind_some] at h
      split at h
      · injection h with h; subst h; omega
      · cases h
  · cases h
theorem won_step {q : QS} (hq : QGood q) {kind : Nat} (hk : kind = 1 ∨ kind = 2) {ss : List Stp} (hs : Steps2 q kind ss) {bs : List Bool} (hl : bs.length = q.vars.length) (hkeep : Keeps q kind (rulesW kind ss) bs) :
    ∀ i (hi : i < ss.length), Hits kind (valsTo (q.vars.map (·.1)) bs) ss[i].lits → WonBy q kind (valsTo (q.vars.map (·.1)) bs) := by
  have hnm : ∀ v ∈ q.vars.map (·.1), 1 ≤ v ∧ v ≤ 8 := fun v hv => hq.name hv
  have hVL := valsTo_L (q.vars.map (·.1)) hnm bs (by simp [hl])
  have hgd : ∀ j (hj : j < q.vars.length), (q.vars.map (·.1)).getD j 0 = q.vars[j].1 := fun j hj => by simp [List.getD, hj]
  have hgd2 : ∀ j (hj : j < q.vars.length), q.vars.getD j (0, false) = q.vars[j] := fun j hj => by simp [List.getD, hj]
  intro i
  induction i using Nat.strongRecOn with
  | ind i ih =>
    intro hi hh
    by_cases hnw : WonBy q kind (valsTo (q.vars.map (·.1)) bs)
    · exact hnw
    have hmem : ss[i] ∈ ss := List.getElem_mem hi
    rcases hs.tags i hi with ⟨h4, ⟨f1, f2⟩, hred⟩ | ⟨hnr, tl, hax | hcu | hre⟩
    · obtain ⟨j, hj, hji, hw1, hw2⟩ := litsAt_take ss i _ f1 f2
      refine ih j hji hj (fun s v hv => ?_)
      by_cases hin : L ss[i].lits s v = true
      · exact hh s v hin
      · have hin' : L ss[i].lits s v = false := by simpa using hin
        obtain ⟨x, hx, hxv⟩ := List.mem_map.1 ((hs.lok _ (List.getElem_mem hj)).vars s v hv)
        obtain ⟨k, hkl, hkx⟩ := List.mem_iff_getElem.1 hx
        have hvk : q.vars[k].1 = v := by rw [hkx]; exact hxv
        obtain ⟨v1, v8⟩ := var_ok hq k hkl
        rw [hvk] at v1 v8
        rw [hw1] at hred
        have hpos := red_pos hq kind q.vars.length (Nat.le_refl _) ss[j].lits s k hkl (by rw [hvk]; exact hv) (by rw [List.take_length, ← hred, hvk]; exact hin')
        rw [List.take_length, ← hred] at hpos
        obtain ⟨_, hpv, hbef⟩ := hpos
        have hans := keeps_at hkeep k (by omega) (by rw [hgd2 k hkl]; exact hpv)
        rw [hgd2 k hkl, hvk] at hans
        have hVk := valsTo_L (q.vars.map (·.1)) hnm (bs.drop (bs.length - k)) (by simp; omega)
        have hsub : ∀ t u, L (valsTo (q.vars.map (·.1)) (bs.drop (bs.length - k))) t u = true → L (valsTo (q.vars.map (·.1)) bs) t u = true := fun t u ht => by
          obtain ⟨m, m1, m2, m3⟩ := (hVk t u).1 ht
          refine (hVL t u).2 ⟨m, ?_, m2, ?_⟩
          · simp at m1; omega
          · rw [← m3, List.reverse_drop, List.getD, List.getD, List.getElem?_take_of_lt (by simp at m1; omega)]
        -- the rule fits when the variable's turn comes
        have hfit : Hits kind (valsTo (q.vars.map (·.1)) (bs.drop (bs.length - k))) ss[i].lits := fun t u ht => by
          obtain ⟨m, m1, m2, m3⟩ := (hVL _ _).1 (hh t u ht)
          have hml : m < q.vars.length := by omega
          rw [hgd m hml] at m2
          have hmk := hbef t m hml hml (by rw [m2]; exact ht)
          refine (hVk _ _).2 ⟨m, by simp; omega, by rw [hgd m hml]; exact m2, ?_⟩
          rw [← m3, List.reverse_drop, List.getD, List.getD, List.getElem?_take_of_lt (by omega)]
        by_cases hearly : ∃ e, ∃ he : e < ss.length, e < i ∧ (ss[e].rule == 4 && fitsW v (valsTo (q.vars.map (·.1)) (bs.drop (bs.length - k))) (ruleW kind ss ss[e])) = true
        · obtain ⟨e, he, hei, hf⟩ := hearly
          rw [Bool.and_eq_true] at hf
          have hhe := ((fits_iff kind ss ss[e] v _ v1 v8).1 hf.2).1
          exact (hnw (ih e hei he (fun s v h => hsub _ _ (hhe s v h)))).elim
        · have hfi : (ss[i].rule == 4 && fitsW v (valsTo (q.vars.map (·.1)) (bs.drop (bs.length - k))) (ruleW kind ss ss[i])) = true := by
            rw [Bool.and_eq_true]
            exact ⟨by simpa using h4, (fits_iff kind ss ss[i] v _ v1 v8).2 ⟨hfit, s, by rw [hw2]; exact hv, hin'⟩⟩
          have hfind : ss.find? (fun s => s.rule == 4 && fitsW v (valsTo (q.vars.map (·.1)) (bs.drop (bs.length - k))) (ruleW kind ss s)) = some ss[i] := by
            rw [List.find?_eq_some_iff_getElem]
            refine ⟨hfi, i, hi, rfl, fun e he => ?_⟩
            cases hcc : (ss[e].rule == 4 && fitsW v (valsTo (q.vars.map (·.1)) (bs.drop (bs.length - k))) (ruleW kind ss ss[e])) with
            | true => exact (hearly ⟨e, by omega, he, hcc⟩).elim
            | false => rfl
          have hwant : wantedW (rulesW kind ss) (valsTo (q.vars.map (·.1)) (bs.drop (bs.length - k))) v = hasLit (ruleW kind ss ss[i]).2 (v : Int) := by
            unfold wantedW rulesW
            rw [find_rules, hfind]; rfl
          rw [hwant, show ((v : Nat) : Int) = litI v true from rfl, hasLit_L _ _ _ v1 v8] at hans
          have hth := L_then kind ss ss[i] s v
          rw [hw2, hv, hin'] at hth
          have hfr : ∀ t, L (ruleW kind ss ss[i]).2 t v = true → L (ruleW kind ss ss[i]).2 (!t) v = false := fun t ht => by
            have e1 := L_then kind ss ss[i] (sgn kind t) v
            have e2 := L_then kind ss ss[i] (!sgn kind t) v
            have e3 : sgn kind (!sgn kind t) = !t := by unfold sgn; split <;> simp
            rw [sgn_sgn, ht, hw2] at e1
            rw [e3, hw2] at e2
            rw [e2, (hs.free _ (List.getElem_mem hj)).not (s := sgn kind t) (by
              have := e1.symm; rw [Bool.and_eq_true] at this; exact this.1)]
            rfl
          refine (hVL _ _).2 ⟨k, by omega, by rw [hgd k hkl]; exact hvk, ?_⟩
          rw [hans]
          cases hsg : sgn kind s with
          | true => rw [hsg] at hth; exact hth
          | false => rw [hsg] at hth; exact hfr false hth
    · unfold axiomQ at hax
      split at hax
      · next hk1 =>
        split at hax
        · next x =>
          cases hn : numOf x q.cl.length with
          | none => rw [hn] at hax; cases hax
          | some n =>
            rw [hn] at hax
            simp only [Option.bind_some] at hax
            cases hc : q.cl[n - 1]? with
            | none => rw [hc] at hax; cases hax
            | some c =>
              rw [hc] at hax
              simp only [Option.bind_some] at hax
              split at hax
              · cases hax
              · injection hax with hax
                subst hk1
                exact (hnw (Or.inl ⟨rfl, c, List.mem_of_getElem? hc, by rw [hax]; exact hs.free _ hmem, by rw [hax]; exact hh⟩)).elim
        · cases hax
      · cases hax
    · unfold cubeStepQ at hcu
      split at hcu
      · next hk2 =>
        cases hc : cubeQ q.vars (0, 0) 0 tl with
        | none => rw [hc] at hcu; cases hcu
        | some c =>
          rw [hc] at hcu
          simp only [Option.bind_some] at hcu
          split at hcu
          · next hsat =>
            injection hcu with hcu
            subst hk2
            exact (hnw (Or.inr ⟨rfl, c, hsat, by rw [hcu]; exact hh⟩)).elim
          · cases hcu
      · cases hcu
    · unfold resQ at hre
      split at hre
      · next x y z =>
        cases ha : aheadQ (litsL (ss.take i)) x with
        | none => rw [ha] at hre; cases hre
        | some a =>
          cases hb : aheadQ (litsL (ss.take i)) y with
          | none => rw [ha, hb] at hre; cases hre
          | some b =>
            cases hp : pivQ q kind z with
            | none => rw [ha, hb, hp] at hre; cases hre
            | some v =>
              rw [ha, hb, hp] at hre
              simp only [Option.bind_some] at hre
              unfold resQ2 at hre
              split at hre
              · next hab =>
                split at hre
                · cases hre
                · injection hre with hre
                  obtain ⟨n, n1, n2, rfl⟩ := ahead_some ha
                  obtain ⟨m, m1, m2, rfl⟩ := ahead_some hb
                  obtain ⟨ja, hja, hjai, ea, _⟩ := litsAt_take ss i n n1 n2
                  obtain ⟨jb, hjb, hjbi, eb, _⟩ := litsAt_take ss i m m1 m2
                  rw [ea, eb] at hre hab
                  obtain ⟨v1, v8⟩ := pivQ_range hp
                  rw [show ((v : Nat) : Int) = litI v true from rfl, hasLit_L _ _ _ v1 v8, litI_neg, hasLit_L _ _ _ v1 v8] at hab
                  obtain ⟨h1, h2⟩ := hab
                  have hrest : ∀ t u, u ≠ v → (L ss[ja].lits t u = true ∨ L ss[jb].lits t u = true) → L (valsTo (q.vars.map (·.1)) bs) (sgn kind t) u = true := fun t u hu ho => hh t u (by
                    rw [← hre, L_without2 _ _ _ v1 v8]
                    rcases ho with ho | ho <;> simp [ho, hu])
                  obtain ⟨x', hx', hxv⟩ := List.mem_map.1 ((hs.lok _ (List.getElem_mem hja)).vars true v h1)
                  obtain ⟨k, hkl, hkx⟩ := List.mem_iff_getElem.1 hx'
                  have hvk : q.vars[k].1 = v := by rw [hkx]; exact hxv
                  have hval := (hVL (bs.reverse.getD k false) v).2 ⟨k, by omega, by rw [hgd k hkl]; exact hvk, rfl⟩
                  by_cases hsg : bs.reverse.getD k false = sgn kind true
                  · refine (hnw (ih ja hjai hja (fun t u ht => ?_))).elim
                    by_cases hu : u = v
                    · subst hu
                      cases t with
                      | true => rw [← hsg]; exact hval
                      | false => exact (hs.free _ (List.getElem_mem hja) u h1 ht).elim
                    · exact hrest t u hu (Or.inl ht)
                  · refine (hnw (ih jb hjbi hjb (fun t u ht => ?_))).elim
                    by_cases hu : u = v
                    · subst hu
                      cases t with
                      | false =>
                        have : sgn kind false = bs.reverse.getD k false := by
                          have e3 : sgn kind false = !sgn kind true := by unfold sgn; split <;> rfl
                          rw [e3]
                          revert hsg
                          cases bs.reverse.getD k false <;> cases sgn kind true <;> simp
                        rw [this]; exact hval
                      | true => exact (hs.free _ (List.getElem_mem hjb) u ht h2).elim
                    · exact hrest t u hu (Or.inr ht)
              · cases hre
      · cases hre
end Go.Proofs.YtgipjjhkhfihpabGreatDoor

namespace Go.Proofs.YtgipjjhkhfihpabGreatDoor
open Go.RowKit

/-! ### A game, block by block -/
structure GS where
  turn : Nat
  vals : Nat × Nat
abbrev BL := List (List Nat × Bool)
def setW (vals : Nat × Nat) (v : Nat) (b : Bool) : Nat × Nat := withLit vals (litI v b)
def ansBlock (rs : List RuleP) (vs : List Nat) (vals : Nat × Nat) : Nat × Nat := vs.foldl (fun vals v => setW vals v (wantedW rs vals v)) vals
def ansGo (rs : List RuleP) (bl : BL) : Nat → GS → GS
  | 0, g => g
  | m + 1, g => if (bl.getD g.turn ([], false)).2 = true then ansGo rs bl m ⟨g.turn + 1, ansBlock rs (bl.getD g.turn ([], false)).1 g.vals⟩ else g
def ansW (rs : List RuleP) (bl : BL) (g : GS) : GS := ansGo rs bl (bl.length - g.turn) g
def moveBlk : List Nat → Nat → Nat → Nat × Nat → Nat × Nat
  | [], _, _, vals => vals
  | v :: vs, bits, i, vals => moveBlk vs bits (i + 1) (setW vals v (bits.testBit i))
def moveW (rs : List RuleP) (bl : BL) (g : GS) (bits : Nat) : GS := ansW rs bl ⟨g.turn + 1, moveBlk (bl.getD g.turn ([], false)).1 bits 0 g.vals⟩
def uniQ (q : QS) (v : Nat) : Bool := match findV q.vars v with
  | some x => x.2
  | none => false
def winsW (q : QS) (kind : Nat) (vs : List Nat) : Bool := match vs with
  | [] => false
  | v :: _ => uniQ q v == (kind == 1)
def blW (q : QS) (kind : Nat) : BL := (progBlocks q.vars).map (fun b => (b, winsW q kind b))
def openW (q : QS) (kind : Nat) (ss : List Stp) : GS := ansW (rulesW kind ss) (blW q kind) ⟨0, (0, 0)⟩

/-! ### Blocks and places -/
def offs (bs : List (List Nat)) (t : Nat) : Nat := (bs.take t).flatten.length
theorem offs_succ (bs : List (List Nat)) (t : Nat) (h : t < bs.length) : offs bs (t + 1) = offs bs t + bs[t].length := by
  unfold offs; rw [List.take_succ_eq_append_getElem h, List.flatten_append]; simp
theorem flat_at (bs : List (List Nat)) (t i : Nat) (h : t < bs.length) (hi : i < bs[t].length) : bs.flatten.getD (offs bs t + i) 0 = bs[t][i] := by
  unfold offs
  have e : bs.flatten = (bs.take t).flatten ++ (bs[t] ++ (bs.drop (t + 1)).flatten) := by
    conv => lhs; rw [← List.take_append_drop t bs, List.drop_eq_getElem_cons h]
    rw [List.flatten_append, List.flatten_cons]
  rw [e, List.getD, List.getElem?_append_right (by omega), show (bs.take t).flatten.length + i - (bs.take t).flatten.length = i from by omega, List.getElem?_append_left hi, List.getElem?_eq_getElem hi]
  rfl
theorem offs_all (bs : List (List Nat)) : offs bs bs.length = bs.flatten.length := by unfold offs; rw [List.take_length]
theorem offs_le (bs : List (List Nat)) (t : Nat) : offs bs t ≤ bs.flatten.length := by
  unfold offs
  conv => rhs; rw [← List.take_append_drop t bs, List.flatten_append]
  simp
theorem gather_flat (vs : List (Nat × Bool)) : ∀ k, k ≤ vs.length → (gather vs k).1.flatten ++ (gather vs k).2 = (vs.map (·.1)).take k := by
  intro k
  induction k with
  | zero => intro _; simp [gather]
  | succ k ih =>
    intro hk
    have h := ih (by omega)
    have hv : (vs.map (·.1)).take (k + 1) = (vs.map (·.1)).take k ++ [(vs.getD k (0, false)).1] := by
      rw [List.take_succ_eq_append_getElem (by simp; omega)]
      simp [List.getD, show k < vs.length by omega]
    rw [gather, hv, ← h]
    split
    · simp [List.flatten_append]
    · simp [List.append_assoc]
theorem progBlocks_flat (vs : List (Nat × Bool)) : (progBlocks vs).flatten = vs.map (·.1) := by
  have h := gather_flat vs vs.length (Nat.le_refl _)
  rw [show (vs.map (·.1)).take vs.length = vs.map (·.1) from List.take_of_length_le (by simp)] at h
  unfold progBlocks
  split
  · rw [List.flatten_append, ← h]; simp
  · next h0 =>
    have : (gather vs vs.length).2 = [] := List.eq_nil_of_length_eq_zero (by omega)
    rw [← h, this, List.append_nil]
/-- Blocks are not empty, and of one kind. -/
def OneKind (vs : List (Nat × Bool)) (b : List Nat) (u : Bool) : Prop := ∀ v ∈ b, ∃ x ∈ vs, x.1 = v ∧ x.2 = u
theorem gather_kind (vs : List (Nat × Bool)) : ∀ k, k ≤ vs.length → (∀ b ∈ (gather vs k).1, b ≠ [] ∧ ∃ u, OneKind vs b u) ∧ (0 < k → (gather vs k).2 ≠ [] ∧ OneKind vs (gather vs k).2 (kindAt vs (k - 1))) := by
  intro k
  induction k with
  | zero => intro _; exact ⟨fun b hb => by simp [gather] at hb, fun h => by omega⟩
  | succ k ih =>
    intro hk
    obtain ⟨h1, h2⟩ := ih (by omega)
    have hx : vs.getD k (0, false) ∈ vs := by rw [List.getD, List.getElem?_eq_getElem (by omega : k < vs.length)]; exact List.getElem_mem _
    rw [gather]
    split
    · next hn =>
      have hk0 : 0 < k := by unfold newAt at hn; simp at hn; exact hn.1
      refine ⟨fun b hb => ?_, fun _ => ⟨by simp, fun v hv => ?_⟩⟩
      · rcases List.mem_append.1 hb with hb | hb
        · exact h1 b hb
        · simp at hb; subst hb; exact ⟨(h2 hk0).1, _, (h2 hk0).2⟩
      · simp at hv; subst hv
        exact ⟨_, hx, rfl, by simp [kindAt]⟩
    · next hn =>
      refine ⟨h1, fun _ => ⟨by simp, fun v hv => ?_⟩⟩
      rcases List.mem_append.1 hv with hv | hv
      · by_cases hk0 : 0 < k
        · have he : kindAt vs k = kindAt vs (k - 1) := by
            unfold newAt at hn
            simp only [Bool.and_eq_true, decide_eq_true_eq, bne_iff_ne, ne_eq, not_and, Decidable.not_not] at hn
            exact hn hk0
          obtain ⟨x, x1, x2, x3⟩ := (h2 hk0).2 v hv
          exact ⟨x, x1, x2, by rw [Nat.add_sub_cancel, he]; exact x3⟩
        · have : k = 0 := by omega
          subst this
          simp [gather] at hv
      · simp at hv; subst hv
        exact ⟨_, hx, rfl, by simp [kindAt]⟩
theorem progBlocks_kind (vs : List (Nat × Bool)) : ∀ b ∈ progBlocks vs, b ≠ [] ∧ ∃ u, OneKind vs b u := by
  obtain ⟨h1, h2⟩ := gather_kind vs vs.length (Nat.le_refl _)
  intro b hb
  unfold progBlocks at hb
  split at hb
  · next h0 =>
    rcases List.mem_append.1 hb with hb | hb
    · exact h1 b hb
    · simp at hb; subst hb
      have hl : 0 < vs.length := by
        by_cases e : 0 < vs.length
        · exact e
        · have : vs.length = 0 := by omega
          rw [this] at h0; simp [gather] at h0
      exact ⟨(h2 hl).1, _, (h2 hl).2⟩
  · exact h1 b hb
theorem find_uni {q : QS} (hq : QGood q) {x : Nat × Bool} (hx : x ∈ q.vars) : uniQ q x.1 = x.2 := by
  unfold uniQ
  have h := hq.nodup
  revert h hx
  unfold findV
  induction q.vars with
  | nil => intro hx; simp at hx
  | cons y ys ih =>
    intro hx hn
    rw [List.map_cons, List.nodup_cons] at hn
    rw [List.find?_cons]
    by_cases e : y.1 = x.1
    · have : y = x := by
        rcases List.mem_cons.1 hx with e2 | hx
        · exact e2.symm
        · exact absurd (by rw [e]; exact List.mem_map_of_mem hx) hn.1
      subst this
      simp
    · have hx' : x ∈ ys := by
        rcases List.mem_cons.1 hx with e2 | hx
        · exact absurd (by rw [e2]) e
        · exact hx
      have e3 : (y.1 == x.1) = false := by simpa using e
      rw [e3]
      exact ih hx' hn.2
/-- Of a block's variables each is of the side that its flag says. -/
theorem wins_all {q : QS} (hq : QGood q) {kind : Nat} (hk : kind = 1 ∨ kind = 2) {b : List Nat} (hb : b ∈ progBlocks q.vars) {x : Nat × Bool} (hx : x ∈ q.vars) (hxb : x.1 ∈ b) : pivotB kind x.2 = !winsW q kind b := by
  obtain ⟨h0, u, hu⟩ := progBlocks_kind q.vars b hb
  have hsame : ∀ y ∈ q.vars, y.1 ∈ b → y.2 = u := fun y hy hyb => by
    obtain ⟨z, z1, z2, z3⟩ := hu _ hyb
    rw [← z3, ← find_uni hq hy, ← find_uni hq z1, z2]
  match b, h0 with
  | v :: r, _ =>
    obtain ⟨z, z1, z2, z3⟩ := hu v (by simp)
    show pivotB kind x.2 = !(uniQ q v == (kind == 1))
    rw [← z2, find_uni hq z1, z3, hsame x hx hxb]
    unfold pivotB
    rcases hk with rfl | rfl <;> cases u <;> rfl

/-! ### What a game's values are -/
/-- The game has come behind the blocks ahead of its turn, by these answers (the last one first). -/
structure Run (q : QS) (kind : Nat) (rs : List RuleP) (g : GS) (bs : List Bool) : Prop where
  turn : g.turn ≤ (progBlocks q.vars).length
  len : bs.length = offs (progBlocks q.vars) g.turn
  vals : g.vals = valsTo (q.vars.map (·.1)) bs
  keeps : Keeps q kind rs bs
theorem names_at {q : QS} (t i : Nat) (h : t < (progBlocks q.vars).length) (hi : i < (progBlocks q.vars)[t].length) : (q.vars.map (·.1)).getD (offs (progBlocks q.vars) t + i) 0 = (progBlocks q.vars)[t][i] := by
  rw [← progBlocks_flat]; exact flat_at _ t i h hi
theorem offs_lt {q : QS} (t i : Nat) (h : t < (progBlocks q.vars).length) (hi : i < (progBlocks q.vars)[t].length) : offs (progBlocks q.vars) t + i < q.vars.length := by
  have h1 := offs_succ (progBlocks q.vars) t h
  have h2 := offs_le (progBlocks q.vars) (t + 1)
  rw [progBlocks_flat, List.length_map] at h2
  omega
theorem var_at {q : QS} (k : Nat) (hk : k < q.vars.length) : q.vars.getD k (0, false) = q.vars[k] := by simp [List.getD, hk]
theorem name_at {q : QS} (k : Nat) (hk : k < q.vars.length) : (q.vars.map (·.1)).getD k 0 = q.vars[k].1 := by simp [List.getD, hk]
/-- Part of a block. -/
structure Part (q : QS) (kind : Nat) (rs : List RuleP) (t i : Nat) (vals : Nat × Nat) (bs : List Bool) : Prop where
  len : bs.length = offs (progBlocks q.vars) t + i
  vals : vals = valsTo (q.vars.map (·.1)) bs
  keeps : Keeps q kind rs bs
theorem Part.next {q : QS} (hq : QGood q) {kind : Nat} (hk : kind = 1 ∨ kind = 2) {rs : List RuleP} {t i : Nat} {vals : Nat × Nat} {bs : List Bool} (h : Part q kind rs t i vals bs) (ht : t < (progBlocks q.vars).length) (hi : i < (progBlocks q.vars)[t].length)
    (b : Bool) (hb : winsW q kind (progBlocks q.vars)[t] = true → b = wantedW rs vals (progBlocks q.vars)[t][i]) : Part q kind rs t (i + 1) (setW vals (progBlocks q.vars)[t][i] b) (b :: bs) := by
  have hlt := offs_lt t i ht hi
  have hn := names_at t i ht hi
  refine ⟨by simp [h.len]; omega, ?_, h.keeps, ?_⟩
  · show withLit vals (litI (progBlocks q.vars)[t][i] b) = withLit _ (litI ((q.vars.map (·.1)).getD bs.length 0) b)
    rw [h.len, hn, h.vals]
  · intro hp
    rw [h.len, var_at _ hlt] at hp ⊢
    have hx : (q.vars[offs (progBlocks q.vars) t + i]'hlt).1 = (progBlocks q.vars)[t][i] := by rw [← name_at _ hlt]; exact hn
    rw [hx, ← h.vals]
    refine hb ?_
    have hw := wins_all hq hk (List.getElem_mem ht) (List.getElem_mem hlt) (by rw [hx]; exact List.getElem_mem hi)
    rw [hp] at hw
    simpa using hw.symm
theorem Part.done {q : QS} {kind : Nat} {rs : List RuleP} {t : Nat} {vals : Nat × Nat} {bs : List Bool} (ht : t < (progBlocks q.vars).length) (h : Part q kind rs t (progBlocks q.vars)[t].length vals bs) : Run q kind rs ⟨t + 1, vals⟩ bs :=
  ⟨ht, by rw [offs_succ _ _ ht]; exact h.len, h.vals, h.keeps⟩
theorem Run.part {q : QS} {kind : Nat} {rs : List RuleP} {g : GS} {bs : List Bool} (h : Run q kind rs g bs) : Part q kind rs g.turn 0 g.vals bs := ⟨h.len, h.vals, h.keeps⟩
theorem ans_part {q : QS} (hq : QGood q) {kind : Nat} (hk : kind = 1 ∨ kind = 2) {rs : List RuleP} {t : Nat} (ht : t < (progBlocks q.vars).length) : ∀ (m i : Nat) (vals : Nat × Nat) (bs : List Bool), i + m = (progBlocks q.vars)[t].length → Part q kind rs t i vals bs →
    ∃ b2, Part q kind rs t (progBlocks q.vars)[t].length (ansBlock rs ((progBlocks q.vars)[t].drop i) vals) (b2 ++ bs) := by
  intro m
  induction m with
  | zero =>
    intro i vals bs h hp
    have : i = (progBlocks q.vars)[t].length := by omega
    subst this
    rw [List.drop_length]
    exact ⟨[], hp⟩
  | succ m ih =>
    intro i vals bs h hp
    have hi : i < (progBlocks q.vars)[t].length := by omega
    rw [List.drop_eq_getElem_cons hi]
    obtain ⟨b2, h2⟩ := ih (i + 1) _ _ (by omega) (hp.next hq hk ht hi (wantedW rs vals (progBlocks q.vars)[t][i]) (fun _ => rfl))
    exact ⟨b2 ++ [_], by rw [List.append_assoc]; exact h2⟩
theorem move_part {q : QS} (hq : QGood q) {kind : Nat} (hk : kind = 1 ∨ kind = 2) {rs : List RuleP} {t : Nat} (ht : t < (progBlocks q.vars).length) (hw : winsW q kind (progBlocks q.vars)[t] = false) (bits : Nat) : ∀ (m i : Nat) (vals : Nat × Nat) (bs : List Bool), i + m = (progBlocks q.vars)[t].length → Part q kind rs t i vals bs →
    ∃ b2, Part q kind rs t (progBlocks q.vars)[t].length (moveBlk ((progBlocks q.vars)[t].drop i) bits i vals) (b2 ++ bs) ∧ b2.length = m ∧ ∀ j, j < m → b2.reverse.getD j false = bits.testBit (i + j) := by
  intro m
  induction m with
  | zero =>
    intro i vals bs h hp
    have : i = (progBlocks q.vars)[t].length := by omega
    subst this
    rw [List.drop_length]
    exact ⟨[], hp, rfl, fun j hj => by omega⟩
  | succ m ih =>
    intro i vals bs h hp
    have hi : i < (progBlocks q.vars)[t].length := by omega
    rw [List.drop_eq_getElem_cons hi]
    obtain ⟨b2, h2, h3, h4⟩ := ih (i + 1) _ _ (by omega) (hp.next hq hk ht hi (bits.testBit i) (fun e => by rw [hw] at e; cases e))
    refine ⟨b2 ++ [bits.testBit i], by rw [List.append_assoc]; exact h2, by simp [h3], fun j hj => ?_⟩
    rw [List.reverse_append]
    cases j with
    | zero => rfl
    | succ j =>
      have := h4 j (by omega)
      simp only [List.reverse_cons, List.reverse_nil, List.nil_append, List.cons_append, List.getD_cons_succ]
      rw [this]; congr 1; omega
theorem blW_length (q : QS) (kind : Nat) : (blW q kind).length = (progBlocks q.vars).length := by unfold blW; simp
theorem blW_at (q : QS) (kind t : Nat) (h : t < (progBlocks q.vars).length) : (blW q kind).getD t ([], false) = ((progBlocks q.vars)[t], winsW q kind (progBlocks q.vars)[t]) := by
  unfold blW; simp [List.getD, h]
/-- The answers end at the losing side's next block. -/
structure Stands (q : QS) (kind : Nat) (g : GS) : Prop where
  le : g.turn ≤ (progBlocks q.vars).length
  lose : ∀ h : g.turn < (progBlocks q.vars).length, winsW q kind (progBlocks q.vars)[g.turn] = false
theorem ans_run {q : QS} (hq : QGood q) {kind : Nat} (hk : kind = 1 ∨ kind = 2) {rs : List RuleP} : ∀ (m : Nat) (g : GS) (bs : List Bool), g.turn + m = (progBlocks q.vars).length → Run q kind rs g bs →
    ∃ b2, Run q kind rs (ansGo rs (blW q kind) m g) (b2 ++ bs) ∧ Stands q kind (ansGo rs (blW q kind) m g) ∧ g.turn ≤ (ansGo rs (blW q kind) m g).turn ∧ ∀ j (hj : j < (progBlocks q.vars).length), g.turn ≤ j → j < (ansGo rs (blW q kind) m g).turn → winsW q kind (progBlocks q.vars)[j] = true := by
  intro m
  induction m with
  | zero =>
    intro g bs h hr
    exact ⟨[], hr, ⟨hr.turn, fun h' => absurd h' (by show ¬ g.turn < _; omega)⟩, Nat.le_refl _, fun j hj h1 h2 => by simp only [ansGo] at h2; omega⟩
  | succ m ih =>
    intro g bs h hr
    have ht : g.turn < (progBlocks q.vars).length := by omega
    rw [ansGo, blW_at q kind _ ht]
    dsimp only
    by_cases hw : winsW q kind (progBlocks q.vars)[g.turn] = true
    · rw [if_pos hw]
      obtain ⟨b1, h1⟩ := ans_part hq hk ht (progBlocks q.vars)[g.turn].length 0 g.vals bs (by omega) hr.part
      rw [List.drop_zero] at h1
      obtain ⟨b2, h2, h3, h4, h5⟩ := ih ⟨g.turn + 1, _⟩ _ (by show g.turn + 1 + m = _; omega) (h1.done ht)
      refine ⟨b2 ++ b1, by rw [List.append_assoc]; exact h2, h3, by have : g.turn + 1 ≤ _ := h4; omega, fun j hj g1 g2 => ?_⟩
      by_cases e : j = g.turn
      · subst e; exact hw
      · exact h5 j hj (by show g.turn + 1 ≤ j; omega) g2
    · rw [if_neg hw]
      exact ⟨[], hr, ⟨hr.turn, fun _ => by simpa using hw⟩, Nat.le_refl _, fun j hj h1 h2 => by omega⟩
theorem run_zero (q : QS) (kind : Nat) (rs : List RuleP) : Run q kind rs ⟨0, (0, 0)⟩ [] := ⟨Nat.zero_le _, rfl, rfl, trivial⟩
end Go.Proofs.YtgipjjhkhfihpabGreatDoor

namespace Go.Proofs.YtgipjjhkhfihpabGreatDoor
open Go.RowKit

/-! ### readLine -/
def lineQ (q : QS) (kind : Nat) (ss : List (Nat × Nat)) (line : List UInt8) : Option (Nat × Nat) :=
  if 9000 ≤ ss.length then none else if splitOk line then (match cutAt 32 line with | [] => none | hd :: tl => stepQ q kind ss hd tl) else none
theorem lineQ_eq (q : QS) (kind : Nat) (ss : List (Nat × Nat)) (line hd : List UInt8) (tl : List (List UInt8)) (hl : ¬ 9000 ≤ ss.length) (hs : splitOk line = true) (h : cutAt 32 line = hd :: tl) : lineQ q kind ss line = stepQ q kind ss hd tl := by
  unfold lineQ; rw [if_neg hl, if_pos hs, h]
theorem litsL_snoc (ss : List Stp) (s : Stp) : litsL (ss ++ [s]) = litsL ss ++ [s.lits] := by simp [litsL]
theorem PInv.push {w w' : World} {b : Nat} {q : QS} {kind : Nat} {ss : List Stp} {vV vC vS : Value} {s : Stp} {e : Ending} (h : PInv w b q kind ss vV vC vS) (ha : AddPost (b + 1) b 2 ss vS s #[vV, vC, .int .i64 kind, vS] 93 w e w') : e = .returned (.int .i64 ((ss.length : Int) + 1)) ∧ (∃ v', PInv w' b q kind (ss ++ [s]) vV vC v') ∧ Below b w w' := by
  obtain ⟨v', h0, h1, h2, h3, h4⟩ := ha
  have hb : Below b w w' := h3.below (Nat.le_of_lt (blk_lt h.fb)) (fun k hk hh => by
    rcases hh with e | e
    · omega
    · have := (h.oS.lt k e).1; omega)
  exact ⟨h0, ⟨v', h2, own_under h.oV h.lV hb, own_under h.oC h.lC hb, by simpa using h1, h.lV, h.lC⟩, hb⟩
def PLinePost (b : Nat) (q : QS) (kind : Nat) (ss : List Stp) (vV vC : Value) (line : List UInt8) (w : World) (e : Ending) (w' : World) : Prop :=
  Below b w w' ∧ match lineQ q kind (litsL ss) line with
    | none => e = .returned (.bool false)
    | some c => e = .returned (.bool true) ∧ (c.1 < 512 ∧ c.2 < 512) ∧ ∃ s vS', s.lits = c ∧ TagM q kind ss (cutAt 32 line) s ∧ PInv w' b q kind (ss ++ [s]) vV vC vS'

set_option maxRecDepth 100000 in
set_option maxHeartbeats 3200000 in
theorem preadLine_any (b : Nat) (q : QS) (kind : Nat) (ss : List Stp) (vV vC vS : Value) (k : Nat) (line : List UInt8) (w : World) (hP : PInv w b q kind ss vV vC vS) (hQ : QB q) (hS : SBs ss) (hk : 1 ≤ k) (hl : line.length ≤ 1048570) :
    Calls Tryz.prog 33 #[.pointer (some ⟨b, 0, none⟩), .int .i64 k, .string ⟨line.toArray⟩] w fun e w' => PLinePost b q kind ss vV vC line w e w' := by
  have hbw := blk_lt hP.fb
  have hsl := hS.len
  obtain ⟨aS, cS, rfl⟩ := own_form hP.oS
  have k3 : w.cell? ⟨b, 3, none⟩ = some (.slice aS ss.length cS) := by rw [blk_cell hP.fb]; rfl
  have hkb : ((k : Int) == 0) = false := by rw [beq_eq_false_iff_ne]; omega
  by_cases h9 : 9000 ≤ ss.length
  · have hd9 : decide ((9000 : Int) ≤ (ss.length : Int)) = true := by simp; omega
    have HF : Hid (lineQ q kind (litsL ss) line = none) := hide (by unfold lineQ; rw [if_pos (by simpa [litsL] using h9)])
    clear h9
    go_enter Tryz.func33, Tryz.ntmps33
    go_wp2_with fail
    go_ret
    exact ⟨Below.refl _ _, by rw [unhide HF]; rfl⟩
  · have hd9 : decide ((9000 : Int) ≤ (ss.length : Int)) = false := by simp; omega
    have H9 := hide h9
    clear h9
    go_enter Tryz.func33, Tryz.ntmps33
    go_wp2_with fail
    refine (split_any line w (by omega)).mono ?_
    rintro e w2 ⟨hb, hsp⟩
    cases hok : splitOk line with
    | false =>
      rw [hok, if_neg (by decide)] at hsp
      subst hsp
      have HF : Hid (lineQ q kind (litsL ss) line = none) := hide (by unfold lineQ; rw [if_neg (by simpa [litsL] using unhide H9), hok]; rfl)
      go_wp2_with fail
      go_ret
      exact ⟨hb.mono (Nat.le_of_lt hbw), by rw [unhide HF]; rfl⟩
    | true =>
      rw [hok, if_pos rfl] at hsp
      obtain ⟨v, rfl, hown⟩ := hsp
      have hwl : (cutAt 32 line).length ≤ 1048571 := by have := cutTo_size 32 line; simp [cutAt]; omega
      have hwl2 : ∀ x ∈ cutAt 32 line, x.length ≤ 1048576 := fun x hx => by have := cutAt_len 32 line x hx; omega
      obtain ⟨hd, tl, hws⟩ : ∃ hd tl, cutAt 32 line = hd :: tl := by
        cases h : cutAt 32 line with
        | nil => simp [cutAt] at h
        | cons a b => exact ⟨a, b, rfl⟩
      have HQ := hide (lineQ_eq q kind (litsL ss) line hd tl (by simpa [litsL] using unhide H9) hok hws)
      have HWE := hide hws
      rw [hws] at hown hwl hwl2
      clear hws hok
      rcases hown.2 with ⟨_, h0⟩ | ⟨g, cap, cur, rfl, hbg, hg, hnc, hcm, hcs, htake⟩
      · simp at h0
      simp only [List.length_cons] at hwl hnc
      have hST : StrsAt w2 (some ⟨g, 0, none⟩) (hd :: tl) := fun _ => ⟨g, 0, cur, rfl, hg, fun j hj => by
        have h1 := hown.cellAt j (by simpa using hj)
        rw [blk_cell hg] at h1
        rw [Nat.zero_add, h1, List.getElem?_map, List.getElem?_eq_getElem hj]; rfl⟩
      have HWL : Hid (∀ x ∈ tl, x.length ≤ 1048576) := hide (fun x hx => hwl2 x (List.mem_cons_of_mem _ hx))
      have hP2 := hP.later hb
      clear hwl2 htake hcs hcm
      simp only [List.length_cons]
      go_wp2_with fail
      refine (readStep_any b q kind ss vV vC _ hd tl g 0 cap w2 hP2 hQ hS hST (by omega) (by omega) (unhide HWL)).mono ?_
      rintro e w3 ⟨hb3, s, ok, rfl, hlt, hok⟩
      obtain ⟨sr, sf, ss2, sv, sl⟩ := s
      obtain ⟨p, n⟩ := sl
      have hb03 : Below w.heap.size w w3 := below_trans hb hb3
      have hP3 := hP2.later hb3
      have hA3 : Below w3.heap.size w3 (w3.alloc (.cells #[.int .i64 (sr : Int), .int .i64 (sf : Int), .int .i64 (ss2 : Int), .int .i64 (sv : Int), .int .i64 (p : Int), .int .i64 (n : Int)] 91)) := (Below.refl _ _).alloc (Nat.le_refl _) _
      have hf3 := heap_alloc_new w3 (.cells #[.int .i64 (sr : Int), .int .i64 (sf : Int), .int .i64 (ss2 : Int), .int .i64 (sv : Int), .int .i64 (p : Int), .int .i64 (n : Int)] 91)
      have hbz : Below w.heap.size w (w3.alloc (.cells #[.int .i64 (sr : Int), .int .i64 (sf : Int), .int .i64 (ss2 : Int), .int .i64 (sv : Int), .int .i64 (p : Int), .int .i64 (n : Int)] 91)) := below_trans hb03 hA3
      have hP4 := hP3.later hA3
      rcases hok with ⟨rfl, hok, htag⟩ | ⟨rfl, hok⟩
      · have HF : Hid (lineQ q kind (litsL ss) line = some (p, n)) := hide (by rw [unhide HQ]; exact hok)
        have HTAG := hide htag
        clear hok htag
        go_wp2_with fail
        generalize w3.alloc (.cells #[.int .i64 (sr : Int), .int .i64 (sf : Int), .int .i64 (ss2 : Int), .int .i64 (sv : Int), .int .i64 (p : Int), .int .i64 (n : Int)] 91) = wz at *
        have q0 : wz.cell? ⟨w3.heap.size, 0, none⟩ = some (.int .i64 (sr : Int)) := by rw [blk_cell hf3]; rfl
        have q1 : wz.cell? ⟨w3.heap.size, 1, none⟩ = some (.int .i64 (sf : Int)) := by rw [blk_cell hf3]; rfl
        have q2 : wz.cell? ⟨w3.heap.size, 2, none⟩ = some (.int .i64 (ss2 : Int)) := by rw [blk_cell hf3]; rfl
        have q3 : wz.cell? ⟨w3.heap.size, 3, none⟩ = some (.int .i64 (sv : Int)) := by rw [blk_cell hf3]; rfl
        have q4 : wz.cell? ⟨w3.heap.size, 4, none⟩ = some (.int .i64 (p : Int)) := by rw [blk_cell hf3]; rfl
        have q5 : wz.cell? ⟨w3.heap.size, 5, none⟩ = some (.int .i64 (n : Int)) := by rw [blk_cell hf3]; rfl
        have lf3 := blk_lt hf3
        have lb4 := blk_lt hP4.fb
        have hd9 : Below wz.heap.size wz wz.drew := (Below.refl _ wz).drew
        go_region_with (go_at_call 48; refine (add_any (b + 1) b 2 ss (.slice aS ss.length cS) ⟨sr, sf, ss2, sv, (p, n)⟩ _ _ _ (hP4.later hd9).fb rfl (by decide) (hP4.later hd9).oS (by omega) (blk_lt (hP4.later hd9).fb)).mono ?_; intro e w4 hadd; obtain ⟨he4, hJ4, hbJ⟩ := (hP4.later hd9).push hadd; subst he4; clear hadd)
        all_goals
          obtain ⟨v', hJ⟩ := hJ4
          go_wp2_with fail
          go_ret
          refine ⟨((hbz.mono (Nat.le_of_lt hbw)).trans (hd9.mono (Nat.le_of_lt lb4))).trans hbJ, ?_⟩
          rw [unhide HF]
          exact ⟨rfl, hlt, ⟨sr, sf, ss2, sv, (p, n)⟩, v', rfl, by rw [unhide HWE]; exact unhide HTAG, hJ⟩
      · have HF : Hid (lineQ q kind (litsL ss) line = none) := hide (by rw [unhide HQ]; exact hok)
        clear hok
        go_wp2_with fail
        go_ret
        exact ⟨hbz.mono (Nat.le_of_lt hbw), by rw [unhide HF]; rfl⟩
end Go.Proofs.YtgipjjhkhfihpabGreatDoor

namespace Go.Proofs.YtgipjjhkhfihpabGreatDoor
open Go.RowKit

/-! ### Read -/
def rowsQ (q : QS) (kind : Nat) : List (Nat × Nat) → Nat → List (List UInt8) → List (Nat × Nat) ⊕ Nat
  | ss, _, [] => .inl ss
  | ss, n, r :: rs => match lineQ q kind ss r with
    | none => .inr (n + 1)
    | some c => rowsQ q kind (ss ++ [c]) (n + 1) rs
def goQ (q : QS) (ended : Bool) (total : Nat) (kind : Nat) (ss : List (Nat × Nat)) (n : Nat) (rs : List (List UInt8)) : (Nat × Nat) ⊕ (Nat × List (Nat × Nat)) :=
  match rowsQ q kind ss n rs with
  | .inr i => .inl (5, i)
  | .inl ss' => if ended = true ∧ closedQ ss' = true then .inr (kind, ss') else .inl (5, total + 1)
def kindOf (r0 : List UInt8) : Nat := if r0 = sTrue then 2 else 1
def firstQ (q : QS) (ended : Bool) (rows : List (List UInt8)) : (Nat × Nat) ⊕ (Nat × List (Nat × Nat)) :=
  match rows with
  | [] => .inl (5, 1)
  | r0 :: rs => if r0 = sTrue ∨ r0 = sFalse then goQ q ended (rs.length + 1) (kindOf r0) [] 1 rs else .inl (5, 1)
def readQ (q : QS) (l : List UInt8) : (Nat × Nat) ⊕ (Nat × List (Nat × Nat)) :=
  if 262144 < l.length then .inl (1, 0) else firstQ q (decide ((cutTo 10 l).2 = [])) (cutTo 10 l).1
theorem rows_first (q : QS) (ended : Bool) (rows : List (List UInt8)) (h : 0 < rows.length) : firstQ q ended rows = if rows[0] = sTrue ∨ rows[0] = sFalse then goQ q ended rows.length (kindOf rows[0]) [] 1 (rows.drop 1) else .inl (5, 1) := by
  cases rows with
  | nil => simp at h
  | cons r0 rs => rfl
theorem PInv.setKind {w : World} {b : Nat} {q : QS} {kind : Nat} {ss : List Stp} {vV vC vS : Value} (h : PInv w b q kind ss vV vC vS) (kd : Nat) : PInv (w.setCell ⟨b, 2, none⟩ (.int .i64 kd)) b q kd ss vV vC vS := by
  have hb : Below b w (w.setCell ⟨b, 2, none⟩ (.int .i64 kd)) := (Below.refl b w).setCell (p := ⟨b, 2, none⟩) (Nat.le_refl _) _
  exact ⟨blk_set h.fb 2 _, own_under h.oV h.lV hb, own_under h.oC h.lC hb, ownsRow_setCell_below h.oS (a := ⟨b, 2, none⟩) (Nat.lt_succ_self b) _, h.lV, h.lC⟩
/-- Which steps reduce which, by the lines. -/
def Marks (rows : List (List UInt8)) (ss : List Stp) : Prop := ∀ i (h : i < ss.length), stMark ss[i] = markOf i (cutAt 32 (rows.getD (i + 1) []))
theorem marks_nil (rows : List (List UInt8)) : Marks rows [] := fun i h => by simp at h
theorem Marks.snoc {rows : List (List UInt8)} {ss : List Stp} {s : Stp} (h : Marks rows ss) (hs : stMark s = markOf ss.length (cutAt 32 (rows.getD (ss.length + 1) []))) : Marks rows (ss ++ [s]) := by
  intro i hi
  by_cases e : i < ss.length
  · rw [List.getElem_append_left e]
    exact h i e
  · have e2 : i = ss.length := by simp at hi; omega
    subst e2
    simpa using hs
def Tagged (q : QS) (kind : Nat) (l : List UInt8) (ss : List Stp) : Prop := Tags q kind ss ∧ Marks (cutTo 10 l).1 ss
def PReadPost (q : QS) (l : List UInt8) (w : World) (e : Ending) (w' : World) : Prop :=
  Below w.heap.size w w' ∧ match readQ q l with
    | .inl (x, i) => e = .returned (.tuple #[.agg #[.int .i64 0, .slice none 0 0], .int .i64 (x : Int), .int .i64 (i : Int)])
    | .inr (kind, ls) => ∃ ss vS, litsL ss = ls ∧ Tagged q kind l ss ∧ SBs ss ∧ e = .returned (.tuple #[.agg #[.int .i64 (kind : Int), vS], .int .i64 0, .int .i64 0]) ∧ w'.ownsRow w.heap.size 91 6 vS ss.length (psCells ss)

set_option maxRecDepth 100000 in
set_option maxHeartbeats 1600000 in
theorem preadFirst_any (b : Nat) (vV vC vS : Value) (kind : Nat) (l : List UInt8) (w : World) (hfb : w.heap[b]? = some (.cells #[vV, vC, .int .i64 kind, vS] 93 (0, 0))) :
    Calls Tryz.prog 33 #[.pointer (some ⟨b, 0, none⟩), .int .i64 0, .string ⟨l.toArray⟩] w fun e w' => KindPost b l w e w' := by
  go_enter Tryz.func33, Tryz.ntmps33
  go_wp2_with fail
  refine (readKind_any b vV vC vS kind l w hfb).mono ?_
  intro e w1 hk
  have hr : ∃ o, e = .returned (.bool o) := by
    rcases hk with h | h | h
    · exact ⟨_, h.2.1⟩
    · exact ⟨_, h.2.1⟩
    · exact ⟨_, h.2.2.1⟩
  obtain ⟨o, rfl⟩ := hr
  have HK := hide hk
  clear hk
  go_wp2_with fail
  go_ret
  exact unhide HK

set_option maxRecDepth 100000 in
set_option maxHeartbeats 3200000 in
theorem pread_any (q : QS) (vV vC : Value) (l : List UInt8) (w : World) (hV : w.ownsRow 0 109 2 vV q.vars.length (varCells q.vars)) (hC : w.ownsRow 0 77 2 vC q.cl.length (pairs q.cl)) (hQ : QB q) :
    Calls Tryz.prog 17 #[.agg #[vV, vC], .string ⟨l.toArray⟩] w fun e w' => PReadPost q l w e w' := by
  by_cases hlong : 262144 < l.length
  · have hd : decide ((262144 : Int) < (l.length : Int)) = true := by simp; omega
    have HF : Hid (readQ q l = .inl (1, 0)) := hide (by unfold readQ; rw [if_pos hlong])
    clear hlong
    obtain ⟨aV, cV, rfl⟩ := own_form hV
    obtain ⟨aC, cC, rfl⟩ := own_form hC
    go_enter Tryz.func17, Tryz.ntmps17
    go_wp2_with fail
    refine bodyPost_ret (v := .tuple #[.agg #[.int .i64 0, .slice none 0 0], .int .i64 1, .int .i64 0]) (by simp [results, Tryz.results17, go_sem]) rfl ⟨((Below.refl _ _).alloc (Nat.le_refl _) _).alloc (by simp) _, ?_⟩
    rw [unhide HF]; rfl
  · have hl : l.length ≤ 262144 := by omega
    have hd : decide ((262144 : Int) < (l.length : Int)) = false := by simp; omega
    have hdr := cutTo_size 10 l
    have HSP : Hid (readQ q l = firstQ q (decide ((cutTo 10 l).2 = [])) (cutTo 10 l).1) := hide (by unfold readQ; rw [if_neg hlong])
    clear hlong
    have HlV : Hid (∀ k, vV.ownBlock = some k → k < w.heap.size) := hide (fun k hk => (hV.lt k hk).2)
    have HlC : Hid (∀ k, vC.ownBlock = some k → k < w.heap.size) := hide (fun k hk => (hC.lt k hk).2)
    obtain ⟨aV, cV, rfl⟩ := own_form hV
    obtain ⟨aC, cC, rfl⟩ := own_form hC
    have hA0 : Below w.heap.size w ((w.alloc (.cells #[.slice aV q.vars.length cV, .slice aC q.cl.length cC] 44)).alloc (.cells #[.int .i64 0, .slice none 0 0] 51)) := ((Below.refl _ _).alloc (Nat.le_refl _) _).alloc (by simp) _
    have hf0 : ((w.alloc (.cells #[.slice aV q.vars.length cV, .slice aC q.cl.length cC] 44)).alloc (.cells #[.int .i64 0, .slice none 0 0] 51)).heap[w.heap.size]? = some (.cells #[.slice aV q.vars.length cV, .slice aC q.cl.length cC] 44 (0, 0)) := by
      rw [heap_alloc_old _ _ (by simp)]; exact heap_alloc_new _ _
    have hr0 : ((w.alloc (.cells #[.slice aV q.vars.length cV, .slice aC q.cl.length cC] 44)).alloc (.cells #[.int .i64 0, .slice none 0 0] 51)).heap[w.heap.size + 1]? = some (.cells #[.int .i64 0, .slice none 0 0] 51 (0, 0)) := alloc_new_at (by simp)
    go_enter Tryz.func17, Tryz.ntmps17
    go_wp2_with fail
    refine (lines_any l _ (by omega)).mono ?_
    rintro e w1 ⟨v, rfl, hown, hb1⟩
    have hB1 : Below w.heap.size w w1 := hA0.trans (hb1.mono hA0.size)
    have hf1 := (hb1.block _ (blk_lt hf0)).trans hf0
    have hr1 := (hb1.block _ (blk_lt hr0)).trans hr0
    have hsz1 : w.heap.size + 1 < w1.heap.size := blk_lt hr1
    have f10 : w1.cell? ⟨w.heap.size, 0, none⟩ = some (.slice aV q.vars.length cV) := by rw [blk_cell hf1]; rfl
    have f11 : w1.cell? ⟨w.heap.size, 1, none⟩ = some (.slice aC q.cl.length cC) := by rw [blk_cell hf1]; rfl
    have HRL : Hid (∀ r ∈ (cutTo 10 l).1, r.length ≤ 262144) := hide (fun r hr => by
      have := cutAt_len 10 l r (by unfold cutAt; exact List.mem_append_left _ hr); omega)
    have hoV1 := own_below hV hB1
    have hoC1 := own_below hC hB1
    generalize hrows : (cutTo 10 l).1 = rows at *
    obtain ⟨aL, cL, rfl⟩ := own_form hown
    obtain ⟨ended, hended⟩ : ∃ o, decide ((cutTo 10 l).2 = []) = o := ⟨_, rfl⟩
    rw [hended] at HSP ⊢
    have hown1 := own_lo (lo := 0) hown (Nat.zero_le _)
    have HROWS := hide hrows
    clear hown hrows hended
    have hrows2 : rows.length ≤ 262144 := by omega
    clear hdr
    go_wp2_with fail
    go_loopg [25] (rows.length) (fun m i wx => ∃ (k kind : Nat) (ss : List Stp) (vS : Value), i = .int .i64 k ∧ k + m = rows.length ∧ SBs ss ∧ (Tags q kind ss ∧ Marks rows ss) ∧ PInv wx w1.heap.size q kind ss (.slice aV q.vars.length cV) (.slice aC q.cl.length cC) vS ∧ Below w1.heap.size w1 wx ∧
      ((k = 0 ∧ kind = 0 ∧ ss = []) ∨ (1 ≤ k ∧ ss.length + 1 = k ∧ readQ q l = goQ q ended rows.length kind (litsL ss) k (rows.drop k))))
    case atStart =>
      refine ⟨0, 0, [], _, rfl, by omega, ⟨by simp, by simp⟩, ⟨tags_nil q 0, marks_nil rows⟩, ⟨heap_alloc_new _ _, hoV1.alloc _, hoC1.alloc _, World.ownsRow_nil _ _ _ _, fun k hk => Nat.lt_of_lt_of_le (unhide HlV k hk) hB1.size, fun k hk => Nat.lt_of_lt_of_le (unhide HlC k hk) hB1.size⟩, (Below.refl _ _).alloc (Nat.le_refl _) _, Or.inl ⟨rfl, rfl, rfl⟩⟩
    case round =>
      obtain ⟨k, kind, ss, vS, rfl, hk, hSB, hTg, hP, hbx, hph⟩ := hrel
      have HTG := hide hTg
      clear hTg
      have HPH := hide hph
      clear hph
      have hBx : Below w.heap.size w wr := hB1.trans (hbx.mono hB1.size)
      have hrx := (hbx.block _ hsz1).trans hr1
      have r0 : wr.cell? ⟨w.heap.size + 1, 0, none⟩ = some (.int .i64 0) := by rw [blk_cell hrx]; rfl
      have r1 : wr.cell? ⟨w.heap.size + 1, 1, none⟩ = some (.slice none 0 0) := by rw [blk_cell hrx]; rfl
      by_cases hlt : k < rows.length
      · obtain ⟨g, cap, hVe, hg, hg', _, hcell⟩ := own_pos hown1 (by omega)
        injection hVe with hVe _ hV2
        subst hVe hV2
        have hcj : wr.cell? ⟨g, k, none⟩ = some (S rows[k]) := by
          rw [hbx.cell (p := ⟨g, k, none⟩) hg']; exact hcell k _ (by simp [hlt])
        have hrl := unhide HRL _ (List.getElem_mem hlt)
        clear hcell
        go_wp2_with fail
        rcases unhide HPH with ⟨hk0, hkd, hss⟩ | ⟨hk1, hsk, hrq⟩
        · have HK0 := hide hk0
          subst hk0 hkd hss
          have HRQ : Hid (readQ q l = if rows[0] = sTrue ∨ rows[0] = sFalse then goQ q ended rows.length (kindOf rows[0]) [] 1 (rows.drop 1) else .inl (5, 1)) := hide (by
            rw [unhide HSP]
            exact rows_first q ended rows hlt)
          refine (preadFirst_any w1.heap.size _ _ vS 0 rows[0] wr hP.fb).mono ?_
          intro e w2 hkp
          have hkind : ∀ kd : Nat, PInv (wr.setCell ⟨w1.heap.size, 2, none⟩ (.int .i64 kd)) w1.heap.size q kd [] (.slice aV q.vars.length cV) (.slice aC q.cl.length cC) vS ∧ Below w1.heap.size w1 (wr.setCell ⟨w1.heap.size, 2, none⟩ (.int .i64 kd)) := fun kd => ⟨hP.setKind kd, hbx.setCell (p := ⟨w1.heap.size, 2, none⟩) (Nat.le_refl _) _⟩
          rcases hkp with ⟨h1, rfl, rfl⟩ | ⟨h1, rfl, rfl⟩ | ⟨h1, h2, rfl, hw2⟩
          · have HG : Hid (readQ q l = goQ q ended rows.length 1 [] 1 (rows.drop 1)) := hide (by
              rw [unhide HRQ, if_pos (Or.inr h1), h1]; rfl)
            obtain ⟨hPk, hbk⟩ := hkind 1
            have HPk := hide hPk
            have HBk := hide hbk
            clear h1 hPk hbk hkind
            go_wp2_with fail
            go_roundg (gk - 1)
            case measure => omega
            case rel => exact ⟨1, 1, [], vS, by go_num, by omega, hSB, ⟨tags_nil q 1, marks_nil rows⟩, unhide HPk, unhide HBk, Or.inr ⟨by omega, rfl, unhide HG⟩⟩
          · have HG : Hid (readQ q l = goQ q ended rows.length 2 [] 1 (rows.drop 1)) := hide (by
              rw [unhide HRQ, if_pos (Or.inl h1), h1]; rfl)
            obtain ⟨hPk, hbk⟩ := hkind 2
            have HPk := hide hPk
            have HBk := hide hbk
            clear h1 hPk hbk hkind
            go_wp2_with fail
            go_roundg (gk - 1)
            case measure => omega
            case rel => exact ⟨1, 2, [], vS, by go_num, by omega, hSB, ⟨tags_nil q 2, marks_nil rows⟩, unhide HPk, unhide HBk, Or.inr ⟨by omega, rfl, unhide HG⟩⟩
          · have HG : Hid (readQ q l = .inl (5, 1)) := hide (by rw [unhide HRQ, if_neg (fun h => h.elim h1 h2)])
            subst hw2
            clear h1 h2 hkind
            have hz := hrx
            have r20 : w2.cell? ⟨w.heap.size + 1, 0, none⟩ = some (.int .i64 0) := by rw [blk_cell hz]; rfl
            have r21 : w2.cell? ⟨w.heap.size + 1, 1, none⟩ = some (.slice none 0 0) := by rw [blk_cell hz]; rfl
            have y20 := blk_free hz 0
            have y21 := blk_free hz 1
            have hR := blk_set (blk_set hz 0 (.int .i64 0)) 1 (.slice none 0 0)
            have j0 := blk_cell hR 0
            have j1 := blk_cell hR 1
            go_wp2_with fail
            refine bodyPost_ret (v := .tuple #[.agg #[.int .i64 0, .slice none 0 0], .int .i64 5, .int .i64 1]) (by simp [results, Tryz.results17, go_sem, j0, j1]) rfl ⟨?_, ?_⟩
            · exact (hBx.setCell (p := ⟨w.heap.size + 1, 0, none⟩) (Nat.le_succ _) _).setCell (p := ⟨w.heap.size + 1, 1, none⟩) (Nat.le_succ _) _
            · rw [unhide HG]; exact congrArg (fun m : Int => Ending.returned (.tuple #[.agg #[.int .i64 0, .slice none 0 0], .int .i64 5, .int .i64 m])) (by omega)
        · have HSK := hide hsk
          clear hsk
          have hrq2 : readQ q l = match lineQ q kind (litsL ss) rows[k] with
              | none => .inl (5, k + 1)
              | some c => goQ q ended rows.length kind (litsL ss ++ [c]) (k + 1) (rows.drop (k + 1)) := by
            rw [hrq]
            unfold goQ
            rw [List.drop_eq_getElem_cons hlt, rowsQ]
            cases lineQ q kind (litsL ss) rows[k] <;> rfl
          have HRQ := hide hrq2
          clear hrq2 hrq
          refine (preadLine_any w1.heap.size q kind ss _ _ vS k rows[k] wr hP hQ hSB hk1 (by omega)).mono ?_
          rintro e w2 ⟨hb2, hp⟩
          have hb3 : Below w1.heap.size w1 w2 := hbx.trans hb2
          have hB3 : Below w.heap.size w w2 := hB1.trans (hb3.mono hB1.size)
          cases hq : lineQ q kind (litsL ss) rows[k] with
          | none =>
            rw [hq] at hp
            have hp' : e = .returned (.bool false) := hp
            subst hp'
            have HF : Hid (readQ q l = .inl (5, k + 1)) := hide (by rw [unhide HRQ, hq])
            clear hp hq
            have hz := (hb3.block _ hsz1).trans hr1
            have r20 : w2.cell? ⟨w.heap.size + 1, 0, none⟩ = some (.int .i64 0) := by rw [blk_cell hz]; rfl
            have r21 : w2.cell? ⟨w.heap.size + 1, 1, none⟩ = some (.slice none 0 0) := by rw [blk_cell hz]; rfl
            have y20 := blk_free hz 0
            have y21 := blk_free hz 1
            have hR := blk_set (blk_set hz 0 (.int .i64 0)) 1 (.slice none 0 0)
            have j0 := blk_cell hR 0
            have j1 := blk_cell hR 1
            go_wp2_with fail
            refine bodyPost_ret (v := .tuple #[.agg #[.int .i64 0, .slice none 0 0], .int .i64 5, .int .i64 ((k : Int) + 1)]) (by simp [results, Tryz.results17, go_sem, j0, j1]) rfl ⟨?_, ?_⟩
            · exact (hB3.setCell (p := ⟨w.heap.size + 1, 0, none⟩) (Nat.le_succ _) _).setCell (p := ⟨w.heap.size + 1, 1, none⟩) (Nat.le_succ _) _
            · rw [unhide HF]; exact congrArg (fun m : Int => Ending.returned (.tuple #[.agg #[.int .i64 0, .slice none 0 0], .int .i64 5, .int .i64 m])) (by omega)
          | some c =>
            rw [hq] at hp
            have hp' : e = .returned (.bool true) ∧ (c.1 < 512 ∧ c.2 < 512) ∧ ∃ s vS', s.lits = c ∧ TagM q kind ss (cutAt 32 rows[k]) s ∧ PInv w2 w1.heap.size q kind (ss ++ [s]) (.slice aV q.vars.length cV) (.slice aC q.cl.length cC) vS' := hp
            obtain ⟨rfl, hlt2, s, vS', hsc, htg, hP'⟩ := hp'
            have HTN : Hid (Tags q kind (ss ++ [s]) ∧ Marks rows (ss ++ [s])) := hide ⟨(unhide HTG).1.snoc htg.1, (unhide HTG).2.snoc (by
              rw [htg.2, unhide HSK]; simp [List.getD, hlt])⟩
            clear htg
            have HF : Hid (readQ q l = goQ q ended rows.length kind (litsL (ss ++ [s])) (k + 1) (rows.drop (k + 1))) := hide (by rw [unhide HRQ, hq, litsL_snoc, hsc])
            have hSB' : SBs (ss ++ [s]) := ⟨by
              have : ¬ 9000 ≤ ss.length := fun h9 => by unfold lineQ at hq; rw [if_pos (by simpa [litsL] using h9)] at hq; cases hq
              simp; omega, fun c' hc' => by
              rcases List.mem_append.1 hc' with hc' | hc'
              · exact hSB.bits c' hc'
              · simp at hc'; subst hc'; rw [hsc]; exact hlt2⟩
            have HS := hide hSB'
            clear hp hq hSB' hsc
            go_wp2_with fail
            go_roundg (gk - 1)
            case measure => omega
            case rel => exact ⟨k + 1, kind, ss ++ [s], vS', by go_num, by omega, unhide HS, unhide HTN, hP', hb3, Or.inr ⟨by omega, by have := unhide HSK; simp; omega, unhide HF⟩⟩
      · have hkl : k = rows.length := by omega
        have HRQ : Hid (readQ q l = if ended = true ∧ closedQ (litsL ss) = true then .inr (kind, litsL ss) else .inl (5, rows.length + 1)) := hide (by
          rcases unhide HPH with ⟨hk0, hkd, hss⟩ | ⟨hk1, _, hrq⟩
          · have : rows = [] := List.eq_nil_of_length_eq_zero (by omega)
            rw [unhide HSP, this, hss, if_neg (by intro h; cases h.2)]
            rfl
          · rw [hrq, hkl, List.drop_length]; rfl)
        subst hkl
        cases ended with
        | false =>
          have HF : Hid (readQ q l = .inl (5, rows.length + 1)) := hide (by rw [unhide HRQ, if_neg (by intro h; cases h.1)])
          have hz := hrx
          have r20 : wr.cell? ⟨w.heap.size + 1, 0, none⟩ = some (.int .i64 0) := by rw [blk_cell hz]; rfl
          have r21 : wr.cell? ⟨w.heap.size + 1, 1, none⟩ = some (.slice none 0 0) := by rw [blk_cell hz]; rfl
          have y20 := blk_free hz 0
          have y21 := blk_free hz 1
          have hR := blk_set (blk_set hz 0 (.int .i64 0)) 1 (.slice none 0 0)
          have j0 := blk_cell hR 0
          have j1 := blk_cell hR 1
          go_wp2_with fail
          refine bodyPost_ret (v := .tuple #[.agg #[.int .i64 0, .slice none 0 0], .int .i64 5, .int .i64 ((rows.length : Int) + 1)]) (by simp [results, Tryz.results17, go_sem, j0, j1]) rfl ⟨?_, ?_⟩
          · exact (hBx.setCell (p := ⟨w.heap.size + 1, 0, none⟩) (Nat.le_succ _) _).setCell (p := ⟨w.heap.size + 1, 1, none⟩) (Nat.le_succ _) _
          · rw [unhide HF]; exact congrArg (fun m : Int => Ending.returned (.tuple #[.agg #[.int .i64 0, .slice none 0 0], .int .i64 5, .int .i64 m])) (by omega)
        | true =>
          go_wp2_with fail
          refine (closed_any w1.heap.size q kind ss _ _ vS wr hP hSB).mono ?_
          rintro e w2 ⟨rfl, hb2⟩
          have hP2 := hP.later hb2
          have hb3 : Below w1.heap.size w1 w2 := hbx.trans (hb2.mono hbx.size)
          have hB3 : Below w.heap.size w w2 := hB1.trans (hb3.mono hB1.size)
          cases hcl : closedQ (litsL ss) with
          | false =>
            have HF : Hid (readQ q l = .inl (5, rows.length + 1)) := hide (by rw [unhide HRQ, if_neg (by rw [hcl]; intro h; cases h.2)])
            clear hcl
            have hz := (hb3.block _ hsz1).trans hr1
            have r20 : w2.cell? ⟨w.heap.size + 1, 0, none⟩ = some (.int .i64 0) := by rw [blk_cell hz]; rfl
            have r21 : w2.cell? ⟨w.heap.size + 1, 1, none⟩ = some (.slice none 0 0) := by rw [blk_cell hz]; rfl
            have y20 := blk_free hz 0
            have y21 := blk_free hz 1
            have hR := blk_set (blk_set hz 0 (.int .i64 0)) 1 (.slice none 0 0)
            have j0 := blk_cell hR 0
            have j1 := blk_cell hR 1
            go_wp2_with fail
            refine bodyPost_ret (v := .tuple #[.agg #[.int .i64 0, .slice none 0 0], .int .i64 5, .int .i64 ((rows.length : Int) + 1)]) (by simp [results, Tryz.results17, go_sem, j0, j1]) rfl ⟨?_, ?_⟩
            · exact (hB3.setCell (p := ⟨w.heap.size + 1, 0, none⟩) (Nat.le_succ _) _).setCell (p := ⟨w.heap.size + 1, 1, none⟩) (Nat.le_succ _) _
            · rw [unhide HF]; exact congrArg (fun m : Int => Ending.returned (.tuple #[.agg #[.int .i64 0, .slice none 0 0], .int .i64 5, .int .i64 m])) (by omega)
          | true =>
            have HSBH := hide hSB
            have HF : Hid (readQ q l = .inr (kind, litsL ss)) := hide (by rw [unhide HRQ, if_pos (by simp [hcl])])
            clear hcl
            have hz := (hb3.block _ hsz1).trans hr1
            have r20 : w2.cell? ⟨w.heap.size + 1, 0, none⟩ = some (.int .i64 0) := by rw [blk_cell hz]; rfl
            have r21 : w2.cell? ⟨w.heap.size + 1, 1, none⟩ = some (.slice none 0 0) := by rw [blk_cell hz]; rfl
            have y20 := blk_free hz 0
            have y21 := blk_free hz 1
            have p2 : w2.cell? ⟨w1.heap.size, 2, none⟩ = some (.int .i64 kind) := by rw [blk_cell hP2.fb]; rfl
            have p3 : w2.cell? ⟨w1.heap.size, 3, none⟩ = some vS := by rw [blk_cell hP2.fb]; rfl
            obtain ⟨aS, cS, rfl⟩ := own_form hP2.oS
            have hO := ownsRow_setCell_below (ownsRow_setCell_below hP2.oS (a := ⟨w.heap.size + 1, 0, none⟩) (show w.heap.size + 1 < w1.heap.size + 1 by omega) (.int .i64 kind)) (a := ⟨w.heap.size + 1, 1, none⟩) (show w.heap.size + 1 < w1.heap.size + 1 by omega) (.slice aS ss.length cS)
            have HO := hide (own_lo (lo := w.heap.size) hO (by omega))
            clear hO
            have hR := blk_set (blk_set hz 0 (.int .i64 kind)) 1 (.slice aS ss.length cS)
            have j0 := blk_cell hR 0
            have j1 := blk_cell hR 1
            go_wp2_with fail
            refine bodyPost_ret (v := .tuple #[.agg #[.int .i64 kind, .slice aS ss.length cS], .int .i64 0, .int .i64 0]) (by simp [results, Tryz.results17, go_sem, j0, j1]) rfl ⟨?_, ?_⟩
            · exact (hB3.setCell (p := ⟨w.heap.size + 1, 0, none⟩) (Nat.le_succ _) _).setCell (p := ⟨w.heap.size + 1, 1, none⟩) (Nat.le_succ _) _
            · rw [unhide HF]; exact ⟨ss, _, rfl, ⟨(unhide HTG).1, by rw [unhide HROWS]; exact (unhide HTG).2⟩, unhide HSBH, rfl, unhide HO⟩
end Go.Proofs.YtgipjjhkhfihpabGreatDoor

namespace Go.Proofs.YtgipjjhkhfihpabGreatDoor
open Go.RowKit

set_option maxRecDepth 100000 in
set_option maxHeartbeats 800000 in
theorem formula_any (b : Nat) (vV vC : Value) (aV aC : Option Addr) (nV cV nC cC : Nat) (hV : vV = .slice aV nV cV) (hC : vC = .slice aC nC cC) (w : World) (hb : w.heap[b]? = some (.cells #[vV, vC] 48 (0, 0))) :
    Calls Tryz.prog 15 #[.pointer (some ⟨b, 0, none⟩)] w fun e w' => e = .returned (.agg #[vV, vC]) ∧ Below w.heap.size w w' := by
  subst hV hC
  have hf0 : w.cell? ⟨b, 0, none⟩ = some (.slice aV nV cV) := by rw [blk_cell hb]; rfl
  have hf1 : w.cell? ⟨b, 1, none⟩ = some (.slice aC nC cC) := by rw [blk_cell hb]; rfl
  have hbl := blk_lt hb
  go_enter Tryz.func15, Tryz.ntmps15
  go_wp2_with fail
  refine bodyPost_ret (v := .agg #[.slice aV nV cV, .slice aC nC cC]) (by simp [results, Tryz.results15, go_sem]) rfl ⟨rfl, ?_⟩
  exact (Below.refl _ _).alloc (Nat.le_refl _) _
end Go.Proofs.YtgipjjhkhfihpabGreatDoor

namespace Go.Proofs.YtgipjjhkhfihpabGreatDoor
open Go.RowKit

/-! ### Check -/
def checkQ (q : QS) (l : List UInt8) : Nat × Nat × Nat := match readQ q l with
  | .inl (x, i) => (0, x, i)
  | .inr (kind, _) => (kind, 0, 0)
def CheckPost (q : QS) (l : List UInt8) (w : World) (e : Ending) (w' : World) : Prop :=
  Below w.heap.size w w' ∧ e = .returned (.tuple #[.int .i64 ((checkQ q l).1 : Int), .int .i64 ((checkQ q l).2.1 : Int), .int .i64 ((checkQ q l).2.2 : Int)])

set_option maxRecDepth 100000 in
set_option maxHeartbeats 1600000 in
theorem check_any (lo b : Nat) (q : QS) (l : List UInt8) (w : World) (hP : ProgAt lo w b q) (hQ : QB q) :
    Calls Tryz.prog 9 #[.pointer (some ⟨b, 0, none⟩), .string ⟨l.toArray⟩] w fun e w' => CheckPost q l w e w' := by
  obtain ⟨_, vV, vC, hfb, hV, hC⟩ := hP
  have hbw := blk_lt hfb
  have k0 : w.cell? ⟨b, 0, none⟩ = some vV := by rw [blk_cell hfb]; rfl
  have k1 : w.cell? ⟨b, 1, none⟩ = some vC := by rw [blk_cell hfb]; rfl
  obtain ⟨aV, cV, rfl⟩ := own_form hV
  obtain ⟨aC, cC, rfl⟩ := own_form hC
  go_enter Tryz.func9, Tryz.ntmps9
  go_wp2_with fail
  refine (formula_any b _ _ aV aC _ cV _ cC rfl rfl w hfb).mono ?_
  rintro e w0 ⟨rfl, hA⟩
  go_wp2_with fail
  refine (pread_any q _ _ l _ (own_lo (lo := 0) (own_below hV hA) (Nat.zero_le _)) (own_lo (lo := 0) (own_below hC hA) (Nat.zero_le _)) hQ).mono ?_
  rintro e w1 ⟨hb1, hp⟩
  have hB1 : Below w.heap.size w w1 := hA.trans (hb1.mono hA.size)
  cases hq : readQ q l with
  | inl xi =>
    obtain ⟨x, i⟩ := xi
    rw [hq] at hp
    have hp' : e = .returned (.tuple #[.agg #[.int .i64 0, .slice none 0 0], .int .i64 (x : Int), .int .i64 (i : Int)]) := hp
    subst hp'
    have HC : Hid (checkQ q l = (0, x, i)) := hide (by unfold checkQ; rw [hq])
    clear hp hq
    go_wp2_with fail
    go_ret3
    exact ⟨hB1.alloc hB1.size _, by rw [unhide HC]; rfl⟩
  | inr ks =>
    obtain ⟨kind, ls⟩ := ks
    rw [hq] at hp
    obtain ⟨ss, vS, _, _, _, rfl, hS⟩ := hp
    have HC : Hid (checkQ q l = (kind, 0, 0)) := hide (by unfold checkQ; rw [hq])
    clear hq
    obtain ⟨aS, cS, rfl⟩ := own_form hS
    go_wp2_with fail
    go_ret3
    exact ⟨hB1.alloc hB1.size _, by rw [unhide HC]; rfl⟩
end Go.Proofs.YtgipjjhkhfihpabGreatDoor

namespace Go.Proofs.YtgipjjhkhfihpabGreatDoor
open Go.RowKit

/-! Steps -/
theorem ahead_eq (ss : List (Nat × Nat)) (w : List UInt8) (hs : ss.length ≤ 9000) : aheadQ ss w = if cnt w big < 1 ∨ ss.length < cnt w big then none else some (ss.getD (cnt w big - 1) (0, 0)) := by
  unfold aheadQ
  rw [num_cnt w ss.length (by omega)]
  by_cases h : cnt w big < 1 ∨ ss.length < cnt w big
  · rw [if_pos h, if_neg (by omega)]; rfl
  · rw [if_neg h, if_pos (by omega)]
    have hlt : cnt w big - 1 < ss.length := by omega
    simp only [Option.bind_some]
    rw [List.getElem?_eq_getElem hlt, getD_at _ _ _ hlt]
theorem axiom_eq {F : Form} {q : QS} (h : FQ F q) (x : List UInt8) : axiomQ q 1 [x] = axR F (cnt x big) := by
  unfold axiomQ axR
  rw [if_pos rfl, h.cl]
  dsimp only
  rw [num_cnt x q.cl.length (by have := h.clen; omega)]
  by_cases hb : cnt x big < 1 ∨ q.cl.length < cnt x big
  · rw [if_pos hb, if_neg (by omega)]; rfl
  · rw [if_neg hb, if_pos (by omega)]
    have hlt : cnt x big - 1 < q.cl.length := by omega
    simp only [Option.bind_some]
    rw [List.getElem?_eq_getElem hlt, getD_at _ _ _ hlt]
    simp only [Option.bind_some]
    unfold apartO
    by_cases hz : q.cl[cnt x big - 1].1 &&& q.cl[cnt x big - 1].2 = 0
    · rw [if_pos hz, if_neg (by simp [hz])]
    · rw [if_neg hz, if_pos (by simpa using hz)]
theorem reduct_eq {F : Form} {q : QS} (h : FQ F q) (hF : FOk F) (truth : Bool) (ss : List (Nat × Nat)) (hs : ss.length ≤ 9000) (x : List UInt8) : reductQ q (kd truth) ss [x] = reductR F truth ss (cnt x big) := by
  unfold reductQ reductR
  dsimp only
  rw [ahead_eq ss x hs]
  by_cases hb : cnt x big < 1 ∨ ss.length < cnt x big
  · rw [if_pos hb, if_pos hb]; rfl
  · rw [if_neg hb, if_neg hb]
    simp only [Option.map_some]
    rw [redQ_eq h hF truth]
theorem piv_eq {F : Form} {q : QS} (h : FQ F q) (truth : Bool) (z : List UInt8) : pivQ q (kd truth) z = if 1 ≤ cnt z big ∧ cnt z big ≤ 8 ∧ cnt z big ∈ F.order ∧ F.all.testBit (cnt z big) = truth then some (cnt z big) else none := by
  have hd := dig_num z
  rw [num_cnt z 8 (by omega)] at hd
  unfold pivQ
  have hbd := dig_bd z
  by_cases h0 : dig z = 0
  · rw [if_pos h0] at hd
    rw [if_neg (by omega), if_neg]
    rintro ⟨h1, h2, _⟩
    rw [if_pos ⟨h1, h2⟩] at hd; cases hd
  · rw [if_neg h0] at hd
    have hc : 1 ≤ cnt z big ∧ cnt z big ≤ 8 := by
      apply Classical.byContradiction
      intro hn
      rw [if_neg hn] at hd; cases hd
    rw [if_pos hc] at hd
    have he : cnt z big = (dig z).toNat := Option.some.inj hd
    rw [if_pos (by omega), ← he]
    rcases find_mem h (cnt z big) with ⟨x, h1, h2, h3, h4⟩ | ⟨h1, h2⟩
    · rw [h1]
      simp only [Option.bind_some]
      have hk := h.kinds x h3
      rw [h2] at hk
      have hp : pivotB (kd truth) x.2 = (F.all.testBit (cnt z big) == truth) := by
        rw [hk]; unfold pivotB kd; cases truth <;> cases x.2 <;> rfl
      rw [hp]
      by_cases hb : F.all.testBit (cnt z big) = truth
      · rw [if_pos (by simpa using hb), if_pos ⟨hc.1, hc.2, h4, hb⟩]
      · rw [if_neg (by simpa using hb), if_neg (fun hh => hb hh.2.2.2)]
    · rw [h1, if_neg (fun hh => h2 hh.2.2.1)]; rfl
theorem resQ2_eq {F : Form} (a b : Nat × Nat) (v : Nat) (h1 : 1 ≤ v) (h8 : v ≤ 8) (sa : SI F a) (sb : SI F b) : resQ2 a b v = if a.1.testBit v = false ∨ b.2.testBit v = false then none else apartO (resolve2 a b v) := by
  by_cases ha : a.1.testBit v = true
  · by_cases hb : b.2.testBit v = true
    · have e : without2 a b v = resolve2 a b v := by
        have na : a.2.testBit v = false := by
          cases hh : a.2.testBit v with
          | false => rfl
          | true => exact (bits_apart sa.apart v ha hh).elim
        have nb : b.1.testBit v = false := by
          cases hh : b.1.testBit v with
          | false => rfl
          | true => exact (bits_apart sb.apart v hh hb).elim
        unfold without2 without resolve2
        rw [bitOf_nat v h1 h8]
        apply pair_ext
        · intro u
          show (less (a.1 ||| b.1) (2 ^ v)).testBit u = (less a.1 (2 ^ v) ||| b.1).testBit u
          rw [testBit_less, Nat.testBit_or, Nat.testBit_or, testBit_less, Nat.testBit_two_pow]
          by_cases e : v = u
          · subst e; simp [nb]
          · simp [e]
        · intro u
          show (less (a.2 ||| b.2) (2 ^ v)).testBit u = (a.2 ||| less b.2 (2 ^ v)).testBit u
          rw [testBit_less, Nat.testBit_or, Nat.testBit_or, testBit_less, Nat.testBit_two_pow]
          by_cases e : v = u
          · subst e; simp [na]
          · simp [e]
      have e1 : resQ2 a b v = (if (without2 a b v).1 &&& (without2 a b v).2 != 0 then none else some (without2 a b v)) := by
        unfold resQ2; rw [hasLit_pos a v h1 h8, hasLit_neg b v h1 h8, if_pos ⟨ha, hb⟩]
      rw [e1, e, if_neg (show ¬ (a.1.testBit v = false ∨ b.2.testBit v = false) by rw [ha, hb]; simp)]
      unfold apartO
      by_cases hz2 : (resolve2 a b v).1 &&& (resolve2 a b v).2 = 0
      · rw [if_pos hz2, if_neg (by simp [hz2])]
      · rw [if_neg hz2, if_pos (by simpa using hz2)]
    · have hb' : b.2.testBit v = false := by simpa using hb
      rw [if_pos (Or.inr hb')]
      unfold resQ2; rw [hasLit_neg b v h1 h8, if_neg (fun hh => hb hh.2)]
  · have ha' : a.1.testBit v = false := by simpa using ha
    rw [if_pos (Or.inl ha')]
    unfold resQ2; rw [hasLit_pos a v h1 h8, if_neg (fun hh => ha hh.1)]
theorem res_eq {F : Form} {q : QS} (h : FQ F q) (truth : Bool) (ss : List (Nat × Nat)) (hs : ss.length ≤ 9000) (hSI : ∀ c ∈ ss, SI F c) (x y z : List UInt8) : resQ q (kd truth) ss [x, y, z] = resR F truth ss (cnt x big) (cnt y big) (cnt z big) := by
  have LQ : resQ q (kd truth) ss [x, y, z] = (aheadQ ss x).bind fun a => (aheadQ ss y).bind fun b => (pivQ q (kd truth) z).bind fun v => resQ2 a b v := rfl
  have RN : (cnt x big < 1 ∨ ss.length < cnt x big ∨ cnt y big < 1 ∨ ss.length < cnt y big ∨ cnt z big < 1 ∨ 8 < cnt z big) → resR F truth ss (cnt x big) (cnt y big) (cnt z big) = none := fun hh => by unfold resR; rw [if_pos hh]
  rw [LQ]
  by_cases hx : cnt x big < 1 ∨ ss.length < cnt x big
  · rw [ahead_eq ss x hs, if_pos hx, RN (by omega)]; rfl
  · rw [ahead_eq ss x hs, if_neg hx, Option.bind_some]
    by_cases hy : cnt y big < 1 ∨ ss.length < cnt y big
    · rw [ahead_eq ss y hs, if_pos hy, RN (by omega)]; rfl
    · rw [ahead_eq ss y hs, if_neg hy, Option.bind_some]
      by_cases hz : cnt z big < 1 ∨ 8 < cnt z big
      · rw [piv_eq h truth z, if_neg (by omega), RN (by omega)]; rfl
      · have h1 : 1 ≤ cnt z big := by omega
        have h8 : cnt z big ≤ 8 := by omega
        have ia : cnt x big - 1 < ss.length := by omega
        have ib : cnt y big - 1 < ss.length := by omega
        have hR : resR F truth ss (cnt x big) (cnt y big) (cnt z big) = if F.all.testBit (cnt z big) ≠ truth ∨ ss[cnt x big - 1].1.testBit (cnt z big) = false ∨ ss[cnt y big - 1].2.testBit (cnt z big) = false then none else apartO (resolve2 ss[cnt x big - 1] ss[cnt y big - 1] (cnt z big)) := by
          unfold resR
          rw [if_neg (by omega), getD_at _ _ _ ia, getD_at _ _ _ ib]
        rw [hR, getD_at _ _ _ ia, getD_at _ _ _ ib, piv_eq h truth z]
        have sa := hSI _ (List.getElem_mem ia)
        have sb := hSI _ (List.getElem_mem ib)
        clear RN LQ hR
        generalize ss[cnt x big - 1] = a at *
        generalize ss[cnt y big - 1] = b at *
        generalize cnt z big = v at *
        by_cases hk : F.all.testBit v = truth
        · by_cases hm : v ∈ F.order
          · have hc : (1 ≤ v ∧ v ≤ 8 ∧ v ∈ F.order ∧ F.all.testBit v = truth) := ⟨h1, h8, hm, hk⟩
            rw [if_pos hc, Option.bind_some, resQ2_eq a b v h1 h8 sa sb]
            by_cases hh : a.1.testBit v = false ∨ b.2.testBit v = false
            · rw [if_pos hh, if_pos (Or.inr hh)]
            · rw [if_neg hh, if_neg (by rintro (h' | h'); exact h' hk; exact hh h')]
          · have hc : ¬ (1 ≤ v ∧ v ≤ 8 ∧ v ∈ F.order ∧ F.all.testBit v = truth) := fun hh => hm hh.2.2.1
            have ha : a.1.testBit v = false := by
              cases hh : a.1.testBit v with
              | false => rfl
              | true => exact absurd (sa.vars v (Or.inl hh)) hm
            rw [if_neg hc, if_pos (Or.inr (Or.inl ha))]; rfl
        · have hc : ¬ (1 ≤ v ∧ v ≤ 8 ∧ v ∈ F.order ∧ F.all.testBit v = truth) := fun hh => hk hh.2.2.2
          rw [if_neg hc, if_pos (Or.inl hk)]; rfl

/-! Cubes -/
theorem lit_eq (c : Nat × Nat) (w : List UInt8) : (litInto c w).2 = litGood w ∧ (litGood w = true → (litInto c w).1 = withLit c (litNum w) ∧ (litNum w).natAbs = litVar w) := by
  obtain ⟨h1, h2⟩ := litInto_good c w
  refine ⟨h1, fun hg => ⟨h2 hg, ?_⟩⟩
  unfold litGood at hg
  unfold litNum litVar
  by_cases hh : w.head? = some 45
  · rw [if_pos hh] at hg ⊢
    have hd : 0 < dig w.tail := of_decide_eq_true hg
    have h0 : dig w = 0 := by
      cases w with
      | nil => simp at hh
      | cons a r =>
        simp at hh; subst hh
        cases r with
        | nil => rfl
        | cons b r => rfl
    rw [if_pos h0]; omega
  · rw [if_neg hh] at hg ⊢
    have hd : 0 < dig w := of_decide_eq_true hg
    rw [if_neg (by omega)]; omega
theorem cube_eq {F : Form} {q : QS} (h : FQ F q) (ws : List (List UInt8)) : ∀ (c : Nat × Nat) (last : Nat), cubeQ q.vars c last ws = cubeTo F.order c last ws := by
  induction ws with
  | nil => intro c last; rfl
  | cons w ws ih =>
    intro c last
    obtain ⟨h1, h2⟩ := lit_eq c w
    rw [cubeQ, cubeTo, h1]
    cases hg : litGood w with
    | false => rw [if_neg (by decide), if_neg (fun hh => by cases hh.1)]
    | true =>
      obtain ⟨h3, h4⟩ := h2 hg
      rw [if_pos rfl, h4, h3]
      rcases find_mem h (litVar w) with ⟨x, f1, f2, f3, f4⟩ | ⟨f1, f2⟩
      · rw [f1]
        dsimp only
        rw [f2]
        by_cases hle : litVar w ≤ last
        · rw [if_pos hle, if_neg (fun hh => by have := hh.2.1; omega)]
        · rw [if_neg hle, if_pos ⟨rfl, by omega, f4⟩, ih]
      · rw [f1]
        dsimp only
        rw [if_neg (fun hh => f2 hh.2.2)]
theorem cubeStep_eq {F : Form} {q : QS} (h : FQ F q) (ws : List (List UInt8)) : cubeStepQ q 2 ws = cubeR F ws := by
  unfold cubeStepQ cubeR
  rw [if_pos rfl, cube_eq h, h.cl]
  congr 1
  funext c
  have : satQ q.cl c = satR q.cl c := by
    unfold satQ satR
    congr 1
    funext x
    exact okC_eq x c
  rw [this]

/-! Lines -/
theorem step_eq {F : Form} {q : QS} (h : FQ F q) (hF : FOk F) (truth : Bool) (ss : List (Nat × Nat)) (hs : ss.length ≤ 9000) (hSI : ∀ c ∈ ss, SI F c) (hd : List UInt8) (tl : List (List UInt8)) : stepQ q (kd truth) ss hd tl = stepR F truth ss hd tl := by
  unfold stepQ
  by_cases ha : hd = [97]
  · subst ha
    rw [if_pos rfl]
    cases truth with
    | true =>
      have e1 : stepR F true ss [97] tl = none := rfl
      rw [e1]; rfl
    | false =>
      by_cases hl : tl.length = 1
      · obtain ⟨x, rfl⟩ := List.length_eq_one_iff.1 hl
        exact axiom_eq h x
      · have e1 : stepR F false ss [97] tl = none := by unfold stepR; rw [if_neg (fun h => hl h.2.2), if_neg (by simp), if_neg (by simp), if_neg (by simp)]
        rw [e1]
        unfold axiomQ
        split
        · split
          · simp at hl
          · rfl
        · rfl
  · rw [if_neg ha]
    by_cases hc : hd = [99]
    · subst hc
      rw [if_pos rfl]
      cases truth with
      | false =>
        have e1 : stepR F false ss [99] tl = none := rfl
        rw [e1]; rfl
      | true =>
        have e1 : stepR F true ss [99] tl = cubeR F tl := rfl
        rw [e1]; exact cubeStep_eq h tl
    · rw [if_neg hc]
      by_cases hr : hd = [114]
      · subst hr
        rw [if_pos rfl]
        by_cases hl : tl.length = 3
        · obtain ⟨x, y, z, rfl⟩ := len_three hl
          rw [res_eq h truth ss hs hSI]
          unfold stepR; rw [if_neg (by simp), if_neg (by simp), if_pos ⟨rfl, rfl⟩]; rfl
        · have e1 : stepR F truth ss [114] tl = none := by unfold stepR; rw [if_neg (by simp), if_neg (by simp), if_neg (fun h => hl h.2), if_neg (by simp)]
          rw [e1]
          unfold resQ
          split
          · simp at hl
          · rfl
      · rw [if_neg hr]
        by_cases hdd : hd = [100]
        · subst hdd
          rw [if_pos rfl]
          by_cases hl : tl.length = 1
          · obtain ⟨x, rfl⟩ := List.length_eq_one_iff.1 hl
            rw [reduct_eq h hF truth ss hs]
            unfold stepR; rw [if_neg (by simp), if_neg (by simp), if_neg (by simp), if_pos ⟨rfl, rfl⟩]; rfl
          · have e1 : stepR F truth ss [100] tl = none := by unfold stepR; rw [if_neg (by simp), if_neg (by simp), if_neg (by simp), if_neg (fun h => hl h.2)]
            rw [e1]
            unfold reductQ
            split
            · simp at hl
            · rfl
        · rw [if_neg hdd]
          unfold stepR; rw [if_neg (fun h => ha h.1), if_neg (fun h => hc h.1), if_neg (fun h => hr h.1), if_neg (fun h => hdd h.1)]
end Go.Proofs.YtgipjjhkhfihpabGreatDoor

namespace Go.Proofs.YtgipjjhkhfihpabGreatDoor
open Go.RowKit

theorem cnt_nil : cnt [] big = 0 := rfl
theorem cubeTo_bad (order : List Nat) (ws : List (List UInt8)) (h : [] ∈ ws) : ∀ c last, cubeTo order c last ws = none := by
  induction ws with
  | nil => simp at h
  | cons w ws ih =>
    intro c last
    rw [cubeTo]
    rcases List.mem_cons.1 h with h | h
    · subst h; rw [if_neg]; rintro ⟨h1, _⟩; cases h1
    · split
      · exact ih h _ _
      · rfl
theorem step_bad (F : Form) (truth : Bool) (ss : List (Nat × Nat)) (hd : List UInt8) (tl : List (List UInt8)) (h : hd = [] ∨ [] ∈ tl) : stepR F truth ss hd tl = none := by
  rcases h with h | h
  · subst h
    unfold stepR; rw [if_neg (by simp), if_neg (by simp), if_neg (by simp), if_neg (by simp)]
  · unfold stepR
    split
    · next hc =>
      obtain ⟨x, rfl⟩ := List.length_eq_one_iff.1 hc.2.2
      have hx : x = [] := by simpa using h
      subst hx
      show axR F (cnt [] big) = none
      rw [cnt_nil]; rfl
    · split
      · unfold cubeR; rw [cubeTo_bad _ _ h]; rfl
      · split
        · next hc =>
          obtain ⟨x, y, z, rfl⟩ := len_three hc.2
          show resR F truth ss (cnt x big) (cnt y big) (cnt z big) = none
          unfold resR
          rw [if_pos]
          simp at h
          rcases h with h | h | h
          · left; rw [h, cnt_nil]; omega
          · right; right; left; rw [h, cnt_nil]; omega
          · right; right; right; right; left; rw [h, cnt_nil]; omega
        · split
          · next hc =>
            obtain ⟨x, rfl⟩ := List.length_eq_one_iff.1 hc.2
            have hx : x = [] := by simpa using h
            subst hx
            show reductR F truth ss (cnt [] big) = none
            rw [cnt_nil]; rfl
          · rfl
theorem line_eq {F : Form} {q : QS} (h : FQ F q) (hF : FOk F) (truth : Bool) (ss : List (Nat × Nat)) (hs : ss.length ≤ 9000) (hSI : ∀ c ∈ ss, SI F c) (row : List UInt8) : lineQ q (kd truth) ss row = lineR F truth ss row := by
  obtain ⟨hd, tl, hws⟩ : ∃ hd tl, cutAt 32 row = hd :: tl := by
    cases h : cutAt 32 row with
    | nil => simp [cutAt] at h
    | cons a b => exact ⟨a, b, rfl⟩
  rw [lineR_eq F truth ss row hd tl hws]
  by_cases h9 : 9000 ≤ ss.length
  · rw [if_pos (by omega)]
    unfold lineQ; rw [if_pos h9]
  · rw [if_neg (by omega)]
    cases hsp : splitOk row with
    | true => rw [lineQ_eq q (kd truth) ss row hd tl h9 hsp hws, step_eq h hF truth ss hs hSI]
    | false =>
      rw [step_bad F truth ss hd tl (split_words row hd tl hws hsp)]
      unfold lineQ; rw [if_neg h9, hsp]; rfl
theorem si_of {F : Form} {truth : Bool} {c : Nat × Nat} (hg : Good (satB F.cl) F.all (!truth) F.order c) (hb : Bd c) : SI F c := ⟨hb, apart_bits hg.apart, hg.vars⟩
theorem lineR_good {F : Form} (hF : FOk F) (truth : Bool) (ss : List (Nat × Nat)) (hg : ∀ c ∈ ss, Good (satB F.cl) F.all (!truth) F.order c) (hb : ∀ c ∈ ss, Bd c) (row : List UInt8) (c : Nat × Nat) (h : lineR F truth ss row = some c) : Good (satB F.cl) F.all (!truth) F.order c ∧ Bd c ∧ ss.length < 9000 ∨ 9000 < ss.length := by
  unfold lineR at h
  split at h
  · cases h
  · split at h
    · cases h
    · next h9 =>
      by_cases hh : 9000 < ss.length
      · exact Or.inr hh
      · exact Or.inl ⟨good_stepR hF truth ss _ _ _ hg h, stepR_bd F truth ss _ _ c hF.bits hb h, by omega⟩
theorem rowsQ_eq {F : Form} {q : QS} (h : FQ F q) (hF : FOk F) (truth : Bool) (rs : List (List UInt8)) : ∀ (ss : List (Nat × Nat)) (n : Nat), ss.length ≤ 9000 → (∀ c ∈ ss, Good (satB F.cl) F.all (!truth) F.order c) → (∀ c ∈ ss, Bd c) → rowsQ q (kd truth) ss n rs = rowsR F truth ss n rs := by
  induction rs with
  | nil => intro ss n _ _ _; rfl
  | cons r rs ih =>
    intro ss n hs hg hb
    rw [rowsQ, rowsR, line_eq h hF truth ss hs (fun c hc => si_of (hg c hc) (hb c hc)) r]
    cases hl : lineR F truth ss r with
    | none => rfl
    | some c =>
      dsimp only
      rcases lineR_good hF truth ss hg hb r c hl with ⟨h1, h2, h3⟩ | h9
      · apply ih
        · simp; omega
        · intro c' hc'
          rcases List.mem_append.1 hc' with hc' | hc'
          · exact hg c' hc'
          · simp at hc'; subst hc'; exact h1
        · intro c' hc'
          rcases List.mem_append.1 hc' with hc' | hc'
          · exact hb c' hc'
          · simp at hc'; subst hc'; exact h2
      · omega
theorem check_eq {F : Form} {q : QS} (h : FQ F q) (hF : FOk F) (l : List UInt8) : checkQ q l = match provesR F l with
    | .inl (x, i) => (0, x, i)
    | .inr (truth, _) => (kd truth, 0, 0) := by
  unfold checkQ readQ provesR
  by_cases hl : 262144 < l.length
  · rw [if_pos hl, if_pos hl]
  · rw [if_neg hl, if_neg hl]
    cases hrows : (cutTo 10 l).1 with
    | nil => rfl
    | cons r0 rs =>
      unfold firstQ
      dsimp only
      by_cases hr : r0 = sTrue ∨ r0 = sFalse
      · rw [if_pos hr, if_pos hr]
        have hk : kindOf r0 = kd (r0 == sTrue) := by
          unfold kindOf kd
          by_cases e : r0 = sTrue
          · rw [if_pos e, if_pos (by simpa using e)]
          · rw [if_neg e, if_neg (by simpa using e)]
        unfold goQ
        rw [hk, rowsQ_eq h hF (r0 == sTrue) rs [] 1 (by simp) (by simp) (by simp)]
        cases rowsR F (r0 == sTrue) [] 1 rs with
        | inr i => rfl
        | inl ss =>
          dsimp only
          have he : closedQ ss = emptyLast ss := rfl
          rw [he]
          by_cases hc : (cutTo 10 l).2 = [] ∧ emptyLast ss = true
          · rw [if_pos hc, if_pos ⟨by simpa using hc.1, hc.2⟩]
          · rw [if_neg hc, if_neg (fun hh => hc ⟨by simpa using hh.1, hh.2⟩)]
      · rw [if_neg hr, if_neg hr]

end Go.Proofs.YtgipjjhkhfihpabGreatDoor

namespace Go.Proofs.YtgipjjhkhfihpabGreatDoor
open Go.RowKit

/-! ### The values of a game -/
def valV (c : Nat × Nat) (v : Nat) : Int := if L c false v then -1 else if L c true v then 1 else 0
theorem run_L {q : QS} (hq : QGood q) {kind : Nat} {rs : List RuleP} {g : GS} {bs : List Bool} (h : Run q kind rs g bs) (s : Bool) (v : Nat) : L g.vals s v = true ↔ ∃ j, ∃ hj : j < q.vars.length, j < bs.length ∧ q.vars[j].1 = v ∧ bs.reverse.getD j false = s := by
  have hle : bs.length ≤ q.vars.length := by
    rw [h.len]; have := offs_le (progBlocks q.vars) g.turn; rw [progBlocks_flat, List.length_map] at this; exact this
  rw [h.vals, valsTo_L _ (fun v hv => hq.name hv) bs (by simpa using hle)]
  constructor
  · rintro ⟨j, h1, h2, h3⟩
    have hj : j < q.vars.length := by omega
    exact ⟨j, hj, h1, by rw [← name_at j hj]; exact h2, h3⟩
  · rintro ⟨j, hj, h1, h2, h3⟩
    exact ⟨j, h1, by rw [name_at j hj]; exact h2, h3⟩
theorem vars_inj {q : QS} (hq : QGood q) {i j : Nat} (hi : i < q.vars.length) (hj : j < q.vars.length) (e : q.vars[i].1 = q.vars[j].1) : i = j := index_inj hq hi hj e
/-- The value of the variable at a place. -/
theorem run_val {q : QS} (hq : QGood q) {kind : Nat} {rs : List RuleP} {g : GS} {bs : List Bool} (h : Run q kind rs g bs) {j : Nat} (hj : j < q.vars.length) (hb : j < bs.length) : valV g.vals q.vars[j].1 = if bs.reverse.getD j false then 1 else -1 := by
  have hone : ∀ s, L g.vals s q.vars[j].1 = true ↔ bs.reverse.getD j false = s := fun s => by
    rw [run_L hq h]
    constructor
    · rintro ⟨i, hi, _, h2, h3⟩
      rw [vars_inj hq hi hj h2] at h3; exact h3
    · intro e; exact ⟨j, hj, hb, rfl, e⟩
  unfold valV
  cases e : bs.reverse.getD j false with
  | true =>
    have h1 := (hone true).2 e
    have h0 : L g.vals false q.vars[j].1 = false := by
      cases hc : L g.vals false q.vars[j].1 with
      | false => rfl
      | true => have := (hone false).1 hc; rw [e] at this; cases this
    rw [h0, h1]; rfl
  | false =>
    have h1 := (hone false).2 e
    rw [h1]; rfl
theorem move_run {q : QS} (hq : QGood q) {kind : Nat} (hk : kind = 1 ∨ kind = 2) {rs : List RuleP} {g : GS} {bs : List Bool} (h : Run q kind rs g bs) (hs : Stands q kind g) (ht : g.turn < (progBlocks q.vars).length) (bits : Nat) :
    ∃ b2, Run q kind rs (moveW rs (blW q kind) g bits) (b2 ++ bs) ∧ Stands q kind (moveW rs (blW q kind) g bits) ∧ g.turn + 1 ≤ (moveW rs (blW q kind) g bits).turn ∧
      (∀ j (hj : j < (progBlocks q.vars).length), g.turn + 1 ≤ j → j < (moveW rs (blW q kind) g bits).turn → winsW q kind (progBlocks q.vars)[j] = true) ∧
      ∀ i (hi : i < (progBlocks q.vars)[g.turn].length), valV (moveW rs (blW q kind) g bits).vals (progBlocks q.vars)[g.turn][i] = if bits.testBit i then 1 else -1 := by
  obtain ⟨b1, h1, h2, h3⟩ := move_part hq hk ht (hs.lose ht) bits (progBlocks q.vars)[g.turn].length 0 g.vals bs (by omega) h.part
  rw [List.drop_zero] at h1
  obtain ⟨b2, r1, r2, r3, r4⟩ := ans_run hq hk ((blW q kind).length - (g.turn + 1)) ⟨g.turn + 1, _⟩ _ (by show g.turn + 1 + _ = _; rw [blW_length]; omega) (h1.done ht)
  have e : moveW rs (blW q kind) g bits = ansGo rs (blW q kind) ((blW q kind).length - (g.turn + 1)) ⟨g.turn + 1, moveBlk (progBlocks q.vars)[g.turn] bits 0 g.vals⟩ := by
    unfold moveW ansW; rw [blW_at q kind _ ht]
  rw [e]
  refine ⟨b2 ++ b1, by rw [List.append_assoc]; exact r1, r2, r3, r4, fun i hi => ?_⟩
  have hlt := offs_lt g.turn i ht hi
  have hx : (q.vars[offs (progBlocks q.vars) g.turn + i]'hlt).1 = (progBlocks q.vars)[g.turn][i] := by rw [← name_at _ hlt]; exact names_at g.turn i ht hi
  have hl := h.len
  rw [← hx, run_val hq r1 hlt (by simp; omega)]
  rw [← List.append_assoc, List.reverse_append, List.getD, List.getElem?_append_right (by simp; omega)]
  have h4 := h3 i hi
  rw [Nat.zero_add] at h4
  rw [← h4, List.getD, show offs (progBlocks q.vars) g.turn + i - bs.reverse.length = i from by simp; omega, List.reverse_append, List.getElem?_append_left (by simp; omega)]
theorem open_run {q : QS} (hq : QGood q) {kind : Nat} (hk : kind = 1 ∨ kind = 2) (ss : List Stp) :
    ∃ bs, Run q kind (rulesW kind ss) (openW q kind ss) bs ∧ Stands q kind (openW q kind ss) ∧ ∀ j (hj : j < (progBlocks q.vars).length), j < (openW q kind ss).turn → winsW q kind (progBlocks q.vars)[j] = true := by
  obtain ⟨b2, r1, r2, _, r4⟩ := ans_run hq hk (rs := rulesW kind ss) (blW q kind).length ⟨0, (0, 0)⟩ [] (by show 0 + _ = _; rw [blW_length]; omega) (run_zero q kind _)
  exact ⟨b2 ++ [], r1, r2, fun j hj h => r4 j hj (Nat.zero_le _) h⟩

/-! ### At the end the side that wins has won -/
theorem emptyLast_hits {ss : List Stp} (h : closedQ (litsL ss) = true) (kind : Nat) (V : Nat × Nat) : ∃ i, ∃ hi : i < ss.length, Hits kind V ss[i].lits := by
  rw [closed_lits, Bool.and_eq_true] at h
  obtain ⟨h1, h2⟩ := h
  have hp : 0 < ss.length := by simpa using h1
  obtain ⟨m, hm⟩ : ∃ m, ss.length = m + 1 := ⟨ss.length - 1, by omega⟩
  have e1 : litsAt ss ss.length = (ss[m]'(by omega)).lits := by have h5 := litsAt_in ss m (by omega); rwa [← hm] at h5
  rw [e1] at h2
  refine ⟨m, by omega, fun s v hl => ?_⟩
  have he : emptyB (ss[m]'(by omega)).lits = true := h2
  rw [(empty_iff _).1 he s v] at hl
  cases hl
theorem won_end {q : QS} (hq : QGood q) {kind : Nat} (hk : kind = 1 ∨ kind = 2) {ss : List Stp} (hs : Steps2 q kind ss) (hc : closedQ (litsL ss) = true) {g : GS} {bs : List Bool} (h : Run q kind (rulesW kind ss) g bs) (ht : g.turn = (progBlocks q.vars).length) : WonBy q kind g.vals := by
  have hl : bs.length = q.vars.length := by rw [h.len, ht, offs_all, progBlocks_flat, List.length_map]
  obtain ⟨i, hi, hh⟩ := emptyLast_hits hc kind g.vals
  rw [h.vals] at hh ⊢
  exact won_step hq hk hs hl h.keeps i hi hh
theorem run_uniq {q : QS} (hq : QGood q) {kind : Nat} {rs : List RuleP} {g : GS} {bs : List Bool} (h : Run q kind rs g bs) {v : Nat} (h0 : L g.vals false v = true) : L g.vals true v = false := by
  cases hc : L g.vals true v with
  | false => rfl
  | true =>
    obtain ⟨i, hi, _, i2, i3⟩ := (run_L hq h _ _).1 h0
    obtain ⟨j, hj, _, j2, j3⟩ := (run_L hq h _ _).1 hc
    rw [vars_inj hq hi hj (i2.trans j2.symm), j3] at i3
    cases i3
theorem won_sat {q : QS} (hq : QGood q) {kind : Nat} {rs : List RuleP} {g : GS} {bs : List Bool} (h : Run q kind rs g bs) (hw : WonBy q kind g.vals) : satB q.cl g.vals.1 = (kind == 2) := by
  rcases hw with ⟨rfl, c, hc, _, hh⟩ | ⟨rfl, c, hc, hh⟩
  · show satB q.cl g.vals.1 = false
    cases hs : satB q.cl g.vals.1 with
    | false => rfl
    | true =>
      obtain ⟨v, ⟨h1, h2⟩ | ⟨h1, h2⟩⟩ := (satC_iff _ _).1 ((satB_iff _ _).1 hs c hc)
      · have := run_uniq hq h (hh true v h1)
        rw [show L g.vals true v = g.vals.1.testBit v from rfl, h2] at this; cases this
      · have : g.vals.1.testBit v = true := hh false v h1
        rw [h2] at this; cases this
  · show satB q.cl g.vals.1 = true
    rw [satB_iff]
    intro x hx
    unfold satQ at hc
    have ho := List.all_eq_true.1 hc x hx
    unfold okC at ho
    rw [Bool.or_eq_true] at ho
    rw [satC_iff]
    rcases ho with ho | ho
    · obtain ⟨s, v, h1, h2⟩ := (meets_iff x c).1 ho
      have h3 : L g.vals s v = true := hh s v h2
      cases s with
      | true => exact ⟨v, Or.inl ⟨h1, h3⟩⟩
      | false => exact ⟨v, Or.inr ⟨h1, run_uniq hq h h3⟩⟩
    · obtain ⟨v, h1, h2⟩ := (clash_iff x).1 ho
      cases hb : g.vals.1.testBit v with
      | true => exact ⟨v, Or.inl ⟨h1, hb⟩⟩
      | false => exact ⟨v, Or.inr ⟨h2, hb⟩⟩

/-! ### Of proofs that were read -/
theorem steps_of {F : Form} {q : QS} (h : FQ F q) (hF : FOk F) {l : List UInt8} {kind : Nat} {ss : List Stp} (hr : readQ q l = .inr (kind, litsL ss)) (ht : Tags q kind ss) (hb : SBs ss) :
    Steps2 q kind ss ∧ closedQ (litsL ss) = true ∧ ∃ truth two, provesR F l = .inr (truth, two) ∧ kind = kd truth := by
  unfold readQ at hr
  by_cases hl : 262144 < l.length
  · rw [if_pos hl] at hr; cases hr
  · rw [if_neg hl] at hr
    cases hrows : (cutTo 10 l).1 with
    | nil => rw [hrows] at hr; cases hr
    | cons r0 rs =>
      rw [hrows] at hr
      unfold firstQ at hr
      dsimp only at hr
      by_cases hr0 : r0 = sTrue ∨ r0 = sFalse
      · rw [if_pos hr0] at hr
        have hk : kindOf r0 = kd (r0 == sTrue) := by
          unfold kindOf kd
          by_cases e : r0 = sTrue
          · rw [if_pos e, if_pos (by simpa using e)]
          · rw [if_neg e, if_neg (by simpa using e)]
        unfold goQ at hr
        rw [hk, rowsQ_eq h hF (r0 == sTrue) rs [] 1 (by simp) (by simp) (by simp)] at hr
        cases hrr : rowsR F (r0 == sTrue) [] 1 rs with
        | inr i => rw [hrr] at hr; cases hr
        | inl s2 =>
          rw [hrr] at hr
          dsimp only at hr
          split at hr
          · next hc =>
            injection hr with hr
            injection hr with e1 e2
            subst e2
            have hg := good_rows hF (r0 == sTrue) rs [] 1 _ (by simp) hrr
            have hmem : ∀ s ∈ ss, s.lits ∈ litsL ss := fun s hs => List.mem_map_of_mem hs
            refine ⟨⟨ht, fun s hs => ⟨hb.bits s hs, fun t v hv => ?_⟩, fun s hs v a b => (hg _ (hmem s hs)).apart v a b⟩, hc.2, r0 == sTrue, twoR rs, ?_, e1.symm⟩
            · rw [← h.order]
              refine (hg _ (hmem s hs)).vars v ?_
              cases t with
              | true => exact Or.inl hv
              | false => exact Or.inr hv
            · unfold provesR
              rw [if_neg hl, hrows]
              dsimp only
              rw [if_pos hr0, hrr]
              dsimp only
              rw [if_pos ⟨by simpa using hc.1, hc.2⟩]
          · cases hr
      · rw [if_neg hr0] at hr; cases hr
end Go.Proofs.YtgipjjhkhfihpabGreatDoor
