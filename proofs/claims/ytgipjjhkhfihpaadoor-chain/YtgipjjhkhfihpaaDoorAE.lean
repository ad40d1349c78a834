import Derived.Test.YtgipjjhkhfihpaaDoorAD
import Derived.Test.YtgipjjhkhfihpaaDoorAC
import Derived.Test.YtgipjjhkhfihpaaDoorAB
namespace Go.Proofs.YtgipjjhkhfihpaaDoor
open Go.RowKit

theorem joinW_len (ws : List (List UInt8)) (k : Nat) (h : ∀ w ∈ ws, w.length ≤ k) : (joinW ws).length ≤ (k + 1) * ws.length := by
  induction ws with
  | nil => simp [joinW]
  | cons w ws ih =>
    have h1 := h w (by simp)
    have h2 := ih (fun x hx => h x (by simp [hx]))
    cases ws with
    | nil => simp [joinW]; omega
    | cons x ws =>
      show (w ++ 32 :: joinW (x :: ws)).length ≤ _
      simp only [List.length_append, List.length_cons] at h2 ⊢
      rw [Nat.mul_add (k + 1) (ws.length + 1) 1]
      omega
theorem listFrom_free {c : Nat × Nat} (hf : Free c) : ∀ k v, 1 ≤ v → v + k ≤ 9 → (listFrom c k v).length ≤ k := by
  intro k
  induction k with
  | zero => intro v _ _; simp [listFrom]
  | succ k ih =>
    intro v h1 h9
    have hp : hasLit c (v : Int) = L c true v := hasLit_L c v true h1 (by omega)
    have hn : hasLit c (-(v : Int)) = L c false v := hasLit_L c v false h1 (by omega)
    have := ih (v + 1) (by omega) (by omega)
    rw [listFrom, hp, hn]
    cases e1 : L c true v with
    | true =>
      have e2 := hf.not e1
      simp only [Bool.not_true] at e2
      rw [e2]; simp; omega
    | false =>
      cases e2 : L c false v with
      | true => simp; omega
      | false => simp; omega
theorem lineP_len {s : Stp} (hf : Free s.lits) (h1 : s.rule ≠ 2 → s.first < 1000000) (h2 : s.rule = 3 → s.second < 1000000 ∧ s.var < 1000000) : (lineP s).length ≤ 28 := by
  unfold lineP wordsP
  split
  · have d1 := decDigits_len _ (h1 (by omega))
    have := joinW_len [[97], Lib.decDigits s.first] 6 (by simp; exact d1)
    simp at this; omega
  · split
    · have hl := listFrom_free hf 8 1 (by omega) (by omega)
      have := joinW_len ([99] :: (listOf s.lits).map Lib.itoa) 2 (by
        intro w hw
        rcases List.mem_cons.1 hw with rfl | hw
        · simp
        · obtain ⟨z, hz, rfl⟩ := List.mem_map.1 hw
          obtain ⟨u, t, hu1, hu8, rfl, _⟩ := (listOf_mem _ _).1 hz
          have hd := decDigits_small u (by omega)
          cases t with
          | true => rw [itoa_pos, hd]; simp
          | false => rw [itoa_neg' u hu1, hd]; simp)
      have e : (listOf s.lits).length ≤ 8 := hl
      simp only [List.length_cons, List.length_map] at this
      omega
    · have d1 := decDigits_len _ (h1 (by assumption))
      split
      · next h3 =>
        have d2 := decDigits_len _ (h2 h3).1
        have d3 := decDigits_len _ (h2 h3).2
        have := joinW_len [[114], Lib.decDigits s.first, Lib.decDigits s.second, Lib.decDigits s.var] 6 (by simp; exact ⟨d1, d2, d3⟩)
        simp at this; omega
      · have := joinW_len [[100], Lib.decDigits s.first] 6 (by simp; exact d1)
        simp at this; omega
theorem joinN_len (m : List (List UInt8)) (k : Nat) (h : ∀ r ∈ m, r.length ≤ k) : (joinN m).length ≤ (k + 1) * m.length := by
  induction m with
  | nil => simp [joinN]
  | cons r m ih =>
    have h1 := h r (by simp)
    have h2 := ih (fun x hx => h x (by simp [hx]))
    simp only [joinN, List.flatMap_cons, List.length_append, List.length_cons, List.length_nil] at h2 ⊢
    rw [Nat.mul_add]
    omega
theorem joinW_mem (ws : List (List UInt8)) (x : UInt8) (hx : x ≠ 32) (h : ∀ w ∈ ws, x ∉ w) : x ∉ joinW ws := by
  induction ws with
  | nil => simp [joinW]
  | cons w ws ih =>
    have h1 := h w (by simp)
    have h2 := ih (fun y hy => h y (by simp [hy]))
    cases ws with
    | nil => exact h1
    | cons y ws =>
      show x ∉ w ++ 32 :: joinW (y :: ws)
      rw [List.mem_append, List.mem_cons]
      rintro (h3 | h3 | h3)
      · exact h1 h3
      · exact hx h3
      · exact h2 h3
section
variable {q : QS} (hq : QGood q) {F : Form} (hF : FQ F q) (hO : FOk F) {truth : Bool} {p : List Stp} (hp : POk q (kd truth) p) (hf : ∀ s ∈ p, Free s.lits) (hl : p.length ≤ 9000)
include hq hF hO hp hf hl
theorem line_ok (i : Nat) (hi : i < p.length) : lineR F truth ((p.take i).map (·.lits)) (lineP p[i]) = some p[i].lits ∧ isTwo (lineP p[i]) = (p[i].rule == 3) ∧ (10 : UInt8) ∉ lineP p[i] := by
  obtain ⟨hd, tl, h1, h2, h3, h4⟩ := step_words hq hF hO (p := p.take i) (by simp; omega) (hp i hi) (hf _ (List.getElem_mem hi))
  have hc : cutAt 32 (lineP p[i]) = hd :: tl := by
    unfold lineP
    rw [cut_words _ (by rw [h1]; simp) (fun w hw => (h4 w hw).1), h1]
  refine ⟨?_, ?_, joinW_mem _ _ (by decide) (fun w hw => (h4 w hw).2)⟩
  · rw [lineR_eq F truth _ _ hd tl hc, if_neg (by simp; omega)]
    exact h2
  · unfold isTwo
    rw [hc]
    by_cases e : p[i].rule = 3
    · rw [h3.2 e, e]; rfl
    · have : hd ≠ [114] := fun h => e (h3.1 h)
      rw [show (p[i].rule == 3) = false from by simpa using e]
      simpa using this
theorem rows_ok : ∀ (m i n : Nat), i + m = p.length → rowsR F truth ((p.take i).map (·.lits)) n ((p.drop i).map lineP) = .inl (p.map (·.lits)) := by
  intro m
  induction m with
  | zero =>
    intro i n h
    rw [List.drop_eq_nil_of_le (by omega), List.take_of_length_le (by omega)]
    rfl
  | succ m ih =>
    intro i n h
    have hi : i < p.length := by omega
    rw [List.drop_eq_getElem_cons hi, List.map_cons, rowsR, (line_ok hq hF hO hp hf hl i hi).1]
    have := ih (i + 1) (n + 1) (by omega)
    rw [List.take_succ_eq_append_getElem hi, List.map_append] at this
    exact this
theorem two_ok : twoR (p.map lineP) = twos p := by
  unfold twoR twos
  rw [List.filter_map, List.length_map]
  congr 1
  apply List.filter_congr
  intro s hs
  obtain ⟨i, hi, rfl⟩ := List.mem_iff_getElem.1 hs
  exact (line_ok hq hF hO hp hf hl i hi).2.1
theorem proves_text (hlast : ∃ s, p.getLast? = some s ∧ s.lits = (0, 0)) : provesR F (textP truth p) = .inr (truth, twos p) := by
  have hno : ∀ r ∈ headP truth :: p.map lineP, (10 : UInt8) ∉ r := by
    intro r hr
    rcases List.mem_cons.1 hr with rfl | hr
    · cases truth <;> decide
    · obtain ⟨s, hs, rfl⟩ := List.mem_map.1 hr
      obtain ⟨i, hi, rfl⟩ := List.mem_iff_getElem.1 hs
      exact (line_ok hq hF hO hp hf hl i hi).2.2
  have hcut : cutTo 10 (textP truth p) = (headP truth :: p.map lineP, []) := by
    unfold cutTo textP
    rw [cut_join _ hno []]; rfl
  have hlen : ∀ r ∈ headP truth :: p.map lineP, r.length ≤ 28 := by
    intro r hr
    rcases List.mem_cons.1 hr with rfl | hr
    · cases truth <;> decide
    · obtain ⟨s, hs, rfl⟩ := List.mem_map.1 hr
      obtain ⟨i, hi, rfl⟩ := List.mem_iff_getElem.1 hs
      have htl : (p.take i).length ≤ 9000 := by simp; omega
      have hclen := hF.clen
      rcases (hp i hi).2 with ⟨h1, _, _, h4, _⟩ | ⟨h1, _⟩ | ⟨_, h2, h3, ⟨x, hx, hxe, _⟩, _⟩ | ⟨h1, h2, _⟩
      · exact lineP_len (hf _ hs) (fun _ => by omega) (fun h => by omega)
      · exact lineP_len (hf _ hs) (fun h => absurd h1 h) (fun h => by omega)
      · have hv := hq.qb.names x hx
        exact lineP_len (hf _ hs) (fun _ => by omega) (fun _ => ⟨by omega, by omega⟩)
      · exact lineP_len (hf _ hs) (fun _ => by omega) (fun h => by omega)
  have hlong : ¬ 262144 < (textP truth p).length := by
    have := joinN_len _ 28 hlen
    simp only [List.length_cons, List.length_map] at this
    unfold textP
    omega
  unfold provesR
  rw [if_neg hlong, hcut]
  dsimp only
  have hh : headP truth = sTrue ∨ headP truth = sFalse := by cases truth <;> simp [headP]
  have hb : (headP truth == sTrue) = truth := by cases truth <;> decide
  rw [if_pos hh, hb]
  have hr := rows_ok hq hF hO hp hf hl p.length 0 1 (by omega)
  simp only [List.take_zero, List.map_nil, List.drop_zero] at hr
  rw [hr]
  dsimp only
  have he : emptyLast (p.map (·.lits)) = true := by
    obtain ⟨s, h1, h2⟩ := hlast
    unfold emptyLast
    rw [List.getLast?_map, h1]
    show (s.lits.1 ||| s.lits.2 == 0) = true
    rw [h2]; rfl
  rw [if_pos ⟨rfl, he⟩, two_ok hq hF hO hp hf hl]
end
end Go.Proofs.YtgipjjhkhfihpaaDoor

namespace Go.Proofs.YtgipjjhkhfihpaaDoor
open Go.RowKit

/-! ### The whole search -/
theorem axioms_len (cl : List (Nat × Nat)) : (axioms cl).length = cl.length := by simp [axioms]
theorem axioms_at (cl : List (Nat × Nat)) (i : Nat) (h : i < cl.length) : (axioms cl)[i]'(by rw [axioms_len]; exact h) = ⟨1, i + 1, 0, 0, cl[i]⟩ := by
  simp [axioms]
theorem axioms_ok {q : QS} (hq : QGood q) : POk q 1 (axioms q.cl) := by
  intro i hi
  have h : i < q.cl.length := by rw [axioms_len] at hi; exact hi
  rw [axioms_at q.cl i h]
  have hm := List.getElem_mem h
  refine ⟨⟨hq.qb.bits _ hm, fun s v hv => hq.vars _ hm s v hv⟩, Or.inl ⟨rfl, rfl, by show 1 ≤ i + 1; omega, by show i + 1 ≤ _; omega, rfl, ?_⟩⟩
  show q.cl[i] = q.cl.getD (i + 1 - 1) (0, 0)
  rw [Nat.add_sub_cancel, List.getD, List.getElem?_eq_getElem h]; rfl
theorem begin_inv {q : QS} (hq : QGood q) (budget room : Nat) : SInv (beginC q budget room) (beginS q) := by
  refine ⟨axioms_ok hq, by show q.cl.length ≤ (axioms q.cl).length; rw [axioms_len]; exact Nat.le_refl _, fun i hi => ?_, pok_nil _ _, fun f hf => (by cases hf), Nat.zero_le _, Nat.zero_le _⟩
  have h : i < q.cl.length := hi
  show litsAt (axioms q.cl) (i + 1) = q.cl[i]
  rw [litsAt_in _ i (by rw [axioms_len]; exact h), axioms_at q.cl i h]
theorem uni_ok {q : QS} (hq : QGood q) : UniOk q (uniTo q.vars (0, 0)) := by
  have key : ∀ (vs : List (Nat × Bool)) (u : Nat × Nat), (∀ x ∈ vs, 1 ≤ x.1 ∧ x.1 ≤ 8) → ∀ s v, L (uniTo vs u) s v = true ↔ (L u s v = true ∨ ∃ x ∈ vs, x.1 = v ∧ x.2 = true) := by
    intro vs
    induction vs with
    | nil => intro u _ s v; simp [uniTo]
    | cons y vs ih =>
      intro u hn s v
      have hy := hn y (by simp)
      show L (uniTo vs (if y.2 then withLit (withLit u y.1) (-(y.1 : Int)) else u)) s v = true ↔ _
      rw [ih _ (fun x hx => hn x (by simp [hx]))]
      cases hu : y.2 with
      | false =>
        simp only [Bool.false_eq_true, if_false]
        constructor
        · rintro (h | ⟨x, hx, h1, h2⟩)
          · exact Or.inl h
          · exact Or.inr ⟨x, by simp [hx], h1, h2⟩
        · rintro (h | ⟨x, hx, h1, h2⟩)
          · exact Or.inl h
          · rcases List.mem_cons.1 hx with rfl | hx
            · rw [hu] at h2; cases h2
            · exact Or.inr ⟨x, hx, h1, h2⟩
      | true =>
        simp only [if_true]
        have e1 : ((y.1 : Nat) : Int) = litI y.1 true := rfl
        have e2 : -((y.1 : Nat) : Int) = litI y.1 false := rfl
        rw [e2, L_with _ _ _ hy.1 hy.2, e1, L_with _ _ _ hy.1 hy.2]
        constructor
        · rintro (h | ⟨x, hx, h1, h2⟩)
          · simp only [Bool.or_eq_true, Bool.and_eq_true, decide_eq_true_eq] at h
            rcases h with (h | h) | h
            · exact Or.inl h
            · exact Or.inr ⟨y, by simp, h.2.symm, hu⟩
            · exact Or.inr ⟨y, by simp, h.2.symm, hu⟩
          · exact Or.inr ⟨x, by simp [hx], h1, h2⟩
        · rintro (h | ⟨x, hx, h1, h2⟩)
          · exact Or.inl (by rw [h]; rfl)
          · rcases List.mem_cons.1 hx with rfl | hx
            · left
              subst h1
              cases s <;> simp
            · exact Or.inr ⟨x, hx, h1, h2⟩
  intro s v
  rw [key q.vars (0, 0) hq.qb.names s v, L_zero]
  simp
/-- What is told of a formula. -/
structure Told (F : Form) (q : QS) (budget room : Nat) (r : SS × (Nat × Nat)) : Prop where
  kind : r.2.1 = 0 ∨ r.2.1 = 1 ∨ r.2.1 = 2
  unknown : r.2.1 = 0 → 0 < budget ∧ r.1.nodes = budget
  one : 1 ≤ r.1.nodes
  most : r.1.nodes + 1 ≤ 2 ^ (q.vars.length + 1)
  upto : 0 < budget → r.1.nodes ≤ budget
  lemmas : r.1.most ≤ room
  inv : SInv (beginC q budget room) r.1
  size : sizeS r.1 ≤ 24 + 12 * r.1.nodes
  proof : r.2.1 ≠ 0 → 1 ≤ r.2.2 ∧ r.2.2 ≤ (r.1.proof r.2.1).length ∧ provesR F (textP (r.2.1 == 2) (shortOf (r.1.proof r.2.1) r.2.2)) = .inr (r.2.1 == 2, twos (shortOf (r.1.proof r.2.1) r.2.2)) ∧ twos (shortOf (r.1.proof r.2.1) r.2.2) ≤ twos (r.1.proof r.2.1)
theorem solve_ok {F : Form} {q : QS} (hq : QGood q) (hF : FQ F q) (hO : FOk F) (budget room : Nat) : Told F q budget room (solveM q budget room) := by
  have hl := look_ok (C := beginC q budget room) hq (uni_ok hq) q.vars.length 0 (0, 0) (beginS q) (begin_inv hq budget room) (path_zero q) (by simp; rfl)
  unfold solveM
  generalize lookM (beginC q budget room) q.vars.length (0, 0) 0 (beginS q) = r at *
  have h0 : (beginS q).nodes = 0 := rfl
  have hsz : sizeS (beginS q) ≤ 24 := by
    show (axioms q.cl).length + 0 ≤ 24
    rw [axioms_len]
    have := hq.qb.cl
    omega
  have hvl := hq.qb.vl
  have hone : 1 ≤ r.1.nodes := by
    have := hl.some (by rintro ⟨h1, h2⟩; rw [h0] at h2; have : (beginC q budget room).budget = budget := rfl; omega)
    rw [h0] at this; omega
  have hmost := hl.most
  rw [h0] at hmost
  have hsize := hl.size
  rw [h0] at hsize
  have hp512 : 2 ^ (q.vars.length + 1) ≤ 512 := by
    have : 2 ^ (q.vars.length + 1) ≤ 2 ^ 9 := Nat.pow_le_pow_right (by decide) (by omega)
    simpa using this
  have hkind : r.2.1 = 0 ∨ r.2.1 = 1 ∨ r.2.1 = 2 := by
    by_cases h : r.2.1 = 0
    · exact Or.inl h
    · exact Or.inr (hl.fact h).inn.kind
  refine ⟨hkind, fun h => ?_, hone, by omega, fun h => hl.budget h (by rw [h0]; omega), hl.inv.most, hl.inv, by omega, fun h => ?_⟩
  · have h1 := hl.unknown h
    have h2 := hl.budget h1.1 (by rw [h0]; exact Nat.zero_le _)
    exact ⟨h1.1, Nat.le_antisymm h2 h1.2⟩
  · have hf := hl.fact h
    have hlits : r.1.lits r.2 = (0, 0) := by
      apply L_ext
      intro s v
      rw [L_zero]
      cases hh : L (r.1.lits r.2) s v with
      | false => rfl
      | true => have := hf.on s v hh; rw [L_zero] at this; cases this
    have hk : r.2.1 = kd (r.2.1 == 2) := by
      rcases hf.inn.kind with e | e <;> rw [e] <;> rfl
    have hpok : POk q (kd (r.2.1 == 2)) (r.1.proof r.2.1) := by
      have := hl.inv.pok hf.inn.kind
      rw [← hk]; exact this
    obtain ⟨s1, s2, s3, s4, s, s5, s6⟩ := short_ok hpok hf.inn.lo hf.inn.hi hf.inn.free
    have hplen : (r.1.proof r.2.1).length ≤ 9000 := by
      have : (r.1.proof r.2.1).length ≤ sizeS r.1 := by
        unfold SS.proof sizeS
        split <;> omega
      omega
    refine ⟨hf.inn.lo, hf.inn.hi, proves_text hq hF hO s1 s2 (by omega) ⟨s, s5, s6.trans hlits⟩, s4⟩
end Go.Proofs.YtgipjjhkhfihpaaDoor

namespace Go.Proofs.YtgipjjhkhfihpaaDoor
open Go.RowKit

/-! ### Units -/
def deadC (t n : Nat) (c : Nat × Nat) : Bool := (less c.1 n == 0) && (less c.2 t == 0)
def oneB (p q : Nat) : Bool := (p &&& (p - 1) == 0) && ((q &&& (q - 1) == 0) && ((p == 0) || (q == 0)))
def unitC (all t n : Nat) (c : Nat × Nat) : Bool := oneB (less c.1 n) (less c.2 t) && (((less c.1 n ||| less c.2 t) &&& all == 0) && ((less c.1 n &&& t == 0) && (less c.2 t &&& n == 0)))
def unitsF (cl : List (Nat × Nat)) (all : Nat) : Nat → Nat → Nat → Nat → Bool × Nat
  | 0, k, _, _ => (false, k)
  | fuel + 1, k, t, n => if cl.any (deadC t n) then (true, k) else
    match cl.find? (unitC all t n) with
    | none => (false, k)
    | some c => unitsF cl all fuel (k + 1) (t ||| less c.1 n) (n ||| less c.2 t)
/-- Does making true, again and again, the one literal that is left leave a clause all false? How many were made true. -/
def unitsR (F : Form) : Bool × Nat := unitsF F.cl F.all 1024 0 0 0

theorem or_more (t p : Nat) (hp : p ≠ 0) (h : p &&& t = 0) : t < t ||| p := by
  have hle : t ≤ t ||| p := Nat.left_le_or
  rcases Nat.lt_or_ge t (t ||| p) with h1 | h1
  · exact h1
  · exfalso
    have e : t ||| p = t := Nat.le_antisymm h1 hle
    apply hp
    apply Nat.eq_of_testBit_eq
    intro i
    have h2 : (t ||| p).testBit i = t.testBit i := by rw [e]
    have h3 : (p &&& t).testBit i = false := by rw [h]; simp
    rw [Nat.testBit_or] at h2
    rw [Nat.testBit_and] at h3
    rw [Nat.zero_testBit]
    cases hh : p.testBit i with
    | false => rfl
    | true => rw [hh] at h2 h3; simp at h2 h3; rw [h2] at h3; cases h3
theorem and_pred (p : Nat) (h : p < 512) : (bits .and .i64 (p : Int) ((p : Int) - 1) == 0) = (p &&& (p - 1) == 0) := by
  cases p with
  | zero => decide
  | succ p =>
    rw [show (((p + 1 : Nat) : Int) - 1) = ((p : Nat) : Int) from by omega, i64_and _ _ (by omega) (by omega), nat_beq_zero]
    rfl
theorem anyc_take (cl : List (Nat × Nat)) (f : Nat × Nat → Bool) (k : Nat) (h : k < cl.length) : (cl.take (k + 1)).any f = ((cl.take k).any f || f cl[k]) := by
  rw [List.take_succ_eq_append_getElem h, List.any_append]; simp
theorem any_hit (cl : List (Nat × Nat)) (f : Nat × Nat → Bool) (k : Nat) (h : k < cl.length) (hf : f cl[k] = true) : cl.any f = true := by
  rw [List.any_eq_true]; exact ⟨_, List.getElem_mem h, hf⟩
theorem find_hit (cl : List (Nat × Nat)) (f : Nat × Nat → Bool) (k : Nat) (h : k < cl.length) (hno : (cl.take k).any f = false) (hf : f cl[k] = true) : cl.find? f = some cl[k] := by
  conv => lhs; rw [← List.take_append_drop k cl, List.drop_eq_getElem_cons h]
  rw [List.find?_append]
  have : (cl.take k).find? f = none := by
    rw [List.find?_eq_none]
    intro x hx hh
    rw [List.any_eq_false] at hno
    exact hno x hx hh
  rw [this, List.find?_cons, hf]
  rfl
theorem find_no (cl : List (Nat × Nat)) (f : Nat × Nat → Bool) (hno : cl.any f = false) : cl.find? f = none := by
  rw [List.find?_eq_none]
  intro x hx hh
  rw [List.any_eq_false] at hno
  exact hno x hx hh

end Go.Proofs.YtgipjjhkhfihpaaDoor

namespace Go.Proofs.YtgipjjhkhfihpaaDoor
open Go.RowKit

/-! ### Units, as the document counts them -/
def sing (u : Nat) (s : Bool) : Nat × Nat := if s then (2 ^ u, 0) else (0, 2 ^ u)
theorem L_sing (u : Nat) (s t : Bool) (v : Nat) : L (sing u s) t v = (t == s && decide (v = u)) := by
  unfold sing
  cases s <;> cases t <;> simp [L, Nat.testBit_two_pow, eq_comm]
theorem pow_of_one : ∀ p : Fin 512, p.val ≠ 0 → p.val &&& (p.val - 1) = 0 → ∃ v : Fin 9, p.val = 2 ^ v.val := by decide +kernel
theorem sing_one : ∀ (u : Fin 9), 1 ≤ u.val → (listOf (sing u.val true) = [(u.val : Int)] ∧ oneB (sing u.val true).1 (sing u.val true).2 = true) ∧ (listOf (sing u.val false) = [-(u.val : Int)] ∧ oneB (sing u.val false).1 (sing u.val false).2 = true) := by decide +kernel
theorem sing_list (u : Nat) (s : Bool) (h1 : 1 ≤ u) (h8 : u ≤ 8) : listOf (sing u s) = [litI u s] ∧ oneB (sing u s).1 (sing u s).2 = true := by
  have := sing_one ⟨u, by omega⟩ h1
  cases s
  · exact this.2
  · exact this.1
/-- The values: no variable both ways; of the formula's variables. -/
structure VOk (q : QS) (vals : Nat × Nat) : Prop where
  free : Free vals
  lok : LOk q vals
section
variable {q : QS} (hq : QGood q) {F : Form} (hF : FQ F q) {uni : Nat × Nat} (hu : UniOk q uni)
include hq hF hu
omit hq hu hF in
theorem dead_conf {t n : Nat} (hv : VOk q (t, n)) {c : Nat × Nat} (hd : deadC t n c = true) : isConf uni (t, n) c = true := by
  unfold deadC at hd
  rw [Bool.and_eq_true, beq_iff_eq, beq_iff_eq] at hd
  have hl : leftOf c (t, n) = (0, 0) := by
    show (less c.1 n, less c.2 t) = (0, 0)
    rw [hd.1, hd.2]
  have hall : ∀ s v, L c s v = true → L (t, n) (!s) v = true := by
    intro s v hs
    have := L_left c (t, n) s v
    rw [hl, L_zero, hs] at this
    simpa using this.symm
  unfold isConf openB
  have h1 : meetsB c (t, n) = false := by
    cases h : meetsB c (t, n) with
    | false => rfl
    | true =>
      obtain ⟨s, v, a, b⟩ := (meets_iff _ _).1 h
      have h2 := hall s v a
      cases s
      · exact (hv.free v h2 b).elim
      · exact (hv.free v b h2).elim
  have h2 : clashB c = false := by
    rw [free_iff]
    intro v a b
    exact hv.free v (hall false v b) (hall true v a)
  have h3 : emptyB (minus (0, 0) uni) = true := (empty_iff _).2 (fun s v => by rw [L_minus, L_zero]; rfl)
  rw [h1, h2, hl, h3]
  rfl
theorem unit_same {t n : Nat} (hv : VOk q (t, n)) {c : Nat × Nat} (hc : LOk q c) (hnd : deadC t n c = false) : unitC F.all t n c = isUnit uni (t, n) c ∧ (isUnit uni (t, n) c = true → ∃ u s, 1 ≤ u ∧ u ≤ 8 ∧ leftOf c (t, n) = sing u s) := by
  have hll : LOk q (leftOf c (t, n)) := lok_sub hc ⟨less_lt9 _ _ hc.bd.1, less_lt9 _ _ hc.bd.2⟩ (fun s v h => by rw [L_left, Bool.and_eq_true] at h; exact h.1)
  have hback : isUnit uni (t, n) c = true → ∃ u s, 1 ≤ u ∧ u ≤ 8 ∧ leftOf c (t, n) = sing u s := by
    intro h
    unfold isUnit at h
    rw [Bool.and_eq_true, Bool.and_eq_true, beq_iff_eq] at h
    obtain ⟨u, s, h1, h8, _, hL, hone⟩ := list_one h.2.1
    refine ⟨u, s, h1, h8, L_ext (fun t' v => ?_)⟩
    rw [L_sing]
    cases hh : L (leftOf c (t, n)) t' v with
    | true =>
      have hn := hq.name (hll.vars t' v hh)
      obtain ⟨rfl, rfl⟩ := hone t' v hn.1 hn.2 hh
      simp
    | false =>
      by_cases e : v = u
      · subst e
        by_cases e2 : t' = s
        · subst e2; rw [hL] at hh; cases hh
        · simp [e2]
      · simp [e]
  refine ⟨?_, hback⟩
  have hopen : ∀ u s, 1 ≤ u → u ≤ 8 → leftOf c (t, n) = sing u s → (openB c (t, n) = true ↔ (less c.1 n &&& t = 0 ∧ less c.2 t &&& n = 0)) := by
    intro u s h1 h8 hl
    have e1 : less c.1 n = (sing u s).1 := congrArg Prod.fst hl
    have e2 : less c.2 t = (sing u s).2 := congrArg Prod.snd hl
    have hm : (less c.1 n &&& t = 0 ∧ less c.2 t &&& n = 0) ↔ L (t, n) s u = false := by
      rw [e1, e2]
      cases s
      · simp only [sing, Bool.false_eq_true, if_false, Nat.zero_and, true_and, L]
        rw [Nat.and_comm, ← Bool.not_eq_true, ← and_pow_ne, bne_iff_ne, Decidable.not_not]
      · simp only [sing, if_true, Nat.zero_and, and_true, L]
        rw [Nat.and_comm, ← Bool.not_eq_true, ← and_pow_ne, bne_iff_ne, Decidable.not_not]
    rw [hm]
    have hin : L c s u = true ∧ L (t, n) (!s) u = false := by
      have := L_left c (t, n) s u
      rw [hl, L_sing] at this
      simp at this
      exact ⟨this.1, this.2⟩
    have hoth : ∀ r v, L c r v = true → (v = u ∧ r = s) ∨ L (t, n) (!r) v = true := by
      intro r v hr
      have := L_left c (t, n) r v
      rw [hl, L_sing, hr] at this
      cases hh : L (t, n) (!r) v with
      | true => exact Or.inr rfl
      | false => rw [hh] at this; simp at this; exact Or.inl ⟨this.2, this.1⟩
    unfold openB
    rw [Bool.and_eq_true, Bool.not_eq_true', Bool.not_eq_true', free_iff]
    constructor
    · rintro ⟨h3, _⟩
      cases hh : L (t, n) s u with
      | false => rfl
      | true => rw [(meets_iff _ _).2 ⟨s, u, hin.1, hh⟩] at h3; cases h3
    · intro h3
      constructor
      · cases hme : meetsB c (t, n) with
        | false => rfl
        | true =>
          obtain ⟨r, v, a, b⟩ := (meets_iff _ _).1 hme
          rcases hoth r v a with ⟨rfl, rfl⟩ | h4
          · rw [h3] at b; cases b
          · cases r
            · exact (hv.free v h4 b).elim
            · exact (hv.free v b h4).elim
      · intro v a b
        rcases hoth true v a with ⟨rfl, rfl⟩ | h4
        · rcases hoth false v b with ⟨_, h5⟩ | h5
          · cases h5
          · have : L (t, n) true v = true := h5
            rw [h3] at this; cases this
        · rcases hoth false v b with ⟨rfl, rfl⟩ | h5
          · have : L (t, n) false v = true := h4
            rw [h3] at this; cases this
          · exact hv.free v h5 h4
  have huni : ∀ u s, 1 ≤ u → u ≤ 8 → leftOf c (t, n) = sing u s → (meetsB (leftOf c (t, n)) uni = false ↔ (less c.1 n ||| less c.2 t) &&& F.all = 0) := by
    intro u s h1 h8 hl
    have e1 : less c.1 n = (sing u s).1 := congrArg Prod.fst hl
    have e2 : less c.2 t = (sing u s).2 := congrArg Prod.snd hl
    have hmem : u ∈ q.vars.map (·.1) := hll.vars s u (by rw [hl, L_sing]; simp)
    obtain ⟨x, hx, hxe⟩ := List.mem_map.1 hmem
    have hor : (less c.1 n ||| less c.2 t) = 2 ^ u := by rw [e1, e2]; cases s <;> simp [sing]
    rw [hor, Nat.and_comm]
    have hk : F.all.testBit u = x.2 := by rw [← hxe]; exact hF.kinds x hx
    have hz : (F.all &&& 2 ^ u = 0) ↔ x.2 = false := by rw [← hk, ← Bool.not_eq_true, ← and_pow_ne, bne_iff_ne, Decidable.not_not]
    rw [hz, hl, ← Bool.not_eq_true, meets_iff]
    constructor
    · intro h
      cases hx2 : x.2 with
      | false => rfl
      | true => exact absurd ⟨s, u, by rw [L_sing]; simp, (hu s u).2 ⟨x, hx, hxe, hx2⟩⟩ h
    · rintro h ⟨r, v, a, b⟩
      rw [L_sing, Bool.and_eq_true, beq_iff_eq, decide_eq_true_eq] at a
      obtain ⟨rfl, rfl⟩ := a
      obtain ⟨y, hy, hye, hyu⟩ := (hu r v).1 b
      have := kind_one hq hy hx (by rw [hye]; exact hxe.symm)
      rw [this, h] at hyu; cases hyu
  have hsing : ∀ u s, 1 ≤ u → u ≤ 8 → leftOf c (t, n) = sing u s → unitC F.all t n c = isUnit uni (t, n) c := by
    intro u s h1 h8 hl
    obtain ⟨l1, l2⟩ := sing_list u s h1 h8
    have e1 : less c.1 n = (sing u s).1 := congrArg Prod.fst hl
    have e2 : less c.2 t = (sing u s).2 := congrArg Prod.snd hl
    have ho := hopen u s h1 h8 hl
    have hun := huni u s h1 h8 hl
    unfold unitC isUnit
    rw [show oneB (less c.1 n) (less c.2 t) = true from by rw [e1, e2]; exact l2, show (listOf (leftOf c (t, n))).length = 1 from by rw [hl, l1]; rfl]
    rw [Bool.eq_iff_iff]
    simp only [Bool.true_and, Bool.and_eq_true, beq_iff_eq, Bool.not_eq_true', beq_self_eq_true]
    rw [ho, ← hun]
    constructor
    · rintro ⟨a, b, d⟩; exact ⟨⟨b, d⟩, a⟩
    · rintro ⟨⟨b, d⟩, a⟩; exact ⟨a, b, d⟩
  cases hi : isUnit uni (t, n) c with
  | true =>
    obtain ⟨u, s, h1, h8, hl⟩ := hback hi
    rw [hsing u s h1 h8 hl]; exact hi
  | false =>
    cases hc2 : unitC F.all t n c with
    | false => rfl
    | true =>
      exfalso
      unfold unitC oneB at hc2
      simp only [Bool.and_eq_true, Bool.or_eq_true, beq_iff_eq] at hc2
      obtain ⟨⟨p1, p2, p3⟩, _⟩ := hc2
      have hnz : less c.1 n ≠ 0 ∨ less c.2 t ≠ 0 := by
        unfold deadC at hnd
        rw [Bool.and_eq_false_iff, beq_eq_false_iff_ne, beq_eq_false_iff_ne] at hnd
        exact hnd
      have hex : ∃ u s, leftOf c (t, n) = sing u s := by
        rcases p3 with h | h
        · have hne : less c.2 t ≠ 0 := by
            rcases hnz with h5 | h5
            · exact absurd h h5
            · exact h5
          obtain ⟨v, hv2⟩ := pow_of_one ⟨less c.2 t, less_lt9 _ _ hc.bd.2⟩ hne p2
          exact ⟨v.val, false, by show (less c.1 n, less c.2 t) = (0, 2 ^ v.val); rw [h]; exact congrArg _ hv2⟩
        · have hne : less c.1 n ≠ 0 := by
            rcases hnz with h5 | h5
            · exact h5
            · exact absurd h h5
          obtain ⟨v, hv2⟩ := pow_of_one ⟨less c.1 n, less_lt9 _ _ hc.bd.1⟩ hne p1
          exact ⟨v.val, true, by show (less c.1 n, less c.2 t) = (2 ^ v.val, 0); rw [h]; exact congrArg (fun z => (z, 0)) hv2⟩
      obtain ⟨u, s, hl⟩ := hex
      have hn := hq.name (hll.vars s u (by rw [hl, L_sing]; simp))
      have := hsing u s hn.1 hn.2 hl
      rw [hi] at this
      unfold unitC oneB at this
      simp_all
/-- How many variables have no value. -/
def unas (q : QS) (vals : Nat × Nat) : Nat := (q.vars.filter (fun x => !L vals true x.1 && !L vals false x.1)).length
omit hu hF in
theorem unas_lt {vals : Nat × Nat} {x : Nat × Bool} (hx : x ∈ q.vars) (h1 : L vals true x.1 = false) (h2 : L vals false x.1 = false) (s : Bool) : unas q (withLit vals (litI x.1 s)) < unas q vals := by
  have hn := hq.qb.names x hx
  unfold unas
  have e : q.vars.filter (fun y => !L (withLit vals (litI x.1 s)) true y.1 && !L (withLit vals (litI x.1 s)) false y.1) = (q.vars.filter (fun y => !L vals true y.1 && !L vals false y.1)).filter (fun y => !L (withLit vals (litI x.1 s)) true y.1 && !L (withLit vals (litI x.1 s)) false y.1) := by
    rw [List.filter_filter]
    apply List.filter_congr
    intro y _
    rw [L_with _ _ _ hn.1 hn.2, L_with _ _ _ hn.1 hn.2]
    cases L vals true y.1 <;> cases L vals false y.1 <;> simp
  rw [e]
  refine List.length_filter_lt_length_iff_exists.2 ⟨x, List.mem_filter.2 ⟨hx, by rw [h1, h2]; rfl⟩, ?_⟩
  rw [L_with _ _ _ hn.1 hn.2, L_with _ _ _ hn.1 hn.2]
  cases s <;> simp
omit hq hF hu in
theorem unitsF_ge (cl : List (Nat × Nat)) (all : Nat) : ∀ f k t n, k ≤ (unitsF cl all f k t n).2 := by
  intro f
  induction f with
  | zero => intro k t n; exact Nat.le_refl _
  | succ f ih =>
    intro k t n
    rw [unitsF]
    split
    · exact Nat.le_refl _
    · split
      · exact Nat.le_refl _
      · exact Nat.le_trans (Nat.le_succ k) (ih _ _ _)
omit hq hF hu in
theorem cs_map : (clausesOf q []).map (litsAt (axioms q.cl)) = q.cl := by
  unfold clausesOf
  simp only [List.filter_nil, List.map_nil, List.append_nil, List.map_map]
  apply List.ext_getElem
  · simp
  · intro i h1 h2
    simp only [List.getElem_map, List.getElem_range, Function.comp]
    rw [litsAt_in _ i (by rw [axioms_len]; exact h2), axioms_at q.cl i h2]
omit hq hF hu in
theorem cs_pos : ∀ s ∈ clausesOf q [], 1 ≤ s := by
  intro s hs
  unfold clausesOf at hs
  simp only [List.filter_nil, List.map_nil, List.append_nil, List.mem_map] at hs
  obtain ⟨i, _, rfl⟩ := hs
  omega
theorem units_sim : ∀ (f k t n m : Nat) (trail : List (Int × Nat)), VOk q (t, n) → unas q (t, n) < m → (unitsF q.cl F.all f k t n).1 = true →
    (unitsGo (axioms q.cl) uni (clausesOf q []) m (t, n) trail).conf ≠ 0 ∧ (unitsGo (axioms q.cl) uni (clausesOf q []) m (t, n) trail).trail.length + k ≤ trail.length + (unitsF q.cl F.all f k t n).2 := by
  intro f
  induction f with
  | zero => intro k t n m trail _ _ h; cases h
  | succ f ih =>
    intro k t n m trail hv hm h
    obtain ⟨m, rfl⟩ : ∃ m', m = m' + 1 := ⟨m - 1, by omega⟩
    have hge := unitsF_ge q.cl F.all (f + 1) k t n
    rw [unitsGo]
    by_cases hcf : confOf (axioms q.cl) uni (clausesOf q []) (t, n) ≠ 0
    · rw [if_pos hcf]
      exact ⟨hcf, by show trail.length + k ≤ _; omega⟩
    · rw [if_neg hcf]
      have hnoconf : ∀ c ∈ q.cl, isConf uni (t, n) c = false := by
        intro c hc
        cases hh : isConf uni (t, n) c with
        | false => rfl
        | true =>
          exfalso
          apply hcf
          rw [← cs_map] at hc
          obtain ⟨s, hs, rfl⟩ := List.mem_map.1 hc
          exact conf_find cs_pos hs hh
      have hnd : ∀ c ∈ q.cl, deadC t n c = false := by
        intro c hc
        cases hh : deadC t n c with
        | false => rfl
        | true => have := dead_conf (uni := uni) hv hh; rw [hnoconf c hc] at this; cases this
      have hany : q.cl.any (deadC t n) = false := by rw [List.any_eq_false]; intro c hc; rw [hnd c hc]; decide
      have hF1 : unitsF q.cl F.all (f + 1) k t n = match q.cl.find? (unitC F.all t n) with
        | none => (false, k)
        | some c => unitsF q.cl F.all f (k + 1) (t ||| less c.1 n) (n ||| less c.2 t) := by rw [unitsF, hany]; rfl
      rw [hF1] at h ⊢
      have hlok : ∀ c ∈ q.cl, LOk q c := fun c hc => ⟨hq.qb.bits c hc, hq.vars c hc⟩
      have hfind : q.cl.find? (unitC F.all t n) = q.cl.find? (isUnit uni (t, n)) := by
        have : ∀ l : List (Nat × Nat), (∀ c ∈ l, c ∈ q.cl) → l.find? (unitC F.all t n) = l.find? (isUnit uni (t, n)) := by
          intro l
          induction l with
          | nil => intro _; rfl
          | cons c l il =>
            intro hl
            rw [List.find?_cons, List.find?_cons, (unit_same hq hF hu hv (hlok c (hl c (by simp))) (hnd c (hl c (by simp)))).1, il (fun x hx => hl x (by simp [hx]))]
        exact this q.cl (fun _ h => h)
      cases hfd : q.cl.find? (unitC F.all t n) with
      | none => rw [hfd] at h; cases h
      | some c =>
        rw [hfd] at h
        dsimp only at h ⊢
        rw [hfind] at hfd
        have hcm := List.mem_of_find?_eq_some hfd
        have hci := List.find?_some hfd
        have hcs : ∃ s, (clausesOf q []).find? (fun s => isUnit uni (t, n) (litsAt (axioms q.cl) s)) = some s ∧ litsAt (axioms q.cl) s = c := by
          have h5 := hfd
          rw [← cs_map (q := q), List.find?_map] at h5
          cases hg : (clausesOf q []).find? (isUnit uni (t, n) ∘ litsAt (axioms q.cl)) with
          | none => rw [hg] at h5; cases h5
          | some s => rw [hg] at h5; injection h5 with h5; exact ⟨s, hg, h5⟩
        obtain ⟨s, hs1, hs2⟩ := hcs
        have hspos := cs_pos s (List.mem_of_find?_eq_some hs1)
        obtain ⟨u, sg, hu1, hu8, hl⟩ := (unit_same hq hF hu hv (hlok c hcm) (hnd c hcm)).2 hci
        have hun : unitOf (axioms q.cl) uni (clausesOf q []) (t, n) = (litI u sg, s) := by
          unfold unitOf
          rw [hs1]
          dsimp only
          rw [hs2, hl, (sing_list u sg hu1 hu8).1]
          rfl
        rw [hun, if_neg (by show ¬ s = 0; omega)]
        dsimp only
        have e1 : less c.1 n = (sing u sg).1 := congrArg Prod.fst hl
        have e2 : less c.2 t = (sing u sg).2 := congrArg Prod.snd hl
        have hw : withLit (t, n) (litI u sg) = (t ||| less c.1 n, n ||| less c.2 t) := by
          rw [e1, e2]
          apply L_ext
          intro r v
          rw [L_with _ _ _ hu1 hu8]
          cases sg <;> cases r <;> simp [L, sing, Nat.testBit_two_pow, eq_comm]
        have hnone : L (t, n) true u = false ∧ L (t, n) false u = false ∧ ∃ x ∈ q.vars, x.1 = u := by
          have h6 := L_left c (t, n) sg u
          rw [hl, L_sing] at h6
          simp at h6
          have h7 : L (t, n) sg u = false := by
            unfold isUnit openB at hci
            rw [Bool.and_eq_true, Bool.and_eq_true, Bool.not_eq_true'] at hci
            cases hh : L (t, n) sg u with
            | false => rfl
            | true => have h9 := hci.1.1; rw [(meets_iff _ _).2 ⟨sg, u, h6.1, hh⟩] at h9; cases h9
          obtain ⟨x, hx, hxe⟩ := List.mem_map.1 ((hlok c hcm).vars sg u h6.1)
          refine ⟨?_, ?_, x, hx, hxe⟩
          · cases sg
            · exact h6.2
            · exact h7
          · cases sg
            · exact h7
            · exact h6.2
        obtain ⟨hn1, hn2, x, hx, hxe⟩ := hnone
        have hv' : VOk q (withLit (t, n) (litI u sg)) := by
          refine ⟨with_free hu1 hu8 hv.free (by cases sg <;> assumption), with_bd _ _ hv.lok.bd, fun r v hr => ?_⟩
          rw [L_with _ _ _ hu1 hu8, Bool.or_eq_true, Bool.and_eq_true] at hr
          rcases hr with hr | ⟨_, hr⟩
          · exact hv.lok.vars r v hr
          · rw [of_decide_eq_true hr, ← hxe]; exact List.mem_map_of_mem hx
        have hlt : unas q (withLit (t, n) (litI u sg)) < unas q (t, n) := by
          have := unas_lt hq hx (by rw [hxe]; exact hn1) (by rw [hxe]; exact hn2) sg
          rwa [hxe] at this
        rw [hw] at hv' hlt ⊢
        have := ih (k + 1) _ _ m (trail ++ [(litI u sg, s)]) hv' (by omega) h
        refine ⟨this.1, ?_⟩
        have h8 := this.2
        simp only [List.length_append, List.length_cons, List.length_nil] at h8
        omega
end
end Go.Proofs.YtgipjjhkhfihpaaDoor

namespace Go.Proofs.YtgipjjhkhfihpaaDoor
open Go.RowKit

theorem look_inl {C : SC} {m : Nat} {path : Nat × Nat} {d : Nat} {s : SS} {r : SS × (Nat × Nat)} (h : nodeOf C s path = .inl r) : lookM C m path d s = r := by
  cases m with
  | zero => rw [lookM, h]
  | succ m => rw [lookM, h]
theorem twos_axioms (cl : List (Nat × Nat)) : twos (axioms cl) = 0 := by
  unfold twos axioms
  rw [List.length_eq_zero_iff, List.filter_eq_nil_iff]
  intro s hs
  obtain ⟨c, _, rfl⟩ := List.mem_map.1 hs
  simp
/-- P7: where units leave a clause all false: one node, few steps. -/
theorem solve_units {F : Form} {q : QS} (hq : QGood q) (hF : FQ F q) (budget room : Nat) (h : (unitsR F).1 = true) : (solveM q budget room).2.1 = 1 ∧ (solveM q budget room).1.nodes = 1 ∧ twos (solveM q budget room).1.ref ≤ (unitsR F).2 := by
  have hun : unitsR F = unitsF q.cl F.all 1024 0 0 0 := by unfold unitsR; rw [hF.cl]
  rw [hun] at h ⊢
  have hz : VOk q (0, 0) := ⟨fun v a => (by rw [L_zero] at a; cases a), lok_zero q⟩
  have hlt : unas q (0, 0) < q.vars.length + 1 := Nat.lt_succ_of_le (List.length_filter_le _ _)
  obtain ⟨h1, h2⟩ := units_sim hq hF (uni_ok hq) 1024 0 0 0 (q.vars.length + 1) [] hz hlt h
  have hS1 := nodes_inv (begin_inv hq budget room) 1
  have hU : unitsOf (beginC q budget room) { beginS q with nodes := 1 } (0, 0) = unitsGo (axioms q.cl) (uniTo q.vars (0, 0)) (clausesOf q []) (q.vars.length + 1) (0, 0) [] := rfl
  have hc : (unitsOf (beginC q budget room) { beginS q with nodes := 1 } (0, 0)).conf ≠ 0 := by rw [hU]; exact h1
  have hex := explain_ok (C := beginC q budget room) hq (uni_ok hq) hS1 (path_zero q) hc
  have hn : nodeOf (beginC q budget room) (beginS q) (0, 0) = .inl (explain (beginC q budget room) { beginS q with nodes := 1 } (unitsOf (beginC q budget room) { beginS q with nodes := 1 } (0, 0))) := by
    have hb : ¬ (0 < (beginC q budget room).budget ∧ (beginC q budget room).budget ≤ (beginS q).nodes) := by
      show ¬ (0 < budget ∧ budget ≤ 0)
      omega
    rw [nodeOf, if_neg hb]
    dsimp only
    exact if_pos hc
  have hl : solveM q budget room = explain (beginC q budget room) { beginS q with nodes := 1 } (unitsOf (beginC q budget room) { beginS q with nodes := 1 } (0, 0)) := look_inl hn
  rw [hl]
  refine ⟨hex.2.2.2.2.2.1, hex.2.2.2.1, ?_⟩
  have h3 := hex.2.2.2.2.2.2
  have h4 : twos ({ beginS q with nodes := 1 } : SS).ref = 0 := twos_axioms q.cl
  rw [h4] at h3
  have h5 : (unitsOf (beginC q budget room) { beginS q with nodes := 1 } (0, 0)).trail.length ≤ (unitsF q.cl F.all 1024 0 0 0).2 := by
    rw [hU]
    simpa using h2
  rw [Nat.zero_add] at h3
  exact Nat.le_trans h3 h5

/-! ### What is told -/
/-- The verdict: kind, nodes, lemmas, text. -/
structure Vd where
  kind : Nat
  nodes : Nat
  lemmas : Nat
  text : List UInt8
def verdict (q : QS) (budget room : Nat) : Vd :=
  let r := solveM q budget room
  ⟨r.2.1, r.1.nodes, r.1.most, if r.2.1 = 0 then [] else textP (r.2.1 == 2) (shortOf (r.1.proof r.2.1) r.2.2)⟩
end Go.Proofs.YtgipjjhkhfihpaaDoor

namespace Go.Proofs.YtgipjjhkhfihpaaDoor
open Go.RowKit

/-! ### Verdicts of texts -/
theorem kgood {F : Form} {q : QS} (h : FQ F q) (hb : QB q) : QGood q :=
  ⟨hb, h.nodup, fun c hc s v hl => by
    rw [← h.order]
    refine h.vars c hc v ?_
    cases s with
    | true => exact Or.inl hl
    | false => exact Or.inr hl⟩
/-- A text that was read: the formula on both sides. -/
theorem load_good {l : List UInt8} {q : QS} (h : loadSpec l = .inr q) : QGood q ∧ ∃ F, readSpec l = .inr F ∧ FQ F q ∧ FOk F := by
  have hs := spec_eq l
  rw [h] at hs
  obtain ⟨st, q0, h1, h2, rfl, h3, h4⟩ := hs
  obtain ⟨f1, f2, f3⟩ := fq_of h2 h4 h3
  exact ⟨kgood f1 (qb_of h4 h3), finish st, h1, f1, f2⟩
/-- What holds of a verdict whose budget is not told. -/
structure VFree (F : Form) (room : Nat) (v : Vd) : Prop where
  kind : v.kind = (if fromL (satB F.cl) F.all F.order 0 then 2 else 1)
  one : 1 ≤ v.nodes
  lem : v.lemmas ≤ room
  small : v.nodes ≤ 512
theorem vfree {F : Form} {q : QS} (hq : QGood q) (hF : FQ F q) (hO : FOk F) (room : Nat) : VFree F room (verdict q 0 room) := by
  have h := solve_ok hq hF hO 0 room
  have hk : (verdict q 0 room).kind = (solveM q 0 room).2.1 := rfl
  have hn : (verdict q 0 room).nodes = (solveM q 0 room).1.nodes := rfl
  have hm : (verdict q 0 room).lemmas = (solveM q 0 room).1.most := rfl
  have h0 : (solveM q 0 room).2.1 ≠ 0 := fun e => by have := (h.unknown e).1; omega
  have hvl := hq.qb.vl
  refine ⟨?_, by rw [hn]; exact h.one, by rw [hm]; exact h.lemmas, ?_⟩
  · rw [hk, proves_sound hO _ _ _ (h.proof h0).2.2.1]
    rcases h.kind with e | e | e
    · exact absurd e h0
    · rw [e]; rfl
    · rw [e]; rfl
  · rw [hn]
    have h1 := h.most
    have h3 : 2 ^ (q.vars.length + 1) ≤ 2 ^ 9 := Nat.pow_le_pow_right (by decide) (by omega)
    have h4 : (2 : Nat) ^ 9 = 512 := by decide
    omega
theorem VFree.two {F : Form} {room : Nat} {v : Vd} (h : VFree F room v) : v.kind = 1 ∨ v.kind = 2 := by
  rw [h.kind]; split
  · exact Or.inr rfl
  · exact Or.inl rfl
/-- The verdict of a text, and its proof. -/
def vkind (l : List UInt8) : Nat × List UInt8 := match loadSpec l with
  | .inl _ => (0, [])
  | .inr q => ((verdict q 0 8).kind, (verdict q 0 8).text)
theorem vkind_bad {l : List UInt8} {a : Nat × Nat} (h : loadSpec l = .inl a) : vkind l = (0, []) := by unfold vkind; rw [h]
theorem vkind_good {l : List UInt8} {q : QS} (h : loadSpec l = .inr q) : vkind l = ((verdict q 0 8).kind, (verdict q 0 8).text) := by unfold vkind; rw [h]
theorem vkind_two {l : List UInt8} {q : QS} (h : loadSpec l = .inr q) : (vkind l).1 = 1 ∨ (vkind l).1 = 2 := by
  obtain ⟨hq, F, _, hF, hO⟩ := load_good h
  rw [vkind_good h]
  exact (vfree hq hF hO 8).two
theorem vkind_nil : (vkind []).1 = 2 := by kernel_rfl
theorem vkind_c : (vkind [99, 10]).1 = 1 := by kernel_rfl
end Go.Proofs.YtgipjjhkhfihpaaDoor

namespace Go.Proofs.YtgipjjhkhfihpaaDoor
open Go.RowKit

theorem alloc_new_at {w : World} {o : Obj} {n : Nat} (h : n = w.heap.size) : (w.alloc o).heap[n]? = some o := by subst h; exact heap_alloc_new w o
/-- A row whose block lies below B stays where all blocks below B do. -/
theorem own_under {w w' : World} {B base : Nat} {e : TypeId} {size : Nat} {v : Value} {n : Nat} {xs : List Value} (h : w.ownsRow base e size v n xs) (hl : ∀ k, v.ownBlock = some k → k < B) (hb : Below B w w') : w'.ownsRow base e size v n xs := by
  obtain ⟨h1, h2⟩ := h
  refine ⟨h1, ?_⟩
  rcases h2 with h2 | ⟨g, cap, cur, rfl, hg, hh, h3⟩
  · exact Or.inl h2
  · exact Or.inr ⟨g, cap, cur, rfl, hg, (hb.block g (hl g rfl)).trans hh, h3⟩

set_option maxRecDepth 100000 in
set_option maxHeartbeats 800000 in
theorem isPivot_any (b o : Nat) (kind : Nat) (v : Nat) (u : Bool) (w : World) (hc : w.cell? ⟨b, o, none⟩ = some (.int .i64 kind)) :
    Calls Tryd.prog 84 #[.pointer (some ⟨b, o, none⟩), .agg #[.int .i64 v, .bool u]] w fun e w' => e = .returned (.bool (pivotB kind u)) ∧ Below w.heap.size w w' := by
  have hbw := cell_lt hc
  have HE : Hid (((kind : Int) == 2) = (kind == 2)) := hide (by rw [Bool.eq_iff_iff, beq_iff_eq, beq_iff_eq]; omega)
  go_enter Tryd.func84, Tryd.ntmps84
  go_wp2_with fail
  go_quiet (fail)
  go_wp2_with fail
  go_ret
  exact ⟨ret_bool (by rw [unhide HE]; rfl), below_drewN ((Below.refl _ _).alloc (Nat.le_refl _) _) nq⟩

set_option maxRecDepth 100000 in
set_option maxHeartbeats 800000 in
theorem plits_any (base b o : Nat) (p : List Stp) (vS : Value) (n : Nat) (w : World) (hs : w.cell? ⟨b, o + 1, none⟩ = some vS) (hown : w.ownsRow base 76 6 vS p.length (psCells p)) (hl : p.length ≤ 1048576) :
    Calls Tryd.prog 50 #[.pointer (some ⟨b, o, none⟩), .int .i64 n] w fun e w' => e = .returned (SetV (litsAt p n)) ∧ Below w.heap.size w w' := by
  obtain ⟨aS, cS, rfl⟩ := own_form hown
  have hbw := cell_lt hs
  by_cases h1 : n < 1
  · have HL : Hid (litsAt p n = (0, 0)) := hide (litsAt_out p n (Or.inl h1))
    have e : n = 0 := by omega
    subst e
    clear h1
    go_enter Tryd.func50, Tryd.ntmps50
    go_wp2_with fail
    refine bodyPost_ret (v := SetV (0, 0)) (by simp [results, Tryd.results50, go_sem]) rfl ⟨by rw [unhide HL], ?_⟩
    exact (Below.refl _ _).alloc (Nat.le_refl _) _
  · have hd1 : decide ((n : Int) < 1) = false := by simp; omega
    by_cases h2 : p.length < n
    · have HL : Hid (litsAt p n = (0, 0)) := hide (litsAt_out p n (Or.inr h2))
      have hd2 : decide (p.length < n) = true := by simpa using h2
      clear h1 h2
      go_enter Tryd.func50, Tryd.ntmps50
      go_wp2_with fail
      refine bodyPost_ret (v := SetV (0, 0)) (by simp [results, Tryd.results50, go_sem]) rfl ⟨by rw [unhide HL], ?_⟩
      exact (Below.refl _ _).alloc (Nat.le_refl _) _
    · obtain ⟨m, rfl⟩ : ∃ m, n = m + 1 := ⟨n - 1, by omega⟩
      have hm : m < p.length := by omega
      have hd2 : decide (p.length < m + 1) = false := by simp; omega
      have hd3 : decide ((p.length : Int) < ((m : Int) + 1)) = false := by simp; omega
      have hd4 : decide ((m : Int) + 1 < 1) = false := by simp; omega
      have HL : Hid (litsAt p (m + 1) = p[m].lits) := hide (litsAt_in p m hm)
      obtain ⟨g, cap, hVe, hg, hg', _, hcell⟩ := own_pos hown (by omega)
      injection hVe with hVe _ hV2
      subst hVe hV2
      have hx0 : w.cell? ⟨g, m * 6 + 4, none⟩ = some (.int .i64 (p[m].lits.1 : Int)) := hcell _ _ (psCells_at p m 4 hm (by omega))
      have hx1 : w.cell? ⟨g, m * 6 + 5, none⟩ = some (.int .i64 (p[m].lits.2 : Int)) := hcell _ _ (psCells_at p m 5 hm (by omega))
      clear hcell h1 h2
      generalize p[m].lits = c at *
      obtain ⟨c1, c2⟩ := c
      dsimp only at *
      go_enter Tryd.func50, Tryd.ntmps50
      go_wp2_with fail
      refine bodyPost_ret (v := SetV (c1, c2)) (by simp [results, Tryd.results50, go_sem]) rfl ⟨by rw [unhide HL], ?_⟩
      exact (Below.refl _ _).alloc (Nat.le_refl _) _

abbrev StpV (s : Stp) : Value := .agg #[.int .i64 (s.rule : Int), .int .i64 (s.first : Int), .int .i64 (s.second : Int), .int .i64 (s.var : Int), .int .i64 (s.lits.1 : Int), .int .i64 (s.lits.2 : Int)]

set_option maxRecDepth 100000 in
set_option maxHeartbeats 800000 in
theorem resolvent_any (base b o : Nat) (p : List Stp) (vS : Value) (s : Stp) (w : World) (hs : w.cell? ⟨b, o + 1, none⟩ = some vS) (hown : w.ownsRow base 76 6 vS p.length (psCells p)) (hl : p.length ≤ 1048576) (hb : ∀ s ∈ p, s.lits.1 < 512 ∧ s.lits.2 < 512) :
    Calls Tryd.prog 68 #[.pointer (some ⟨b, o, none⟩), StpV s] w fun e w' => e = .returned (SetV (without2 (litsAt p s.first) (litsAt p s.second) s.var)) ∧ Below w.heap.size w w' := by
  have hbw := cell_lt hs
  have hl1 := litsAt_lt p hb s.first
  have hl2 := litsAt_lt p hb s.second
  have HW : Hid (without2 (litsAt p s.first) (litsAt p s.second) s.var = without ((litsAt p s.first).1 ||| (litsAt p s.second).1, (litsAt p s.first).2 ||| (litsAt p s.second).2) s.var) := hide rfl
  obtain ⟨sr, sf, ss, sv, sl⟩ := s
  obtain ⟨sl1, sl2⟩ := sl
  dsimp only at *
  go_enter Tryd.func68, Tryd.ntmps68
  go_wp2_with fail
  generalize hw0 : ((w.alloc (.cells #[.int .i64 (sr : Int), .int .i64 (sf : Int), .int .i64 (ss : Int), .int .i64 (sv : Int), .int .i64 (sl1 : Int), .int .i64 (sl2 : Int)] 76)).alloc (.cells #[.int .i64 0, .int .i64 0] 63)) = u1
  have hB : Below w.heap.size w u1 := by rw [← hw0]; exact ((Below.refl _ _).alloc (Nat.le_refl _) _).alloc (by simp) _
  have hst : u1.heap[w.heap.size]? = some (.cells #[.int .i64 (sr : Int), .int .i64 (sf : Int), .int .i64 (ss : Int), .int .i64 (sv : Int), .int .i64 (sl1 : Int), .int .i64 (sl2 : Int)] 76 (0, 0)) := by rw [← hw0, heap_alloc_old _ _ (by simp)]; exact alloc_new_at (by simp)
  have hrs : u1.heap[w.heap.size + 1]? = some (.cells #[.int .i64 0, .int .i64 0] 63 (0, 0)) := by rw [← hw0]; exact alloc_new_at (by simp)
  clear hw0
  have cst0 : u1.cell? ⟨w.heap.size, 0, none⟩ = some (.int .i64 (sr : Int)) := by rw [blk_cell hst]; rfl
  have cst1 : u1.cell? ⟨w.heap.size, 1, none⟩ = some (.int .i64 (sf : Int)) := by rw [blk_cell hst]; rfl
  have cst2 : u1.cell? ⟨w.heap.size, 2, none⟩ = some (.int .i64 (ss : Int)) := by rw [blk_cell hst]; rfl
  have cst3 : u1.cell? ⟨w.heap.size, 3, none⟩ = some (.int .i64 (sv : Int)) := by rw [blk_cell hst]; rfl
  have cst4 : u1.cell? ⟨w.heap.size, 4, none⟩ = some (.int .i64 (sl1 : Int)) := by rw [blk_cell hst]; rfl
  have cst5 : u1.cell? ⟨w.heap.size, 5, none⟩ = some (.int .i64 (sl2 : Int)) := by rw [blk_cell hst]; rfl
  have lst := blk_lt hst
  have crs0 : u1.cell? ⟨w.heap.size + 1, 0, none⟩ = some (.int .i64 0) := by rw [blk_cell hrs]; rfl
  have crs1 : u1.cell? ⟨w.heap.size + 1, 1, none⟩ = some (.int .i64 0) := by rw [blk_cell hrs]; rfl
  have lrs := blk_lt hrs
  have hc : u1.cell? ⟨b, o + 1, none⟩ = some vS := by rw [hB.cell (p := ⟨b, o + 1, none⟩) hbw]; exact hs
  have hbw2 : b < u1.heap.size := Nat.lt_of_lt_of_le hbw hB.size
  refine (plits_any base b o p vS sf _ hc (own_below hown hB) hl).mono ?_
  rintro e u2 ⟨rfl, b2⟩
  replace hB := hB.trans (b2.mono hB.size)
  replace hst := (b2.block _ (blk_lt hst)).trans hst
  replace cst0 : u2.cell? ⟨w.heap.size, 0, none⟩ = some (.int .i64 (sr : Int)) := by rw [blk_cell hst]; rfl
  replace cst1 : u2.cell? ⟨w.heap.size, 1, none⟩ = some (.int .i64 (sf : Int)) := by rw [blk_cell hst]; rfl
  replace cst2 : u2.cell? ⟨w.heap.size, 2, none⟩ = some (.int .i64 (ss : Int)) := by rw [blk_cell hst]; rfl
  replace cst3 : u2.cell? ⟨w.heap.size, 3, none⟩ = some (.int .i64 (sv : Int)) := by rw [blk_cell hst]; rfl
  replace cst4 : u2.cell? ⟨w.heap.size, 4, none⟩ = some (.int .i64 (sl1 : Int)) := by rw [blk_cell hst]; rfl
  replace cst5 : u2.cell? ⟨w.heap.size, 5, none⟩ = some (.int .i64 (sl2 : Int)) := by rw [blk_cell hst]; rfl
  replace lst := blk_lt hst
  replace hrs := (b2.block _ (blk_lt hrs)).trans hrs
  replace crs0 : u2.cell? ⟨w.heap.size + 1, 0, none⟩ = some (.int .i64 0) := by rw [blk_cell hrs]; rfl
  replace crs1 : u2.cell? ⟨w.heap.size + 1, 1, none⟩ = some (.int .i64 0) := by rw [blk_cell hrs]; rfl
  replace lrs := blk_lt hrs
  replace hc : u2.cell? ⟨b, o + 1, none⟩ = some vS := by rw [hB.cell (p := ⟨b, o + 1, none⟩) hbw]; exact hs
  replace hbw2 : b < u2.heap.size := Nat.lt_of_lt_of_le hbw hB.size
  generalize hea : litsAt p sf = a at *
  have HEA := hide hea
  clear hea
  obtain ⟨a1, a2⟩ := a
  dsimp only at *
  go_wp2_with fail
  generalize hw0 : u2.alloc (.cells #[.int .i64 (a1 : Int), .int .i64 (a2 : Int)] 63) = u3
  have b3 : Below u2.heap.size u2 u3 := by rw [← hw0]; exact (Below.refl _ _).alloc (Nat.le_refl _) _
  have hfi : u3.heap[u2.heap.size]? = some (.cells #[.int .i64 (a1 : Int), .int .i64 (a2 : Int)] 63 (0, 0)) := by rw [← hw0]; exact heap_alloc_new _ _
  clear hw0
  replace hB := hB.trans (b3.mono hB.size)
  replace hst := (b3.block _ (blk_lt hst)).trans hst
  replace cst0 : u3.cell? ⟨w.heap.size, 0, none⟩ = some (.int .i64 (sr : Int)) := by rw [blk_cell hst]; rfl
  replace cst1 : u3.cell? ⟨w.heap.size, 1, none⟩ = some (.int .i64 (sf : Int)) := by rw [blk_cell hst]; rfl
  replace cst2 : u3.cell? ⟨w.heap.size, 2, none⟩ = some (.int .i64 (ss : Int)) := by rw [blk_cell hst]; rfl
  replace cst3 : u3.cell? ⟨w.heap.size, 3, none⟩ = some (.int .i64 (sv : Int)) := by rw [blk_cell hst]; rfl
  replace cst4 : u3.cell? ⟨w.heap.size, 4, none⟩ = some (.int .i64 (sl1 : Int)) := by rw [blk_cell hst]; rfl
  replace cst5 : u3.cell? ⟨w.heap.size, 5, none⟩ = some (.int .i64 (sl2 : Int)) := by rw [blk_cell hst]; rfl
  replace lst := blk_lt hst
  replace hrs := (b3.block _ (blk_lt hrs)).trans hrs
  replace crs0 : u3.cell? ⟨w.heap.size + 1, 0, none⟩ = some (.int .i64 0) := by rw [blk_cell hrs]; rfl
  replace crs1 : u3.cell? ⟨w.heap.size + 1, 1, none⟩ = some (.int .i64 0) := by rw [blk_cell hrs]; rfl
  replace lrs := blk_lt hrs
  replace hc : u3.cell? ⟨b, o + 1, none⟩ = some vS := by rw [hB.cell (p := ⟨b, o + 1, none⟩) hbw]; exact hs
  replace hbw2 : b < u3.heap.size := Nat.lt_of_lt_of_le hbw hB.size
  have cfi0 : u3.cell? ⟨u2.heap.size, 0, none⟩ = some (.int .i64 (a1 : Int)) := by rw [blk_cell hfi]; rfl
  have cfi1 : u3.cell? ⟨u2.heap.size, 1, none⟩ = some (.int .i64 (a2 : Int)) := by rw [blk_cell hfi]; rfl
  have lfi := blk_lt hfi
  refine (plits_any base b o p vS ss _ hc (own_below hown hB) hl).mono ?_
  rintro e u4 ⟨rfl, b4⟩
  replace hB := hB.trans (b4.mono hB.size)
  replace hst := (b4.block _ (blk_lt hst)).trans hst
  replace cst0 : u4.cell? ⟨w.heap.size, 0, none⟩ = some (.int .i64 (sr : Int)) := by rw [blk_cell hst]; rfl
  replace cst1 : u4.cell? ⟨w.heap.size, 1, none⟩ = some (.int .i64 (sf : Int)) := by rw [blk_cell hst]; rfl
  replace cst2 : u4.cell? ⟨w.heap.size, 2, none⟩ = some (.int .i64 (ss : Int)) := by rw [blk_cell hst]; rfl
  replace cst3 : u4.cell? ⟨w.heap.size, 3, none⟩ = some (.int .i64 (sv : Int)) := by rw [blk_cell hst]; rfl
  replace cst4 : u4.cell? ⟨w.heap.size, 4, none⟩ = some (.int .i64 (sl1 : Int)) := by rw [blk_cell hst]; rfl
  replace cst5 : u4.cell? ⟨w.heap.size, 5, none⟩ = some (.int .i64 (sl2 : Int)) := by rw [blk_cell hst]; rfl
  replace lst := blk_lt hst
  replace hrs := (b4.block _ (blk_lt hrs)).trans hrs
  replace crs0 : u4.cell? ⟨w.heap.size + 1, 0, none⟩ = some (.int .i64 0) := by rw [blk_cell hrs]; rfl
  replace crs1 : u4.cell? ⟨w.heap.size + 1, 1, none⟩ = some (.int .i64 0) := by rw [blk_cell hrs]; rfl
  replace lrs := blk_lt hrs
  replace hfi := (b4.block _ (blk_lt hfi)).trans hfi
  replace cfi0 : u4.cell? ⟨u2.heap.size, 0, none⟩ = some (.int .i64 (a1 : Int)) := by rw [blk_cell hfi]; rfl
  replace cfi1 : u4.cell? ⟨u2.heap.size, 1, none⟩ = some (.int .i64 (a2 : Int)) := by rw [blk_cell hfi]; rfl
  replace lfi := blk_lt hfi
  replace hc : u4.cell? ⟨b, o + 1, none⟩ = some vS := by rw [hB.cell (p := ⟨b, o + 1, none⟩) hbw]; exact hs
  replace hbw2 : b < u4.heap.size := Nat.lt_of_lt_of_le hbw hB.size
  generalize hea : litsAt p ss = a at *
  have HEB := hide hea
  clear hea
  obtain ⟨d1, d2⟩ := a
  dsimp only at *
  go_wp2_with fail
  generalize hw0 : u4.alloc (.cells #[.int .i64 (d1 : Int), .int .i64 (d2 : Int)] 63) = u5
  have b5 : Below u4.heap.size u4 u5 := by rw [← hw0]; exact (Below.refl _ _).alloc (Nat.le_refl _) _
  have hse : u5.heap[u4.heap.size]? = some (.cells #[.int .i64 (d1 : Int), .int .i64 (d2 : Int)] 63 (0, 0)) := by rw [← hw0]; exact heap_alloc_new _ _
  clear hw0
  replace hB := hB.trans (b5.mono hB.size)
  replace hst := (b5.block _ (blk_lt hst)).trans hst
  replace cst0 : u5.cell? ⟨w.heap.size, 0, none⟩ = some (.int .i64 (sr : Int)) := by rw [blk_cell hst]; rfl
  replace cst1 : u5.cell? ⟨w.heap.size, 1, none⟩ = some (.int .i64 (sf : Int)) := by rw [blk_cell hst]; rfl
  replace cst2 : u5.cell? ⟨w.heap.size, 2, none⟩ = some (.int .i64 (ss : Int)) := by rw [blk_cell hst]; rfl
  replace cst3 : u5.cell? ⟨w.heap.size, 3, none⟩ = some (.int .i64 (sv : Int)) := by rw [blk_cell hst]; rfl
  replace cst4 : u5.cell? ⟨w.heap.size, 4, none⟩ = some (.int .i64 (sl1 : Int)) := by rw [blk_cell hst]; rfl
  replace cst5 : u5.cell? ⟨w.heap.size, 5, none⟩ = some (.int .i64 (sl2 : Int)) := by rw [blk_cell hst]; rfl
  replace lst := blk_lt hst
  replace hrs := (b5.block _ (blk_lt hrs)).trans hrs
  replace crs0 : u5.cell? ⟨w.heap.size + 1, 0, none⟩ = some (.int .i64 0) := by rw [blk_cell hrs]; rfl
  replace crs1 : u5.cell? ⟨w.heap.size + 1, 1, none⟩ = some (.int .i64 0) := by rw [blk_cell hrs]; rfl
  replace lrs := blk_lt hrs
  replace hfi := (b5.block _ (blk_lt hfi)).trans hfi
  replace cfi0 : u5.cell? ⟨u2.heap.size, 0, none⟩ = some (.int .i64 (a1 : Int)) := by rw [blk_cell hfi]; rfl
  replace cfi1 : u5.cell? ⟨u2.heap.size, 1, none⟩ = some (.int .i64 (a2 : Int)) := by rw [blk_cell hfi]; rfl
  replace lfi := blk_lt hfi
  replace hc : u5.cell? ⟨b, o + 1, none⟩ = some vS := by rw [hB.cell (p := ⟨b, o + 1, none⟩) hbw]; exact hs
  replace hbw2 : b < u5.heap.size := Nat.lt_of_lt_of_le hbw hB.size
  have cse0 : u5.cell? ⟨u4.heap.size, 0, none⟩ = some (.int .i64 (d1 : Int)) := by rw [blk_cell hse]; rfl
  have cse1 : u5.cell? ⟨u4.heap.size, 1, none⟩ = some (.int .i64 (d2 : Int)) := by rw [blk_cell hse]; rfl
  have lse := blk_lt hse
  refine (union_any a1 a2 d1 d2 _ hl1.1 hl1.2 hl2.1 hl2.2).mono ?_
  rintro e u6 ⟨rfl, b6⟩
  replace hB := hB.trans (b6.mono hB.size)
  replace hst := (b6.block _ (blk_lt hst)).trans hst
  replace cst0 : u6.cell? ⟨w.heap.size, 0, none⟩ = some (.int .i64 (sr : Int)) := by rw [blk_cell hst]; rfl
  replace cst1 : u6.cell? ⟨w.heap.size, 1, none⟩ = some (.int .i64 (sf : Int)) := by rw [blk_cell hst]; rfl
  replace cst2 : u6.cell? ⟨w.heap.size, 2, none⟩ = some (.int .i64 (ss : Int)) := by rw [blk_cell hst]; rfl
  replace cst3 : u6.cell? ⟨w.heap.size, 3, none⟩ = some (.int .i64 (sv : Int)) := by rw [blk_cell hst]; rfl
  replace cst4 : u6.cell? ⟨w.heap.size, 4, none⟩ = some (.int .i64 (sl1 : Int)) := by rw [blk_cell hst]; rfl
  replace cst5 : u6.cell? ⟨w.heap.size, 5, none⟩ = some (.int .i64 (sl2 : Int)) := by rw [blk_cell hst]; rfl
  replace lst := blk_lt hst
  replace hrs := (b6.block _ (blk_lt hrs)).trans hrs
  replace crs0 : u6.cell? ⟨w.heap.size + 1, 0, none⟩ = some (.int .i64 0) := by rw [blk_cell hrs]; rfl
  replace crs1 : u6.cell? ⟨w.heap.size + 1, 1, none⟩ = some (.int .i64 0) := by rw [blk_cell hrs]; rfl
  replace lrs := blk_lt hrs
  replace hfi := (b6.block _ (blk_lt hfi)).trans hfi
  replace cfi0 : u6.cell? ⟨u2.heap.size, 0, none⟩ = some (.int .i64 (a1 : Int)) := by rw [blk_cell hfi]; rfl
  replace cfi1 : u6.cell? ⟨u2.heap.size, 1, none⟩ = some (.int .i64 (a2 : Int)) := by rw [blk_cell hfi]; rfl
  replace lfi := blk_lt hfi
  replace hse := (b6.block _ (blk_lt hse)).trans hse
  replace cse0 : u6.cell? ⟨u4.heap.size, 0, none⟩ = some (.int .i64 (d1 : Int)) := by rw [blk_cell hse]; rfl
  replace cse1 : u6.cell? ⟨u4.heap.size, 1, none⟩ = some (.int .i64 (d2 : Int)) := by rw [blk_cell hse]; rfl
  replace lse := blk_lt hse
  replace hc : u6.cell? ⟨b, o + 1, none⟩ = some vS := by rw [hB.cell (p := ⟨b, o + 1, none⟩) hbw]; exact hs
  replace hbw2 : b < u6.heap.size := Nat.lt_of_lt_of_le hbw hB.size
  have hu1 := or_lt a1 d1 hl1.1 hl2.1
  have hu2 := or_lt a2 d2 hl1.2 hl2.2
  generalize a1 ||| d1 = pu at *
  generalize a2 ||| d2 = nu at *
  go_wp2_with fail
  generalize hw0 : u6.alloc (.cells #[.int .i64 (pu : Int), .int .i64 (nu : Int)] 63) = u7
  have b7 : Below u6.heap.size u6 u7 := by rw [← hw0]; exact (Below.refl _ _).alloc (Nat.le_refl _) _
  have hbo : u7.heap[u6.heap.size]? = some (.cells #[.int .i64 (pu : Int), .int .i64 (nu : Int)] 63 (0, 0)) := by rw [← hw0]; exact heap_alloc_new _ _
  clear hw0
  replace hB := hB.trans (b7.mono hB.size)
  replace hst := (b7.block _ (blk_lt hst)).trans hst
  replace cst0 : u7.cell? ⟨w.heap.size, 0, none⟩ = some (.int .i64 (sr : Int)) := by rw [blk_cell hst]; rfl
  replace cst1 : u7.cell? ⟨w.heap.size, 1, none⟩ = some (.int .i64 (sf : Int)) := by rw [blk_cell hst]; rfl
  replace cst2 : u7.cell? ⟨w.heap.size, 2, none⟩ = some (.int .i64 (ss : Int)) := by rw [blk_cell hst]; rfl
  replace cst3 : u7.cell? ⟨w.heap.size, 3, none⟩ = some (.int .i64 (sv : Int)) := by rw [blk_cell hst]; rfl
  replace cst4 : u7.cell? ⟨w.heap.size, 4, none⟩ = some (.int .i64 (sl1 : Int)) := by rw [blk_cell hst]; rfl
  replace cst5 : u7.cell? ⟨w.heap.size, 5, none⟩ = some (.int .i64 (sl2 : Int)) := by rw [blk_cell hst]; rfl
  replace lst := blk_lt hst
  replace hrs := (b7.block _ (blk_lt hrs)).trans hrs
  replace crs0 : u7.cell? ⟨w.heap.size + 1, 0, none⟩ = some (.int .i64 0) := by rw [blk_cell hrs]; rfl
  replace crs1 : u7.cell? ⟨w.heap.size + 1, 1, none⟩ = some (.int .i64 0) := by rw [blk_cell hrs]; rfl
  replace lrs := blk_lt hrs
  replace hfi := (b7.block _ (blk_lt hfi)).trans hfi
  replace cfi0 : u7.cell? ⟨u2.heap.size, 0, none⟩ = some (.int .i64 (a1 : Int)) := by rw [blk_cell hfi]; rfl
  replace cfi1 : u7.cell? ⟨u2.heap.size, 1, none⟩ = some (.int .i64 (a2 : Int)) := by rw [blk_cell hfi]; rfl
  replace lfi := blk_lt hfi
  replace hse := (b7.block _ (blk_lt hse)).trans hse
  replace cse0 : u7.cell? ⟨u4.heap.size, 0, none⟩ = some (.int .i64 (d1 : Int)) := by rw [blk_cell hse]; rfl
  replace cse1 : u7.cell? ⟨u4.heap.size, 1, none⟩ = some (.int .i64 (d2 : Int)) := by rw [blk_cell hse]; rfl
  replace lse := blk_lt hse
  replace hc : u7.cell? ⟨b, o + 1, none⟩ = some vS := by rw [hB.cell (p := ⟨b, o + 1, none⟩) hbw]; exact hs
  replace hbw2 : b < u7.heap.size := Nat.lt_of_lt_of_le hbw hB.size
  have cbo0 : u7.cell? ⟨u6.heap.size, 0, none⟩ = some (.int .i64 (pu : Int)) := by rw [blk_cell hbo]; rfl
  have cbo1 : u7.cell? ⟨u6.heap.size, 1, none⟩ = some (.int .i64 (nu : Int)) := by rw [blk_cell hbo]; rfl
  have lbo := blk_lt hbo
  refine (withoutVar_any pu nu sv _ hu1 hu2).mono ?_
  rintro e u8 ⟨rfl, b8⟩
  replace hB := hB.trans (b8.mono hB.size)
  replace hst := (b8.block _ (blk_lt hst)).trans hst
  replace cst0 : u8.cell? ⟨w.heap.size, 0, none⟩ = some (.int .i64 (sr : Int)) := by rw [blk_cell hst]; rfl
  replace cst1 : u8.cell? ⟨w.heap.size, 1, none⟩ = some (.int .i64 (sf : Int)) := by rw [blk_cell hst]; rfl
  replace cst2 : u8.cell? ⟨w.heap.size, 2, none⟩ = some (.int .i64 (ss : Int)) := by rw [blk_cell hst]; rfl
  replace cst3 : u8.cell? ⟨w.heap.size, 3, none⟩ = some (.int .i64 (sv : Int)) := by rw [blk_cell hst]; rfl
  replace cst4 : u8.cell? ⟨w.heap.size, 4, none⟩ = some (.int .i64 (sl1 : Int)) := by rw [blk_cell hst]; rfl
  replace cst5 : u8.cell? ⟨w.heap.size, 5, none⟩ = some (.int .i64 (sl2 : Int)) := by rw [blk_cell hst]; rfl
  replace lst := blk_lt hst
  replace hrs := (b8.block _ (blk_lt hrs)).trans hrs
  replace crs0 : u8.cell? ⟨w.heap.size + 1, 0, none⟩ = some (.int .i64 0) := by rw [blk_cell hrs]; rfl
  replace crs1 : u8.cell? ⟨w.heap.size + 1, 1, none⟩ = some (.int .i64 0) := by rw [blk_cell hrs]; rfl
  replace lrs := blk_lt hrs
  replace hfi := (b8.block _ (blk_lt hfi)).trans hfi
  replace cfi0 : u8.cell? ⟨u2.heap.size, 0, none⟩ = some (.int .i64 (a1 : Int)) := by rw [blk_cell hfi]; rfl
  replace cfi1 : u8.cell? ⟨u2.heap.size, 1, none⟩ = some (.int .i64 (a2 : Int)) := by rw [blk_cell hfi]; rfl
  replace lfi := blk_lt hfi
  replace hse := (b8.block _ (blk_lt hse)).trans hse
  replace cse0 : u8.cell? ⟨u4.heap.size, 0, none⟩ = some (.int .i64 (d1 : Int)) := by rw [blk_cell hse]; rfl
  replace cse1 : u8.cell? ⟨u4.heap.size, 1, none⟩ = some (.int .i64 (d2 : Int)) := by rw [blk_cell hse]; rfl
  replace lse := blk_lt hse
  replace hbo := (b8.block _ (blk_lt hbo)).trans hbo
  replace cbo0 : u8.cell? ⟨u6.heap.size, 0, none⟩ = some (.int .i64 (pu : Int)) := by rw [blk_cell hbo]; rfl
  replace cbo1 : u8.cell? ⟨u6.heap.size, 1, none⟩ = some (.int .i64 (nu : Int)) := by rw [blk_cell hbo]; rfl
  replace lbo := blk_lt hbo
  replace hc : u8.cell? ⟨b, o + 1, none⟩ = some vS := by rw [hB.cell (p := ⟨b, o + 1, none⟩) hbw]; exact hs
  replace hbw2 : b < u8.heap.size := Nat.lt_of_lt_of_le hbw hB.size
  have hlt := without_lt (pu, nu) sv ⟨hu1, hu2⟩
  generalize without (pu, nu) sv = cw at *
  obtain ⟨p', n'⟩ := cw
  dsimp only at *
  have z0 := blk_free hrs 0
  have z1 := blk_free hrs 1
  have hR := blk_set (blk_set hrs 0 (.int .i64 (p' : Int))) 1 (.int .i64 (n' : Int))
  have j0 := blk_cell hR 0
  have j1 := blk_cell hR 1
  go_wp2_with fail
  refine bodyPost_ret (v := SetV (p', n')) (by simp [results, Tryd.results68, go_sem, j0, j1]) rfl ⟨by rw [unhide HEA, unhide HEB, unhide HW], ?_⟩
  exact (hB.setCell (p := ⟨w.heap.size + 1, 0, none⟩) (Nat.le_succ _) _).setCell (p := ⟨w.heap.size + 1, 1, none⟩) (Nat.le_succ _) _
end Go.Proofs.YtgipjjhkhfihpaaDoor

namespace Go.Proofs.YtgipjjhkhfihpaaDoor
open Go.RowKit

/-! ### reduced -/
set_option maxRecDepth 100000 in
set_option maxHeartbeats 1600000 in
theorem preduced_any (base b o : Nat) (q : QS) (kind : Nat) (vV vC : Value) (c : Nat × Nat) (w : World) (hk : w.cell? ⟨b, o, none⟩ = some (.int .i64 kind)) (hoV : w.ownsRow base 81 2 vV q.vars.length (varCells q.vars)) (hQ : QB q) (hc : c.1 < 512 ∧ c.2 < 512) (hCf : ∃ aC nC cC, vC = .slice aC nC cC) :
    Calls Tryd.prog 79 #[.pointer (some ⟨b, o, none⟩), .agg #[vV, vC], SetV c] w fun e w' => e = .returned (SetV (redQ kind q.vars.reverse c)) ∧ Below w.heap.size w w' := by
  obtain ⟨aV, cV, rfl⟩ := own_form hoV
  obtain ⟨aC, nC, cC, rfl⟩ := hCf
  have hbw := cell_lt hk
  have hvl := hQ.vl
  go_enter Tryd.func79, Tryd.ntmps79
  obtain ⟨p0, n0⟩ := c
  go_wp2_with fail
  go_loopg [7] (q.vars.length + 1) (fun m i wx => ∃ (k p n : Nat), i = .int .i64 ((k : Int) - 1) ∧ k + 1 ≤ m ∧ m ≤ k + 1 ∧ k ≤ q.vars.length ∧ p < 512 ∧ n < 512 ∧ redQ kind q.vars.reverse (p0, n0) = redQ kind (q.vars.take k).reverse (p, n) ∧ Below w.heap.size w wx ∧
     wx.heap[w.heap.size]? = some (.cells #[.slice aV q.vars.length cV, .slice aC nC cC] 44 (0, 0)) ∧ wx.heap[w.heap.size + 1]? = some (.cells #[.int .i64 p, .int .i64 n] 63 (0, 0)) ∧ wx.heap[w.heap.size + 2]? = some (.cells #[.int .i64 0, .int .i64 0] 63 (0, 0)))
  case atStart => exact ⟨q.vars.length, p0, n0, by go_num, by omega, by omega, by omega, hc.1, hc.2, by rw [List.take_length], (((Below.refl _ _).alloc (Nat.le_refl _) _).alloc (by simp) _).alloc (by simp; omega) _, by rw [heap_alloc_old _ _ (by simp; omega), heap_alloc_old _ _ (by simp)]; exact heap_alloc_new _ _, by rw [heap_alloc_old _ _ (by simp)]; exact alloc_new_at (by simp), alloc_new_at (by simp)⟩
  case round =>
    obtain ⟨k, p, n, rfl, hkm, hkm2, hkl, hp, hn, hred, hb, hfo, hset, hres⟩ := hrel
    have HR := hide hred; clear hred
    have hv0 : wr.cell? ⟨w.heap.size, 0, none⟩ = some (.slice aV q.vars.length cV) := by rw [blk_cell hfo]; rfl
    have hs0 : wr.cell? ⟨w.heap.size + 1, 0, none⟩ = some (.int .i64 p) := by rw [blk_cell hset]; rfl
    have hs1 : wr.cell? ⟨w.heap.size + 1, 1, none⟩ = some (.int .i64 n) := by rw [blk_cell hset]; rfl
    have hr0 : wr.cell? ⟨w.heap.size + 2, 0, none⟩ = some (.int .i64 0) := by rw [blk_cell hres]; rfl
    have hr1 : wr.cell? ⟨w.heap.size + 2, 1, none⟩ = some (.int .i64 0) := by rw [blk_cell hres]; rfl
    have hz0 := blk_free hset 0
    have hz1 := blk_free hset 1
    have hy0 := blk_free hres 0
    have hy1 := blk_free hres 1
    have hbs := blk_lt hres
    have hbs0 : w.heap.size < wr.heap.size := by omega
    have hbs1 : w.heap.size + 1 < wr.heap.size := by omega
    have hbw1 : b < wr.heap.size := by omega
    cases k with
    | zero =>
      have HF : Hid (redQ kind q.vars.reverse (p0, n0) = (p, n)) := hide (by rw [unhide HR]; rfl)
      have hR := blk_set (blk_set hres 0 (.int .i64 p)) 1 (.int .i64 n)
      have j0 := blk_cell hR 0
      have j1 := blk_cell hR 1
      go_wp2_with fail
      refine bodyPost_ret (v := SetV (p, n)) (by simp [results, Tryd.results79, go_sem, j0, j1]) rfl ⟨by rw [unhide HF], ?_⟩
      exact (hb.setCell (p := ⟨w.heap.size + 2, 0, none⟩) (by simp) _).setCell (p := ⟨w.heap.size + 2, 1, none⟩) (by simp) _
    | succ k =>
      have hlt : k < q.vars.length := by omega
      obtain ⟨g, cap, hVe, hg, hg', _, hcell⟩ := own_pos hoV (by omega)
      injection hVe with hVe _ hV2
      subst hVe hV2
      obtain ⟨ha, hb'⟩ := varCells_at q.vars k hlt
      have hx0 : wr.cell? ⟨g, k * 2, none⟩ = some (.int .i64 (q.vars[k].1 : Int)) := by rw [hb.cell (p := ⟨g, k * 2, none⟩) hg']; exact hcell _ _ ha
      have hx1 : wr.cell? ⟨g, k * 2 + 1, none⟩ = some (.bool q.vars[k].2) := by rw [hb.cell (p := ⟨g, k * 2 + 1, none⟩) hg']; exact hcell _ _ hb'
      have hgw : g < wr.heap.size := by omega
      have HST := hide (redQ_step kind q.vars k hlt (p, n))
      clear hcell ha hb'
      generalize q.vars[k] = x at *
      obtain ⟨vn, vu⟩ := x
      dsimp only at *
      go_wp2_with fail
      refine (hasVar_any p n vn _ hp hn).mono ?_
      rintro e w2 ⟨rfl, hb2⟩
      have hw2 : Below wr.heap.size wr w2 := ((Below.refl _ wr).alloc (Nat.le_refl _) _).trans (hb2.mono (by simp))
      have hsz2 := hw2.size
      have hv2 : w2.heap[wr.heap.size]? = some (.cells #[.int .i64 vn, .bool vu] 81 (0, 0)) := (hb2.block _ (by simp)).trans (heap_alloc_new _ _)
      have hfo2 := (hw2.block _ hbs0).trans hfo
      have hset2 := (hw2.block _ hbs1).trans hset
      have hres2 := (hw2.block _ hbs).trans hres
      have hbw2 : Below w.heap.size w w2 := hb.trans (hw2.mono (by omega))
      rw [show ((p ||| n) &&& bitOf vn != 0) = hasVarB (p, n) vn from rfl]
      cases hh : hasVarB (p, n) vn with
      | false =>
        have HF : Hid (redQ kind q.vars.reverse (p0, n0) = redQ kind (q.vars.take k).reverse (p, n)) := hide (by rw [unhide HR, unhide HST, hh]; rfl)
        go_wp2_with fail
        go_roundg (gk - 1)
        case measure => omega
        case rel => exact ⟨k, p, n, by go_num, by omega, by omega, by omega, hp, hn, unhide HF, hbw2, hfo2, hset2, hres2⟩
      | true =>
        have y2 : w2.cell? ⟨b, o, none⟩ = some (.int .i64 kind) := by rw [hbw2.cell (p := ⟨b, o, none⟩) hbw]; exact hk
        have hc0 : w2.cell? ⟨wr.heap.size, 0, none⟩ = some (.int .i64 vn) := by rw [blk_cell hv2]; rfl
        have hc1 : w2.cell? ⟨wr.heap.size, 1, none⟩ = some (.bool vu) := by rw [blk_cell hv2]; rfl
        go_wp2_with fail
        refine (isPivot_any b o kind vn vu w2 y2).mono ?_
        rintro e w3 ⟨rfl, hb3⟩
        have hv3 := (hb3.block _ (blk_lt hv2)).trans hv2
        have hfo3 := (hb3.block _ (blk_lt hfo2)).trans hfo2
        have hset3 := (hb3.block _ (blk_lt hset2)).trans hset2
        have hres3 := (hb3.block _ (blk_lt hres2)).trans hres2
        have hbw3 : Below w.heap.size w w3 := hbw2.trans (hb3.mono hbw2.size)
        have e0 : w3.cell? ⟨w.heap.size + 1, 0, none⟩ = some (.int .i64 p) := by rw [blk_cell hset3]; rfl
        have e1 : w3.cell? ⟨w.heap.size + 1, 1, none⟩ = some (.int .i64 n) := by rw [blk_cell hset3]; rfl
        have f0 : w3.cell? ⟨w.heap.size + 2, 0, none⟩ = some (.int .i64 0) := by rw [blk_cell hres3]; rfl
        have f1 : w3.cell? ⟨w.heap.size + 2, 1, none⟩ = some (.int .i64 0) := by rw [blk_cell hres3]; rfl
        have g0 : w3.cell? ⟨wr.heap.size, 0, none⟩ = some (.int .i64 vn) := by rw [blk_cell hv3]; rfl
        have z0 := blk_free hset3 0
        have z1 := blk_free hset3 1
        have y0 := blk_free hres3 0
        have y1 := blk_free hres3 1
        cases hpv : pivotB kind vu with
        | true =>
          have HF : Hid (redQ kind q.vars.reverse (p0, n0) = (p, n)) := hide (by rw [unhide HR, unhide HST, hh, hpv]; rfl)
          have hR := blk_set (blk_set hres3 0 (.int .i64 p)) 1 (.int .i64 n)
          have j0 := blk_cell hR 0
          have j1 := blk_cell hR 1
          go_wp2_with fail
          refine bodyPost_ret (v := SetV (p, n)) (by simp [results, Tryd.results79, go_sem, j0, j1]) rfl ⟨by rw [unhide HF], ?_⟩
          exact (hbw3.setCell (p := ⟨w.heap.size + 2, 0, none⟩) (by simp) _).setCell (p := ⟨w.heap.size + 2, 1, none⟩) (by simp) _
        | false =>
          have HF : Hid (redQ kind q.vars.reverse (p0, n0) = redQ kind (q.vars.take k).reverse (without (p, n) vn)) := hide (by rw [unhide HR, unhide HST, hh, hpv]; rfl)
          have hwl := without_lt (p, n) vn ⟨hp, hn⟩
          go_wp2_with fail
          refine (withoutVar_any p n vn w3 hp hn).mono ?_
          rintro e w4 ⟨rfl, hb4⟩
          have hfo4 := (hb4.block _ (blk_lt hfo3)).trans hfo3
          have hset4 := (hb4.block _ (blk_lt hset3)).trans hset3
          have hres4 := (hb4.block _ (blk_lt hres3)).trans hres3
          have hbw4 : Below w.heap.size w w4 := hbw3.trans (hb4.mono hbw3.size)
          have i0 : w4.cell? ⟨w.heap.size + 1, 0, none⟩ = some (.int .i64 p) := by rw [blk_cell hset4]; rfl
          have i1 : w4.cell? ⟨w.heap.size + 1, 1, none⟩ = some (.int .i64 n) := by rw [blk_cell hset4]; rfl
          have u0 := blk_free hset4 0
          have u1 := blk_free hset4 1
          generalize without (p, n) vn = cw at *
          obtain ⟨p', n'⟩ := cw
          go_wp2_with fail
          go_roundg (gk - 1)
          case measure => omega
          case rel =>
            refine ⟨k, p', n', by go_num, by omega, by omega, by omega, hwl.1, hwl.2, unhide HF, (hbw4.setCell (p := ⟨w.heap.size + 1, 0, none⟩) (by simp) _).setCell (p := ⟨w.heap.size + 1, 1, none⟩) (by simp) _, ?_, blk_set (blk_set hset4 0 _) 1 _, ?_⟩
            · rw [Below.heap_setCell _ _ _ _ (by simp), Below.heap_setCell _ _ _ _ (by simp)]; exact hfo4
            · rw [Below.heap_setCell _ _ _ _ (by simp), Below.heap_setCell _ _ _ _ (by simp)]; exact hres4
end Go.Proofs.YtgipjjhkhfihpaaDoor

namespace Go.Proofs.YtgipjjhkhfihpaaDoor
open Go.RowKit

theorem own_set_ne {w : World} {base : Nat} {e : TypeId} {size : Nat} {v : Value} {n : Nat} {xs : List Value} (h : w.ownsRow base e size v n xs) {p : Addr} (hp : v.ownBlock ≠ some p.block) (u : Value) : (w.setCell p u).ownsRow base e size v n xs := by
  obtain ⟨h1, h2⟩ := h
  refine ⟨h1, ?_⟩
  rcases h2 with h2 | ⟨g, cap, cur, rfl, hg, hh, h3⟩
  · exact Or.inl h2
  · refine Or.inr ⟨g, cap, cur, rfl, hg, ?_, h3⟩
    rw [Below.heap_setCell _ _ _ _ (fun e => hp (by subst e; rfl))]; exact hh
/-- A row and a block of another type are apart. -/
theorem own_type_ne {w : World} {base : Nat} {e t : TypeId} {size : Nat} {v : Value} {n : Nat} {xs : List Value} {b : Nat} {c : Array Value} {fr : Nat × Nat} (h : w.ownsRow base e size v n xs) (hb : w.heap[b]? = some (.cells c t fr)) (hne : e ≠ t) : v.ownBlock ≠ some b := by
  rcases h.2 with ⟨rfl, _⟩ | ⟨g, cap, cur, rfl, hg, hh, h3⟩
  · intro h; cases h
  · intro h
    injection h with h
    subst h
    rw [hh] at hb
    injection hb with hb
    injection hb with _ hb _
    exact hne hb
/-- A row stays where all but other blocks do. -/
theorem own_keep {T : Nat → Prop} {w w' : World} {base : Nat} {e : TypeId} {size : Nat} {v : Value} {n : Nat} {xs : List Value} (h : w.ownsRow base e size v n xs) (ho : Only T w w') (hT : ∀ k, v.ownBlock = some k → ¬ T k) : w'.ownsRow base e size v n xs := by
  obtain ⟨h1, h2⟩ := h
  refine ⟨h1, ?_⟩
  rcases h2 with h2 | ⟨g, cap, cur, rfl, hg, hh, h3⟩
  · exact Or.inl h2
  · exact Or.inr ⟨g, cap, cur, rfl, hg, (ho.block g (blk_lt hh) (hT g rfl)).trans hh, h3⟩
theorem infoStep : (Tryd.prog.info? 76).map (fun i => (i.zero, i.size, i.bytes)) = some (some (.agg #[.int .i64 0, .int .i64 0, .int .i64 0, .int .i64 0, .int .i64 0, .int .i64 0]), 6, 48) := by kernel_rfl
/-- Where a row went: it is where it was, or in a new block. -/
def Moved (w : World) (v v' : Value) : Prop := v'.ownBlock = v.ownBlock ∨ ∃ k, v'.ownBlock = some k ∧ w.heap.size ≤ k
def AddPost (base b o : Nat) (p : List Stp) (vS : Value) (s : Stp) (cells : Array Value) (t : TypeId) (w : World) (e : Ending) (w' : World) : Prop :=
  ∃ v', e = .returned (.int .i64 ((p.length : Int) + 1)) ∧ w'.ownsRow base 76 6 v' (p.length + 1) (psCells (p ++ [s])) ∧ w'.heap[b]? = some (.cells (cells.setIfInBounds (o + 1) v') t (0, 0)) ∧ Only (fun k => k = b ∨ vS.ownBlock = some k) w w' ∧ Moved w vS v'

set_option maxRecDepth 100000 in
set_option maxHeartbeats 1600000 in
theorem add_any (base b o : Nat) (p : List Stp) (vS : Value) (s : Stp) (cells : Array Value) (t : TypeId) (w : World) (hfb : w.heap[b]? = some (.cells cells t (0, 0))) (hcs : cells[o + 1]? = some vS) (ht : 76 ≠ t) (hown : w.ownsRow base 76 6 vS p.length (psCells p)) (hl : p.length ≤ 1048576) (hbase : base ≤ w.heap.size) :
    Calls Tryd.prog 33 #[.pointer (some ⟨b, o, none⟩), StpV s] w fun e w' => AddPost base b o p vS s cells t w e w' := by
  obtain ⟨aS, cS, rfl⟩ := own_form hown
  have hbw := blk_lt hfb
  have hne := own_type_ne hown hfb ht
  have hs : w.cell? ⟨b, o + 1, none⟩ = some (.slice aS p.length cS) := by rw [blk_cell hfb]; exact hcs
  obtain ⟨sr, sf, ss, sv, sl⟩ := s
  obtain ⟨sl1, sl2⟩ := sl
  obtain ⟨i1, hi1, hz10, hz11, hz12⟩ := info_parts infoStep
  go_enter Tryd.func33, Tryd.ntmps33
  go_wp2_with fail
  generalize hw0 : w.alloc (.cells #[.int .i64 (sr : Int), .int .i64 (sf : Int), .int .i64 (ss : Int), .int .i64 (sv : Int), .int .i64 (sl1 : Int), .int .i64 (sl2 : Int)] 76) = wz
  have hB : Below w.heap.size w wz := by rw [← hw0]; exact (Below.refl _ _).alloc (Nat.le_refl _) _
  have hst : wz.heap[w.heap.size]? = some (.cells #[.int .i64 (sr : Int), .int .i64 (sf : Int), .int .i64 (ss : Int), .int .i64 (sv : Int), .int .i64 (sl1 : Int), .int .i64 (sl2 : Int)] 76 (0, 0)) := by rw [← hw0]; exact heap_alloc_new _ _
  clear hw0
  have lst := blk_lt hst
  have c0 : wz.cell? ⟨w.heap.size, 0, none⟩ = some (.int .i64 (sr : Int)) := by rw [blk_cell hst]; rfl
  have c1 : wz.cell? ⟨w.heap.size, 1, none⟩ = some (.int .i64 (sf : Int)) := by rw [blk_cell hst]; rfl
  have c2 : wz.cell? ⟨w.heap.size, 2, none⟩ = some (.int .i64 (ss : Int)) := by rw [blk_cell hst]; rfl
  have c3 : wz.cell? ⟨w.heap.size, 3, none⟩ = some (.int .i64 (sv : Int)) := by rw [blk_cell hst]; rfl
  have c4 : wz.cell? ⟨w.heap.size, 4, none⟩ = some (.int .i64 (sl1 : Int)) := by rw [blk_cell hst]; rfl
  have c5 : wz.cell? ⟨w.heap.size, 5, none⟩ = some (.int .i64 (sl2 : Int)) := by rw [blk_cell hst]; rfl
  have hfz := (hB.block _ hbw).trans hfb
  have hsz : wz.cell? ⟨b, o + 1, none⟩ = some (.slice aS p.length cS) := by rw [blk_cell hfz]; exact hcs
  have hfr := blk_free hfz (o + 1)
  have hbz := blk_lt hfz
  have hownz := own_below hown hB
  have hbz0 : base ≤ wz.heap.size := Nat.le_trans hbase hB.size
  have HPS := hide (psCells_snoc p ⟨sr, sf, ss, sv, (sl1, sl2)⟩)
  have HNE := hide hne
  clear hne
  go_region_law (refine step_append_at rfl (.tmp 9) (.tmp 11) 49 rfl base 76 i1 (.agg #[.int .i64 0, .int .i64 0, .int .i64 0, .int .i64 0, .int .i64 0, .int .i64 0]) 6 48 Tryd.underlying49 hi1 hz10 hz11 hz12 rfl (by decide) (.slice aS p.length cS) p.length (psCells p) (hownz.alloc _).drew rfl ⟨wz.heap.size, 0, none⟩ 1 1 [.int .i64 (sr : Int), .int .i64 (sf : Int), .int .i64 (ss : Int), .int .i64 (sv : Int), .int .i64 (sl1 : Int), .int .i64 (sl2 : Int)] rfl rfl (new_cells wz [.int .i64 (sr : Int), .int .i64 (sf : Int), .int .i64 (ss : Int), .int .i64 (sv : Int), .int .i64 (sl1 : Int), .int .i64 (sl2 : Int)] 76) (by simp [Value.oneCell']) (by decide) (by unfold maxLen; omega) (by omega) (by simp; omega) ?_; intro v' w' hown' hgrow hmv; have hfb' : w'.heap[b]? = some (.cells cells t (0, 0)) := (hgrow.block b (by simp [World.drew]; omega) (fun e => unhide HNE e.symm)).trans ((heap_alloc_old wz _ hbz).trans hfz); obtain ⟨g4, cap4, rfl, hg4, hg4', hcap4, hcell4⟩ := own_pos hown' (by omega); have hq3 : w'.cell? ⟨b, o + 1, none⟩ = some (.slice aS p.length cS) := (by rw [blk_cell hfb']; exact hcs); have hqz := blk_free hfb' (o + 1))
  all_goals
    have hlo : o + 1 < cells.size := (Array.getElem?_eq_some_iff.1 hcs).1
    have hset := blk_set hfb' (o + 1) (.slice (some ⟨g4, 0, none⟩) (p.length + 1) cap4)
    have hget : (w'.setCell ⟨b, o + 1, none⟩ (.slice (some ⟨g4, 0, none⟩) (p.length + 1) cap4)).cell? ⟨b, o + 1, none⟩ = some (.slice (some ⟨g4, 0, none⟩) (p.length + 1) cap4) := by rw [blk_cell hset]; simp [hlo]
    have HO := hide (own_set_ne hown' (p := ⟨b, o + 1, none⟩) (own_type_ne hown' hfb' ht) (.slice (some ⟨g4, 0, none⟩) (p.length + 1) cap4))
    have HX : Hid (Only (fun k => k = b ∨ (Value.slice aS p.length cS).ownBlock = some k) w w') := hide ((((Only.of_below hB).alloc _).drew).grown hgrow (fun k hk => Or.inl (Or.inr hk)))
    have HM := hide hmv
    clear hown' hmv hgrow hcell4 hownz
    go_wp2_with fail
    go_ret
    refine ⟨_, ret_int (by omega), ?_, hset, (unhide HX).setCell (p := ⟨b, o + 1, none⟩) (Or.inl (Or.inl rfl)) _, ?_⟩
    · rw [unhide HPS]; exact unhide HO
    · rcases unhide HM with h | ⟨k, h1, h2⟩
      · exact Or.inl h
      · exact Or.inr ⟨k, h1, by have := hB.size; simp [World.drew] at h2; omega⟩
end Go.Proofs.YtgipjjhkhfihpaaDoor

namespace Go.Proofs.YtgipjjhkhfihpaaDoor
open Go.RowKit

/-! ### What a search holds in memory -/
/-- A row that may begin inside its block. -/
def RowAt (w : World) (e : TypeId) (size : Nat) (v : Value) (n : Nat) (xs : List Value) : Prop :=
  xs.length = n * size ∧ ((n = 0 ∧ ∃ a, v = .slice a 0 0 ∧ ∀ k, v.ownBlock = some k → ∃ c, w.heap[k]? = some (.cells c e (0, 0))) ∨
   ∃ g off cap cur, v = .slice (some ⟨g, off, none⟩) n cap ∧ w.heap[g]? = some (.cells cur e (0, 0)) ∧ n ≤ cap ∧ cap ≤ maxLen ∧ off + cap * size ≤ cur.size ∧ ∀ j u, xs[j]? = some u → cur[off + j]? = some u)
theorem RowAt.blk {w : World} {e : TypeId} {size : Nat} {v : Value} {n : Nat} {xs : List Value} (h : RowAt w e size v n xs) : ∀ k, v.ownBlock = some k → ∃ c, w.heap[k]? = some (.cells c e (0, 0)) := by
  rcases h.2 with ⟨_, a, _, h2⟩ | ⟨g, off, cap, cur, rfl, hg, _⟩
  · exact h2
  · intro k hk
    injection hk with hk
    subst hk
    exact ⟨cur, hg⟩
theorem RowAt.lt {w : World} {e : TypeId} {size : Nat} {v : Value} {n : Nat} {xs : List Value} (h : RowAt w e size v n xs) : ∀ k, v.ownBlock = some k → k < w.heap.size := fun k hk => by
  obtain ⟨c, hc⟩ := h.blk k hk
  exact blk_lt hc
theorem own_bk {w : World} {base : Nat} {e : TypeId} {size : Nat} {v : Value} {n : Nat} {xs : List Value} (h : w.ownsRow base e size v n xs) : ∀ k, v.ownBlock = some k → ∃ c, w.heap[k]? = some (.cells c e (0, 0)) := by
  rcases h.2 with ⟨rfl, _⟩ | ⟨g, cap, cur, rfl, _, hg, _⟩
  · intro k hk; cases hk
  · intro k hk
    injection hk with hk
    subst hk
    exact ⟨cur, hg⟩
theorem blk_type {w : World} {k : Nat} {c c' : Array Value} {e e' : TypeId} {f f' : Nat × Nat} (h : w.heap[k]? = some (.cells c e f)) (h' : w.heap[k]? = some (.cells c' e' f')) : e = e' := by
  rw [h] at h'
  injection h' with h'
  injection h' with _ h' _
theorem RowAt.form {w : World} {e : TypeId} {size : Nat} {v : Value} {n : Nat} {xs : List Value} (h : RowAt w e size v n xs) : ∃ a cap, v = .slice a n cap := by
  rcases h.2 with ⟨rfl, a, rfl, _⟩ | ⟨g, off, cap, cur, rfl, _⟩
  · exact ⟨_, _, rfl⟩
  · exact ⟨_, _, rfl⟩
theorem RowAt.cell {w : World} {e : TypeId} {size : Nat} {v : Value} {n : Nat} {xs : List Value} (h : RowAt w e size v n xs) (hn : 0 < n) : ∃ g off cap, v = .slice (some ⟨g, off, none⟩) n cap ∧ g < w.heap.size ∧ ∀ j u, xs[j]? = some u → w.cell? ⟨g, off + j, none⟩ = some u := by
  rcases h.2 with ⟨h0, _⟩ | ⟨g, off, cap, cur, rfl, hg, _, _, _, hc⟩
  · omega
  · exact ⟨g, off, cap, rfl, blk_lt hg, fun j u hj => by rw [blk_cell hg]; exact hc j u hj⟩
theorem RowAt.keep {T : Nat → Prop} {w w' : World} {e : TypeId} {size : Nat} {v : Value} {n : Nat} {xs : List Value} (h : RowAt w e size v n xs) (ho : Only T w w') (hT : ∀ k, v.ownBlock = some k → ¬ T k) : RowAt w' e size v n xs := by
  obtain ⟨h1, h2⟩ := h
  refine ⟨h1, ?_⟩
  rcases h2 with ⟨h0, a, ha, hl⟩ | ⟨g, off, cap, cur, rfl, hg, hr⟩
  · exact Or.inl ⟨h0, a, ha, fun k hk => by obtain ⟨c, hc⟩ := hl k hk; exact ⟨c, (ho.block k (blk_lt hc) (hT k hk)).trans hc⟩⟩
  · exact Or.inr ⟨g, off, cap, cur, rfl, (ho.block g (blk_lt hg) (hT g rfl)).trans hg, hr⟩
def factCells (l : List (Nat × Nat)) : List Value := pairs l
structure SV where
  v : Value
  c : Value
  r : Value
  a : Value
  k : Value
abbrev sCells (C : SC) (S : SS) (V : SV) : Array Value := #[V.v, V.c, .int .i64 (C.uni.1 : Int), .int .i64 (C.uni.2 : Int), .int .i64 (C.budget : Int), .int .i64 (S.nodes : Int), .int .i64 1, V.r, .int .i64 2, V.a, .int .i64 (C.room : Int), V.k, .int .i64 (S.most : Int)]
structure SAt (w : World) (b : Nat) (C : SC) (S : SS) (V : SV) : Prop where
  fb : w.heap[b]? = some (.cells (sCells C S V) 68 (0, 0))
  oV : w.ownsRow 0 81 2 V.v C.q.vars.length (varCells C.q.vars)
  oC : w.ownsRow 0 63 2 V.c C.q.cl.length (pairs C.q.cl)
  oR : w.ownsRow 0 76 6 V.r S.ref.length (psCells S.ref)
  oA : w.ownsRow 0 76 6 V.a S.aff.length (psCells S.aff)
  oK : RowAt w 71 2 V.k S.kept.length (pairs S.kept)
  ap : ∀ k, V.r.ownBlock = some k → V.a.ownBlock ≠ some k
/-- Bounds that the walks want. -/
structure SBd (C : SC) (S : SS) : Prop where
  qb : QB C.q
  uni : C.uni.1 < 512 ∧ C.uni.2 < 512
  ref : ∀ s ∈ S.ref, s.lits.1 < 512 ∧ s.lits.2 < 512
  aff : ∀ s ∈ S.aff, s.lits.1 < 512 ∧ s.lits.2 < 512
  rl : S.ref.length ≤ 100000
  al : S.aff.length ≤ 100000
  kept : S.kept.length ≤ 64
  kind : ∀ f ∈ S.kept, f.1 ≤ 2 ∧ f.2 ≤ 100000
  budget : C.budget ≤ 1048576
  room : C.room ≤ 64
  most : S.most ≤ 64
  nodes : S.nodes ≤ 1048576
/-- A block that is none of the search's. -/
def Far (b : Nat) (V : SV) (k : Nat) : Prop := k ≠ b ∧ V.v.ownBlock ≠ some k ∧ V.c.ownBlock ≠ some k ∧ V.r.ownBlock ≠ some k ∧ V.a.ownBlock ≠ some k ∧ V.k.ownBlock ≠ some k
/-- Blocks that the search may write. -/
def TS (b : Nat) (V : SV) (k : Nat) : Prop := k = b ∨ V.r.ownBlock = some k ∨ V.a.ownBlock = some k ∨ V.k.ownBlock = some k
theorem Far.ts {b : Nat} {V : SV} {k : Nat} (h : Far b V k) : ¬ TS b V k := by
  rintro (h1 | h1 | h1 | h1)
  · exact h.1 h1
  · exact h.2.2.2.1 h1
  · exact h.2.2.2.2.1 h1
  · exact h.2.2.2.2.2 h1
theorem SAt.fresh {w : World} {b : Nat} {C : SC} {S : SS} {V : SV} (h : SAt w b C S V) {n : Nat} (hn : w.heap.size ≤ n) : Far b V n := by
  refine ⟨fun e => ?_, fun e => ?_, fun e => ?_, fun e => ?_, fun e => ?_, fun e => ?_⟩
  · have := blk_lt h.fb; omega
  · have := (h.oV.lt n e).2; omega
  · have := (h.oC.lt n e).2; omega
  · have := (h.oR.lt n e).2; omega
  · have := (h.oA.lt n e).2; omega
  · have := h.oK.lt n e; omega
/-- A search that is where it was, or has moved on into new blocks. -/
structure SMoved (b : Nat) (w w' : World) (V V' : SV) : Prop where
  only : Only (TS b V) w w'
  v : V'.v = V.v
  c : V'.c = V.c
  r : Moved w V.r V'.r
  a : Moved w V.a V'.a
  k : Moved w V.k V'.k
theorem SMoved.of_below {b : Nat} {w w' : World} {V : SV} (h : Below w.heap.size w w') : SMoved b w w' V V := ⟨Only.of_below h, rfl, rfl, Or.inl rfl, Or.inl rfl, Or.inl rfl⟩
theorem Moved.ne {w : World} {v v' : Value} (h : Moved w v v') {k : Nat} (hk : k < w.heap.size) (hv : v.ownBlock ≠ some k) : v'.ownBlock ≠ some k := by
  rcases h with h | ⟨j, h, hj⟩
  · rw [h]; exact hv
  · rw [h]; intro e; injection e with e; omega
theorem Moved.trans {w w1 : World} {a b c : Value} (h : Moved w a b) (k : Moved w1 b c) (hs : w.heap.size ≤ w1.heap.size) : Moved w a c := by
  rcases k with k | ⟨j, k, hj⟩
  · rcases h with h | ⟨i, h, hi⟩
    · exact Or.inl (k.trans h)
    · exact Or.inr ⟨i, k.trans h, hi⟩
  · exact Or.inr ⟨j, k, by omega⟩
theorem SMoved.far {b : Nat} {w w' : World} {V V' : SV} (h : SMoved b w w' V V') {k : Nat} (hk : k < w.heap.size) (hf : Far b V k) : Far b V' k :=
  ⟨hf.1, by rw [h.v]; exact hf.2.1, by rw [h.c]; exact hf.2.2.1, h.r.ne hk hf.2.2.2.1, h.a.ne hk hf.2.2.2.2.1, h.k.ne hk hf.2.2.2.2.2⟩
theorem SMoved.blk {b : Nat} {w w' : World} {V V' : SV} (h : SMoved b w w' V V') {k : Nat} {o : Obj} (hb : w.heap[k]? = some o) (hf : Far b V k) : w'.heap[k]? = some o := (h.only.block k (blk_lt hb) hf.ts).trans hb
theorem SMoved.trans {b : Nat} {w w1 w2 : World} {V V1 V2 : SV} (h : SMoved b w w1 V V1) (k : SMoved b w1 w2 V1 V2) : SMoved b w w2 V V2 := by
  have hs := h.only.size
  refine ⟨⟨k.only.os.trans h.only.os, k.only.tape.trans h.only.tape, k.only.output.trans h.only.output, Nat.le_trans hs k.only.size, fun i hi ht => ?_⟩, k.v.trans h.v, k.c.trans h.c, h.r.trans k.r hs, h.a.trans k.a hs, h.k.trans k.k hs⟩
  refine (k.only.block i (by omega) ?_).trans (h.only.block i hi ht)
  rintro (h1 | h1 | h1 | h1)
  · exact ht (Or.inl h1)
  · exact h.r.ne hi (fun e => ht (Or.inr (Or.inl e))) h1
  · exact h.a.ne hi (fun e => ht (Or.inr (Or.inr (Or.inl e)))) h1
  · exact h.k.ne hi (fun e => ht (Or.inr (Or.inr (Or.inr e)))) h1
theorem SAt.later {w w' : World} {b : Nat} {C : SC} {S : SS} {V : SV} (h : SAt w b C S V) (hb : Below w.heap.size w w') : SAt w' b C S V :=
  ⟨(hb.block b (blk_lt h.fb)).trans h.fb, own_below h.oV hb, own_below h.oC hb, own_below h.oR hb, own_below h.oA hb, h.oK.keep (Only.of_below (T := fun _ => False) hb) (fun _ _ h => h), h.ap⟩
/-- A store into a block that is none of the search's. -/
theorem SAt.set {w : World} {b : Nat} {C : SC} {S : SS} {V : SV} (h : SAt w b C S V) {k : Nat} (hf : Far b V k) (o : Nat) (u : Value) : SAt (w.setCell ⟨k, o, none⟩ u) b C S V :=
  ⟨by rw [Below.heap_setCell _ _ _ _ (fun e => hf.1 e.symm)]; exact h.fb, own_set_ne h.oV hf.2.1 u, own_set_ne h.oC hf.2.2.1 u, own_set_ne h.oR hf.2.2.2.1 u, own_set_ne h.oA hf.2.2.2.2.1 u,
   h.oK.keep (T := fun j => j = k) ((Only.refl (fun j => j = k) w).setCell (p := ⟨k, o, none⟩) (Or.inl rfl) u) (fun j hj e => hf.2.2.2.2.2 (by rw [hj, e])), h.ap⟩
theorem SMoved.set {b : Nat} {w w' : World} {V V' : SV} (h : SMoved b w w' V V') {k : Nat} (hk : w.heap.size ≤ k) (o : Nat) (u : Value) : SMoved b w (w'.setCell ⟨k, o, none⟩ u) V V' :=
  ⟨h.only.setCell (p := ⟨k, o, none⟩) (Or.inr hk) u, h.v, h.c, h.r, h.a, h.k⟩
/-- What a call leaves of the search. -/
def SPost (b : Nat) (C : SC) (S' : SS) (V : SV) (w w' : World) : Prop := ∃ V', SAt w' b C S' V' ∧ SMoved b w w' V V'
end Go.Proofs.YtgipjjhkhfihpaaDoor

namespace Go.Proofs.YtgipjjhkhfihpaaDoor
open Go.RowKit

theorem minus_lt (a b : Nat × Nat) (h : a.1 < 512 ∧ a.2 < 512) : (minus a b).1 < 512 ∧ (minus a b).2 < 512 := ⟨less_lt9 _ _ h.1, less_lt9 _ _ h.2⟩
set_option maxRecDepth 100000 in
set_option maxHeartbeats 800000 in
theorem lwithout_any (p n p2 n2 : Nat) (w : World) (hp : p < 512) (hn : n < 512) (hp2 : p2 < 512) (hn2 : n2 < 512) :
    Calls Tryd.prog 65 #[SetV (p, n), SetV (p2, n2)] w fun e w' => e = .returned (SetV (minus (p, n) (p2, n2))) ∧ Below w.heap.size w w' := by
  have h1 : bits .andNot .i64 (p : Int) (p2 : Int) = ((less p p2 : Nat) : Int) := i64_andNot _ _ (by omega) (by omega)
  have h2 : bits .andNot .i64 (n : Int) (n2 : Int) = ((less n n2 : Nat) : Int) := i64_andNot _ _ (by omega) (by omega)
  go_enter Tryd.func65, Tryd.ntmps65
  go_wp2_with fail
  refine bodyPost_ret (v := SetV (minus (p, n) (p2, n2))) (by simp [results, Tryd.results65, go_sem, minus]) rfl ⟨rfl, ?_⟩
  exact ((((Below.refl _ _).alloc (Nat.le_refl _) _).alloc (by simp) _)).alloc (by simp; omega) _

set_option maxRecDepth 100000 in
set_option maxHeartbeats 800000 in
theorem turned_any (p n : Nat) (w : World) :
    Calls Tryd.prog 76 #[SetV (p, n)] w fun e w' => e = .returned (SetV (swapL (p, n))) ∧ Below w.heap.size w w' := by
  go_enter Tryd.func76, Tryd.ntmps76
  go_wp2_with fail
  refine bodyPost_ret (v := SetV (swapL (p, n))) (by simp [results, Tryd.results76, go_sem, swapL]) rfl ⟨rfl, ?_⟩
  exact ((Below.refl _ _).alloc (Nat.le_refl _) _).alloc (by simp) _

/-! ### The list of literals -/
def intsI (l : List Int) : List Value := l.map (fun x => .int .i64 x)
theorem listFrom_len (c : Nat × Nat) : ∀ k v, (listFrom c k v).length ≤ 2 * k := by
  intro k
  induction k with
  | zero => intro v; simp [listFrom]
  | succ k ih =>
    intro v
    rw [listFrom]
    have := ih (v + 1)
    simp only [List.length_append]
    split <;> split <;> simp <;> omega
/-- The literals of the variables ahead of v. -/
def listTo (c : Nat × Nat) : Nat → List Int
  | 0 => []
  | k + 1 => listTo c k ++ ((if hasLit c ((k + 1 : Nat) : Int) then [((k + 1 : Nat) : Int)] else []) ++ (if hasLit c (-((k + 1 : Nat) : Int)) then [-((k + 1 : Nat) : Int)] else []))
theorem listTo_from (c : Nat × Nat) : ∀ m k, listTo c k ++ listFrom c m (k + 1) = listTo c (k + m) := by
  intro m
  induction m with
  | zero => intro k; simp [listFrom]
  | succ m ih =>
    intro k
    rw [listFrom, show k + (m + 1) = (k + 1) + m from by omega, ← ih (k + 1), listTo]
    simp only [List.append_assoc]
theorem listTo_all (c : Nat × Nat) : listTo c 8 = listOf c := by
  have := listTo_from c 8 0
  simpa [listTo, listOf] using this.symm
theorem listTo_len (c : Nat × Nat) (k : Nat) : (listTo c k).length ≤ 2 * k := by
  induction k with
  | zero => simp [listTo]
  | succ k ih =>
    rw [listTo]
    simp only [List.length_append]
    split <;> split <;> simp <;> omega
theorem wrap_neg_small' (v : Nat) (h : v ≤ 8) : IntKind.i64.wrap (-(v : Int)) = -(v : Int) := by
  have : ∀ v : Fin 9, IntKind.i64.wrap (-(v.val : Int)) = -(v.val : Int) := by decide
  exact this ⟨v, by omega⟩
def ListPost (c : Nat × Nat) (w : World) (e : Ending) (w' : World) : Prop := ∃ v, e = .returned v ∧ w'.ownsRow w.heap.size 3 1 v (listOf c).length (intsI (listOf c)) ∧ Below w.heap.size w w'

set_option maxRecDepth 100000 in
set_option maxHeartbeats 1600000 in
theorem list_any (p n : Nat) (w : World) (hp : p < 512) (hn : n < 512) :
    Calls Tryd.prog 62 #[SetV (p, n)] w fun e w' => ListPost (p, n) w e w' := by
  obtain ⟨i3, hi3, hz30, hz31, hz32⟩ := info_parts Tryd.info3
  go_enter Tryd.func62, Tryd.ntmps62
  go_wp2_with fail
  go_loopg [3, 4] 8 (fun m vl iv wx => ∃ (k : Nat), iv = .int .i64 ((k : Int) + 1) ∧ k + m = 8 ∧ wx.ownsRow (w.heap.size + 1) 3 1 vl (listTo (p, n) k).length (intsI (listTo (p, n) k)) ∧ Below w.heap.size w wx ∧ wx.heap[w.heap.size]? = some (.cells #[.int .i64 (p : Int), .int .i64 (n : Int)] 63 (0, 0)))
  case atStart => exact ⟨0, rfl, by omega, World.ownsRow_nil _ _ _ _, (Below.refl _ _).alloc (Nat.le_refl _) _, heap_alloc_new _ _⟩
  case round =>
    obtain ⟨k, rfl, hk, hown, hb, hset⟩ := hrel
    have HLN := hide (listTo_len (p, n) k)
    have hln := listTo_len (p, n) k
    have hbs := blk_lt hset
    obtain ⟨aL, cL, rfl⟩ := own_form hown
    have c0 : wr.cell? ⟨w.heap.size, 0, none⟩ = some (.int .i64 (p : Int)) := by rw [blk_cell hset]; rfl
    have c1 : wr.cell? ⟨w.heap.size, 1, none⟩ = some (.int .i64 (n : Int)) := by rw [blk_cell hset]; rfl
    by_cases hlt : k < 8
    · have hd : decide ((k : Int) + 1 ≤ 8) = true := by simp; omega
      have hwn : IntKind.i64.wrap (-((k : Int) + 1)) = -((k : Int) + 1) := wrap_neg_small' (k + 1) (by omega)
      have HT : Hid (listTo (p, n) (k + 1) = listTo (p, n) k ++ ((if hasLit (p, n) ((k : Int) + 1) then [(k : Int) + 1] else []) ++ (if hasLit (p, n) (-((k : Int) + 1)) then [-((k : Int) + 1)] else []))) := hide rfl
      generalize listTo (p, n) k = l at *
      go_wp2_with fail
      refine (has_any p n ((k : Int) + 1) wr hp hn (by omega) (by omega)).mono ?_
      rintro e w1 ⟨rfl, hb1⟩
      have hset1 := (hb1.block _ hbs).trans hset
      have hB1 : Below w.heap.size w w1 := hb.trans (hb1.mono hb.size)
      have hown1 := own_below hown hb1
      have d0 : w1.cell? ⟨w.heap.size, 0, none⟩ = some (.int .i64 (p : Int)) := by rw [blk_cell hset1]; rfl
      have d1 : w1.cell? ⟨w.heap.size, 1, none⟩ = some (.int .i64 (n : Int)) := by rw [blk_cell hset1]; rfl
      have hbs1 := blk_lt hset1
      cases h1 : hasLit (p, n) ((k : Int) + 1) with
      | false =>
        go_wp2_with fail
        refine (has_any p n (-((k : Int) + 1)) w1 hp hn (by omega) (by omega)).mono ?_
        rintro e w3 ⟨rfl, hb3⟩
        have hset3 := (hb3.block _ (blk_lt hset1)).trans hset1
        have hB3 : Below w.heap.size w w3 := hB1.trans (hb3.mono hB1.size)
        have hown3 := own_below hown1 hb3
        have hbs3 := blk_lt hset3
        cases h2 : hasLit (p, n) (-((k : Int) + 1)) with
        | false =>
          have HL : Hid (listTo (p, n) (k + 1) = l) := hide (by rw [unhide HT, h1, h2]; simp)
          go_wp2_with fail
          go_roundg (gk - 1)
          case measure => omega
          case rel => exact ⟨k + 1, by go_num, by omega, by rw [unhide HL]; simpa [intsI] using hown3, hB3, hset3⟩
        | true =>
          have HL : Hid (listTo (p, n) (k + 1) = l ++ [-((k : Int) + 1)]) := hide (by rw [unhide HT, h1, h2]; simp)
          go_wp2_with (at_builtin; refine wpList_append_new rfl _ _ 97 rfl (w.heap.size + 1) i3 (.int .i64 0) 1 8 Tryd.underlying97 hi3 hz30 hz31 hz32 rfl (by decide) _ _ _ hown3 rfl rfl rfl (by simp [Value.oneCell']) (by unfold maxLen; omega) (by omega) hbs3 ?_; intro v4 w4 hown4 hgrow4 hnn4)
          have hB4 : Below w.heap.size w w4 := below_grown hB3 hgrow4 hown3 (Nat.le_succ _) hB3.size
          have hset4 : w4.heap[w.heap.size]? = some (.cells #[.int .i64 (p : Int), .int .i64 (n : Int)] 63 (0, 0)) := (hgrow4.block _ hbs3 (fun e => by have := (hown3.lt _ e.symm).1; omega)).trans hset3
          obtain ⟨a4, c4, rfl⟩ := own_form hown4
          go_wp2_with fail
          go_roundg (gk - 1)
          case measure => omega
          case rel => exact ⟨k + 1, by go_num, by omega, by rw [unhide HL]; simpa [intsI] using hown4, hB4, hset4⟩
      | true =>
        go_wp2_with (at_builtin; refine wpList_append_new rfl _ _ 97 rfl (w.heap.size + 1) i3 (.int .i64 0) 1 8 Tryd.underlying97 hi3 hz30 hz31 hz32 rfl (by decide) _ _ _ hown1 rfl rfl rfl (by simp [Value.oneCell']) (by unfold maxLen; omega) (by omega) hbs1 ?_; intro v2 w2 hown2 hgrow2 hnn2; have hB2 : Below w.heap.size w w2 := below_grown hB1 hgrow2 hown1 (Nat.le_succ _) hB1.size; have hset2 : w2.heap[w.heap.size]? = some (.cells #[.int .i64 (p : Int), .int .i64 (n : Int)] 63 (0, 0)) := (hgrow2.block _ hbs1 (fun e => by have := (hown1.lt _ e.symm).1; omega)).trans hset1; obtain ⟨a2, c2, rfl⟩ := own_form hown2; have hbs2 := blk_lt hset2; have f0 : w2.cell? ⟨w.heap.size, 0, none⟩ = some (.int .i64 (p : Int)) := (by rw [blk_cell hset2]; rfl); have f1 : w2.cell? ⟨w.heap.size, 1, none⟩ = some (.int .i64 (n : Int)) := (by rw [blk_cell hset2]; rfl))
        refine (has_any p n (-((k : Int) + 1)) w2 hp hn (by omega) (by omega)).mono ?_
        rintro e w3 ⟨rfl, hb3⟩
        have hset3 := (hb3.block _ (blk_lt hset2)).trans hset2
        have hB3 : Below w.heap.size w w3 := hB2.trans (hb3.mono hB2.size)
        have hown3 := own_below hown2 hb3
        have hbs3 := blk_lt hset3
        cases h2 : hasLit (p, n) (-((k : Int) + 1)) with
        | false =>
          have HL : Hid (listTo (p, n) (k + 1) = (l ++ [(k : Int) + 1])) := hide (by rw [unhide HT, h1, h2]; simp)
          go_wp2_with fail
          go_roundg (gk - 1)
          case measure => omega
          case rel => exact ⟨k + 1, by go_num, by omega, by rw [unhide HL]; simpa [intsI] using hown3, hB3, hset3⟩
        | true =>
          have HL : Hid (listTo (p, n) (k + 1) = (l ++ [(k : Int) + 1]) ++ [-((k : Int) + 1)]) := hide (by rw [unhide HT, h1, h2]; simp)
          go_wp2_with (at_builtin; refine wpList_append_new rfl _ _ 97 rfl (w.heap.size + 1) i3 (.int .i64 0) 1 8 Tryd.underlying97 hi3 hz30 hz31 hz32 rfl (by decide) _ _ _ hown3 rfl rfl rfl (by simp [Value.oneCell']) (by unfold maxLen; omega) (by omega) hbs3 ?_; intro v4 w4 hown4 hgrow4 hnn4)
          have hB4 : Below w.heap.size w w4 := below_grown hB3 hgrow4 hown3 (Nat.le_succ _) hB3.size
          have hset4 : w4.heap[w.heap.size]? = some (.cells #[.int .i64 (p : Int), .int .i64 (n : Int)] 63 (0, 0)) := (hgrow4.block _ hbs3 (fun e => by have := (hown3.lt _ e.symm).1; omega)).trans hset3
          obtain ⟨a4, c4, rfl⟩ := own_form hown4
          go_wp2_with fail
          go_roundg (gk - 1)
          case measure => omega
          case rel => exact ⟨k + 1, by go_num, by omega, by rw [unhide HL]; simpa [intsI] using hown4, hB4, hset4⟩
    · have hk8 : k = 8 := by omega
      subst hk8
      have HA := hide (listTo_all (p, n))
      go_wp2_with fail
      go_ret
      exact ⟨_, rfl, by rw [← unhide HA]; exact own_lo hown (Nat.le_succ _), hb⟩
end Go.Proofs.YtgipjjhkhfihpaaDoor
