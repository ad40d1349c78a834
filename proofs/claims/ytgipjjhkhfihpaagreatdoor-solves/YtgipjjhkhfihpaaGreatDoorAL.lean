import Derived.Test.YtgipjjhkhfihpaaGreatDoorAK
import Derived.Test.YtgipjjhkhfihpaaGreatDoorAH
import Derived.Laws.Tables
import Derived.Laws.Rows
import Derived.Laws.CopyOwn
import Derived.Test.YtgipjjhkhfihpaaGreatDoorAF
import Derived.Test.YtgipjjhkhfihpaaGreatDoorAE
import Derived.Laws.MakeOwn
namespace Go.Proofs.YtgipjjhkhfihpaaGreatDoor
open Go.RowKit

theorem joinW_len (ws : List (List UInt8)) (k : Nat) (h : ∀ w ∈ ws, w.length ≤ k) : (joinW ws).length ≤ (k + 1) * ws.length := by
  induction ws with
  | nil => simp [joinW]
  | cons w ws ih =>
    have h1 := h w (by simp)
    have h2 := ih (fun x hx => h x (by simp [hx]))
    cases ws with
    | nil => simp [joinW]; omega
    | cons x ws =>
      show (w ++ 32 :: joinW (x :: ws)).length ≤ _
      simp only [List.length_append, List.length_cons] at h2 ⊢
      rw [Nat.mul_add (k + 1) (ws.length + 1) 1]
      omega
theorem listFrom_free {c : Nat × Nat} (hf : Free c) : ∀ k v, 1 ≤ v → v + k ≤ 9 → (listFrom c k v).length ≤ k := by
  intro k
  induction k with
  | zero => intro v _ _; simp [listFrom]
  | succ k ih =>
    intro v h1 h9
    have hp : hasLit c (v : Int) = L c true v := hasLit_L c v true h1 (by omega)
    have hn : hasLit c (-(v : Int)) = L c false v := hasLit_L c v false h1 (by omega)
    have := ih (v + 1) (by omega) (by omega)
    rw [listFrom, hp, hn]
    cases e1 : L c true v with
    | true =>
      have e2 := hf.not e1
      simp only [Bool.not_true] at e2
      rw [e2]; simp; omega
    | false =>
      cases e2 : L c false v with
      | true => simp; omega
      | false => simp; omega
theorem lineP_len {s : Stp} (hf : Free s.lits) (h1 : s.rule ≠ 2 → s.first < 1000000) (h2 : s.rule = 3 → s.second < 1000000 ∧ s.var < 1000000) : (lineP s).length ≤ 28 := by
  unfold lineP wordsP
  split
  · have d1 := decDigits_len _ (h1 (by omega))
    have := joinW_len [[97], Lib.decDigits s.first] 6 (by simp; exact d1)
    simp at this; omega
  · split
    · have hl := listFrom_free hf 8 1 (by omega) (by omega)
      have := joinW_len ([99] :: (listOf s.lits).map Lib.itoa) 2 (by
        intro w hw
        rcases List.mem_cons.1 hw with rfl | hw
        · simp
        · obtain ⟨z, hz, rfl⟩ := List.mem_map.1 hw
          obtain ⟨u, t, hu1, hu8, rfl, _⟩ := (listOf_mem _ _).1 hz
          have hd := decDigits_small u (by omega)
          cases t with
          | true => rw [itoa_pos, hd]; simp
          | false => rw [itoa_neg' u hu1, hd]; simp)
      have e : (listOf s.lits).length ≤ 8 := hl
      simp only [List.length_cons, List.length_map] at this
      omega
    · have d1 := decDigits_len _ (h1 (by assumption))
      split
      · next h3 =>
        have d2 := decDigits_len _ (h2 h3).1
        have d3 := decDigits_len _ (h2 h3).2
        have := joinW_len [[114], Lib.decDigits s.first, Lib.decDigits s.second, Lib.decDigits s.var] 6 (by simp; exact ⟨d1, d2, d3⟩)
        simp at this; omega
      · have := joinW_len [[100], Lib.decDigits s.first] 6 (by simp; exact d1)
        simp at this; omega
theorem joinN_len (m : List (List UInt8)) (k : Nat) (h : ∀ r ∈ m, r.length ≤ k) : (joinN m).length ≤ (k + 1) * m.length := by
  induction m with
  | nil => simp [joinN]
  | cons r m ih =>
    have h1 := h r (by simp)
    have h2 := ih (fun x hx => h x (by simp [hx]))
    simp only [joinN, List.flatMap_cons, List.length_append, List.length_cons, List.length_nil] at h2 ⊢
    rw [Nat.mul_add]
    omega
theorem joinW_mem (ws : List (List UInt8)) (x : UInt8) (hx : x ≠ 32) (h : ∀ w ∈ ws, x ∉ w) : x ∉ joinW ws := by
  induction ws with
  | nil => simp [joinW]
  | cons w ws ih =>
    have h1 := h w (by simp)
    have h2 := ih (fun y hy => h y (by simp [hy]))
    cases ws with
    | nil => exact h1
    | cons y ws =>
      show x ∉ w ++ 32 :: joinW (y :: ws)
      rw [List.mem_append, List.mem_cons]
      rintro (h3 | h3 | h3)
      · exact h1 h3
      · exact hx h3
      · exact h2 h3
section
variable {q : QS} (hq : QGood q) {F : Form} (hF : FQ F q) (hO : FOk F) {truth : Bool} {p : List Stp} (hp : POk q (kd truth) p) (hf : ∀ s ∈ p, Free s.lits) (hl : p.length ≤ 9000)
include hq hF hO hp hf hl
theorem line_ok (i : Nat) (hi : i < p.length) : lineR F truth ((p.take i).map (·.lits)) (lineP p[i]) = some p[i].lits ∧ isTwo (lineP p[i]) = (p[i].rule == 3) ∧ (10 : UInt8) ∉ lineP p[i] := by
  obtain ⟨hd, tl, h1, h2, h3, h4⟩ := step_words hq hF hO (p := p.take i) (by simp; omega) (hp i hi) (hf _ (List.getElem_mem hi))
  have hc : cutAt 32 (lineP p[i]) = hd :: tl := by
    unfold lineP
    rw [cut_words _ (by rw [h1]; simp) (fun w hw => (h4 w hw).1), h1]
  refine ⟨?_, ?_, joinW_mem _ _ (by decide) (fun w hw => (h4 w hw).2)⟩
  · rw [lineR_eq F truth _ _ hd tl hc, if_neg (by simp; omega)]
    exact h2
  · unfold isTwo
    rw [hc]
    by_cases e : p[i].rule = 3
    · rw [h3.2 e, e]; rfl
    · have : hd ≠ [114] := fun h => e (h3.1 h)
      rw [show (p[i].rule == 3) = false from by simpa using e]
      simpa using this
theorem rows_ok : ∀ (m i n : Nat), i + m = p.length → rowsR F truth ((p.take i).map (·.lits)) n ((p.drop i).map lineP) = .inl (p.map (·.lits)) := by
  intro m
  induction m with
  | zero =>
    intro i n h
    rw [List.drop_eq_nil_of_le (by omega), List.take_of_length_le (by omega)]
    rfl
  | succ m ih =>
    intro i n h
    have hi : i < p.length := by omega
    rw [List.drop_eq_getElem_cons hi, List.map_cons, rowsR, (line_ok hq hF hO hp hf hl i hi).1]
    have := ih (i + 1) (n + 1) (by omega)
    rw [List.take_succ_eq_append_getElem hi, List.map_append] at this
    exact this
theorem two_ok : twoR (p.map lineP) = twos p := by
  unfold twoR twos
  rw [List.filter_map, List.length_map]
  congr 1
  apply List.filter_congr
  intro s hs
  obtain ⟨i, hi, rfl⟩ := List.mem_iff_getElem.1 hs
  exact (line_ok hq hF hO hp hf hl i hi).2.1
theorem proves_text (hlast : ∃ s, p.getLast? = some s ∧ s.lits = (0, 0)) : provesR F (textP truth p) = .inr (truth, twos p) := by
  have hno : ∀ r ∈ headP truth :: p.map lineP, (10 : UInt8) ∉ r := by
    intro r hr
    rcases List.mem_cons.1 hr with rfl | hr
    · cases truth <;> decide
    · obtain ⟨s, hs, rfl⟩ := List.mem_map.1 hr
      obtain ⟨i, hi, rfl⟩ := List.mem_iff_getElem.1 hs
      exact (line_ok hq hF hO hp hf hl i hi).2.2
  have hcut : cutTo 10 (textP truth p) = (headP truth :: p.map lineP, []) := by
    unfold cutTo textP
    rw [cut_join _ hno []]; rfl
  have hlen : ∀ r ∈ headP truth :: p.map lineP, r.length ≤ 28 := by
    intro r hr
    rcases List.mem_cons.1 hr with rfl | hr
    · cases truth <;> decide
    · obtain ⟨s, hs, rfl⟩ := List.mem_map.1 hr
      obtain ⟨i, hi, rfl⟩ := List.mem_iff_getElem.1 hs
      have htl : (p.take i).length ≤ 9000 := by simp; omega
      have hclen := hF.clen
      rcases (hp i hi).2 with ⟨h1, _, _, h4, _⟩ | ⟨h1, _⟩ | ⟨_, h2, h3, ⟨x, hx, hxe, _⟩, _⟩ | ⟨h1, h2, _⟩
      · exact lineP_len (hf _ hs) (fun _ => by omega) (fun h => by omega)
      · exact lineP_len (hf _ hs) (fun h => absurd h1 h) (fun h => by omega)
      · have hv := hq.qb.names x hx
        exact lineP_len (hf _ hs) (fun _ => by omega) (fun _ => ⟨by omega, by omega⟩)
      · exact lineP_len (hf _ hs) (fun _ => by omega) (fun h => by omega)
  have hlong : ¬ 262144 < (textP truth p).length := by
    have := joinN_len _ 28 hlen
    simp only [List.length_cons, List.length_map] at this
    unfold textP
    omega
  unfold provesR
  rw [if_neg hlong, hcut]
  dsimp only
  have hh : headP truth = sTrue ∨ headP truth = sFalse := by cases truth <;> simp [headP]
  have hb : (headP truth == sTrue) = truth := by cases truth <;> decide
  rw [if_pos hh, hb]
  have hr := rows_ok hq hF hO hp hf hl p.length 0 1 (by omega)
  simp only [List.take_zero, List.map_nil, List.drop_zero] at hr
  rw [hr]
  dsimp only
  have he : emptyLast (p.map (·.lits)) = true := by
    obtain ⟨s, h1, h2⟩ := hlast
    unfold emptyLast
    rw [List.getLast?_map, h1]
    show (s.lits.1 ||| s.lits.2 == 0) = true
    rw [h2]; rfl
  rw [if_pos ⟨rfl, he⟩, two_ok hq hF hO hp hf hl]
end
end Go.Proofs.YtgipjjhkhfihpaaGreatDoor

namespace Go.Proofs.YtgipjjhkhfihpaaGreatDoor
open Go.RowKit

/-! ### The whole search -/
theorem axioms_len (cl : List (Nat × Nat)) : (axioms cl).length = cl.length := by simp [axioms]
theorem axioms_at (cl : List (Nat × Nat)) (i : Nat) (h : i < cl.length) : (axioms cl)[i]'(by rw [axioms_len]; exact h) = ⟨1, i + 1, 0, 0, cl[i]⟩ := by
  simp [axioms]
theorem axioms_ok {q : QS} (hq : QGood q) : POk q 1 (axioms q.cl) := by
  intro i hi
  have h : i < q.cl.length := by rw [axioms_len] at hi; exact hi
  rw [axioms_at q.cl i h]
  have hm := List.getElem_mem h
  refine ⟨⟨hq.qb.bits _ hm, fun s v hv => hq.vars _ hm s v hv⟩, Or.inl ⟨rfl, rfl, by show 1 ≤ i + 1; omega, by show i + 1 ≤ _; omega, rfl, ?_⟩⟩
  show q.cl[i] = q.cl.getD (i + 1 - 1) (0, 0)
  rw [Nat.add_sub_cancel, List.getD, List.getElem?_eq_getElem h]; rfl
theorem begin_inv {q : QS} (hq : QGood q) (budget room : Nat) : SInv (beginC q budget room) (beginS q) := by
  refine ⟨axioms_ok hq, by show q.cl.length ≤ (axioms q.cl).length; rw [axioms_len]; exact Nat.le_refl _, fun i hi => ?_, pok_nil _ _, fun f hf => (by cases hf), Nat.zero_le _, Nat.zero_le _⟩
  have h : i < q.cl.length := hi
  show litsAt (axioms q.cl) (i + 1) = q.cl[i]
  rw [litsAt_in _ i (by rw [axioms_len]; exact h), axioms_at q.cl i h]
theorem uni_ok {q : QS} (hq : QGood q) : UniOk q (uniTo q.vars (0, 0)) := by
  have key : ∀ (vs : List (Nat × Bool)) (u : Nat × Nat), (∀ x ∈ vs, 1 ≤ x.1 ∧ x.1 ≤ 8) → ∀ s v, L (uniTo vs u) s v = true ↔ (L u s v = true ∨ ∃ x ∈ vs, x.1 = v ∧ x.2 = true) := by
    intro vs
    induction vs with
    | nil => intro u _ s v; simp [uniTo]
    | cons y vs ih =>
      intro u hn s v
      have hy := hn y (by simp)
      show L (uniTo vs (if y.2 then withLit (withLit u y.1) (-(y.1 : Int)) else u)) s v = true ↔ _
      rw [ih _ (fun x hx => hn x (by simp [hx]))]
      cases hu : y.2 with
      | false =>
        simp only [Bool.false_eq_true, if_false]
        constructor
        · rintro (h | ⟨x, hx, h1, h2⟩)
          · exact Or.inl h
          · exact Or.inr ⟨x, by simp [hx], h1, h2⟩
        · rintro (h | ⟨x, hx, h1, h2⟩)
          · exact Or.inl h
          · rcases List.mem_cons.1 hx with rfl | hx
            · rw [hu] at h2; cases h2
            · exact Or.inr ⟨x, hx, h1, h2⟩
      | true =>
        simp only [if_true]
        have e1 : ((y.1 : Nat) : Int) = litI y.1 true := rfl
        have e2 : -((y.1 : Nat) : Int) = litI y.1 false := rfl
        rw [e2, L_with _ _ _ hy.1 hy.2, e1, L_with _ _ _ hy.1 hy.2]
        constructor
        · rintro (h | ⟨x, hx, h1, h2⟩)
          · simp only [Bool.or_eq_true, Bool.and_eq_true, decide_eq_true_eq] at h
            rcases h with (h | h) | h
            · exact Or.inl h
            · exact Or.inr ⟨y, by simp, h.2.symm, hu⟩
            · exact Or.inr ⟨y, by simp, h.2.symm, hu⟩
          · exact Or.inr ⟨x, by simp [hx], h1, h2⟩
        · rintro (h | ⟨x, hx, h1, h2⟩)
          · exact Or.inl (by rw [h]; rfl)
          · rcases List.mem_cons.1 hx with rfl | hx
            · left
              subst h1
              cases s <;> simp
            · exact Or.inr ⟨x, hx, h1, h2⟩
  intro s v
  rw [key q.vars (0, 0) hq.qb.names s v, L_zero]
  simp
/-- What is told of a formula. -/
structure Told (F : Form) (q : QS) (budget room : Nat) (r : SS × (Nat × Nat)) : Prop where
  kind : r.2.1 = 0 ∨ r.2.1 = 1 ∨ r.2.1 = 2
  unknown : r.2.1 = 0 → 0 < budget ∧ r.1.nodes = budget
  one : 1 ≤ r.1.nodes
  most : r.1.nodes + 1 ≤ 2 ^ (q.vars.length + 1)
  upto : 0 < budget → r.1.nodes ≤ budget
  lemmas : r.1.most ≤ room
  inv : SInv (beginC q budget room) r.1
  size : sizeS r.1 ≤ 24 + 12 * r.1.nodes
  proof : r.2.1 ≠ 0 → 1 ≤ r.2.2 ∧ r.2.2 ≤ (r.1.proof r.2.1).length ∧ provesR F (textP (r.2.1 == 2) (shortOf (r.1.proof r.2.1) r.2.2)) = .inr (r.2.1 == 2, twos (shortOf (r.1.proof r.2.1) r.2.2)) ∧ twos (shortOf (r.1.proof r.2.1) r.2.2) ≤ twos (r.1.proof r.2.1)
theorem solve_ok {F : Form} {q : QS} (hq : QGood q) (hF : FQ F q) (hO : FOk F) (budget room : Nat) : Told F q budget room (solveM q budget room) := by
  have hl := look_ok (C := beginC q budget room) hq (uni_ok hq) q.vars.length 0 (0, 0) (beginS q) (begin_inv hq budget room) (path_zero q) (by simp; rfl)
  unfold solveM
  generalize lookM (beginC q budget room) q.vars.length (0, 0) 0 (beginS q) = r at *
  have h0 : (beginS q).nodes = 0 := rfl
  have hsz : sizeS (beginS q) ≤ 24 := by
    show (axioms q.cl).length + 0 ≤ 24
    rw [axioms_len]
    have := hq.qb.cl
    omega
  have hvl := hq.qb.vl
  have hone : 1 ≤ r.1.nodes := by
    have := hl.some (by rintro ⟨h1, h2⟩; rw [h0] at h2; have : (beginC q budget room).budget = budget := rfl; omega)
    rw [h0] at this; omega
  have hmost := hl.most
  rw [h0] at hmost
  have hsize := hl.size
  rw [h0] at hsize
  have hp512 : 2 ^ (q.vars.length + 1) ≤ 512 := by
    have : 2 ^ (q.vars.length + 1) ≤ 2 ^ 9 := Nat.pow_le_pow_right (by decide) (by omega)
    simpa using this
  have hkind : r.2.1 = 0 ∨ r.2.1 = 1 ∨ r.2.1 = 2 := by
    by_cases h : r.2.1 = 0
    · exact Or.inl h
    · exact Or.inr (hl.fact h).inn.kind
  refine ⟨hkind, fun h => ?_, hone, by omega, fun h => hl.budget h (by rw [h0]; omega), hl.inv.most, hl.inv, by omega, fun h => ?_⟩
  · have h1 := hl.unknown h
    have h2 := hl.budget h1.1 (by rw [h0]; exact Nat.zero_le _)
    exact ⟨h1.1, Nat.le_antisymm h2 h1.2⟩
  · have hf := hl.fact h
    have hlits : r.1.lits r.2 = (0, 0) := by
      apply L_ext
      intro s v
      rw [L_zero]
      cases hh : L (r.1.lits r.2) s v with
      | false => rfl
      | true => have := hf.on s v hh; rw [L_zero] at this; cases this
    have hk : r.2.1 = kd (r.2.1 == 2) := by
      rcases hf.inn.kind with e | e <;> rw [e] <;> rfl
    have hpok : POk q (kd (r.2.1 == 2)) (r.1.proof r.2.1) := by
      have := hl.inv.pok hf.inn.kind
      rw [← hk]; exact this
    obtain ⟨s1, s2, s3, s4, s, s5, s6⟩ := short_ok hpok hf.inn.lo hf.inn.hi hf.inn.free
    have hplen : (r.1.proof r.2.1).length ≤ 9000 := by
      have : (r.1.proof r.2.1).length ≤ sizeS r.1 := by
        unfold SS.proof sizeS
        split <;> omega
      omega
    refine ⟨hf.inn.lo, hf.inn.hi, proves_text hq hF hO s1 s2 (by omega) ⟨s, s5, s6.trans hlits⟩, s4⟩
end Go.Proofs.YtgipjjhkhfihpaaGreatDoor

namespace Go.Proofs.YtgipjjhkhfihpaaGreatDoor
open Go.RowKit

/-! ### begin -/
def BeginPost (q : QS) (vV vC : Value) (budget room : Nat) (w : World) (e : Ending) (w' : World) : Prop :=
  ∃ b V, e = .returned (.agg (sCells (beginC q budget room) (beginS q) V)) ∧ SAt w' b (beginC q budget room) (beginS q) V ∧ V.v = vV ∧ V.c = vC ∧ (∀ k, V.r.ownBlock = some k → w.heap.size ≤ k) ∧ (∀ k, V.a.ownBlock = some k → w.heap.size ≤ k) ∧ (∀ k, V.k.ownBlock = some k → w.heap.size ≤ k) ∧ Below w.heap.size w w'
theorem Moved.fresh {w : World} {v v' : Value} (h : Moved w v v') (hv : v = .slice none 0 0) {k n : Nat} (hk : v'.ownBlock = some k) (hn : n ≤ w.heap.size) : n ≤ k := by
  rcases h with h | ⟨j, h, hj⟩
  · rw [h, hv] at hk; cases hk
  · rw [h] at hk; injection hk with hk; omega
theorem Only.under {T : Nat → Prop} {n : Nat} {w w0 w' : World} (ho : Only T w0 w') (hb : Below n w w0) (hn : n ≤ w.heap.size) (hT : ∀ k, T k → n ≤ k) : Below n w w' :=
  ⟨ho.os.trans hb.os, ho.tape.trans hb.tape, ho.output.trans hb.output, Nat.le_trans hb.size ho.size, fun i hi => (ho.block i (by have := hb.size; omega) (fun h => by have := hT i h; omega)).trans (hb.block i hi)⟩
theorem only_setRow (w : World) (g : Nat) (cs : Array Value) : Only (· = g) w (w.setRow g cs) := ⟨rfl, rfl, rfl, by simp, fun _ _ hne => setRow_other _ _ _ _ hne⟩
theorem SAt.setUni {w : World} {b : Nat} {C : SC} {S : SS} {V : SV} (h : SAt w b C S V) (u : Nat × Nat) : SAt ((w.setCell ⟨b, 2, none⟩ (.int .i64 (u.1 : Int))).setCell ⟨b, 3, none⟩ (.int .i64 (u.2 : Int))) b { C with uni := u } S V := by
  have h1 := blk_set h.fb 2 (.int .i64 (u.1 : Int))
  have ho : Only (fun j => j = b) w ((w.setCell ⟨b, 2, none⟩ (.int .i64 (u.1 : Int))).setCell ⟨b, 3, none⟩ (.int .i64 (u.2 : Int))) := ((Only.refl (fun j => j = b) w).setCell (p := ⟨b, 2, none⟩) (Or.inl rfl) _).setCell (p := ⟨b, 3, none⟩) (Or.inl rfl) _
  refine ⟨blk_set h1 3 _, own_keep h.oV ho ?_, own_keep h.oC ho ?_, own_keep h.oR ho ?_, own_keep h.oA ho ?_, h.oK.keep ho ?_, h.ap⟩
  · intro k hk e; subst e; exact own_type_ne h.oV h.fb (by decide) hk
  · intro k hk e; subst e; exact own_type_ne h.oC h.fb (by decide) hk
  · intro k hk e; subst e; exact own_type_ne h.oR h.fb (by decide) hk
  · intro k hk e; subst e; exact own_type_ne h.oA h.fb (by decide) hk
  · intro k hk e; subst e; obtain ⟨c, hc⟩ := h.oK.blk k hk; exact absurd (blk_type hc h.fb) (by decide)
theorem axioms_take (cl : List (Nat × Nat)) (k : Nat) (h : k < cl.length) : (axioms cl).take (k + 1) = (axioms cl).take k ++ [⟨1, k + 1, 0, 0, cl[k]⟩] := by
  have hl : k < (axioms cl).length := by rw [axioms_len]; exact h
  rw [List.take_succ_eq_append_getElem hl, axioms_at cl k h]
def uniSt (u : Nat × Nat) (v : Nat × Bool) : Nat × Nat := if v.2 then withLit (withLit u v.1) (-(v.1 : Int)) else u
theorem uniTo_take (vs : List (Nat × Bool)) (k : Nat) (h : k < vs.length) : uniTo (vs.take (k + 1)) (0, 0) = uniSt (uniTo (vs.take k) (0, 0)) vs[k] := by
  unfold uniTo uniSt
  rw [List.take_succ_eq_append_getElem h, List.foldl_append]; rfl
set_option maxRecDepth 100000 in
set_option maxHeartbeats 6400000 in
theorem begin_any (q : QS) (aV aC : Option Addr) (cV cC budget room : Nat) (w : World) (hoV : w.ownsRow 0 139 2 (.slice aV q.vars.length cV) q.vars.length (varCells q.vars)) (hoC : w.ownsRow 0 74 2 (.slice aC q.cl.length cC) q.cl.length (pairs q.cl)) (hq : QB q) (_hbu : budget ≤ 1048576) (_hro : room ≤ 64) :
    Calls Tryz.prog 61 #[.agg #[.slice aV q.vars.length cV, .slice aC q.cl.length cC], .int .i64 (budget : Int), .int .i64 (room : Int)] w fun e w' => BeginPost q (.slice aV q.vars.length cV) (.slice aC q.cl.length cC) budget room w e w' := by
  have hvl := hq.vl
  have hcl := hq.cl
  have HAL := hide (axioms_len q.cl)
  go_enter Tryz.func61, Tryz.ntmps61
  go_wp2_with fail
  generalize hw0 : (((w.alloc (.cells #[.slice aV q.vars.length cV, .slice aC q.cl.length cC] 60)).alloc (.cells #[.slice none 0 0, .slice none 0 0, .int .i64 0, .int .i64 0, .int .i64 0, .int .i64 0, .int .i64 0, .slice none 0 0, .int .i64 0, .slice none 0 0, .int .i64 0, .slice none 0 0, .int .i64 0] 126)).alloc (.cells #[.slice aV q.vars.length cV, .slice aC q.cl.length cC, .int .i64 0, .int .i64 0, .int .i64 (budget : Int), .int .i64 0, .int .i64 1, .slice none 0 0, .int .i64 2, .slice none 0 0, .int .i64 (room : Int), .slice none 0 0, .int .i64 0] 126)) = u1
  have hB : Below w.heap.size w u1 := by rw [← hw0]; exact (((Below.refl _ _).alloc (Nat.le_refl _) _).alloc (by simp; try omega) _).alloc (by simp; try omega) _
  have hfo : u1.heap[w.heap.size]? = some (.cells #[.slice aV q.vars.length cV, .slice aC q.cl.length cC] 60 (0, 0)) := by rw [← hw0, heap_alloc_old _ _ (by simp; try omega), heap_alloc_old _ _ (by simp; try omega)]; exact alloc_new_at (by simp)
  have hrs : u1.heap[w.heap.size + 1]? = some (.cells #[.slice none 0 0, .slice none 0 0, .int .i64 0, .int .i64 0, .int .i64 0, .int .i64 0, .int .i64 0, .slice none 0 0, .int .i64 0, .slice none 0 0, .int .i64 0, .slice none 0 0, .int .i64 0] 126 (0, 0)) := by rw [← hw0, heap_alloc_old _ _ (by simp; try omega)]; exact alloc_new_at (by simp)
  have hss : u1.heap[w.heap.size + 2]? = some (.cells #[.slice aV q.vars.length cV, .slice aC q.cl.length cC, .int .i64 0, .int .i64 0, .int .i64 (budget : Int), .int .i64 0, .int .i64 1, .slice none 0 0, .int .i64 2, .slice none 0 0, .int .i64 (room : Int), .slice none 0 0, .int .i64 0] 126 (0, 0)) := by rw [← hw0]; exact alloc_new_at (by simp)
  clear hw0
  have cfo0 : u1.cell? ⟨w.heap.size, 0, none⟩ = some (.slice aV q.vars.length cV) := by rw [blk_cell hfo]; rfl
  have cfo1 : u1.cell? ⟨w.heap.size, 1, none⟩ = some (.slice aC q.cl.length cC) := by rw [blk_cell hfo]; rfl
  have lfo := blk_lt hfo
  have crs0 : u1.cell? ⟨w.heap.size + 1, 0, none⟩ = some (.slice none 0 0) := by rw [blk_cell hrs]; rfl
  have crs1 : u1.cell? ⟨w.heap.size + 1, 1, none⟩ = some (.slice none 0 0) := by rw [blk_cell hrs]; rfl
  have crs2 : u1.cell? ⟨w.heap.size + 1, 2, none⟩ = some (.int .i64 0) := by rw [blk_cell hrs]; rfl
  have crs3 : u1.cell? ⟨w.heap.size + 1, 3, none⟩ = some (.int .i64 0) := by rw [blk_cell hrs]; rfl
  have crs4 : u1.cell? ⟨w.heap.size + 1, 4, none⟩ = some (.int .i64 0) := by rw [blk_cell hrs]; rfl
  have crs5 : u1.cell? ⟨w.heap.size + 1, 5, none⟩ = some (.int .i64 0) := by rw [blk_cell hrs]; rfl
  have crs6 : u1.cell? ⟨w.heap.size + 1, 6, none⟩ = some (.int .i64 0) := by rw [blk_cell hrs]; rfl
  have crs7 : u1.cell? ⟨w.heap.size + 1, 7, none⟩ = some (.slice none 0 0) := by rw [blk_cell hrs]; rfl
  have crs8 : u1.cell? ⟨w.heap.size + 1, 8, none⟩ = some (.int .i64 0) := by rw [blk_cell hrs]; rfl
  have crs9 : u1.cell? ⟨w.heap.size + 1, 9, none⟩ = some (.slice none 0 0) := by rw [blk_cell hrs]; rfl
  have crs10 : u1.cell? ⟨w.heap.size + 1, 10, none⟩ = some (.int .i64 0) := by rw [blk_cell hrs]; rfl
  have crs11 : u1.cell? ⟨w.heap.size + 1, 11, none⟩ = some (.slice none 0 0) := by rw [blk_cell hrs]; rfl
  have crs12 : u1.cell? ⟨w.heap.size + 1, 12, none⟩ = some (.int .i64 0) := by rw [blk_cell hrs]; rfl
  have lrs := blk_lt hrs
  have css0 : u1.cell? ⟨w.heap.size + 2, 0, none⟩ = some (.slice aV q.vars.length cV) := by rw [blk_cell hss]; rfl
  have css1 : u1.cell? ⟨w.heap.size + 2, 1, none⟩ = some (.slice aC q.cl.length cC) := by rw [blk_cell hss]; rfl
  have css2 : u1.cell? ⟨w.heap.size + 2, 2, none⟩ = some (.int .i64 0) := by rw [blk_cell hss]; rfl
  have css3 : u1.cell? ⟨w.heap.size + 2, 3, none⟩ = some (.int .i64 0) := by rw [blk_cell hss]; rfl
  have css4 : u1.cell? ⟨w.heap.size + 2, 4, none⟩ = some (.int .i64 (budget : Int)) := by rw [blk_cell hss]; rfl
  have css5 : u1.cell? ⟨w.heap.size + 2, 5, none⟩ = some (.int .i64 0) := by rw [blk_cell hss]; rfl
  have css6 : u1.cell? ⟨w.heap.size + 2, 6, none⟩ = some (.int .i64 1) := by rw [blk_cell hss]; rfl
  have css7 : u1.cell? ⟨w.heap.size + 2, 7, none⟩ = some (.slice none 0 0) := by rw [blk_cell hss]; rfl
  have css8 : u1.cell? ⟨w.heap.size + 2, 8, none⟩ = some (.int .i64 2) := by rw [blk_cell hss]; rfl
  have css9 : u1.cell? ⟨w.heap.size + 2, 9, none⟩ = some (.slice none 0 0) := by rw [blk_cell hss]; rfl
  have css10 : u1.cell? ⟨w.heap.size + 2, 10, none⟩ = some (.int .i64 (room : Int)) := by rw [blk_cell hss]; rfl
  have css11 : u1.cell? ⟨w.heap.size + 2, 11, none⟩ = some (.slice none 0 0) := by rw [blk_cell hss]; rfl
  have css12 : u1.cell? ⟨w.heap.size + 2, 12, none⟩ = some (.int .i64 0) := by rw [blk_cell hss]; rfl
  have lss := blk_lt hss
  have hS : SAt u1 (w.heap.size + 2) ⟨q, (0, 0), budget, room⟩ ⟨0, [], [], [], 0⟩ ⟨.slice aV q.vars.length cV, .slice aC q.cl.length cC, .slice none 0 0, .slice none 0 0, .slice none 0 0⟩ :=
    ⟨hss, own_below hoV hB, own_below hoC hB, World.ownsRow_nil _ _ _ _, World.ownsRow_nil _ _ _ _, ⟨rfl, Or.inl ⟨rfl, none, rfl, fun k hk => (by cases hk)⟩⟩, fun k hk => (by cases hk)⟩
  have nfo : Far (w.heap.size + 2) ⟨.slice aV q.vars.length cV, .slice aC q.cl.length cC, .slice none 0 0, .slice none 0 0, .slice none 0 0⟩ w.heap.size := ⟨by omega, fun e => (by have := (hoV.lt _ e).2; omega), fun e => (by have := (hoC.lt _ e).2; omega), fun e => (by cases e), fun e => (by cases e), fun e => (by cases e)⟩
  have nrs : Far (w.heap.size + 2) ⟨.slice aV q.vars.length cV, .slice aC q.cl.length cC, .slice none 0 0, .slice none 0 0, .slice none 0 0⟩ (w.heap.size + 1) := ⟨by omega, fun e => (by have := (hoV.lt _ e).2; omega), fun e => (by have := (hoC.lt _ e).2; omega), fun e => (by cases e), fun e => (by cases e), fun e => (by cases e)⟩
  obtain ⟨V0, hV0⟩ : ∃ X : SV, X = ⟨.slice aV q.vars.length cV, .slice aC q.cl.length cC, .slice none 0 0, .slice none 0 0, .slice none 0 0⟩ := ⟨_, rfl⟩
  rw [← hV0] at hS nfo nrs
  have v1 : V0.v = .slice aV q.vars.length cV := by rw [hV0]
  have v2 : V0.c = .slice aC q.cl.length cC := by rw [hV0]
  have v3 : V0.r = .slice none 0 0 := by rw [hV0]
  have v4 : V0.a = .slice none 0 0 := by rw [hV0]
  have v5 : V0.k = .slice none 0 0 := by rw [hV0]
  have HV := hide (And.intro v1 (And.intro v2 (And.intro v3 (And.intro v4 v5))))
  clear v1 v2 v3 v4 v5 hV0
  go_loopg [25] (q.cl.length) (fun m i wx => ∃ (k : Nat) (V : SV), i = .int .i64 k ∧ k + m = q.cl.length ∧ SAt wx (w.heap.size + 2) ⟨q, (0, 0), budget, room⟩ ⟨0, (axioms q.cl).take k, [], [], 0⟩ V ∧ SMoved (w.heap.size + 2) u1 wx V0 V)
  case atStart => exact ⟨0, V0, rfl, by omega, hS, SMoved.of_below (Below.refl _ _)⟩
  case round =>
    obtain ⟨k, V, rfl, hkm, hSr, hMr⟩ := hrel
    have hfor := hMr.blk hfo nfo
    have lfor := blk_lt hfor
    have lbr := blk_lt hSr.fb
    have lrr := blk_lt (hMr.blk hrs nrs)
    by_cases hlt : k < q.cl.length
    · have hd3 : decide ((k : Int) < (q.cl.length : Int)) = true := decide_eq_true (by omega)
      have hd4 : decide (k < q.cl.length) = true := decide_eq_true hlt
      have hoCr := hSr.oC
      rw [hMr.c, (unhide HV).2.1] at hoCr
      obtain ⟨g, cap, hVe, _, hg', _, hcell⟩ := own_pos hoCr (show 0 < q.cl.length by omega)
      injection hVe with hVe _ hV2
      subst hVe hV2
      obtain ⟨e0, e1⟩ := pairs_at q.cl k hlt
      have hx0 := hcell _ _ e0
      have hx1 := hcell _ _ e1
      clear hcell e0 e1
      have HAX := hide (axioms_take q.cl k hlt)
      have hlk : ((axioms q.cl).take k).length = k := by rw [List.length_take, unhide HAL]; omega
      have HLK := hide hlk
      clear hlk
      generalize q.cl[k] = cl at *
      obtain ⟨l1, l2⟩ := cl
      dsimp only at hx0 hx1 HAX
      go_wp2_with fail
      have hA : Below wr.heap.size wr (wr.alloc (.cells #[.int .i64 (l1 : Int), .int .i64 (l2 : Int)] 74)) := (Below.refl _ _).alloc (Nat.le_refl _) _
      have hSd := hSr.later hA
      refine (add_any 0 (w.heap.size + 2) 6 ((axioms q.cl).take k) V.r ⟨1, k + 1, 0, 0, (l1, l2)⟩ (sCells ⟨q, (0, 0), budget, room⟩ ⟨0, (axioms q.cl).take k, [], [], 0⟩ V) 126 _ hSd.fb rfl (by decide) hSd.oR (by rw [unhide HLK]; omega) (Nat.zero_le _)).mono ?_
      rintro e w5 ⟨v5, rfl, ho5, hf5, hn5, hm5⟩
      obtain ⟨V2, hS2, hM2⟩ := hSd.put (kind := 1) (Or.inl rfl) (p := (axioms q.cl).take k ++ [⟨1, k + 1, 0, 0, (l1, l2)⟩]) ⟨v5, (by rw [List.length_append]; exact ho5), hf5, hn5, hm5⟩
      clear ho5 hf5 hn5 hm5
      go_wp2_with fail
      go_roundg (gk - 1)
      case measure => omega
      case rel => exact ⟨k + 1, V2, by go_num, by omega, by rw [unhide HAX]; exact hS2, (hMr.trans (SMoved.of_below hA)).trans hM2⟩
    · have hd3 : decide ((k : Int) < (q.cl.length : Int)) = false := decide_eq_false (by omega)
      have hd4 : decide (k < q.cl.length) = false := decide_eq_false hlt
      have HFU : Hid ((axioms q.cl).take k = axioms q.cl) := hide (List.take_of_length_le (by rw [unhide HAL]; omega))
      have HSF : SAt wr (w.heap.size + 2) ⟨q, (0, 0), budget, room⟩ ⟨0, axioms q.cl, [], [], 0⟩ V := by rw [← unhide HFU]; exact hSr
      have cf0 : wr.cell? ⟨w.heap.size, 0, none⟩ = some (.slice aV q.vars.length cV) := by rw [blk_cell hfor]; rfl
      clear hSr HFU
      go_wp2_with fail
      obtain ⟨wo, rfl⟩ : ∃ wo, wo = wr := ⟨_, rfl⟩
      clear cf0 lfor lbr lrr hd3 hd4 hkm hlt
      go_loopg [40] (q.vars.length) (fun m i wx => ∃ (k : Nat) (V : SV) (u : Nat × Nat), i = .int .i64 k ∧ k + m = q.vars.length ∧ u = uniTo (q.vars.take k) (0, 0) ∧ u.1 < 512 ∧ u.2 < 512 ∧ SAt wx (w.heap.size + 2) ⟨q, u, budget, room⟩ ⟨0, axioms q.cl, [], [], 0⟩ V ∧ SMoved (w.heap.size + 2) u1 wx V0 V)
      case atStart => exact ⟨0, V, (0, 0), rfl, by omega, rfl, by decide, by decide, HSF, hMr⟩
      case round =>
        clear hMr HSF hfor
        obtain ⟨k, V, un, rfl, hkm, hun, hu1, hu2, hSr, hMr⟩ := hrel
        have HUN := hide hun
        clear hun
        obtain ⟨x1, x2⟩ := un
        dsimp only at hu1 hu2
        have lbr := blk_lt hSr.fb
        by_cases hlt : k < q.vars.length
        · have hd3 : decide ((k : Int) < (q.vars.length : Int)) = true := decide_eq_true (by omega)
          have hd4 : decide (k < q.vars.length) = true := decide_eq_true hlt
          have hoVr := hSr.oV
          rw [hMr.v, (unhide HV).1] at hoVr
          obtain ⟨g, cap, hVe, _, hg', _, hcell⟩ := own_pos hoVr (show 0 < q.vars.length by omega)
          injection hVe with hVe _ hV2
          subst hVe hV2
          obtain ⟨e0, e1⟩ := varCells_at q.vars k hlt
          have hx0 := hcell _ _ e0
          have hx1 := hcell _ _ e1
          clear hcell e0 e1
          have HUT := hide (uniTo_take q.vars k hlt)
          have hnm := hq.names _ (List.getElem_mem hlt)
          generalize q.vars[k] = vr at *
          obtain ⟨vn, vu⟩ := vr
          dsimp only at hx0 hx1 HUT hnm
          cases vu with
          | false =>
            have hA : Below wr.heap.size wr (wr.alloc (.cells #[.int .i64 (vn : Int), .bool false] 139)) := (Below.refl _ _).alloc (Nat.le_refl _) _
            have HU2 : Hid ((x1, x2) = uniTo (q.vars.take (k + 1)) (0, 0)) := hide (by rw [unhide HUT, ← unhide HUN]; rfl)
            go_wp2_with fail
            go_roundg (gk - 1)
            case measure => omega
            case rel => exact ⟨k + 1, V, (x1, x2), by go_num, by omega, unhide HU2, hu1, hu2, hSr.later hA, hMr.trans (SMoved.of_below hA)⟩
          | true =>
            have HU2 : Hid (withLit (withLit (x1, x2) vn) (-(vn : Int)) = uniTo (q.vars.take (k + 1)) (0, 0)) := hide (by rw [unhide HUT, ← unhide HUN]; rfl)
            have hA : Below wr.heap.size wr (wr.alloc (.cells #[.int .i64 (vn : Int), .bool true] 139)) := (Below.refl _ _).alloc (Nat.le_refl _) _
            have hva := heap_alloc_new wr (.cells #[.int .i64 (vn : Int), .bool true] 139)
            replace hMr := hMr.trans (SMoved.of_below hA)
            replace hSr := hSr.later hA
            have d2 : (wr.alloc (.cells #[.int .i64 (vn : Int), .bool true] 139)).cell? ⟨w.heap.size + 1 + 1, 2, none⟩ = some (.int .i64 (x1 : Int)) := by rw [blk_cell hSr.fb]; rfl
            have d3 : (wr.alloc (.cells #[.int .i64 (vn : Int), .bool true] 139)).cell? ⟨w.heap.size + 1 + 1, 3, none⟩ = some (.int .i64 (x2 : Int)) := by rw [blk_cell hSr.fb]; rfl
            have lb2 : w.heap.size + 1 + 1 < wr.heap.size + 1 := by omega
            go_wp2_with fail
            generalize (wr.alloc (.cells #[.int .i64 (vn : Int), .bool true] 139)) = u5 at *
            refine (with_any x1 x2 (vn : Int) _ hu1 hu2 (by omega) (by omega)).mono ?_
            rintro e u6 ⟨rfl, b6⟩
            replace hMr := hMr.trans (SMoved.of_below b6)
            replace hSr := hSr.later b6
            replace hva := (b6.block _ (blk_lt hva)).trans hva
            have hw9 : (withLit (x1, x2) vn).1 < 512 ∧ (withLit (x1, x2) vn).2 < 512 := withLit_lt (x1, x2) vn hu1 hu2
            generalize withLit (x1, x2) (vn : Int) = y at *
            obtain ⟨y1, y2⟩ := y
            dsimp only at hw9 ⊢
            have hA7 : Below u6.heap.size u6 (u6.alloc (.cells #[.int .i64 (y1 : Int), .int .i64 (y2 : Int)] 74)) := (Below.refl _ _).alloc (Nat.le_refl _) _
            have hbo := heap_alloc_new u6 (.cells #[.int .i64 (y1 : Int), .int .i64 (y2 : Int)] 74)
            have hva7 := (hA7.block _ (blk_lt hva)).trans hva
            have lva7 := blk_lt hva7
            have v7 : (u6.alloc (.cells #[.int .i64 (y1 : Int), .int .i64 (y2 : Int)] 74)).cell? ⟨wr.heap.size, 0, none⟩ = some (.int .i64 (vn : Int)) := by rw [blk_cell hva7]; rfl
            go_wp2_with fail
            refine (with_any y1 y2 (-(vn : Int)) _ hw9.1 hw9.2 (by omega) (by omega)).mono ?_
            rintro e u8 ⟨rfl, b8⟩
            have hb78 : Below u6.heap.size u6 u8 := hA7.trans (b8.mono hA7.size)
            replace hMr := hMr.trans (SMoved.of_below hb78)
            replace hSr := hSr.later hb78
            have hw8 : (withLit (y1, y2) (-(vn : Int))).1 < 512 ∧ (withLit (y1, y2) (-(vn : Int))).2 < 512 := withLit_lt (y1, y2) (-(vn : Int)) hw9.1 hw9.2
            generalize withLit (y1, y2) (-(vn : Int)) = zz at *
            obtain ⟨z1, z2⟩ := zz
            dsimp only at hw8 ⊢
            have f2 := blk_free hSr.fb 2
            have f3 := blk_free hSr.fb 3
            have d22 : u8.cell? ⟨w.heap.size + 1 + 1, 2, none⟩ = some (.int .i64 (x1 : Int)) := by rw [blk_cell hSr.fb]; rfl
            have d33 : u8.cell? ⟨w.heap.size + 1 + 1, 3, none⟩ = some (.int .i64 (x2 : Int)) := by rw [blk_cell hSr.fb]; rfl
            have lb8 : w.heap.size + 1 + 1 < u8.heap.size := blk_lt hSr.fb
            go_wp2_with fail
            go_roundg (gk - 1)
            case measure => omega
            case rel => exact ⟨k + 1, V, (z1, z2), by go_num, by omega, unhide HU2, hw8.1, hw8.2, hSr.setUni (z1, z2), (hMr.setB 2 _).setB 3 _⟩
        · have hd3 : decide ((k : Int) < (q.vars.length : Int)) = false := decide_eq_false (by omega)
          have hd4 : decide (k < q.vars.length) = false := decide_eq_false hlt
          have HFU : Hid (uniTo q.vars (0, 0) = (x1, x2)) := hide (by rw [unhide HUN, List.take_of_length_le (show q.vars.length ≤ k by omega)])
          have hrr := hMr.blk hrs nrs
          have lrr := blk_lt hrr
          obtain ⟨aR, cR, hVR⟩ := own_form hSr.oR
          obtain ⟨aA, cA, hVA⟩ := own_form hSr.oA
          obtain ⟨aK, cK, hVK⟩ := hSr.oK.form
          have hVv := hMr.v.trans (unhide HV).1
          have hVc := hMr.c.trans (unhide HV).2.1
          have HCS : Hid (sCells ⟨q, (x1, x2), budget, room⟩ ⟨0, axioms q.cl, [], [], 0⟩ V = #[.slice aV q.vars.length cV, .slice aC q.cl.length cC, .int .i64 (x1 : Int), .int .i64 (x2 : Int), .int .i64 (budget : Int), .int .i64 0, .int .i64 1, .slice aR (axioms q.cl).length cR, .int .i64 2, .slice aA 0 cA, .int .i64 (room : Int), .slice aK 0 cK, .int .i64 0]) := hide (by simp only [sCells, hVv, hVc, hVR, hVA, hVK]; rfl)
          have hfb2 : wr.heap[w.heap.size + 2]? = some (.cells #[.slice aV q.vars.length cV, .slice aC q.cl.length cC, .int .i64 (x1 : Int), .int .i64 (x2 : Int), .int .i64 (budget : Int), .int .i64 0, .int .i64 1, .slice aR (axioms q.cl).length cR, .int .i64 2, .slice aA 0 cA, .int .i64 (room : Int), .slice aK 0 cK, .int .i64 0] 126 (0, 0)) := by rw [← unhide HCS]; exact hSr.fb
          have HRW := hide (setRow_heap wr (w.heap.size + 1) _ #[.slice aV q.vars.length cV, .slice aC q.cl.length cC, .int .i64 (x1 : Int), .int .i64 (x2 : Int), .int .i64 (budget : Int), .int .i64 0, .int .i64 1, .slice aR (axioms q.cl).length cR, .int .i64 2, .slice aA 0 cA, .int .i64 (room : Int), .slice aK 0 cK, .int .i64 0] _ _ hrr)
          have HRO := hide (only_setRow wr (w.heap.size + 1) #[.slice aV q.vars.length cV, .slice aC q.cl.length cC, .int .i64 (x1 : Int), .int .i64 (x2 : Int), .int .i64 (budget : Int), .int .i64 0, .int .i64 1, .slice aR (axioms q.cl).length cR, .int .i64 2, .slice aA 0 cA, .int .i64 (room : Int), .slice aK 0 cK, .int .i64 0])
          go_wp2_with (first | (refine wpList_load_row rfl 126 _ rfl (w.heap.size + 2) rfl 126 _ (0, 0) _ hfb2 Tryz.underlying126 rfl (by kernel_rfl) ?_) | (refine wpList_store_row rfl 126 _ _ rfl (w.heap.size + 1) _ rfl rfl 126 _ hrr (by kernel_rfl) rfl (by simp [Value.oneCell']) ?_))
          refine bodyPost_ret (v := .agg #[.slice aV q.vars.length cV, .slice aC q.cl.length cC, .int .i64 (x1 : Int), .int .i64 (x2 : Int), .int .i64 (budget : Int), .int .i64 0, .int .i64 1, .slice aR (axioms q.cl).length cR, .int .i64 2, .slice aA 0 cA, .int .i64 (room : Int), .slice aK 0 cK, .int .i64 0]) (results_cell_row rfl _ _ (w.heap.size + 1) 126 _ (0, 0) _ rfl (unhide HRW) Tryz.underlying126 rfl (by kernel_rfl)) rfl ?_
          have hlu : w.heap.size ≤ u1.heap.size := hB.size
          have hbel := hMr.only.under hB (Nat.le_refl _) (fun k hk => by
            rcases hk with hk | hk | hk | hk
            · omega
            · rw [(unhide HV).2.2.1] at hk; cases hk
            · rw [(unhide HV).2.2.2.1] at hk; cases hk
            · rw [(unhide HV).2.2.2.2] at hk; cases hk)
          refine ⟨w.heap.size + 2, V, ?_, ?_, hVv, hVc, fun k hk => hMr.r.fresh (unhide HV).2.2.1 hk hlu, fun k hk => hMr.a.fresh (unhide HV).2.2.2.1 hk hlu, fun k hk => hMr.k.fresh (unhide HV).2.2.2.2 hk hlu, below_setRow hbel (Nat.le_succ _) _⟩
          · show _ = Ending.returned (.agg (sCells ⟨q, uniTo q.vars (0, 0), budget, room⟩ ⟨0, axioms q.cl, [], [], 0⟩ V))
            rw [unhide HFU, unhide HCS]
          · show SAt _ _ ⟨q, uniTo q.vars (0, 0), budget, room⟩ ⟨0, axioms q.cl, [], [], 0⟩ V
            rw [unhide HFU]
            exact hSr.only (unhide HRO) (hMr.far lrs nrs)
end Go.Proofs.YtgipjjhkhfihpaaGreatDoor

namespace Go.Proofs.YtgipjjhkhfihpaaGreatDoor
open Go.RowKit

/-! ### needed -/
def boolCells (l : List Bool) : List Value := l.map Value.bool
theorem boolCells_set (l : List Bool) (i : Nat) (b : Bool) : (boolCells l).toArray.setIfInBounds i (.bool b) = (boolCells (l.set i b)).toArray := by
  simp [boolCells]
theorem boolCells_at (l : List Bool) (i : Nat) (h : i < l.length) : (boolCells l).toArray[i]? = some (.bool (l.getD i false)) := by
  simp [boolCells, List.getElem?_eq_getElem h]
theorem made_one (z : Value) (n : Nat) : madeCells #[z] n = (List.replicate n z).toArray := by
  apply Array.ext
  · simp [madeCells]
  · intro i h1 h2
    simp [madeCells, Nat.mod_one]
def NeededPost (p : List Stp) (last : Nat) (w : World) (e : Ending) (w' : World) : Prop := ∃ g, e = .returned (.slice (some ⟨g, 0, none⟩) (p.length + 1) (p.length + 1)) ∧ w.heap.size ≤ g ∧ w'.heap[g]? = some (.cells (boolCells (needs p last)).toArray 4 (0, 0)) ∧ Below w.heap.size w w'
theorem markStep_len (p : List Stp) (last i : Nat) (m : List Bool) : (markStep p last i m).length = m.length := by
  unfold markStep markOne
  dsimp only
  split <;> split <;> split <;> simp
theorem markStep_as (p : List Stp) (last i : Nat) (mk M : List Bool) (st : Stp) (hM : (if i + 1 = last then mk.set (i + 1) true else mk) = M) (hi : i < p.length) (hst : p[i] = st) :
    markStep p last (i + 1) mk = if M.getD (i + 1) false = true ∧ st.rule ≠ 1 then markOne true (i + 1) st.second (markOne true (i + 1) st.first M) else M := by
  have hg : p.getD (i + 1 - 1) ⟨0, 0, 0, 0, (0, 0)⟩ = st := by
    rw [Nat.add_sub_cancel, List.getD_eq_getElem?_getD, List.getElem?_eq_getElem hi]; exact hst
  unfold markStep
  dsimp only
  rw [hM, hg]
  by_cases h1 : M.getD (i + 1) false = true
  · by_cases h2 : st.rule ≠ 1
    · rw [if_pos ⟨h1, h2⟩, h1, decide_eq_true h2]; rfl
    · rw [if_neg (fun h => h2 h.2), decide_eq_false h2, Bool.and_false]
      unfold markOne
      rw [if_neg (fun h => by cases h.1), if_neg (fun h => by cases h.1)]
  · rw [if_neg (fun h => h1 h.1)]
    have h3 : M.getD (i + 1) false = false := by simpa using h1
    rw [h3, Bool.false_and]
    unfold markOne
    rw [if_neg (fun h => by cases h.1), if_neg (fun h => by cases h.1)]
theorem markOne_in (i n : Nat) (m : List Bool) (h0 : 0 < n) (h1 : n < i) : markOne true i n m = m.set n true := by unfold markOne; rw [if_pos ⟨rfl, h0, h1⟩]
theorem markOne_out (i n : Nat) (m : List Bool) (h : ¬ (0 < n ∧ n < i)) : markOne true i n m = m := by unfold markOne; rw [if_neg (fun hh => h hh.2)]
theorem cell_other2 {w : World} {c k : Nat} (u : Value) {b : Nat} (hne : c ≠ b) (o : Nat) : (w.setCell ⟨c, k, none⟩ u).cell? ⟨b, o, none⟩ = w.cell? ⟨b, o, none⟩ := by
  unfold World.cell?
  have : (w.setCell ⟨c, k, none⟩ u).heap[b]? = w.heap[b]? := by simp [World.setCell, Array.getElem?_modify, hne]
  rw [this]
set_option maxRecDepth 100000 in
set_option maxHeartbeats 3200000 in
theorem needed_any (b o : Nat) (cells : Array Value) (t : TypeId) (p : List Stp) (vS : Value) (kind last : Nat) (w : World) (hP : PAt w b o cells t p vS kind) (hl : p.length ≤ 100000) :
    Calls Tryz.prog 93 #[.pointer (some ⟨b, o, none⟩), .int .i64 (last : Int)] w fun e w' => NeededPost p last w e w' := by
  obtain ⟨aS, cS, rfl⟩ := own_form hP.own
  have hbw := blk_lt hP.fb
  have cs1 : w.cell? ⟨b, o + 1, none⟩ = some (.slice aS p.length cS) := by rw [blk_cell hP.fb]; exact hP.cs
  have hmk : ∀ w : World, (Instr.makeSlice 154 (.int .i64 ((p.length : Int) + 1)) (.int .i64 ((p.length : Int) + 1))).run Tryz.prog w = .ok (.slice (some ⟨w.heap.size, 0, none⟩) (p.length + 1) (p.length + 1)) (w.alloc (.cells (boolCells (List.replicate (p.length + 1) false)).toArray 4)) := fun w => by
    obtain ⟨i1, hi1, hz10, hz11, hz12⟩ := info_parts (show (Tryz.prog.info? 4).map (fun i => (i.zero, i.size, i.bytes)) = some (some (.bool false), 1, 1) by kernel_rfl)
    have h := run_makeSlice (P := Tryz.prog) w 154 4 i1 (.bool false) Tryz.underlying154 hi1 hz10 .i64 .i64 ((p.length + 1 : Nat) : Int) ((p.length + 1 : Nat) : Int) (by omega) (by omega) (by rw [hz11]; simp; omega) (by rw [hz12]; omega) (by omega)
    rw [hz11, Int.toNat_natCast, Nat.mul_one] at h
    rw [show (Value.bool false).cells = #[.bool false] from rfl, made_one] at h
    have e2 : boolCells (List.replicate (p.length + 1) false) = List.replicate (p.length + 1) (Value.bool false) := by simp [boolCells]
    rw [e2]
    exact h
  go_enter Tryz.func93, Tryz.ntmps93
  go_wp2_with fail
  have h0 : (w.alloc (.cells (boolCells (List.replicate (p.length + 1) false)).toArray 4)).cell? ⟨b, o + 1, none⟩ = some (.slice aS p.length cS) := by rw [((Below.refl w.heap.size w).alloc (Nat.le_refl _) _).cell (p := ⟨b, o + 1, none⟩) hbw]; exact cs1
  go_wp2_with fail
  go_loopg [6] (p.length + 1) (fun m iv wx => ∃ (k : Nat) (mk : List Bool), iv = .int .i64 (k : Int) ∧ k + 1 ≤ m ∧ m ≤ k + 1 ∧ k ≤ p.length ∧ mk.length = p.length + 1 ∧ needs p last = markTo p last k mk ∧ Below w.heap.size w wx ∧ wx.heap[w.heap.size]? = some (.cells (boolCells mk).toArray 4 (0, 0)))
  case atStart => exact ⟨p.length, List.replicate (p.length + 1) false, rfl, by omega, by omega, by omega, by simp, rfl, (Below.refl _ _).alloc (Nat.le_refl _) _, heap_alloc_new _ _⟩
  case round =>
    obtain ⟨k, mk, rfl, hkm, hkm2, hkl, hml, hmk2, hb, hg⟩ := hrel
    have HMK := hide hmk2
    clear hmk2
    have HML := hide hml
    clear hml
    have hlg := blk_lt hg
    have hPr := hP.later hb
    have cr1 : wr.cell? ⟨b, o + 1, none⟩ = some (.slice aS p.length cS) := by rw [blk_cell hPr.fb]; exact hPr.cs
    have lbr := blk_lt hPr.fb
    cases k with
    | zero =>
      have HF : Hid (needs p last = mk) := hide (by rw [unhide HMK]; rfl)
      have hd0 : decide ((0 : Int) < (0 : Int)) = false := by decide
      go_wp2_with fail
      go_ret
      exact ⟨w.heap.size, rfl, Nat.le_refl _, by rw [unhide HF]; exact hg, hb⟩
    | succ i =>
      have hd0 : decide ((0 : Int) < ((i + 1 : Nat) : Int)) = true := decide_eq_true (by omega)
      have HST : Hid (needs p last = markTo p last i (markStep p last (i + 1) mk)) := hide (by rw [unhide HMK]; rfl)
      clear HMK
      have hi : i < p.length := by omega
      obtain ⟨g2, cap, hVe, _, hg2', _, hcell⟩ := own_pos hPr.own (by omega)
      injection hVe with hVe _ hV2
      subst hVe hV2
      obtain ⟨st, hst⟩ : ∃ X, p[i] = X := ⟨_, rfl⟩
      obtain ⟨HMS⟩ : Nonempty (Hid (∀ M, (if i + 1 = last then mk.set (i + 1) true else mk) = M → markStep p last (i + 1) mk = if M.getD (i + 1) false = true ∧ st.rule ≠ 1 then markOne true (i + 1) st.second (markOne true (i + 1) st.first M) else M)) := ⟨hide (fun M hM => markStep_as p last i mk M st hM hi hst)⟩
      have e0 : wr.cell? ⟨g2, i * 6, none⟩ = some (.int .i64 (p[i].rule : Int)) := hcell _ _ (psCells_at p i 0 hi (by omega))
      have e1 : wr.cell? ⟨g2, i * 6 + 1, none⟩ = some (.int .i64 (p[i].first : Int)) := hcell _ _ (psCells_at p i 1 hi (by omega))
      have e2 : wr.cell? ⟨g2, i * 6 + 2, none⟩ = some (.int .i64 (p[i].second : Int)) := hcell _ _ (psCells_at p i 2 hi (by omega))
      have e3 : wr.cell? ⟨g2, i * 6 + 3, none⟩ = some (.int .i64 (p[i].var : Int)) := hcell _ _ (psCells_at p i 3 hi (by omega))
      have e4 : wr.cell? ⟨g2, i * 6 + 4, none⟩ = some (.int .i64 (p[i].lits.1 : Int)) := hcell _ _ (psCells_at p i 4 hi (by omega))
      have e5 : wr.cell? ⟨g2, i * 6 + 5, none⟩ = some (.int .i64 (p[i].lits.2 : Int)) := hcell _ _ (psCells_at p i 5 hi (by omega))
      rw [hst] at e0 e1 e2 e3 e4 e5
      clear hst hcell
      obtain ⟨sr, sf, ss, sv, l1, l2⟩ := st
      dsimp only at *
      have hgne : g2 ≠ w.heap.size := by
        intro e
        subst e
        exact absurd (own_type_ne hPr.own hg (by decide)) (fun h => h rfl)
      have hd2 : decide ((i : Int) < (p.length : Int)) = true := decide_eq_true (by omega)
      have hd3 : decide (i < p.length) = true := decide_eq_true hi
      by_cases hil : i + 1 = last
      · skip
        have hd1 : (((i + 1 : Nat) : Int) == (last : Int)) = true := by rw [beq_iff_eq]; omega
        have hd1' : ((i : Int) + 1 == (last : Int)) = true := by rw [beq_iff_eq]; omega
        have HIL := hide hil
        clear hil
        have cL : wr.cell? ⟨w.heap.size, i + 1, none⟩ = some (.bool (mk.getD (i + 1) false)) := by rw [blk_cell hg]; exact boolCells_at _ _ (by rw [unhide HML]; omega)
        have zL := blk_free hg (i + 1)
        have hgL := blk_set hg (i + 1) (.bool true)
        rw [boolCells_set] at hgL
        have hbL := hb.setCell (p := ⟨w.heap.size, i + 1, none⟩) (Nat.le_refl _) (.bool true)
        have hdn0 : decide ((i : Int) + 1 < (p.length : Int) + 1) = true := decide_eq_true (by omega)
        have hdn20 : decide (i + 1 < p.length + 1) = true := decide_eq_true (by omega)
        have k0 := (cell_other2 (w := wr) (c := w.heap.size) (k := i + 1) (.bool true) (fun e => hgne e.symm) (i * 6)).trans e0
        have k1 := (cell_other2 (w := wr) (c := w.heap.size) (k := i + 1) (.bool true) (fun e => hgne e.symm) (i * 6 + 1)).trans e1
        have k2 := (cell_other2 (w := wr) (c := w.heap.size) (k := i + 1) (.bool true) (fun e => hgne e.symm) (i * 6 + 2)).trans e2
        have k3 := (cell_other2 (w := wr) (c := w.heap.size) (k := i + 1) (.bool true) (fun e => hgne e.symm) (i * 6 + 3)).trans e3
        have k4 := (cell_other2 (w := wr) (c := w.heap.size) (k := i + 1) (.bool true) (fun e => hgne e.symm) (i * 6 + 4)).trans e4
        have k5 := (cell_other2 (w := wr) (c := w.heap.size) (k := i + 1) (.bool true) (fun e => hgne e.symm) (i * 6 + 5)).trans e5
        have hbne : w.heap.size ≠ b := by omega
        have kr1 := (cell_other2 (w := wr) (c := w.heap.size) (k := i + 1) (.bool true) hbne (o + 1)).trans cr1

        have HM2 : Hid (needs p last = markTo p last i (if (mk.set (i + 1) true).getD (i + 1) false = true ∧ sr ≠ 1 then markOne true (i + 1) ss (markOne true (i + 1) sf (mk.set (i + 1) true)) else (mk.set (i + 1) true))) := hide (by rw [unhide HST, unhide HMS (mk.set (i + 1) true) (if_pos (unhide HIL))])
        have HML2 : Hid ((mk.set (i + 1) true).length = p.length + 1) := hide (by rw [List.length_set]; exact unhide HML)
        have hA : Below (wr.setCell ⟨w.heap.size, i + 1, none⟩ (.bool true)).heap.size (wr.setCell ⟨w.heap.size, i + 1, none⟩ (.bool true)) ((wr.setCell ⟨w.heap.size, i + 1, none⟩ (.bool true)).alloc (.cells #[.int .i64 (sr : Int), .int .i64 (sf : Int), .int .i64 (ss : Int), .int .i64 (sv : Int), .int .i64 (l1 : Int), .int .i64 (l2 : Int)] 134)) := (Below.refl _ _).alloc (Nat.le_refl _) _
        have hgY := (hA.block _ (blk_lt hgL)).trans hgL
        have hbY := hbL.trans (hA.mono hbL.size)
        have hsY := heap_alloc_new (wr.setCell ⟨w.heap.size, i + 1, none⟩ (.bool true)) (.cells #[.int .i64 (sr : Int), .int .i64 (sf : Int), .int .i64 (ss : Int), .int .i64 (sv : Int), .int .i64 (l1 : Int), .int .i64 (l2 : Int)] 134)
        have hszX : (wr.setCell ⟨w.heap.size, i + 1, none⟩ (.bool true)).heap.size = wr.heap.size := by simp [World.setCell]
        rw [hszX] at hsY
        have nY : ((wr.setCell ⟨w.heap.size, i + 1, none⟩ (.bool true)).alloc (.cells #[.int .i64 (sr : Int), .int .i64 (sf : Int), .int .i64 (ss : Int), .int .i64 (sv : Int), .int .i64 (l1 : Int), .int .i64 (l2 : Int)] 134)).cell? ⟨w.heap.size, i + 1, none⟩ = some (.bool ((mk.set (i + 1) true).getD (i + 1) false)) := by rw [blk_cell hgY]; exact boolCells_at _ _ (by rw [unhide HML2]; omega)
        have q0 : ((wr.setCell ⟨w.heap.size, i + 1, none⟩ (.bool true)).alloc (.cells #[.int .i64 (sr : Int), .int .i64 (sf : Int), .int .i64 (ss : Int), .int .i64 (sv : Int), .int .i64 (l1 : Int), .int .i64 (l2 : Int)] 134)).cell? ⟨wr.heap.size, 0, none⟩ = some (.int .i64 (sr : Int)) := by rw [blk_cell hsY]; rfl
        have q1 : ((wr.setCell ⟨w.heap.size, i + 1, none⟩ (.bool true)).alloc (.cells #[.int .i64 (sr : Int), .int .i64 (sf : Int), .int .i64 (ss : Int), .int .i64 (sv : Int), .int .i64 (l1 : Int), .int .i64 (l2 : Int)] 134)).cell? ⟨wr.heap.size, 1, none⟩ = some (.int .i64 (sf : Int)) := by rw [blk_cell hsY]; rfl
        have q2 : ((wr.setCell ⟨w.heap.size, i + 1, none⟩ (.bool true)).alloc (.cells #[.int .i64 (sr : Int), .int .i64 (sf : Int), .int .i64 (ss : Int), .int .i64 (sv : Int), .int .i64 (l1 : Int), .int .i64 (l2 : Int)] 134)).cell? ⟨wr.heap.size, 2, none⟩ = some (.int .i64 (ss : Int)) := by rw [blk_cell hsY]; rfl
        have lsY := blk_lt hsY
        have lgY := blk_lt hgY
        obtain ⟨MM, hMM⟩ : ∃ Z, (mk.set (i + 1) true) = Z := ⟨_, rfl⟩
        rw [hMM] at HM2 HML2 hgY nY
        clear hMM
        have hdn : decide ((i : Int) + 1 < (p.length : Int) + 1) = true := decide_eq_true (by omega)
        have hdn2 : decide (i + 1 < p.length + 1) = true := decide_eq_true (by omega)
        cases hnb : MM.getD (i + 1) false with
        | false =>
          rw [hnb] at nY
          have HF : Hid (needs p last = markTo p last i MM) := hide (by rw [unhide HM2, if_neg (fun h => by rw [hnb] at h; cases h.1)])
          clear hnb
          go_wp2_with fail
          go_roundg (gk - 1)
          case measure => omega
          case rel => exact ⟨i, MM, by go_num, by omega, by omega, by omega, unhide HML2, unhide HF, hbY, hgY⟩
        | true =>
          rw [hnb] at nY
          by_cases hr1 : sr = 1
          · have hd5 : ((sr : Int) == 1) = true := by rw [beq_iff_eq]; omega
            have HF : Hid (needs p last = markTo p last i MM) := hide (by rw [unhide HM2, if_neg (fun h => h.2 hr1)])
            clear hnb hr1
            go_wp2_with fail
            go_roundg (gk - 1)
            case measure => omega
            case rel => exact ⟨i, MM, by go_num, by omega, by omega, by omega, unhide HML2, unhide HF, hbY, hgY⟩
          · have hd5 : ((sr : Int) == 1) = false := by rw [beq_eq_false_iff_ne]; omega
            have HF : Hid (needs p last = markTo p last i (markOne true (i + 1) ss (markOne true (i + 1) sf MM))) := hide (by rw [unhide HM2, if_pos ⟨hnb, hr1⟩])
            clear hnb hr1
            go_wp2_with fail
            generalize ((wr.setCell ⟨w.heap.size, i + 1, none⟩ (.bool true)).alloc (.cells #[.int .i64 (sr : Int), .int .i64 (sf : Int), .int .i64 (ss : Int), .int .i64 (sv : Int), .int .i64 (l1 : Int), .int .i64 (l2 : Int)] 134)) = wy at *
            obtain ⟨wo, hwo⟩ : ∃ wo, wo = (wr.setCell ⟨w.heap.size, i + 1, none⟩ (.bool true)) := ⟨_, rfl⟩
            obtain ⟨go, rfl⟩ : ∃ go, go = gk := ⟨_, rfl⟩
            go_loopg [55] 2 (fun m iv wx => ∃ (N : List Bool), N.length = p.length + 1 ∧ Below w.heap.size w wx ∧ wx.heap[w.heap.size]? = some (.cells (boolCells N).toArray 4 (0, 0)) ∧ ((iv = .int .i64 0 ∧ m = 2 ∧ needs p last = markTo p last i (markOne true (i + 1) ss (markOne true (i + 1) sf N))) ∨ (iv = .int .i64 1 ∧ m = 1 ∧ needs p last = markTo p last i (markOne true (i + 1) ss N)) ∨ (iv = .int .i64 2 ∧ m = 0 ∧ needs p last = markTo p last i N)))
            case atStart => exact ⟨MM, unhide HML2, hbY, hgY, Or.inl ⟨rfl, rfl, unhide HF⟩⟩
            case round =>
              obtain ⟨N, hNl, hbN, hgN, hN⟩ := hrel
              have hix0 : ∀ w : World, (Instr.index 186 (.agg #[.int .i64 (sf : Int), .int .i64 (ss : Int)]) (.int .i64 0)).run Tryz.prog w = .ok (.int .i64 (sf : Int)) w := fun w => by kernel_rfl
              have hix1 : ∀ w : World, (Instr.index 186 (.agg #[.int .i64 (sf : Int), .int .i64 (ss : Int)]) (.int .i64 1)).run Tryz.prog w = .ok (.int .i64 (ss : Int)) w := fun w => by kernel_rfl
              have HNL := hide hNl
              have lgN := blk_lt hgN
              rcases hN with ⟨rfl, hm, hN⟩ | ⟨rfl, hm, hN⟩ | ⟨rfl, hm, hN⟩
              · have HN := hide hN
                clear hN hNl
                rcases (show sf = 0 ∨ (0 < sf ∧ sf < i + 1) ∨ (0 < sf ∧ ¬ sf < i + 1) by omega) with hx | hx | hx
                · have g1 : decide ((0 : Int) < (sf : Int)) = false := decide_eq_false (by omega)
                  have g1n : decide (0 < sf) = false := decide_eq_false (by omega)
                  have HO := hide (markOne_out (i + 1) sf N (by omega))
                  clear hx
                  go_wp2_with fail
                  go_roundg (gk - 1)
                  case measure => omega
                  case rel => exact ⟨N, unhide HNL, hbN, hgN, Or.inr (Or.inl ⟨rfl, by omega, by rw [unhide HN, unhide HO]⟩)⟩
                · have g1 : decide ((0 : Int) < (sf : Int)) = true := decide_eq_true (by omega)
                  have g1n : decide (0 < sf) = true := decide_eq_true (by omega)
                  have g2' : decide ((sf : Int) < (i : Int) + 1) = true := decide_eq_true (by omega)
                  have g2n : decide (sf < i + 1) = true := decide_eq_true (by omega)
                  have hxl : sf < p.length + 1 := by omega
                  have g3 : decide ((sf : Int) < (p.length : Int) + 1) = true := decide_eq_true (by omega)
                  have g4 : decide (sf < p.length + 1) = true := decide_eq_true (by omega)
                  have HO := hide (markOne_in (i + 1) sf N hx.1 hx.2)
                  clear hx
                  have cx : wr.cell? ⟨w.heap.size, sf, none⟩ = some (.bool (N.getD sf false)) := by rw [blk_cell hgN]; exact boolCells_at _ _ (by rw [unhide HNL]; exact of_decide_eq_true g4)
                  have zx := blk_free hgN sf
                  have hgS := blk_set hgN sf (.bool true)
                  rw [boolCells_set] at hgS
                  go_wp2_with fail
                  go_roundg (gk - 1)
                  case measure => omega
                  case rel => exact ⟨N.set sf true, by rw [List.length_set]; exact unhide HNL, hbN.setCell (p := ⟨w.heap.size, sf, none⟩) (Nat.le_refl _) _, hgS, Or.inr (Or.inl ⟨rfl, by omega, by rw [unhide HN, unhide HO]⟩)⟩
                · have g1 : decide ((0 : Int) < (sf : Int)) = true := decide_eq_true (by omega)
                  have g1n : decide (0 < sf) = true := decide_eq_true (by omega)
                  have g2' : decide ((sf : Int) < (i : Int) + 1) = false := decide_eq_false (by omega)
                  have g2n : decide (sf < i + 1) = false := decide_eq_false (by omega)
                  have HO := hide (markOne_out (i + 1) sf N (by omega))
                  clear hx
                  go_wp2_with fail
                  go_roundg (gk - 1)
                  case measure => omega
                  case rel => exact ⟨N, unhide HNL, hbN, hgN, Or.inr (Or.inl ⟨rfl, by omega, by rw [unhide HN, unhide HO]⟩)⟩
              · have HN := hide hN
                clear hN hNl
                rcases (show ss = 0 ∨ (0 < ss ∧ ss < i + 1) ∨ (0 < ss ∧ ¬ ss < i + 1) by omega) with hx | hx | hx
                · have g1 : decide ((0 : Int) < (ss : Int)) = false := decide_eq_false (by omega)
                  have g1n : decide (0 < ss) = false := decide_eq_false (by omega)
                  have HO := hide (markOne_out (i + 1) ss N (by omega))
                  clear hx
                  go_wp2_with fail
                  go_roundg (gk - 1)
                  case measure => omega
                  case rel => exact ⟨N, unhide HNL, hbN, hgN, Or.inr (Or.inr ⟨rfl, by omega, by rw [unhide HN, unhide HO]⟩)⟩
                · have g1 : decide ((0 : Int) < (ss : Int)) = true := decide_eq_true (by omega)
                  have g1n : decide (0 < ss) = true := decide_eq_true (by omega)
                  have g2' : decide ((ss : Int) < (i : Int) + 1) = true := decide_eq_true (by omega)
                  have g2n : decide (ss < i + 1) = true := decide_eq_true (by omega)
                  have hxl : ss < p.length + 1 := by omega
                  have g3 : decide ((ss : Int) < (p.length : Int) + 1) = true := decide_eq_true (by omega)
                  have g4 : decide (ss < p.length + 1) = true := decide_eq_true (by omega)
                  have HO := hide (markOne_in (i + 1) ss N hx.1 hx.2)
                  clear hx
                  have cx : wr.cell? ⟨w.heap.size, ss, none⟩ = some (.bool (N.getD ss false)) := by rw [blk_cell hgN]; exact boolCells_at _ _ (by rw [unhide HNL]; exact of_decide_eq_true g4)
                  have zx := blk_free hgN ss
                  have hgS := blk_set hgN ss (.bool true)
                  rw [boolCells_set] at hgS
                  go_wp2_with fail
                  go_roundg (gk - 1)
                  case measure => omega
                  case rel => exact ⟨N.set ss true, by rw [List.length_set]; exact unhide HNL, hbN.setCell (p := ⟨w.heap.size, ss, none⟩) (Nat.le_refl _) _, hgS, Or.inr (Or.inr ⟨rfl, by omega, by rw [unhide HN, unhide HO]⟩)⟩
                · have g1 : decide ((0 : Int) < (ss : Int)) = true := decide_eq_true (by omega)
                  have g1n : decide (0 < ss) = true := decide_eq_true (by omega)
                  have g2' : decide ((ss : Int) < (i : Int) + 1) = false := decide_eq_false (by omega)
                  have g2n : decide (ss < i + 1) = false := decide_eq_false (by omega)
                  have HO := hide (markOne_out (i + 1) ss N (by omega))
                  clear hx
                  go_wp2_with fail
                  go_roundg (gk - 1)
                  case measure => omega
                  case rel => exact ⟨N, unhide HNL, hbN, hgN, Or.inr (Or.inr ⟨rfl, by omega, by rw [unhide HN, unhide HO]⟩)⟩
              · have HN := hide hN
                clear hN hNl
                go_wp2_with fail
                go_roundg (go - 1)
                case measure => omega
                case rel => exact ⟨i, N, by go_num, by omega, by omega, by omega, unhide HNL, unhide HN, hbN, hgN⟩
      · skip
        have hd1 : (((i + 1 : Nat) : Int) == (last : Int)) = false := by rw [beq_eq_false_iff_ne]; omega
        have hd1' : ((i : Int) + 1 == (last : Int)) = false := by rw [beq_eq_false_iff_ne]; omega
        have HIL := hide hil
        clear hil

        have HM2 : Hid (needs p last = markTo p last i (if (mk).getD (i + 1) false = true ∧ sr ≠ 1 then markOne true (i + 1) ss (markOne true (i + 1) sf (mk)) else (mk))) := hide (by rw [unhide HST, unhide HMS (mk) (if_neg (unhide HIL))])
        have HML2 : Hid ((mk).length = p.length + 1) := HML
        have hA : Below wr.heap.size wr (wr.alloc (.cells #[.int .i64 (sr : Int), .int .i64 (sf : Int), .int .i64 (ss : Int), .int .i64 (sv : Int), .int .i64 (l1 : Int), .int .i64 (l2 : Int)] 134)) := (Below.refl _ _).alloc (Nat.le_refl _) _
        have hgY := (hA.block _ (blk_lt hg)).trans hg
        have hbY := hb.trans (hA.mono hb.size)
        have hsY := heap_alloc_new wr (.cells #[.int .i64 (sr : Int), .int .i64 (sf : Int), .int .i64 (ss : Int), .int .i64 (sv : Int), .int .i64 (l1 : Int), .int .i64 (l2 : Int)] 134)
        have hszX : wr.heap.size = wr.heap.size := rfl
        rw [hszX] at hsY
        have nY : (wr.alloc (.cells #[.int .i64 (sr : Int), .int .i64 (sf : Int), .int .i64 (ss : Int), .int .i64 (sv : Int), .int .i64 (l1 : Int), .int .i64 (l2 : Int)] 134)).cell? ⟨w.heap.size, i + 1, none⟩ = some (.bool ((mk).getD (i + 1) false)) := by rw [blk_cell hgY]; exact boolCells_at _ _ (by rw [unhide HML2]; omega)
        have q0 : (wr.alloc (.cells #[.int .i64 (sr : Int), .int .i64 (sf : Int), .int .i64 (ss : Int), .int .i64 (sv : Int), .int .i64 (l1 : Int), .int .i64 (l2 : Int)] 134)).cell? ⟨wr.heap.size, 0, none⟩ = some (.int .i64 (sr : Int)) := by rw [blk_cell hsY]; rfl
        have q1 : (wr.alloc (.cells #[.int .i64 (sr : Int), .int .i64 (sf : Int), .int .i64 (ss : Int), .int .i64 (sv : Int), .int .i64 (l1 : Int), .int .i64 (l2 : Int)] 134)).cell? ⟨wr.heap.size, 1, none⟩ = some (.int .i64 (sf : Int)) := by rw [blk_cell hsY]; rfl
        have q2 : (wr.alloc (.cells #[.int .i64 (sr : Int), .int .i64 (sf : Int), .int .i64 (ss : Int), .int .i64 (sv : Int), .int .i64 (l1 : Int), .int .i64 (l2 : Int)] 134)).cell? ⟨wr.heap.size, 2, none⟩ = some (.int .i64 (ss : Int)) := by rw [blk_cell hsY]; rfl
        have lsY := blk_lt hsY
        have lgY := blk_lt hgY
        obtain ⟨MM, hMM⟩ : ∃ Z, (mk) = Z := ⟨_, rfl⟩
        rw [hMM] at HM2 HML2 hgY nY
        clear hMM
        have hdn : decide ((i : Int) + 1 < (p.length : Int) + 1) = true := decide_eq_true (by omega)
        have hdn2 : decide (i + 1 < p.length + 1) = true := decide_eq_true (by omega)
        cases hnb : MM.getD (i + 1) false with
        | false =>
          rw [hnb] at nY
          have HF : Hid (needs p last = markTo p last i MM) := hide (by rw [unhide HM2, if_neg (fun h => by rw [hnb] at h; cases h.1)])
          clear hnb
          go_wp2_with fail
          go_roundg (gk - 1)
          case measure => omega
          case rel => exact ⟨i, MM, by go_num, by omega, by omega, by omega, unhide HML2, unhide HF, hbY, hgY⟩
        | true =>
          rw [hnb] at nY
          by_cases hr1 : sr = 1
          · have hd5 : ((sr : Int) == 1) = true := by rw [beq_iff_eq]; omega
            have HF : Hid (needs p last = markTo p last i MM) := hide (by rw [unhide HM2, if_neg (fun h => h.2 hr1)])
            clear hnb hr1
            go_wp2_with fail
            go_roundg (gk - 1)
            case measure => omega
            case rel => exact ⟨i, MM, by go_num, by omega, by omega, by omega, unhide HML2, unhide HF, hbY, hgY⟩
          · have hd5 : ((sr : Int) == 1) = false := by rw [beq_eq_false_iff_ne]; omega
            have HF : Hid (needs p last = markTo p last i (markOne true (i + 1) ss (markOne true (i + 1) sf MM))) := hide (by rw [unhide HM2, if_pos ⟨hnb, hr1⟩])
            clear hnb hr1
            go_wp2_with fail
            generalize (wr.alloc (.cells #[.int .i64 (sr : Int), .int .i64 (sf : Int), .int .i64 (ss : Int), .int .i64 (sv : Int), .int .i64 (l1 : Int), .int .i64 (l2 : Int)] 134)) = wy at *
            obtain ⟨wo, hwo⟩ : ∃ wo, wo = wr := ⟨_, rfl⟩
            obtain ⟨go, rfl⟩ : ∃ go, go = gk := ⟨_, rfl⟩
            go_loopg [55] 2 (fun m iv wx => ∃ (N : List Bool), N.length = p.length + 1 ∧ Below w.heap.size w wx ∧ wx.heap[w.heap.size]? = some (.cells (boolCells N).toArray 4 (0, 0)) ∧ ((iv = .int .i64 0 ∧ m = 2 ∧ needs p last = markTo p last i (markOne true (i + 1) ss (markOne true (i + 1) sf N))) ∨ (iv = .int .i64 1 ∧ m = 1 ∧ needs p last = markTo p last i (markOne true (i + 1) ss N)) ∨ (iv = .int .i64 2 ∧ m = 0 ∧ needs p last = markTo p last i N)))
            case atStart => exact ⟨MM, unhide HML2, hbY, hgY, Or.inl ⟨rfl, rfl, unhide HF⟩⟩
            case round =>
              obtain ⟨N, hNl, hbN, hgN, hN⟩ := hrel
              have hix0 : ∀ w : World, (Instr.index 186 (.agg #[.int .i64 (sf : Int), .int .i64 (ss : Int)]) (.int .i64 0)).run Tryz.prog w = .ok (.int .i64 (sf : Int)) w := fun w => by kernel_rfl
              have hix1 : ∀ w : World, (Instr.index 186 (.agg #[.int .i64 (sf : Int), .int .i64 (ss : Int)]) (.int .i64 1)).run Tryz.prog w = .ok (.int .i64 (ss : Int)) w := fun w => by kernel_rfl
              have HNL := hide hNl
              have lgN := blk_lt hgN
              rcases hN with ⟨rfl, hm, hN⟩ | ⟨rfl, hm, hN⟩ | ⟨rfl, hm, hN⟩
              · have HN := hide hN
                clear hN hNl
                rcases (show sf = 0 ∨ (0 < sf ∧ sf < i + 1) ∨ (0 < sf ∧ ¬ sf < i + 1) by omega) with hx | hx | hx
                · have g1 : decide ((0 : Int) < (sf : Int)) = false := decide_eq_false (by omega)
                  have g1n : decide (0 < sf) = false := decide_eq_false (by omega)
                  have HO := hide (markOne_out (i + 1) sf N (by omega))
                  clear hx
                  go_wp2_with fail
                  go_roundg (gk - 1)
                  case measure => omega
                  case rel => exact ⟨N, unhide HNL, hbN, hgN, Or.inr (Or.inl ⟨rfl, by omega, by rw [unhide HN, unhide HO]⟩)⟩
                · have g1 : decide ((0 : Int) < (sf : Int)) = true := decide_eq_true (by omega)
                  have g1n : decide (0 < sf) = true := decide_eq_true (by omega)
                  have g2' : decide ((sf : Int) < (i : Int) + 1) = true := decide_eq_true (by omega)
                  have g2n : decide (sf < i + 1) = true := decide_eq_true (by omega)
                  have hxl : sf < p.length + 1 := by omega
                  have g3 : decide ((sf : Int) < (p.length : Int) + 1) = true := decide_eq_true (by omega)
                  have g4 : decide (sf < p.length + 1) = true := decide_eq_true (by omega)
                  have HO := hide (markOne_in (i + 1) sf N hx.1 hx.2)
                  clear hx
                  have cx : wr.cell? ⟨w.heap.size, sf, none⟩ = some (.bool (N.getD sf false)) := by rw [blk_cell hgN]; exact boolCells_at _ _ (by rw [unhide HNL]; exact of_decide_eq_true g4)
                  have zx := blk_free hgN sf
                  have hgS := blk_set hgN sf (.bool true)
                  rw [boolCells_set] at hgS
                  go_wp2_with fail
                  go_roundg (gk - 1)
                  case measure => omega
                  case rel => exact ⟨N.set sf true, by rw [List.length_set]; exact unhide HNL, hbN.setCell (p := ⟨w.heap.size, sf, none⟩) (Nat.le_refl _) _, hgS, Or.inr (Or.inl ⟨rfl, by omega, by rw [unhide HN, unhide HO]⟩)⟩
                · have g1 : decide ((0 : Int) < (sf : Int)) = true := decide_eq_true (by omega)
                  have g1n : decide (0 < sf) = true := decide_eq_true (by omega)
                  have g2' : decide ((sf : Int) < (i : Int) + 1) = false := decide_eq_false (by omega)
                  have g2n : decide (sf < i + 1) = false := decide_eq_false (by omega)
                  have HO := hide (markOne_out (i + 1) sf N (by omega))
                  clear hx
                  go_wp2_with fail
                  go_roundg (gk - 1)
                  case measure => omega
                  case rel => exact ⟨N, unhide HNL, hbN, hgN, Or.inr (Or.inl ⟨rfl, by omega, by rw [unhide HN, unhide HO]⟩)⟩
              · have HN := hide hN
                clear hN hNl
                rcases (show ss = 0 ∨ (0 < ss ∧ ss < i + 1) ∨ (0 < ss ∧ ¬ ss < i + 1) by omega) with hx | hx | hx
                · have g1 : decide ((0 : Int) < (ss : Int)) = false := decide_eq_false (by omega)
                  have g1n : decide (0 < ss) = false := decide_eq_false (by omega)
                  have HO := hide (markOne_out (i + 1) ss N (by omega))
                  clear hx
                  go_wp2_with fail
                  go_roundg (gk - 1)
                  case measure => omega
                  case rel => exact ⟨N, unhide HNL, hbN, hgN, Or.inr (Or.inr ⟨rfl, by omega, by rw [unhide HN, unhide HO]⟩)⟩
                · have g1 : decide ((0 : Int) < (ss : Int)) = true := decide_eq_true (by omega)
                  have g1n : decide (0 < ss) = true := decide_eq_true (by omega)
                  have g2' : decide ((ss : Int) < (i : Int) + 1) = true := decide_eq_true (by omega)
                  have g2n : decide (ss < i + 1) = true := decide_eq_true (by omega)
                  have hxl : ss < p.length + 1 := by omega
                  have g3 : decide ((ss : Int) < (p.length : Int) + 1) = true := decide_eq_true (by omega)
                  have g4 : decide (ss < p.length + 1) = true := decide_eq_true (by omega)
                  have HO := hide (markOne_in (i + 1) ss N hx.1 hx.2)
                  clear hx
                  have cx : wr.cell? ⟨w.heap.size, ss, none⟩ = some (.bool (N.getD ss false)) := by rw [blk_cell hgN]; exact boolCells_at _ _ (by rw [unhide HNL]; exact of_decide_eq_true g4)
                  have zx := blk_free hgN ss
                  have hgS := blk_set hgN ss (.bool true)
                  rw [boolCells_set] at hgS
                  go_wp2_with fail
                  go_roundg (gk - 1)
                  case measure => omega
                  case rel => exact ⟨N.set ss true, by rw [List.length_set]; exact unhide HNL, hbN.setCell (p := ⟨w.heap.size, ss, none⟩) (Nat.le_refl _) _, hgS, Or.inr (Or.inr ⟨rfl, by omega, by rw [unhide HN, unhide HO]⟩)⟩
                · have g1 : decide ((0 : Int) < (ss : Int)) = true := decide_eq_true (by omega)
                  have g1n : decide (0 < ss) = true := decide_eq_true (by omega)
                  have g2' : decide ((ss : Int) < (i : Int) + 1) = false := decide_eq_false (by omega)
                  have g2n : decide (ss < i + 1) = false := decide_eq_false (by omega)
                  have HO := hide (markOne_out (i + 1) ss N (by omega))
                  clear hx
                  go_wp2_with fail
                  go_roundg (gk - 1)
                  case measure => omega
                  case rel => exact ⟨N, unhide HNL, hbN, hgN, Or.inr (Or.inr ⟨rfl, by omega, by rw [unhide HN, unhide HO]⟩)⟩
              · have HN := hide hN
                clear hN hNl
                go_wp2_with fail
                go_roundg (go - 1)
                case measure => omega
                case rel => exact ⟨i, N, by go_num, by omega, by omega, by omega, unhide HNL, unhide HN, hbN, hgN⟩
end Go.Proofs.YtgipjjhkhfihpaaGreatDoor
