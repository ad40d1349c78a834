import Derived.Test.YtgipjjhkhfihpabGreatDoorAC
import Derived.Test.YtgipjjhkhfihpabGreatDoorAA
import Derived.Lib.ItoaLen
import Derived.Test.YtgipjjhkhfihpabGreatDoorAB
namespace Go.Proofs.YtgipjjhkhfihpabGreatDoor
open Go.RowKit

/-! ### Joining -/
theorem put_proof (S : SS) (k : Nat) (p : List Stp) : (S.put k p).proof k = p := by
  unfold SS.put SS.proof; split <;> rfl
theorem put_nodes (S : SS) (k : Nat) (p : List Stp) : (S.put k p).nodes = S.nodes := by unfold SS.put; split <;> rfl
theorem put_ext (S : SS) (k : Nat) (p : List Stp) (h : ∃ x, p = S.proof k ++ x) : Ext S (S.put k p) := by
  unfold SS.put; unfold SS.proof at h
  split
  · next e => rw [if_pos e] at h; exact ⟨⟨[], by simp⟩, h⟩
  · next e => rw [if_neg e] at h; exact ⟨h, ⟨[], by simp⟩⟩
theorem put_size (S : SS) (k : Nat) (p : List Stp) (n : Nat) (h : p.length ≤ (S.proof k).length + n) : sizeS (S.put k p) ≤ sizeS S + n := by
  unfold SS.put sizeS; unfold SS.proof at h
  split
  · next e => rw [if_pos e] at h; show S.ref.length + p.length ≤ _; omega
  · next e => rw [if_neg e] at h; show p.length + S.aff.length ≤ _; omega
theorem SInv.pok {C : SC} {S : SS} (h : SInv C S) {k : Nat} (hk : k = 1 ∨ k = 2) : POk C.q k (S.proof k) := by
  rcases hk with rfl | rfl
  · exact h.ref
  · exact h.aff
theorem put_inv {C : SC} {S : SS} (h : SInv C S) {k : Nat} (hk : k = 1 ∨ k = 2) {p : List Stp} (hp : ∃ x, p = S.proof k ++ x) (hok : POk C.q k p) : SInv C (S.put k p) := by
  rcases hk with rfl | rfl
  · exact h.grow hp hok
  · exact h.growA hp hok
theorem on_next {k : Nat} {path c : Nat × Nat} {v : Nat} {s : Bool} (h1 : 1 ≤ v) (h8 : v ≤ 8) (h : OnPath k (withLit path (litI v s)) c) : ∀ t u, L c t u = true → (u ≠ v → L path (t == (k == 2)) u = true) := by
  intro t u ht hne
  have := h t u ht
  rw [L_with _ _ _ h1 h8, Bool.or_eq_true, Bool.and_eq_true] at this
  rcases this with h | ⟨_, h⟩
  · exact h
  · exact absurd (of_decide_eq_true h) hne
/-- At the variable itself. -/
theorem on_at {q : QS} (hq : QGood q) {d : Nat} {path : Nat × Nat} (hpa : PathAt q d path) (hd : d < q.vars.length) {k : Nat} {c : Nat × Nat} {s : Bool} (h : OnPath k (withLit path (litI q.vars[d].1 s)) c) (hh : hasVarB c q.vars[d].1 = true) : L c (s == (k == 2)) q.vars[d].1 = true := by
  have hv := var_ok hq d hd
  have key : ∀ t, L c t q.vars[d].1 = true → t = (s == (k == 2)) := by
    intro t ht
    have := h t _ ht
    rw [L_with _ _ _ hv.1 hv.2, hpa.off hq hd (Nat.le_refl _), Bool.false_or, Bool.and_eq_true, beq_iff_eq] at this
    have h2 := this.1
    revert h2
    generalize (k == 2) = b
    cases t <;> cases s <;> cases b <;> simp
  rw [hasVar_L _ _ hv.1 hv.2, Bool.or_eq_true] at hh
  rcases hh with hh | hh
  · rw [← key true hh]; exact hh
  · rw [← key false hh]; exact hh
/-- What has the variable that was branched on is of the kind for which that is a pivot. -/
theorem fact_pivot {C : SC} (hq : QGood C.q) {S : SS} {d : Nat} {path : Nat × Nat} (hpa : PathAt C.q (d + 1) path) (hd : d < C.q.vars.length) {f : Nat × Nat} (hf : FactOk C.q S path f) (hh : hasVarB (S.lits f) C.q.vars[d].1 = true) : pivotB f.1 C.q.vars[d].2 = true :=
  red_pivot hq f.1 d hd _ hf.inn.red (fun i hi hdi s => by
    cases hl : L (S.lits f) s C.q.vars[i].1 with
    | false => rfl
    | true =>
      have := hf.on s _ hl
      rw [hpa.off hq hi (by omega)] at this; cases this) hh
theorem join_ok {C : SC} (hq : QGood C.q) {S : SS} (hS : SInv C S) {d : Nat} {path : Nat × Nat} (hpa : PathAt C.q d path) (hd : d < C.q.vars.length) {a b : Nat × Nat} {s : Bool}
    (ha : FactOk C.q S (withLit path (litI C.q.vars[d].1 s)) a) (hb : FactOk C.q S (withLit path (litI C.q.vars[d].1 (!s))) b) (hha : hasVarB (S.lits a) C.q.vars[d].1 = true) (hhb : hasVarB (S.lits b) C.q.vars[d].1 = true) :
    NodeOk C S path (joinOf C S a b C.q.vars[d].1) 2 ∧ (joinOf C S a b C.q.vars[d].1).1.nodes = S.nodes ∧ (joinOf C S a b C.q.vars[d].1).2.1 ≠ 0 := by
  have hv := var_ok hq d hd
  have p1 := fact_pivot hq (hpa.next hq hd s) hd ha hha
  have p2 := fact_pivot hq (hpa.next hq hd (!s)) hd hb hhb
  have hk : b.1 = a.1 := by
    rcases ha.inn.kind with h1 | h1 <;> rcases hb.inn.kind with h2 | h2 <;> rw [h1] at p1 ⊢ <;> rw [h2] at p2 ⊢ <;> revert p1 p2 <;> cases C.q.vars[d].2 <;> simp [pivotB]
  have hla := on_at hq hpa hd ha.on hha
  have hlb := on_at hq hpa hd hb.on hhb
  rw [hk] at hlb
  have hlb' : L (S.lits b) (!(s == (a.1 == 2))) C.q.vars[d].1 = true := by
    rw [show (!(s == (a.1 == 2))) = ((!s) == (a.1 == 2)) from by generalize (a.1 == 2) = b; cases s <;> cases b <;> rfl]
    exact hlb
  have hsa : S.lits a = litsAt (S.proof a.1) a.2 := rfl
  have hsb : S.lits b = litsAt (S.proof a.1) b.2 := by unfold SS.lits; rw [hk]
  have hbhi := hb.inn.hi
  rw [hk] at hbhi
  have hres : ∀ t u, L (without2 (S.lits a) (S.lits b) C.q.vars[d].1) t u = true → L path (t == (a.1 == 2)) u = true := by
    intro t u ht
    rw [L_without2 _ _ _ hv.1 hv.2, Bool.and_eq_true, Bool.or_eq_true, Bool.not_eq_true'] at ht
    have hne : u ≠ C.q.vars[d].1 := of_decide_eq_false ht.2
    rcases ht.1 with ht | ht
    · exact on_next hv.1 hv.2 ha.on t u ht hne
    · have := on_next hv.1 hv.2 hb.on t u ht hne
      rwa [hk] at this
  have hfree : Free (without2 (S.lits a) (S.lits b) C.q.vars[d].1) := hpa.free.flip (a.1 == 2) hres
  have hfa := ha.inn.free
  have hfb := hb.inn.free
  rw [hsa] at hla hfa
  rw [hsb] at hlb' hfb
  rw [hsa, hsb] at hres hfree
  obtain ⟨r1, ⟨x, r2⟩, r3, r4, r5⟩ := resP_ok hq (hS.pok ha.inn.kind) ⟨ha.inn.lo, ha.inn.hi⟩ ⟨hb.inn.lo, hbhi⟩ ⟨_, List.getElem_mem hd, rfl, p1⟩ hfa hfb hla hlb' hfree
  unfold joinOf
  dsimp only
  generalize resP (S.proof a.1) a.2 b.2 C.q.vars[d].1 = r at *
  obtain ⟨d1, ⟨y, d2, d3, _⟩, d4, d5, d6⟩ := redP_ok hq a.1 r.1 r.2 r1 (by omega) (by omega) (by rw [r5]; exact hfree)
  rw [r5] at d6
  generalize redP C.q a.1 r.1 r.2 = dd at *
  have hpre : ∃ z, dd.1 = S.proof a.1 ++ z := ⟨[x] ++ y, by rw [d2, r2, List.append_assoc]⟩
  have hinv := put_inv hS ha.inn.kind hpre d1
  have hext := put_ext S a.1 dd.1 hpre
  have hlits : (S.put a.1 dd.1).lits (a.1, dd.2) = redQ a.1 C.q.vars.reverse (without2 (litsAt (S.proof a.1) a.2) (litsAt (S.proof a.1) b.2) C.q.vars[d].1) := by
    unfold SS.lits; rw [put_proof]; exact d6
  have hon : OnPath a.1 path ((S.put a.1 dd.1).lits (a.1, dd.2)) := by
    intro t u ht
    rw [hlits] at ht
    exact hres t u (red_sub hq a.1 _ _ _ ht)
  have hfact : FactIn C.q (S.put a.1 dd.1) (a.1, dd.2) := ⟨ha.inn.kind, d4, by rw [put_proof]; exact d5, by rw [hlits]; exact hfree.sub (fun s v => red_sub hq _ _ s v), by rw [hlits]; exact red_idem hq _ _⟩
  have hkk := keep_ok hinv hfact
  obtain ⟨k1, k2, k3⟩ := keep_ref C.room (S.put a.1 dd.1) (a.1, dd.2)
  have hke := keep_ext C.room (S.put a.1 dd.1) (a.1, dd.2)
  have ha0 : a.1 ≠ 0 := by rcases ha.inn.kind with h | h <;> rw [h] <;> decide
  refine ⟨⟨hkk, hext.trans hke, ?_, fun _ => ⟨hfact.ext hke, by rw [hke.lits hfact.hi]; exact hon⟩, fun h => absurd h ha0⟩, k3.trans (put_nodes _ _ _), ha0⟩
  have hz : sizeS ((S.put a.1 dd.1).keep C.room (a.1, dd.2)) = sizeS (S.put a.1 dd.1) := by unfold sizeS; rw [k1, k2]
  rw [hz]
  apply put_size
  rw [d2, r2]; simp; omega

/-! ### All nodes -/
/-- What a look gives. -/
structure LookOk (C : SC) (m : Nat) (path : Nat × Nat) (S : SS) (r : SS × (Nat × Nat)) : Prop where
  inv : SInv C r.1
  ext : Ext S r.1
  fact : r.2.1 ≠ 0 → FactOk C.q r.1 path r.2
  zero : r.2.1 = 0 → r.2.2 = 0
  unknown : r.2.1 = 0 → 0 < C.budget ∧ C.budget ≤ r.1.nodes
  mono : S.nodes ≤ r.1.nodes
  some : ¬ (0 < C.budget ∧ C.budget ≤ S.nodes) → S.nodes + 1 ≤ r.1.nodes
  most : r.1.nodes + 1 ≤ S.nodes + 2 ^ (m + 1)
  budget : 0 < C.budget → S.nodes ≤ C.budget → r.1.nodes ≤ C.budget
  size : sizeS r.1 ≤ sizeS S + 12 * (r.1.nodes - S.nodes)
theorem getD_var (q : QS) (d : Nat) (h : d < q.vars.length) : q.vars.getD d (0, false) = q.vars[d] := by
  rw [List.getD, List.getElem?_eq_getElem h]; rfl
theorem zero_has (S : SS) (f : Nat × Nat) (_h1 : f.1 = 0) (h2 : f.2 = 0) (v : Nat) : hasVarB (S.lits f) v = false := by
  unfold SS.lits; rw [h2, litsAt_out _ _ (by omega)]; unfold hasVarB; simp
theorem FactOk.up {q : QS} (hq : QGood q) {S : SS} {d : Nat} (hd : d < q.vars.length) {path : Nat × Nat} {s : Bool} {f : Nat × Nat} (h : FactOk q S (withLit path (litI q.vars[d].1 s)) f) (hh : hasVarB (S.lits f) q.vars[d].1 = false) : FactOk q S path f := by
  have hv := var_ok hq d hd
  refine ⟨h.inn, fun t u ht => ?_⟩
  refine on_next hv.1 hv.2 h.on t u ht (fun e => ?_)
  subst e
  rw [hasVar_L _ _ hv.1 hv.2, Bool.or_eq_false_iff] at hh
  cases t
  · rw [hh.2] at ht; cases ht
  · rw [hh.1] at ht; cases ht
theorem look_ok {C : SC} (hq : QGood C.q) (hu : UniOk C.q C.uni) : ∀ (m d : Nat) (path : Nat × Nat) (S : SS), SInv C S → PathAt C.q d path → d + m = C.q.vars.length → LookOk C m path S (lookM C m path d S) := by
  intro m
  induction m with
  | zero =>
    intro d path S hS hpa hdm
    obtain ⟨n1, n2⟩ := node_ok hq hu hS hpa
    have hl : lookM C 0 path d S = nodeSt (nodeOf C S path) := by
      rw [lookM]
      cases nodeOf C S path with
      | inl r => rfl
      | inr r => rfl
    rw [hl]
    generalize nodeSt (nodeOf C S path) = r at *
    have hsz := n1.size
    rcases n2 with ⟨h1, h2, h3⟩ | ⟨h1, h2, h3⟩
    · exact ⟨n1.inv, n1.ext, n1.fact, n1.zero, fun _ => by rw [h1]; exact h2, by omega, fun h => absurd h2 h, by rw [h1]; simp, fun _ h => by omega, by omega⟩
    · exact ⟨n1.inv, n1.ext, n1.fact, n1.zero, fun h => absurd (by omega) (h3 h).2, by omega, fun _ => by omega, by rw [h1]; simp, fun h4 h5 => by
        have : S.nodes < C.budget := by
          apply Classical.byContradiction
          intro hh
          exact h2 ⟨h4, by omega⟩
        omega, by omega⟩
  | succ m ih =>
    intro d path S hS hpa hdm
    have hd : d < C.q.vars.length := by omega
    obtain ⟨n1, n2⟩ := node_ok hq hu hS hpa
    have hpow : 2 ^ (m + 1 + 1) = 2 ^ (m + 1) + 2 ^ (m + 1) := by rw [Nat.pow_succ 2 (m + 1)]; omega
    have hpos : 0 < 2 ^ (m + 1) := Nat.pow_pos (by decide)
    rw [lookM]
    cases hn : nodeOf C S path with
    | inl r =>
      rw [hn] at n1 n2
      simp only [nodeSt] at n1 n2
      dsimp only
      have hsz := n1.size
      rcases n2 with ⟨h1, h2, h3⟩ | ⟨h1, h2, h3⟩
      · exact ⟨n1.inv, n1.ext, n1.fact, n1.zero, fun _ => by rw [h1]; exact h2, by omega, fun h => absurd h2 h, by omega, fun _ h => by omega, by omega⟩
      · exact ⟨n1.inv, n1.ext, n1.fact, n1.zero, fun h => absurd (h3 h).1 (by simp [isInr]), by omega, fun _ => by omega, by omega, fun h4 h5 => by
          have : S.nodes < C.budget := by
            apply Classical.byContradiction
            intro hh
            exact h2 ⟨h4, by omega⟩
          omega, by omega⟩
    | inr r =>
      obtain ⟨S1, vals⟩ := r
      rw [hn] at n1 n2
      simp only [nodeSt] at n1 n2
      dsimp only
      rcases n2 with ⟨_, _, h3⟩ | ⟨h1, h2, _⟩
      · cases h3
      have hsz := n1.size
      have hbud : 0 < C.budget → S.nodes ≤ C.budget → S1.nodes ≤ C.budget := fun h4 h5 => by
        have : S.nodes < C.budget := by
          apply Classical.byContradiction
          intro hh
          exact h2 ⟨h4, by omega⟩
        omega
      have hS1 := n1.inv
      have hE1 := n1.ext
      dsimp only at hS1 hE1 hsz h1
      rw [getD_var _ _ hd]
      obtain ⟨s, hs⟩ : ∃ s : Bool, (if hasLit vals (-(C.q.vars[d].1 : Int)) then -(C.q.vars[d].1 : Int) else (C.q.vars[d].1 : Int)) = litI C.q.vars[d].1 s := by
        split
        · exact ⟨false, rfl⟩
        · exact ⟨true, rfl⟩
      rw [hs, litI_neg]
      have la := ih (d + 1) _ S1 hS1 (hpa.next hq hd s) (by omega)
      generalize lookM C m (withLit path (litI C.q.vars[d].1 s)) (d + 1) S1 = a at *
      have la1 := la.mono
      have la2 := la.most
      have la3 := la.size
      cases hha : hasVarB (a.1.lits a.2) C.q.vars[d].1 with
      | false =>
        simp only [Bool.false_eq_true, if_false]
        exact ⟨la.inv, hE1.trans la.ext, fun h => (la.fact h).up hq hd hha, la.zero, la.unknown, by omega, fun _ => by omega, by omega, fun h4 h5 => la.budget h4 (hbud h4 h5), by omega⟩
      | true =>
        simp only [if_true]
        have ha0 : a.2.1 ≠ 0 := fun h => by rw [zero_has _ _ h (la.zero h)] at hha; cases hha
        have hfa := la.fact ha0
        have lb := ih (d + 1) _ a.1 la.inv (hpa.next hq hd (!s)) (by omega)
        generalize lookM C m (withLit path (litI C.q.vars[d].1 (!s))) (d + 1) a.1 = b at *
        have lb1 := lb.mono
        have lb2 := lb.most
        have lb3 := lb.size
        cases hhb : hasVarB (b.1.lits b.2) C.q.vars[d].1 with
        | false =>
          simp only [Bool.false_eq_true, if_false]
          exact ⟨lb.inv, (hE1.trans la.ext).trans lb.ext, fun h => (lb.fact h).up hq hd hhb, lb.zero, lb.unknown, by omega, fun _ => by omega, by omega, fun h4 h5 => lb.budget h4 (la.budget h4 (hbud h4 h5)), by omega⟩
        | true =>
          simp only [if_true]
          have hb0 : b.2.1 ≠ 0 := fun h => by rw [zero_has _ _ h (lb.zero h)] at hhb; cases hhb
          have hfb := lb.fact hb0
          have hfa' : FactOk C.q b.1 (withLit path (litI C.q.vars[d].1 s)) a.2 := ⟨hfa.inn.ext lb.ext, by rw [lb.ext.lits hfa.inn.hi]; exact hfa.on⟩
          obtain ⟨j1, j2, j3⟩ := join_ok hq lb.inv hpa hd hfa' hfb (by rw [lb.ext.lits hfa.inn.hi]; exact hha) hhb
          generalize joinOf C b.1 a.2 b.2 C.q.vars[d].1 = j at *
          have jz := j1.size
          exact ⟨j1.inv, ((hE1.trans la.ext).trans lb.ext).trans j1.ext, j1.fact, j1.zero, fun h => absurd h j3, by omega, fun _ => by omega, by omega, fun h4 h5 => by rw [j2]; exact lb.budget h4 (la.budget h4 (hbud h4 h5)), by omega⟩
end Go.Proofs.YtgipjjhkhfihpabGreatDoor

namespace Go.Proofs.YtgipjjhkhfihpabGreatDoor
open Go.RowKit

/-! ### Steps that are needed -/
abbrev P0 : Stp := ⟨0, 0, 0, 0, (0, 0)⟩
theorem getD_set (m : List Bool) (i j : Nat) : (m.set i true).getD j false = (decide (i = j ∧ i < m.length) || m.getD j false) := by
  rw [List.getD, List.getD, List.getElem?_set]
  by_cases e : i = j
  · subst e
    by_cases h : i < m.length
    · simp [h]
    · simp [h]
  · simp [e]
structure MarkOk (q : QS) (k : Nat) (p : List Stp) (last i : Nat) (m : List Bool) : Prop where
  len : m.length = p.length + 1
  at_ : ∀ j, m.getD j false = true → j ≤ last ∧ 1 ≤ j ∧ Free (litsAt p j)
  closed : ∀ j (h : j < p.length), i ≤ j → m.getD (j + 1) false = true → p[j].rule ≠ 1 → (0 < p[j].first ∧ p[j].first < j + 1 → m.getD p[j].first false = true) ∧ (0 < p[j].second ∧ p[j].second < j + 1 → m.getD p[j].second false = true)
  last : i < last → m.getD last false = true
theorem markOne_len (b : Bool) (i n : Nat) (m : List Bool) : (markOne b i n m).length = m.length := by
  unfold markOne; split <;> simp
theorem markOne_get (b : Bool) (i n : Nat) (m : List Bool) (j : Nat) : (markOne b i n m).getD j false = (decide (b = true ∧ 0 < n ∧ n < i ∧ n = j ∧ n < m.length) || m.getD j false) := by
  unfold markOne
  split
  · next h =>
    rw [getD_set]
    simp only [h.1, h.2.1, h.2.2, true_and]
  · next h =>
    have : ¬ (b = true ∧ 0 < n ∧ n < i ∧ n = j ∧ n < m.length) := fun hh => h ⟨hh.1, hh.2.1, hh.2.2.1⟩
    simp [this]
/-- Steps ahead of a step that are made well. -/
theorem stok_ahead {q : QS} {k : Nat} {p : List Stp} (hp : POk q k p) (j : Nat) (h : j < p.length) (hr : p[j].rule ≠ 1) : (0 < p[j].first → p[j].first ≤ j ∧ Free (litsAt p p[j].first)) ∧ (0 < p[j].second → p[j].second ≤ j ∧ Free (litsAt p p[j].second)) := by
  have hlen : (p.take j).length = j := by simp; omega
  have hla : ∀ n, n ≤ j → litsAt (p.take j) n = litsAt p n := fun n hn => by
    conv => rhs; rw [← List.take_append_drop j p]
    rw [litsAt_append _ _ _ (by omega)]
  rcases (hp j h).2 with ⟨h1, _⟩ | ⟨_, _, h1, h2, _⟩ | ⟨_, h1, h2, _, _, _, h3, h4, _⟩ | ⟨_, h1, h2, h3, _⟩
  · exact absurd h1 hr
  · exact ⟨fun h => by omega, fun h => by omega⟩
  · rw [hlen] at h1 h2
    exact ⟨fun _ => ⟨h1.2, by rw [← hla _ h1.2]; exact h3⟩, fun _ => ⟨h2.2, by rw [← hla _ h2.2]; exact h4⟩⟩
  · rw [hlen] at h1
    exact ⟨fun _ => ⟨h1.2, by rw [← hla _ h1.2]; exact h3⟩, fun h => by omega⟩
theorem markStep_ok {q : QS} {k : Nat} {p : List Stp} (hp : POk q k p) {last i : Nat} (hi : i < p.length) (h1 : 1 ≤ last) (hl : last ≤ p.length) (hf : Free (litsAt p last)) {m : List Bool} (h : MarkOk q k p last (i + 1) m) : MarkOk q k p last i (markStep p last (i + 1) m) := by
  have hg : p.getD (i + 1 - 1) P0 = p[i] := by rw [Nat.add_sub_cancel, List.getD, List.getElem?_eq_getElem hi]; rfl
  unfold markStep
  rw [show (⟨0, 0, 0, 0, (0, 0)⟩ : Stp) = P0 from rfl, hg]
  dsimp only
  have hm1 : ∀ j, (if i + 1 = last then m.set (i + 1) true else m).getD j false = (decide (i + 1 = last ∧ i + 1 = j) || m.getD j false) := by
    intro j
    split
    · next e => rw [getD_set]; simp only [e, true_and]; rw [h.len]; simp only [show last < p.length + 1 from by omega, and_true]
    · next e => simp [e]
  have hm1l : (if i + 1 = last then m.set (i + 1) true else m).length = p.length + 1 := by
    split
    · rw [List.length_set]; exact h.len
    · exact h.len
  generalize (if i + 1 = last then m.set (i + 1) true else m) = m1 at *
  have hat1 : ∀ j, m1.getD j false = true → j ≤ last ∧ 1 ≤ j ∧ Free (litsAt p j) := by
    intro j hj
    rw [hm1, Bool.or_eq_true] at hj
    rcases hj with hj | hj
    · have := of_decide_eq_true hj
      rw [← this.2, this.1]; exact ⟨Nat.le_refl _, h1, hf⟩
    · exact h.at_ j hj
  have hah := stok_ahead hp i hi
  generalize hb : (m1.getD (i + 1) false && decide (p[i].rule ≠ 1)) = b at *
  have hget : ∀ j, (markOne b (i + 1) p[i].second (markOne b (i + 1) p[i].first m1)).getD j false = true ↔ ((b = true ∧ 0 < p[i].second ∧ p[i].second < i + 1 ∧ p[i].second = j) ∨ (b = true ∧ 0 < p[i].first ∧ p[i].first < i + 1 ∧ p[i].first = j) ∨ m1.getD j false = true) := by
    intro j
    rw [markOne_get, markOne_get, markOne_len, Bool.or_eq_true, Bool.or_eq_true, decide_eq_true_eq, decide_eq_true_eq, hm1l]
    constructor
    · rintro (⟨a, b, c, d, _⟩ | ⟨a, b, c, d, _⟩ | a)
      · exact Or.inl ⟨a, b, c, d⟩
      · exact Or.inr (Or.inl ⟨a, b, c, d⟩)
      · exact Or.inr (Or.inr a)
    · rintro (⟨a, b, c, d⟩ | ⟨a, b, c, d⟩ | a)
      · exact Or.inl ⟨a, b, c, d, by omega⟩
      · exact Or.inr (Or.inl ⟨a, b, c, d, by omega⟩)
      · exact Or.inr (Or.inr a)
  have hbt : b = true → m1.getD (i + 1) false = true ∧ p[i].rule ≠ 1 := by
    intro e
    rw [← hb, Bool.and_eq_true, decide_eq_true_eq] at e
    exact e
  refine ⟨by rw [markOne_len, markOne_len]; exact hm1l, fun j hj => ?_, fun j hj hij hm hr => ?_, fun hil => ?_⟩
  · rw [hget] at hj
    rcases hj with ⟨e, h2, h3, rfl⟩ | ⟨e, h2, h3, rfl⟩ | hj
    · obtain ⟨e1, e2⟩ := hbt e
      have := (hat1 _ e1).1
      exact ⟨by omega, h2, ((hah e2).2 h2).2⟩
    · obtain ⟨e1, e2⟩ := hbt e
      have := (hat1 _ e1).1
      exact ⟨by omega, h2, ((hah e2).1 h2).2⟩
    · exact hat1 j hj
  · by_cases e : j = i
    · subst e
      have hm2 : m1.getD (j + 1) false = true := by
        rw [hget] at hm
        rcases hm with ⟨_, _, h3, h4⟩ | ⟨_, _, h3, h4⟩ | hm
        · omega
        · omega
        · exact hm
      have hbb : b = true := by rw [← hb, hm2]; simpa using hr
      exact ⟨fun hh => (hget _).2 (Or.inr (Or.inl ⟨hbb, hh.1, hh.2, rfl⟩)), fun hh => (hget _).2 (Or.inl ⟨hbb, hh.1, hh.2, rfl⟩)⟩
    · have hm2 : m.getD (j + 1) false = true := by
        rw [hget] at hm
        rcases hm with ⟨_, _, h3, h4⟩ | ⟨_, _, h3, h4⟩ | hm
        · omega
        · omega
        · rw [hm1, Bool.or_eq_true] at hm
          rcases hm with hm | hm
          · have := of_decide_eq_true hm; omega
          · exact hm
      have up : ∀ n, m.getD n false = true → (markOne b (i + 1) p[i].second (markOne b (i + 1) p[i].first m1)).getD n false = true := fun n hn => (hget n).2 (Or.inr (Or.inr (by rw [hm1, hn]; simp)))
      have := h.closed j hj (by omega) hm2 hr
      exact ⟨fun hh => up _ (this.1 hh), fun hh => up _ (this.2 hh)⟩
  · rw [hget]
    right; right
    rw [hm1]
    by_cases e : i + 1 = last
    · simp [e]
    · rw [h.last (by omega)]; simp
theorem markTo_ok {q : QS} {k : Nat} {p : List Stp} (hp : POk q k p) {last : Nat} (h1 : 1 ≤ last) (hl : last ≤ p.length) (hf : Free (litsAt p last)) : ∀ (i : Nat) (m : List Bool), i ≤ p.length → MarkOk q k p last i m → MarkOk q k p last 0 (markTo p last i m) := by
  intro i
  induction i with
  | zero => intro m _ h; exact h
  | succ i ih => intro m hi h; exact ih _ (by omega) (markStep_ok hp (by omega) h1 hl hf h)
theorem marks_ok {q : QS} {k : Nat} {p : List Stp} (hp : POk q k p) {last : Nat} (h1 : 1 ≤ last) (hl : last ≤ p.length) (hf : Free (litsAt p last)) : MarkOk q k p last 0 (needs p last) := by
  have hno : ∀ j, (List.replicate (p.length + 1) false).getD j false = false := fun j => by
    rw [List.getD, List.getElem?_replicate]; split <;> rfl
  refine markTo_ok hp h1 hl hf _ _ (Nat.le_refl _) ⟨by simp, fun j hj => ?_, fun j hj hij => by omega, fun h => by omega⟩
  rw [hno] at hj; cases hj

/-! ### The short proof -/
structure ShortOk (q : QS) (k : Nat) (p : List Stp) (mk : List Bool) (last i : Nat) (sh : List Stp) (nums : List Nat) : Prop where
  ok : POk q k sh
  free : ∀ s ∈ sh, Free s.lits
  nlen : nums.length = p.length + 1
  zero : nums.getD 0 0 = 0
  nums : ∀ j, 1 ≤ j → j ≤ i → mk.getD j false = true → 1 ≤ nums.getD j 0 ∧ nums.getD j 0 ≤ sh.length ∧ litsAt sh (nums.getD j 0) = litsAt p j
  len : sh.length ≤ i
  twos : twos sh ≤ twos (p.take i)
  last : last ≤ i → ∃ s, sh.getLast? = some s ∧ s.lits = litsAt p last
theorem twos_snoc (p : List Stp) (s : Stp) : twos (p ++ [s]) = twos p + (if s.rule = 3 then 1 else 0) := by
  unfold twos
  rw [List.filter_append, List.length_append]
  by_cases h : s.rule = 3
  · simp [h]
  · simp [h]
theorem getD_setN (m : List Nat) (i j x : Nat) (h : i < m.length) : (m.set i x).getD j 0 = if i = j then x else m.getD j 0 := by
  rw [List.getD, List.getD, List.getElem?_set]
  by_cases e : i = j
  · subst e; simp [h]
  · simp [e]
theorem shortStep_ok {q : QS} {k : Nat} {p : List Stp} (hp : POk q k p) {mk : List Bool} {last i : Nat} (hi : i < p.length) (_h1 : 1 ≤ last) (hM : MarkOk q k p last 0 mk) {sh : List Stp} {nums : List Nat} (h : ShortOk q k p mk last i sh nums) (hm : mk.getD (i + 1) false = true) :
    ShortOk q k p mk last (i + 1) (sh ++ [renum nums i (p.getD i P0)]) (nums.set (i + 1) (sh.length + 1)) := by
  have hg : p.getD i P0 = p[i] := by rw [List.getD, List.getElem?_eq_getElem hi]; rfl
  rw [hg]
  have htl : (p.take i).length = i := by simp; omega
  have hla : ∀ n, n ≤ i → litsAt (p.take i) n = litsAt p n := fun n hn => by
    conv => rhs; rw [← List.take_append_drop i p]
    rw [litsAt_append _ _ _ (by omega)]
  have hlits : (renum nums i p[i]).lits = p[i].lits := rfl
  have hrule : (renum nums i p[i]).rule = p[i].rule := rfl
  have hvar : (renum nums i p[i]).var = p[i].var := rfl
  have hself : litsAt p (i + 1) = p[i].lits := litsAt_in p i hi
  have hcl := hM.closed i hi (by omega) hm
  have hnew : StOk q k sh (renum nums i p[i]) := by
    obtain ⟨hlok, hst⟩ := hp i hi
    refine ⟨hlok, ?_⟩
    rw [hrule, hlits, hvar]
    rcases hst with ⟨r1, r2, r3, r4, r5, r6⟩ | ⟨r1, r2, r3, r4, r5⟩ | ⟨r1, r2, r3, r4, r5, r6, r7, r8, r9, r10⟩ | ⟨r1, r2, r3, r4, r5⟩
    · left
      have e1 : (renum nums i p[i]).first = p[i].first := by show (if p[i].rule ≠ 1 ∧ _ then _ else _) = _; rw [if_neg (by simp [r1])]
      have e2 : (renum nums i p[i]).second = 0 := by show (if p[i].second ≤ i then _ else _) = _; rw [if_pos (by omega), r5]; exact h.zero
      rw [e1, e2]
      exact ⟨r1, r2, r3, r4, rfl, r6⟩
    · right; left
      have e1 : (renum nums i p[i]).first = 0 := by show (if p[i].rule ≠ 1 ∧ p[i].first ≤ i then _ else _) = _; rw [if_pos ⟨by omega, by omega⟩, r3]; exact h.zero
      have e2 : (renum nums i p[i]).second = 0 := by show (if p[i].second ≤ i then _ else _) = _; rw [if_pos (by omega), r4]; exact h.zero
      rw [e1, e2]
      exact ⟨r1, r2, rfl, rfl, r5⟩
    · right; right; left
      rw [htl] at r2 r3
      have hr : p[i].rule ≠ 1 := by omega
      have n1 := h.nums p[i].first r2.1 r2.2 ((hcl hr).1 ⟨by omega, by omega⟩)
      have n2 := h.nums p[i].second r3.1 r3.2 ((hcl hr).2 ⟨by omega, by omega⟩)
      have e1 : (renum nums i p[i]).first = nums.getD p[i].first 0 := by show (if p[i].rule ≠ 1 ∧ p[i].first ≤ i then _ else _) = _; rw [if_pos ⟨hr, r2.2⟩]
      have e2 : (renum nums i p[i]).second = nums.getD p[i].second 0 := by show (if p[i].second ≤ i then _ else _) = _; rw [if_pos r3.2]
      rw [hla _ r2.2] at r5 r7 r10
      rw [hla _ r3.2] at r6 r8 r10
      rw [e1, e2, n1.2.2, n2.2.2]
      exact ⟨r1, ⟨n1.1, n1.2.1⟩, ⟨n2.1, n2.2.1⟩, r4, r5, r6, r7, r8, r9, r10⟩
    · right; right; right
      rw [htl] at r2
      have hr : p[i].rule ≠ 1 := by omega
      have n1 := h.nums p[i].first r2.1 r2.2 ((hcl hr).1 ⟨by omega, by omega⟩)
      have e1 : (renum nums i p[i]).first = nums.getD p[i].first 0 := by show (if p[i].rule ≠ 1 ∧ p[i].first ≤ i then _ else _) = _; rw [if_pos ⟨hr, r2.2⟩]
      have e2 : (renum nums i p[i]).second = 0 := by show (if p[i].second ≤ i then _ else _) = _; rw [if_pos (by omega), r3]; exact h.zero
      rw [hla _ r2.2] at r4 r5
      rw [e1, e2, n1.2.2]
      exact ⟨r1, ⟨n1.1, n1.2.1⟩, rfl, r4, r5⟩
  have hsl := h.len
  refine ⟨h.ok.snoc hnew, fun s hs => ?_, by rw [List.length_set]; exact h.nlen, ?_, fun j hj1 hji hmj => ?_, by simp; omega, ?_, fun hli => ?_⟩
  · rcases List.mem_append.1 hs with hs | hs
    · exact h.free s hs
    · simp at hs; subst hs
      rw [hlits, ← hself]; exact (hM.at_ _ hm).2.2
  · rw [getD_setN _ _ _ _ (by rw [h.nlen]; omega), if_neg (by omega)]; exact h.zero
  · rw [getD_setN _ _ _ _ (by rw [h.nlen]; omega)]
    by_cases e : i + 1 = j
    · subst e
      rw [if_pos rfl]
      exact ⟨by omega, by simp, by rw [litsAt_new, hlits, hself]⟩
    · rw [if_neg e]
      have := h.nums j hj1 (by omega) hmj
      exact ⟨this.1, by rw [List.length_append]; omega, by rw [litsAt_append _ _ _ this.2.1]; exact this.2.2⟩
  · rw [twos_snoc, hrule, List.take_succ_eq_append_getElem hi, twos_snoc]
    have := h.twos
    omega
  · by_cases e : last = i + 1
    · exact ⟨renum nums i p[i], by simp, by rw [hlits, e, hself]⟩
    · have := (hM.at_ _ hm).1
      omega
theorem shortSkip_ok {q : QS} {k : Nat} {p : List Stp} {mk : List Bool} {last i : Nat} (hi : i < p.length) (hM : MarkOk q k p last 0 mk) (h1 : 1 ≤ last) {sh : List Stp} {nums : List Nat} (h : ShortOk q k p mk last i sh nums) (hm : mk.getD (i + 1) false = false) : ShortOk q k p mk last (i + 1) sh nums := by
  refine ⟨h.ok, h.free, h.nlen, h.zero, fun j hj1 hji hmj => ?_, by have := h.len; omega, ?_, fun hli => ?_⟩
  · by_cases e : j = i + 1
    · subst e; rw [hm] at hmj; cases hmj
    · exact h.nums j hj1 (by omega) hmj
  · rw [List.take_succ_eq_append_getElem hi, twos_snoc]
    have := h.twos
    omega
  · by_cases e : last = i + 1
    · have := hM.last (by omega)
      rw [e, hm] at this; cases this
    · exact h.last (by omega)
theorem shortTo_ok {q : QS} {k : Nat} {p : List Stp} (hp : POk q k p) {mk : List Bool} {last : Nat} (h1 : 1 ≤ last) (hM : MarkOk q k p last 0 mk) : ∀ (m : Nat) (sh : List Stp) (nums : List Nat), m ≤ p.length → ShortOk q k p mk last (p.length - m) sh nums → ShortOk q k p mk last p.length (shortTo p mk m sh nums).1 (shortTo p mk m sh nums).2 := by
  intro m
  induction m with
  | zero => intro sh nums _ h; simpa [shortTo] using h
  | succ m ih =>
    intro sh nums hm h
    rw [shortTo]
    have hi : p.length - (m + 1) < p.length := by omega
    have hn : p.length - m = p.length - (m + 1) + 1 := by omega
    cases hmk : mk.getD (p.length - (m + 1) + 1) false with
    | true =>
      rw [if_pos rfl]
      exact ih _ _ (by omega) (by rw [hn]; exact shortStep_ok hp hi h1 hM h hmk)
    | false =>
      rw [if_neg (by decide)]
      exact ih _ _ (by omega) (by rw [hn]; exact shortSkip_ok hi hM h1 h hmk)
theorem short_ok {q : QS} {k : Nat} {p : List Stp} (hp : POk q k p) {last : Nat} (h1 : 1 ≤ last) (hl : last ≤ p.length) (hf : Free (litsAt p last)) :
    POk q k (shortOf p last) ∧ (∀ s ∈ shortOf p last, Free s.lits) ∧ (shortOf p last).length ≤ p.length ∧ twos (shortOf p last) ≤ twos p ∧ ∃ s, (shortOf p last).getLast? = some s ∧ s.lits = litsAt p last := by
  have hM := marks_ok hp h1 hl hf
  have hz : ∀ j, (List.replicate (p.length + 1) 0).getD j 0 = 0 := fun j => by
    rw [List.getD, List.getElem?_replicate]; split <;> rfl
  have h := shortTo_ok hp h1 hM p.length [] (List.replicate (p.length + 1) 0) (Nat.le_refl _) (by
    rw [Nat.sub_self]
    exact ⟨pok_nil q k, fun s hs => by simp at hs, by simp, hz 0, fun j h1 h2 => by omega, by simp, by simp [twos], fun h => by omega⟩)
  have ht := h.twos
  rw [List.take_length] at ht
  exact ⟨h.ok, h.free, h.len, ht, h.last hl⟩
end Go.Proofs.YtgipjjhkhfihpabGreatDoor

namespace Go.Proofs.YtgipjjhkhfihpabGreatDoor
open Go.RowKit

/-! ### Lines joined to a text, and cut again -/
def joinN (m : List (List UInt8)) : List UInt8 := m.flatMap (· ++ [10])
theorem cut_line (c : UInt8) (r : List UInt8) (h : c ∉ r) : ∀ (st : List (List UInt8) × List UInt8), r.foldl (cutStep c) st = (st.1, st.2 ++ r) := by
  induction r with
  | nil => intro st; simp
  | cons b r ih =>
    intro st
    rw [List.mem_cons, not_or] at h
    rw [List.foldl_cons, ih h.2]
    unfold cutStep
    rw [if_neg (Ne.symm h.1)]
    simp
theorem cut_join (m : List (List UInt8)) (h : ∀ r ∈ m, (10 : UInt8) ∉ r) : ∀ (st : List (List UInt8)), (joinN m).foldl (cutStep 10) (st, []) = (st ++ m, []) := by
  induction m with
  | nil => intro st; simp [joinN]
  | cons r m ih =>
    intro st
    have e : joinN (r :: m) = r ++ (10 :: joinN m) := by simp [joinN]
    rw [e, List.foldl_append, cut_line 10 r (h r (by simp)), List.foldl_cons]
    have e2 : cutStep 10 (st, [] ++ r) 10 = (st ++ [r], []) := by unfold cutStep; simp
    rw [e2, ih (fun x hx => h x (by simp [hx]))]
    simp
end Go.Proofs.YtgipjjhkhfihpabGreatDoor

namespace Go.Proofs.YtgipjjhkhfihpabGreatDoor
open Go.RowKit

/-! ### Numerals -/
theorem dec_snoc (l : List UInt8) (c : UInt8) : dec (l ++ [c]) = dec l * 10 + (c.toNat - 48) := by unfold dec; rw [List.foldl_append]; rfl
theorem digit_byte (d : Nat) (h : d < 10) : (UInt8.ofNat (48 + d)).toNat = 48 + d := by
  rw [UInt8.toNat_ofNat']; omega
theorem decDigits_ok (u : Nat) : dec (Lib.decDigits u) = u ∧ (Lib.decDigits u).all isDigit = true ∧ Lib.decDigits u ≠ [] ∧ (1 ≤ u → (Lib.decDigits u).head? ≠ some 48) := by
  induction u using Nat.strongRecOn with
  | _ u ih =>
    by_cases h : u < 10
    · rw [Lib.decDigits, dif_pos h]
      have hb := digit_byte u h
      refine ⟨by show 0 * 10 + ((UInt8.ofNat (48 + u)).toNat - 48) = u; rw [hb]; omega, by simp [isDigit]; omega, by simp, fun h1 e => ?_⟩
      have e' : UInt8.ofNat (48 + u) = 48 := by injection e
      have h5 := congrArg UInt8.toNat e'
      rw [hb] at h5
      have h6 : (48 : UInt8).toNat = 48 := rfl
      omega
    · rw [Lib.decDigits, dif_neg h]
      obtain ⟨i1, i2, i3, i4⟩ := ih (u / 10) (by omega)
      have hb := digit_byte (u % 10) (by omega)
      refine ⟨by rw [dec_snoc, i1, hb]; omega, ?_, by simp, fun _ => ?_⟩
      · rw [List.all_append, i2]
        simp [isDigit]; omega
      · cases hd : Lib.decDigits (u / 10) with
        | nil => exact absurd hd i3
        | cons a r =>
          have := i4 (by omega)
          rw [hd] at this
          simpa using this
theorem decDigits_len (u : Nat) (h : u < 1000000) : (Lib.decDigits u).length ≤ 6 := by
  obtain ⟨h1, h2, h3, h4⟩ := decDigits_ok u
  by_cases h0 : u = 0
  · subst h0; rw [Lib.decDigits, dif_pos (by decide)]; simp
  · apply Classical.byContradiction
    intro hn
    have h6 := dec_ge _ h2 h3 (h4 (by omega)) 6 (by omega)
    have hm := dec_mono (Lib.decDigits u) (6 + 1)
    rw [h1] at hm
    have : (10 : Nat) ^ 6 = 1000000 := by decide
    omega
theorem cnt_digits (u : Nat) (h1 : 1 ≤ u) (h : u ≤ 100000) : cnt (Lib.decDigits u) big = u := by
  obtain ⟨a, b, c, d⟩ := decDigits_ok u
  unfold cnt
  rw [if_pos ⟨b, decDigits_len u (by omega), d h1, by rw [a]; unfold big; omega⟩, a]
theorem digits_no (u : Nat) (x : UInt8) (hx : isDigit x = false) : x ∉ Lib.decDigits u := by
  intro hm
  have := (decDigits_ok u).2.1
  rw [List.all_eq_true] at this
  rw [this x hm] at hx; cases hx
theorem decDigits_small (v : Nat) (h : v < 10) : Lib.decDigits v = [UInt8.ofNat (48 + v)] := by rw [Lib.decDigits, dif_pos h]
/-- A literal's word. -/
theorem itoa_pos (v : Nat) : Lib.itoa (litI v true) = Lib.decDigits v := by
  have e0 : litI v true = (v : Int) := rfl
  unfold Lib.itoa; rw [e0, if_neg (by omega)]; simp
theorem itoa_neg' (v : Nat) (h : 1 ≤ v) : Lib.itoa (litI v false) = 45 :: Lib.decDigits v := by
  have e0 : litI v false = -(v : Int) := rfl
  unfold Lib.itoa; rw [e0, if_pos (by omega)]; simp
theorem dig_digit (v : Nat) (h1 : 1 ≤ v) (h8 : v ≤ 8) : dig (Lib.decDigits v) = (v : Int) := by
  rw [decDigits_small v (by omega)]
  have hb := digit_byte v (by omega)
  show (if 49 ≤ ((UInt8.ofNat (48 + v)).toNat : Int) ∧ ((UInt8.ofNat (48 + v)).toNat : Int) ≤ 56 then ((UInt8.ofNat (48 + v)).toNat : Int) - 48 else 0) = (v : Int)
  rw [hb, if_pos (by omega)]
  omega
theorem litInto_word (c : Nat × Nat) (v : Nat) (s : Bool) (h1 : 1 ≤ v) (h8 : v ≤ 8) : litInto c (Lib.itoa (litI v s)) = (withLit c (litI v s), true) ∧ litVar (Lib.itoa (litI v s)) = v := by
  have hd := dig_digit v h1 h8
  cases s with
  | true =>
    rw [itoa_pos]
    have hs := decDigits_small v (by omega)
    have hne : UInt8.ofNat (48 + v) ≠ 45 := fun e => by
      have := congrArg UInt8.toNat e
      rw [digit_byte v (by omega)] at this
      simp at this; omega
    constructor
    · unfold litInto
      split
      · next r he => rw [hs] at he; injection he with he; exact absurd he hne
      · next he =>
        rw [hd]
        have e0 : litI v true = (v : Int) := rfl
        unfold withLit
        rw [e0, if_neg (by omega), bitOf_nat v h1 h8]
        simp; omega
    · unfold litVar; rw [hd, if_neg (by omega)]; simp
  | false =>
    rw [itoa_neg' v h1]
    constructor
    · show ((c.1, c.2 ||| 2 ^ (dig (Lib.decDigits v)).toNat), decide (0 < dig (Lib.decDigits v))) = _
      rw [hd]
      have e0 : litI v false = -(v : Int) := rfl
      unfold withLit
      rw [e0, if_pos (by omega), Int.neg_neg, bitOf_nat v h1 h8]
      simp; omega
    · have h0 : dig (45 :: Lib.decDigits v) = 0 := by
        rw [decDigits_small v (by omega)]; rfl
      unfold litVar
      rw [if_pos h0]
      show (dig (Lib.decDigits v)).toNat = v
      rw [hd]; simp

/-! ### Lines -/
/-- The words of a step. -/
def wordsP (s : Stp) : List (List UInt8) :=
  if s.rule = 1 then [[97], Lib.decDigits s.first]
  else if s.rule = 2 then [99] :: (listOf s.lits).map Lib.itoa
  else if s.rule = 3 then [[114], Lib.decDigits s.first, Lib.decDigits s.second, Lib.decDigits s.var]
  else [[100], Lib.decDigits s.first]
def joinW : List (List UInt8) → List UInt8
  | [] => []
  | [w] => w
  | w :: ws => w ++ 32 :: joinW ws
theorem joinW_cut (ws : List (List UInt8)) (h : ∀ w ∈ ws, (32 : UInt8) ∉ w) : ws ≠ [] → ∀ st, (joinW ws).foldl (cutStep 32) (st, []) = (st ++ ws.dropLast, ws.getLastD []) := by
  induction ws with
  | nil => intro h; exact absurd rfl h
  | cons w ws ih =>
    intro _ st
    cases ws with
    | nil =>
      show w.foldl (cutStep 32) (st, []) = _
      rw [cut_line 32 w (h w (by simp))]; simp
    | cons x ws =>
      show (w ++ 32 :: joinW (x :: ws)).foldl (cutStep 32) (st, []) = _
      rw [List.foldl_append, cut_line 32 w (h w (by simp)), List.foldl_cons]
      have : cutStep 32 (st, [] ++ w) 32 = (st ++ [w], []) := by simp [cutStep]
      rw [this, ih (fun y hy => h y (by simp [hy])) (by simp) (st ++ [w])]
      simp
theorem cut_words (ws : List (List UInt8)) (h0 : ws ≠ []) (h : ∀ w ∈ ws, (32 : UInt8) ∉ w) : cutAt 32 (joinW ws) = ws := by
  unfold cutAt cutTo
  rw [joinW_cut ws h h0 []]
  simp only [List.nil_append]
  rw [List.getLastD_eq_getLast?, List.getLast?_eq_some_getLast h0]
  exact List.dropLast_concat_getLast h0
end Go.Proofs.YtgipjjhkhfihpabGreatDoor

namespace Go.Proofs.YtgipjjhkhfihpabGreatDoor

/-! ### Blocks, by the kinds of the variables -/
def kindAt (vs : List (Nat × Bool)) (i : Nat) : Bool := (vs.getD i (0, false)).2
def newAt (vs : List (Nat × Bool)) (i : Nat) : Bool := decide (0 < i) && (kindAt vs i != kindAt vs (i - 1))
/-- What the program has gathered behind k variables: whole blocks, and the one at hand. -/
def gather (vs : List (Nat × Bool)) : Nat → List (List Nat) × List Nat
  | 0 => ([], [])
  | k + 1 => if newAt vs k then ((gather vs k).1 ++ [(gather vs k).2], [(vs.getD k (0, false)).1]) else ((gather vs k).1, (gather vs k).2 ++ [(vs.getD k (0, false)).1])
def progBlocks (vs : List (Nat × Bool)) : List (List Nat) := if 0 < (gather vs vs.length).2.length then (gather vs vs.length).1 ++ [(gather vs vs.length).2] else (gather vs vs.length).1

/-- A piece of a list. -/
def piece (l : List Nat) (a b : Nat) : List Nat := (l.drop a).take (b - a)
theorem gather_pos (vs : List (Nat × Bool)) (k : Nat) : 0 < (gather vs (k + 1)).2.length := by
  rw [gather]; split <;> simp
end Go.Proofs.YtgipjjhkhfihpabGreatDoor

namespace Go.Proofs.YtgipjjhkhfihpabGreatDoor

/-! ### Both sides' blocks are the same -/
theorem all_fold (l : List (Nat × Bool)) : ∀ (a v : Nat), (l.foldl (fun a x => if x.2 then a ||| 2 ^ x.1 else a) a).testBit v = (a.testBit v || l.any (fun x => x.2 && x.1 == v)) := by
  induction l with
  | nil => intro a v; simp
  | cons x l ih =>
    intro a v
    rw [List.foldl_cons, ih, List.any_cons]
    cases x.2 with
    | false => simp
    | true =>
      rw [if_pos rfl, Nat.testBit_or, testBit_pow, Bool.or_assoc]; simp
theorem zip_map (l : List (Nat × Bool)) : (l.map (·.1)).zip (l.map (·.2)) = l := by
  induction l with
  | nil => rfl
  | cons x l ih => simp [ih]
theorem all_bit {st : RS} {q : QS} (h : Same st q) (v : Nat) : (finish st).all.testBit v = q.vars.any (fun x => x.2 && x.1 == v) := by
  show (allTo st st.told.length).testBit v = _
  unfold allTo
  rw [h.told, h.kinds, zip_map, List.length_map, List.take_length, all_fold]
  simp
theorem any_unique (l : List (Nat × Bool)) (hn : (l.map (·.1)).Nodup) (x : Nat × Bool) (hx : x ∈ l) : l.any (fun y => y.2 && y.1 == x.1) = x.2 := by
  induction l with
  | nil => simp at hx
  | cons y l ih =>
    rw [List.map_cons, List.nodup_cons] at hn
    rw [List.any_cons]
    rcases List.mem_cons.1 hx with e | hx
    · subst e
      have : l.any (fun y => y.2 && y.1 == x.1) = false := by
        rw [List.any_eq_false]
        intro z hz hh
        simp at hh
        exact hn.1 (by rw [← hh.2]; exact List.mem_map_of_mem hz)
      rw [this]; simp
    · rw [ih hn.2 hx]
      have : (y.1 == x.1) = false := by
        rw [beq_eq_false_iff_ne]; intro e; exact hn.1 (by rw [e]; exact List.mem_map_of_mem hx)
      rw [this]; simp
theorem free_eq {st : RS} {q : QS} (h : Same st q) : freeTo st 8 = freeQ q 8 := by
  unfold freeTo freeQ
  apply List.filter_congr
  intro v hv
  rw [List.mem_map] at hv
  obtain ⟨u, hu, rfl⟩ := hv
  have : u < 8 := by simpa using hu
  rw [h.used (u + 1) (by omega) (by omega), h.seen, Bool.and_comm]
theorem order_eq {st : RS} {q : QS} (h : Same st q) : (finish st).order = (qFinish q).vars.map (·.1) := by
  show freeTo st 8 ++ st.told = (exv (freeQ q 8) ++ q.vars).map (·.1)
  rw [free_eq h, h.told, List.map_append]
  congr 1
  simp [exv, Function.comp_def]
theorem kinds_eq {st : RS} {q : QS} (h : Same st q) (hn : QNice q) : ∀ x ∈ (qFinish q).vars, (finish st).all.testBit x.1 = x.2 := by
  intro x hx
  rw [all_bit h]
  rcases List.mem_append.1 (show x ∈ exv (freeQ q 8) ++ q.vars from hx) with hx | hx
  · unfold exv at hx
    rw [List.mem_map] at hx
    obtain ⟨v, hv, rfl⟩ := hx
    unfold freeQ at hv
    rw [List.mem_filter, Bool.and_eq_true, Bool.not_eq_true'] at hv
    have hh := hv.2.1
    dsimp only
    rw [List.any_eq_false]
    intro z hz hzz
    simp at hzz
    have : hasV q.vars v = true := by unfold hasV; rw [List.any_eq_true]; exact ⟨z, hz, by simpa using hzz.2⟩
    rw [hh] at this; cases this
  · exact any_unique _ hn.nodup x hx
/-- Names: rising bounds. -/
theorem nodup_lt : ∀ (n : Nat) (l : List Nat), l.Nodup → (∀ x ∈ l, x < n) → l.length ≤ n := by
  intro n
  induction n with
  | zero =>
    intro l _ h
    cases l with
    | nil => simp
    | cons x l => exact absurd (h x (by simp)) (by omega)
  | succ n ih =>
    intro l hn h
    have h1 := ih (l.erase n) (hn.erase n) (by
      intro x hx
      rw [hn.mem_erase_iff] at hx
      have := h x hx.2; omega)
    rw [List.length_erase] at h1
    split at h1 <;> omega
theorem nodup_le (l : List Nat) (hn : l.Nodup) (hb : ∀ x ∈ l, 1 ≤ x ∧ x ≤ 8) : l.length ≤ 8 := by
  have h := nodup_lt 9 (0 :: l) (by
    rw [List.nodup_cons]
    exact ⟨fun h => by have := hb 0 h; omega, hn⟩) (by
    intro x hx
    rcases List.mem_cons.1 hx with rfl | hx
    · omega
    · have := hb x hx; omega)
  simpa using h
theorem names_all {q : QS} (hn : QNice q) : ((qFinish q).vars.map (·.1)).Nodup ∧ ∀ x ∈ (qFinish q).vars, 1 ≤ x.1 ∧ x.1 ≤ 8 := by
  show ((exv (freeQ q 8) ++ q.vars).map (·.1)).Nodup ∧ ∀ x ∈ exv (freeQ q 8) ++ q.vars, 1 ≤ x.1 ∧ x.1 ≤ 8
  have e : (exv (freeQ q 8)).map (·.1) = freeQ q 8 := by simp [exv, Function.comp_def]
  have hmem : ∀ v ∈ freeQ q 8, (1 ≤ v ∧ v ≤ 8) ∧ hasV q.vars v = false := by
    intro v hv
    unfold freeQ at hv
    rw [List.mem_filter, Bool.and_eq_true, Bool.not_eq_true', List.mem_map] at hv
    obtain ⟨⟨u, hu, rfl⟩, hh, _⟩ := hv
    have : u < 8 := by simpa using hu
    exact ⟨by omega, hh⟩
  constructor
  · rw [List.map_append, e, List.nodup_append]
    refine ⟨?_, hn.nodup, ?_⟩
    · unfold freeQ
      refine List.Pairwise.filter _ ?_
      rw [List.pairwise_map]
      exact List.pairwise_lt_range.imp (fun h => by omega)
    · intro a ha b hb e
      subst e
      rw [List.mem_map] at hb
      obtain ⟨x, hx, hxe⟩ := hb
      have : hasV q.vars a = true := by unfold hasV; rw [List.any_eq_true]; exact ⟨x, hx, by simpa using hxe⟩
      rw [(hmem a ha).2] at this; cases this
  · intro x hx
    rcases List.mem_append.1 hx with hx | hx
    · unfold exv at hx
      rw [List.mem_map] at hx
      obtain ⟨v, hv, rfl⟩ := hx
      exact (hmem v hv).1
    · exact hn.names x hx
theorem vars_le {q : QS} (hn : QNice q) : (qFinish q).vars.length ≤ 8 := by
  have h := names_all hn
  have := nodup_le _ h.1 (by
    intro x hx
    rw [List.mem_map] at hx
    obtain ⟨y, hy, rfl⟩ := hx
    exact h.2 y hy)
  simpa using this

/-! ### Where blocks end: rising, within the variables -/
end Go.Proofs.YtgipjjhkhfihpabGreatDoor

namespace Go.Proofs.YtgipjjhkhfihpabGreatDoor
open Go.RowKit

/-! ### reduced -/
end Go.Proofs.YtgipjjhkhfihpabGreatDoor

namespace Go.Proofs.YtgipjjhkhfihpabGreatDoor
open Go.RowKit

/-! ### cube -/
/-- A clause, or that it is none; c is whatever. -/
def RStPost (res : Option (Nat × Nat)) (w : World) (e : Ending) (w' : World) : Prop :=
  Below w.heap.size w w' ∧ ∃ (c : Nat × Nat) (ok : Bool), e = .returned (.tuple #[.agg #[.int .i64 (c.1 : Int), .int .i64 (c.2 : Int)], .bool ok]) ∧ ((ok = true ∧ res = some c) ∨ (ok = false ∧ res = none))
theorem RStPost.none_ {res : Option (Nat × Nat)} {w w' : World} {e : Ending} (hb : Below w.heap.size w w') (h : res = none) (c : Nat × Nat) (he : e = .returned (.tuple #[.agg #[.int .i64 (c.1 : Int), .int .i64 (c.2 : Int)], .bool false])) : RStPost res w e w' :=
  ⟨hb, c, false, he, Or.inr ⟨rfl, h⟩⟩
theorem RStPost.some_ {res : Option (Nat × Nat)} {w w' : World} {e : Ending} (hb : Below w.heap.size w w') (c : Nat × Nat) (h : res = some c) (he : e = .returned (.tuple #[.agg #[.int .i64 (c.1 : Int), .int .i64 (c.2 : Int)], .bool true])) : RStPost res w e w' :=
  ⟨hb, c, true, he, Or.inl ⟨rfl, h⟩⟩
/-- What holds of a formula that was read, for the walks. -/
structure FW (F : Form) : Prop where
  len : F.order.length ≤ 8
  names : ∀ v ∈ F.order, v ≤ 8
  cl : F.cl.length ≤ 24
  bits : ∀ c ∈ F.cl, c.1 < 512 ∧ c.2 < 512
  all : F.all < 512

end Go.Proofs.YtgipjjhkhfihpabGreatDoor

namespace Go.Proofs.YtgipjjhkhfihpabGreatDoor
open Go.RowKit

theorem okC_eq (x c : Nat × Nat) : okC x c = !missed x c := by
  unfold okC missed
  have e : ((x.1 &&& c.1) ||| (x.2 &&& c.2) != 0) = !((x.1 &&& c.1 == 0) && (x.2 &&& c.2 == 0)) := by
    have : (x.1 &&& c.1) ||| (x.2 &&& c.2) = 0 ↔ (x.1 &&& c.1 = 0 ∧ x.2 &&& c.2 = 0) := by
      constructor
      · intro h
        constructor
        · apply Nat.eq_of_testBit_eq; intro i
          have : ((x.1 &&& c.1) ||| (x.2 &&& c.2)).testBit i = false := by rw [h]; simp
          rw [Nat.testBit_or, Bool.or_eq_false_iff] at this
          rw [this.1]; simp
        · apply Nat.eq_of_testBit_eq; intro i
          have : ((x.1 &&& c.1) ||| (x.2 &&& c.2)).testBit i = false := by rw [h]; simp
          rw [Nat.testBit_or, Bool.or_eq_false_iff] at this
          rw [this.2]; simp
      · rintro ⟨h1, h2⟩; rw [h1, h2]; rfl
    rw [Bool.eq_iff_iff, bne_iff_ne, Bool.not_eq_true', Bool.and_eq_false_iff, beq_eq_false_iff_ne, beq_eq_false_iff_ne, ne_eq, this, Classical.not_and_iff_not_or_not]
  rw [e]
  cases h1 : (x.1 &&& x.2 == 0) <;> cases h2 : (x.1 &&& c.1 == 0) <;> cases h3 : (x.2 &&& c.2 == 0) <;> simp [bne, h1]
/-! ### Of formulas that were read -/
theorem allTo_small (st : RS) (h : ∀ v ∈ st.told, v ≤ 8) (k : Nat) : allTo st k < 512 := by
  unfold allTo
  have hz : ∀ x ∈ ((st.told.zip st.kinds).take k), x.1 ≤ 8 := fun x hx => h _ (List.of_mem_zip (List.mem_of_mem_take hx)).1
  suffices hh : ∀ (l : List (Nat × Bool)) (a : Nat), a < 512 → (∀ x ∈ l, x.1 ≤ 8) → l.foldl (fun a x => if x.2 then a ||| 2 ^ x.1 else a) a < 512 from hh _ 0 (by omega) hz
  intro l
  induction l with
  | nil => intro a ha _; exact ha
  | cons x l ih =>
    intro a ha hx
    rw [List.foldl_cons]
    apply ih
    · split
      · have := pow_bd x.1 (hx x (by simp))
        exact or_lt _ _ ha (by omega)
      · exact ha
    · exact fun y hy => hx y (by simp [hy])
theorem big_bit (a v : Nat) (h : a < 512) (hv : a.testBit v = true) : v ≤ 8 := by
  apply Classical.byContradiction
  intro hn
  have : a.testBit v = false := Nat.testBit_lt_two_pow (Nat.lt_of_lt_of_le (show a < 2 ^ 9 from h) (Nat.pow_le_pow_right (by omega) (by omega)))
  rw [this] at hv; cases hv
theorem fq_of {st : RS} {q0 : QS} (hs : Same st q0) (hn : QNice q0) (hc : q0.cl.length ≤ 24) : FQ (finish st) (qFinish q0) ∧ FOk (finish st) ∧ FW (finish st) := by
  have ho := order_eq hs
  have hna := names_all hn
  have hk := kinds_eq hs hn
  have hcl : (finish st).cl = q0.cl := hs.cl
  have hbits : ∀ c ∈ q0.cl, Bd c := hn.bits
  have hlen := vars_le hn
  have hv : ∀ c ∈ q0.cl, ∀ v, c.1.testBit v = true ∨ c.2.testBit v = true → v ∈ (finish st).order := by
    intro c hcm v hb
    have h8 : v ≤ 8 := by
      rcases hb with hb | hb
      · exact big_bit _ _ (hn.bits c hcm).1 hb
      · exact big_bit _ _ (hn.bits c hcm).2 hb
    have h1 : 1 ≤ v := by
      rcases Nat.eq_zero_or_pos v with e | e
      · subst e
        have := hn.bit0 c hcm
        rcases hb with hb | hb
        · rw [this.1] at hb; cases hb
        · rw [this.2] at hb; cases hb
      · exact e
    show v ∈ freeTo st 8 ++ st.told
    rw [List.mem_append]
    by_cases hsv : hasV q0.vars v = true
    · right
      rw [hs.told, List.mem_map]
      unfold hasV at hsv
      rw [List.any_eq_true] at hsv
      obtain ⟨x, hx, he⟩ := hsv
      exact ⟨x, hx, by simpa using he⟩
    · left
      rw [free_eq hs]
      unfold freeQ
      rw [List.mem_filter]
      refine ⟨List.mem_map.2 ⟨v - 1, by simp; omega, by omega⟩, ?_⟩
      rw [Bool.and_eq_true]
      refine ⟨by simpa using hsv, ?_⟩
      unfold inC
      rw [List.any_eq_true]
      refine ⟨c, hcm, ?_⟩
      rw [bitOf_nat v h1 h8, and_pow_ne, Nat.testBit_or, Bool.or_eq_true]
      exact hb
  have hnm : ∀ v ∈ (finish st).order, 1 ≤ v ∧ v ≤ 8 := by
    intro v hvv
    rw [ho, List.mem_map] at hvv
    obtain ⟨x, hx, rfl⟩ := hvv
    exact hna.2 x hx
  have htold : ∀ v ∈ st.told, v ≤ 8 := by
    intro v hvv
    rw [hs.told, List.mem_map] at hvv
    obtain ⟨x, hx, rfl⟩ := hvv
    exact (hn.names x hx).2
  refine ⟨⟨ho, hk, hna.1, hna.2, hcl, hc, hbits, hv⟩, ⟨by rw [ho]; exact hna.1, hnm, by rw [hcl]; exact hbits, by rw [hcl]; exact hv⟩, ⟨by rw [ho]; simpa using hlen, fun v h => (hnm v h).2, by rw [hcl]; exact hc, by rw [hcl]; exact hn.bits, allTo_small st htold _⟩⟩
theorem qb_of {q0 : QS} (hn : QNice q0) (hc : q0.cl.length ≤ 24) : QB (qFinish q0) := ⟨vars_le hn, hc, hn.bits, (names_all hn).2⟩
end Go.Proofs.YtgipjjhkhfihpabGreatDoor

namespace Go.Proofs.YtgipjjhkhfihpabGreatDoor
open Go.RowKit

def lineP (s : Stp) : List UInt8 := joinW (wordsP s)
def headP (truth : Bool) : List UInt8 := if truth then sTrue else sFalse
def textP (truth : Bool) (p : List Stp) : List UInt8 := joinN (headP truth :: p.map lineP)
theorem kd_cases (truth : Bool) : (truth = false ∧ kd truth = 1) ∨ (truth = true ∧ kd truth = 2) := by cases truth <;> simp [kd]
theorem getD_lits (p : List Stp) (n : Nat) (h1 : 1 ≤ n) (hn : n ≤ p.length) : (p.map (·.lits)).getD (n - 1) (0, 0) = litsAt p n := by
  obtain ⟨m, rfl⟩ : ∃ m, n = m + 1 := ⟨n - 1, by omega⟩
  rw [litsAt_in p m (by omega), List.getD, Nat.add_sub_cancel, List.getElem?_map, List.getElem?_eq_getElem (by omega)]; rfl
theorem and_zero_of_free {c : Nat × Nat} (h : Free c) : c.1 &&& c.2 = 0 := apart_bits (fun v a b => h v a b)
theorem cube_words {q : QS} (_hq : QGood q) {F : Form} (hF : FQ F q) {c : Nat × Nat} (hc : LOk q c) (hf : Free c) : ∀ (k v : Nat) (acc : Nat × Nat) (last : Nat), v + k = 9 → 1 ≤ v → last < v → (∀ s u, u < v → L acc s u = L c s u) → (∀ s u, v ≤ u → L acc s u = false) → cubeTo F.order acc last ((listFrom c k v).map Lib.itoa) = some c := by
  intro k
  induction k with
  | zero =>
    intro v acc last hv h1 _ ha hb
    simp only [listFrom, List.map_nil, cubeTo]
    congr 1
    apply L_ext
    intro s u
    rcases Nat.lt_or_ge u v with h | h
    · exact ha s u h
    · rw [hb s u h]
      cases hh : L c s u with
      | false => rfl
      | true => have := L_le8 hc.bd hh; omega
  | succ k ih =>
    intro v acc last hv h1 hla ha hb
    have h8 : v ≤ 8 := by omega
    have hp : hasLit c (v : Int) = L c true v := hasLit_L c v true h1 h8
    have hn : hasLit c (-(v : Int)) = L c false v := hasLit_L c v false h1 h8
    have one : ∀ s, L c s v = true → cubeTo F.order acc last (Lib.itoa (litI v s) :: (listFrom c k (v + 1)).map Lib.itoa) = some c := by
      intro s hs
      obtain ⟨w1, w2⟩ := litInto_word acc v s h1 h8
      have hm : v ∈ F.order := by rw [hF.order]; exact hc.vars s v hs
      rw [cubeTo, w1, w2, if_pos ⟨rfl, hla, hm⟩]
      have hno := hf.not hs
      refine ih (v + 1) _ v (by omega) (by omega) (by omega) (fun t u hu => ?_) (fun t u hu => ?_)
      · rw [L_with _ _ _ h1 h8]
        by_cases e : u = v
        · subst e
          rw [hb t u (Nat.le_refl _)]
          cases s <;> cases t <;> simp_all
        · rw [ha t u (by omega)]; simp [e]
      · rw [L_with _ _ _ h1 h8, hb t u (by omega)]
        have : u ≠ v := by omega
        simp [this]
    rw [listFrom, hp, hn]
    cases e1 : L c true v with
    | true =>
      have e2 := hf.not e1
      simp only [Bool.not_true] at e2
      rw [e2]
      simpa [litI] using one true e1
    | false =>
      cases e2 : L c false v with
      | true => simpa [litI] using one false e2
      | false =>
        simp only [Bool.false_eq_true, if_false, List.nil_append]
        refine ih (v + 1) acc last (by omega) (by omega) (by omega) (fun t u hu => ?_) (fun t u hu => hb t u (by omega))
        by_cases e : u = v
        · subst e
          rw [hb t u (Nat.le_refl _)]
          cases t
          · exact e2.symm
          · exact e1.symm
        · exact ha t u (by omega)
theorem step_words {q : QS} (hq : QGood q) {F : Form} (hF : FQ F q) (hO : FOk F) {truth : Bool} {p : List Stp} (hl : p.length ≤ 9000) {s : Stp} (hs : StOk q (kd truth) p s) (hf : Free s.lits) :
    ∃ hd tl, wordsP s = hd :: tl ∧ stepR F truth (p.map (·.lits)) hd tl = some s.lits ∧ (hd = [114] ↔ s.rule = 3) ∧ ∀ w ∈ wordsP s, (32 : UInt8) ∉ w ∧ (10 : UInt8) ∉ w := by
  have nd : ∀ u, (32 : UInt8) ∉ Lib.decDigits u ∧ (10 : UInt8) ∉ Lib.decDigits u := fun u => ⟨digits_no u 32 (by decide), digits_no u 10 (by decide)⟩
  obtain ⟨hlok, hst⟩ := hs
  rcases hst with ⟨r1, r2, r3, r4, _, r6⟩ | ⟨r1, r2, _, _, _, r6⟩ | ⟨r1, r2, r3, ⟨x, hx, hxe, hxp⟩, r5, r6, r7, r8, r9, r10⟩ | ⟨r1, r2, _, r4, r5⟩
  · have ht : truth = false := (kd_cases truth).elim (fun h => h.1) (fun h => by omega)
    subst ht
    have hclen := hF.clen
    have hw : wordsP s = [[97], Lib.decDigits s.first] := by unfold wordsP; rw [if_pos r1]
    refine ⟨[97], [Lib.decDigits s.first], hw, ?_, ⟨fun h => by simp at h, fun h => by omega⟩, fun w hm => ?_⟩
    · unfold stepR
      rw [if_pos ⟨rfl, rfl, rfl⟩]
      show axR F (cnt (Lib.decDigits s.first) big) = _
      rw [cnt_digits s.first r3 (by omega)]
      unfold axR
      rw [hF.cl, if_neg (by omega), ← r6]
      unfold apartO
      rw [if_pos (and_zero_of_free hf)]
    · rw [hw] at hm
      rcases List.mem_cons.1 hm with rfl | hm
      · decide
      · simp at hm; subst hm; exact nd _
  · have ht : truth = true := (kd_cases truth).elim (fun h => by omega) (fun h => h.1)
    subst ht
    have hw : wordsP s = [99] :: (listOf s.lits).map Lib.itoa := by unfold wordsP; rw [if_neg (by omega), if_pos r1]
    refine ⟨[99], (listOf s.lits).map Lib.itoa, hw, ?_, ⟨fun h => by simp at h, fun h => by omega⟩, fun w hm => ?_⟩
    · unfold stepR
      rw [if_neg (by simp), if_pos ⟨rfl, rfl⟩]
      unfold cubeR
      rw [show listOf s.lits = listFrom s.lits 8 1 from rfl, cube_words hq hF hlok hf 8 1 (0, 0) 0 rfl (Nat.le_refl _) (by omega) (fun t u hu => by
        have : u = 0 := by omega
        subst this
        rw [L_zero]
        cases hh : L s.lits t 0 with
        | false => rfl
        | true => have := hq.name (hlok.vars t 0 hh); omega) (fun t u _ => L_zero t u)]
      show (if satR F.cl s.lits then some s.lits else none) = _
      have : satR F.cl s.lits = true := by
        rw [hF.cl]
        unfold satR
        unfold satQ at r6
        rw [← r6]
        congr 1
        funext y
        rw [okC_eq]
      rw [if_pos this]
    · rw [hw] at hm
      rcases List.mem_cons.1 hm with rfl | hm
      · decide
      · obtain ⟨z, hz, rfl⟩ := List.mem_map.1 hm
        obtain ⟨u, t, h1, h8, rfl, _⟩ := (listOf_mem _ _).1 hz
        cases t with
        | true => rw [itoa_pos]; exact nd u
        | false =>
          rw [itoa_neg' u h1]
          have := nd u
          simp [this.1, this.2]
  · have hv := hq.qb.names x hx
    rw [hxe] at hv
    have hw : wordsP s = [[114], Lib.decDigits s.first, Lib.decDigits s.second, Lib.decDigits s.var] := by unfold wordsP; rw [if_neg (by omega), if_neg (by omega), if_pos r1]
    refine ⟨[114], [Lib.decDigits s.first, Lib.decDigits s.second, Lib.decDigits s.var], hw, ?_, ⟨fun _ => r1, fun _ => rfl⟩, fun w hm => ?_⟩
    · unfold stepR
      rw [if_neg (by simp), if_neg (by simp), if_pos ⟨rfl, rfl⟩]
      show resR F truth (p.map (·.lits)) (cnt (Lib.decDigits s.first) big) (cnt (Lib.decDigits s.second) big) (cnt (Lib.decDigits s.var) big) = _
      rw [cnt_digits s.first r2.1 (by omega), cnt_digits s.second r3.1 (by omega), cnt_digits s.var hv.1 (by omega)]
      unfold resR
      rw [List.length_map, if_neg (by omega), getD_lits p _ r2.1 r2.2, getD_lits p _ r3.1 r3.2]
      have hk : F.all.testBit s.var = truth := by
        rw [← hxe, hF.kinds x hx]
        revert hxp
        unfold pivotB kd
        cases truth <;> cases x.2 <;> simp
      have e1 : (litsAt p s.first).1.testBit s.var = true := r5
      have e2 : (litsAt p s.second).2.testBit s.var = true := r6
      rw [if_neg (by rw [hk, e1, e2]; simp)]
      have hr : resolve2 (litsAt p s.first) (litsAt p s.second) s.var = s.lits := by
        rw [r10]
        have n1 := r7.not r5
        have n2 := r8.not r6
        simp only [Bool.not_true, Bool.not_false] at n1 n2
        apply L_ext
        intro t u
        rw [L_without2 _ _ _ hv.1 hv.2]
        unfold resolve2
        by_cases e : u = s.var
        · subst e
          cases t
          · have n1' : (litsAt p s.first).2.testBit s.var = false := n1
            simp [L, testBit_less, n1']
          · have n2' : (litsAt p s.second).1.testBit s.var = false := n2
            simp [L, testBit_less, n2']
        · have e' : s.var ≠ u := Ne.symm e
          cases t <;> simp [L, testBit_less, e, e']
      rw [hr]
      unfold apartO
      rw [if_pos (and_zero_of_free hf)]
    · rw [hw] at hm
      rcases List.mem_cons.1 hm with rfl | hm
      · decide
      · simp at hm
        rcases hm with rfl | rfl | rfl <;> exact nd _
  · have hw : wordsP s = [[100], Lib.decDigits s.first] := by unfold wordsP; rw [if_neg (by omega), if_neg (by omega), if_neg (by omega)]
    refine ⟨[100], [Lib.decDigits s.first], hw, ?_, ⟨fun h => by simp at h, fun h => by omega⟩, fun w hm => ?_⟩
    · unfold stepR
      rw [if_neg (by simp), if_neg (by simp), if_neg (by simp), if_pos ⟨rfl, rfl⟩]
      show reductR F truth (p.map (·.lits)) (cnt (Lib.decDigits s.first) big) = _
      rw [cnt_digits s.first r2.1 (by omega)]
      unfold reductR
      rw [List.length_map, if_neg (by omega), getD_lits p _ r2.1 r2.2, ← redQ_eq hF hO truth, ← r5]
    · rw [hw] at hm
      rcases List.mem_cons.1 hm with rfl | hm
      · decide
      · simp at hm; subst hm; exact nd _
end Go.Proofs.YtgipjjhkhfihpabGreatDoor

namespace Go.Proofs.YtgipjjhkhfihpabGreatDoor
open Go.RowKit

theorem joinW_len (ws : List (List UInt8)) (k : Nat) (h : ∀ w ∈ ws, w.length ≤ k) : (joinW ws).length ≤ (k + 1) * ws.length := by
  induction ws with
  | nil => simp [joinW]
  | cons w ws ih =>
    have h1 := h w (by simp)
    have h2 := ih (fun x hx => h x (by simp [hx]))
    cases ws with
    | nil => simp [joinW]; omega
    | cons x ws =>
      show (w ++ 32 :: joinW (x :: ws)).length ≤ _
      simp only [List.length_append, List.length_cons] at h2 ⊢
      rw [Nat.mul_add (k + 1) (ws.length + 1) 1]
      omega
theorem listFrom_free {c : Nat × Nat} (hf : Free c) : ∀ k v, 1 ≤ v → v + k ≤ 9 → (listFrom c k v).length ≤ k := by
  intro k
  induction k with
  | zero => intro v _ _; simp [listFrom]
  | succ k ih =>
    intro v h1 h9
    have hp : hasLit c (v : Int) = L c true v := hasLit_L c v true h1 (by omega)
    have hn : hasLit c (-(v : Int)) = L c false v := hasLit_L c v false h1 (by omega)
    have := ih (v + 1) (by omega) (by omega)
    rw [listFrom, hp, hn]
    cases e1 : L c true v with
    | true =>
      have e2 := hf.not e1
      simp only [Bool.not_true] at e2
      rw [e2]; simp; omega
    | false =>
      cases e2 : L c false v with
      | true => simp; omega
      | false => simp; omega
theorem lineP_len {s : Stp} (hf : Free s.lits) (h1 : s.rule ≠ 2 → s.first < 1000000) (h2 : s.rule = 3 → s.second < 1000000 ∧ s.var < 1000000) : (lineP s).length ≤ 28 := by
  unfold lineP wordsP
  split
  · have d1 := decDigits_len _ (h1 (by omega))
    have := joinW_len [[97], Lib.decDigits s.first] 6 (by simp; exact d1)
    simp at this; omega
  · split
    · have hl := listFrom_free hf 8 1 (by omega) (by omega)
      have := joinW_len ([99] :: (listOf s.lits).map Lib.itoa) 2 (by
        intro w hw
        rcases List.mem_cons.1 hw with rfl | hw
        · simp
        · obtain ⟨z, hz, rfl⟩ := List.mem_map.1 hw
          obtain ⟨u, t, hu1, hu8, rfl, _⟩ := (listOf_mem _ _).1 hz
          have hd := decDigits_small u (by omega)
          cases t with
          | true => rw [itoa_pos, hd]; simp
          | false => rw [itoa_neg' u hu1, hd]; simp)
      have e : (listOf s.lits).length ≤ 8 := hl
      simp only [List.length_cons, List.length_map] at this
      omega
    · have d1 := decDigits_len _ (h1 (by assumption))
      split
      · next h3 =>
        have d2 := decDigits_len _ (h2 h3).1
        have d3 := decDigits_len _ (h2 h3).2
        have := joinW_len [[114], Lib.decDigits s.first, Lib.decDigits s.second, Lib.decDigits s.var] 6 (by simp; exact ⟨d1, d2, d3⟩)
        simp at this; omega
      · have := joinW_len [[100], Lib.decDigits s.first] 6 (by simp; exact d1)
        simp at this; omega
theorem joinN_len (m : List (List UInt8)) (k : Nat) (h : ∀ r ∈ m, r.length ≤ k) : (joinN m).length ≤ (k + 1) * m.length := by
  induction m with
  | nil => simp [joinN]
  | cons r m ih =>
    have h1 := h r (by simp)
    have h2 := ih (fun x hx => h x (by simp [hx]))
    simp only [joinN, List.flatMap_cons, List.length_append, List.length_cons, List.length_nil] at h2 ⊢
    rw [Nat.mul_add]
    omega
theorem joinW_mem (ws : List (List UInt8)) (x : UInt8) (hx : x ≠ 32) (h : ∀ w ∈ ws, x ∉ w) : x ∉ joinW ws := by
  induction ws with
  | nil => simp [joinW]
  | cons w ws ih =>
    have h1 := h w (by simp)
    have h2 := ih (fun y hy => h y (by simp [hy]))
    cases ws with
    | nil => exact h1
    | cons y ws =>
      show x ∉ w ++ 32 :: joinW (y :: ws)
      rw [List.mem_append, List.mem_cons]
      rintro (h3 | h3 | h3)
      · exact h1 h3
      · exact hx h3
      · exact h2 h3
section
variable {q : QS} (hq : QGood q) {F : Form} (hF : FQ F q) (hO : FOk F) {truth : Bool} {p : List Stp} (hp : POk q (kd truth) p) (hf : ∀ s ∈ p, Free s.lits) (hl : p.length ≤ 9000)
include hq hF hO hp hf hl
theorem line_ok (i : Nat) (hi : i < p.length) : lineR F truth ((p.take i).map (·.lits)) (lineP p[i]) = some p[i].lits ∧ isTwo (lineP p[i]) = (p[i].rule == 3) ∧ (10 : UInt8) ∉ lineP p[i] := by
  obtain ⟨hd, tl, h1, h2, h3, h4⟩ := step_words hq hF hO (p := p.take i) (by simp; omega) (hp i hi) (hf _ (List.getElem_mem hi))
  have hc : cutAt 32 (lineP p[i]) = hd :: tl := by
    unfold lineP
    rw [cut_words _ (by rw [h1]; simp) (fun w hw => (h4 w hw).1), h1]
  refine ⟨?_, ?_, joinW_mem _ _ (by decide) (fun w hw => (h4 w hw).2)⟩
  · rw [lineR_eq F truth _ _ hd tl hc, if_neg (by simp; omega)]
    exact h2
  · unfold isTwo
    rw [hc]
    by_cases e : p[i].rule = 3
    · rw [h3.2 e, e]; rfl
    · have : hd ≠ [114] := fun h => e (h3.1 h)
      rw [show (p[i].rule == 3) = false from by simpa using e]
      simpa using this
theorem rows_ok : ∀ (m i n : Nat), i + m = p.length → rowsR F truth ((p.take i).map (·.lits)) n ((p.drop i).map lineP) = .inl (p.map (·.lits)) := by
  intro m
  induction m with
  | zero =>
    intro i n h
    rw [List.drop_eq_nil_of_le (by omega), List.take_of_length_le (by omega)]
    rfl
  | succ m ih =>
    intro i n h
    have hi : i < p.length := by omega
    rw [List.drop_eq_getElem_cons hi, List.map_cons, rowsR, (line_ok hq hF hO hp hf hl i hi).1]
    have := ih (i + 1) (n + 1) (by omega)
    rw [List.take_succ_eq_append_getElem hi, List.map_append] at this
    exact this
theorem two_ok : twoR (p.map lineP) = twos p := by
  unfold twoR twos
  rw [List.filter_map, List.length_map]
  congr 1
  apply List.filter_congr
  intro s hs
  obtain ⟨i, hi, rfl⟩ := List.mem_iff_getElem.1 hs
  exact (line_ok hq hF hO hp hf hl i hi).2.1
theorem proves_text (hlast : ∃ s, p.getLast? = some s ∧ s.lits = (0, 0)) : provesR F (textP truth p) = .inr (truth, twos p) := by
  have hno : ∀ r ∈ headP truth :: p.map lineP, (10 : UInt8) ∉ r := by
    intro r hr
    rcases List.mem_cons.1 hr with rfl | hr
    · cases truth <;> decide
    · obtain ⟨s, hs, rfl⟩ := List.mem_map.1 hr
      obtain ⟨i, hi, rfl⟩ := List.mem_iff_getElem.1 hs
      exact (line_ok hq hF hO hp hf hl i hi).2.2
  have hcut : cutTo 10 (textP truth p) = (headP truth :: p.map lineP, []) := by
    unfold cutTo textP
    rw [cut_join _ hno []]; rfl
  have hlen : ∀ r ∈ headP truth :: p.map lineP, r.length ≤ 28 := by
    intro r hr
    rcases List.mem_cons.1 hr with rfl | hr
    · cases truth <;> decide
    · obtain ⟨s, hs, rfl⟩ := List.mem_map.1 hr
      obtain ⟨i, hi, rfl⟩ := List.mem_iff_getElem.1 hs
      have htl : (p.take i).length ≤ 9000 := by simp; omega
      have hclen := hF.clen
      rcases (hp i hi).2 with ⟨h1, _, _, h4, _⟩ | ⟨h1, _⟩ | ⟨_, h2, h3, ⟨x, hx, hxe, _⟩, _⟩ | ⟨h1, h2, _⟩
      · exact lineP_len (hf _ hs) (fun _ => by omega) (fun h => by omega)
      · exact lineP_len (hf _ hs) (fun h => absurd h1 h) (fun h => by omega)
      · have hv := hq.qb.names x hx
        exact lineP_len (hf _ hs) (fun _ => by omega) (fun _ => ⟨by omega, by omega⟩)
      · exact lineP_len (hf _ hs) (fun _ => by omega) (fun h => by omega)
  have hlong : ¬ 262144 < (textP truth p).length := by
    have := joinN_len _ 28 hlen
    simp only [List.length_cons, List.length_map] at this
    unfold textP
    omega
  unfold provesR
  rw [if_neg hlong, hcut]
  dsimp only
  have hh : headP truth = sTrue ∨ headP truth = sFalse := by cases truth <;> simp [headP]
  have hb : (headP truth == sTrue) = truth := by cases truth <;> decide
  rw [if_pos hh, hb]
  have hr := rows_ok hq hF hO hp hf hl p.length 0 1 (by omega)
  simp only [List.take_zero, List.map_nil, List.drop_zero] at hr
  rw [hr]
  dsimp only
  have he : emptyLast (p.map (·.lits)) = true := by
    obtain ⟨s, h1, h2⟩ := hlast
    unfold emptyLast
    rw [List.getLast?_map, h1]
    show (s.lits.1 ||| s.lits.2 == 0) = true
    rw [h2]; rfl
  rw [if_pos ⟨rfl, he⟩, two_ok hq hF hO hp hf hl]
end
end Go.Proofs.YtgipjjhkhfihpabGreatDoor

namespace Go.Proofs.YtgipjjhkhfihpabGreatDoor
open Go.RowKit

/-! ### The whole search -/
theorem axioms_len (cl : List (Nat × Nat)) : (axioms cl).length = cl.length := by simp [axioms]
theorem axioms_at (cl : List (Nat × Nat)) (i : Nat) (h : i < cl.length) : (axioms cl)[i]'(by rw [axioms_len]; exact h) = ⟨1, i + 1, 0, 0, cl[i]⟩ := by
  simp [axioms]
theorem axioms_ok {q : QS} (hq : QGood q) : POk q 1 (axioms q.cl) := by
  intro i hi
  have h : i < q.cl.length := by rw [axioms_len] at hi; exact hi
  rw [axioms_at q.cl i h]
  have hm := List.getElem_mem h
  refine ⟨⟨hq.qb.bits _ hm, fun s v hv => hq.vars _ hm s v hv⟩, Or.inl ⟨rfl, rfl, by show 1 ≤ i + 1; omega, by show i + 1 ≤ _; omega, rfl, ?_⟩⟩
  show q.cl[i] = q.cl.getD (i + 1 - 1) (0, 0)
  rw [Nat.add_sub_cancel, List.getD, List.getElem?_eq_getElem h]; rfl
theorem begin_inv {q : QS} (hq : QGood q) (budget room : Nat) : SInv (beginC q budget room) (beginS q) := by
  refine ⟨axioms_ok hq, by show q.cl.length ≤ (axioms q.cl).length; rw [axioms_len]; exact Nat.le_refl _, fun i hi => ?_, pok_nil _ _, fun f hf => (by cases hf), Nat.zero_le _, Nat.zero_le _⟩
  have h : i < q.cl.length := hi
  show litsAt (axioms q.cl) (i + 1) = q.cl[i]
  rw [litsAt_in _ i (by rw [axioms_len]; exact h), axioms_at q.cl i h]
theorem uni_ok {q : QS} (hq : QGood q) : UniOk q (uniTo q.vars (0, 0)) := by
  have key : ∀ (vs : List (Nat × Bool)) (u : Nat × Nat), (∀ x ∈ vs, 1 ≤ x.1 ∧ x.1 ≤ 8) → ∀ s v, L (uniTo vs u) s v = true ↔ (L u s v = true ∨ ∃ x ∈ vs, x.1 = v ∧ x.2 = true) := by
    intro vs
    induction vs with
    | nil => intro u _ s v; simp [uniTo]
    | cons y vs ih =>
      intro u hn s v
      have hy := hn y (by simp)
      show L (uniTo vs (if y.2 then withLit (withLit u y.1) (-(y.1 : Int)) else u)) s v = true ↔ _
      rw [ih _ (fun x hx => hn x (by simp [hx]))]
      cases hu : y.2 with
      | false =>
        simp only [Bool.false_eq_true, if_false]
        constructor
        · rintro (h | ⟨x, hx, h1, h2⟩)
          · exact Or.inl h
          · exact Or.inr ⟨x, by simp [hx], h1, h2⟩
        · rintro (h | ⟨x, hx, h1, h2⟩)
          · exact Or.inl h
          · rcases List.mem_cons.1 hx with rfl | hx
            · rw [hu] at h2; cases h2
            · exact Or.inr ⟨x, hx, h1, h2⟩
      | true =>
        simp only [if_true]
        have e1 : ((y.1 : Nat) : Int) = litI y.1 true := rfl
        have e2 : -((y.1 : Nat) : Int) = litI y.1 false := rfl
        rw [e2, L_with _ _ _ hy.1 hy.2, e1, L_with _ _ _ hy.1 hy.2]
        constructor
        · rintro (h | ⟨x, hx, h1, h2⟩)
          · simp only [Bool.or_eq_true, Bool.and_eq_true, decide_eq_true_eq] at h
            rcases h with (h | h) | h
            · exact Or.inl h
            · exact Or.inr ⟨y, by simp, h.2.symm, hu⟩
            · exact Or.inr ⟨y, by simp, h.2.symm, hu⟩
          · exact Or.inr ⟨x, by simp [hx], h1, h2⟩
        · rintro (h | ⟨x, hx, h1, h2⟩)
          · exact Or.inl (by rw [h]; rfl)
          · rcases List.mem_cons.1 hx with rfl | hx
            · left
              subst h1
              cases s <;> simp
            · exact Or.inr ⟨x, hx, h1, h2⟩
  intro s v
  rw [key q.vars (0, 0) hq.qb.names s v, L_zero]
  simp
/-- What is told of a formula. -/
structure Told (F : Form) (q : QS) (budget room : Nat) (r : SS × (Nat × Nat)) : Prop where
  kind : r.2.1 = 0 ∨ r.2.1 = 1 ∨ r.2.1 = 2
  unknown : r.2.1 = 0 → 0 < budget ∧ r.1.nodes = budget
  one : 1 ≤ r.1.nodes
  most : r.1.nodes + 1 ≤ 2 ^ (q.vars.length + 1)
  upto : 0 < budget → r.1.nodes ≤ budget
  lemmas : r.1.most ≤ room
  inv : SInv (beginC q budget room) r.1
  size : sizeS r.1 ≤ 24 + 12 * r.1.nodes
  proof : r.2.1 ≠ 0 → 1 ≤ r.2.2 ∧ r.2.2 ≤ (r.1.proof r.2.1).length ∧ provesR F (textP (r.2.1 == 2) (shortOf (r.1.proof r.2.1) r.2.2)) = .inr (r.2.1 == 2, twos (shortOf (r.1.proof r.2.1) r.2.2)) ∧ twos (shortOf (r.1.proof r.2.1) r.2.2) ≤ twos (r.1.proof r.2.1)
theorem solve_ok {F : Form} {q : QS} (hq : QGood q) (hF : FQ F q) (hO : FOk F) (budget room : Nat) : Told F q budget room (solveM q budget room) := by
  have hl := look_ok (C := beginC q budget room) hq (uni_ok hq) q.vars.length 0 (0, 0) (beginS q) (begin_inv hq budget room) (path_zero q) (by simp; rfl)
  unfold solveM
  generalize lookM (beginC q budget room) q.vars.length (0, 0) 0 (beginS q) = r at *
  have h0 : (beginS q).nodes = 0 := rfl
  have hsz : sizeS (beginS q) ≤ 24 := by
    show (axioms q.cl).length + 0 ≤ 24
    rw [axioms_len]
    have := hq.qb.cl
    omega
  have hvl := hq.qb.vl
  have hone : 1 ≤ r.1.nodes := by
    have := hl.some (by rintro ⟨h1, h2⟩; rw [h0] at h2; have : (beginC q budget room).budget = budget := rfl; omega)
    rw [h0] at this; omega
  have hmost := hl.most
  rw [h0] at hmost
  have hsize := hl.size
  rw [h0] at hsize
  have hp512 : 2 ^ (q.vars.length + 1) ≤ 512 := by
    have : 2 ^ (q.vars.length + 1) ≤ 2 ^ 9 := Nat.pow_le_pow_right (by decide) (by omega)
    simpa using this
  have hkind : r.2.1 = 0 ∨ r.2.1 = 1 ∨ r.2.1 = 2 := by
    by_cases h : r.2.1 = 0
    · exact Or.inl h
    · exact Or.inr (hl.fact h).inn.kind
  refine ⟨hkind, fun h => ?_, hone, by omega, fun h => hl.budget h (by rw [h0]; omega), hl.inv.most, hl.inv, by omega, fun h => ?_⟩
  · have h1 := hl.unknown h
    have h2 := hl.budget h1.1 (by rw [h0]; exact Nat.zero_le _)
    exact ⟨h1.1, Nat.le_antisymm h2 h1.2⟩
  · have hf := hl.fact h
    have hlits : r.1.lits r.2 = (0, 0) := by
      apply L_ext
      intro s v
      rw [L_zero]
      cases hh : L (r.1.lits r.2) s v with
      | false => rfl
      | true => have := hf.on s v hh; rw [L_zero] at this; cases this
    have hk : r.2.1 = kd (r.2.1 == 2) := by
      rcases hf.inn.kind with e | e <;> rw [e] <;> rfl
    have hpok : POk q (kd (r.2.1 == 2)) (r.1.proof r.2.1) := by
      have := hl.inv.pok hf.inn.kind
      rw [← hk]; exact this
    obtain ⟨s1, s2, s3, s4, s, s5, s6⟩ := short_ok hpok hf.inn.lo hf.inn.hi hf.inn.free
    have hplen : (r.1.proof r.2.1).length ≤ 9000 := by
      have : (r.1.proof r.2.1).length ≤ sizeS r.1 := by
        unfold SS.proof sizeS
        split <;> omega
      omega
    refine ⟨hf.inn.lo, hf.inn.hi, proves_text hq hF hO s1 s2 (by omega) ⟨s, s5, s6.trans hlits⟩, s4⟩
end Go.Proofs.YtgipjjhkhfihpabGreatDoor

namespace Go.Proofs.YtgipjjhkhfihpabGreatDoor
open Go.RowKit

/-! ### Units -/
end Go.Proofs.YtgipjjhkhfihpabGreatDoor

namespace Go.Proofs.YtgipjjhkhfihpabGreatDoor
open Go.RowKit

/-! ### Units, as the document counts them -/
section
variable {q : QS} (hq : QGood q) {F : Form} (hF : FQ F q) {uni : Nat × Nat} (hu : UniOk q uni)
include hq hF hu
end
end Go.Proofs.YtgipjjhkhfihpabGreatDoor

namespace Go.Proofs.YtgipjjhkhfihpabGreatDoor
open Go.RowKit

/-! ### What is told -/
/-- The verdict: kind, nodes, lemmas, text. -/
structure Vd where
  kind : Nat
  nodes : Nat
  lemmas : Nat
  text : List UInt8
def verdict (q : QS) (budget room : Nat) : Vd :=
  let r := solveM q budget room
  ⟨r.2.1, r.1.nodes, r.1.most, if r.2.1 = 0 then [] else textP (r.2.1 == 2) (shortOf (r.1.proof r.2.1) r.2.2)⟩
end Go.Proofs.YtgipjjhkhfihpabGreatDoor

namespace Go.Proofs.YtgipjjhkhfihpabGreatDoor
open Go.RowKit

/-! ### Verdicts of texts -/
theorem kgood {F : Form} {q : QS} (h : FQ F q) (hb : QB q) : QGood q :=
  ⟨hb, h.nodup, fun c hc s v hl => by
    rw [← h.order]
    refine h.vars c hc v ?_
    cases s with
    | true => exact Or.inl hl
    | false => exact Or.inr hl⟩
/-- A text that was read: the formula on both sides. -/
theorem load_good {l : List UInt8} {q : QS} (h : loadSpec l = .inr q) : QGood q ∧ ∃ F, readSpec l = .inr F ∧ FQ F q ∧ FOk F := by
  have hs := spec_eq l
  rw [h] at hs
  obtain ⟨st, q0, h1, h2, rfl, h3, h4⟩ := hs
  obtain ⟨f1, f2, f3⟩ := fq_of h2 h4 h3
  exact ⟨kgood f1 (qb_of h4 h3), finish st, h1, f1, f2⟩
/-- What holds of a verdict whose budget is not told. -/
structure VFree (F : Form) (room : Nat) (v : Vd) : Prop where
  kind : v.kind = (if fromL (satB F.cl) F.all F.order 0 then 2 else 1)
  one : 1 ≤ v.nodes
  lem : v.lemmas ≤ room
  small : v.nodes ≤ 512
theorem vfree {F : Form} {q : QS} (hq : QGood q) (hF : FQ F q) (hO : FOk F) (room : Nat) : VFree F room (verdict q 0 room) := by
  have h := solve_ok hq hF hO 0 room
  have hk : (verdict q 0 room).kind = (solveM q 0 room).2.1 := rfl
  have hn : (verdict q 0 room).nodes = (solveM q 0 room).1.nodes := rfl
  have hm : (verdict q 0 room).lemmas = (solveM q 0 room).1.most := rfl
  have h0 : (solveM q 0 room).2.1 ≠ 0 := fun e => by have := (h.unknown e).1; omega
  have hvl := hq.qb.vl
  refine ⟨?_, by rw [hn]; exact h.one, by rw [hm]; exact h.lemmas, ?_⟩
  · rw [hk, proves_sound hO _ _ _ (h.proof h0).2.2.1]
    rcases h.kind with e | e | e
    · exact absurd e h0
    · rw [e]; rfl
    · rw [e]; rfl
  · rw [hn]
    have h1 := h.most
    have h3 : 2 ^ (q.vars.length + 1) ≤ 2 ^ 9 := Nat.pow_le_pow_right (by decide) (by omega)
    have h4 : (2 : Nat) ^ 9 = 512 := by decide
    omega
theorem VFree.two {F : Form} {room : Nat} {v : Vd} (h : VFree F room v) : v.kind = 1 ∨ v.kind = 2 := by
  rw [h.kind]; split
  · exact Or.inr rfl
  · exact Or.inl rfl
/-- The verdict of a text, and its proof. -/
def vkind (l : List UInt8) : Nat × List UInt8 := match loadSpec l with
  | .inl _ => (0, [])
  | .inr q => ((verdict q 0 8).kind, (verdict q 0 8).text)
theorem vkind_bad {l : List UInt8} {a : Nat × Nat} (h : loadSpec l = .inl a) : vkind l = (0, []) := by unfold vkind; rw [h]
theorem vkind_good {l : List UInt8} {q : QS} (h : loadSpec l = .inr q) : vkind l = ((verdict q 0 8).kind, (verdict q 0 8).text) := by unfold vkind; rw [h]
theorem vkind_two {l : List UInt8} {q : QS} (h : loadSpec l = .inr q) : (vkind l).1 = 1 ∨ (vkind l).1 = 2 := by
  obtain ⟨hq, F, _, hF, hO⟩ := load_good h
  rw [vkind_good h]
  exact (vfree hq hF hO 8).two
theorem vkind_nil : (vkind []).1 = 2 := by kernel_rfl
theorem vkind_c : (vkind [99, 10]).1 = 1 := by kernel_rfl
end Go.Proofs.YtgipjjhkhfihpabGreatDoor

namespace Go.Proofs.YtgipjjhkhfihpabGreatDoor
open Go.RowKit

/-! ### A formula's text, by its lines -/
def varsOf : List (List UInt8) → Option (List Nat)
  | [] => some []
  | w :: ws => if 0 < dig w then (varsOf ws).map ((dig w).toNat :: ·) else none
/-- A line of the prefix: its kind, its variables. -/
def prefRow (row : List UInt8) : Option (Bool × List Nat) :=
  match cutAt 32 row with
  | [] => none
  | hd :: tl => if (hd = [101] ∨ hd = [97]) ∧ tl ≠ [] then (varsOf tl).map (fun vs => (hd == [97], vs)) else none
/-- A line of a clause. -/
def clRow (row : List UInt8) : Option (Nat × Nat) :=
  match cutAt 32 row with
  | [] => none
  | hd :: tl => if hd = [99] ∧ (litsTo tl).2 = true then some (litsTo tl).1 else none
def prefs : List (List UInt8) → Option (List (Bool × List Nat))
  | [] => some []
  | r :: rs => match prefRow r, prefs rs with
    | some p, some ps => some (p :: ps)
    | _, _ => none
def cls : List (List UInt8) → Option (List (Nat × Nat))
  | [] => some []
  | r :: rs => match clRow r, cls rs with
    | some p, some ps => some (p :: ps)
    | _, _ => none
def toldP (ps : List (Bool × List Nat)) : List Nat := ps.flatMap (·.2)
def kindsP (ps : List (Bool × List Nat)) : List Bool := ps.flatMap (fun x => x.2.map (fun _ => x.1))
structure StIs (st : RS) (ps : List (Bool × List Nat)) (cs : List (Nat × Nat)) : Prop where
  cl : st.cl = cs
  told : st.told = toldP ps
  kinds : st.kinds = kindsP ps
  seen : ∀ v, st.seen.testBit v = decide (v ∈ toldP ps)
  used : ∀ v, st.used.testBit v = cs.any (fun c => (c.1 ||| c.2).testBit v)

theorem fold_bad (a : Bool) (ws : List (List UInt8)) : ∀ (p : PS), p.ok = false → (ws.foldl (varStep a) p).ok = false := by
  induction ws with
  | nil => intro p h; exact h
  | cons w ws ih => intro p h; refine ih _ ?_; simp [varStep, h]
theorem vars_fold (a : Bool) (ws : List (List UInt8)) : ∀ (p : PS), p.ok = true → p.told.Nodup → (∀ v, p.seen.testBit v = decide (v ∈ p.told)) →
    match varsOf ws with
    | none => (ws.foldl (varStep a) p).ok = false
    | some vs => if (p.told ++ vs).Nodup then (ws.foldl (varStep a) p).ok = true ∧ (ws.foldl (varStep a) p).told = p.told ++ vs ∧ (ws.foldl (varStep a) p).kinds = p.kinds ++ vs.map (fun _ => a) ∧ (∀ v, (ws.foldl (varStep a) p).seen.testBit v = decide (v ∈ p.told ++ vs)) else (ws.foldl (varStep a) p).ok = false := by
  induction ws with
  | nil =>
    intro p h1 h2 h3
    show if (p.told ++ []).Nodup then _ else _
    rw [List.append_nil, if_pos h2]
    exact ⟨h1, rfl, by simp, h3⟩
  | cons w ws ih =>
    intro p h1 h2 h3
    obtain ⟨d0, d1⟩ := dig_bd w
    obtain ⟨dn, hdn⟩ := Int.eq_ofNat_of_zero_le d0
    have hvs := varStep_eq a p w dn hdn
    rw [varsOf, List.foldl_cons, hvs, hdn]
    by_cases hz : dn = 0
    · subst hz
      rw [if_neg (by simp)]
      exact fold_bad a ws _ (by simp)
    · rw [if_pos (by omega)]
      simp only [Int.toNat_natCast]
      by_cases hs : p.seen.testBit dn = true
      · have hm : dn ∈ p.told := by rw [h3] at hs; simpa using hs
        have hbad : (ws.foldl (varStep a) ⟨p.told ++ [dn], p.kinds ++ [a], p.seen ||| 2 ^ dn, if dn = 0 ∨ p.seen.testBit dn = true then false else p.ok⟩).ok = false := fold_bad a ws _ (by rw [if_pos (Or.inr hs)])
        cases varsOf ws with
        | none => exact hbad
        | some vs =>
          simp only [Option.map_some]
          rw [if_neg]
          · exact hbad
          · intro hn
            rw [List.nodup_append] at hn
            exact hn.2.2 dn hm dn (by simp) rfl
      · have hnm : dn ∉ p.told := fun hm => hs (by rw [h3]; simpa using hm)
        have hok : (if dn = 0 ∨ p.seen.testBit dn = true then false else p.ok) = true := by rw [if_neg (by rintro (h | h); exact hz h; exact hs h)]; exact h1
        have hnd : (p.told ++ [dn]).Nodup := by
          rw [List.nodup_append]
          refine ⟨h2, by simp, ?_⟩
          intro x hx y hy e
          simp at hy; subst hy; subst e; exact hnm hx
        have hih := ih ⟨p.told ++ [dn], p.kinds ++ [a], p.seen ||| 2 ^ dn, if dn = 0 ∨ p.seen.testBit dn = true then false else p.ok⟩ hok hnd (by
          intro v
          show (p.seen ||| 2 ^ dn).testBit v = decide (v ∈ p.told ++ [dn])
          rw [Nat.testBit_or, h3, Nat.testBit_two_pow]
          by_cases e : dn = v
          · subst e; simp
          · have : (v = dn) = False := by simp [Ne.symm e]
            simp [e, this])
        cases hv : varsOf ws with
        | none => rw [hv] at hih; exact hih
        | some vs =>
          rw [hv] at hih
          dsimp only at hih
          simp only [Option.map_some]
          have e : p.told ++ [dn] ++ vs = p.told ++ dn :: vs := by simp
          have e2 : p.kinds ++ [a] ++ vs.map (fun _ => a) = p.kinds ++ (dn :: vs).map (fun _ => a) := by simp
          rw [e, e2] at hih
          exact hih

theorem toldP_snoc (ps : List (Bool × List Nat)) (x : Bool × List Nat) : toldP (ps ++ [x]) = toldP ps ++ x.2 := by simp [toldP]
theorem kindsP_snoc (ps : List (Bool × List Nat)) (x : Bool × List Nat) : kindsP (ps ++ [x]) = kindsP ps ++ x.2.map (fun _ => x.1) := by simp [kindsP]
/-- A line of the prefix. -/
theorem pref_step {st : RS} {ps : List (Bool × List Nat)} (h : StIs st ps []) (hn : (toldP ps).Nodup) (row : List UInt8) :
    match prefRow row with
    | some x => if (toldP (ps ++ [x])).Nodup then (rowStep st row).2 = true ∧ StIs (rowStep st row).1 (ps ++ [x]) [] else (rowStep st row).2 = false
    | none => clRow row = none → (rowStep st row).2 = false := by
  unfold prefRow
  cases hw : cutAt 32 row with
  | nil => intro _; unfold rowStep; rw [hw]
  | cons hd tl =>
    dsimp only
    by_cases hc : (hd = [101] ∨ hd = [97]) ∧ tl ≠ []
    · rw [if_pos hc]
      have hp := rowStep_p st row hd tl hw hc.1 h.cl hc.2
      have hf := vars_fold (hd == [97]) tl ⟨st.told, st.kinds, st.seen, true⟩ rfl (by rw [h.told]; exact hn) (by intro v; rw [h.seen, h.told])
      cases hv : varsOf tl with
      | none =>
        rw [hv] at hf
        intro _
        rw [hp]; exact hf
      | some vs =>
        rw [hv] at hf
        dsimp only [Option.map_some] at hf ⊢
        rw [toldP_snoc, ← h.told]
        by_cases hd2 : (st.told ++ vs).Nodup
        · rw [if_pos hd2] at hf ⊢
          obtain ⟨f1, f2, f3, f4⟩ := hf
          rw [hp]
          refine ⟨f1, ⟨h.cl, ?_, ?_, ?_, h.used⟩⟩
          · rw [toldP_snoc, ← h.told]; exact f2
          · rw [kindsP_snoc, ← h.kinds]; exact f3
          · intro v; rw [toldP_snoc, ← h.told]; exact f4 v
        · rw [if_neg hd2] at hf ⊢
          rw [hp]; exact hf
    · rw [if_neg hc]
      intro hcl
      by_cases h99 : hd = [99]
      · subst h99
        rw [rowStep_c st row tl hw]
        unfold clRow at hcl
        rw [hw] at hcl
        dsimp only at hcl
        cases hl : (litsTo tl).2 with
        | false => rfl
        | true => rw [if_pos ⟨rfl, hl⟩] at hcl; cases hcl
      · exact rowStep_n st row hd tl hw h99 (fun hh => hc ⟨hh.1, hh.2.2⟩)
/-- A line of a clause. -/
theorem cl_step {st : RS} {ps : List (Bool × List Nat)} {cs : List (Nat × Nat)} (h : StIs st ps cs) (row : List UInt8) (c : Nat × Nat) (hc : clRow row = some c) : (rowStep st row).2 = true ∧ StIs (rowStep st row).1 ps (cs ++ [c]) := by
  unfold clRow at hc
  cases hw : cutAt 32 row with
  | nil => rw [hw] at hc; cases hc
  | cons hd tl =>
    rw [hw] at hc
    dsimp only at hc
    split at hc
    · next hh =>
      obtain ⟨rfl, hl⟩ := hh
      have hc' : (litsTo tl).1 = c := Option.some.inj hc
      rw [rowStep_c st row tl hw, hl, hc']
      refine ⟨rfl, ⟨by rw [h.cl], h.told, h.kinds, h.seen, ?_⟩⟩
      intro v
      show (st.used ||| c.1 ||| c.2).testBit v = _
      rw [List.any_append, Nat.testBit_or, Nat.testBit_or, h.used]
      simp [Nat.testBit_or, Bool.or_assoc]
    · cases hc
theorem cl_none {st : RS} (hcl : st.cl ≠ []) (row : List UInt8) (hc : clRow row = none) : (rowStep st row).2 = false := by
  unfold clRow at hc
  cases hw : cutAt 32 row with
  | nil => unfold rowStep; rw [hw]
  | cons hd tl =>
    rw [hw] at hc
    dsimp only at hc
    by_cases h99 : hd = [99]
    · subst h99
      rw [rowStep_c st row tl hw]
      cases hl : (litsTo tl).2 with
      | false => rfl
      | true => rw [if_pos ⟨rfl, hl⟩] at hc; cases hc
    · exact rowStep_n st row hd tl hw h99 (fun hh => hcl hh.2.1)

/-- Clauses alone. -/
theorem read_cls (rows : List (List UInt8)) : ∀ (st : RS) (ps : List (Bool × List Nat)) (cs : List (Nat × Nat)) (i : Nat), StIs st ps cs → cs ≠ [] →
    match cls rows with
    | some ds => ∃ st', readRows st i rows = .inl st' ∧ StIs st' ps (cs ++ ds)
    | none => ∃ j, readRows st i rows = .inr j := by
  induction rows with
  | nil => intro st ps cs i h _; exact ⟨st, rfl, by simpa using h⟩
  | cons r rows ih =>
    intro st ps cs i h hne
    rw [cls, readRows]
    cases hc : clRow r with
    | none => rw [if_neg (by rw [cl_none (by rw [h.cl]; exact hne) r hc]; decide)]; exact ⟨_, rfl⟩
    | some c =>
      obtain ⟨h1, h2⟩ := cl_step h r c hc
      rw [if_pos h1]
      have hih := ih _ ps (cs ++ [c]) (i + 1) h2 (by simp)
      cases hd : cls rows with
      | none => rw [hd] at hih; exact hih
      | some ds =>
        rw [hd] at hih
        obtain ⟨st', e1, e2⟩ := hih
        exact ⟨st', e1, by simpa using e2⟩
/-- What a list of lines says: lines of the prefix, then of clauses. -/
def norm : List (Bool × List Nat) → List (List UInt8) → Option (List (Bool × List Nat) × List (Nat × Nat))
  | ps, [] => some (ps, [])
  | ps, r :: rs => match prefRow r with
    | some x => if (toldP (ps ++ [x])).Nodup then norm (ps ++ [x]) rs else none
    | none => (cls (r :: rs)).map (fun cs => (ps, cs))
theorem read_norm (rows : List (List UInt8)) : ∀ (st : RS) (ps : List (Bool × List Nat)) (i : Nat), StIs st ps [] → (toldP ps).Nodup →
    match norm ps rows with
    | some (qs, cs) => ∃ st', readRows st i rows = .inl st' ∧ StIs st' qs cs ∧ (toldP qs).Nodup
    | none => ∃ j, readRows st i rows = .inr j := by
  induction rows with
  | nil => intro st ps i h hn; exact ⟨st, rfl, h, hn⟩
  | cons r rows ih =>
    intro st ps i h hn
    have hp := pref_step h hn r
    rw [norm]
    cases hr : prefRow r with
    | some x =>
      rw [hr] at hp
      dsimp only at hp ⊢
      by_cases hd : (toldP (ps ++ [x])).Nodup
      · rw [if_pos hd] at hp ⊢
        rw [readRows, if_pos hp.1]
        exact ih _ _ _ hp.2 hd
      · rw [if_neg hd] at hp ⊢
        rw [readRows, if_neg (by rw [hp]; decide)]
        exact ⟨_, rfl⟩
    | none =>
      rw [hr] at hp
      dsimp only at hp ⊢
      cases hc : clRow r with
      | none =>
        have hcl : cls (r :: rows) = none := by rw [cls, hc]
        rw [hcl, readRows, if_neg (by rw [hp hc]; decide)]
        exact ⟨_, rfl⟩
      | some c =>
        obtain ⟨h1, h2⟩ := cl_step h r c hc
        have hih := read_cls rows _ ps [c] (i + 1) h2 (by simp)
        rw [cls, hc]
        cases hd : cls rows with
        | none =>
          rw [hd] at hih
          rw [readRows, if_pos h1]
          exact hih
        | some ds =>
          rw [hd] at hih
          obtain ⟨st', e1, e2⟩ := hih
          rw [readRows, if_pos h1]
          exact ⟨st', e1, by simpa using e2, hn⟩
theorem st0_is : StIs rs0 [] [] := ⟨rfl, rfl, rfl, fun v => by simp [rs0, toldP], fun v => by simp [rs0]⟩
/-- A TEXT IS A FORMULA, BY ITS LINES. -/
theorem readSpec_norm (l : List UInt8) : match readSpec l with
    | .inl _ => 2000 < l.length ∨ (cutAt 10 l).getLast? ≠ some [] ∨ norm [] (cutAt 10 l).dropLast = none ∨ ∃ qs cs, norm [] (cutAt 10 l).dropLast = some (qs, cs) ∧ 24 < cs.length
    | .inr F => l.length ≤ 2000 ∧ (cutAt 10 l).getLast? = some [] ∧ ∃ qs cs st, norm [] (cutAt 10 l).dropLast = some (qs, cs) ∧ cs.length ≤ 24 ∧ (toldP qs).Nodup ∧ StIs st qs cs ∧ F = finish st := by
  unfold readSpec
  by_cases hl : 2000 < l.length
  · rw [if_pos hl]; exact Or.inl hl
  · rw [if_neg hl]
    have hr := read_norm (cutAt 10 l).dropLast rs0 [] 0 st0_is (by simp [toldP])
    cases hn : norm [] (cutAt 10 l).dropLast with
    | none =>
      rw [hn] at hr
      obtain ⟨j, hj⟩ := hr
      rw [hj]
      exact Or.inr (Or.inr (Or.inl rfl))
    | some x =>
      obtain ⟨qs, cs⟩ := x
      rw [hn] at hr
      obtain ⟨st, h1, h2, h3⟩ := hr
      rw [h1]
      dsimp only
      by_cases hg : (cutAt 10 l).getLast? ≠ some []
      · rw [if_pos hg]; exact Or.inr (Or.inl hg)
      · rw [if_neg hg, h2.cl]
        by_cases h24 : 24 < cs.length
        · rw [if_pos h24]; exact Or.inr (Or.inr (Or.inr ⟨qs, cs, rfl, h24⟩))
        · rw [if_neg h24]
          exact ⟨by omega, Classical.byContradiction hg, qs, cs, st, rfl, by omega, h3, h2, rfl⟩
end Go.Proofs.YtgipjjhkhfihpabGreatDoor

namespace Go.Proofs.YtgipjjhkhfihpabGreatDoor

/-! ### How truth turns with a formula (ahead of the statements without the document's answer) -/
section
variable {sat sat' : Nat → Bool} {all all' : Nat}

/-- A variable turned. -/
def Flip (x t t' : Nat) : Prop := t'.testBit x = !t.testBit x ∧ ∀ u, u ≠ x → t'.testBit u = t.testBit u
theorem Flip.more {x t t' u : Nat} (h : Flip x t t') (hu : u ≠ x) : Flip x (t ||| 2 ^ u) (t' ||| 2 ^ u) := by
  constructor
  · rw [Nat.testBit_or, Nat.testBit_or, h.1, Nat.testBit_two_pow]; simp [hu]
  · intro v hv; rw [Nat.testBit_or, Nat.testBit_or, h.2 v hv]
end
end Go.Proofs.YtgipjjhkhfihpabGreatDoor

namespace Go.Proofs.YtgipjjhkhfihpabGreatDoor
open Go.RowKit

/-! ### The formula that lines say, and its truth -/
def allN (qs : List (Bool × List Nat)) : Nat := ((toldP qs).zip (kindsP qs)).foldl (fun a x => if x.2 then a ||| 2 ^ x.1 else a) 0
def freeN (qs : List (Bool × List Nat)) (cs : List (Nat × Nat)) : List Nat := ((List.range 8).map (· + 1)).filter (fun v => cs.any (fun c => (c.1 ||| c.2).testBit v) && !decide (v ∈ toldP qs))
def formN (qs : List (Bool × List Nat)) (cs : List (Nat × Nat)) : Form :=
  { order := freeN qs cs ++ toldP qs, all := allN qs, ends := endsTo (freeN qs cs ++ toldP qs) (allN qs) (freeN qs cs ++ toldP qs).length, cl := cs }
theorem kinds_len (qs : List (Bool × List Nat)) : (kindsP qs).length = (toldP qs).length := by
  induction qs with
  | nil => rfl
  | cons x qs ih => simp [toldP, kindsP] at *
theorem finish_norm {st : RS} {qs : List (Bool × List Nat)} {cs : List (Nat × Nat)} (h : StIs st qs cs) : finish st = formN qs cs := by
  have e1 : freeTo st 8 = freeN qs cs := by
    unfold freeTo freeN
    congr 1
    funext v
    rw [h.used, h.seen]
  have e2 : orderOf st = freeN qs cs ++ toldP qs := by unfold orderOf; rw [e1, h.told]
  have e3 : allTo st st.told.length = allN qs := by
    unfold allTo allN
    rw [h.told, h.kinds, List.take_of_length_le (by rw [List.length_zip, kinds_len]; simp)]
  unfold finish formN
  rw [e2, e3, h.cl]
/-! ### A clause less, a clause more -/
/-! ### A line of the prefix of the other kind -/
theorem all_bits (l : List (Nat × Bool)) : ∀ (a v : Nat), (l.foldl (fun a x => if x.2 then a ||| 2 ^ x.1 else a) a).testBit v = (a.testBit v || l.any (fun x => x.2 && x.1 == v)) := by
  induction l with
  | nil => intro a v; simp
  | cons x l ih =>
    intro a v
    rw [List.foldl_cons, ih, List.any_cons]
    cases x.2 with
    | false => simp
    | true =>
      rw [if_pos rfl, Nat.testBit_or, Nat.testBit_two_pow, Bool.or_assoc]
      congr 1
theorem zip_any (qs : List (Bool × List Nat)) (v : Nat) : ((toldP qs).zip (kindsP qs)).any (fun x => x.2 && x.1 == v) = qs.any (fun x => x.1 && x.2.any (· == v)) := by
  induction qs with
  | nil => rfl
  | cons x qs ih =>
    have e1 : toldP (x :: qs) = x.2 ++ toldP qs := by simp [toldP]
    have e2 : kindsP (x :: qs) = x.2.map (fun _ => x.1) ++ kindsP qs := by simp [kindsP]
    rw [e1, e2, List.zip_append (by simp), List.any_append, ih, List.any_cons]
    congr 1
    obtain ⟨k, l⟩ := x
    dsimp only
    clear e1 e2 ih
    induction l with
    | nil => simp
    | cons u l ihl =>
      simp only [List.map_cons, List.zip_cons_cons, List.any_cons, ihl]
      cases k <;> simp
theorem allN_bit (qs : List (Bool × List Nat)) (v : Nat) : (allN qs).testBit v = qs.any (fun x => x.1 && x.2.any (· == v)) := by
  unfold allN; rw [all_bits, zip_any]; simp
/-! ### Lines change places -/
end Go.Proofs.YtgipjjhkhfihpabGreatDoor

namespace Go.Proofs.YtgipjjhkhfihpabGreatDoor
open Go.RowKit

/-! ### A variable turned -/
structure FlipC (x : Nat) (c c' : Nat × Nat) : Prop where
  p : c'.1.testBit x = c.2.testBit x
  n : c'.2.testBit x = c.1.testBit x
  rp : ∀ u, u ≠ x → c'.1.testBit u = c.1.testBit u
  rn : ∀ u, u ≠ x → c'.2.testBit u = c.2.testBit u
theorem FlipC.symm {x : Nat} {c c' : Nat × Nat} (h : FlipC x c c') : FlipC x c' c := ⟨h.n.symm, h.p.symm, fun u hu => (h.rp u hu).symm, fun u hu => (h.rn u hu).symm⟩
theorem Flip.symm {x t t' : Nat} (h : Flip x t t') : Flip x t' t := ⟨by rw [h.1]; simp, fun u hu => (h.2 u hu).symm⟩
/-! ### Other names -/
/-! ### An innermost variable more -/
end Go.Proofs.YtgipjjhkhfihpabGreatDoor
