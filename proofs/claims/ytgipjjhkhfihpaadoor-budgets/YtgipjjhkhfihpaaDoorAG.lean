import Derived.Test.YtgipjjhkhfihpaaDoorAF
import Derived.Test.YtgipjjhkhfihpaaDoorAC
import Derived.Lib.ItoaLen
import Derived.Test.YtgipjjhkhfihpaaDoorAA
namespace Go.Proofs.YtgipjjhkhfihpaaDoor
open Go.RowKit

/-! ### Cubes -/
theorem shrinkStep_ok {q : QS} (hq : QGood q) {u : Bool} {c : Nat × Nat} {v : Nat × Bool} (hv : v ∈ q.vars) (hb : Bd c) (hs : satQ q.cl c = true) : Bd (shrinkStep q u c v) ∧ satQ q.cl (shrinkStep q u c v) = true ∧ ∀ s w, L (shrinkStep q u c v) s w = true → L c s w = true := by
  unfold shrinkStep
  have hn := hq.qb.names v hv
  split
  · next h => exact ⟨without_lt _ _ hb, h.2, fun s w hw => by rw [L_without _ _ hn.1 hn.2, Bool.and_eq_true] at hw; exact hw.1⟩
  · exact ⟨hb, hs, fun _ _ h => h⟩
theorem shrinks_ok {q : QS} (hq : QGood q) (u : Bool) : ∀ (vs : List (Nat × Bool)), (∀ v ∈ vs, v ∈ q.vars) → ∀ c, Bd c → satQ q.cl c = true → Bd (vs.foldl (shrinkStep q u) c) ∧ satQ q.cl (vs.foldl (shrinkStep q u) c) = true ∧ ∀ s w, L (vs.foldl (shrinkStep q u) c) s w = true → L c s w = true := by
  intro vs
  induction vs with
  | nil => intro _ c hb hs; exact ⟨hb, hs, fun _ _ h => h⟩
  | cons v vs ih =>
    intro hv c hb hs
    obtain ⟨h1, h2, h3⟩ := shrinkStep_ok hq (u := u) (hv v (by simp)) hb hs
    obtain ⟨i1, i2, i3⟩ := ih (fun w hw => hv w (by simp [hw])) _ h1 h2
    exact ⟨i1, i2, fun s w h => h3 s w (i3 s w h)⟩
theorem shrink_ok {q : QS} (hq : QGood q) {c : Nat × Nat} (hb : Bd c) (hs : satQ q.cl c = true) : Bd (shrinkQ q c) ∧ satQ q.cl (shrinkQ q c) = true ∧ ∀ s w, L (shrinkQ q c) s w = true → L c s w = true := by
  obtain ⟨h1, h2, h3⟩ := shrinks_ok hq true q.vars.reverse (fun v hv => List.mem_reverse.1 hv) c hb hs
  obtain ⟨i1, i2, i3⟩ := shrinks_ok hq false q.vars.reverse (fun v hv => List.mem_reverse.1 hv) _ h1 h2
  exact ⟨i1, i2, fun s w h => h3 s w (i3 s w h)⟩
/-- What was found at a node: nothing, or what is so on the path. -/
structure NodeOk (C : SC) (S : SS) (path : Nat × Nat) (r : SS × (Nat × Nat)) (more : Nat) : Prop where
  inv : SInv C r.1
  ext : Ext S r.1
  size : sizeS r.1 ≤ sizeS S + more
  fact : r.2.1 ≠ 0 → FactOk C.q r.1 path r.2
  zero : r.2.1 = 0 → r.2.2 = 0
theorem cube_ok {C : SC} (hq : QGood C.q) {S : SS} (hS : SInv C S) {d : Nat} {path vals : Nat × Nat} (hpa : PathAt C.q d path) {ref : List Stp} {cs : List Nat} {ts : List (Int × Nat)} (ht : TrailR C.q ref cs path ts vals) :
    NodeOk C S path (cubeOf C S path vals) 2 ∧ (cubeOf C S path vals).1.nodes = S.nodes ∧ (satQ C.q.cl vals = true → (cubeOf C S path vals).2.1 ≠ 0) := by
  obtain ⟨hv1, hv2, hv3, hv4⟩ := trail_vals hq hpa _ _ ht
  unfold cubeOf
  cases hf : S.kept.find? (fun f => f.1 == 2 && holdsB (S.lits f) path) with
  | some f =>
    have hm := List.mem_of_find?_eq_some hf
    have hp := List.find?_some hf
    simp only [Bool.and_eq_true, beq_iff_eq] at hp
    have hk := hS.kept f hm
    have h0 : f.1 ≠ 0 := by rw [hp.1]; decide
    refine ⟨⟨hS, Ext.refl _, Nat.le_add_right _ _, fun _ => ⟨hk, fun s v hv => ?_⟩, fun h => absurd h h0⟩, rfl, fun _ => h0⟩
    have he := (empty_iff _).1 hp.2 s v
    rw [L_minus, hv] at he
    show L path (s == (f.1 == 2)) v = true
    rw [hp.1, show (s == ((2 : Nat) == 2)) = s from by cases s <;> rfl]
    simpa using he
  | none =>
    dsimp only
    cases hs : satQ C.q.cl vals with
    | false =>
      rw [if_neg (by decide)]
      exact ⟨⟨hS, Ext.refl _, Nat.le_add_right _ _, fun h => absurd rfl h, fun _ => rfl⟩, rfl, fun h => by cases h⟩
    | true =>
      simp only [if_true]
      obtain ⟨s1, s2, s3⟩ := shrink_ok hq hv2.bd hs
      have hnew : POk C.q 2 (S.aff ++ [⟨2, 0, 0, 0, shrinkQ C.q vals⟩]) := hS.aff.snoc ⟨lok_sub hv2 s1 s3, Or.inr (Or.inl ⟨rfl, rfl, rfl, rfl, hv1.sub s3, s2⟩)⟩
      have hlen : (S.aff ++ [(⟨2, 0, 0, 0, shrinkQ C.q vals⟩ : Stp)]).length = S.aff.length + 1 := by simp
      have hla : litsAt (S.aff ++ [⟨2, 0, 0, 0, shrinkQ C.q vals⟩]) (S.aff ++ [(⟨2, 0, 0, 0, shrinkQ C.q vals⟩ : Stp)]).length = shrinkQ C.q vals := by rw [hlen, litsAt_new]
      obtain ⟨d1, ⟨y, d2, d3, _⟩, d4, d5, d6⟩ := redP_ok hq 2 _ (S.aff ++ [(⟨2, 0, 0, 0, shrinkQ C.q vals⟩ : Stp)]).length hnew (by omega) (Nat.le_refl _) (by rw [hla]; exact hv1.sub s3)
      rw [hla] at d6
      generalize redP C.q 2 (S.aff ++ [⟨2, 0, 0, 0, shrinkQ C.q vals⟩]) (S.aff ++ [(⟨2, 0, 0, 0, shrinkQ C.q vals⟩ : Stp)]).length = dd at *
      have hpre : ∃ x, dd.1 = S.aff ++ x := ⟨[⟨2, 0, 0, 0, shrinkQ C.q vals⟩] ++ y, by rw [d2, List.append_assoc]⟩
      have hgrow : SInv C { S with aff := dd.1 } := hS.growA hpre d1
      have hext : Ext S { S with aff := dd.1 } := ⟨⟨[], by simp⟩, hpre⟩
      have hlits : ({ S with aff := dd.1 } : SS).lits (2, dd.2) = redQ 2 C.q.vars.reverse (shrinkQ C.q vals) := d6
      have hon : OnPath 2 path (redQ 2 C.q.vars.reverse (shrinkQ C.q vals)) := by
        intro s v hv
        have hs := red_sub hq 2 _ _ _ hv
        show L path (s == true) v = true
        rw [show (s == true) = s from by cases s <;> rfl]
        rcases hv4 s v (s3 s v hs) with h | h
        · exact h
        · exfalso
          obtain ⟨⟨z, hz, hze, hzu⟩, h6, h7⟩ := h
          obtain ⟨i, hi, rfl⟩ := List.mem_iff_getElem.1 hz
          have hid : d ≤ i := by
            rcases Nat.lt_or_ge i d with hlt | hge
            · obtain ⟨t, ht⟩ := hpa.all i hi hlt
              rw [hze] at ht
              cases t
              · rw [h7] at ht; cases ht
              · rw [h6] at ht; cases ht
            · exact hge
          have hg := redQ_gone hq 2 d C.q.vars.length (Nat.le_refl _) (shrinkQ C.q vals) (fun j hj hdj _ t htj => by
            rcases hv4 t _ (s3 t _ htj) with h | h
            · rw [hpa.off hq hj hdj] at h; cases h
            · obtain ⟨⟨z, hz, hze2, hzu2⟩, _⟩ := h
              have := kind_one hq hz (List.getElem_mem hj) hze2
              rw [this] at hzu2
              rw [hzu2]; rfl) i hi hid hi s
          rw [List.take_length, hze] at hg
          rw [hg] at hv; cases hv
      have hfact : FactIn C.q { S with aff := dd.1 } (2, dd.2) := ⟨Or.inr rfl, d4, d5, by rw [hlits]; exact (hv1.sub s3).sub (fun s v => red_sub hq 2 _ s v), by rw [hlits]; exact red_idem hq 2 _⟩
      have hk := keep_ok hgrow hfact
      obtain ⟨k1, k2, k3⟩ := keep_ref C.room { S with aff := dd.1 } (2, dd.2)
      have hke := keep_ext C.room { S with aff := dd.1 } (2, dd.2)
      refine ⟨⟨hk, hext.trans hke, ?_, fun _ => ⟨hfact.ext hke, by rw [hke.lits hfact.hi, hlits]; exact hon⟩, fun h => by cases h⟩, k3, fun _ h => by cases h⟩
      unfold sizeS
      rw [k1, k2]
      show S.ref.length + dd.1.length ≤ _
      rw [d2]; simp; omega

/-! ### A node -/
theorem conf_find {ref : List Stp} {uni : Nat × Nat} {cs : List Nat} {vals : Nat × Nat} (h0 : ∀ s ∈ cs, 1 ≤ s) {s : Nat} (hs : s ∈ cs) (hc : isConf uni vals (litsAt ref s) = true) : confOf ref uni cs vals ≠ 0 := by
  unfold confOf
  cases hf : cs.find? (fun s => isConf uni vals (litsAt ref s)) with
  | none => rw [List.find?_eq_none] at hf; exact absurd hc (hf s hs)
  | some t =>
    have := h0 t (List.mem_of_find?_eq_some hf)
    show t ≠ 0
    omega
/-- Where all variables have values, a clause is false or all are satisfied. -/
theorem leaf_ok {C : SC} (hq : QGood C.q) (hu : UniOk C.q C.uni) {S : SS} (hS : SInv C S) {path : Nat × Nat} (hpa : PathAt C.q C.q.vars.length path) (hc : (unitsOf C S path).conf = 0) : satQ C.q.cl (unitsOf C S path).vals = true := by
  have hfull : ∀ c, LOk C.q c → ∀ s v, L c s v = true → L path s v = true ∨ L path (!s) v = true := by
    intro c hc s v hv
    obtain ⟨x, hx, rfl⟩ := List.mem_map.1 (hc.vars s v hv)
    obtain ⟨i, hi, rfl⟩ := List.mem_iff_getElem.1 hx
    obtain ⟨t, ht⟩ := hpa.all i hi hi
    cases s <;> cases t
    · exact Or.inl ht
    · exact Or.inr ht
    · exact Or.inr ht
    · exact Or.inl ht
  have hu0 : (unitOf S.ref C.uni (clausesOf C.q S.kept) path).2 = 0 := by
    apply Classical.byContradiction
    intro hne
    obtain ⟨v, s, h1, ⟨x, hx, hxe, _⟩, h2, h3, _⟩ := unit_at hq hu hS.ref hne
    obtain ⟨i, hi, rfl⟩ := List.mem_iff_getElem.1 hx
    obtain ⟨t, ht⟩ := hpa.all i hi hi
    rw [hxe] at ht
    cases t
    · rw [h3] at ht; cases ht
    · rw [h2] at ht; cases ht
  have hun : unitsOf C S path = if confOf S.ref C.uni (clausesOf C.q S.kept) path ≠ 0 then ⟨path, [], confOf S.ref C.uni (clausesOf C.q S.kept) path⟩ else ⟨path, [], 0⟩ := by
    unfold unitsOf
    rw [unitsGo, if_pos hu0]
  have hc0 : confOf S.ref C.uni (clausesOf C.q S.kept) path = 0 := by
    apply Classical.byContradiction
    intro hne
    rw [hun, if_pos hne] at hc
    exact hne hc
  rw [hun, if_neg (by simp [hc0])]
  unfold satQ
  rw [List.all_eq_true]
  intro c hcm
  obtain ⟨i, hi, rfl⟩ := List.mem_iff_getElem.1 hcm
  cases hok : okC C.q.cl[i] path with
  | true => rfl
  | false =>
    exfalso
    have hin : i + 1 ∈ clausesOf C.q S.kept := by
      unfold clausesOf
      exact List.mem_append_left _ (List.mem_map.2 ⟨i, List.mem_range.2 hi, rfl⟩)
    refine conf_find (fun s hs => (clauses_in hS hs).1) hin ?_ hc0
    have hl := hS.ref.lok (i + 1)
    rw [hS.ax i hi] at hl ⊢
    have hme : meetsB C.q.cl[i] path = false := by
      unfold okC at hok; rw [Bool.or_eq_false_iff] at hok; exact hok.1
    have hcl : clashB C.q.cl[i] = false := by
      unfold okC at hok; rw [Bool.or_eq_false_iff] at hok; exact hok.2
    unfold isConf openB
    rw [hme, hcl]
    simp only [Bool.not_false, Bool.and_self, Bool.true_and]
    rw [empty_iff]
    intro s v
    rw [L_minus, L_left]
    cases hv : L C.q.cl[i] s v with
    | false => rfl
    | true =>
      rcases hfull _ hl s v hv with h | h
      · rw [(meets_iff _ _).2 ⟨s, v, hv, h⟩] at hme; cases hme
      · rw [h]; rfl
theorem nodes_inv {C : SC} {S : SS} (h : SInv C S) (n : Nat) : SInv C { S with nodes := n } :=
  ⟨h.ref, h.len, h.ax, h.aff, fun f hf => ⟨(h.kept f hf).kind, (h.kept f hf).lo, (h.kept f hf).hi, (h.kept f hf).free, (h.kept f hf).red⟩, h.room, h.most⟩
def nodeSt : (SS × (Nat × Nat)) ⊕ (SS × (Nat × Nat)) → SS × (Nat × Nat)
  | .inl r => r
  | .inr r => (r.1, (0, 0))
def isInr {α β : Type} : α ⊕ β → Bool
  | .inl _ => false
  | .inr _ => true
theorem node_ok {C : SC} (hq : QGood C.q) (hu : UniOk C.q C.uni) {S : SS} (hS : SInv C S) {d : Nat} {path : Nat × Nat} (hpa : PathAt C.q d path) :
    NodeOk C S path (nodeSt (nodeOf C S path)) (10 * ((nodeSt (nodeOf C S path)).1.nodes - S.nodes)) ∧
    (((nodeSt (nodeOf C S path)).1.nodes = S.nodes ∧ (0 < C.budget ∧ C.budget ≤ S.nodes) ∧ nodeOf C S path = .inl (S, (0, 0))) ∨
     ((nodeSt (nodeOf C S path)).1.nodes = S.nodes + 1 ∧ ¬ (0 < C.budget ∧ C.budget ≤ S.nodes) ∧ ((nodeSt (nodeOf C S path)).2.1 = 0 → isInr (nodeOf C S path) = true ∧ d ≠ C.q.vars.length))) := by
  have hvl := hq.qb.vl
  by_cases hb : 0 < C.budget ∧ C.budget ≤ S.nodes
  · have e : nodeOf C S path = .inl (S, (0, 0)) := by unfold nodeOf; rw [if_pos hb]
    rw [e]
    exact ⟨⟨hS, Ext.refl _, by simp [nodeSt], fun h => absurd rfl h, fun _ => rfl⟩, Or.inl ⟨rfl, hb, rfl⟩⟩
  · have hS1 := nodes_inv hS (S.nodes + 1)
    have hx1 : Ext S { S with nodes := S.nodes + 1 } := ⟨⟨[], by simp⟩, ⟨[], by simp⟩⟩
    obtain ⟨ht, _, _⟩ := units_ok hq hu hS1 path
    have hex : (unitsOf C { S with nodes := S.nodes + 1 } path).conf ≠ 0 → _ := fun h => explain_ok hq hu hS1 hpa h
    have hcu := cube_ok hq hS1 hpa ht
    have hlf : d = C.q.vars.length → (unitsOf C { S with nodes := S.nodes + 1 } path).conf = 0 → satQ C.q.cl (unitsOf C { S with nodes := S.nodes + 1 } path).vals = true := fun hd h => leaf_ok hq hu hS1 (by rw [← hd]; exact hpa) h
    unfold nodeOf
    rw [if_neg hb]
    dsimp only
    generalize unitsOf C { S with nodes := S.nodes + 1 } path = U at *
    have hsz : sizeS { S with nodes := S.nodes + 1 } = sizeS S := rfl
    by_cases hc : U.conf ≠ 0
    · rw [if_pos hc]
      obtain ⟨a1, a2, a3, a4, a5, a6, _⟩ := hex hc
      have hn : (explain C { S with nodes := S.nodes + 1 } U).1.nodes = S.nodes + 1 := a4
      refine ⟨⟨a1, hx1.trans a2, ?_, fun _ => a3, fun h => ?_⟩, Or.inr ⟨hn, hb, fun h => ?_⟩⟩
      · show sizeS (explain C { S with nodes := S.nodes + 1 } U).1 ≤ sizeS S + 10 * ((explain C { S with nodes := S.nodes + 1 } U).1.nodes - S.nodes)
        rw [hn]; omega
      · have h' : (explain C { S with nodes := S.nodes + 1 } U).2.1 = 0 := h
        rw [a6] at h'; cases h'
      · have h' : (explain C { S with nodes := S.nodes + 1 } U).2.1 = 0 := h
        rw [a6] at h'; cases h'
    · rw [if_neg hc]
      have hc0 : U.conf = 0 := by omega
      obtain ⟨b1, b2, b3⟩ := hcu
      generalize cubeOf C { S with nodes := S.nodes + 1 } path U.vals = r at *
      have hn : r.1.nodes = S.nodes + 1 := b2
      by_cases hr : r.2.1 ≠ 0
      · rw [if_pos hr]
        refine ⟨⟨b1.inv, hx1.trans b1.ext, ?_, b1.fact, b1.zero⟩, Or.inr ⟨hn, hb, fun h => absurd h hr⟩⟩
        show sizeS r.1 ≤ sizeS S + 10 * (r.1.nodes - S.nodes)
        have := b1.size
        rw [hn]; omega
      · rw [if_neg hr]
        refine ⟨⟨b1.inv, hx1.trans b1.ext, ?_, fun h => absurd rfl h, fun _ => rfl⟩, Or.inr ⟨hn, hb, fun _ => ⟨rfl, fun hd => hr (b3 (hlf hd hc0))⟩⟩⟩
        show sizeS r.1 ≤ sizeS S + 10 * (r.1.nodes - S.nodes)
        have := b1.size
        rw [hn]; omega
end Go.Proofs.YtgipjjhkhfihpaaDoor

namespace Go.Proofs.YtgipjjhkhfihpaaDoor
open Go.RowKit

/-! ### Joining -/
theorem put_proof (S : SS) (k : Nat) (p : List Stp) : (S.put k p).proof k = p := by
  unfold SS.put SS.proof; split <;> rfl
theorem put_nodes (S : SS) (k : Nat) (p : List Stp) : (S.put k p).nodes = S.nodes := by unfold SS.put; split <;> rfl
theorem put_ext (S : SS) (k : Nat) (p : List Stp) (h : ∃ x, p = S.proof k ++ x) : Ext S (S.put k p) := by
  unfold SS.put; unfold SS.proof at h
  split
  · next e => rw [if_pos e] at h; exact ⟨⟨[], by simp⟩, h⟩
  · next e => rw [if_neg e] at h; exact ⟨h, ⟨[], by simp⟩⟩
theorem put_size (S : SS) (k : Nat) (p : List Stp) (n : Nat) (h : p.length ≤ (S.proof k).length + n) : sizeS (S.put k p) ≤ sizeS S + n := by
  unfold SS.put sizeS; unfold SS.proof at h
  split
  · next e => rw [if_pos e] at h; show S.ref.length + p.length ≤ _; omega
  · next e => rw [if_neg e] at h; show p.length + S.aff.length ≤ _; omega
theorem SInv.pok {C : SC} {S : SS} (h : SInv C S) {k : Nat} (hk : k = 1 ∨ k = 2) : POk C.q k (S.proof k) := by
  rcases hk with rfl | rfl
  · exact h.ref
  · exact h.aff
theorem put_inv {C : SC} {S : SS} (h : SInv C S) {k : Nat} (hk : k = 1 ∨ k = 2) {p : List Stp} (hp : ∃ x, p = S.proof k ++ x) (hok : POk C.q k p) : SInv C (S.put k p) := by
  rcases hk with rfl | rfl
  · exact h.grow hp hok
  · exact h.growA hp hok
theorem on_next {k : Nat} {path c : Nat × Nat} {v : Nat} {s : Bool} (h1 : 1 ≤ v) (h8 : v ≤ 8) (h : OnPath k (withLit path (litI v s)) c) : ∀ t u, L c t u = true → (u ≠ v → L path (t == (k == 2)) u = true) := by
  intro t u ht hne
  have := h t u ht
  rw [L_with _ _ _ h1 h8, Bool.or_eq_true, Bool.and_eq_true] at this
  rcases this with h | ⟨_, h⟩
  · exact h
  · exact absurd (of_decide_eq_true h) hne
/-- At the variable itself. -/
theorem on_at {q : QS} (hq : QGood q) {d : Nat} {path : Nat × Nat} (hpa : PathAt q d path) (hd : d < q.vars.length) {k : Nat} {c : Nat × Nat} {s : Bool} (h : OnPath k (withLit path (litI q.vars[d].1 s)) c) (hh : hasVarB c q.vars[d].1 = true) : L c (s == (k == 2)) q.vars[d].1 = true := by
  have hv := var_ok hq d hd
  have key : ∀ t, L c t q.vars[d].1 = true → t = (s == (k == 2)) := by
    intro t ht
    have := h t _ ht
    rw [L_with _ _ _ hv.1 hv.2, hpa.off hq hd (Nat.le_refl _), Bool.false_or, Bool.and_eq_true, beq_iff_eq] at this
    have h2 := this.1
    revert h2
    generalize (k == 2) = b
    cases t <;> cases s <;> cases b <;> simp
  rw [hasVar_L _ _ hv.1 hv.2, Bool.or_eq_true] at hh
  rcases hh with hh | hh
  · rw [← key true hh]; exact hh
  · rw [← key false hh]; exact hh
/-- What has the variable that was branched on is of the kind for which that is a pivot. -/
theorem fact_pivot {C : SC} (hq : QGood C.q) {S : SS} {d : Nat} {path : Nat × Nat} (hpa : PathAt C.q (d + 1) path) (hd : d < C.q.vars.length) {f : Nat × Nat} (hf : FactOk C.q S path f) (hh : hasVarB (S.lits f) C.q.vars[d].1 = true) : pivotB f.1 C.q.vars[d].2 = true :=
  red_pivot hq f.1 d hd _ hf.inn.red (fun i hi hdi s => by
    cases hl : L (S.lits f) s C.q.vars[i].1 with
    | false => rfl
    | true =>
      have := hf.on s _ hl
      rw [hpa.off hq hi (by omega)] at this; cases this) hh
theorem join_ok {C : SC} (hq : QGood C.q) {S : SS} (hS : SInv C S) {d : Nat} {path : Nat × Nat} (hpa : PathAt C.q d path) (hd : d < C.q.vars.length) {a b : Nat × Nat} {s : Bool}
    (ha : FactOk C.q S (withLit path (litI C.q.vars[d].1 s)) a) (hb : FactOk C.q S (withLit path (litI C.q.vars[d].1 (!s))) b) (hha : hasVarB (S.lits a) C.q.vars[d].1 = true) (hhb : hasVarB (S.lits b) C.q.vars[d].1 = true) :
    NodeOk C S path (joinOf C S a b C.q.vars[d].1) 2 ∧ (joinOf C S a b C.q.vars[d].1).1.nodes = S.nodes ∧ (joinOf C S a b C.q.vars[d].1).2.1 ≠ 0 := by
  have hv := var_ok hq d hd
  have p1 := fact_pivot hq (hpa.next hq hd s) hd ha hha
  have p2 := fact_pivot hq (hpa.next hq hd (!s)) hd hb hhb
  have hk : b.1 = a.1 := by
    rcases ha.inn.kind with h1 | h1 <;> rcases hb.inn.kind with h2 | h2 <;> rw [h1] at p1 ⊢ <;> rw [h2] at p2 ⊢ <;> revert p1 p2 <;> cases C.q.vars[d].2 <;> simp [pivotB]
  have hla := on_at hq hpa hd ha.on hha
  have hlb := on_at hq hpa hd hb.on hhb
  rw [hk] at hlb
  have hlb' : L (S.lits b) (!(s == (a.1 == 2))) C.q.vars[d].1 = true := by
    rw [show (!(s == (a.1 == 2))) = ((!s) == (a.1 == 2)) from by generalize (a.1 == 2) = b; cases s <;> cases b <;> rfl]
    exact hlb
  have hsa : S.lits a = litsAt (S.proof a.1) a.2 := rfl
  have hsb : S.lits b = litsAt (S.proof a.1) b.2 := by unfold SS.lits; rw [hk]
  have hbhi := hb.inn.hi
  rw [hk] at hbhi
  have hres : ∀ t u, L (without2 (S.lits a) (S.lits b) C.q.vars[d].1) t u = true → L path (t == (a.1 == 2)) u = true := by
    intro t u ht
    rw [L_without2 _ _ _ hv.1 hv.2, Bool.and_eq_true, Bool.or_eq_true, Bool.not_eq_true'] at ht
    have hne : u ≠ C.q.vars[d].1 := of_decide_eq_false ht.2
    rcases ht.1 with ht | ht
    · exact on_next hv.1 hv.2 ha.on t u ht hne
    · have := on_next hv.1 hv.2 hb.on t u ht hne
      rwa [hk] at this
  have hfree : Free (without2 (S.lits a) (S.lits b) C.q.vars[d].1) := hpa.free.flip (a.1 == 2) hres
  have hfa := ha.inn.free
  have hfb := hb.inn.free
  rw [hsa] at hla hfa
  rw [hsb] at hlb' hfb
  rw [hsa, hsb] at hres hfree
  obtain ⟨r1, ⟨x, r2⟩, r3, r4, r5⟩ := resP_ok hq (hS.pok ha.inn.kind) ⟨ha.inn.lo, ha.inn.hi⟩ ⟨hb.inn.lo, hbhi⟩ ⟨_, List.getElem_mem hd, rfl, p1⟩ hfa hfb hla hlb' hfree
  unfold joinOf
  dsimp only
  generalize resP (S.proof a.1) a.2 b.2 C.q.vars[d].1 = r at *
  obtain ⟨d1, ⟨y, d2, d3, _⟩, d4, d5, d6⟩ := redP_ok hq a.1 r.1 r.2 r1 (by omega) (by omega) (by rw [r5]; exact hfree)
  rw [r5] at d6
  generalize redP C.q a.1 r.1 r.2 = dd at *
  have hpre : ∃ z, dd.1 = S.proof a.1 ++ z := ⟨[x] ++ y, by rw [d2, r2, List.append_assoc]⟩
  have hinv := put_inv hS ha.inn.kind hpre d1
  have hext := put_ext S a.1 dd.1 hpre
  have hlits : (S.put a.1 dd.1).lits (a.1, dd.2) = redQ a.1 C.q.vars.reverse (without2 (litsAt (S.proof a.1) a.2) (litsAt (S.proof a.1) b.2) C.q.vars[d].1) := by
    unfold SS.lits; rw [put_proof]; exact d6
  have hon : OnPath a.1 path ((S.put a.1 dd.1).lits (a.1, dd.2)) := by
    intro t u ht
    rw [hlits] at ht
    exact hres t u (red_sub hq a.1 _ _ _ ht)
  have hfact : FactIn C.q (S.put a.1 dd.1) (a.1, dd.2) := ⟨ha.inn.kind, d4, by rw [put_proof]; exact d5, by rw [hlits]; exact hfree.sub (fun s v => red_sub hq _ _ s v), by rw [hlits]; exact red_idem hq _ _⟩
  have hkk := keep_ok hinv hfact
  obtain ⟨k1, k2, k3⟩ := keep_ref C.room (S.put a.1 dd.1) (a.1, dd.2)
  have hke := keep_ext C.room (S.put a.1 dd.1) (a.1, dd.2)
  have ha0 : a.1 ≠ 0 := by rcases ha.inn.kind with h | h <;> rw [h] <;> decide
  refine ⟨⟨hkk, hext.trans hke, ?_, fun _ => ⟨hfact.ext hke, by rw [hke.lits hfact.hi]; exact hon⟩, fun h => absurd h ha0⟩, k3.trans (put_nodes _ _ _), ha0⟩
  have hz : sizeS ((S.put a.1 dd.1).keep C.room (a.1, dd.2)) = sizeS (S.put a.1 dd.1) := by unfold sizeS; rw [k1, k2]
  rw [hz]
  apply put_size
  rw [d2, r2]; simp; omega

/-! ### All nodes -/
/-- What a look gives. -/
structure LookOk (C : SC) (m : Nat) (path : Nat × Nat) (S : SS) (r : SS × (Nat × Nat)) : Prop where
  inv : SInv C r.1
  ext : Ext S r.1
  fact : r.2.1 ≠ 0 → FactOk C.q r.1 path r.2
  zero : r.2.1 = 0 → r.2.2 = 0
  unknown : r.2.1 = 0 → 0 < C.budget ∧ C.budget ≤ r.1.nodes
  mono : S.nodes ≤ r.1.nodes
  some : ¬ (0 < C.budget ∧ C.budget ≤ S.nodes) → S.nodes + 1 ≤ r.1.nodes
  most : r.1.nodes + 1 ≤ S.nodes + 2 ^ (m + 1)
  budget : 0 < C.budget → S.nodes ≤ C.budget → r.1.nodes ≤ C.budget
  size : sizeS r.1 ≤ sizeS S + 12 * (r.1.nodes - S.nodes)
theorem getD_var (q : QS) (d : Nat) (h : d < q.vars.length) : q.vars.getD d (0, false) = q.vars[d] := by
  rw [List.getD, List.getElem?_eq_getElem h]; rfl
theorem zero_has (S : SS) (f : Nat × Nat) (_h1 : f.1 = 0) (h2 : f.2 = 0) (v : Nat) : hasVarB (S.lits f) v = false := by
  unfold SS.lits; rw [h2, litsAt_out _ _ (by omega)]; unfold hasVarB; simp
theorem FactOk.up {q : QS} (hq : QGood q) {S : SS} {d : Nat} (hd : d < q.vars.length) {path : Nat × Nat} {s : Bool} {f : Nat × Nat} (h : FactOk q S (withLit path (litI q.vars[d].1 s)) f) (hh : hasVarB (S.lits f) q.vars[d].1 = false) : FactOk q S path f := by
  have hv := var_ok hq d hd
  refine ⟨h.inn, fun t u ht => ?_⟩
  refine on_next hv.1 hv.2 h.on t u ht (fun e => ?_)
  subst e
  rw [hasVar_L _ _ hv.1 hv.2, Bool.or_eq_false_iff] at hh
  cases t
  · rw [hh.2] at ht; cases ht
  · rw [hh.1] at ht; cases ht
theorem look_ok {C : SC} (hq : QGood C.q) (hu : UniOk C.q C.uni) : ∀ (m d : Nat) (path : Nat × Nat) (S : SS), SInv C S → PathAt C.q d path → d + m = C.q.vars.length → LookOk C m path S (lookM C m path d S) := by
  intro m
  induction m with
  | zero =>
    intro d path S hS hpa hdm
    obtain ⟨n1, n2⟩ := node_ok hq hu hS hpa
    have hl : lookM C 0 path d S = nodeSt (nodeOf C S path) := by
      rw [lookM]
      cases nodeOf C S path with
      | inl r => rfl
      | inr r => rfl
    rw [hl]
    generalize nodeSt (nodeOf C S path) = r at *
    have hsz := n1.size
    rcases n2 with ⟨h1, h2, h3⟩ | ⟨h1, h2, h3⟩
    · exact ⟨n1.inv, n1.ext, n1.fact, n1.zero, fun _ => by rw [h1]; exact h2, by omega, fun h => absurd h2 h, by rw [h1]; simp, fun _ h => by omega, by omega⟩
    · exact ⟨n1.inv, n1.ext, n1.fact, n1.zero, fun h => absurd (by omega) (h3 h).2, by omega, fun _ => by omega, by rw [h1]; simp, fun h4 h5 => by
        have : S.nodes < C.budget := by
          apply Classical.byContradiction
          intro hh
          exact h2 ⟨h4, by omega⟩
        omega, by omega⟩
  | succ m ih =>
    intro d path S hS hpa hdm
    have hd : d < C.q.vars.length := by omega
    obtain ⟨n1, n2⟩ := node_ok hq hu hS hpa
    have hpow : 2 ^ (m + 1 + 1) = 2 ^ (m + 1) + 2 ^ (m + 1) := by rw [Nat.pow_succ 2 (m + 1)]; omega
    have hpos : 0 < 2 ^ (m + 1) := Nat.pow_pos (by decide)
    rw [lookM]
    cases hn : nodeOf C S path with
    | inl r =>
      rw [hn] at n1 n2
      simp only [nodeSt] at n1 n2
      dsimp only
      have hsz := n1.size
      rcases n2 with ⟨h1, h2, h3⟩ | ⟨h1, h2, h3⟩
      · exact ⟨n1.inv, n1.ext, n1.fact, n1.zero, fun _ => by rw [h1]; exact h2, by omega, fun h => absurd h2 h, by omega, fun _ h => by omega, by omega⟩
      · exact ⟨n1.inv, n1.ext, n1.fact, n1.zero, fun h => absurd (h3 h).1 (by simp [isInr]), by omega, fun _ => by omega, by omega, fun h4 h5 => by
          have : S.nodes < C.budget := by
            apply Classical.byContradiction
            intro hh
            exact h2 ⟨h4, by omega⟩
          omega, by omega⟩
    | inr r =>
      obtain ⟨S1, vals⟩ := r
      rw [hn] at n1 n2
      simp only [nodeSt] at n1 n2
      dsimp only
      rcases n2 with ⟨_, _, h3⟩ | ⟨h1, h2, _⟩
      · cases h3
      have hsz := n1.size
      have hbud : 0 < C.budget → S.nodes ≤ C.budget → S1.nodes ≤ C.budget := fun h4 h5 => by
        have : S.nodes < C.budget := by
          apply Classical.byContradiction
          intro hh
          exact h2 ⟨h4, by omega⟩
        omega
      have hS1 := n1.inv
      have hE1 := n1.ext
      dsimp only at hS1 hE1 hsz h1
      rw [getD_var _ _ hd]
      obtain ⟨s, hs⟩ : ∃ s : Bool, (if hasLit vals (-(C.q.vars[d].1 : Int)) then -(C.q.vars[d].1 : Int) else (C.q.vars[d].1 : Int)) = litI C.q.vars[d].1 s := by
        split
        · exact ⟨false, rfl⟩
        · exact ⟨true, rfl⟩
      rw [hs, litI_neg]
      have la := ih (d + 1) _ S1 hS1 (hpa.next hq hd s) (by omega)
      generalize lookM C m (withLit path (litI C.q.vars[d].1 s)) (d + 1) S1 = a at *
      have la1 := la.mono
      have la2 := la.most
      have la3 := la.size
      cases hha : hasVarB (a.1.lits a.2) C.q.vars[d].1 with
      | false =>
        simp only [Bool.false_eq_true, if_false]
        exact ⟨la.inv, hE1.trans la.ext, fun h => (la.fact h).up hq hd hha, la.zero, la.unknown, by omega, fun _ => by omega, by omega, fun h4 h5 => la.budget h4 (hbud h4 h5), by omega⟩
      | true =>
        simp only [if_true]
        have ha0 : a.2.1 ≠ 0 := fun h => by rw [zero_has _ _ h (la.zero h)] at hha; cases hha
        have hfa := la.fact ha0
        have lb := ih (d + 1) _ a.1 la.inv (hpa.next hq hd (!s)) (by omega)
        generalize lookM C m (withLit path (litI C.q.vars[d].1 (!s))) (d + 1) a.1 = b at *
        have lb1 := lb.mono
        have lb2 := lb.most
        have lb3 := lb.size
        cases hhb : hasVarB (b.1.lits b.2) C.q.vars[d].1 with
        | false =>
          simp only [Bool.false_eq_true, if_false]
          exact ⟨lb.inv, (hE1.trans la.ext).trans lb.ext, fun h => (lb.fact h).up hq hd hhb, lb.zero, lb.unknown, by omega, fun _ => by omega, by omega, fun h4 h5 => lb.budget h4 (la.budget h4 (hbud h4 h5)), by omega⟩
        | true =>
          simp only [if_true]
          have hb0 : b.2.1 ≠ 0 := fun h => by rw [zero_has _ _ h (lb.zero h)] at hhb; cases hhb
          have hfb := lb.fact hb0
          have hfa' : FactOk C.q b.1 (withLit path (litI C.q.vars[d].1 s)) a.2 := ⟨hfa.inn.ext lb.ext, by rw [lb.ext.lits hfa.inn.hi]; exact hfa.on⟩
          obtain ⟨j1, j2, j3⟩ := join_ok hq lb.inv hpa hd hfa' hfb (by rw [lb.ext.lits hfa.inn.hi]; exact hha) hhb
          generalize joinOf C b.1 a.2 b.2 C.q.vars[d].1 = j at *
          have jz := j1.size
          exact ⟨j1.inv, ((hE1.trans la.ext).trans lb.ext).trans j1.ext, j1.fact, j1.zero, fun h => absurd h j3, by omega, fun _ => by omega, by omega, fun h4 h5 => by rw [j2]; exact lb.budget h4 (la.budget h4 (hbud h4 h5)), by omega⟩
end Go.Proofs.YtgipjjhkhfihpaaDoor

namespace Go.Proofs.YtgipjjhkhfihpaaDoor
open Go.RowKit

/-! ### Steps that are needed -/
abbrev P0 : Stp := ⟨0, 0, 0, 0, (0, 0)⟩
theorem getD_set (m : List Bool) (i j : Nat) : (m.set i true).getD j false = (decide (i = j ∧ i < m.length) || m.getD j false) := by
  rw [List.getD, List.getD, List.getElem?_set]
  by_cases e : i = j
  · subst e
    by_cases h : i < m.length
    · simp [h]
    · simp [h]
  · simp [e]
structure MarkOk (q : QS) (k : Nat) (p : List Stp) (last i : Nat) (m : List Bool) : Prop where
  len : m.length = p.length + 1
  at_ : ∀ j, m.getD j false = true → j ≤ last ∧ 1 ≤ j ∧ Free (litsAt p j)
  closed : ∀ j (h : j < p.length), i ≤ j → m.getD (j + 1) false = true → p[j].rule ≠ 1 → (0 < p[j].first ∧ p[j].first < j + 1 → m.getD p[j].first false = true) ∧ (0 < p[j].second ∧ p[j].second < j + 1 → m.getD p[j].second false = true)
  last : i < last → m.getD last false = true
theorem markOne_len (b : Bool) (i n : Nat) (m : List Bool) : (markOne b i n m).length = m.length := by
  unfold markOne; split <;> simp
theorem markOne_get (b : Bool) (i n : Nat) (m : List Bool) (j : Nat) : (markOne b i n m).getD j false = (decide (b = true ∧ 0 < n ∧ n < i ∧ n = j ∧ n < m.length) || m.getD j false) := by
  unfold markOne
  split
  · next h =>
    rw [getD_set]
    simp only [h.1, h.2.1, h.2.2, true_and]
  · next h =>
    have : ¬ (b = true ∧ 0 < n ∧ n < i ∧ n = j ∧ n < m.length) := fun hh => h ⟨hh.1, hh.2.1, hh.2.2.1⟩
    simp [this]
/-- Steps ahead of a step that are made well. -/
theorem stok_ahead {q : QS} {k : Nat} {p : List Stp} (hp : POk q k p) (j : Nat) (h : j < p.length) (hr : p[j].rule ≠ 1) : (0 < p[j].first → p[j].first ≤ j ∧ Free (litsAt p p[j].first)) ∧ (0 < p[j].second → p[j].second ≤ j ∧ Free (litsAt p p[j].second)) := by
  have hlen : (p.take j).length = j := by simp; omega
  have hla : ∀ n, n ≤ j → litsAt (p.take j) n = litsAt p n := fun n hn => by
    conv => rhs; rw [← List.take_append_drop j p]
    rw [litsAt_append _ _ _ (by omega)]
  rcases (hp j h).2 with ⟨h1, _⟩ | ⟨_, _, h1, h2, _⟩ | ⟨_, h1, h2, _, _, _, h3, h4, _⟩ | ⟨_, h1, h2, h3, _⟩
  · exact absurd h1 hr
  · exact ⟨fun h => by omega, fun h => by omega⟩
  · rw [hlen] at h1 h2
    exact ⟨fun _ => ⟨h1.2, by rw [← hla _ h1.2]; exact h3⟩, fun _ => ⟨h2.2, by rw [← hla _ h2.2]; exact h4⟩⟩
  · rw [hlen] at h1
    exact ⟨fun _ => ⟨h1.2, by rw [← hla _ h1.2]; exact h3⟩, fun h => by omega⟩
theorem markStep_ok {q : QS} {k : Nat} {p : List Stp} (hp : POk q k p) {last i : Nat} (hi : i < p.length) (h1 : 1 ≤ last) (hl : last ≤ p.length) (hf : Free (litsAt p last)) {m : List Bool} (h : MarkOk q k p last (i + 1) m) : MarkOk q k p last i (markStep p last (i + 1) m) := by
  have hg : p.getD (i + 1 - 1) P0 = p[i] := by rw [Nat.add_sub_cancel, List.getD, List.getElem?_eq_getElem hi]; rfl
  unfold markStep
  rw [show (⟨0, 0, 0, 0, (0, 0)⟩ : Stp) = P0 from rfl, hg]
  dsimp only
  have hm1 : ∀ j, (if i + 1 = last then m.set (i + 1) true else m).getD j false = (decide (i + 1 = last ∧ i + 1 = j) || m.getD j false) := by
    intro j
    split
    · next e => rw [getD_set]; simp only [e, true_and]; rw [h.len]; simp only [show last < p.length + 1 from by omega, and_true]
    · next e => simp [e]
  have hm1l : (if i + 1 = last then m.set (i + 1) true else m).length = p.length + 1 := by
    split
    · rw [List.length_set]; exact h.len
    · exact h.len
  generalize (if i + 1 = last then m.set (i + 1) true else m) = m1 at *
  have hat1 : ∀ j, m1.getD j false = true → j ≤ last ∧ 1 ≤ j ∧ Free (litsAt p j) := by
    intro j hj
    rw [hm1, Bool.or_eq_true] at hj
    rcases hj with hj | hj
    · have := of_decide_eq_true hj
      rw [← this.2, this.1]; exact ⟨Nat.le_refl _, h1, hf⟩
    · exact h.at_ j hj
  have hah := stok_ahead hp i hi
  generalize hb : (m1.getD (i + 1) false && decide (p[i].rule ≠ 1)) = b at *
  have hget : ∀ j, (markOne b (i + 1) p[i].second (markOne b (i + 1) p[i].first m1)).getD j false = true ↔ ((b = true ∧ 0 < p[i].second ∧ p[i].second < i + 1 ∧ p[i].second = j) ∨ (b = true ∧ 0 < p[i].first ∧ p[i].first < i + 1 ∧ p[i].first = j) ∨ m1.getD j false = true) := by
    intro j
    rw [markOne_get, markOne_get, markOne_len, Bool.or_eq_true, Bool.or_eq_true, decide_eq_true_eq, decide_eq_true_eq, hm1l]
    constructor
    · rintro (⟨a, b, c, d, _⟩ | ⟨a, b, c, d, _⟩ | a)
      · exact Or.inl ⟨a, b, c, d⟩
      · exact Or.inr (Or.inl ⟨a, b, c, d⟩)
      · exact Or.inr (Or.inr a)
    · rintro (⟨a, b, c, d⟩ | ⟨a, b, c, d⟩ | a)
      · exact Or.inl ⟨a, b, c, d, by omega⟩
      · exact Or.inr (Or.inl ⟨a, b, c, d, by omega⟩)
      · exact Or.inr (Or.inr a)
  have hbt : b = true → m1.getD (i + 1) false = true ∧ p[i].rule ≠ 1 := by
    intro e
    rw [← hb, Bool.and_eq_true, decide_eq_true_eq] at e
    exact e
  refine ⟨by rw [markOne_len, markOne_len]; exact hm1l, fun j hj => ?_, fun j hj hij hm hr => ?_, fun hil => ?_⟩
  · rw [hget] at hj
    rcases hj with ⟨e, h2, h3, rfl⟩ | ⟨e, h2, h3, rfl⟩ | hj
    · obtain ⟨e1, e2⟩ := hbt e
      have := (hat1 _ e1).1
      exact ⟨by omega, h2, ((hah e2).2 h2).2⟩
    · obtain ⟨e1, e2⟩ := hbt e
      have := (hat1 _ e1).1
      exact ⟨by omega, h2, ((hah e2).1 h2).2⟩
    · exact hat1 j hj
  · by_cases e : j = i
    · subst e
      have hm2 : m1.getD (j + 1) false = true := by
        rw [hget] at hm
        rcases hm with ⟨_, _, h3, h4⟩ | ⟨_, _, h3, h4⟩ | hm
        · omega
        · omega
        · exact hm
      have hbb : b = true := by rw [← hb, hm2]; simpa using hr
      exact ⟨fun hh => (hget _).2 (Or.inr (Or.inl ⟨hbb, hh.1, hh.2, rfl⟩)), fun hh => (hget _).2 (Or.inl ⟨hbb, hh.1, hh.2, rfl⟩)⟩
    · have hm2 : m.getD (j + 1) false = true := by
        rw [hget] at hm
        rcases hm with ⟨_, _, h3, h4⟩ | ⟨_, _, h3, h4⟩ | hm
        · omega
        · omega
        · rw [hm1, Bool.or_eq_true] at hm
          rcases hm with hm | hm
          · have := of_decide_eq_true hm; omega
          · exact hm
      have up : ∀ n, m.getD n false = true → (markOne b (i + 1) p[i].second (markOne b (i + 1) p[i].first m1)).getD n false = true := fun n hn => (hget n).2 (Or.inr (Or.inr (by rw [hm1, hn]; simp)))
      have := h.closed j hj (by omega) hm2 hr
      exact ⟨fun hh => up _ (this.1 hh), fun hh => up _ (this.2 hh)⟩
  · rw [hget]
    right; right
    rw [hm1]
    by_cases e : i + 1 = last
    · simp [e]
    · rw [h.last (by omega)]; simp
theorem markTo_ok {q : QS} {k : Nat} {p : List Stp} (hp : POk q k p) {last : Nat} (h1 : 1 ≤ last) (hl : last ≤ p.length) (hf : Free (litsAt p last)) : ∀ (i : Nat) (m : List Bool), i ≤ p.length → MarkOk q k p last i m → MarkOk q k p last 0 (markTo p last i m) := by
  intro i
  induction i with
  | zero => intro m _ h; exact h
  | succ i ih => intro m hi h; exact ih _ (by omega) (markStep_ok hp (by omega) h1 hl hf h)
theorem marks_ok {q : QS} {k : Nat} {p : List Stp} (hp : POk q k p) {last : Nat} (h1 : 1 ≤ last) (hl : last ≤ p.length) (hf : Free (litsAt p last)) : MarkOk q k p last 0 (needs p last) := by
  have hno : ∀ j, (List.replicate (p.length + 1) false).getD j false = false := fun j => by
    rw [List.getD, List.getElem?_replicate]; split <;> rfl
  refine markTo_ok hp h1 hl hf _ _ (Nat.le_refl _) ⟨by simp, fun j hj => ?_, fun j hj hij => by omega, fun h => by omega⟩
  rw [hno] at hj; cases hj

/-! ### The short proof -/
structure ShortOk (q : QS) (k : Nat) (p : List Stp) (mk : List Bool) (last i : Nat) (sh : List Stp) (nums : List Nat) : Prop where
  ok : POk q k sh
  free : ∀ s ∈ sh, Free s.lits
  nlen : nums.length = p.length + 1
  zero : nums.getD 0 0 = 0
  nums : ∀ j, 1 ≤ j → j ≤ i → mk.getD j false = true → 1 ≤ nums.getD j 0 ∧ nums.getD j 0 ≤ sh.length ∧ litsAt sh (nums.getD j 0) = litsAt p j
  len : sh.length ≤ i
  twos : twos sh ≤ twos (p.take i)
  last : last ≤ i → ∃ s, sh.getLast? = some s ∧ s.lits = litsAt p last
theorem twos_snoc (p : List Stp) (s : Stp) : twos (p ++ [s]) = twos p + (if s.rule = 3 then 1 else 0) := by
  unfold twos
  rw [List.filter_append, List.length_append]
  by_cases h : s.rule = 3
  · simp [h]
  · simp [h]
theorem getD_setN (m : List Nat) (i j x : Nat) (h : i < m.length) : (m.set i x).getD j 0 = if i = j then x else m.getD j 0 := by
  rw [List.getD, List.getD, List.getElem?_set]
  by_cases e : i = j
  · subst e; simp [h]
  · simp [e]
theorem shortStep_ok {q : QS} {k : Nat} {p : List Stp} (hp : POk q k p) {mk : List Bool} {last i : Nat} (hi : i < p.length) (_h1 : 1 ≤ last) (hM : MarkOk q k p last 0 mk) {sh : List Stp} {nums : List Nat} (h : ShortOk q k p mk last i sh nums) (hm : mk.getD (i + 1) false = true) :
    ShortOk q k p mk last (i + 1) (sh ++ [renum nums i (p.getD i P0)]) (nums.set (i + 1) (sh.length + 1)) := by
  have hg : p.getD i P0 = p[i] := by rw [List.getD, List.getElem?_eq_getElem hi]; rfl
  rw [hg]
  have htl : (p.take i).length = i := by simp; omega
  have hla : ∀ n, n ≤ i → litsAt (p.take i) n = litsAt p n := fun n hn => by
    conv => rhs; rw [← List.take_append_drop i p]
    rw [litsAt_append _ _ _ (by omega)]
  have hlits : (renum nums i p[i]).lits = p[i].lits := rfl
  have hrule : (renum nums i p[i]).rule = p[i].rule := rfl
  have hvar : (renum nums i p[i]).var = p[i].var := rfl
  have hself : litsAt p (i + 1) = p[i].lits := litsAt_in p i hi
  have hcl := hM.closed i hi (by omega) hm
  have hnew : StOk q k sh (renum nums i p[i]) := by
    obtain ⟨hlok, hst⟩ := hp i hi
    refine ⟨hlok, ?_⟩
    rw [hrule, hlits, hvar]
    rcases hst with ⟨r1, r2, r3, r4, r5, r6⟩ | ⟨r1, r2, r3, r4, r5⟩ | ⟨r1, r2, r3, r4, r5, r6, r7, r8, r9, r10⟩ | ⟨r1, r2, r3, r4, r5⟩
    · left
      have e1 : (renum nums i p[i]).first = p[i].first := by show (if p[i].rule ≠ 1 ∧ _ then _ else _) = _; rw [if_neg (by simp [r1])]
      have e2 : (renum nums i p[i]).second = 0 := by show (if p[i].second ≤ i then _ else _) = _; rw [if_pos (by omega), r5]; exact h.zero
      rw [e1, e2]
      exact ⟨r1, r2, r3, r4, rfl, r6⟩
    · right; left
      have e1 : (renum nums i p[i]).first = 0 := by show (if p[i].rule ≠ 1 ∧ p[i].first ≤ i then _ else _) = _; rw [if_pos ⟨by omega, by omega⟩, r3]; exact h.zero
      have e2 : (renum nums i p[i]).second = 0 := by show (if p[i].second ≤ i then _ else _) = _; rw [if_pos (by omega), r4]; exact h.zero
      rw [e1, e2]
      exact ⟨r1, r2, rfl, rfl, r5⟩
    · right; right; left
      rw [htl] at r2 r3
      have hr : p[i].rule ≠ 1 := by omega
      have n1 := h.nums p[i].first r2.1 r2.2 ((hcl hr).1 ⟨by omega, by omega⟩)
      have n2 := h.nums p[i].second r3.1 r3.2 ((hcl hr).2 ⟨by omega, by omega⟩)
      have e1 : (renum nums i p[i]).first = nums.getD p[i].first 0 := by show (if p[i].rule ≠ 1 ∧ p[i].first ≤ i then _ else _) = _; rw [if_pos ⟨hr, r2.2⟩]
      have e2 : (renum nums i p[i]).second = nums.getD p[i].second 0 := by show (if p[i].second ≤ i then _ else _) = _; rw [if_pos r3.2]
      rw [hla _ r2.2] at r5 r7 r10
      rw [hla _ r3.2] at r6 r8 r10
      rw [e1, e2, n1.2.2, n2.2.2]
      exact ⟨r1, ⟨n1.1, n1.2.1⟩, ⟨n2.1, n2.2.1⟩, r4, r5, r6, r7, r8, r9, r10⟩
    · right; right; right
      rw [htl] at r2
      have hr : p[i].rule ≠ 1 := by omega
      have n1 := h.nums p[i].first r2.1 r2.2 ((hcl hr).1 ⟨by omega, by omega⟩)
      have e1 : (renum nums i p[i]).first = nums.getD p[i].first 0 := by show (if p[i].rule ≠ 1 ∧ p[i].first ≤ i then _ else _) = _; rw [if_pos ⟨hr, r2.2⟩]
      have e2 : (renum nums i p[i]).second = 0 := by show (if p[i].second ≤ i then _ else _) = _; rw [if_pos (by omega), r3]; exact h.zero
      rw [hla _ r2.2] at r4 r5
      rw [e1, e2, n1.2.2]
      exact ⟨r1, ⟨n1.1, n1.2.1⟩, rfl, r4, r5⟩
  have hsl := h.len
  refine ⟨h.ok.snoc hnew, fun s hs => ?_, by rw [List.length_set]; exact h.nlen, ?_, fun j hj1 hji hmj => ?_, by simp; omega, ?_, fun hli => ?_⟩
  · rcases List.mem_append.1 hs with hs | hs
    · exact h.free s hs
    · simp at hs; subst hs
      rw [hlits, ← hself]; exact (hM.at_ _ hm).2.2
  · rw [getD_setN _ _ _ _ (by rw [h.nlen]; omega), if_neg (by omega)]; exact h.zero
  · rw [getD_setN _ _ _ _ (by rw [h.nlen]; omega)]
    by_cases e : i + 1 = j
    · subst e
      rw [if_pos rfl]
      exact ⟨by omega, by simp, by rw [litsAt_new, hlits, hself]⟩
    · rw [if_neg e]
      have := h.nums j hj1 (by omega) hmj
      exact ⟨this.1, by rw [List.length_append]; omega, by rw [litsAt_append _ _ _ this.2.1]; exact this.2.2⟩
  · rw [twos_snoc, hrule, List.take_succ_eq_append_getElem hi, twos_snoc]
    have := h.twos
    omega
  · by_cases e : last = i + 1
    · exact ⟨renum nums i p[i], by simp, by rw [hlits, e, hself]⟩
    · have := (hM.at_ _ hm).1
      omega
theorem shortSkip_ok {q : QS} {k : Nat} {p : List Stp} {mk : List Bool} {last i : Nat} (hi : i < p.length) (hM : MarkOk q k p last 0 mk) (h1 : 1 ≤ last) {sh : List Stp} {nums : List Nat} (h : ShortOk q k p mk last i sh nums) (hm : mk.getD (i + 1) false = false) : ShortOk q k p mk last (i + 1) sh nums := by
  refine ⟨h.ok, h.free, h.nlen, h.zero, fun j hj1 hji hmj => ?_, by have := h.len; omega, ?_, fun hli => ?_⟩
  · by_cases e : j = i + 1
    · subst e; rw [hm] at hmj; cases hmj
    · exact h.nums j hj1 (by omega) hmj
  · rw [List.take_succ_eq_append_getElem hi, twos_snoc]
    have := h.twos
    omega
  · by_cases e : last = i + 1
    · have := hM.last (by omega)
      rw [e, hm] at this; cases this
    · exact h.last (by omega)
theorem shortTo_ok {q : QS} {k : Nat} {p : List Stp} (hp : POk q k p) {mk : List Bool} {last : Nat} (h1 : 1 ≤ last) (hM : MarkOk q k p last 0 mk) : ∀ (m : Nat) (sh : List Stp) (nums : List Nat), m ≤ p.length → ShortOk q k p mk last (p.length - m) sh nums → ShortOk q k p mk last p.length (shortTo p mk m sh nums).1 (shortTo p mk m sh nums).2 := by
  intro m
  induction m with
  | zero => intro sh nums _ h; simpa [shortTo] using h
  | succ m ih =>
    intro sh nums hm h
    rw [shortTo]
    have hi : p.length - (m + 1) < p.length := by omega
    have hn : p.length - m = p.length - (m + 1) + 1 := by omega
    cases hmk : mk.getD (p.length - (m + 1) + 1) false with
    | true =>
      rw [if_pos rfl]
      exact ih _ _ (by omega) (by rw [hn]; exact shortStep_ok hp hi h1 hM h hmk)
    | false =>
      rw [if_neg (by decide)]
      exact ih _ _ (by omega) (by rw [hn]; exact shortSkip_ok hi hM h1 h hmk)
theorem short_ok {q : QS} {k : Nat} {p : List Stp} (hp : POk q k p) {last : Nat} (h1 : 1 ≤ last) (hl : last ≤ p.length) (hf : Free (litsAt p last)) :
    POk q k (shortOf p last) ∧ (∀ s ∈ shortOf p last, Free s.lits) ∧ (shortOf p last).length ≤ p.length ∧ twos (shortOf p last) ≤ twos p ∧ ∃ s, (shortOf p last).getLast? = some s ∧ s.lits = litsAt p last := by
  have hM := marks_ok hp h1 hl hf
  have hz : ∀ j, (List.replicate (p.length + 1) 0).getD j 0 = 0 := fun j => by
    rw [List.getD, List.getElem?_replicate]; split <;> rfl
  have h := shortTo_ok hp h1 hM p.length [] (List.replicate (p.length + 1) 0) (Nat.le_refl _) (by
    rw [Nat.sub_self]
    exact ⟨pok_nil q k, fun s hs => by simp at hs, by simp, hz 0, fun j h1 h2 => by omega, by simp, by simp [twos], fun h => by omega⟩)
  have ht := h.twos
  rw [List.take_length] at ht
  exact ⟨h.ok, h.free, h.len, ht, h.last hl⟩
end Go.Proofs.YtgipjjhkhfihpaaDoor

namespace Go.Proofs.YtgipjjhkhfihpaaDoor
open Go.RowKit

/-! ### Numerals -/
theorem dec_snoc (l : List UInt8) (c : UInt8) : dec (l ++ [c]) = dec l * 10 + (c.toNat - 48) := by unfold dec; rw [List.foldl_append]; rfl
theorem digit_byte (d : Nat) (h : d < 10) : (UInt8.ofNat (48 + d)).toNat = 48 + d := by
  rw [UInt8.toNat_ofNat']; omega
theorem decDigits_ok (u : Nat) : dec (Lib.decDigits u) = u ∧ (Lib.decDigits u).all isDigit = true ∧ Lib.decDigits u ≠ [] ∧ (1 ≤ u → (Lib.decDigits u).head? ≠ some 48) := by
  induction u using Nat.strongRecOn with
  | _ u ih =>
    by_cases h : u < 10
    · rw [Lib.decDigits, dif_pos h]
      have hb := digit_byte u h
      refine ⟨by show 0 * 10 + ((UInt8.ofNat (48 + u)).toNat - 48) = u; rw [hb]; omega, by simp [isDigit]; omega, by simp, fun h1 e => ?_⟩
      have e' : UInt8.ofNat (48 + u) = 48 := by injection e
      have h5 := congrArg UInt8.toNat e'
      rw [hb] at h5
      have h6 : (48 : UInt8).toNat = 48 := rfl
      omega
    · rw [Lib.decDigits, dif_neg h]
      obtain ⟨i1, i2, i3, i4⟩ := ih (u / 10) (by omega)
      have hb := digit_byte (u % 10) (by omega)
      refine ⟨by rw [dec_snoc, i1, hb]; omega, ?_, by simp, fun _ => ?_⟩
      · rw [List.all_append, i2]
        simp [isDigit]; omega
      · cases hd : Lib.decDigits (u / 10) with
        | nil => exact absurd hd i3
        | cons a r =>
          have := i4 (by omega)
          rw [hd] at this
          simpa using this
theorem decDigits_len (u : Nat) (h : u < 1000000) : (Lib.decDigits u).length ≤ 6 := by
  obtain ⟨h1, h2, h3, h4⟩ := decDigits_ok u
  by_cases h0 : u = 0
  · subst h0; rw [Lib.decDigits, dif_pos (by decide)]; simp
  · apply Classical.byContradiction
    intro hn
    have h6 := dec_ge _ h2 h3 (h4 (by omega)) 6 (by omega)
    have hm := dec_mono (Lib.decDigits u) (6 + 1)
    rw [h1] at hm
    have : (10 : Nat) ^ 6 = 1000000 := by decide
    omega
theorem cnt_digits (u : Nat) (h1 : 1 ≤ u) (h : u ≤ 100000) : cnt (Lib.decDigits u) big = u := by
  obtain ⟨a, b, c, d⟩ := decDigits_ok u
  unfold cnt
  rw [if_pos ⟨b, decDigits_len u (by omega), d h1, by rw [a]; unfold big; omega⟩, a]
theorem digits_no (u : Nat) (x : UInt8) (hx : isDigit x = false) : x ∉ Lib.decDigits u := by
  intro hm
  have := (decDigits_ok u).2.1
  rw [List.all_eq_true] at this
  rw [this x hm] at hx; cases hx
theorem decDigits_small (v : Nat) (h : v < 10) : Lib.decDigits v = [UInt8.ofNat (48 + v)] := by rw [Lib.decDigits, dif_pos h]
/-- A literal's word. -/
theorem itoa_pos (v : Nat) : Lib.itoa (litI v true) = Lib.decDigits v := by
  have e0 : litI v true = (v : Int) := rfl
  unfold Lib.itoa; rw [e0, if_neg (by omega)]; simp
theorem itoa_neg' (v : Nat) (h : 1 ≤ v) : Lib.itoa (litI v false) = 45 :: Lib.decDigits v := by
  have e0 : litI v false = -(v : Int) := rfl
  unfold Lib.itoa; rw [e0, if_pos (by omega)]; simp
theorem dig_digit (v : Nat) (h1 : 1 ≤ v) (h8 : v ≤ 8) : dig (Lib.decDigits v) = (v : Int) := by
  rw [decDigits_small v (by omega)]
  have hb := digit_byte v (by omega)
  show (if 49 ≤ ((UInt8.ofNat (48 + v)).toNat : Int) ∧ ((UInt8.ofNat (48 + v)).toNat : Int) ≤ 56 then ((UInt8.ofNat (48 + v)).toNat : Int) - 48 else 0) = (v : Int)
  rw [hb, if_pos (by omega)]
  omega
theorem litInto_word (c : Nat × Nat) (v : Nat) (s : Bool) (h1 : 1 ≤ v) (h8 : v ≤ 8) : litInto c (Lib.itoa (litI v s)) = (withLit c (litI v s), true) ∧ litVar (Lib.itoa (litI v s)) = v := by
  have hd := dig_digit v h1 h8
  cases s with
  | true =>
    rw [itoa_pos]
    have hs := decDigits_small v (by omega)
    have hne : UInt8.ofNat (48 + v) ≠ 45 := fun e => by
      have := congrArg UInt8.toNat e
      rw [digit_byte v (by omega)] at this
      simp at this; omega
    constructor
    · unfold litInto
      split
      · next r he => rw [hs] at he; injection he with he; exact absurd he hne
      · next he =>
        rw [hd]
        have e0 : litI v true = (v : Int) := rfl
        unfold withLit
        rw [e0, if_neg (by omega), bitOf_nat v h1 h8]
        simp; omega
    · unfold litVar; rw [hd, if_neg (by omega)]; simp
  | false =>
    rw [itoa_neg' v h1]
    constructor
    · show ((c.1, c.2 ||| 2 ^ (dig (Lib.decDigits v)).toNat), decide (0 < dig (Lib.decDigits v))) = _
      rw [hd]
      have e0 : litI v false = -(v : Int) := rfl
      unfold withLit
      rw [e0, if_pos (by omega), Int.neg_neg, bitOf_nat v h1 h8]
      simp; omega
    · have h0 : dig (45 :: Lib.decDigits v) = 0 := by
        rw [decDigits_small v (by omega)]; rfl
      unfold litVar
      rw [if_pos h0]
      show (dig (Lib.decDigits v)).toNat = v
      rw [hd]; simp

/-! ### Lines -/
/-- The words of a step. -/
def wordsP (s : Stp) : List (List UInt8) :=
  if s.rule = 1 then [[97], Lib.decDigits s.first]
  else if s.rule = 2 then [99] :: (listOf s.lits).map Lib.itoa
  else if s.rule = 3 then [[114], Lib.decDigits s.first, Lib.decDigits s.second, Lib.decDigits s.var]
  else [[100], Lib.decDigits s.first]
def joinW : List (List UInt8) → List UInt8
  | [] => []
  | [w] => w
  | w :: ws => w ++ 32 :: joinW ws
theorem joinW_cut (ws : List (List UInt8)) (h : ∀ w ∈ ws, (32 : UInt8) ∉ w) : ws ≠ [] → ∀ st, (joinW ws).foldl (cutStep 32) (st, []) = (st ++ ws.dropLast, ws.getLastD []) := by
  induction ws with
  | nil => intro h; exact absurd rfl h
  | cons w ws ih =>
    intro _ st
    cases ws with
    | nil =>
      show w.foldl (cutStep 32) (st, []) = _
      rw [cut_line 32 w (h w (by simp))]; simp
    | cons x ws =>
      show (w ++ 32 :: joinW (x :: ws)).foldl (cutStep 32) (st, []) = _
      rw [List.foldl_append, cut_line 32 w (h w (by simp)), List.foldl_cons]
      have : cutStep 32 (st, [] ++ w) 32 = (st ++ [w], []) := by simp [cutStep]
      rw [this, ih (fun y hy => h y (by simp [hy])) (by simp) (st ++ [w])]
      simp
theorem cut_words (ws : List (List UInt8)) (h0 : ws ≠ []) (h : ∀ w ∈ ws, (32 : UInt8) ∉ w) : cutAt 32 (joinW ws) = ws := by
  unfold cutAt cutTo
  rw [joinW_cut ws h h0 []]
  simp only [List.nil_append]
  rw [List.getLastD_eq_getLast?, List.getLast?_eq_some_getLast h0]
  exact List.dropLast_concat_getLast h0
end Go.Proofs.YtgipjjhkhfihpaaDoor

namespace Go.Proofs.YtgipjjhkhfihpaaDoor

/-! ### Blocks, by the kinds of the variables -/
def kindAt (vs : List (Nat × Bool)) (i : Nat) : Bool := (vs.getD i (0, false)).2
def newAt (vs : List (Nat × Bool)) (i : Nat) : Bool := decide (0 < i) && (kindAt vs i != kindAt vs (i - 1))
/-- Where blocks end ahead of k. -/
def cutsTo (vs : List (Nat × Bool)) (k : Nat) : List Nat := (List.range k).filter (newAt vs)
theorem cutsTo_succ (vs : List (Nat × Bool)) (k : Nat) : cutsTo vs (k + 1) = cutsTo vs k ++ (if newAt vs k then [k] else []) := by
  unfold cutsTo
  rw [List.range_succ, List.filter_append]
  congr 1
  simp [List.filter_cons]
theorem cutsTo_lt (vs : List (Nat × Bool)) (k : Nat) : ∀ x ∈ cutsTo vs k, 0 < x ∧ x < k := by
  intro x hx
  unfold cutsTo at hx
  rw [List.mem_filter] at hx
  obtain ⟨h1, h2⟩ := hx
  simp [newAt] at h1 h2
  exact ⟨h2.1, h1⟩
/-- What the program has gathered behind k variables: whole blocks, and the one at hand. -/
def gather (vs : List (Nat × Bool)) : Nat → List (List Nat) × List Nat
  | 0 => ([], [])
  | k + 1 => if newAt vs k then ((gather vs k).1 ++ [(gather vs k).2], [(vs.getD k (0, false)).1]) else ((gather vs k).1, (gather vs k).2 ++ [(vs.getD k (0, false)).1])
def progBlocks (vs : List (Nat × Bool)) : List (List Nat) := if 0 < (gather vs vs.length).2.length then (gather vs vs.length).1 ++ [(gather vs vs.length).2] else (gather vs vs.length).1

theorem getD_left {α : Type} (a b : List α) (j : Nat) (d : α) (h : j < a.length) : (a ++ b).getD j d = a.getD j d := by
  simp [List.getD, List.getElem?_append_left h]
/-- A piece of a list. -/
def piece (l : List Nat) (a b : Nat) : List Nat := (l.drop a).take (b - a)
def startOf (es : List Nat) (j : Nat) : Nat := if 0 < j then es.getD (j - 1) 0 else 0
theorem piece_snoc (l : List Nat) (a b : Nat) (hab : a ≤ b) (hb : b < l.length) : piece l a (b + 1) = piece l a b ++ [l[b]] := by
  unfold piece
  rw [show b + 1 - a = (b - a) + 1 from by omega, List.take_succ_eq_append_getElem (by simp; omega)]
  congr 1
  simp
  congr 1
  omega
theorem gather_eq (vs : List (Nat × Bool)) : ∀ k, k ≤ vs.length → 
    (gather vs k).1 = (List.range (cutsTo vs k).length).map (fun j => piece (vs.map (·.1)) (startOf (cutsTo vs k) j) ((cutsTo vs k).getD j 0)) ∧
    (gather vs k).2 = piece (vs.map (·.1)) (startOf (cutsTo vs k) (cutsTo vs k).length) k := by
  intro k
  induction k with
  | zero => intro _; simp [gather, cutsTo, piece, startOf]
  | succ k ih =>
    intro hk
    obtain ⟨h1, h2⟩ := ih (by omega)
    have hlt := cutsTo_lt vs k
    have hst : startOf (cutsTo vs k) (cutsTo vs k).length ≤ k := by
      unfold startOf
      split
      · next hp =>
        have hm : (cutsTo vs k).getD ((cutsTo vs k).length - 1) 0 ∈ cutsTo vs k := by
          rw [List.getD, List.getElem?_eq_getElem (by omega)]
          exact List.getElem_mem _
        have := (hlt _ hm).2; omega
      · omega
    have hv : (vs.getD k (0, false)).1 = (vs.map (·.1))[k]'(by simp; omega) := by
      simp [List.getD, show k < vs.length by omega]
    rw [gather, cutsTo_succ]
    cases hn : newAt vs k with
    | false =>
      rw [if_neg (by decide), if_neg (by decide)]
      simp only [List.append_nil]
      refine ⟨h1, ?_⟩
      rw [h2, hv, ← piece_snoc _ _ _ hst]
    | true =>
      rw [if_pos rfl, if_pos rfl]
      constructor
      · show (gather vs k).1 ++ [(gather vs k).2] = _
        rw [List.length_append, List.length_singleton, List.range_succ, List.map_append, h1, h2]
        congr 1
        · apply List.map_congr_left
          intro j hj
          have hj' : j < (cutsTo vs k).length := by simpa using hj
          have e1 : startOf (cutsTo vs k ++ [k]) j = startOf (cutsTo vs k) j := by
            unfold startOf
            split
            · rw [getD_left _ _ _ _ (by omega)]
            · rfl
          rw [e1, getD_left _ _ _ _ hj']
        · simp only [List.map_cons, List.map_nil]
          have e1 : startOf (cutsTo vs k ++ [k]) (cutsTo vs k).length = startOf (cutsTo vs k) (cutsTo vs k).length := by
            unfold startOf
            split
            · rw [getD_left _ _ _ _ (by omega)]
            · rfl
          rw [e1]
          simp [List.getD]
      · show [(vs.getD k (0, false)).1] = _
        have e1 : startOf (cutsTo vs k ++ [k]) (cutsTo vs k ++ [k]).length = k := by
          unfold startOf
          rw [if_pos (by simp)]
          simp [List.getD]
        rw [e1]
        unfold piece
        rw [show k + 1 - k = 1 from by omega, List.drop_eq_getElem_cons (by simp; omega), hv]
        rfl

/-- Where all blocks end. -/
def endsOf (vs : List (Nat × Bool)) : List Nat := if 0 < vs.length then cutsTo vs vs.length ++ [vs.length] else []
theorem gather_pos (vs : List (Nat × Bool)) (k : Nat) : 0 < (gather vs (k + 1)).2.length := by
  rw [gather]; split <;> simp
theorem progBlocks_eq (vs : List (Nat × Bool)) : progBlocks vs = (List.range (endsOf vs).length).map (fun j => piece (vs.map (·.1)) (startOf (endsOf vs) j) ((endsOf vs).getD j 0)) := by
  obtain ⟨h1, h2⟩ := gather_eq vs vs.length (Nat.le_refl _)
  unfold progBlocks endsOf
  rcases Nat.eq_zero_or_pos vs.length with h0 | h0
  · rw [h0]; simp [gather]
  · have hp : 0 < (gather vs vs.length).2.length := by
      obtain ⟨k, hk⟩ : ∃ k, vs.length = k + 1 := ⟨vs.length - 1, by omega⟩
      rw [hk]; exact gather_pos vs k
    rw [if_pos hp, if_pos h0]
    rw [List.length_append, List.length_singleton, List.range_succ, List.map_append, h1, h2]
    congr 1
    · apply List.map_congr_left
      intro j hj
      have hj' : j < (cutsTo vs vs.length).length := by simpa using hj
      have e1 : startOf (cutsTo vs vs.length ++ [vs.length]) j = startOf (cutsTo vs vs.length) j := by
        unfold startOf
        split
        · rw [getD_left _ _ _ _ (by omega)]
        · rfl
      rw [e1, getD_left _ _ _ _ hj']
    · simp only [List.map_cons, List.map_nil]
      have e1 : startOf (cutsTo vs vs.length ++ [vs.length]) (cutsTo vs vs.length).length = startOf (cutsTo vs vs.length) (cutsTo vs vs.length).length := by
        unfold startOf
        split
        · rw [getD_left _ _ _ _ (by omega)]
        · rfl
      rw [e1]
      simp [List.getD]

/-- Read's ends, where its bits tell the kinds. -/
theorem ends_eq (vs : List (Nat × Bool)) (all : Nat) (hk : ∀ x ∈ vs, all.testBit x.1 = x.2) : endsTo (vs.map (·.1)) all vs.length = endsOf vs := by
  have hka : ∀ i, i < vs.length → all.testBit ((vs.map (·.1)).getD i 0) = kindAt vs i := by
    intro i hi
    unfold kindAt
    have := hk vs[i] (List.getElem_mem hi)
    simpa [List.getD, hi] using this
  have h : ∀ k, k ≤ vs.length → endsTo (vs.map (·.1)) all k = (cutsTo vs (min (k + 1) vs.length)) ++ (if k = vs.length ∧ 0 < vs.length then [vs.length] else []) := by
    intro k
    induction k with
    | zero =>
      intro _
      rcases Nat.eq_zero_or_pos vs.length with h0 | h0
      · rw [h0]; simp [endsTo, cutsTo]
      · rw [show min (0 + 1) vs.length = 1 from by omega, if_neg (by omega)]
        simp [endsTo, cutsTo, newAt]
    | succ k ih =>
      intro hle
      rw [endsTo_succ, ih (by omega)]
      have hne : ¬ (k = vs.length ∧ 0 < vs.length) := by omega
      rw [if_neg hne, List.append_nil, show min (k + 1) vs.length = k + 1 from by omega]
      by_cases hlast : k + 1 = vs.length
      · have e : endAt (vs.map (·.1)) all (k + 1) = true := by
          unfold endAt; simp [hlast]
        rw [e, if_pos rfl, if_pos ⟨hlast, by omega⟩, show min (k + 1 + 1) vs.length = k + 1 from by omega, hlast]
      · have hlt : k + 1 < vs.length := by omega
        have e : endAt (vs.map (·.1)) all (k + 1) = newAt vs (k + 1) := by
          unfold endAt newAt
          rw [hka (k + 1) hlt, hka (k + 1 - 1) (by omega)]
          simp [hlast]
        have hne2 : ¬ (k + 1 = vs.length ∧ 0 < vs.length) := by omega
        rw [e, if_neg hne2, List.append_nil, show min (k + 1 + 1) vs.length = k + 1 + 1 from by omega, cutsTo_succ vs (k + 1)]
  rw [h vs.length (Nat.le_refl _)]
  unfold endsOf
  rw [show min (vs.length + 1) vs.length = vs.length from by omega]
  by_cases h0 : 0 < vs.length
  · rw [if_pos ⟨rfl, h0⟩, if_pos h0]
  · rw [if_neg (by omega), if_neg h0, show vs.length = 0 from by omega]
    rfl
end Go.Proofs.YtgipjjhkhfihpaaDoor
