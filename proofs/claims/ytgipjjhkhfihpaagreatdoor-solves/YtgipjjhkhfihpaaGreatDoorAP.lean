import Derived.Test.YtgipjjhkhfihpaaGreatDoorAO
namespace Go.Proofs.YtgipjjhkhfihpaaGreatDoor
open Go.RowKit

/-! ### Resolving -/
theorem resP_ok {q : QS} (hq : QGood q) {k : Nat} {p : List Stp} (hp : POk q k p) {a b v : Nat} {s : Bool} (ha : 1 ≤ a ∧ a ≤ p.length) (hb : 1 ≤ b ∧ b ≤ p.length) (hx : ∃ x ∈ q.vars, x.1 = v ∧ pivotB k x.2 = true)
    (hfa : Free (litsAt p a)) (hfb : Free (litsAt p b)) (hla : L (litsAt p a) s v = true) (hlb : L (litsAt p b) (!s) v = true) (hf : Free (without2 (litsAt p a) (litsAt p b) v)) :
    POk q k (resP p a b v).1 ∧ (∃ x, (resP p a b v).1 = p ++ [x]) ∧ (resP p a b v).2 = p.length + 1 ∧ (resP p a b v).1.length = p.length + 1 ∧ litsAt (resP p a b v).1 (resP p a b v).2 = without2 (litsAt p a) (litsAt p b) v := by
  have hv : 1 ≤ v ∧ v ≤ 8 := by obtain ⟨x, hx, rfl, _⟩ := hx; exact hq.qb.names x hx
  have hsw : without2 (litsAt p b) (litsAt p a) v = without2 (litsAt p a) (litsAt p b) v := L_ext (fun s u => by rw [L_without2 _ _ _ hv.1 hv.2, L_without2 _ _ _ hv.1 hv.2, Bool.or_comm])
  have hlok : LOk q (without2 (litsAt p a) (litsAt p b) v) := by
    have h1 := hp.lok a
    have h2 := hp.lok b
    refine ⟨without_lt _ _ ⟨or_lt _ _ h1.bd.1 h2.bd.1, or_lt _ _ h1.bd.2 h2.bd.2⟩, fun s u hu => ?_⟩
    rw [L_without2 _ _ _ hv.1 hv.2, Bool.and_eq_true, Bool.or_eq_true] at hu
    rcases hu.1 with hu | hu
    · exact h1.vars s u hu
    · exact h2.vars s u hu
  have hh : hasLit (litsAt p a) (v : Int) = L (litsAt p a) true v := hasLit_L _ v true hv.1 hv.2
  unfold resP
  rw [hh]
  cases s with
  | true =>
    rw [hla, if_pos rfl]
    exact ⟨hp.snoc ⟨hlok, Or.inr (Or.inr (Or.inl ⟨rfl, ha, hb, hx, hla, hlb, hfa, hfb, hf, rfl⟩))⟩, ⟨_, rfl⟩, rfl, by simp, litsAt_new _ _⟩
  | false =>
    have hno : L (litsAt p a) true v = false := hfa.not hla
    rw [hno, if_neg (by decide), hsw]
    exact ⟨hp.snoc ⟨hlok, Or.inr (Or.inr (Or.inl ⟨rfl, hb, ha, hx, hlb, hla, hfb, hfa, hf, hsw.symm⟩))⟩, ⟨_, rfl⟩, rfl, by simp, litsAt_new _ _⟩
/-- Universal variables that have no value. -/
def Loose (q : QS) (full : Nat × Nat) (u : Nat) : Prop := (∃ x ∈ q.vars, x.1 = u ∧ x.2 = true) ∧ L full true u = false ∧ L full false u = false
theorem kind_one {q : QS} (hq : QGood q) {x y : Nat × Bool} (hx : x ∈ q.vars) (hy : y ∈ q.vars) (h : x.1 = y.1) : x = y := by
  obtain ⟨i, hi, rfl⟩ := List.mem_iff_getElem.1 hx
  obtain ⟨j, hj, rfl⟩ := List.mem_iff_getElem.1 hy
  have := index_inj hq hi hj h
  subst this; rfl
theorem expl_ok {q : QS} (hq : QGood q) {ref : List Stp} {cs : List Nat} (hcs : ∀ s ∈ cs, 1 ≤ s ∧ s ≤ ref.length) {d : Nat} {path : Nat × Nat} (hpa : PathAt q d path) (full : Nat × Nat) :
    ∀ (ts : List (Int × Nat)) (vals : Nat × Nat), TrailR q ref cs path ts vals → (∀ s v, L vals s v = true → L full s v = true) → ∀ (p : List Stp) (n : Nat), (∃ x, p = ref ++ x) → POk q 1 p → 1 ≤ n → n ≤ p.length → Free (litsAt p n) →
      (∀ r u, L (litsAt p n) r u = true → L vals (!r) u = true ∨ Loose q full u) →
      POk q 1 (expl ts p n).1 ∧ (∃ x, (expl ts p n).1 = p ++ x ∧ x.length ≤ ts.length) ∧ 1 ≤ (expl ts p n).2 ∧ (expl ts p n).2 ≤ (expl ts p n).1.length ∧ Free (litsAt (expl ts p n).1 (expl ts p n).2) ∧
      (∀ r u, L (litsAt (expl ts p n).1 (expl ts p n).2) r u = true → L path (!r) u = true ∨ Loose q full u) := by
  intro ts
  induction ts with
  | nil =>
    intro vals h _ p n hpx hp h1 hn hf hc
    have e : vals = path := h
    subst e
    exact ⟨hp, ⟨[], by simp [expl], by simp⟩, h1, hn, hf, hc⟩
  | cons t ts ih =>
    rintro vals ⟨pre, hpre, ⟨v, s, ht, ⟨x, hx, hxe, hxu⟩, hn1, hn2, hcsm, hfr, hLr, hoth⟩, rfl⟩ hfull p n hpx hp h1 hn hf hc
    have hv := hq.qb.names x hx
    rw [hxe] at hv
    rw [ht] at hc hfull
    have hsub : ∀ r u, L pre r u = true → L full r u = true := fun r u h => hfull r u (by rw [L_with _ _ _ hv.1 hv.2, h]; rfl)
    have hvf : L full s v = true := hfull s v (by rw [L_with _ _ _ hv.1 hv.2]; simp)
    have hrr := hcs _ hcsm
    obtain ⟨xx, hpe⟩ := hpx
    have hlr : litsAt p t.2 = litsAt ref t.2 := by rw [hpe, litsAt_append _ _ _ hrr.2]
    have hplen : t.2 ≤ p.length := by rw [hpe, List.length_append]; omega
    have hvfree := (trail_vals hq hpa ts pre hpre).1
    have hloose : ∀ u, Loose q full u → u ≠ v := by
      rintro u ⟨⟨y, hy, hye, hyu⟩, _, _⟩ e
      have := kind_one hq hy hx (by rw [hye, hxe, e])
      rw [this, hxu] at hyu; cases hyu
    have hcp : ∀ r u, u ≠ v → L (litsAt p n) r u = true → L pre (!r) u = true ∨ Loose q full u := by
      intro r u hne hr
      rcases hc r u hr with h | h
      · rw [L_with _ _ _ hv.1 hv.2, Bool.or_eq_true, Bool.and_eq_true] at h
        rcases h with h | ⟨_, h⟩
        · exact Or.inl h
        · exact absurd (of_decide_eq_true h) hne
      · exact Or.inr h
    have hcv : ∀ r, L (litsAt p n) r v = true → r = !s := by
      intro r hr
      rcases hc r v hr with h | h
      · rw [L_with _ _ _ hv.1 hv.2, Bool.or_eq_true, Bool.and_eq_true] at h
        rcases h with h | ⟨h, _⟩
        · cases r
          · simp only [Bool.not_false] at h; rw [hn1] at h; cases h
          · simp only [Bool.not_true] at h; rw [hn2] at h; cases h
        · revert h; cases r <;> cases s <;> simp
      · exact absurd rfl (hloose v h)
    rw [expl]
    have hneg : -t.1 = litI v (!s) := by rw [ht, litI_neg]
    have habs : t.1.natAbs = v := by rw [ht, litI_abs]
    rw [hneg, habs, hasLit_L _ _ _ hv.1 hv.2]
    cases hh : L (litsAt p n) (!s) v with
    | false =>
      simp only [Bool.false_eq_true, if_false]
      have := ih pre hpre hsub p n ⟨xx, hpe⟩ hp h1 hn hf (fun r u hr => by
        by_cases e : u = v
        · subst e
          have e2 := hcv r hr
          rw [e2] at hr; rw [hr] at hh; cases hh
        · exact hcp r u e hr)
      obtain ⟨a1, ⟨y, a2, a3⟩, a4⟩ := this
      exact ⟨a1, ⟨y, a2, by simp; omega⟩, a4⟩
    | true =>
      simp only [if_true]
      have hres : ∀ r u, L (without2 (litsAt p t.2) (litsAt p n) v) r u = true → L pre (!r) u = true ∨ Loose q full u := by
        intro r u hr
        rw [L_without2 _ _ _ hv.1 hv.2, Bool.and_eq_true, Bool.or_eq_true, Bool.not_eq_true'] at hr
        have hne : u ≠ v := of_decide_eq_false hr.2
        rcases hr.1 with hr | hr
        · rw [hlr] at hr
          rcases hoth u r hr with h | h
          · exact absurd h.1 hne
          · exact Or.inl h
        · exact hcp r u hne hr
      have hfree2 : Free (without2 (litsAt p t.2) (litsAt p n) v) := by
        intro u a b
        have ha := hres true u a
        have hb := hres false u b
        rcases ha with ha | ha
        · rcases hb with hb | hb
          · exact hvfree u hb ha
          · have h5 : L full false u = true := hsub _ _ ha
            rw [hb.2.2] at h5; cases h5
        · rcases hb with hb | hb
          · have h5 : L full true u = true := hsub _ _ hb
            rw [ha.2.1] at h5; cases h5
          · rw [L_without2 _ _ _ hv.1 hv.2, Bool.and_eq_true, Bool.or_eq_true] at a b
            have hnr : ∀ r, L (litsAt p t.2) r u = true → False := by
              intro r hr
              rw [hlr] at hr
              rcases hoth u r hr with h | h
              · exact hloose u ha h.1
              · have h5 := hsub _ _ h
                cases r
                · have h6 : L full true u = true := h5
                  rw [ha.2.1] at h6; cases h6
                · have h6 : L full false u = true := h5
                  rw [ha.2.2] at h6; cases h6
            rcases a.1 with a | a
            · exact hnr _ a
            · rcases b.1 with b | b
              · exact hnr _ b
              · exact hf u a b
      have hr := resP_ok hq hp (s := s) ⟨hrr.1, hplen⟩ ⟨h1, hn⟩ ⟨x, hx, hxe, by rw [hxu]; rfl⟩ (by rw [hlr]; exact hfr) hf (by rw [hlr]; exact hLr) hh hfree2
      obtain ⟨b1, ⟨y, b2⟩, b3, b4, b5⟩ := hr
      have := ih pre hpre hsub (resP p t.2 n v).1 (resP p t.2 n v).2 ⟨xx ++ [y], by rw [b2, hpe, List.append_assoc]⟩ b1 (by omega) (by omega) (by rw [b5]; exact hfree2) (fun r u hu => hres r u (by rw [← b5]; exact hu))
      obtain ⟨a1, ⟨z, a2, a3⟩, a4⟩ := this
      exact ⟨a1, ⟨y :: z, by rw [a2, b2]; simp, by simp; omega⟩, a4⟩

/-! ### What a node finds -/
/-- What was found on a path. -/
structure FactOk (q : QS) (S : SS) (path : Nat × Nat) (f : Nat × Nat) : Prop where
  inn : FactIn q S f
  on : OnPath f.1 path (S.lits f)
theorem find_conf {uni vals : Nat × Nat} {c : Nat × Nat} (h : isConf uni vals c = true) : Free c ∧ (∀ r u, L c r u = true → L vals r u = false) ∧ (∀ r u, L c r u = true → L vals (!r) u = true ∨ L uni r u = true) := by
  unfold isConf openB at h
  rw [Bool.and_eq_true, Bool.and_eq_true, Bool.not_eq_true', Bool.not_eq_true', empty_iff] at h
  obtain ⟨⟨h1, h2⟩, h3⟩ := h
  refine ⟨(free_iff _).1 h2, fun r u hr => ?_, fun r u hr => ?_⟩
  · cases hh : L vals r u with
    | false => rfl
    | true => rw [(meets_iff _ _).2 ⟨r, u, hr, hh⟩] at h1; cases h1
  · have := h3 r u
    rw [L_minus, L_left, hr] at this
    cases hh : L vals (!r) u with
    | true => exact Or.inl rfl
    | false =>
      rw [hh] at this
      right
      simpa using this
theorem units_ok {C : SC} (hq : QGood C.q) (hu : UniOk C.q C.uni) {S : SS} (hS : SInv C S) (path : Nat × Nat) :
    TrailR C.q S.ref (clausesOf C.q S.kept) path (unitsOf C S path).trail.reverse (unitsOf C S path).vals ∧ (unitsOf C S path).trail.length ≤ C.q.vars.length + 1 ∧
    ((unitsOf C S path).conf ≠ 0 → (unitsOf C S path).conf ∈ clausesOf C.q S.kept ∧ isConf C.uni (unitsOf C S path).vals (litsAt S.ref (unitsOf C S path).conf) = true) := by
  have := unitsGo_ok hq hu hS.ref (cs := clausesOf C.q S.kept) (path := path) (C.q.vars.length + 1) path [] rfl
  exact ⟨this.1, by simpa [unitsOf] using this.2.1, this.2.2⟩
def sizeS (S : SS) : Nat := S.ref.length + S.aff.length
def twos (p : List Stp) : Nat := (p.filter (fun s => s.rule == 3)).length
theorem explain_ok {C : SC} (hq : QGood C.q) (hu : UniOk C.q C.uni) {S : SS} (hS : SInv C S) {d : Nat} {path : Nat × Nat} (hpa : PathAt C.q d path) (hc : (unitsOf C S path).conf ≠ 0) :
    SInv C (explain C S (unitsOf C S path)).1 ∧ Ext S (explain C S (unitsOf C S path)).1 ∧ FactOk C.q (explain C S (unitsOf C S path)).1 path (explain C S (unitsOf C S path)).2 ∧ (explain C S (unitsOf C S path)).1.nodes = S.nodes ∧
    sizeS (explain C S (unitsOf C S path)).1 ≤ sizeS S + (C.q.vars.length + 2) ∧ (explain C S (unitsOf C S path)).2.1 = 1 ∧ twos (explain C S (unitsOf C S path)).1.ref ≤ twos S.ref + (unitsOf C S path).trail.length := by
  obtain ⟨ht, hlen, hcf⟩ := units_ok hq hu hS path
  obtain ⟨hcin, hcf⟩ := hcf hc
  generalize unitsOf C S path = U at *
  obtain ⟨hv1, hv2, hv3, hv4⟩ := trail_vals hq hpa _ _ ht
  obtain ⟨c1, c2, c3⟩ := find_conf hcf
  have hcr := clauses_in hS hcin
  have hl := hS.ref.lok U.conf
  obtain ⟨e1, ⟨x, e2, e3⟩, e4, e5, e6, e7⟩ := expl_ok hq (fun s hs => clauses_in hS hs) hpa U.vals _ _ ht (fun _ _ h => h) S.ref U.conf ⟨[], by simp⟩ hS.ref hcr.1 hcr.2 c1 (fun r u hr => by
    rcases c3 r u hr with h | h
    · exact Or.inl h
    · cases hh : L U.vals (!r) u with
      | true => exact Or.inl rfl
      | false =>
        refine Or.inr ⟨(hu r u).1 h, ?_, ?_⟩
        · cases r
          · simpa using hh
          · exact c2 true u hr
        · cases r
          · exact c2 false u hr
          · simpa using hh)
  obtain ⟨d1, ⟨y, d2, d3, d3'⟩, d4, d5, d6⟩ := redP_ok hq 1 _ _ e1 e4 e5 e6
  unfold explain
  dsimp only
  generalize expl U.trail.reverse S.ref U.conf = r at *
  generalize redP C.q 1 r.1 r.2 = dd at *
  have hgrow : SInv C { S with ref := dd.1 } := hS.grow ⟨x ++ y, by rw [d2, e2, List.append_assoc]⟩ d1
  have hext : Ext S { S with ref := dd.1 } := ⟨⟨x ++ y, by show dd.1 = _; rw [d2, e2, List.append_assoc]⟩, ⟨[], by simp⟩⟩
  have hlits : ({ S with ref := dd.1 } : SS).lits (1, dd.2) = redQ 1 C.q.vars.reverse (litsAt r.1 r.2) := d6
  have hon : OnPath 1 path (redQ 1 C.q.vars.reverse (litsAt r.1 r.2)) := by
    intro s v hv
    have hs := red_sub hq 1 _ _ _ hv
    show L path (s == false) v = true
    rw [show (s == false) = !s from by cases s <;> rfl]
    rcases e7 s v hs with h | h
    · exact h
    · exfalso
      obtain ⟨⟨z, hz, hze, hzu⟩, h6, h7⟩ := h
      obtain ⟨i, hi, rfl⟩ := List.mem_iff_getElem.1 hz
      have hid : d ≤ i := by
        rcases Nat.lt_or_ge i d with hlt | hge
        · obtain ⟨t, ht⟩ := hpa.all i hi hlt
          rw [hze] at ht
          have := hv3 _ _ ht
          cases t
          · rw [h7] at this; cases this
          · rw [h6] at this; cases this
        · exact hge
      have hg := redQ_gone hq 1 d C.q.vars.length (Nat.le_refl _) (litsAt r.1 r.2) (fun j hj hdj _ t htj => by
        rcases e7 t _ htj with h | h
        · rw [hpa.off hq hj hdj] at h; cases h
        · obtain ⟨⟨z, hz, hze2, hzu2⟩, _⟩ := h
          have := kind_one hq hz (List.getElem_mem hj) hze2
          rw [this] at hzu2
          rw [hzu2]; rfl) i hi hid hi s
      rw [List.take_length, hze] at hg
      rw [hg] at hv; cases hv
  have hfact : FactIn C.q { S with ref := dd.1 } (1, dd.2) := ⟨Or.inl rfl, d4, d5, by rw [hlits]; exact e6.sub (fun s v => red_sub hq 1 _ s v), by rw [hlits]; exact red_idem hq 1 _⟩
  have hsize : sizeS { S with ref := dd.1 } ≤ sizeS S + (C.q.vars.length + 2) := by
    unfold sizeS
    show dd.1.length + S.aff.length ≤ _
    rw [d2, e2]
    simp at e3 ⊢
    omega
  have htwo : twos dd.1 ≤ twos S.ref + U.trail.length := by
    unfold twos
    rw [d2, e2, List.filter_append, List.filter_append, List.length_append, List.length_append]
    have h1 : (x.filter (fun s => s.rule == 3)).length ≤ x.length := List.length_filter_le _ _
    have h2 : y.filter (fun s => s.rule == 3) = [] := List.filter_eq_nil_iff.2 (fun s hs => by simpa using d3' s hs)
    rw [h2]
    simp at e3 ⊢
    omega
  split
  · have hk := keep_ok hgrow hfact
    obtain ⟨k1, k2, k3⟩ := keep_ref C.room { S with ref := dd.1 } (1, dd.2)
    have hke := keep_ext C.room { S with ref := dd.1 } (1, dd.2)
    refine ⟨hk, hext.trans hke, ⟨hfact.ext hke, ?_⟩, k3, by unfold sizeS at hsize ⊢; rw [k1, k2]; exact hsize, rfl, by rw [k1]; exact htwo⟩
    rw [hke.lits hfact.hi, hlits]; exact hon
  · exact ⟨hgrow, hext, ⟨hfact, by rw [hlits]; exact hon⟩, rfl, hsize, rfl, htwo⟩
end Go.Proofs.YtgipjjhkhfihpaaGreatDoor

namespace Go.Proofs.YtgipjjhkhfihpaaGreatDoor
open Go.RowKit

/-! ### Cubes -/
theorem shrinkStep_ok {q : QS} (hq : QGood q) {u : Bool} {c : Nat × Nat} {v : Nat × Bool} (hv : v ∈ q.vars) (hb : Bd c) (hs : satQ q.cl c = true) : Bd (shrinkStep q u c v) ∧ satQ q.cl (shrinkStep q u c v) = true ∧ ∀ s w, L (shrinkStep q u c v) s w = true → L c s w = true := by
  unfold shrinkStep
  have hn := hq.qb.names v hv
  split
  · next h => exact ⟨without_lt _ _ hb, h.2, fun s w hw => by rw [L_without _ _ hn.1 hn.2, Bool.and_eq_true] at hw; exact hw.1⟩
  · exact ⟨hb, hs, fun _ _ h => h⟩
theorem shrinks_ok {q : QS} (hq : QGood q) (u : Bool) : ∀ (vs : List (Nat × Bool)), (∀ v ∈ vs, v ∈ q.vars) → ∀ c, Bd c → satQ q.cl c = true → Bd (vs.foldl (shrinkStep q u) c) ∧ satQ q.cl (vs.foldl (shrinkStep q u) c) = true ∧ ∀ s w, L (vs.foldl (shrinkStep q u) c) s w = true → L c s w = true := by
  intro vs
  induction vs with
  | nil => intro _ c hb hs; exact ⟨hb, hs, fun _ _ h => h⟩
  | cons v vs ih =>
    intro hv c hb hs
    obtain ⟨h1, h2, h3⟩ := shrinkStep_ok hq (u := u) (hv v (by simp)) hb hs
    obtain ⟨i1, i2, i3⟩ := ih (fun w hw => hv w (by simp [hw])) _ h1 h2
    exact ⟨i1, i2, fun s w h => h3 s w (i3 s w h)⟩
theorem shrink_ok {q : QS} (hq : QGood q) {c : Nat × Nat} (hb : Bd c) (hs : satQ q.cl c = true) : Bd (shrinkQ q c) ∧ satQ q.cl (shrinkQ q c) = true ∧ ∀ s w, L (shrinkQ q c) s w = true → L c s w = true := by
  obtain ⟨h1, h2, h3⟩ := shrinks_ok hq true q.vars.reverse (fun v hv => List.mem_reverse.1 hv) c hb hs
  obtain ⟨i1, i2, i3⟩ := shrinks_ok hq false q.vars.reverse (fun v hv => List.mem_reverse.1 hv) _ h1 h2
  exact ⟨i1, i2, fun s w h => h3 s w (i3 s w h)⟩
/-- What was found at a node: nothing, or what is so on the path. -/
structure NodeOk (C : SC) (S : SS) (path : Nat × Nat) (r : SS × (Nat × Nat)) (more : Nat) : Prop where
  inv : SInv C r.1
  ext : Ext S r.1
  size : sizeS r.1 ≤ sizeS S + more
  fact : r.2.1 ≠ 0 → FactOk C.q r.1 path r.2
  zero : r.2.1 = 0 → r.2.2 = 0
theorem cube_ok {C : SC} (hq : QGood C.q) {S : SS} (hS : SInv C S) {d : Nat} {path vals : Nat × Nat} (hpa : PathAt C.q d path) {ref : List Stp} {cs : List Nat} {ts : List (Int × Nat)} (ht : TrailR C.q ref cs path ts vals) :
    NodeOk C S path (cubeOf C S path vals) 2 ∧ (cubeOf C S path vals).1.nodes = S.nodes ∧ (satQ C.q.cl vals = true → (cubeOf C S path vals).2.1 ≠ 0) := by
  obtain ⟨hv1, hv2, hv3, hv4⟩ := trail_vals hq hpa _ _ ht
  unfold cubeOf
  cases hf : S.kept.find? (fun f => f.1 == 2 && holdsB (S.lits f) path) with
  | some f =>
    have hm := List.mem_of_find?_eq_some hf
    have hp := List.find?_some hf
    simp only [Bool.and_eq_true, beq_iff_eq] at hp
    have hk := hS.kept f hm
    have h0 : f.1 ≠ 0 := by rw [hp.1]; decide
    refine ⟨⟨hS, Ext.refl _, Nat.le_add_right _ _, fun _ => ⟨hk, fun s v hv => ?_⟩, fun h => absurd h h0⟩, rfl, fun _ => h0⟩
    have he := (empty_iff _).1 hp.2 s v
    rw [L_minus, hv] at he
    show L path (s == (f.1 == 2)) v = true
    rw [hp.1, show (s == ((2 : Nat) == 2)) = s from by cases s <;> rfl]
    simpa using he
  | none =>
    dsimp only
    cases hs : satQ C.q.cl vals with
    | false =>
      rw [if_neg (by decide)]
      exact ⟨⟨hS, Ext.refl _, Nat.le_add_right _ _, fun h => absurd rfl h, fun _ => rfl⟩, rfl, fun h => by cases h⟩
    | true =>
      simp only [if_true]
      obtain ⟨s1, s2, s3⟩ := shrink_ok hq hv2.bd hs
      have hnew : POk C.q 2 (S.aff ++ [⟨2, 0, 0, 0, shrinkQ C.q vals⟩]) := hS.aff.snoc ⟨lok_sub hv2 s1 s3, Or.inr (Or.inl ⟨rfl, rfl, rfl, rfl, hv1.sub s3, s2⟩)⟩
      have hlen : (S.aff ++ [(⟨2, 0, 0, 0, shrinkQ C.q vals⟩ : Stp)]).length = S.aff.length + 1 := by simp
      have hla : litsAt (S.aff ++ [⟨2, 0, 0, 0, shrinkQ C.q vals⟩]) (S.aff ++ [(⟨2, 0, 0, 0, shrinkQ C.q vals⟩ : Stp)]).length = shrinkQ C.q vals := by rw [hlen, litsAt_new]
      obtain ⟨d1, ⟨y, d2, d3, _⟩, d4, d5, d6⟩ := redP_ok hq 2 _ (S.aff ++ [(⟨2, 0, 0, 0, shrinkQ C.q vals⟩ : Stp)]).length hnew (by omega) (Nat.le_refl _) (by rw [hla]; exact hv1.sub s3)
      rw [hla] at d6
      generalize redP C.q 2 (S.aff ++ [⟨2, 0, 0, 0, shrinkQ C.q vals⟩]) (S.aff ++ [(⟨2, 0, 0, 0, shrinkQ C.q vals⟩ : Stp)]).length = dd at *
      have hpre : ∃ x, dd.1 = S.aff ++ x := ⟨[⟨2, 0, 0, 0, shrinkQ C.q vals⟩] ++ y, by rw [d2, List.append_assoc]⟩
      have hgrow : SInv C { S with aff := dd.1 } := hS.growA hpre d1
      have hext : Ext S { S with aff := dd.1 } := ⟨⟨[], by simp⟩, hpre⟩
      have hlits : ({ S with aff := dd.1 } : SS).lits (2, dd.2) = redQ 2 C.q.vars.reverse (shrinkQ C.q vals) := d6
      have hon : OnPath 2 path (redQ 2 C.q.vars.reverse (shrinkQ C.q vals)) := by
        intro s v hv
        have hs := red_sub hq 2 _ _ _ hv
        show L path (s == true) v = true
        rw [show (s == true) = s from by cases s <;> rfl]
        rcases hv4 s v (s3 s v hs) with h | h
        · exact h
        · exfalso
          obtain ⟨⟨z, hz, hze, hzu⟩, h6, h7⟩ := h
          obtain ⟨i, hi, rfl⟩ := List.mem_iff_getElem.1 hz
          have hid : d ≤ i := by
            rcases Nat.lt_or_ge i d with hlt | hge
            · obtain ⟨t, ht⟩ := hpa.all i hi hlt
              rw [hze] at ht
              cases t
              · rw [h7] at ht; cases ht
              · rw [h6] at ht; cases ht
            · exact hge
          have hg := redQ_gone hq 2 d C.q.vars.length (Nat.le_refl _) (shrinkQ C.q vals) (fun j hj hdj _ t htj => by
            rcases hv4 t _ (s3 t _ htj) with h | h
            · rw [hpa.off hq hj hdj] at h; cases h
            · obtain ⟨⟨z, hz, hze2, hzu2⟩, _⟩ := h
              have := kind_one hq hz (List.getElem_mem hj) hze2
              rw [this] at hzu2
              rw [hzu2]; rfl) i hi hid hi s
          rw [List.take_length, hze] at hg
          rw [hg] at hv; cases hv
      have hfact : FactIn C.q { S with aff := dd.1 } (2, dd.2) := ⟨Or.inr rfl, d4, d5, by rw [hlits]; exact (hv1.sub s3).sub (fun s v => red_sub hq 2 _ s v), by rw [hlits]; exact red_idem hq 2 _⟩
      have hk := keep_ok hgrow hfact
      obtain ⟨k1, k2, k3⟩ := keep_ref C.room { S with aff := dd.1 } (2, dd.2)
      have hke := keep_ext C.room { S with aff := dd.1 } (2, dd.2)
      refine ⟨⟨hk, hext.trans hke, ?_, fun _ => ⟨hfact.ext hke, by rw [hke.lits hfact.hi, hlits]; exact hon⟩, fun h => by cases h⟩, k3, fun _ h => by cases h⟩
      unfold sizeS
      rw [k1, k2]
      show S.ref.length + dd.1.length ≤ _
      rw [d2]; simp; omega

/-! ### A node -/
theorem conf_find {ref : List Stp} {uni : Nat × Nat} {cs : List Nat} {vals : Nat × Nat} (h0 : ∀ s ∈ cs, 1 ≤ s) {s : Nat} (hs : s ∈ cs) (hc : isConf uni vals (litsAt ref s) = true) : confOf ref uni cs vals ≠ 0 := by
  unfold confOf
  cases hf : cs.find? (fun s => isConf uni vals (litsAt ref s)) with
  | none => rw [List.find?_eq_none] at hf; exact absurd hc (hf s hs)
  | some t =>
    have := h0 t (List.mem_of_find?_eq_some hf)
    show t ≠ 0
    omega
/-- Where all variables have values, a clause is false or all are satisfied. -/
theorem leaf_ok {C : SC} (hq : QGood C.q) (hu : UniOk C.q C.uni) {S : SS} (hS : SInv C S) {path : Nat × Nat} (hpa : PathAt C.q C.q.vars.length path) (hc : (unitsOf C S path).conf = 0) : satQ C.q.cl (unitsOf C S path).vals = true := by
  have hfull : ∀ c, LOk C.q c → ∀ s v, L c s v = true → L path s v = true ∨ L path (!s) v = true := by
    intro c hc s v hv
    obtain ⟨x, hx, rfl⟩ := List.mem_map.1 (hc.vars s v hv)
    obtain ⟨i, hi, rfl⟩ := List.mem_iff_getElem.1 hx
    obtain ⟨t, ht⟩ := hpa.all i hi hi
    cases s <;> cases t
    · exact Or.inl ht
    · exact Or.inr ht
    · exact Or.inr ht
    · exact Or.inl ht
  have hu0 : (unitOf S.ref C.uni (clausesOf C.q S.kept) path).2 = 0 := by
    apply Classical.byContradiction
    intro hne
    obtain ⟨v, s, h1, ⟨x, hx, hxe, _⟩, h2, h3, _⟩ := unit_at hq hu hS.ref hne
    obtain ⟨i, hi, rfl⟩ := List.mem_iff_getElem.1 hx
    obtain ⟨t, ht⟩ := hpa.all i hi hi
    rw [hxe] at ht
    cases t
    · rw [h3] at ht; cases ht
    · rw [h2] at ht; cases ht
  have hun : unitsOf C S path = if confOf S.ref C.uni (clausesOf C.q S.kept) path ≠ 0 then ⟨path, [], confOf S.ref C.uni (clausesOf C.q S.kept) path⟩ else ⟨path, [], 0⟩ := by
    unfold unitsOf
    rw [unitsGo, if_pos hu0]
  have hc0 : confOf S.ref C.uni (clausesOf C.q S.kept) path = 0 := by
    apply Classical.byContradiction
    intro hne
    rw [hun, if_pos hne] at hc
    exact hne hc
  rw [hun, if_neg (by simp [hc0])]
  unfold satQ
  rw [List.all_eq_true]
  intro c hcm
  obtain ⟨i, hi, rfl⟩ := List.mem_iff_getElem.1 hcm
  cases hok : okC C.q.cl[i] path with
  | true => rfl
  | false =>
    exfalso
    have hin : i + 1 ∈ clausesOf C.q S.kept := by
      unfold clausesOf
      exact List.mem_append_left _ (List.mem_map.2 ⟨i, List.mem_range.2 hi, rfl⟩)
    refine conf_find (fun s hs => (clauses_in hS hs).1) hin ?_ hc0
    have hl := hS.ref.lok (i + 1)
    rw [hS.ax i hi] at hl ⊢
    have hme : meetsB C.q.cl[i] path = false := by
      unfold okC at hok; rw [Bool.or_eq_false_iff] at hok; exact hok.1
    have hcl : clashB C.q.cl[i] = false := by
      unfold okC at hok; rw [Bool.or_eq_false_iff] at hok; exact hok.2
    unfold isConf openB
    rw [hme, hcl]
    simp only [Bool.not_false, Bool.and_self, Bool.true_and]
    rw [empty_iff]
    intro s v
    rw [L_minus, L_left]
    cases hv : L C.q.cl[i] s v with
    | false => rfl
    | true =>
      rcases hfull _ hl s v hv with h | h
      · rw [(meets_iff _ _).2 ⟨s, v, hv, h⟩] at hme; cases hme
      · rw [h]; rfl
theorem nodes_inv {C : SC} {S : SS} (h : SInv C S) (n : Nat) : SInv C { S with nodes := n } :=
  ⟨h.ref, h.len, h.ax, h.aff, fun f hf => ⟨(h.kept f hf).kind, (h.kept f hf).lo, (h.kept f hf).hi, (h.kept f hf).free, (h.kept f hf).red⟩, h.room, h.most⟩
def nodeSt : (SS × (Nat × Nat)) ⊕ (SS × (Nat × Nat)) → SS × (Nat × Nat)
  | .inl r => r
  | .inr r => (r.1, (0, 0))
def isInr {α β : Type} : α ⊕ β → Bool
  | .inl _ => false
  | .inr _ => true
theorem node_ok {C : SC} (hq : QGood C.q) (hu : UniOk C.q C.uni) {S : SS} (hS : SInv C S) {d : Nat} {path : Nat × Nat} (hpa : PathAt C.q d path) :
    NodeOk C S path (nodeSt (nodeOf C S path)) (10 * ((nodeSt (nodeOf C S path)).1.nodes - S.nodes)) ∧
    (((nodeSt (nodeOf C S path)).1.nodes = S.nodes ∧ (0 < C.budget ∧ C.budget ≤ S.nodes) ∧ nodeOf C S path = .inl (S, (0, 0))) ∨
     ((nodeSt (nodeOf C S path)).1.nodes = S.nodes + 1 ∧ ¬ (0 < C.budget ∧ C.budget ≤ S.nodes) ∧ ((nodeSt (nodeOf C S path)).2.1 = 0 → isInr (nodeOf C S path) = true ∧ d ≠ C.q.vars.length))) := by
  have hvl := hq.qb.vl
  by_cases hb : 0 < C.budget ∧ C.budget ≤ S.nodes
  · have e : nodeOf C S path = .inl (S, (0, 0)) := by unfold nodeOf; rw [if_pos hb]
    rw [e]
    exact ⟨⟨hS, Ext.refl _, by simp [nodeSt], fun h => absurd rfl h, fun _ => rfl⟩, Or.inl ⟨rfl, hb, rfl⟩⟩
  · have hS1 := nodes_inv hS (S.nodes + 1)
    have hx1 : Ext S { S with nodes := S.nodes + 1 } := ⟨⟨[], by simp⟩, ⟨[], by simp⟩⟩
    obtain ⟨ht, _, _⟩ := units_ok hq hu hS1 path
    have hex : (unitsOf C { S with nodes := S.nodes + 1 } path).conf ≠ 0 → _ := fun h => explain_ok hq hu hS1 hpa h
    have hcu := cube_ok hq hS1 hpa ht
    have hlf : d = C.q.vars.length → (unitsOf C { S with nodes := S.nodes + 1 } path).conf = 0 → satQ C.q.cl (unitsOf C { S with nodes := S.nodes + 1 } path).vals = true := fun hd h => leaf_ok hq hu hS1 (by rw [← hd]; exact hpa) h
    unfold nodeOf
    rw [if_neg hb]
    dsimp only
    generalize unitsOf C { S with nodes := S.nodes + 1 } path = U at *
    have hsz : sizeS { S with nodes := S.nodes + 1 } = sizeS S := rfl
    by_cases hc : U.conf ≠ 0
    · rw [if_pos hc]
      obtain ⟨a1, a2, a3, a4, a5, a6, _⟩ := hex hc
      have hn : (explain C { S with nodes := S.nodes + 1 } U).1.nodes = S.nodes + 1 := a4
      refine ⟨⟨a1, hx1.trans a2, ?_, fun _ => a3, fun h => ?_⟩, Or.inr ⟨hn, hb, fun h => ?_⟩⟩
      · show sizeS (explain C { S with nodes := S.nodes + 1 } U).1 ≤ sizeS S + 10 * ((explain C { S with nodes := S.nodes + 1 } U).1.nodes - S.nodes)
        rw [hn]; omega
      · have h' : (explain C { S with nodes := S.nodes + 1 } U).2.1 = 0 := h
        rw [a6] at h'; cases h'
      · have h' : (explain C { S with nodes := S.nodes + 1 } U).2.1 = 0 := h
        rw [a6] at h'; cases h'
    · rw [if_neg hc]
      have hc0 : U.conf = 0 := by omega
      obtain ⟨b1, b2, b3⟩ := hcu
      generalize cubeOf C { S with nodes := S.nodes + 1 } path U.vals = r at *
      have hn : r.1.nodes = S.nodes + 1 := b2
      by_cases hr : r.2.1 ≠ 0
      · rw [if_pos hr]
        refine ⟨⟨b1.inv, hx1.trans b1.ext, ?_, b1.fact, b1.zero⟩, Or.inr ⟨hn, hb, fun h => absurd h hr⟩⟩
        show sizeS r.1 ≤ sizeS S + 10 * (r.1.nodes - S.nodes)
        have := b1.size
        rw [hn]; omega
      · rw [if_neg hr]
        refine ⟨⟨b1.inv, hx1.trans b1.ext, ?_, fun h => absurd rfl h, fun _ => rfl⟩, Or.inr ⟨hn, hb, fun _ => ⟨rfl, fun hd => hr (b3 (hlf hd hc0))⟩⟩⟩
        show sizeS r.1 ≤ sizeS S + 10 * (r.1.nodes - S.nodes)
        have := b1.size
        rw [hn]; omega
end Go.Proofs.YtgipjjhkhfihpaaGreatDoor

namespace Go.Proofs.YtgipjjhkhfihpaaGreatDoor
open Go.RowKit

/-! ### Joining -/
theorem put_proof (S : SS) (k : Nat) (p : List Stp) : (S.put k p).proof k = p := by
  unfold SS.put SS.proof; split <;> rfl
theorem put_nodes (S : SS) (k : Nat) (p : List Stp) : (S.put k p).nodes = S.nodes := by unfold SS.put; split <;> rfl
theorem put_ext (S : SS) (k : Nat) (p : List Stp) (h : ∃ x, p = S.proof k ++ x) : Ext S (S.put k p) := by
  unfold SS.put; unfold SS.proof at h
  split
  · next e => rw [if_pos e] at h; exact ⟨⟨[], by simp⟩, h⟩
  · next e => rw [if_neg e] at h; exact ⟨h, ⟨[], by simp⟩⟩
theorem put_size (S : SS) (k : Nat) (p : List Stp) (n : Nat) (h : p.length ≤ (S.proof k).length + n) : sizeS (S.put k p) ≤ sizeS S + n := by
  unfold SS.put sizeS; unfold SS.proof at h
  split
  · next e => rw [if_pos e] at h; show S.ref.length + p.length ≤ _; omega
  · next e => rw [if_neg e] at h; show p.length + S.aff.length ≤ _; omega
theorem SInv.pok {C : SC} {S : SS} (h : SInv C S) {k : Nat} (hk : k = 1 ∨ k = 2) : POk C.q k (S.proof k) := by
  rcases hk with rfl | rfl
  · exact h.ref
  · exact h.aff
theorem put_inv {C : SC} {S : SS} (h : SInv C S) {k : Nat} (hk : k = 1 ∨ k = 2) {p : List Stp} (hp : ∃ x, p = S.proof k ++ x) (hok : POk C.q k p) : SInv C (S.put k p) := by
  rcases hk with rfl | rfl
  · exact h.grow hp hok
  · exact h.growA hp hok
theorem on_next {k : Nat} {path c : Nat × Nat} {v : Nat} {s : Bool} (h1 : 1 ≤ v) (h8 : v ≤ 8) (h : OnPath k (withLit path (litI v s)) c) : ∀ t u, L c t u = true → (u ≠ v → L path (t == (k == 2)) u = true) := by
  intro t u ht hne
  have := h t u ht
  rw [L_with _ _ _ h1 h8, Bool.or_eq_true, Bool.and_eq_true] at this
  rcases this with h | ⟨_, h⟩
  · exact h
  · exact absurd (of_decide_eq_true h) hne
/-- At the variable itself. -/
theorem on_at {q : QS} (hq : QGood q) {d : Nat} {path : Nat × Nat} (hpa : PathAt q d path) (hd : d < q.vars.length) {k : Nat} {c : Nat × Nat} {s : Bool} (h : OnPath k (withLit path (litI q.vars[d].1 s)) c) (hh : hasVarB c q.vars[d].1 = true) : L c (s == (k == 2)) q.vars[d].1 = true := by
  have hv := var_ok hq d hd
  have key : ∀ t, L c t q.vars[d].1 = true → t = (s == (k == 2)) := by
    intro t ht
    have := h t _ ht
    rw [L_with _ _ _ hv.1 hv.2, hpa.off hq hd (Nat.le_refl _), Bool.false_or, Bool.and_eq_true, beq_iff_eq] at this
    have h2 := this.1
    revert h2
    generalize (k == 2) = b
    cases t <;> cases s <;> cases b <;> simp
  rw [hasVar_L _ _ hv.1 hv.2, Bool.or_eq_true] at hh
  rcases hh with hh | hh
  · rw [← key true hh]; exact hh
  · rw [← key false hh]; exact hh
/-- What has the variable that was branched on is of the kind for which that is a pivot. -/
theorem fact_pivot {C : SC} (hq : QGood C.q) {S : SS} {d : Nat} {path : Nat × Nat} (hpa : PathAt C.q (d + 1) path) (hd : d < C.q.vars.length) {f : Nat × Nat} (hf : FactOk C.q S path f) (hh : hasVarB (S.lits f) C.q.vars[d].1 = true) : pivotB f.1 C.q.vars[d].2 = true :=
  red_pivot hq f.1 d hd _ hf.inn.red (fun i hi hdi s => by
    cases hl : L (S.lits f) s C.q.vars[i].1 with
    | false => rfl
    | true =>
      have := hf.on s _ hl
      rw [hpa.off hq hi (by omega)] at this; cases this) hh
theorem join_ok {C : SC} (hq : QGood C.q) {S : SS} (hS : SInv C S) {d : Nat} {path : Nat × Nat} (hpa : PathAt C.q d path) (hd : d < C.q.vars.length) {a b : Nat × Nat} {s : Bool}
    (ha : FactOk C.q S (withLit path (litI C.q.vars[d].1 s)) a) (hb : FactOk C.q S (withLit path (litI C.q.vars[d].1 (!s))) b) (hha : hasVarB (S.lits a) C.q.vars[d].1 = true) (hhb : hasVarB (S.lits b) C.q.vars[d].1 = true) :
    NodeOk C S path (joinOf C S a b C.q.vars[d].1) 2 ∧ (joinOf C S a b C.q.vars[d].1).1.nodes = S.nodes ∧ (joinOf C S a b C.q.vars[d].1).2.1 ≠ 0 := by
  have hv := var_ok hq d hd
  have p1 := fact_pivot hq (hpa.next hq hd s) hd ha hha
  have p2 := fact_pivot hq (hpa.next hq hd (!s)) hd hb hhb
  have hk : b.1 = a.1 := by
    rcases ha.inn.kind with h1 | h1 <;> rcases hb.inn.kind with h2 | h2 <;> rw [h1] at p1 ⊢ <;> rw [h2] at p2 ⊢ <;> revert p1 p2 <;> cases C.q.vars[d].2 <;> simp [pivotB]
  have hla := on_at hq hpa hd ha.on hha
  have hlb := on_at hq hpa hd hb.on hhb
  rw [hk] at hlb
  have hlb' : L (S.lits b) (!(s == (a.1 == 2))) C.q.vars[d].1 = true := by
    rw [show (!(s == (a.1 == 2))) = ((!s) == (a.1 == 2)) from by generalize (a.1 == 2) = b; cases s <;> cases b <;> rfl]
    exact hlb
  have hsa : S.lits a = litsAt (S.proof a.1) a.2 := rfl
  have hsb : S.lits b = litsAt (S.proof a.1) b.2 := by unfold SS.lits; rw [hk]
  have hbhi := hb.inn.hi
  rw [hk] at hbhi
  have hres : ∀ t u, L (without2 (S.lits a) (S.lits b) C.q.vars[d].1) t u = true → L path (t == (a.1 == 2)) u = true := by
    intro t u ht
    rw [L_without2 _ _ _ hv.1 hv.2, Bool.and_eq_true, Bool.or_eq_true, Bool.not_eq_true'] at ht
    have hne : u ≠ C.q.vars[d].1 := of_decide_eq_false ht.2
    rcases ht.1 with ht | ht
    · exact on_next hv.1 hv.2 ha.on t u ht hne
    · have := on_next hv.1 hv.2 hb.on t u ht hne
      rwa [hk] at this
  have hfree : Free (without2 (S.lits a) (S.lits b) C.q.vars[d].1) := hpa.free.flip (a.1 == 2) hres
  have hfa := ha.inn.free
  have hfb := hb.inn.free
  rw [hsa] at hla hfa
  rw [hsb] at hlb' hfb
  rw [hsa, hsb] at hres hfree
  obtain ⟨r1, ⟨x, r2⟩, r3, r4, r5⟩ := resP_ok hq (hS.pok ha.inn.kind) ⟨ha.inn.lo, ha.inn.hi⟩ ⟨hb.inn.lo, hbhi⟩ ⟨_, List.getElem_mem hd, rfl, p1⟩ hfa hfb hla hlb' hfree
  unfold joinOf
  dsimp only
  generalize resP (S.proof a.1) a.2 b.2 C.q.vars[d].1 = r at *
  obtain ⟨d1, ⟨y, d2, d3, _⟩, d4, d5, d6⟩ := redP_ok hq a.1 r.1 r.2 r1 (by omega) (by omega) (by rw [r5]; exact hfree)
  rw [r5] at d6
  generalize redP C.q a.1 r.1 r.2 = dd at *
  have hpre : ∃ z, dd.1 = S.proof a.1 ++ z := ⟨[x] ++ y, by rw [d2, r2, List.append_assoc]⟩
  have hinv := put_inv hS ha.inn.kind hpre d1
  have hext := put_ext S a.1 dd.1 hpre
  have hlits : (S.put a.1 dd.1).lits (a.1, dd.2) = redQ a.1 C.q.vars.reverse (without2 (litsAt (S.proof a.1) a.2) (litsAt (S.proof a.1) b.2) C.q.vars[d].1) := by
    unfold SS.lits; rw [put_proof]; exact d6
  have hon : OnPath a.1 path ((S.put a.1 dd.1).lits (a.1, dd.2)) := by
    intro t u ht
    rw [hlits] at ht
    exact hres t u (red_sub hq a.1 _ _ _ ht)
  have hfact : FactIn C.q (S.put a.1 dd.1) (a.1, dd.2) := ⟨ha.inn.kind, d4, by rw [put_proof]; exact d5, by rw [hlits]; exact hfree.sub (fun s v => red_sub hq _ _ s v), by rw [hlits]; exact red_idem hq _ _⟩
  have hkk := keep_ok hinv hfact
  obtain ⟨k1, k2, k3⟩ := keep_ref C.room (S.put a.1 dd.1) (a.1, dd.2)
  have hke := keep_ext C.room (S.put a.1 dd.1) (a.1, dd.2)
  have ha0 : a.1 ≠ 0 := by rcases ha.inn.kind with h | h <;> rw [h] <;> decide
  refine ⟨⟨hkk, hext.trans hke, ?_, fun _ => ⟨hfact.ext hke, by rw [hke.lits hfact.hi]; exact hon⟩, fun h => absurd h ha0⟩, k3.trans (put_nodes _ _ _), ha0⟩
  have hz : sizeS ((S.put a.1 dd.1).keep C.room (a.1, dd.2)) = sizeS (S.put a.1 dd.1) := by unfold sizeS; rw [k1, k2]
  rw [hz]
  apply put_size
  rw [d2, r2]; simp; omega

/-! ### All nodes -/
/-- What a look gives. -/
structure LookOk (C : SC) (m : Nat) (path : Nat × Nat) (S : SS) (r : SS × (Nat × Nat)) : Prop where
  inv : SInv C r.1
  ext : Ext S r.1
  fact : r.2.1 ≠ 0 → FactOk C.q r.1 path r.2
  zero : r.2.1 = 0 → r.2.2 = 0
  unknown : r.2.1 = 0 → 0 < C.budget ∧ C.budget ≤ r.1.nodes
  mono : S.nodes ≤ r.1.nodes
  some : ¬ (0 < C.budget ∧ C.budget ≤ S.nodes) → S.nodes + 1 ≤ r.1.nodes
  most : r.1.nodes + 1 ≤ S.nodes + 2 ^ (m + 1)
  budget : 0 < C.budget → S.nodes ≤ C.budget → r.1.nodes ≤ C.budget
  size : sizeS r.1 ≤ sizeS S + 12 * (r.1.nodes - S.nodes)
theorem getD_var (q : QS) (d : Nat) (h : d < q.vars.length) : q.vars.getD d (0, false) = q.vars[d] := by
  rw [List.getD, List.getElem?_eq_getElem h]; rfl
theorem zero_has (S : SS) (f : Nat × Nat) (_h1 : f.1 = 0) (h2 : f.2 = 0) (v : Nat) : hasVarB (S.lits f) v = false := by
  unfold SS.lits; rw [h2, litsAt_out _ _ (by omega)]; unfold hasVarB; simp
theorem FactOk.up {q : QS} (hq : QGood q) {S : SS} {d : Nat} (hd : d < q.vars.length) {path : Nat × Nat} {s : Bool} {f : Nat × Nat} (h : FactOk q S (withLit path (litI q.vars[d].1 s)) f) (hh : hasVarB (S.lits f) q.vars[d].1 = false) : FactOk q S path f := by
  have hv := var_ok hq d hd
  refine ⟨h.inn, fun t u ht => ?_⟩
  refine on_next hv.1 hv.2 h.on t u ht (fun e => ?_)
  subst e
  rw [hasVar_L _ _ hv.1 hv.2, Bool.or_eq_false_iff] at hh
  cases t
  · rw [hh.2] at ht; cases ht
  · rw [hh.1] at ht; cases ht
theorem look_ok {C : SC} (hq : QGood C.q) (hu : UniOk C.q C.uni) : ∀ (m d : Nat) (path : Nat × Nat) (S : SS), SInv C S → PathAt C.q d path → d + m = C.q.vars.length → LookOk C m path S (lookM C m path d S) := by
  intro m
  induction m with
  | zero =>
    intro d path S hS hpa hdm
    obtain ⟨n1, n2⟩ := node_ok hq hu hS hpa
    have hl : lookM C 0 path d S = nodeSt (nodeOf C S path) := by
      rw [lookM]
      cases nodeOf C S path with
      | inl r => rfl
      | inr r => rfl
    rw [hl]
    generalize nodeSt (nodeOf C S path) = r at *
    have hsz := n1.size
    rcases n2 with ⟨h1, h2, h3⟩ | ⟨h1, h2, h3⟩
    · exact ⟨n1.inv, n1.ext, n1.fact, n1.zero, fun _ => by rw [h1]; exact h2, by omega, fun h => absurd h2 h, by rw [h1]; simp, fun _ h => by omega, by omega⟩
    · exact ⟨n1.inv, n1.ext, n1.fact, n1.zero, fun h => absurd (by omega) (h3 h).2, by omega, fun _ => by omega, by rw [h1]; simp, fun h4 h5 => by
        have : S.nodes < C.budget := by
          apply Classical.byContradiction
          intro hh
          exact h2 ⟨h4, by omega⟩
        omega, by omega⟩
  | succ m ih =>
    intro d path S hS hpa hdm
    have hd : d < C.q.vars.length := by omega
    obtain ⟨n1, n2⟩ := node_ok hq hu hS hpa
    have hpow : 2 ^ (m + 1 + 1) = 2 ^ (m + 1) + 2 ^ (m + 1) := by rw [Nat.pow_succ 2 (m + 1)]; omega
    have hpos : 0 < 2 ^ (m + 1) := Nat.pow_pos (by decide)
    rw [lookM]
    cases hn : nodeOf C S path with
    | inl r =>
      rw [hn] at n1 n2
      simp only [nodeSt] at n1 n2
      dsimp only
      have hsz := n1.size
      rcases n2 with ⟨h1, h2, h3⟩ | ⟨h1, h2, h3⟩
      · exact ⟨n1.inv, n1.ext, n1.fact, n1.zero, fun _ => by rw [h1]; exact h2, by omega, fun h => absurd h2 h, by omega, fun _ h => by omega, by omega⟩
      · exact ⟨n1.inv, n1.ext, n1.fact, n1.zero, fun h => absurd (h3 h).1 (by simp [isInr]), by omega, fun _ => by omega, by omega, fun h4 h5 => by
          have : S.nodes < C.budget := by
            apply Classical.byContradiction
            intro hh
            exact h2 ⟨h4, by omega⟩
          omega, by omega⟩
    | inr r =>
      obtain ⟨S1, vals⟩ := r
      rw [hn] at n1 n2
      simp only [nodeSt] at n1 n2
      dsimp only
      rcases n2 with ⟨_, _, h3⟩ | ⟨h1, h2, _⟩
      · cases h3
      have hsz := n1.size
      have hbud : 0 < C.budget → S.nodes ≤ C.budget → S1.nodes ≤ C.budget := fun h4 h5 => by
        have : S.nodes < C.budget := by
          apply Classical.byContradiction
          intro hh
          exact h2 ⟨h4, by omega⟩
        omega
      have hS1 := n1.inv
      have hE1 := n1.ext
      dsimp only at hS1 hE1 hsz h1
      rw [getD_var _ _ hd]
      obtain ⟨s, hs⟩ : ∃ s : Bool, (if hasLit vals (-(C.q.vars[d].1 : Int)) then -(C.q.vars[d].1 : Int) else (C.q.vars[d].1 : Int)) = litI C.q.vars[d].1 s := by
        split
        · exact ⟨false, rfl⟩
        · exact ⟨true, rfl⟩
      rw [hs, litI_neg]
      have la := ih (d + 1) _ S1 hS1 (hpa.next hq hd s) (by omega)
      generalize lookM C m (withLit path (litI C.q.vars[d].1 s)) (d + 1) S1 = a at *
      have la1 := la.mono
      have la2 := la.most
      have la3 := la.size
      cases hha : hasVarB (a.1.lits a.2) C.q.vars[d].1 with
      | false =>
        simp only [Bool.false_eq_true, if_false]
        exact ⟨la.inv, hE1.trans la.ext, fun h => (la.fact h).up hq hd hha, la.zero, la.unknown, by omega, fun _ => by omega, by omega, fun h4 h5 => la.budget h4 (hbud h4 h5), by omega⟩
      | true =>
        simp only [if_true]
        have ha0 : a.2.1 ≠ 0 := fun h => by rw [zero_has _ _ h (la.zero h)] at hha; cases hha
        have hfa := la.fact ha0
        have lb := ih (d + 1) _ a.1 la.inv (hpa.next hq hd (!s)) (by omega)
        generalize lookM C m (withLit path (litI C.q.vars[d].1 (!s))) (d + 1) a.1 = b at *
        have lb1 := lb.mono
        have lb2 := lb.most
        have lb3 := lb.size
        cases hhb : hasVarB (b.1.lits b.2) C.q.vars[d].1 with
        | false =>
          simp only [Bool.false_eq_true, if_false]
          exact ⟨lb.inv, (hE1.trans la.ext).trans lb.ext, fun h => (lb.fact h).up hq hd hhb, lb.zero, lb.unknown, by omega, fun _ => by omega, by omega, fun h4 h5 => lb.budget h4 (la.budget h4 (hbud h4 h5)), by omega⟩
        | true =>
          simp only [if_true]
          have hb0 : b.2.1 ≠ 0 := fun h => by rw [zero_has _ _ h (lb.zero h)] at hhb; cases hhb
          have hfb := lb.fact hb0
          have hfa' : FactOk C.q b.1 (withLit path (litI C.q.vars[d].1 s)) a.2 := ⟨hfa.inn.ext lb.ext, by rw [lb.ext.lits hfa.inn.hi]; exact hfa.on⟩
          obtain ⟨j1, j2, j3⟩ := join_ok hq lb.inv hpa hd hfa' hfb (by rw [lb.ext.lits hfa.inn.hi]; exact hha) hhb
          generalize joinOf C b.1 a.2 b.2 C.q.vars[d].1 = j at *
          have jz := j1.size
          exact ⟨j1.inv, ((hE1.trans la.ext).trans lb.ext).trans j1.ext, j1.fact, j1.zero, fun h => absurd h j3, by omega, fun _ => by omega, by omega, fun h4 h5 => by rw [j2]; exact lb.budget h4 (la.budget h4 (hbud h4 h5)), by omega⟩
end Go.Proofs.YtgipjjhkhfihpaaGreatDoor

namespace Go.Proofs.YtgipjjhkhfihpaaGreatDoor
open Go.RowKit

/-! ### Bounds while nodes are looked at -/
structure CBd (C : SC) : Prop where
  qg : QGood C.q
  uni : UniOk C.q C.uni
  ub : C.uni.1 < 512 ∧ C.uni.2 < 512
  budget : C.budget ≤ 1048576
  room : C.room ≤ 64
structure LIn (C : SC) (S : SS) : Prop where
  inv : SInv C S
  size : sizeS S ≤ 100 + 12 * S.nodes
  nodes : S.nodes ≤ 2000
theorem pok_bd {q : QS} {k : Nat} {p : List Stp} (h : POk q k p) : ∀ s ∈ p, s.lits.1 < 512 ∧ s.lits.2 < 512 := by
  intro s hs
  obtain ⟨i, hi, rfl⟩ := List.mem_iff_getElem.1 hs
  exact (h i hi).1.bd
theorem sizeS_le (S : SS) : S.ref.length ≤ sizeS S ∧ S.aff.length ≤ sizeS S := ⟨Nat.le_add_right _ _, Nat.le_add_left _ _⟩
theorem LIn.bd {C : SC} {S : SS} (hC : CBd C) (h : LIn C S) : SBd C S := by
  have h1 := h.size
  have h2 := h.nodes
  have h3 := sizeS_le S
  have h4 := hC.room
  have h5 := h.inv.room
  have h6 := h.inv.most
  refine ⟨hC.qg.qb, hC.ub, pok_bd h.inv.ref, pok_bd h.inv.aff, by omega, by omega, by omega, fun f hf => ?_, hC.budget, h4, by omega, by omega⟩
  have hk := h.inv.kept f hf
  have hi := hk.hi
  refine ⟨by rcases hk.kind with e | e <;> omega, ?_⟩
  unfold SS.proof at hi
  split at hi <;> omega
/-- Behind a node. -/
def branchM (C : SC) : Nat → Nat × Nat → Nat → Nat × Nat → SS → SS × (Nat × Nat)
  | 0, _, _, _, s => (s, (0, 0))
  | m + 1, path, depth, vals, s1 =>
      let v := (C.q.vars.getD depth (0, false)).1
      let side : Int := if hasLit vals (-(v : Int)) then -(v : Int) else v
      let a := lookM C m (withLit path side) (depth + 1) s1
      if hasVarB (a.1.lits a.2) v then
        let b := lookM C m (withLit path (-side)) (depth + 1) a.1
        if hasVarB (b.1.lits b.2) v then joinOf C b.1 a.2 b.2 v else b
      else a
def afterNode (C : SC) (m : Nat) (path : Nat × Nat) (d : Nat) : (SS × (Nat × Nat)) ⊕ (SS × (Nat × Nat)) → SS × (Nat × Nat)
  | .inl r => r
  | .inr r => branchM C m path d r.2 r.1
theorem lookM_as (C : SC) (m : Nat) (path : Nat × Nat) (d : Nat) (S : SS) : lookM C m path d S = afterNode C m path d (nodeOf C S path) := by
  cases m with
  | zero => rw [lookM]; cases nodeOf C S path <;> rfl
  | succ m => rw [lookM]; cases nodeOf C S path <;> rfl
/-- What a look is given. -/
structure LookIn (C : SC) (m d : Nat) (path : Nat × Nat) (S : SS) : Prop where
  lin : LIn C S
  path : PathAt C.q d path
  dm : d + m = C.q.vars.length
  most : S.nodes + 2 ^ (m + 1) ≤ 2001
/-- What a branch is given. -/
structure BranchIn (C : SC) (m d : Nat) (path vals : Nat × Nat) (S : SS) : Prop where
  lin : LIn C S
  path : PathAt C.q d path
  vals : vals.1 < 512 ∧ vals.2 < 512
  dm : d + m = C.q.vars.length
  most : S.nodes + 2 ^ (m + 1) ≤ 2002
def LookSpec (m : Nat) : Prop := ∀ (b : Nat) (C : SC) (S : SS) (V : SV) (path : Nat × Nat) (d : Nat) (w : World), CBd C → LookIn C m d path S → SAt w b C S V →
  Calls Tryz.prog 62 #[.pointer (some ⟨b, 0, none⟩), SetV path, .int .i64 (d : Int)] w fun e w' => e = .returned (FactV (lookM C m path d S).2) ∧ SPost b C (lookM C m path d S).1 V w w'
def BranchSpec (m : Nat) : Prop := ∀ (b : Nat) (C : SC) (S : SS) (V : SV) (path vals : Nat × Nat) (d : Nat) (w : World), CBd C → BranchIn C m d path vals S → SAt w b C S V →
  Calls Tryz.prog 92 #[.pointer (some ⟨b, 0, none⟩), SetV path, .int .i64 (d : Int), SetV vals] w fun e w' => e = .returned (FactV (branchM C m path d vals S).2) ∧ SPost b C (branchM C m path d vals S).1 V w w'
theorem LookIn.lk {C : SC} (hC : CBd C) {m d : Nat} {path : Nat × Nat} {S : SS} (h : LookIn C m d path S) : LookOk C m path S (lookM C m path d S) := look_ok hC.qg hC.uni m d path S h.lin.inv h.path h.dm
theorem LookIn.out {C : SC} (hC : CBd C) {m d : Nat} {path : Nat × Nat} {S : SS} (h : LookIn C m d path S) : LIn C (lookM C m path d S).1 := by
  have hk := h.lk hC
  have h1 := h.lin.size
  have h2 := hk.size
  have h3 := hk.mono
  have h4 := hk.most
  have h5 := h.most
  generalize 2 ^ (m + 1) = X at *
  exact ⟨hk.inv, by omega, by omega⟩
/-- The near side. -/
theorem BranchIn.near {C : SC} (hC : CBd C) {m d : Nat} {path vals : Nat × Nat} {S : SS} (h : BranchIn C (m + 1) d path vals S) (hd : d < C.q.vars.length) (s : Bool) : LookIn C m (d + 1) (withLit path (litI C.q.vars[d].1 s)) S := by
  have h1 := h.dm
  have h2 := h.most
  refine ⟨h.lin, h.path.next hC.qg hd s, by omega, ?_⟩
  have hpow : 2 ^ (m + 1 + 1) = 2 ^ (m + 1) + 2 ^ (m + 1) := by rw [Nat.pow_succ 2 (m + 1)]; omega
  have hpos : 0 < 2 ^ (m + 1) := Nat.pow_pos (by decide)
  generalize 2 ^ (m + 1 + 1) = Y at *
  generalize 2 ^ (m + 1) = X at *
  omega
theorem BranchIn.far {C : SC} (hC : CBd C) {m d : Nat} {path vals : Nat × Nat} {S : SS} (h : BranchIn C (m + 1) d path vals S) (hd : d < C.q.vars.length) (s t : Bool) : LookIn C m (d + 1) (withLit path (litI C.q.vars[d].1 t)) (lookM C m (withLit path (litI C.q.vars[d].1 s)) (d + 1) S).1 := by
  have h1 := h.dm
  have h2 := h.most
  have hn := h.near hC hd s
  have h3 := (hn.lk hC).most
  refine ⟨hn.out hC, h.path.next hC.qg hd t, by omega, ?_⟩
  have hpow : 2 ^ (m + 1 + 1) = 2 ^ (m + 1) + 2 ^ (m + 1) := by rw [Nat.pow_succ 2 (m + 1)]; omega
  generalize 2 ^ (m + 1 + 1) = Y at *
  generalize 2 ^ (m + 1) = X at *
  omega
/-- Behind the node. -/
theorem LookIn.node {C : SC} (_hC : CBd C) {m d : Nat} {path : Nat × Nat} {S : SS} (h : LookIn C m d path S) (_hb : ¬ (0 < C.budget ∧ C.budget ≤ S.nodes)) : LIn C { S with nodes := S.nodes + 1 } := by
  have h1 := h.lin.size
  have h5 := h.most
  have hpow : 2 ^ (m + 1) = 2 ^ m + 2 ^ m := by rw [Nat.pow_succ 2 m]; omega
  have hpos : 0 < 2 ^ m := Nat.pow_pos (by decide)
  generalize 2 ^ (m + 1) = X at *
  generalize 2 ^ m = Y at *
  refine ⟨nodes_inv h.lin.inv _, ?_, ?_⟩
  · show sizeS S ≤ 100 + 12 * (S.nodes + 1)
    omega
  · show S.nodes + 1 ≤ 2000
    omega
theorem units_bd {C : SC} (hC : CBd C) {S : SS} (h : SInv C S) {d : Nat} {path : Nat × Nat} (hp : PathAt C.q d path) : ((unitsOf C S path).vals.1 < 512 ∧ (unitsOf C S path).vals.2 < 512) ∧ TrailBd (unitsOf C S path).trail ∧ (unitsOf C S path).conf ≤ S.ref.length := by
  obtain ⟨h1, h2, h3⟩ := units_ok hC.qg hC.uni h path
  obtain ⟨_, t2, _, _⟩ := trail_vals hC.qg hp _ _ h1
  have hvl := hC.qg.qb.vl
  refine ⟨t2.bd, ⟨by omega, ?_⟩, ?_⟩
  · have key : ∀ (ts : List (Int × Nat)) (vals : Nat × Nat), TrailR C.q S.ref (clausesOf C.q S.kept) path ts vals → ∀ u ∈ ts, -8 ≤ u.1 ∧ u.1 ≤ 8 := by
      intro ts
      induction ts with
      | nil => intro vals _ u hu; cases hu
      | cons t ts ih =>
        rintro vals ⟨pre, hpre, ⟨v, s, ht, ⟨x, hx, hxe, hxu⟩, _⟩, rfl⟩ u hu
        rcases List.mem_cons.1 hu with rfl | hu
        · have hv := hC.qg.qb.names x hx
          rw [ht]
          unfold litI
          split <;> omega
        · exact ih pre hpre u hu
    intro u hu
    exact key _ _ h1 u (List.mem_reverse.2 hu)
  · by_cases h0 : (unitsOf C S path).conf = 0
    · omega
    · exact (clauses_in h (h3 h0).1).2
/-! ### A node, case by case -/
theorem node_out {C : SC} {S : SS} {path : Nat × Nat} (hb : 0 < C.budget ∧ C.budget ≤ S.nodes) : nodeOf C S path = .inl (S, (0, 0)) := by unfold nodeOf; rw [if_pos hb]
theorem node_conf {C : SC} {S : SS} {path : Nat × Nat} (hb : ¬ (0 < C.budget ∧ C.budget ≤ S.nodes)) (hc : (unitsOf C { S with nodes := S.nodes + 1 } path).conf ≠ 0) : nodeOf C S path = .inl (explain C { S with nodes := S.nodes + 1 } (unitsOf C { S with nodes := S.nodes + 1 } path)) := by
  unfold nodeOf; rw [if_neg hb]; dsimp only; rw [if_pos hc]
theorem node_won {C : SC} {S : SS} {path : Nat × Nat} (hb : ¬ (0 < C.budget ∧ C.budget ≤ S.nodes)) (hc : (unitsOf C { S with nodes := S.nodes + 1 } path).conf = 0) (hr : (cubeOf C { S with nodes := S.nodes + 1 } path (unitsOf C { S with nodes := S.nodes + 1 } path).vals).2.1 ≠ 0) : nodeOf C S path = .inl (cubeOf C { S with nodes := S.nodes + 1 } path (unitsOf C { S with nodes := S.nodes + 1 } path).vals) := by
  unfold nodeOf; rw [if_neg hb]; dsimp only; rw [if_neg (fun h => h hc), if_pos hr]
theorem node_on {C : SC} {S : SS} {path : Nat × Nat} (hb : ¬ (0 < C.budget ∧ C.budget ≤ S.nodes)) (hc : (unitsOf C { S with nodes := S.nodes + 1 } path).conf = 0) (hr : (cubeOf C { S with nodes := S.nodes + 1 } path (unitsOf C { S with nodes := S.nodes + 1 } path).vals).2.1 = 0) : nodeOf C S path = .inr ((cubeOf C { S with nodes := S.nodes + 1 } path (unitsOf C { S with nodes := S.nodes + 1 } path).vals).1, (unitsOf C { S with nodes := S.nodes + 1 } path).vals) := by
  unfold nodeOf; rw [if_neg hb]; dsimp only; rw [if_neg (fun h => h hc), if_neg (fun h => h hr)]
theorem LookIn.branch {C : SC} (hC : CBd C) {m d : Nat} {path : Nat × Nat} {S : SS} (h : LookIn C m d path S) {r : SS} {vals : Nat × Nat} (hn : nodeOf C S path = .inr (r, vals)) (hv : vals.1 < 512 ∧ vals.2 < 512) : BranchIn C m d path vals r := by
  obtain ⟨n1, n2⟩ := node_ok hC.qg hC.uni h.lin.inv h.path
  rw [hn] at n1 n2
  simp only [nodeSt] at n1 n2
  rcases n2 with ⟨_, _, h3⟩ | ⟨h1, h2, _⟩
  · cases h3
  have hsz := n1.size
  have hi := n1.inv
  dsimp only at hsz hi
  have h4 := h.lin.size
  have h5 := h.most
  have hpow : 2 ^ (m + 1) = 2 ^ m + 2 ^ m := by rw [Nat.pow_succ 2 m]; omega
  have hpos : 0 < 2 ^ m := Nat.pow_pos (by decide)
  refine ⟨⟨hi, by omega, ?_⟩, h.path, hv, h.dm, ?_⟩
  · generalize 2 ^ (m + 1) = X at *
    generalize 2 ^ m = Y at *
    omega
  · generalize 2 ^ (m + 1) = X at *
    generalize 2 ^ m = Y at *
    omega
theorem LookSpec.next {m : Nat} (h : LookSpec m) (b : Nat) (C : SC) (S : SS) (V : SV) (path : Nat × Nat) (d : Nat) (w : World) (hC : CBd C) (hi : LookIn C m (d + 1) path S) (hS : SAt w b C S V) :
  Calls Tryz.prog 62 #[.pointer (some ⟨b, 0, none⟩), SetV path, .int .i64 ((d : Int) + 1)] w fun e w' => e = .returned (FactV (lookM C m path (d + 1) S).2) ∧ SPost b C (lookM C m path (d + 1) S).1 V w w' := h b C S V path (d + 1) w hC hi hS
/-! ### A branch, case by case -/
theorem branchM_as (C : SC) (m d : Nat) (path vals : Nat × Nat) (S : SS) (v : Nat) (x y : Int) (hv : (C.q.vars.getD d (0, false)).1 = v) (hx : (if hasLit vals (-(v : Int)) then -(v : Int) else (v : Int)) = x) (hy : -x = y) :
    branchM C (m + 1) path d vals S = if hasVarB ((lookM C m (withLit path x) (d + 1) S).1.lits (lookM C m (withLit path x) (d + 1) S).2) v then
      (if hasVarB ((lookM C m (withLit path y) (d + 1) (lookM C m (withLit path x) (d + 1) S).1).1.lits (lookM C m (withLit path y) (d + 1) (lookM C m (withLit path x) (d + 1) S).1).2) v then joinOf C (lookM C m (withLit path y) (d + 1) (lookM C m (withLit path x) (d + 1) S).1).1 (lookM C m (withLit path x) (d + 1) S).2 (lookM C m (withLit path y) (d + 1) (lookM C m (withLit path x) (d + 1) S).1).2 v else lookM C m (withLit path y) (d + 1) (lookM C m (withLit path x) (d + 1) S).1)
      else lookM C m (withLit path x) (d + 1) S := by
  rw [branchM]
  dsimp only
  rw [hv, hx, hy]
theorem LookOk.kind {C : SC} {m : Nat} {path : Nat × Nat} {S : SS} {r : SS × (Nat × Nat)} (h : LookOk C m path S r) {v : Nat} (hh : hasVarB (r.1.lits r.2) v = true) : r.2.1 = 1 ∨ r.2.1 = 2 := by
  have ha0 : r.2.1 ≠ 0 := fun e => by rw [zero_has _ _ e (h.zero e)] at hh; cases hh
  exact (h.fact ha0).inn.kind
theorem LIn.plen {C : SC} {S : SS} (h : LIn C S) (k : Nat) : (S.proof k).length ≤ 99990 := by
  have h1 := h.size
  have h2 := h.nodes
  have h3 := sizeS_le S
  unfold SS.proof
  split <;> omega
theorem SAt.setNodes {w : World} {b : Nat} {C : SC} {S : SS} {V : SV} (h : SAt w b C S V) (n : Nat) : SAt (w.setCell ⟨b, 5, none⟩ (.int .i64 (n : Int))) b C { S with nodes := n } V :=
  ⟨blk_set h.fb 5 _, own_set_ne h.oV (own_type_ne h.oV h.fb (by decide)) _, own_set_ne h.oC (own_type_ne h.oC h.fb (by decide)) _, own_set_ne h.oR (own_type_ne h.oR h.fb (by decide)) _, own_set_ne h.oA (own_type_ne h.oA h.fb (by decide)) _,
   h.oK.keep (T := fun j => j = b) ((Only.refl (fun j => j = b) w).setCell (p := ⟨b, 5, none⟩) (Or.inl rfl) _) (fun j hj e => by subst e; obtain ⟨c, hc⟩ := h.oK.blk j hj; exact absurd (blk_type hc h.fb) (by decide)), h.ap⟩
end Go.Proofs.YtgipjjhkhfihpaaGreatDoor
