import Derived.Test.YtgipjjhkhfihpaaDoorAE
import Derived.Test.YtgipjjhkhfihpaaDoorAG
import Derived.Test.YtgipjjhkhfihpaaDoorAC
namespace Go.Proofs.YtgipjjhkhfihpaaDoor

/-! ### Both sides' blocks are the same -/
theorem all_fold (l : List (Nat × Bool)) : ∀ (a v : Nat), (l.foldl (fun a x => if x.2 then a ||| 2 ^ x.1 else a) a).testBit v = (a.testBit v || l.any (fun x => x.2 && x.1 == v)) := by
  induction l with
  | nil => intro a v; simp
  | cons x l ih =>
    intro a v
    rw [List.foldl_cons, ih, List.any_cons]
    cases x.2 with
    | false => simp
    | true =>
      rw [if_pos rfl, Nat.testBit_or, testBit_pow, Bool.or_assoc]; simp
theorem zip_map (l : List (Nat × Bool)) : (l.map (·.1)).zip (l.map (·.2)) = l := by
  induction l with
  | nil => rfl
  | cons x l ih => simp [ih]
theorem all_bit {st : RS} {q : QS} (h : Same st q) (v : Nat) : (finish st).all.testBit v = q.vars.any (fun x => x.2 && x.1 == v) := by
  show (allTo st st.told.length).testBit v = _
  unfold allTo
  rw [h.told, h.kinds, zip_map, List.length_map, List.take_length, all_fold]
  simp
theorem any_unique (l : List (Nat × Bool)) (hn : (l.map (·.1)).Nodup) (x : Nat × Bool) (hx : x ∈ l) : l.any (fun y => y.2 && y.1 == x.1) = x.2 := by
  induction l with
  | nil => simp at hx
  | cons y l ih =>
    rw [List.map_cons, List.nodup_cons] at hn
    rw [List.any_cons]
    rcases List.mem_cons.1 hx with e | hx
    · subst e
      have : l.any (fun y => y.2 && y.1 == x.1) = false := by
        rw [List.any_eq_false]
        intro z hz hh
        simp at hh
        exact hn.1 (by rw [← hh.2]; exact List.mem_map_of_mem hz)
      rw [this]; simp
    · rw [ih hn.2 hx]
      have : (y.1 == x.1) = false := by
        rw [beq_eq_false_iff_ne]; intro e; exact hn.1 (by rw [e]; exact List.mem_map_of_mem hx)
      rw [this]; simp
theorem free_eq {st : RS} {q : QS} (h : Same st q) : freeTo st 8 = freeQ q 8 := by
  unfold freeTo freeQ
  apply List.filter_congr
  intro v hv
  rw [List.mem_map] at hv
  obtain ⟨u, hu, rfl⟩ := hv
  have : u < 8 := by simpa using hu
  rw [h.used (u + 1) (by omega) (by omega), h.seen, Bool.and_comm]
theorem order_eq {st : RS} {q : QS} (h : Same st q) : (finish st).order = (qFinish q).vars.map (·.1) := by
  show freeTo st 8 ++ st.told = (exv (freeQ q 8) ++ q.vars).map (·.1)
  rw [free_eq h, h.told, List.map_append]
  congr 1
  simp [exv, Function.comp_def]
theorem kinds_eq {st : RS} {q : QS} (h : Same st q) (hn : QNice q) : ∀ x ∈ (qFinish q).vars, (finish st).all.testBit x.1 = x.2 := by
  intro x hx
  rw [all_bit h]
  rcases List.mem_append.1 (show x ∈ exv (freeQ q 8) ++ q.vars from hx) with hx | hx
  · unfold exv at hx
    rw [List.mem_map] at hx
    obtain ⟨v, hv, rfl⟩ := hx
    unfold freeQ at hv
    rw [List.mem_filter, Bool.and_eq_true, Bool.not_eq_true'] at hv
    have hh := hv.2.1
    dsimp only
    rw [List.any_eq_false]
    intro z hz hzz
    simp at hzz
    have : hasV q.vars v = true := by unfold hasV; rw [List.any_eq_true]; exact ⟨z, hz, by simpa using hzz.2⟩
    rw [hh] at this; cases this
  · exact any_unique _ hn.nodup x hx
theorem finish_ends {st : RS} {q : QS} (h : Same st q) (hn : QNice q) : (finish st).ends = endsOf (qFinish q).vars := by
  have := ends_eq (qFinish q).vars (finish st).all (kinds_eq h hn)
  rw [← this]
  show endsTo (finish st).order (finish st).all (finish st).order.length = _
  rw [order_eq h, List.length_map]
theorem progBlocks_len (vs : List (Nat × Bool)) : (progBlocks vs).length = (endsOf vs).length := by rw [progBlocks_eq]; simp

/-- Names: rising bounds. -/
theorem nodup_lt : ∀ (n : Nat) (l : List Nat), l.Nodup → (∀ x ∈ l, x < n) → l.length ≤ n := by
  intro n
  induction n with
  | zero =>
    intro l _ h
    cases l with
    | nil => simp
    | cons x l => exact absurd (h x (by simp)) (by omega)
  | succ n ih =>
    intro l hn h
    have h1 := ih (l.erase n) (hn.erase n) (by
      intro x hx
      rw [hn.mem_erase_iff] at hx
      have := h x hx.2; omega)
    rw [List.length_erase] at h1
    split at h1 <;> omega
theorem nodup_le (l : List Nat) (hn : l.Nodup) (hb : ∀ x ∈ l, 1 ≤ x ∧ x ≤ 8) : l.length ≤ 8 := by
  have h := nodup_lt 9 (0 :: l) (by
    rw [List.nodup_cons]
    exact ⟨fun h => by have := hb 0 h; omega, hn⟩) (by
    intro x hx
    rcases List.mem_cons.1 hx with rfl | hx
    · omega
    · have := hb x hx; omega)
  simpa using h
theorem names_all {q : QS} (hn : QNice q) : ((qFinish q).vars.map (·.1)).Nodup ∧ ∀ x ∈ (qFinish q).vars, 1 ≤ x.1 ∧ x.1 ≤ 8 := by
  show ((exv (freeQ q 8) ++ q.vars).map (·.1)).Nodup ∧ ∀ x ∈ exv (freeQ q 8) ++ q.vars, 1 ≤ x.1 ∧ x.1 ≤ 8
  have e : (exv (freeQ q 8)).map (·.1) = freeQ q 8 := by simp [exv, Function.comp_def]
  have hmem : ∀ v ∈ freeQ q 8, (1 ≤ v ∧ v ≤ 8) ∧ hasV q.vars v = false := by
    intro v hv
    unfold freeQ at hv
    rw [List.mem_filter, Bool.and_eq_true, Bool.not_eq_true', List.mem_map] at hv
    obtain ⟨⟨u, hu, rfl⟩, hh, _⟩ := hv
    have : u < 8 := by simpa using hu
    exact ⟨by omega, hh⟩
  constructor
  · rw [List.map_append, e, List.nodup_append]
    refine ⟨?_, hn.nodup, ?_⟩
    · unfold freeQ
      refine List.Pairwise.filter _ ?_
      rw [List.pairwise_map]
      exact List.pairwise_lt_range.imp (fun h => by omega)
    · intro a ha b hb e
      subst e
      rw [List.mem_map] at hb
      obtain ⟨x, hx, hxe⟩ := hb
      have : hasV q.vars a = true := by unfold hasV; rw [List.any_eq_true]; exact ⟨x, hx, by simpa using hxe⟩
      rw [(hmem a ha).2] at this; cases this
  · intro x hx
    rcases List.mem_append.1 hx with hx | hx
    · unfold exv at hx
      rw [List.mem_map] at hx
      obtain ⟨v, hv, rfl⟩ := hx
      exact (hmem v hv).1
    · exact hn.names x hx
theorem vars_le {q : QS} (hn : QNice q) : (qFinish q).vars.length ≤ 8 := by
  have h := names_all hn
  have := nodup_le _ h.1 (by
    intro x hx
    rw [List.mem_map] at hx
    obtain ⟨y, hy, rfl⟩ := hx
    exact h.2 y hy)
  simpa using this

/-! ### Where blocks end: rising, within the variables -/
theorem cuts_sorted (vs : List (Nat × Bool)) (k : Nat) : (cutsTo vs k).Pairwise (· < ·) := by
  unfold cutsTo
  exact List.Pairwise.filter _ List.pairwise_lt_range
theorem ends_sorted (vs : List (Nat × Bool)) : (endsOf vs).Pairwise (· < ·) := by
  unfold endsOf
  split
  · rw [List.pairwise_append]
    refine ⟨cuts_sorted _ _, by simp, ?_⟩
    intro a ha b hb
    simp at hb; subst hb
    exact (cutsTo_lt vs _ a ha).2
  · simp
theorem ends_mem (vs : List (Nat × Bool)) : ∀ x ∈ endsOf vs, 0 < x ∧ x ≤ vs.length := by
  unfold endsOf
  split
  · intro x hx
    rcases List.mem_append.1 hx with hx | hx
    · have := cutsTo_lt vs _ x hx; omega
    · simp at hx; omega
  · simp
theorem ends_len (vs : List (Nat × Bool)) : (endsOf vs).length ≤ vs.length := by
  unfold endsOf
  split
  · next h =>
    have hc : (cutsTo vs vs.length).length ≤ vs.length - 1 := by
      obtain ⟨n, hn⟩ : ∃ n, vs.length = n + 1 := ⟨vs.length - 1, by omega⟩
      rw [hn]
      unfold cutsTo
      rw [show List.range (n + 1) = 0 :: (List.range n).map (· + 1) from List.range_succ_eq_map, List.filter_cons, if_neg (by simp [newAt])]
      refine Nat.le_trans (List.length_filter_le _ _) ?_
      simp
    simp; omega
  · simp
theorem start_le (vs : List (Nat × Bool)) (k : Nat) (h : k < (endsOf vs).length) : startOf (endsOf vs) k ≤ (endsOf vs).getD k 0 := by
  unfold startOf
  split
  · have hs := ends_sorted vs
    rw [List.pairwise_iff_getElem] at hs
    have := hs (k - 1) k (by omega) h (by omega)
    simp only [List.getD, List.getElem?_eq_getElem h, List.getElem?_eq_getElem (show k - 1 < (endsOf vs).length by omega), Option.getD_some]
    omega
  · omega
theorem end_le (vs : List (Nat × Bool)) (k : Nat) (h : k < (endsOf vs).length) : (endsOf vs).getD k 0 ≤ vs.length := by
  simp only [List.getD, List.getElem?_eq_getElem h, Option.getD_some]
  exact (ends_mem vs _ (List.getElem_mem h)).2
end Go.Proofs.YtgipjjhkhfihpaaDoor

namespace Go.Proofs.YtgipjjhkhfihpaaDoor
open Go.RowKit

/-! ### reduced -/
theorem shr_bit_zero (a v : Nat) (ha : a < 512) (hv : v ≤ 8) : (bits .and .i64 ((a : Int) / 2 ^ v) 1 == 0) = !a.testBit v := by
  rw [shr_bit a v ha hv]; cases a.testBit v <;> rfl
theorem new_at {w : World} {o : Obj} {n : Nat} (h : n = w.heap.size) : (w.alloc o).heap[n]? = some o := by subst h; exact heap_alloc_new w o
theorem less_bit (a v : Nat) (ha : a < 512) (hv : v ≤ 8) : bits .andNot .i64 (a : Int) (wrap64 (2 ^ v)) = ((less a (2 ^ v) : Nat) : Int) := by
  have h := shl_one (v : Int) (by omega) (by omega)
  rw [Int.toNat_natCast] at h
  have hp := pow_bd v hv
  rw [h]
  exact i64_andNot _ _ (by omega) (by omega)
theorem lastTo_succ (order : List Nat) (kind : Nat) (c : Nat × Nat) (k v : Nat) (h : k < order.length) (hv : order[k] = v) : lastTo order kind c (k + 1) = if hasB c v && !kind.testBit v then k + 1 else lastTo order kind c k := by
  rw [lastTo]
  have : order.getD k 0 = v := by rw [List.getD, List.getElem?_eq_getElem h, hv]; rfl
  rw [this]
theorem lastTo_bound (order : List Nat) (kind : Nat) (c : Nat × Nat) (k : Nat) : lastTo order kind c k ≤ k := by
  induction k with
  | zero => exact Nat.le_refl _
  | succ k ih => rw [lastTo]; split <;> omega
def redTo (order : List Nat) (kind m : Nat) (c : Nat × Nat) (j : Nat) : Nat × Nat := ((order.drop m).take j).foldl (clr kind) c
theorem redTo_succ (order : List Nat) (kind m : Nat) (c : Nat × Nat) (j v : Nat) (h : m + j < order.length) (hv : order[m + j] = v) : redTo order kind m c (j + 1) = clr kind (redTo order kind m c j) v := by
  unfold redTo
  have hj : j < (order.drop m).length := by simp; omega
  rw [List.take_succ_eq_append_getElem hj, List.foldl_append, List.getElem_drop, hv]; rfl
theorem redTo_bd (order : List Nat) (kind m : Nat) (c : Nat × Nat) (j : Nat) (h : Bd c) : Bd (redTo order kind m c j) := clrs_bd kind _ c h
theorem redTo_end (order : List Nat) (kind : Nat) (c : Nat × Nat) (j : Nat) (h : lastTo order kind c order.length + j = order.length) : redTo order kind (lastTo order kind c order.length) c j = redR order kind c := by
  unfold redTo redR
  rw [List.take_of_length_le (by simp; omega)]

end Go.Proofs.YtgipjjhkhfihpaaDoor

namespace Go.Proofs.YtgipjjhkhfihpaaDoor
open Go.RowKit

/-! ### cube -/
theorem satR_take (cl : List (Nat × Nat)) (c : Nat × Nat) (k : Nat) (h : k < cl.length) : satR (cl.take (k + 1)) c = (satR (cl.take k) c && !missed cl[k] c) := by
  unfold satR; rw [List.take_succ_eq_append_getElem h, List.all_append]; simp
theorem satR_of (cl : List (Nat × Nat)) (c : Nat × Nat) (k : Nat) (h : k < cl.length) (hc : missed cl[k] c = true) : satR cl c = false := by
  unfold satR; rw [List.all_eq_false]; exact ⟨cl[k], List.getElem_mem h, by rw [hc]; decide⟩
/-- A clause, or that it is none; c is whatever. -/
def RStPost (res : Option (Nat × Nat)) (w : World) (e : Ending) (w' : World) : Prop :=
  Below w.heap.size w w' ∧ ∃ (c : Nat × Nat) (ok : Bool), e = .returned (.tuple #[.agg #[.int .i64 (c.1 : Int), .int .i64 (c.2 : Int)], .bool ok]) ∧ ((ok = true ∧ res = some c) ∨ (ok = false ∧ res = none))
theorem RStPost.none_ {res : Option (Nat × Nat)} {w w' : World} {e : Ending} (hb : Below w.heap.size w w') (h : res = none) (c : Nat × Nat) (he : e = .returned (.tuple #[.agg #[.int .i64 (c.1 : Int), .int .i64 (c.2 : Int)], .bool false])) : RStPost res w e w' :=
  ⟨hb, c, false, he, Or.inr ⟨rfl, h⟩⟩
theorem RStPost.some_ {res : Option (Nat × Nat)} {w w' : World} {e : Ending} (hb : Below w.heap.size w w') (c : Nat × Nat) (h : res = some c) (he : e = .returned (.tuple #[.agg #[.int .i64 (c.1 : Int), .int .i64 (c.2 : Int)], .bool true])) : RStPost res w e w' :=
  ⟨hb, c, true, he, Or.inl ⟨rfl, h⟩⟩
/-- What holds of a formula that was read, for the walks. -/
structure FW (F : Form) : Prop where
  len : F.order.length ≤ 8
  names : ∀ v ∈ F.order, v ≤ 8
  cl : F.cl.length ≤ 24
  bits : ∀ c ∈ F.cl, c.1 < 512 ∧ c.2 < 512
  all : F.all < 512

theorem lit_var (c : Nat × Nat) (x : List UInt8) : (litInto c x).2 = true → litVar x = if dig x = 0 then (dig x.tail).toNat else (dig x).toNat := fun _ => rfl
theorem dig_tail (c : Nat × Nat) (x : List UInt8) : (litInto c x).2 = true → dig x = 0 → ∃ r, x = 45 :: r ∧ 0 < dig r := by
  intro h h0
  unfold litInto at h
  split at h
  · next r => exact ⟨r, rfl, of_decide_eq_true h⟩
  · have : 0 < dig x := of_decide_eq_true h
    omega

end Go.Proofs.YtgipjjhkhfihpaaDoor

namespace Go.Proofs.YtgipjjhkhfihpaaDoor
open Go.RowKit

theorem okC_eq (x c : Nat × Nat) : okC x c = !missed x c := by
  unfold okC missed
  have e : ((x.1 &&& c.1) ||| (x.2 &&& c.2) != 0) = !((x.1 &&& c.1 == 0) && (x.2 &&& c.2 == 0)) := by
    have : (x.1 &&& c.1) ||| (x.2 &&& c.2) = 0 ↔ (x.1 &&& c.1 = 0 ∧ x.2 &&& c.2 = 0) := by
      constructor
      · intro h
        constructor
        · apply Nat.eq_of_testBit_eq; intro i
          have : ((x.1 &&& c.1) ||| (x.2 &&& c.2)).testBit i = false := by rw [h]; simp
          rw [Nat.testBit_or, Bool.or_eq_false_iff] at this
          rw [this.1]; simp
        · apply Nat.eq_of_testBit_eq; intro i
          have : ((x.1 &&& c.1) ||| (x.2 &&& c.2)).testBit i = false := by rw [h]; simp
          rw [Nat.testBit_or, Bool.or_eq_false_iff] at this
          rw [this.2]; simp
      · rintro ⟨h1, h2⟩; rw [h1, h2]; rfl
    rw [Bool.eq_iff_iff, bne_iff_ne, Bool.not_eq_true', Bool.and_eq_false_iff, beq_eq_false_iff_ne, beq_eq_false_iff_ne, ne_eq, this, Classical.not_and_iff_not_or_not]
  rw [e]
  cases h1 : (x.1 &&& x.2 == 0) <;> cases h2 : (x.1 &&& c.1 == 0) <;> cases h3 : (x.2 &&& c.2 == 0) <;> simp [bne, h1]
/-! ### Of formulas that were read -/
theorem allTo_small (st : RS) (h : ∀ v ∈ st.told, v ≤ 8) (k : Nat) : allTo st k < 512 := by
  unfold allTo
  have hz : ∀ x ∈ ((st.told.zip st.kinds).take k), x.1 ≤ 8 := fun x hx => h _ (List.of_mem_zip (List.mem_of_mem_take hx)).1
  suffices hh : ∀ (l : List (Nat × Bool)) (a : Nat), a < 512 → (∀ x ∈ l, x.1 ≤ 8) → l.foldl (fun a x => if x.2 then a ||| 2 ^ x.1 else a) a < 512 from hh _ 0 (by omega) hz
  intro l
  induction l with
  | nil => intro a ha _; exact ha
  | cons x l ih =>
    intro a ha hx
    rw [List.foldl_cons]
    apply ih
    · split
      · have := pow_bd x.1 (hx x (by simp))
        exact or_lt _ _ ha (by omega)
      · exact ha
    · exact fun y hy => hx y (by simp [hy])
theorem big_bit (a v : Nat) (h : a < 512) (hv : a.testBit v = true) : v ≤ 8 := by
  apply Classical.byContradiction
  intro hn
  have : a.testBit v = false := Nat.testBit_lt_two_pow (Nat.lt_of_lt_of_le (show a < 2 ^ 9 from h) (Nat.pow_le_pow_right (by omega) (by omega)))
  rw [this] at hv; cases hv
theorem fq_of {st : RS} {q0 : QS} (hs : Same st q0) (hn : QNice q0) (hc : q0.cl.length ≤ 24) : FQ (finish st) (qFinish q0) ∧ FOk (finish st) ∧ FW (finish st) := by
  have ho := order_eq hs
  have hna := names_all hn
  have hk := kinds_eq hs hn
  have hcl : (finish st).cl = q0.cl := hs.cl
  have hbits : ∀ c ∈ q0.cl, Bd c := hn.bits
  have hlen := vars_le hn
  have hv : ∀ c ∈ q0.cl, ∀ v, c.1.testBit v = true ∨ c.2.testBit v = true → v ∈ (finish st).order := by
    intro c hcm v hb
    have h8 : v ≤ 8 := by
      rcases hb with hb | hb
      · exact big_bit _ _ (hn.bits c hcm).1 hb
      · exact big_bit _ _ (hn.bits c hcm).2 hb
    have h1 : 1 ≤ v := by
      rcases Nat.eq_zero_or_pos v with e | e
      · subst e
        have := hn.bit0 c hcm
        rcases hb with hb | hb
        · rw [this.1] at hb; cases hb
        · rw [this.2] at hb; cases hb
      · exact e
    show v ∈ freeTo st 8 ++ st.told
    rw [List.mem_append]
    by_cases hsv : hasV q0.vars v = true
    · right
      rw [hs.told, List.mem_map]
      unfold hasV at hsv
      rw [List.any_eq_true] at hsv
      obtain ⟨x, hx, he⟩ := hsv
      exact ⟨x, hx, by simpa using he⟩
    · left
      rw [free_eq hs]
      unfold freeQ
      rw [List.mem_filter]
      refine ⟨List.mem_map.2 ⟨v - 1, by simp; omega, by omega⟩, ?_⟩
      rw [Bool.and_eq_true]
      refine ⟨by simpa using hsv, ?_⟩
      unfold inC
      rw [List.any_eq_true]
      refine ⟨c, hcm, ?_⟩
      rw [bitOf_nat v h1 h8, and_pow_ne, Nat.testBit_or, Bool.or_eq_true]
      exact hb
  have hnm : ∀ v ∈ (finish st).order, 1 ≤ v ∧ v ≤ 8 := by
    intro v hvv
    rw [ho, List.mem_map] at hvv
    obtain ⟨x, hx, rfl⟩ := hvv
    exact hna.2 x hx
  have htold : ∀ v ∈ st.told, v ≤ 8 := by
    intro v hvv
    rw [hs.told, List.mem_map] at hvv
    obtain ⟨x, hx, rfl⟩ := hvv
    exact (hn.names x hx).2
  refine ⟨⟨ho, hk, hna.1, hna.2, hcl, hc, hbits, hv⟩, ⟨by rw [ho]; exact hna.1, hnm, by rw [hcl]; exact hbits, by rw [hcl]; exact hv⟩, ⟨by rw [ho]; simpa using hlen, fun v h => (hnm v h).2, by rw [hcl]; exact hc, by rw [hcl]; exact hn.bits, allTo_small st htold _⟩⟩
theorem qb_of {q0 : QS} (hn : QNice q0) (hc : q0.cl.length ≤ 24) : QB (qFinish q0) := ⟨vars_le hn, hc, hn.bits, (names_all hn).2⟩
end Go.Proofs.YtgipjjhkhfihpaaDoor

namespace Go.Proofs.YtgipjjhkhfihpaaDoor
open Go.RowKit

def lineP (s : Stp) : List UInt8 := joinW (wordsP s)
def headP (truth : Bool) : List UInt8 := if truth then sTrue else sFalse
def textP (truth : Bool) (p : List Stp) : List UInt8 := joinN (headP truth :: p.map lineP)
theorem kd_cases (truth : Bool) : (truth = false ∧ kd truth = 1) ∨ (truth = true ∧ kd truth = 2) := by cases truth <;> simp [kd]
theorem getD_lits (p : List Stp) (n : Nat) (h1 : 1 ≤ n) (hn : n ≤ p.length) : (p.map (·.lits)).getD (n - 1) (0, 0) = litsAt p n := by
  obtain ⟨m, rfl⟩ : ∃ m, n = m + 1 := ⟨n - 1, by omega⟩
  rw [litsAt_in p m (by omega), List.getD, Nat.add_sub_cancel, List.getElem?_map, List.getElem?_eq_getElem (by omega)]; rfl
theorem and_zero_of_free {c : Nat × Nat} (h : Free c) : c.1 &&& c.2 = 0 := apart_bits (fun v a b => h v a b)
theorem cube_words {q : QS} (_hq : QGood q) {F : Form} (hF : FQ F q) {c : Nat × Nat} (hc : LOk q c) (hf : Free c) : ∀ (k v : Nat) (acc : Nat × Nat) (last : Nat), v + k = 9 → 1 ≤ v → last < v → (∀ s u, u < v → L acc s u = L c s u) → (∀ s u, v ≤ u → L acc s u = false) → cubeTo F.order acc last ((listFrom c k v).map Lib.itoa) = some c := by
  intro k
  induction k with
  | zero =>
    intro v acc last hv h1 _ ha hb
    simp only [listFrom, List.map_nil, cubeTo]
    congr 1
    apply L_ext
    intro s u
    rcases Nat.lt_or_ge u v with h | h
    · exact ha s u h
    · rw [hb s u h]
      cases hh : L c s u with
      | false => rfl
      | true => have := L_le8 hc.bd hh; omega
  | succ k ih =>
    intro v acc last hv h1 hla ha hb
    have h8 : v ≤ 8 := by omega
    have hp : hasLit c (v : Int) = L c true v := hasLit_L c v true h1 h8
    have hn : hasLit c (-(v : Int)) = L c false v := hasLit_L c v false h1 h8
    have one : ∀ s, L c s v = true → cubeTo F.order acc last (Lib.itoa (litI v s) :: (listFrom c k (v + 1)).map Lib.itoa) = some c := by
      intro s hs
      obtain ⟨w1, w2⟩ := litInto_word acc v s h1 h8
      have hm : v ∈ F.order := by rw [hF.order]; exact hc.vars s v hs
      rw [cubeTo, w1, w2, if_pos ⟨rfl, hla, hm⟩]
      have hno := hf.not hs
      refine ih (v + 1) _ v (by omega) (by omega) (by omega) (fun t u hu => ?_) (fun t u hu => ?_)
      · rw [L_with _ _ _ h1 h8]
        by_cases e : u = v
        · subst e
          rw [hb t u (Nat.le_refl _)]
          cases s <;> cases t <;> simp_all
        · rw [ha t u (by omega)]; simp [e]
      · rw [L_with _ _ _ h1 h8, hb t u (by omega)]
        have : u ≠ v := by omega
        simp [this]
    rw [listFrom, hp, hn]
    cases e1 : L c true v with
    | true =>
      have e2 := hf.not e1
      simp only [Bool.not_true] at e2
      rw [e2]
      simpa [litI] using one true e1
    | false =>
      cases e2 : L c false v with
      | true => simpa [litI] using one false e2
      | false =>
        simp only [Bool.false_eq_true, if_false, List.nil_append]
        refine ih (v + 1) acc last (by omega) (by omega) (by omega) (fun t u hu => ?_) (fun t u hu => hb t u (by omega))
        by_cases e : u = v
        · subst e
          rw [hb t u (Nat.le_refl _)]
          cases t
          · exact e2.symm
          · exact e1.symm
        · exact ha t u (by omega)
theorem step_words {q : QS} (hq : QGood q) {F : Form} (hF : FQ F q) (hO : FOk F) {truth : Bool} {p : List Stp} (hl : p.length ≤ 9000) {s : Stp} (hs : StOk q (kd truth) p s) (hf : Free s.lits) :
    ∃ hd tl, wordsP s = hd :: tl ∧ stepR F truth (p.map (·.lits)) hd tl = some s.lits ∧ (hd = [114] ↔ s.rule = 3) ∧ ∀ w ∈ wordsP s, (32 : UInt8) ∉ w ∧ (10 : UInt8) ∉ w := by
  have nd : ∀ u, (32 : UInt8) ∉ Lib.decDigits u ∧ (10 : UInt8) ∉ Lib.decDigits u := fun u => ⟨digits_no u 32 (by decide), digits_no u 10 (by decide)⟩
  obtain ⟨hlok, hst⟩ := hs
  rcases hst with ⟨r1, r2, r3, r4, _, r6⟩ | ⟨r1, r2, _, _, _, r6⟩ | ⟨r1, r2, r3, ⟨x, hx, hxe, hxp⟩, r5, r6, r7, r8, r9, r10⟩ | ⟨r1, r2, _, r4, r5⟩
  · have ht : truth = false := (kd_cases truth).elim (fun h => h.1) (fun h => by omega)
    subst ht
    have hclen := hF.clen
    have hw : wordsP s = [[97], Lib.decDigits s.first] := by unfold wordsP; rw [if_pos r1]
    refine ⟨[97], [Lib.decDigits s.first], hw, ?_, ⟨fun h => by simp at h, fun h => by omega⟩, fun w hm => ?_⟩
    · unfold stepR
      rw [if_pos ⟨rfl, rfl, rfl⟩]
      show axR F (cnt (Lib.decDigits s.first) big) = _
      rw [cnt_digits s.first r3 (by omega)]
      unfold axR
      rw [hF.cl, if_neg (by omega), ← r6]
      unfold apartO
      rw [if_pos (and_zero_of_free hf)]
    · rw [hw] at hm
      rcases List.mem_cons.1 hm with rfl | hm
      · decide
      · simp at hm; subst hm; exact nd _
  · have ht : truth = true := (kd_cases truth).elim (fun h => by omega) (fun h => h.1)
    subst ht
    have hw : wordsP s = [99] :: (listOf s.lits).map Lib.itoa := by unfold wordsP; rw [if_neg (by omega), if_pos r1]
    refine ⟨[99], (listOf s.lits).map Lib.itoa, hw, ?_, ⟨fun h => by simp at h, fun h => by omega⟩, fun w hm => ?_⟩
    · unfold stepR
      rw [if_neg (by simp), if_pos ⟨rfl, rfl⟩]
      unfold cubeR
      rw [show listOf s.lits = listFrom s.lits 8 1 from rfl, cube_words hq hF hlok hf 8 1 (0, 0) 0 rfl (Nat.le_refl _) (by omega) (fun t u hu => by
        have : u = 0 := by omega
        subst this
        rw [L_zero]
        cases hh : L s.lits t 0 with
        | false => rfl
        | true => have := hq.name (hlok.vars t 0 hh); omega) (fun t u _ => L_zero t u)]
      show (if satR F.cl s.lits then some s.lits else none) = _
      have : satR F.cl s.lits = true := by
        rw [hF.cl]
        unfold satR
        unfold satQ at r6
        rw [← r6]
        congr 1
        funext y
        rw [okC_eq]
      rw [if_pos this]
    · rw [hw] at hm
      rcases List.mem_cons.1 hm with rfl | hm
      · decide
      · obtain ⟨z, hz, rfl⟩ := List.mem_map.1 hm
        obtain ⟨u, t, h1, h8, rfl, _⟩ := (listOf_mem _ _).1 hz
        cases t with
        | true => rw [itoa_pos]; exact nd u
        | false =>
          rw [itoa_neg' u h1]
          have := nd u
          simp [this.1, this.2]
  · have hv := hq.qb.names x hx
    rw [hxe] at hv
    have hw : wordsP s = [[114], Lib.decDigits s.first, Lib.decDigits s.second, Lib.decDigits s.var] := by unfold wordsP; rw [if_neg (by omega), if_neg (by omega), if_pos r1]
    refine ⟨[114], [Lib.decDigits s.first, Lib.decDigits s.second, Lib.decDigits s.var], hw, ?_, ⟨fun _ => r1, fun _ => rfl⟩, fun w hm => ?_⟩
    · unfold stepR
      rw [if_neg (by simp), if_neg (by simp), if_pos ⟨rfl, rfl⟩]
      show resR F truth (p.map (·.lits)) (cnt (Lib.decDigits s.first) big) (cnt (Lib.decDigits s.second) big) (cnt (Lib.decDigits s.var) big) = _
      rw [cnt_digits s.first r2.1 (by omega), cnt_digits s.second r3.1 (by omega), cnt_digits s.var hv.1 (by omega)]
      unfold resR
      rw [List.length_map, if_neg (by omega), getD_lits p _ r2.1 r2.2, getD_lits p _ r3.1 r3.2]
      have hk : F.all.testBit s.var = truth := by
        rw [← hxe, hF.kinds x hx]
        revert hxp
        unfold pivotB kd
        cases truth <;> cases x.2 <;> simp
      have e1 : (litsAt p s.first).1.testBit s.var = true := r5
      have e2 : (litsAt p s.second).2.testBit s.var = true := r6
      rw [if_neg (by rw [hk, e1, e2]; simp)]
      have hr : resolve2 (litsAt p s.first) (litsAt p s.second) s.var = s.lits := by
        rw [r10]
        have n1 := r7.not r5
        have n2 := r8.not r6
        simp only [Bool.not_true, Bool.not_false] at n1 n2
        apply L_ext
        intro t u
        rw [L_without2 _ _ _ hv.1 hv.2]
        unfold resolve2
        by_cases e : u = s.var
        · subst e
          cases t
          · have n1' : (litsAt p s.first).2.testBit s.var = false := n1
            simp [L, testBit_less, n1']
          · have n2' : (litsAt p s.second).1.testBit s.var = false := n2
            simp [L, testBit_less, n2']
        · have e' : s.var ≠ u := Ne.symm e
          cases t <;> simp [L, testBit_less, e, e']
      rw [hr]
      unfold apartO
      rw [if_pos (and_zero_of_free hf)]
    · rw [hw] at hm
      rcases List.mem_cons.1 hm with rfl | hm
      · decide
      · simp at hm
        rcases hm with rfl | rfl | rfl <;> exact nd _
  · have hw : wordsP s = [[100], Lib.decDigits s.first] := by unfold wordsP; rw [if_neg (by omega), if_neg (by omega), if_neg (by omega)]
    refine ⟨[100], [Lib.decDigits s.first], hw, ?_, ⟨fun h => by simp at h, fun h => by omega⟩, fun w hm => ?_⟩
    · unfold stepR
      rw [if_neg (by simp), if_neg (by simp), if_neg (by simp), if_pos ⟨rfl, rfl⟩]
      show reductR F truth (p.map (·.lits)) (cnt (Lib.decDigits s.first) big) = _
      rw [cnt_digits s.first r2.1 (by omega)]
      unfold reductR
      rw [List.length_map, if_neg (by omega), getD_lits p _ r2.1 r2.2, ← redQ_eq hF hO truth, ← r5]
    · rw [hw] at hm
      rcases List.mem_cons.1 hm with rfl | hm
      · decide
      · simp at hm; subst hm; exact nd _
end Go.Proofs.YtgipjjhkhfihpaaDoor

namespace Go.Proofs.YtgipjjhkhfihpaaDoor
open Go.RowKit

theorem joinW_len (ws : List (List UInt8)) (k : Nat) (h : ∀ w ∈ ws, w.length ≤ k) : (joinW ws).length ≤ (k + 1) * ws.length := by
  induction ws with
  | nil => simp [joinW]
  | cons w ws ih =>
    have h1 := h w (by simp)
    have h2 := ih (fun x hx => h x (by simp [hx]))
    cases ws with
    | nil => simp [joinW]; omega
    | cons x ws =>
      show (w ++ 32 :: joinW (x :: ws)).length ≤ _
      simp only [List.length_append, List.length_cons] at h2 ⊢
      rw [Nat.mul_add (k + 1) (ws.length + 1) 1]
      omega
theorem listFrom_free {c : Nat × Nat} (hf : Free c) : ∀ k v, 1 ≤ v → v + k ≤ 9 → (listFrom c k v).length ≤ k := by
  intro k
  induction k with
  | zero => intro v _ _; simp [listFrom]
  | succ k ih =>
    intro v h1 h9
    have hp : hasLit c (v : Int) = L c true v := hasLit_L c v true h1 (by omega)
    have hn : hasLit c (-(v : Int)) = L c false v := hasLit_L c v false h1 (by omega)
    have := ih (v + 1) (by omega) (by omega)
    rw [listFrom, hp, hn]
    cases e1 : L c true v with
    | true =>
      have e2 := hf.not e1
      simp only [Bool.not_true] at e2
      rw [e2]; simp; omega
    | false =>
      cases e2 : L c false v with
      | true => simp; omega
      | false => simp; omega
theorem lineP_len {s : Stp} (hf : Free s.lits) (h1 : s.rule ≠ 2 → s.first < 1000000) (h2 : s.rule = 3 → s.second < 1000000 ∧ s.var < 1000000) : (lineP s).length ≤ 28 := by
  unfold lineP wordsP
  split
  · have d1 := decDigits_len _ (h1 (by omega))
    have := joinW_len [[97], Lib.decDigits s.first] 6 (by simp; exact d1)
    simp at this; omega
  · split
    · have hl := listFrom_free hf 8 1 (by omega) (by omega)
      have := joinW_len ([99] :: (listOf s.lits).map Lib.itoa) 2 (by
        intro w hw
        rcases List.mem_cons.1 hw with rfl | hw
        · simp
        · obtain ⟨z, hz, rfl⟩ := List.mem_map.1 hw
          obtain ⟨u, t, hu1, hu8, rfl, _⟩ := (listOf_mem _ _).1 hz
          have hd := decDigits_small u (by omega)
          cases t with
          | true => rw [itoa_pos, hd]; simp
          | false => rw [itoa_neg' u hu1, hd]; simp)
      have e : (listOf s.lits).length ≤ 8 := hl
      simp only [List.length_cons, List.length_map] at this
      omega
    · have d1 := decDigits_len _ (h1 (by assumption))
      split
      · next h3 =>
        have d2 := decDigits_len _ (h2 h3).1
        have d3 := decDigits_len _ (h2 h3).2
        have := joinW_len [[114], Lib.decDigits s.first, Lib.decDigits s.second, Lib.decDigits s.var] 6 (by simp; exact ⟨d1, d2, d3⟩)
        simp at this; omega
      · have := joinW_len [[100], Lib.decDigits s.first] 6 (by simp; exact d1)
        simp at this; omega
theorem joinN_len (m : List (List UInt8)) (k : Nat) (h : ∀ r ∈ m, r.length ≤ k) : (joinN m).length ≤ (k + 1) * m.length := by
  induction m with
  | nil => simp [joinN]
  | cons r m ih =>
    have h1 := h r (by simp)
    have h2 := ih (fun x hx => h x (by simp [hx]))
    simp only [joinN, List.flatMap_cons, List.length_append, List.length_cons, List.length_nil] at h2 ⊢
    rw [Nat.mul_add]
    omega
theorem joinW_mem (ws : List (List UInt8)) (x : UInt8) (hx : x ≠ 32) (h : ∀ w ∈ ws, x ∉ w) : x ∉ joinW ws := by
  induction ws with
  | nil => simp [joinW]
  | cons w ws ih =>
    have h1 := h w (by simp)
    have h2 := ih (fun y hy => h y (by simp [hy]))
    cases ws with
    | nil => exact h1
    | cons y ws =>
      show x ∉ w ++ 32 :: joinW (y :: ws)
      rw [List.mem_append, List.mem_cons]
      rintro (h3 | h3 | h3)
      · exact h1 h3
      · exact hx h3
      · exact h2 h3
theorem line_ok {q : QS} (hq : QGood q) {F : Form} (hF : FQ F q) (hO : FOk F) {truth : Bool} {p : List Stp} (hp : POk q (kd truth) p) (hf : ∀ s ∈ p, Free s.lits) (hl : p.length ≤ 9000) (i : Nat) (hi : i < p.length) : lineR F truth ((p.take i).map (·.lits)) (lineP p[i]) = some p[i].lits ∧ isTwo (lineP p[i]) = (p[i].rule == 3) ∧ (10 : UInt8) ∉ lineP p[i] := by
  obtain ⟨hd, tl, h1, h2, h3, h4⟩ := step_words hq hF hO (p := p.take i) (by simp; omega) (hp i hi) (hf _ (List.getElem_mem hi))
  have hc : cutAt 32 (lineP p[i]) = hd :: tl := by
    unfold lineP
    rw [cut_words _ (by rw [h1]; simp) (fun w hw => (h4 w hw).1), h1]
  refine ⟨?_, ?_, joinW_mem _ _ (by decide) (fun w hw => (h4 w hw).2)⟩
  · rw [lineR_eq F truth _ _ hd tl hc, if_neg (by simp; omega)]
    exact h2
  · unfold isTwo
    rw [hc]
    by_cases e : p[i].rule = 3
    · rw [h3.2 e, e]; rfl
    · have : hd ≠ [114] := fun h => e (h3.1 h)
      rw [show (p[i].rule == 3) = false from by simpa using e]
      simpa using this
theorem rows_ok {q : QS} (hq : QGood q) {F : Form} (hF : FQ F q) (hO : FOk F) {truth : Bool} {p : List Stp} (hp : POk q (kd truth) p) (hf : ∀ s ∈ p, Free s.lits) (hl : p.length ≤ 9000) : ∀ (m i n : Nat), i + m = p.length → rowsR F truth ((p.take i).map (·.lits)) n ((p.drop i).map lineP) = .inl (p.map (·.lits)) := by
  intro m
  induction m with
  | zero =>
    intro i n h
    rw [List.drop_eq_nil_of_le (by omega), List.take_of_length_le (by omega)]
    rfl
  | succ m ih =>
    intro i n h
    have hi : i < p.length := by omega
    rw [List.drop_eq_getElem_cons hi, List.map_cons, rowsR, (line_ok hq hF hO hp hf hl i hi).1]
    have := ih (i + 1) (n + 1) (by omega)
    rw [List.take_succ_eq_append_getElem hi, List.map_append] at this
    exact this
theorem two_ok {q : QS} (hq : QGood q) {F : Form} (hF : FQ F q) (hO : FOk F) {truth : Bool} {p : List Stp} (hp : POk q (kd truth) p) (hf : ∀ s ∈ p, Free s.lits) (hl : p.length ≤ 9000) : twoR (p.map lineP) = twos p := by
  unfold twoR twos
  rw [List.filter_map, List.length_map]
  congr 1
  apply List.filter_congr
  intro s hs
  obtain ⟨i, hi, rfl⟩ := List.mem_iff_getElem.1 hs
  exact (line_ok hq hF hO hp hf hl i hi).2.1
theorem proves_text {q : QS} (hq : QGood q) {F : Form} (hF : FQ F q) (hO : FOk F) {truth : Bool} {p : List Stp} (hp : POk q (kd truth) p) (hf : ∀ s ∈ p, Free s.lits) (hl : p.length ≤ 9000) (hlast : ∃ s, p.getLast? = some s ∧ s.lits = (0, 0)) : provesR F (textP truth p) = .inr (truth, twos p) := by
  have hno : ∀ r ∈ headP truth :: p.map lineP, (10 : UInt8) ∉ r := by
    intro r hr
    rcases List.mem_cons.1 hr with rfl | hr
    · cases truth <;> decide
    · obtain ⟨s, hs, rfl⟩ := List.mem_map.1 hr
      obtain ⟨i, hi, rfl⟩ := List.mem_iff_getElem.1 hs
      exact (line_ok hq hF hO hp hf hl i hi).2.2
  have hcut : cutTo 10 (textP truth p) = (headP truth :: p.map lineP, []) := by
    unfold cutTo textP
    rw [cut_join _ hno []]; rfl
  have hlen : ∀ r ∈ headP truth :: p.map lineP, r.length ≤ 28 := by
    intro r hr
    rcases List.mem_cons.1 hr with rfl | hr
    · cases truth <;> decide
    · obtain ⟨s, hs, rfl⟩ := List.mem_map.1 hr
      obtain ⟨i, hi, rfl⟩ := List.mem_iff_getElem.1 hs
      have htl : (p.take i).length ≤ 9000 := by simp; omega
      have hclen := hF.clen
      rcases (hp i hi).2 with ⟨h1, _, _, h4, _⟩ | ⟨h1, _⟩ | ⟨_, h2, h3, ⟨x, hx, hxe, _⟩, _⟩ | ⟨h1, h2, _⟩
      · exact lineP_len (hf _ hs) (fun _ => by omega) (fun h => by omega)
      · exact lineP_len (hf _ hs) (fun h => absurd h1 h) (fun h => by omega)
      · have hv := hq.qb.names x hx
        exact lineP_len (hf _ hs) (fun _ => by omega) (fun _ => ⟨by omega, by omega⟩)
      · exact lineP_len (hf _ hs) (fun _ => by omega) (fun h => by omega)
  have hlong : ¬ 262144 < (textP truth p).length := by
    have := joinN_len _ 28 hlen
    simp only [List.length_cons, List.length_map] at this
    unfold textP
    omega
  unfold provesR
  rw [if_neg hlong, hcut]
  dsimp only
  have hh : headP truth = sTrue ∨ headP truth = sFalse := by cases truth <;> simp [headP]
  have hb : (headP truth == sTrue) = truth := by cases truth <;> decide
  rw [if_pos hh, hb]
  have hr := rows_ok hq hF hO hp hf hl p.length 0 1 (by omega)
  simp only [List.take_zero, List.map_nil, List.drop_zero] at hr
  rw [hr]
  dsimp only
  have he : emptyLast (p.map (·.lits)) = true := by
    obtain ⟨s, h1, h2⟩ := hlast
    unfold emptyLast
    rw [List.getLast?_map, h1]
    show (s.lits.1 ||| s.lits.2 == 0) = true
    rw [h2]; rfl
  rw [if_pos ⟨rfl, he⟩, two_ok hq hF hO hp hf hl]
end Go.Proofs.YtgipjjhkhfihpaaDoor

namespace Go.Proofs.YtgipjjhkhfihpaaDoor
open Go.RowKit

/-! ### The whole search -/
theorem axioms_len (cl : List (Nat × Nat)) : (axioms cl).length = cl.length := by simp [axioms]
theorem axioms_at (cl : List (Nat × Nat)) (i : Nat) (h : i < cl.length) : (axioms cl)[i]'(by rw [axioms_len]; exact h) = ⟨1, i + 1, 0, 0, cl[i]⟩ := by
  simp [axioms]
theorem axioms_ok {q : QS} (hq : QGood q) : POk q 1 (axioms q.cl) := by
  intro i hi
  have h : i < q.cl.length := by rw [axioms_len] at hi; exact hi
  rw [axioms_at q.cl i h]
  have hm := List.getElem_mem h
  refine ⟨⟨hq.qb.bits _ hm, fun s v hv => hq.vars _ hm s v hv⟩, Or.inl ⟨rfl, rfl, by show 1 ≤ i + 1; omega, by show i + 1 ≤ _; omega, rfl, ?_⟩⟩
  show q.cl[i] = q.cl.getD (i + 1 - 1) (0, 0)
  rw [Nat.add_sub_cancel, List.getD, List.getElem?_eq_getElem h]; rfl
theorem begin_inv {q : QS} (hq : QGood q) (budget room : Nat) : SInv (beginC q budget room) (beginS q) := by
  refine ⟨axioms_ok hq, by show q.cl.length ≤ (axioms q.cl).length; rw [axioms_len]; exact Nat.le_refl _, fun i hi => ?_, pok_nil _ _, fun f hf => (by cases hf), Nat.zero_le _, Nat.zero_le _⟩
  have h : i < q.cl.length := hi
  show litsAt (axioms q.cl) (i + 1) = q.cl[i]
  rw [litsAt_in _ i (by rw [axioms_len]; exact h), axioms_at q.cl i h]
theorem uni_ok {q : QS} (hq : QGood q) : UniOk q (uniTo q.vars (0, 0)) := by
  have key : ∀ (vs : List (Nat × Bool)) (u : Nat × Nat), (∀ x ∈ vs, 1 ≤ x.1 ∧ x.1 ≤ 8) → ∀ s v, L (uniTo vs u) s v = true ↔ (L u s v = true ∨ ∃ x ∈ vs, x.1 = v ∧ x.2 = true) := by
    intro vs
    induction vs with
    | nil => intro u _ s v; simp [uniTo]
    | cons y vs ih =>
      intro u hn s v
      have hy := hn y (by simp)
      show L (uniTo vs (if y.2 then withLit (withLit u y.1) (-(y.1 : Int)) else u)) s v = true ↔ _
      rw [ih _ (fun x hx => hn x (by simp [hx]))]
      cases hu : y.2 with
      | false =>
        simp only [Bool.false_eq_true, if_false]
        constructor
        · rintro (h | ⟨x, hx, h1, h2⟩)
          · exact Or.inl h
          · exact Or.inr ⟨x, by simp [hx], h1, h2⟩
        · rintro (h | ⟨x, hx, h1, h2⟩)
          · exact Or.inl h
          · rcases List.mem_cons.1 hx with rfl | hx
            · rw [hu] at h2; cases h2
            · exact Or.inr ⟨x, hx, h1, h2⟩
      | true =>
        simp only [if_true]
        have e1 : ((y.1 : Nat) : Int) = litI y.1 true := rfl
        have e2 : -((y.1 : Nat) : Int) = litI y.1 false := rfl
        rw [e2, L_with _ _ _ hy.1 hy.2, e1, L_with _ _ _ hy.1 hy.2]
        constructor
        · rintro (h | ⟨x, hx, h1, h2⟩)
          · simp only [Bool.or_eq_true, Bool.and_eq_true, decide_eq_true_eq] at h
            rcases h with (h | h) | h
            · exact Or.inl h
            · exact Or.inr ⟨y, by simp, h.2.symm, hu⟩
            · exact Or.inr ⟨y, by simp, h.2.symm, hu⟩
          · exact Or.inr ⟨x, by simp [hx], h1, h2⟩
        · rintro (h | ⟨x, hx, h1, h2⟩)
          · exact Or.inl (by rw [h]; rfl)
          · rcases List.mem_cons.1 hx with rfl | hx
            · left
              subst h1
              cases s <;> simp
            · exact Or.inr ⟨x, hx, h1, h2⟩
  intro s v
  rw [key q.vars (0, 0) hq.qb.names s v, L_zero]
  simp
/-- What is told of a formula. -/
structure Told (F : Form) (q : QS) (budget room : Nat) (r : SS × (Nat × Nat)) : Prop where
  kind : r.2.1 = 0 ∨ r.2.1 = 1 ∨ r.2.1 = 2
  unknown : r.2.1 = 0 → 0 < budget ∧ r.1.nodes = budget
  one : 1 ≤ r.1.nodes
  most : r.1.nodes + 1 ≤ 2 ^ (q.vars.length + 1)
  upto : 0 < budget → r.1.nodes ≤ budget
  lemmas : r.1.most ≤ room
  inv : SInv (beginC q budget room) r.1
  size : sizeS r.1 ≤ 24 + 12 * r.1.nodes
  proof : r.2.1 ≠ 0 → 1 ≤ r.2.2 ∧ r.2.2 ≤ (r.1.proof r.2.1).length ∧ provesR F (textP (r.2.1 == 2) (shortOf (r.1.proof r.2.1) r.2.2)) = .inr (r.2.1 == 2, twos (shortOf (r.1.proof r.2.1) r.2.2)) ∧ twos (shortOf (r.1.proof r.2.1) r.2.2) ≤ twos (r.1.proof r.2.1)
theorem solve_ok {F : Form} {q : QS} (hq : QGood q) (hF : FQ F q) (hO : FOk F) (budget room : Nat) : Told F q budget room (solveM q budget room) := by
  have hl := look_ok (C := beginC q budget room) hq (uni_ok hq) q.vars.length 0 (0, 0) (beginS q) (begin_inv hq budget room) (path_zero q) (by simp; rfl)
  unfold solveM
  generalize lookM (beginC q budget room) q.vars.length (0, 0) 0 (beginS q) = r at *
  have h0 : (beginS q).nodes = 0 := rfl
  have hsz : sizeS (beginS q) ≤ 24 := by
    show (axioms q.cl).length + 0 ≤ 24
    rw [axioms_len]
    have := hq.qb.cl
    omega
  have hvl := hq.qb.vl
  have hone : 1 ≤ r.1.nodes := by
    have := hl.some (by rintro ⟨h1, h2⟩; rw [h0] at h2; have : (beginC q budget room).budget = budget := rfl; omega)
    rw [h0] at this; omega
  have hmost := hl.most
  rw [h0] at hmost
  have hsize := hl.size
  rw [h0] at hsize
  have hp512 : 2 ^ (q.vars.length + 1) ≤ 512 := by
    have : 2 ^ (q.vars.length + 1) ≤ 2 ^ 9 := Nat.pow_le_pow_right (by decide) (by omega)
    simpa using this
  have hkind : r.2.1 = 0 ∨ r.2.1 = 1 ∨ r.2.1 = 2 := by
    by_cases h : r.2.1 = 0
    · exact Or.inl h
    · exact Or.inr (hl.fact h).inn.kind
  refine ⟨hkind, fun h => ?_, hone, by omega, fun h => hl.budget h (by rw [h0]; omega), hl.inv.most, hl.inv, by omega, fun h => ?_⟩
  · have h1 := hl.unknown h
    have h2 := hl.budget h1.1 (by rw [h0]; exact Nat.zero_le _)
    exact ⟨h1.1, Nat.le_antisymm h2 h1.2⟩
  · have hf := hl.fact h
    have hlits : r.1.lits r.2 = (0, 0) := by
      apply L_ext
      intro s v
      rw [L_zero]
      cases hh : L (r.1.lits r.2) s v with
      | false => rfl
      | true => have := hf.on s v hh; rw [L_zero] at this; cases this
    have hk : r.2.1 = kd (r.2.1 == 2) := by
      rcases hf.inn.kind with e | e <;> rw [e] <;> rfl
    have hpok : POk q (kd (r.2.1 == 2)) (r.1.proof r.2.1) := by
      have := hl.inv.pok hf.inn.kind
      rw [← hk]; exact this
    obtain ⟨s1, s2, s3, s4, s, s5, s6⟩ := short_ok hpok hf.inn.lo hf.inn.hi hf.inn.free
    have hplen : (r.1.proof r.2.1).length ≤ 9000 := by
      have : (r.1.proof r.2.1).length ≤ sizeS r.1 := by
        unfold SS.proof sizeS
        split <;> omega
      omega
    refine ⟨hf.inn.lo, hf.inn.hi, proves_text hq hF hO s1 s2 (by omega) ⟨s, s5, s6.trans hlits⟩, s4⟩
end Go.Proofs.YtgipjjhkhfihpaaDoor
