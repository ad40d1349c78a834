import Derived.Test.YtgipjjhkhfihpaaGreatDoorAD
import Derived.Test.YtgipjjhkhfihpaaGreatDoorAM
import Derived.Test.YtgipjjhkhfihpaaGreatDoorAJ
import Derived.Test.YtgipjjhkhfihpaaGreatDoorAH
namespace Go.Proofs.YtgipjjhkhfihpaaGreatDoor
open Go.RowKit

/-! ### Literals of a set -/
def L (c : Nat × Nat) (s : Bool) (v : Nat) : Bool := if s then c.1.testBit v else c.2.testBit v
def litI (v : Nat) (s : Bool) : Int := if s then (v : Int) else -(v : Int)
theorem L_ext {a b : Nat × Nat} (h : ∀ s v, L a s v = L b s v) : a = b := pair_ext (fun v => h true v) (fun v => h false v)
theorem L_zero (s : Bool) (v : Nat) : L (0, 0) s v = false := by cases s <;> simp [L]
theorem L_minus (a b : Nat × Nat) (s : Bool) (v : Nat) : L (minus a b) s v = (L a s v && !L b s v) := by
  cases s <;> simp [L, minus, testBit_less]
theorem L_swap (a : Nat × Nat) (s : Bool) (v : Nat) : L (swapL a) s v = L a (!s) v := by cases s <;> rfl
theorem L_left (c vals : Nat × Nat) (s : Bool) (v : Nat) : L (leftOf c vals) s v = (L c s v && !L vals (!s) v) := by rw [leftOf, L_minus, L_swap]
theorem litI_neg (v : Nat) (s : Bool) : -(litI v s) = litI v (!s) := by cases s <;> simp [litI]
theorem litI_abs (v : Nat) (s : Bool) : (litI v s).natAbs = v := by cases s <;> simp [litI]
theorem litI_inj {v u : Nat} {s t : Bool} (hv : 1 ≤ v) (hu : 1 ≤ u) (h : litI v s = litI u t) : v = u ∧ s = t := by
  cases s <;> cases t <;> simp [litI] at h
  · exact ⟨by omega, rfl⟩
  · omega
  · omega
  · exact ⟨by omega, rfl⟩
theorem L_with (c : Nat × Nat) (v : Nat) (s : Bool) (h1 : 1 ≤ v) (h8 : v ≤ 8) (t : Bool) (u : Nat) : L (withLit c (litI v s)) t u = (L c t u || (t == s && decide (u = v))) := by
  have hb := bitOf_nat v h1 h8
  cases s with
  | true =>
    have e : withLit c (litI v true) = (c.1 ||| 2 ^ v, c.2) := by
      have e0 : litI v true = (v : Int) := rfl
      rw [e0]; unfold withLit; rw [if_neg (by omega), hb]
    rw [e]
    cases t with
    | true => simp only [L, if_true]; rw [bit_or]; simp [eq_comm]
    | false => simp [L]
  | false =>
    have e : withLit c (litI v false) = (c.1, c.2 ||| 2 ^ v) := by
      have e0 : litI v false = -(v : Int) := rfl
      rw [e0]; unfold withLit; rw [if_pos (by omega), Int.neg_neg, hb]
    rw [e]
    cases t with
    | true => simp [L]
    | false => simp only [L, Bool.false_eq_true, if_false]; rw [bit_or]; simp [eq_comm]
theorem hasLit_L (c : Nat × Nat) (v : Nat) (s : Bool) (h1 : 1 ≤ v) (h8 : v ≤ 8) : hasLit c (litI v s) = L c s v := by
  cases s with
  | true => exact hasLit_pos c v h1 h8
  | false => exact hasLit_neg c v h1 h8
theorem hasVar_L (c : Nat × Nat) (v : Nat) (h1 : 1 ≤ v) (h8 : v ≤ 8) : hasVarB c v = (L c true v || L c false v) := by
  rw [has_eq c v h1 h8]; unfold hasB L; rw [Nat.testBit_or]; rfl
theorem L_without (c : Nat × Nat) (v : Nat) (h1 : 1 ≤ v) (h8 : v ≤ 8) (s : Bool) (u : Nat) : L (without c v) s u = (L c s u && !decide (u = v)) := by
  unfold without
  rw [bitOf_nat v h1 h8]
  cases s <;> simp [L, testBit_less, Nat.testBit_two_pow, eq_comm]
theorem L_without2 (a b : Nat × Nat) (v : Nat) (h1 : 1 ≤ v) (h8 : v ≤ 8) (s : Bool) (u : Nat) : L (without2 a b v) s u = ((L a s u || L b s u) && !decide (u = v)) := by
  rw [without2, L_without _ _ h1 h8]
  cases s <;> simp [L]
theorem bits_zero {a : Nat} : a = 0 ↔ ∀ v, a.testBit v = false :=
  ⟨fun h v => by rw [h]; simp, fun h => Nat.eq_of_testBit_eq (fun v => by rw [h v]; simp)⟩
theorem meets_iff (a b : Nat × Nat) : meetsB a b = true ↔ ∃ s v, L a s v = true ∧ L b s v = true := by
  unfold meetsB
  rw [bne_iff_ne]
  constructor
  · intro h
    obtain ⟨v, hv⟩ := some_bit h
    rw [Nat.testBit_or, Nat.testBit_and, Nat.testBit_and, Bool.or_eq_true, Bool.and_eq_true, Bool.and_eq_true] at hv
    rcases hv with hv | hv
    · exact ⟨true, v, hv⟩
    · exact ⟨false, v, hv⟩
  · rintro ⟨s, v, h1, h2⟩ e
    have := bits_zero.1 e v
    rw [Nat.testBit_or, Nat.testBit_and, Nat.testBit_and] at this
    cases s
    · simp only [L, Bool.false_eq_true, if_false] at h1 h2; rw [h1, h2] at this; simp at this
    · simp only [L, if_true] at h1 h2; rw [h1, h2] at this; simp at this
theorem clash_iff (a : Nat × Nat) : clashB a = true ↔ ∃ v, L a true v = true ∧ L a false v = true := by
  unfold clashB
  rw [bne_iff_ne]
  constructor
  · intro h
    obtain ⟨v, hv⟩ := some_bit h
    rw [Nat.testBit_and, Bool.and_eq_true] at hv
    exact ⟨v, hv⟩
  · rintro ⟨v, h1, h2⟩ e
    have := bits_zero.1 e v
    rw [Nat.testBit_and] at this
    simp only [L, Bool.false_eq_true, if_false, if_true] at h1 h2
    rw [h1, h2] at this; simp at this
theorem empty_iff (a : Nat × Nat) : emptyB a = true ↔ ∀ s v, L a s v = false := by
  unfold emptyB
  rw [beq_iff_eq, bits_zero]
  constructor
  · intro h s v
    have := h v
    rw [Nat.testBit_or, Bool.or_eq_false_iff] at this
    cases s
    · exact this.2
    · exact this.1
  · intro h v
    rw [Nat.testBit_or, Bool.or_eq_false_iff]
    exact ⟨h true v, h false v⟩
/-- No variable's literals are both there. -/
def Free (c : Nat × Nat) : Prop := ∀ v, L c true v = true → L c false v = true → False
theorem free_iff (c : Nat × Nat) : clashB c = false ↔ Free c := by
  rw [← Bool.not_eq_true, clash_iff]
  exact ⟨fun h v a b => h ⟨v, a, b⟩, fun h ⟨v, a, b⟩ => h v a b⟩
theorem Free.not {c : Nat × Nat} (h : Free c) {s : Bool} {v : Nat} (h1 : L c s v = true) : L c (!s) v = false := by
  cases h2 : L c (!s) v with
  | false => rfl
  | true =>
    cases s
    · exact (h v h2 h1).elim
    · exact (h v h1 h2).elim
theorem Free.sub {c d : Nat × Nat} (h : Free c) (hs : ∀ s v, L d s v = true → L c s v = true) : Free d := fun v a b => h v (hs _ _ a) (hs _ _ b)
/-- Of literals that are on a path, or turned on it. -/
theorem Free.flip {c d : Nat × Nat} (h : Free c) (k : Bool) (hs : ∀ s v, L d s v = true → L c (s == k) v = true) : Free d := fun v a b => by
  have h1 := hs _ _ a
  have h2 := hs _ _ b
  cases k
  · exact h v h2 h1
  · exact h v h1 h2
/-! ### The list of literals -/
theorem listFrom_mem (c : Nat × Nat) (x : Int) : ∀ (k v : Nat), 1 ≤ v → v + k ≤ 9 → (x ∈ listFrom c k v ↔ ∃ u s, v ≤ u ∧ u < v + k ∧ x = litI u s ∧ L c s u = true) := by
  intro k
  induction k with
  | zero => intro v _ _; simp [listFrom]; intro u h1 h2; omega
  | succ k ih =>
    intro v h1 h9
    rw [listFrom, List.mem_append, List.mem_append, ih (v + 1) (by omega) (by omega)]
    have hp : hasLit c (v : Int) = L c true v := hasLit_L c v true h1 (by omega)
    have hn : hasLit c (-(v : Int)) = L c false v := hasLit_L c v false h1 (by omega)
    rw [hp, hn]
    constructor
    · rintro (h | h | ⟨u, s, h2, h3, h4, h5⟩)
      · split at h
        · next hh => simp at h; exact ⟨v, true, Nat.le_refl _, by omega, by rw [h]; rfl, hh⟩
        · simp at h
      · split at h
        · next hh => simp at h; exact ⟨v, false, Nat.le_refl _, by omega, by rw [h]; rfl, hh⟩
        · simp at h
      · exact ⟨u, s, by omega, by omega, h4, h5⟩
    · rintro ⟨u, s, h2, h3, h4, h5⟩
      by_cases e : u = v
      · subst e
        cases s with
        | true => left; rw [if_pos h5, h4]; simp [litI]
        | false => right; left; rw [if_pos h5, h4]; simp [litI]
      · right; right; exact ⟨u, s, by omega, by omega, h4, h5⟩
theorem listOf_mem (c : Nat × Nat) (x : Int) : x ∈ listOf c ↔ ∃ u s, 1 ≤ u ∧ u ≤ 8 ∧ x = litI u s ∧ L c s u = true := by
  rw [listOf, listFrom_mem c x 8 1 (by omega) (by omega)]
  constructor
  · rintro ⟨u, s, h1, h2, h3⟩; exact ⟨u, s, h1, by omega, h3⟩
  · rintro ⟨u, s, h1, h2, h3⟩; exact ⟨u, s, h1, by omega, h3⟩
theorem L_le8 {c : Nat × Nat} (h : Bd c) {s : Bool} {v : Nat} (hl : L c s v = true) : v ≤ 8 := by
  rcases Nat.lt_or_ge 8 v with h9 | h9
  · exfalso
    have h2 : 512 ≤ 2 ^ v := by
      have : 2 ^ 9 ≤ 2 ^ v := Nat.pow_le_pow_right (by decide) h9
      simpa using this
    cases s
    · have := Nat.testBit_lt_two_pow (x := c.2) (i := v) (by have := h.2; omega)
      simp only [L, Bool.false_eq_true, if_false] at hl; rw [this] at hl; cases hl
    · have := Nat.testBit_lt_two_pow (x := c.1) (i := v) (by have := h.1; omega)
      simp only [L, if_true] at hl; rw [this] at hl; cases hl
  · exact h9
/-- One literal alone. -/
theorem list_one {c : Nat × Nat} (h : (listOf c).length = 1) : ∃ u s, 1 ≤ u ∧ u ≤ 8 ∧ (listOf c).headD 0 = litI u s ∧ L c s u = true ∧ ∀ t v, 1 ≤ v → v ≤ 8 → L c t v = true → v = u ∧ t = s := by
  obtain ⟨x, hx⟩ := List.length_eq_one_iff.1 h
  have hm := (listOf_mem c x).1 (by rw [hx]; simp)
  obtain ⟨u, s, h1, h2, h3, h4⟩ := hm
  refine ⟨u, s, h1, h2, by rw [hx]; exact h3, h4, fun t v h5 h6 h7 => ?_⟩
  have hy := (listOf_mem c (litI v t)).2 ⟨v, t, h5, h6, rfl, h7⟩
  rw [hx, h3] at hy
  simp at hy
  exact litI_inj h5 h1 hy
end Go.Proofs.YtgipjjhkhfihpaaGreatDoor

namespace Go.Proofs.YtgipjjhkhfihpaaGreatDoor
open Go.RowKit

/-! ### findUnits -/
theorem own_ge {w : World} {base : Nat} {e : TypeId} {size : Nat} {v : Value} {n : Nat} {xs : List Value} (h : w.ownsRow base e size v n xs) {k : Nat} (hk : v.ownBlock = some k) : base ≤ k := by
  obtain ⟨h1, h2⟩ := h
  rcases h2 with h2 | ⟨g, cap, cur, rfl, hg, hh, h3⟩
  · obtain ⟨rfl, _⟩ := h2
    simp [Value.ownBlock] at hk
  · simp [Value.ownBlock] at hk
    omega
theorem blk_other {w : World} {b c : Nat} {o : Obj} (h : w.heap[b]? = some o) (hne : c ≠ b) (k : Nat) (u : Value) : (w.setCell ⟨c, k, none⟩ u).heap[b]? = some o := by
  simp [World.setCell, Array.getElem?_modify, h, hne]
def unitCells (l : List (Int × Nat)) : List Value := l.flatMap (fun u => [Value.int .i64 u.1, Value.int .i64 (u.2 : Int)])
theorem unitCells_snoc (l : List (Int × Nat)) (u : Int × Nat) : unitCells (l ++ [u]) = unitCells l ++ [.int .i64 u.1, .int .i64 (u.2 : Int)] := by simp [unitCells]
theorem unitCells_at (l : List (Int × Nat)) (k : Nat) (h : k < l.length) : (unitCells l)[k * 2]? = some (.int .i64 l[k].1) ∧ (unitCells l)[k * 2 + 1]? = some (.int .i64 (l[k].2 : Int)) := by
  induction l generalizing k with
  | nil => simp at h
  | cons a l ih =>
    cases k with
    | zero => simp [unitCells]
    | succ k =>
      have := ih k (by simpa using h)
      simp only [unitCells, List.flatMap_cons] at this ⊢
      rw [show (k + 1) * 2 = k * 2 + 2 from by omega, show k * 2 + 2 + 1 = (k * 2 + 1) + 2 from by omega, List.getElem?_append_right (by simp), List.getElem?_append_right (by simp)]
      simpa using this
theorem infoUnit : (Tryz.prog.info? 177).map (fun i => (i.zero, i.size, i.bytes)) = some (some (.agg #[.int .i64 0, .int .i64 0]), 2, 16) := by kernel_rfl
theorem SAt.only {w w' : World} {b : Nat} {C : SC} {S : SS} {V : SV} (h : SAt w b C S V) {k : Nat} (ho : Only (· = k) w w') (hf : Far b V k) : SAt w' b C S V :=
  ⟨(ho.block b (blk_lt h.fb) (fun e => hf.1 e.symm)).trans h.fb, own_keep h.oV ho (fun j hj e => hf.2.1 (by rw [hj, e])), own_keep h.oC ho (fun j hj e => hf.2.2.1 (by rw [hj, e])), own_keep h.oR ho (fun j hj e => hf.2.2.2.1 (by rw [hj, e])), own_keep h.oA ho (fun j hj e => hf.2.2.2.2.1 (by rw [hj, e])), h.oK.keep ho (fun j hj e => hf.2.2.2.2.2 (by rw [hj, e])), h.ap⟩
theorem listFrom_bd (c : Nat × Nat) : ∀ k v, 1 ≤ v → v + k ≤ 9 → ∀ x ∈ listFrom c k v, -8 ≤ x ∧ x ≤ 8 := by
  intro k
  induction k with
  | zero => intro v _ _ x hx; simp [listFrom] at hx
  | succ k ih =>
    intro v h1 h9 x hx
    rw [listFrom, List.mem_append, List.mem_append] at hx
    rcases hx with hx | hx | hx
    · split at hx
      · simp at hx; subst hx; omega
      · simp at hx
    · split at hx
      · simp at hx; subst hx; omega
      · simp at hx
    · exact ih (v + 1) (by omega) (by omega) x hx
theorem unitOf_bd (ref : List Stp) (uni : Nat × Nat) (cs : List Nat) (vals : Nat × Nat) : -8 ≤ (unitOf ref uni cs vals).1 ∧ (unitOf ref uni cs vals).1 ≤ 8 := by
  rw [unitOf_sel]
  cases cs.find? (fun s => isUnit uni vals (litsAt ref s)) with
  | none => exact ⟨show (-8 : Int) ≤ 0 by decide, show (0 : Int) ≤ 8 by decide⟩
  | some s =>
    show -8 ≤ (listOf (leftOf (litsAt ref s) vals)).headD 0 ∧ (listOf (leftOf (litsAt ref s) vals)).headD 0 ≤ 8
    cases h : listOf (leftOf (litsAt ref s) vals) with
    | nil => exact ⟨by decide, by decide⟩
    | cons x l => exact listFrom_bd (leftOf (litsAt ref s) vals) 8 1 (by decide) (by decide) x (by show x ∈ listOf (leftOf (litsAt ref s) vals); rw [h]; simp)
theorem unitsGo_succ (ref : List Stp) (uni : Nat × Nat) (cs : List Nat) (m : Nat) (vals : Nat × Nat) (trail : List (Int × Nat)) : unitsGo ref uni cs (m + 1) vals trail = if confOf ref uni cs vals ≠ 0 then ⟨vals, trail, confOf ref uni cs vals⟩ else
    if (unitOf ref uni cs vals).2 = 0 then ⟨vals, trail, 0⟩ else unitsGo ref uni cs m (withLit vals (unitOf ref uni cs vals).1) (trail ++ [unitOf ref uni cs vals]) := rfl
def UnitsPost (C : SC) (S : SS) (path : Nat × Nat) (w : World) (e : Ending) (w' : World) : Prop :=
  ∃ vT, e = .returned (.agg #[.int .i64 ((unitsOf C S path).vals.1 : Int), .int .i64 ((unitsOf C S path).vals.2 : Int), vT, .int .i64 ((unitsOf C S path).conf : Int)]) ∧ w'.ownsRow w.heap.size 177 2 vT (unitsOf C S path).trail.length (unitCells (unitsOf C S path).trail) ∧ Below w.heap.size w w'
set_option maxRecDepth 100000 in
set_option maxHeartbeats 6400000 in
theorem findUnits_any (hFU : FindUnitSpec) (b : Nat) (C : SC) (S : SS) (V : SV) (path : Nat × Nat) (w : World) (hS : SAt w b C S V) (hB : SBd C S) (hp : path.1 < 512 ∧ path.2 < 512) :
    Calls Tryz.prog 89 #[.pointer (some ⟨b, 0, none⟩), SetV path] w fun e w' => UnitsPost C S path w e w' := by
  obtain ⟨p1, p2⟩ := path
  have hbw := blk_lt hS.fb
  have hvl := hB.qb.vl
  obtain ⟨aV, cV, hVf⟩ := own_form hS.oV
  obtain ⟨i1, hi1, hz10, hz11, hz12⟩ := info_parts infoUnit
  go_enter Tryz.func89, Tryz.ntmps89
  go_wp2_with fail
  generalize hw0 : (((w.alloc (.cells #[.int .i64 (p1 : Int), .int .i64 (p2 : Int)] 74)).alloc (.cells #[.int .i64 0, .int .i64 0, .slice none 0 0, .int .i64 0] 161)).alloc (.cells #[.int .i64 (p1 : Int), .int .i64 (p2 : Int), .slice none 0 0, .int .i64 0] 161)) = u1
  have hBw : Below w.heap.size w u1 := by rw [← hw0]; exact (((Below.refl _ _).alloc (Nat.le_refl _) _).alloc (by simp; try omega) _).alloc (by simp; try omega) _
  have hpa : u1.heap[w.heap.size]? = some (.cells #[.int .i64 (p1 : Int), .int .i64 (p2 : Int)] 74 (0, 0)) := by rw [← hw0, heap_alloc_old _ _ (by simp; try omega), heap_alloc_old _ _ (by simp; try omega)]; exact alloc_new_at (by simp)
  have hrs : u1.heap[w.heap.size + 1]? = some (.cells #[.int .i64 0, .int .i64 0, .slice none 0 0, .int .i64 0] 161 (0, 0)) := by rw [← hw0, heap_alloc_old _ _ (by simp; try omega)]; exact alloc_new_at (by simp)
  have huu : u1.heap[w.heap.size + 2]? = some (.cells #[.int .i64 (p1 : Int), .int .i64 (p2 : Int), .slice none 0 0, .int .i64 0] 161 (0, 0)) := by rw [← hw0]; exact alloc_new_at (by simp)
  clear hw0
  have cpa0 : u1.cell? ⟨w.heap.size, 0, none⟩ = some (.int .i64 (p1 : Int)) := by rw [blk_cell hpa]; rfl
  have cpa1 : u1.cell? ⟨w.heap.size, 1, none⟩ = some (.int .i64 (p2 : Int)) := by rw [blk_cell hpa]; rfl
  have lpa := blk_lt hpa
  have crs0 : u1.cell? ⟨w.heap.size + 1, 0, none⟩ = some (.int .i64 0) := by rw [blk_cell hrs]; rfl
  have crs1 : u1.cell? ⟨w.heap.size + 1, 1, none⟩ = some (.int .i64 0) := by rw [blk_cell hrs]; rfl
  have crs2 : u1.cell? ⟨w.heap.size + 1, 2, none⟩ = some (.slice none 0 0) := by rw [blk_cell hrs]; rfl
  have crs3 : u1.cell? ⟨w.heap.size + 1, 3, none⟩ = some (.int .i64 0) := by rw [blk_cell hrs]; rfl
  have lrs := blk_lt hrs
  have cuu0 : u1.cell? ⟨w.heap.size + 2, 0, none⟩ = some (.int .i64 (p1 : Int)) := by rw [blk_cell huu]; rfl
  have cuu1 : u1.cell? ⟨w.heap.size + 2, 1, none⟩ = some (.int .i64 (p2 : Int)) := by rw [blk_cell huu]; rfl
  have cuu2 : u1.cell? ⟨w.heap.size + 2, 2, none⟩ = some (.slice none 0 0) := by rw [blk_cell huu]; rfl
  have cuu3 : u1.cell? ⟨w.heap.size + 2, 3, none⟩ = some (.int .i64 0) := by rw [blk_cell huu]; rfl
  have luu := blk_lt huu
  refine (clauses_any b C S V _ (hS.later hBw) hB).mono ?_
  rintro e u2 ⟨vX, rfl, hX, b2⟩
  replace hBw := hBw.trans (b2.mono hBw.size)
  replace hpa := (b2.block _ (blk_lt hpa)).trans hpa
  replace cpa0 : u2.cell? ⟨w.heap.size, 0, none⟩ = some (.int .i64 (p1 : Int)) := by rw [blk_cell hpa]; rfl
  replace cpa1 : u2.cell? ⟨w.heap.size, 1, none⟩ = some (.int .i64 (p2 : Int)) := by rw [blk_cell hpa]; rfl
  replace lpa := blk_lt hpa
  replace hrs := (b2.block _ (blk_lt hrs)).trans hrs
  replace crs0 : u2.cell? ⟨w.heap.size + 1, 0, none⟩ = some (.int .i64 0) := by rw [blk_cell hrs]; rfl
  replace crs1 : u2.cell? ⟨w.heap.size + 1, 1, none⟩ = some (.int .i64 0) := by rw [blk_cell hrs]; rfl
  replace crs2 : u2.cell? ⟨w.heap.size + 1, 2, none⟩ = some (.slice none 0 0) := by rw [blk_cell hrs]; rfl
  replace crs3 : u2.cell? ⟨w.heap.size + 1, 3, none⟩ = some (.int .i64 0) := by rw [blk_cell hrs]; rfl
  replace lrs := blk_lt hrs
  replace huu := (b2.block _ (blk_lt huu)).trans huu
  replace cuu0 : u2.cell? ⟨w.heap.size + 2, 0, none⟩ = some (.int .i64 (p1 : Int)) := by rw [blk_cell huu]; rfl
  replace cuu1 : u2.cell? ⟨w.heap.size + 2, 1, none⟩ = some (.int .i64 (p2 : Int)) := by rw [blk_cell huu]; rfl
  replace cuu2 : u2.cell? ⟨w.heap.size + 2, 2, none⟩ = some (.slice none 0 0) := by rw [blk_cell huu]; rfl
  replace cuu3 : u2.cell? ⟨w.heap.size + 2, 3, none⟩ = some (.int .i64 0) := by rw [blk_cell huu]; rfl
  replace luu := blk_lt huu
  have hcl8 : (clausesOf C.q S.kept).length ≤ 88 := by
    unfold clausesOf
    have h1 := hB.qb.cl
    have h2 := hB.kept
    have h3 : (S.kept.filter (fun f => f.1 == 1)).length ≤ S.kept.length := List.length_filter_le _ _
    simp; omega
  have HU : Hid (unitsOf C S (p1, p2) = unitsGo S.ref C.uni (clausesOf C.q S.kept) (C.q.vars.length + 1) (p1, p2) []) := hide rfl
  generalize clausesOf C.q S.kept = cs at *
  obtain ⟨aX, cX, rfl⟩ := own_form hX
  have hS1 := hS.later hBw
  have nuu : Far b V (w.heap.size + 2) := hS.fresh (by omega)
  clear cpa0 cpa1 lpa hpa cuu0 cuu1 cuu2 cuu3 luu crs0 crs1 crs2 crs3 lrs
  have lrs := blk_lt hrs
  have HCUR : Hid (∀ wx, Only (· = w.heap.size + 2) u2 wx → SAt wx b C S V ∧ wx.ownsRow u1.heap.size 3 1 (.slice aX cs.length cX) cs.length (ints cs) ∧ wx.heap[w.heap.size + 1]? = some (.cells #[.int .i64 0, .int .i64 0, .slice none 0 0, .int .i64 0] 161 (0, 0)) ∧ Below w.heap.size w wx) := hide (fun wx ho => ⟨hS1.only ho nuu, own_keep hX ho (fun j hj e => by
      obtain ⟨c, hc⟩ := own_bk hX j hj
      rw [e] at hc
      exact absurd (blk_type hc huu) (by decide)), (ho.block _ lrs (by omega)).trans hrs, hBw.trans (ho.below hBw.size (fun k hk e => by omega))⟩)
  have huu0 := huu
  clear hS hS1 hX hrs hBw huu b2
  go_wp2_with fail
  go_loopg [] (C.q.vars.length + 1) (fun m wx => ∃ (vals : Nat × Nat) (trail : List (Int × Nat)) (vT : Value), trail.length + m = C.q.vars.length + 1 ∧ (vals.1 < 512 ∧ vals.2 < 512) ∧ unitsOf C S (p1, p2) = unitsGo S.ref C.uni cs m vals trail ∧ Only (· = w.heap.size + 2) u2 wx ∧ wx.heap[w.heap.size + 2]? = some (.cells #[.int .i64 (vals.1 : Int), .int .i64 (vals.2 : Int), vT, .int .i64 0] 161 (0, 0)) ∧ wx.ownsRow u2.heap.size 177 2 vT trail.length (unitCells trail))
  case atStart => exact ⟨(p1, p2), [], _, by simp, hp, unhide HU, Only.refl _ _, huu0, World.ownsRow_nil _ _ _ _⟩
  case round =>
    obtain ⟨⟨v1, v2⟩, trail, vT, htm, hv9, hun, ho, hub, hoT⟩ := hrel
    dsimp only at hv9
    have HUN := hide hun
    clear hun huu0
    obtain ⟨aT, cT, rfl⟩ := own_form hoT
    obtain ⟨hSr, hXr, hrsr, hBr⟩ := unhide HCUR wr ho
    have q0 : wr.cell? ⟨b, 0, none⟩ = some (.slice aV C.q.vars.length cV) := by rw [blk_cell hSr.fb]; exact congrArg some hVf
    have cu2 : wr.cell? ⟨w.heap.size + 1 + 1, 2, none⟩ = some (.slice aT trail.length cT) := by rw [blk_cell hub]; rfl
    have lbr := blk_lt hSr.fb
    have lub := blk_lt hub
    have hlt9 : trail.length ≤ 9 := by omega
    by_cases hlt : trail.length ≤ C.q.vars.length
    · obtain ⟨m, rfl⟩ : ∃ m, gk = m + 1 := ⟨gk - 1, by omega⟩
      have HGO := hide (unitsGo_succ S.ref C.uni cs m (v1, v2) trail)
      have hd1 : decide ((trail.length : Int) ≤ (C.q.vars.length : Int)) = true := decide_eq_true (by omega)
      have hd2 : decide (trail.length ≤ C.q.vars.length) = true := decide_eq_true hlt
      go_wp2_with fail
      go_quiet (fail)
      have b0 : Below wr.heap.size wr (wr.drewN nq) := below_drewN (Below.refl _ _) nq
      have ho3 := ho.trans (Only.of_below (T := (· = w.heap.size + 2)) b0)
      have hub3 := (b0.block _ lub).trans hub
      have hoT3 := own_below hoT b0
      clear hSr hXr hrsr hBr q0 cu2 lbr lub ho hub hoT
      generalize wr.drewN nq = w3 at *
      obtain ⟨hS3, hX3, hrs3, hB3⟩ := unhide HCUR w3 ho3
      have c30 : w3.cell? ⟨w.heap.size + 1 + 1, 0, none⟩ = some (.int .i64 (v1 : Int)) := by rw [blk_cell hub3]; rfl
      have c31 : w3.cell? ⟨w.heap.size + 1 + 1, 1, none⟩ = some (.int .i64 (v2 : Int)) := by rw [blk_cell hub3]; rfl
      have c33 : w3.cell? ⟨w.heap.size + 1 + 1, 3, none⟩ = some (.int .i64 0) := by rw [blk_cell hub3]; rfl
      have z33 := blk_free hub3 3
      have lu3 := blk_lt hub3
      go_wp2_with fail
      refine (findConflict_any b C S V cs aX cX _ (v1, v2) w3 hS3 hB hv9 hX3 (by omega)).mono ?_
      rintro e w4 ⟨rfl, hb4⟩
      have ho4 := ho3.trans (Only.of_below (T := (· = w.heap.size + 2)) hb4)
      have hub4 := (hb4.block _ lu3).trans hub3
      have hoT4 := own_below hoT3 hb4
      clear hS3 hX3 hrs3 hB3 c30 c31 c33 z33 lu3 ho3 hub3 hoT3
      have c43 : w4.cell? ⟨w.heap.size + 1 + 1, 3, none⟩ = some (.int .i64 0) := by rw [blk_cell hub4]; rfl
      have z43 := blk_free hub4 3
      have lu4 := blk_lt hub4
      have hlo : w.heap.size ≤ u2.heap.size := by omega
      have hnT : (Value.slice aT trail.length cT).ownBlock ≠ some (w.heap.size + 2) := own_type_ne hoT4 hub4 (by decide)
      generalize hcf : confOf S.ref C.uni cs (v1, v2) = cf at *
      have HCF := hide hcf
      clear hcf
      have ho5 : Only (· = w.heap.size + 2) u2 (w4.setCell ⟨w.heap.size + 2, 3, none⟩ (.int .i64 (cf : Int))) := ho4.setAt 3 _
      have hub5 : (w4.setCell ⟨w.heap.size + 2, 3, none⟩ (.int .i64 (cf : Int))).heap[w.heap.size + 2]? = some (.cells #[.int .i64 (v1 : Int), .int .i64 (v2 : Int), .slice aT trail.length cT, .int .i64 (cf : Int)] 161 (0, 0)) := blk_set hub4 3 _
      have hoT5 := own_set_ne hoT4 (p := ⟨w.heap.size + 2, 3, none⟩) hnT (.int .i64 (cf : Int))
      by_cases hc0 : cf = 0
      · subst hc0
        have HGZ : Hid (unitsOf C S (p1, p2) = if (unitOf S.ref C.uni cs (v1, v2)).2 = 0 then ⟨(v1, v2), trail, 0⟩ else unitsGo S.ref C.uni cs m (withLit (v1, v2) (unitOf S.ref C.uni cs (v1, v2)).1) (trail ++ [unitOf S.ref C.uni cs (v1, v2)])) := hide (by rw [unhide HUN, unhide HGO, if_neg (fun h => h rfl)])
        have c40 : w4.cell? ⟨w.heap.size + 1 + 1, 0, none⟩ = some (.int .i64 (v1 : Int)) := by rw [blk_cell hub4]; rfl
        have c41 : w4.cell? ⟨w.heap.size + 1 + 1, 1, none⟩ = some (.int .i64 (v2 : Int)) := by rw [blk_cell hub4]; rfl
        clear ho5 hub5 hoT5
        have ho5 : Only (· = w.heap.size + 2) u2 (w4.setCell ⟨w.heap.size + 1 + 1, 3, none⟩ (.int .i64 0)) := ho4.setAt 3 _
        have hub5 : (w4.setCell ⟨w.heap.size + 1 + 1, 3, none⟩ (.int .i64 0)).heap[w.heap.size + 2]? = some (.cells #[.int .i64 (v1 : Int), .int .i64 (v2 : Int), .slice aT trail.length cT, .int .i64 0] 161 (0, 0)) := blk_set hub4 3 _
        have hoT5 := own_set_ne hoT4 (p := ⟨w.heap.size + 1 + 1, 3, none⟩) hnT (.int .i64 0)
        clear HGO HUN HCF hub4 hoT4 ho4
        go_wp2_with fail
        clear c40 c41 c43 z43 lu4
        obtain ⟨hS5, hX5, hrs5, hB5⟩ := unhide HCUR _ ho5
        have lu5 := blk_lt hub5
        have hbd := unitOf_bd S.ref C.uni cs (v1, v2)
        have HFU : Hid (∀ w5, SAt w5 b C S V → w5.ownsRow u1.heap.size 3 1 (.slice aX cs.length cX) cs.length (ints cs) → Calls Tryz.prog 111 #[.pointer (some ⟨b, 0, none⟩), .slice aX cs.length cX, SetV (v1, v2)] w5 fun e w' => e = .returned (UnitV (unitOf S.ref C.uni cs (v1, v2))) ∧ Below w5.heap.size w5 w') := hide (fun w5 h1 h2 => hFU b C S V cs aX cX _ (v1, v2) w5 h1 hB hv9 h2 (by omega))
        generalize unitOf S.ref C.uni cs (v1, v2) = un at *
        obtain ⟨x, n⟩ := un
        dsimp only at hbd HGZ
        generalize w4.setCell ⟨w.heap.size + 1 + 1, 3, none⟩ (.int .i64 0) = w5 at *
        refine (unhide HFU w5 hS5 hX5).mono ?_
        rintro e w6 ⟨rfl, hb6⟩
        have ho6 := ho5.trans (Only.of_below (T := (· = w.heap.size + 2)) hb6)
        have hub6 := (hb6.block _ lu5).trans hub5
        have hoT6 := own_below hoT5 hb6
        unfold UnitV
        dsimp only
        clear hS5 hX5 hrs5 hB5 HFU ho5 hub5 hoT5 lu5
        have hA : Below w6.heap.size w6 (w6.alloc (.cells #[.int .i64 x, .int .i64 (n : Int)] 177)) := (Below.refl _ _).alloc (Nat.le_refl _) _
        have hnx := heap_alloc_new w6 (.cells #[.int .i64 x, .int .i64 (n : Int)] 177)
        have ho7 := ho6.trans (Only.of_below (T := (· = w.heap.size + 2)) hA)
        have hubz := (hA.block _ (blk_lt hub6)).trans hub6
        have hoTz := own_below hoT6 hA
        obtain ⟨hSz, hXz, hrsz, hBz⟩ := unhide HCUR _ ho7
        by_cases hn0 : n = 0
        · have hq0 : ((n : Int) == 0) = true := by rw [beq_iff_eq]; omega
          have HF : Hid (unitsOf C S (p1, p2) = ⟨(v1, v2), trail, 0⟩) := hide (by rw [unhide HGZ, if_pos hn0])
          clear hub6 hoT6 ho6 hn0
          have r0 : (w6.alloc (.cells #[.int .i64 x, .int .i64 (n : Int)] 177)).cell? ⟨w.heap.size + 1, 0, none⟩ = some (.int .i64 0) := by rw [blk_cell hrsz]; rfl
          have r1 : (w6.alloc (.cells #[.int .i64 x, .int .i64 (n : Int)] 177)).cell? ⟨w.heap.size + 1, 1, none⟩ = some (.int .i64 0) := by rw [blk_cell hrsz]; rfl
          have r2 : (w6.alloc (.cells #[.int .i64 x, .int .i64 (n : Int)] 177)).cell? ⟨w.heap.size + 1, 2, none⟩ = some (.slice none 0 0) := by rw [blk_cell hrsz]; rfl
          have r3 : (w6.alloc (.cells #[.int .i64 x, .int .i64 (n : Int)] 177)).cell? ⟨w.heap.size + 1, 3, none⟩ = some (.int .i64 0) := by rw [blk_cell hrsz]; rfl
          have y0 := blk_free hrsz 0
          have y1 := blk_free hrsz 1
          have y2 := blk_free hrsz 2
          have y3 := blk_free hrsz 3
          have lrz := blk_lt hrsz
          have d0 : (w6.alloc (.cells #[.int .i64 x, .int .i64 (n : Int)] 177)).cell? ⟨w.heap.size + 1 + 1, 0, none⟩ = some (.int .i64 (v1 : Int)) := by rw [blk_cell hubz]; rfl
          have d1 : (w6.alloc (.cells #[.int .i64 x, .int .i64 (n : Int)] 177)).cell? ⟨w.heap.size + 1 + 1, 1, none⟩ = some (.int .i64 (v2 : Int)) := by rw [blk_cell hubz]; rfl
          have d2 : (w6.alloc (.cells #[.int .i64 x, .int .i64 (n : Int)] 177)).cell? ⟨w.heap.size + 1 + 1, 2, none⟩ = some (.slice aT trail.length cT) := by rw [blk_cell hubz]; rfl
          have d3 : (w6.alloc (.cells #[.int .i64 x, .int .i64 (n : Int)] 177)).cell? ⟨w.heap.size + 1 + 1, 3, none⟩ = some (.int .i64 0) := by rw [blk_cell hubz]; rfl
          have luz := blk_lt hubz
          have hR := blk_set (blk_set (blk_set (blk_set hrsz 0 (.int .i64 (v1 : Int))) 1 (.int .i64 (v2 : Int))) 2 (.slice aT trail.length cT)) 3 (.int .i64 0)
          have j0 := blk_cell hR 0
          have j1 := blk_cell hR 1
          have j2 := blk_cell hR 2
          have j3 := blk_cell hR 3
          have HOW := hide (own_set_ne (own_set_ne (own_set_ne (own_set_ne hoTz (p := ⟨w.heap.size + 1, 0, none⟩) (own_type_ne hoTz hrsz (by decide)) (.int .i64 (v1 : Int))) (p := ⟨w.heap.size + 1, 1, none⟩) (own_type_ne hoTz hrsz (by decide)) (.int .i64 (v2 : Int))) (p := ⟨w.heap.size + 1, 2, none⟩) (own_type_ne hoTz hrsz (by decide)) (.slice aT trail.length cT)) (p := ⟨w.heap.size + 1, 3, none⟩) (own_type_ne hoTz hrsz (by decide)) (.int .i64 0))
          have HBZ := hide ((((hBz.setCell (p := ⟨w.heap.size + 1, 0, none⟩) (Nat.le_succ _) (.int .i64 (v1 : Int))).setCell (p := ⟨w.heap.size + 1, 1, none⟩) (Nat.le_succ _) (.int .i64 (v2 : Int))).setCell (p := ⟨w.heap.size + 1, 2, none⟩) (Nat.le_succ _) (.slice aT trail.length cT)).setCell (p := ⟨w.heap.size + 1, 3, none⟩) (Nat.le_succ _) (.int .i64 0))
          clear hoTz hSz hXz hBz
          go_wp2_with fail
          refine bodyPost_ret (v := .agg #[.int .i64 (v1 : Int), .int .i64 (v2 : Int), .slice aT trail.length cT, .int .i64 0]) (by simp [results, Tryz.results89, go_sem, j0, j1, j2, j3]) rfl ⟨.slice aT trail.length cT, by rw [unhide HF]; rfl, by rw [unhide HF]; exact own_lo (unhide HOW) hlo, unhide HBZ⟩
        · have HF : Hid (unitsOf C S (p1, p2) = unitsGo S.ref C.uni cs m (withLit (v1, v2) x) (trail ++ [(x, n)])) := hide (by rw [unhide HGZ, if_neg hn0])
          have hq0 : ((n : Int) == 0) = false := by rw [beq_eq_false_iff_ne]; omega
          have c60 : w6.cell? ⟨w.heap.size + 1 + 1, 0, none⟩ = some (.int .i64 (v1 : Int)) := by rw [blk_cell hub6]; rfl
          have c61 : w6.cell? ⟨w.heap.size + 1 + 1, 1, none⟩ = some (.int .i64 (v2 : Int)) := by rw [blk_cell hub6]; rfl
          have lu6 := blk_lt hub6
          go_wp2_with fail
          refine (with_any v1 v2 x _ hv9.1 hv9.2 (by omega) (by omega)).mono ?_
          rintro e w7 ⟨rfl, hb7⟩
          have hlu6 : w.heap.size + 1 + 1 ≠ w6.heap.size := by omega
          have hnB := (hb7.block _ (blk_lt hnx)).trans hnx
          have ho8 := ho7.trans (Only.of_below (T := (· = w.heap.size + 2)) hb7)
          have hub7 := (hb7.block _ (blk_lt hubz)).trans hubz
          have hoT7 := own_below hoTz hb7
          clear c60 c61 lu6 hub6 hoT6 ho6 hSz hXz hrsz hBz hnx ho7 hubz hoTz hA
          have hw9 : (withLit (v1, v2) x).1 < 512 ∧ (withLit (v1, v2) x).2 < 512 := withLit_lt (v1, v2) x hv9.1 hv9.2
          generalize withLit (v1, v2) x = wl at *
          obtain ⟨x1, x2⟩ := wl
          dsimp only at *
          have c70 : w7.cell? ⟨w.heap.size + 1 + 1, 0, none⟩ = some (.int .i64 (v1 : Int)) := by rw [blk_cell hub7]; rfl
          have c71 : w7.cell? ⟨w.heap.size + 1 + 1, 1, none⟩ = some (.int .i64 (v2 : Int)) := by rw [blk_cell hub7]; rfl
          have c72 : w7.cell? ⟨w.heap.size + 1 + 1, 2, none⟩ = some (.slice aT trail.length cT) := by rw [blk_cell hub7]; rfl
          have z70 := blk_free hub7 0
          have z71 := blk_free hub7 1
          have z72 := blk_free hub7 2
          have lu7 := blk_lt hub7
          have hnB8 : ((w7.setCell ⟨w.heap.size + 1 + 1, 0, none⟩ (.int .i64 (x1 : Int))).setCell ⟨w.heap.size + 1 + 1, 1, none⟩ (.int .i64 (x2 : Int))).heap[w6.heap.size]? = some (.cells #[.int .i64 x, .int .i64 (n : Int)] 177 (0, 0)) := blk_other (blk_other hnB hlu6 0 _) hlu6 1 _
          have cn0 := blk_cell hnB8 0
          have cn1 := blk_cell hnB8 1
          clear hlu6
          have hub8 := blk_set (blk_set hub7 0 (.int .i64 (x1 : Int))) 1 (.int .i64 (x2 : Int))
          have hoT8 := own_set_ne (own_set_ne hoT7 (p := ⟨w.heap.size + 1 + 1, 0, none⟩) hnT (.int .i64 (x1 : Int))) (p := ⟨w.heap.size + 1 + 1, 1, none⟩) hnT (.int .i64 (x2 : Int))
          have ho8' : Only (· = w.heap.size + 2) u2 ((w7.setCell ⟨w.heap.size + 1 + 1, 0, none⟩ (.int .i64 (x1 : Int))).setCell ⟨w.heap.size + 1 + 1, 1, none⟩ (.int .i64 (x2 : Int))) := (ho8.setAt 0 _).setAt 1 _
          have lu8 := blk_lt hub8
          have hbs8 := ho8'.size
          have hT8 : ∀ k, (Value.slice aT trail.length cT).ownBlock = some k → u2.heap.size ≤ k := fun k hk => own_ge hoT8 hk
          have HO8 := hide ho8'
          have HU8 := hide hub8
          have HT8 := hide hoT8
          have HNT := hide hnT
          have HK8 := hide hT8
          clear ho8' hub8 hoT8 hnT hT8
          go_wp2_with (at_builtin; refine wpList_append_new' rfl (.tmp 48) (.tmp 50) 159 rfl u2.heap.size i1 (.agg #[.int .i64 0, .int .i64 0]) 2 16 Tryz.underlying159 hi1 hz10 hz11 hz12 rfl (by decide) _ _ _ (unhide HT8) rfl _ rfl (by simp [World.setCell]) rfl (by simp [Value.oneCell']) (by unfold maxLen; omega) (by omega) hbs8 ?_; intro v' w9 hown9 hgrow hat; have hub9 := (hgrow.block (w.heap.size + 2) lu8 (fun e => unhide HNT e.symm)).trans (unhide HU8); have c92 : w9.cell? ⟨w.heap.size + 1 + 1, 2, none⟩ = some (.slice aT trail.length cT) := (by rw [blk_cell hub9]; rfl); have z92 := blk_free hub9 2; have lu9 := blk_lt hub9; have ho9 := (unhide HO8).grown hgrow (fun k hk => Or.inr (unhide HK8 k hk)); clear hgrow; obtain ⟨a9, c9, rfl⟩ := own_form hown9)
          have hn9 : (Value.slice a9 (trail.length + 1) c9).ownBlock ≠ some (w.heap.size + 2) := own_type_ne hown9 hub9 (by decide)
          have hF9 := own_set_ne hown9 (p := ⟨w.heap.size + 1 + 1, 2, none⟩) hn9 (.slice a9 (trail.length + 1) c9)
          have hU9 := blk_set hub9 2 (.slice a9 (trail.length + 1) c9)
          have hO9 := ho9.setAt 2 (.slice a9 (trail.length + 1) c9)
          go_wp2_with fail
          go_roundg m
          case measure => omega
          case rel => exact ⟨(x1, x2), trail ++ [(x, n)], .slice a9 (trail.length + 1) c9, by simp; omega, hw9, unhide HF, hO9, hU9, by rw [List.length_append, unitCells_snoc]; exact hF9⟩
      · have HF : Hid (unitsOf C S (p1, p2) = ⟨(v1, v2), trail, cf⟩) := hide (by rw [unhide HUN, unhide HGO, if_pos hc0])
        have hd3 : decide ((0 : Int) < (cf : Int)) = true := decide_eq_true (by omega)
        have hd4 : decide (0 < cf) = true := decide_eq_true (by omega)
        obtain ⟨hSz, hXz, hrsz, hBz⟩ := unhide HCUR _ ho5
        have hubz := hub5
        have hoTz := hoT5
        clear hub4 hoT4 ho4 hub5 hoT5 ho5
        have r0 : (w4.setCell ⟨w.heap.size + 2, 3, none⟩ (.int .i64 (cf : Int))).cell? ⟨w.heap.size + 1, 0, none⟩ = some (.int .i64 0) := by rw [blk_cell hrsz]; rfl
        have r1 : (w4.setCell ⟨w.heap.size + 2, 3, none⟩ (.int .i64 (cf : Int))).cell? ⟨w.heap.size + 1, 1, none⟩ = some (.int .i64 0) := by rw [blk_cell hrsz]; rfl
        have r2 : (w4.setCell ⟨w.heap.size + 2, 3, none⟩ (.int .i64 (cf : Int))).cell? ⟨w.heap.size + 1, 2, none⟩ = some (.slice none 0 0) := by rw [blk_cell hrsz]; rfl
        have r3 : (w4.setCell ⟨w.heap.size + 2, 3, none⟩ (.int .i64 (cf : Int))).cell? ⟨w.heap.size + 1, 3, none⟩ = some (.int .i64 0) := by rw [blk_cell hrsz]; rfl
        have y0 := blk_free hrsz 0
        have y1 := blk_free hrsz 1
        have y2 := blk_free hrsz 2
        have y3 := blk_free hrsz 3
        have lrz := blk_lt hrsz
        have d0 : (w4.setCell ⟨w.heap.size + 2, 3, none⟩ (.int .i64 (cf : Int))).cell? ⟨w.heap.size + 1 + 1, 0, none⟩ = some (.int .i64 (v1 : Int)) := by rw [blk_cell hubz]; rfl
        have d1 : (w4.setCell ⟨w.heap.size + 2, 3, none⟩ (.int .i64 (cf : Int))).cell? ⟨w.heap.size + 1 + 1, 1, none⟩ = some (.int .i64 (v2 : Int)) := by rw [blk_cell hubz]; rfl
        have d2 : (w4.setCell ⟨w.heap.size + 2, 3, none⟩ (.int .i64 (cf : Int))).cell? ⟨w.heap.size + 1 + 1, 2, none⟩ = some (.slice aT trail.length cT) := by rw [blk_cell hubz]; rfl
        have d3 : (w4.setCell ⟨w.heap.size + 2, 3, none⟩ (.int .i64 (cf : Int))).cell? ⟨w.heap.size + 1 + 1, 3, none⟩ = some (.int .i64 (cf : Int)) := by rw [blk_cell hubz]; rfl
        have luz := blk_lt hubz
        have hR := blk_set (blk_set (blk_set (blk_set hrsz 0 (.int .i64 (v1 : Int))) 1 (.int .i64 (v2 : Int))) 2 (.slice aT trail.length cT)) 3 (.int .i64 (cf : Int))
        have j0 := blk_cell hR 0
        have j1 := blk_cell hR 1
        have j2 := blk_cell hR 2
        have j3 := blk_cell hR 3
        have HOW := hide (own_set_ne (own_set_ne (own_set_ne (own_set_ne hoTz (p := ⟨w.heap.size + 1, 0, none⟩) (own_type_ne hoTz hrsz (by decide)) (.int .i64 (v1 : Int))) (p := ⟨w.heap.size + 1, 1, none⟩) (own_type_ne hoTz hrsz (by decide)) (.int .i64 (v2 : Int))) (p := ⟨w.heap.size + 1, 2, none⟩) (own_type_ne hoTz hrsz (by decide)) (.slice aT trail.length cT)) (p := ⟨w.heap.size + 1, 3, none⟩) (own_type_ne hoTz hrsz (by decide)) (.int .i64 (cf : Int)))
        have HBZ := hide ((((hBz.setCell (p := ⟨w.heap.size + 1, 0, none⟩) (Nat.le_succ _) (.int .i64 (v1 : Int))).setCell (p := ⟨w.heap.size + 1, 1, none⟩) (Nat.le_succ _) (.int .i64 (v2 : Int))).setCell (p := ⟨w.heap.size + 1, 2, none⟩) (Nat.le_succ _) (.slice aT trail.length cT)).setCell (p := ⟨w.heap.size + 1, 3, none⟩) (Nat.le_succ _) (.int .i64 (cf : Int)))
        clear hoTz hSz hXz hBz
        go_wp2_with fail
        refine bodyPost_ret (v := .agg #[.int .i64 (v1 : Int), .int .i64 (v2 : Int), .slice aT trail.length cT, .int .i64 (cf : Int)]) (by simp [results, Tryz.results89, go_sem, j0, j1, j2, j3]) rfl ⟨.slice aT trail.length cT, by rw [unhide HF], by rw [unhide HF]; exact own_lo (unhide HOW) hlo, unhide HBZ⟩
    · have hm0 : gk = 0 := by omega
      subst hm0
      have hd1 : decide ((trail.length : Int) ≤ (C.q.vars.length : Int)) = false := decide_eq_false (by omega)
      have hd2 : decide (trail.length ≤ C.q.vars.length) = false := decide_eq_false hlt
      have HF : Hid (unitsOf C S (p1, p2) = ⟨(v1, v2), trail, 0⟩) := hide (by rw [unhide HUN]; rfl)
      go_wp2_with fail
      go_quiet (fail)
      have b0 : Below wr.heap.size wr (wr.drewN nq) := below_drewN (Below.refl _ _) nq
      have ho3 := ho.trans (Only.of_below (T := (· = w.heap.size + 2)) b0)
      have hubz := (b0.block _ lub).trans hub
      have hoTz := own_below hoT b0
      clear hSr hXr hrsr hBr q0 cu2 lbr lub ho hub hoT
      generalize wr.drewN nq = w3 at *
      have hlo : w.heap.size ≤ u2.heap.size := by omega
      obtain ⟨hSz, hXz, hrsz, hBz⟩ := unhide HCUR w3 ho3
      have r0 : w3.cell? ⟨w.heap.size + 1, 0, none⟩ = some (.int .i64 0) := by rw [blk_cell hrsz]; rfl
      have r1 : w3.cell? ⟨w.heap.size + 1, 1, none⟩ = some (.int .i64 0) := by rw [blk_cell hrsz]; rfl
      have r2 : w3.cell? ⟨w.heap.size + 1, 2, none⟩ = some (.slice none 0 0) := by rw [blk_cell hrsz]; rfl
      have r3 : w3.cell? ⟨w.heap.size + 1, 3, none⟩ = some (.int .i64 0) := by rw [blk_cell hrsz]; rfl
      have y0 := blk_free hrsz 0
      have y1 := blk_free hrsz 1
      have y2 := blk_free hrsz 2
      have y3 := blk_free hrsz 3
      have lrz := blk_lt hrsz
      have d0 : w3.cell? ⟨w.heap.size + 1 + 1, 0, none⟩ = some (.int .i64 (v1 : Int)) := by rw [blk_cell hubz]; rfl
      have d1 : w3.cell? ⟨w.heap.size + 1 + 1, 1, none⟩ = some (.int .i64 (v2 : Int)) := by rw [blk_cell hubz]; rfl
      have d2 : w3.cell? ⟨w.heap.size + 1 + 1, 2, none⟩ = some (.slice aT trail.length cT) := by rw [blk_cell hubz]; rfl
      have d3 : w3.cell? ⟨w.heap.size + 1 + 1, 3, none⟩ = some (.int .i64 0) := by rw [blk_cell hubz]; rfl
      have luz := blk_lt hubz
      have hR := blk_set (blk_set (blk_set (blk_set hrsz 0 (.int .i64 (v1 : Int))) 1 (.int .i64 (v2 : Int))) 2 (.slice aT trail.length cT)) 3 (.int .i64 0)
      have j0 := blk_cell hR 0
      have j1 := blk_cell hR 1
      have j2 := blk_cell hR 2
      have j3 := blk_cell hR 3
      have HOW := hide (own_set_ne (own_set_ne (own_set_ne (own_set_ne hoTz (p := ⟨w.heap.size + 1, 0, none⟩) (own_type_ne hoTz hrsz (by decide)) (.int .i64 (v1 : Int))) (p := ⟨w.heap.size + 1, 1, none⟩) (own_type_ne hoTz hrsz (by decide)) (.int .i64 (v2 : Int))) (p := ⟨w.heap.size + 1, 2, none⟩) (own_type_ne hoTz hrsz (by decide)) (.slice aT trail.length cT)) (p := ⟨w.heap.size + 1, 3, none⟩) (own_type_ne hoTz hrsz (by decide)) (.int .i64 0))
      have HBZ := hide ((((hBz.setCell (p := ⟨w.heap.size + 1, 0, none⟩) (Nat.le_succ _) (.int .i64 (v1 : Int))).setCell (p := ⟨w.heap.size + 1, 1, none⟩) (Nat.le_succ _) (.int .i64 (v2 : Int))).setCell (p := ⟨w.heap.size + 1, 2, none⟩) (Nat.le_succ _) (.slice aT trail.length cT)).setCell (p := ⟨w.heap.size + 1, 3, none⟩) (Nat.le_succ _) (.int .i64 0))
      clear hoTz hSz hXz hBz
      go_wp2_with fail
      refine bodyPost_ret (v := .agg #[.int .i64 (v1 : Int), .int .i64 (v2 : Int), .slice aT trail.length cT, .int .i64 0]) (by simp [results, Tryz.results89, go_sem, j0, j1, j2, j3]) rfl ⟨.slice aT trail.length cT, by rw [unhide HF]; rfl, by rw [unhide HF]; exact own_lo (unhide HOW) hlo, unhide HBZ⟩
end Go.Proofs.YtgipjjhkhfihpaaGreatDoor

namespace Go.Proofs.YtgipjjhkhfihpaaGreatDoor
open Go.RowKit

set_option maxRecDepth 100000 in
set_option maxHeartbeats 1600000 in
theorem skeep_any (b : Nat) (C : SC) (S : SS) (V : SV) (f : Nat × Nat) (w : World) (hS : SAt w b C S V) (hB : SBd C S) :
    Calls Tryz.prog 115 #[.pointer (some ⟨b, 0, none⟩), FactV f] w fun e w' => e = .returned (.tuple #[]) ∧ SPost b C (S.keep C.room f) V w w' := by
  obtain ⟨fk, fs⟩ := f
  have hlt := hB.lits (fk, fs)
  have HK : Hid (S.keep C.room (fk, fs) = if emptyB (S.lits (fk, fs)) then S else S.store C.room (fk, fs)) := hide rfl
  go_enter Tryz.func115, Tryz.ntmps115
  go_wp2_with fail
  generalize hw0 : (w.alloc (.cells #[.int .i64 (fk : Int), .int .i64 (fs : Int)] 129)) = u1
  have hb0 : Below w.heap.size w u1 := by rw [← hw0]; exact (Below.refl _ _).alloc (Nat.le_refl _) _
  have hfa : u1.heap[w.heap.size]? = some (.cells #[.int .i64 (fk : Int), .int .i64 (fs : Int)] 129 (0, 0)) := by rw [← hw0]; exact alloc_new_at (by simp)
  have nfa : Far b V (w.heap.size) := hS.fresh (by omega)
  clear hw0
  have hM : SMoved b w u1 V V := SMoved.of_below hb0
  replace hS := hS.later hb0
  have lb := blk_lt hS.fb
  have cfa0 : u1.cell? ⟨w.heap.size, 0, none⟩ = some (.int .i64 (fk : Int)) := by rw [blk_cell hfa]; rfl
  have cfa1 : u1.cell? ⟨w.heap.size, 1, none⟩ = some (.int .i64 (fs : Int)) := by rw [blk_cell hfa]; rfl
  have lfa := blk_lt hfa
  refine (slits_any b C S V (fk, fs) _ hS hB).mono ?_
  rintro e u2 ⟨rfl, b2⟩
  replace hM := hM.trans (SMoved.of_below b2)
  replace hS := hS.later b2
  replace lb := blk_lt hS.fb
  replace hfa := (b2.block _ (blk_lt hfa)).trans hfa
  replace cfa0 : u2.cell? ⟨w.heap.size, 0, none⟩ = some (.int .i64 (fk : Int)) := by rw [blk_cell hfa]; rfl
  replace cfa1 : u2.cell? ⟨w.heap.size, 1, none⟩ = some (.int .i64 (fs : Int)) := by rw [blk_cell hfa]; rfl
  replace lfa := blk_lt hfa
  generalize hea : S.lits (fk, fs) = c at *
  clear hea
  obtain ⟨c1, c2⟩ := c
  dsimp only at hlt
  go_wp2_with fail
  have nse : Far b V u2.heap.size := hS.fresh (Nat.le_refl _)
  generalize hw0 : u2.alloc (.cells #[.int .i64 (c1 : Int), .int .i64 (c2 : Int)] 74) = u3
  have b3 : Below u2.heap.size u2 u3 := by rw [← hw0]; exact (Below.refl _ _).alloc (Nat.le_refl _) _
  have hse : u3.heap[u2.heap.size]? = some (.cells #[.int .i64 (c1 : Int), .int .i64 (c2 : Int)] 74 (0, 0)) := by rw [← hw0]; exact heap_alloc_new _ _
  clear hw0
  replace hM := hM.trans (SMoved.of_below b3)
  replace hS := hS.later b3
  replace lb := blk_lt hS.fb
  replace hfa := (b3.block _ (blk_lt hfa)).trans hfa
  replace cfa0 : u3.cell? ⟨w.heap.size, 0, none⟩ = some (.int .i64 (fk : Int)) := by rw [blk_cell hfa]; rfl
  replace cfa1 : u3.cell? ⟨w.heap.size, 1, none⟩ = some (.int .i64 (fs : Int)) := by rw [blk_cell hfa]; rfl
  replace lfa := blk_lt hfa
  have cse0 : u3.cell? ⟨u2.heap.size, 0, none⟩ = some (.int .i64 (c1 : Int)) := by rw [blk_cell hse]; rfl
  have cse1 : u3.cell? ⟨u2.heap.size, 1, none⟩ = some (.int .i64 (c2 : Int)) := by rw [blk_cell hse]; rfl
  have lse := blk_lt hse
  refine (empty_any c1 c2 _ hlt.1 hlt.2).mono ?_
  rintro e u4 ⟨rfl, b4⟩
  replace hM := hM.trans (SMoved.of_below b4)
  replace hS := hS.later b4
  replace lb := blk_lt hS.fb
  replace hfa := (b4.block _ (blk_lt hfa)).trans hfa
  replace cfa0 : u4.cell? ⟨w.heap.size, 0, none⟩ = some (.int .i64 (fk : Int)) := by rw [blk_cell hfa]; rfl
  replace cfa1 : u4.cell? ⟨w.heap.size, 1, none⟩ = some (.int .i64 (fs : Int)) := by rw [blk_cell hfa]; rfl
  replace lfa := blk_lt hfa
  replace hse := (b4.block _ (blk_lt hse)).trans hse
  replace cse0 : u4.cell? ⟨u2.heap.size, 0, none⟩ = some (.int .i64 (c1 : Int)) := by rw [blk_cell hse]; rfl
  replace cse1 : u4.cell? ⟨u2.heap.size, 1, none⟩ = some (.int .i64 (c2 : Int)) := by rw [blk_cell hse]; rfl
  replace lse := blk_lt hse
  cases he : (c1 ||| c2 == 0) with
  | true =>
    have HF : Hid (S.keep C.room (fk, fs) = S) := hide (by rw [unhide HK]; unfold emptyB; rw [he]; rfl)
    go_wp2_with fail
    go_end0
    exact ⟨rfl, by rw [unhide HF]; exact ⟨V, hS, hM⟩⟩
  | false =>
    have HF : Hid (S.keep C.room (fk, fs) = S.store C.room (fk, fs)) := hide (by rw [unhide HK]; unfold emptyB; rw [he]; rfl)
    go_wp2_with fail
    have hu9 : Below u4.heap.size u4 u4.drew := (Below.refl _ u4).drew
    go_region_with (go_at_call 135; refine (store_any b C S V (fk, fs) _ (hS.later hu9) hB).mono ?_; rintro e w9 ⟨rfl, hp9⟩; have hp := SPost.before hp9 (hM.trans (SMoved.of_below hu9)))
    all_goals
      go_wp2_with fail
      go_end0
      exact ⟨rfl, by rw [unhide HF]; exact hp⟩

theorem SBd.put {C : SC} {S : SS} (h : SBd C S) {k : Nat} (hk : k = 1 ∨ k = 2) {p : List Stp} (hl : p.length ≤ 100000) (hb : ∀ s ∈ p, s.lits.1 < 512 ∧ s.lits.2 < 512) : SBd C (S.put k p) := by
  rcases hk with rfl | rfl
  · exact ⟨h.qb, h.uni, hb, h.aff, hl, h.al, h.kept, h.kind, h.budget, h.room, h.most, h.nodes⟩
  · exact ⟨h.qb, h.uni, h.ref, hb, h.rl, hl, h.kept, h.kind, h.budget, h.room, h.most, h.nodes⟩

theorem resP_bd (p : List Stp) (a b v : Nat) (hb : ∀ s ∈ p, s.lits.1 < 512 ∧ s.lits.2 < 512) : (∀ s ∈ (resP p a b v).1, s.lits.1 < 512 ∧ s.lits.2 < 512) ∧ (resP p a b v).1.length = p.length + 1 ∧ (resP p a b v).2 = p.length + 1 := by
  have h1 := litsAt_lt p hb a
  have h2 := litsAt_lt p hb b
  unfold resP
  split
  · refine ⟨fun s hs => ?_, by simp, rfl⟩
    rcases List.mem_append.1 hs with hs | hs
    · exact hb s hs
    · simp at hs; subst hs
      exact without_lt _ _ ⟨or_lt _ _ h1.1 h2.1, or_lt _ _ h1.2 h2.2⟩
  · refine ⟨fun s hs => ?_, by simp, rfl⟩
    rcases List.mem_append.1 hs with hs | hs
    · exact hb s hs
    · simp at hs; subst hs
      exact without_lt _ _ ⟨or_lt _ _ h2.1 h1.1, or_lt _ _ h2.2 h1.2⟩
theorem redP_bd (q : QS) (k : Nat) (p : List Stp) (n : Nat) (hb : ∀ s ∈ p, s.lits.1 < 512 ∧ s.lits.2 < 512) : (∀ s ∈ (redP q k p n).1, s.lits.1 < 512 ∧ s.lits.2 < 512) ∧ (redP q k p n).1.length ≤ p.length + 1 ∧ ((redP q k p n).2 = n ∨ (redP q k p n).2 = p.length + 1) := by
  have h1 := litsAt_lt p hb n
  unfold redP
  split
  · exact ⟨hb, Nat.le_succ _, Or.inl rfl⟩
  · refine ⟨fun s hs => ?_, by simp, Or.inr rfl⟩
    rcases List.mem_append.1 hs with hs | hs
    · exact hb s hs
    · simp at hs; subst hs
      exact redQ_lt _ _ _ h1
theorem put_proof2 (S : SS) (k : Nat) (p : List Stp) : (S.put k p).proof k = p := by
  unfold SS.put SS.proof; split <;> rfl
theorem put_put (S : SS) (k : Nat) (p p' : List Stp) : (S.put k p).put k p' = S.put k p' := by
  unfold SS.put; split <;> rfl
theorem join_as (C : SC) (S : SS) (f g : Nat × Nat) (v : Nat) : joinOf C S f g v = (((S.put f.1 (resP (S.proof f.1) f.2 g.2 v).1).reduce C.q (f.1, (resP (S.proof f.1) f.2 g.2 v).2)).1.keep C.room ((S.put f.1 (resP (S.proof f.1) f.2 g.2 v).1).reduce C.q (f.1, (resP (S.proof f.1) f.2 g.2 v).2)).2, ((S.put f.1 (resP (S.proof f.1) f.2 g.2 v).1).reduce C.q (f.1, (resP (S.proof f.1) f.2 g.2 v).2)).2) := by
  unfold joinOf SS.reduce
  dsimp only
  rw [put_proof2, put_put]
theorem reduce_as (S : SS) (q : QS) (k n : Nat) : S.reduce q (k, n) = (S.put k (redP q k (S.proof k) n).1, (k, (redP q k (S.proof k) n).2)) := by unfold SS.reduce; dsimp only
theorem reduce_bd {C : SC} {S : SS} (h : SBd C S) {k : Nat} (hk : k = 1 ∨ k = 2) (n : Nat) (hl : (S.proof k).length ≤ 99999) : SBd C (S.reduce C.q (k, n)).1 := by
  have hr := redP_bd C.q k (S.proof k) n (h.proof k).2
  exact h.put hk (p := (redP C.q k (S.proof k) n).1) (by have := hr.2.1; omega) hr.1

set_option maxRecDepth 100000 in
set_option maxHeartbeats 1600000 in
theorem join_any (b : Nat) (C : SC) (S : SS) (V : SV) (f g : Nat × Nat) (v : Nat) (w : World) (hS : SAt w b C S V) (hB : SBd C S) (hk : f.1 = 1 ∨ f.1 = 2) (hl : (S.proof f.1).length ≤ 99990) (hv : v ≤ 1048576) :
    Calls Tryz.prog 120 #[.pointer (some ⟨b, 0, none⟩), FactV f, FactV g, .int .i64 (v : Int)] w fun e w' => e = .returned (FactV (joinOf C S f g v).2) ∧ SPost b C (joinOf C S f g v).1 V w w' := by
  obtain ⟨fk, fs⟩ := f
  obtain ⟨gk, gs⟩ := g
  dsimp only at hk hl
  go_enter Tryz.func120, Tryz.ntmps120
  go_wp2_with fail
  generalize hw0 : (((w.alloc (.cells #[.int .i64 (fk : Int), .int .i64 (fs : Int)] 129)).alloc (.cells #[.int .i64 (gk : Int), .int .i64 (gs : Int)] 129)).alloc (.cells #[.int .i64 0, .int .i64 0] 129)) = u1
  have hb0 : Below w.heap.size w u1 := by rw [← hw0]; exact (((Below.refl _ _).alloc (Nat.le_refl _) _).alloc (by simp; try omega) _).alloc (by simp; try omega) _
  have hfa : u1.heap[w.heap.size]? = some (.cells #[.int .i64 (fk : Int), .int .i64 (fs : Int)] 129 (0, 0)) := by rw [← hw0, heap_alloc_old _ _ (by simp; try omega), heap_alloc_old _ _ (by simp; try omega)]; exact alloc_new_at (by simp)
  have nfa : Far b V (w.heap.size) := hS.fresh (by omega)
  have hga : u1.heap[w.heap.size + 1]? = some (.cells #[.int .i64 (gk : Int), .int .i64 (gs : Int)] 129 (0, 0)) := by rw [← hw0, heap_alloc_old _ _ (by simp; try omega)]; exact alloc_new_at (by simp)
  have nga : Far b V (w.heap.size + 1) := hS.fresh (by omega)
  have hrs : u1.heap[w.heap.size + 2]? = some (.cells #[.int .i64 0, .int .i64 0] 129 (0, 0)) := by rw [← hw0]; exact alloc_new_at (by simp)
  have nrs : Far b V (w.heap.size + 2) := hS.fresh (by omega)
  clear hw0
  have hM : SMoved b w u1 V V := SMoved.of_below hb0
  replace hS := hS.later hb0
  have lb := blk_lt hS.fb
  have cfa0 : u1.cell? ⟨w.heap.size, 0, none⟩ = some (.int .i64 (fk : Int)) := by rw [blk_cell hfa]; rfl
  have cfa1 : u1.cell? ⟨w.heap.size, 1, none⟩ = some (.int .i64 (fs : Int)) := by rw [blk_cell hfa]; rfl
  have lfa := blk_lt hfa
  have cga0 : u1.cell? ⟨w.heap.size + 1, 0, none⟩ = some (.int .i64 (gk : Int)) := by rw [blk_cell hga]; rfl
  have cga1 : u1.cell? ⟨w.heap.size + 1, 1, none⟩ = some (.int .i64 (gs : Int)) := by rw [blk_cell hga]; rfl
  have lga := blk_lt hga
  have crs0 : u1.cell? ⟨w.heap.size + 2, 0, none⟩ = some (.int .i64 0) := by rw [blk_cell hrs]; rfl
  have crs1 : u1.cell? ⟨w.heap.size + 2, 1, none⟩ = some (.int .i64 0) := by rw [blk_cell hrs]; rfl
  have lrs := blk_lt hrs
  refine (sproof_any b fk _ lb).mono ?_
  rintro e w2 ⟨rfl, hw2⟩
  subst hw2
  go_wp2_with fail
  have hrb := resP_bd (S.proof fk) fs gs v (hB.proof fk).2
  refine (presolve_any b (pOff fk) _ _ (S.proof fk) _ fk fs gs v w2 (hS.pat hk) (hB.proof fk).1 (hB.proof fk).2 hv).mono ?_
  rintro e u3 ⟨rfl, hgo⟩
  obtain ⟨V2, hS2, hM2⟩ := hS.put hk hgo
  clear hgo
  have hB2 := hB.put hk (p := (resP (S.proof fk) fs gs v).1) (by have := hrb.2.1; omega) hrb.1
  have h9 := join_as C S (fk, fs) (gk, gs) v
  dsimp only at h9
  have HJ := hide h9
  clear h9
  have hrn := hrb.2.2
  have hlen2 : ((S.put fk (resP (S.proof fk) fs gs v).1).proof fk).length ≤ 99995 := by rw [put_proof2]; have := hrb.2.1; omega
  clear hrb
  obtain ⟨S2, hS2e⟩ : ∃ X, X = S.put fk (resP (S.proof fk) fs gs v).1 := ⟨_, rfl⟩
  obtain ⟨rn, hrne⟩ : ∃ X, X = (resP (S.proof fk) fs gs v).2 := ⟨_, rfl⟩
  rw [← hS2e] at HJ hB2 hlen2 hS2
  rw [← hrne] at HJ hrn ⊢
  clear hS2e hrne
  have hrn6 : rn ≤ 1048576 := by omega
  clear hrn
  replace hfa := hM2.blk hfa nfa
  replace nfa := hM2.far lfa nfa
  replace hga := hM2.blk hga nga
  replace nga := hM2.far lga nga
  replace hrs := hM2.blk hrs nrs
  replace nrs := hM2.far lrs nrs
  replace hM := hM.trans hM2
  replace hS := hS2
  clear hM2 hS2
  replace lb := blk_lt hS.fb
  replace cfa0 : u3.cell? ⟨w.heap.size, 0, none⟩ = some (.int .i64 (fk : Int)) := by rw [blk_cell hfa]; rfl
  replace cfa1 : u3.cell? ⟨w.heap.size, 1, none⟩ = some (.int .i64 (fs : Int)) := by rw [blk_cell hfa]; rfl
  replace lfa := blk_lt hfa
  replace cga0 : u3.cell? ⟨w.heap.size + 1, 0, none⟩ = some (.int .i64 (gk : Int)) := by rw [blk_cell hga]; rfl
  replace cga1 : u3.cell? ⟨w.heap.size + 1, 1, none⟩ = some (.int .i64 (gs : Int)) := by rw [blk_cell hga]; rfl
  replace lga := blk_lt hga
  replace crs0 : u3.cell? ⟨w.heap.size + 2, 0, none⟩ = some (.int .i64 0) := by rw [blk_cell hrs]; rfl
  replace crs1 : u3.cell? ⟨w.heap.size + 2, 1, none⟩ = some (.int .i64 0) := by rw [blk_cell hrs]; rfl
  replace lrs := blk_lt hrs
  go_wp2_with fail
  refine (sreduce_any b C S2 V2 (fk, rn) _ hS hB2 hk hrn6).mono ?_
  rintro e u2 ⟨rfl, V3, hS2, hM2⟩
  replace hfa := hM2.blk hfa nfa
  replace nfa := hM2.far lfa nfa
  replace hga := hM2.blk hga nga
  replace nga := hM2.far lga nga
  replace hrs := hM2.blk hrs nrs
  replace nrs := hM2.far lrs nrs
  replace hM := hM.trans hM2
  replace hS := hS2
  clear hM2
  replace lb := blk_lt hS.fb
  replace cfa0 : u2.cell? ⟨w.heap.size, 0, none⟩ = some (.int .i64 (fk : Int)) := by rw [blk_cell hfa]; rfl
  replace cfa1 : u2.cell? ⟨w.heap.size, 1, none⟩ = some (.int .i64 (fs : Int)) := by rw [blk_cell hfa]; rfl
  replace lfa := blk_lt hfa
  replace cga0 : u2.cell? ⟨w.heap.size + 1, 0, none⟩ = some (.int .i64 (gk : Int)) := by rw [blk_cell hga]; rfl
  replace cga1 : u2.cell? ⟨w.heap.size + 1, 1, none⟩ = some (.int .i64 (gs : Int)) := by rw [blk_cell hga]; rfl
  replace lga := blk_lt hga
  replace crs0 : u2.cell? ⟨w.heap.size + 2, 0, none⟩ = some (.int .i64 0) := by rw [blk_cell hrs]; rfl
  replace crs1 : u2.cell? ⟨w.heap.size + 2, 1, none⟩ = some (.int .i64 0) := by rw [blk_cell hrs]; rfl
  replace lrs := blk_lt hrs
  have hB3 := reduce_bd hB2 hk rn (by omega)
  have hred0 : S2.reduce C.q (fk, rn) = (S2.put fk (redP C.q fk (S2.proof fk) rn).1, (fk, (redP C.q fk (S2.proof fk) rn).2)) := reduce_as S2 C.q fk rn
  obtain ⟨S3, hS3e⟩ : ∃ X, S2.put fk (redP C.q fk (S2.proof fk) rn).1 = X := ⟨_, rfl⟩
  obtain ⟨n3, hn3e⟩ : ∃ X, (redP C.q fk (S2.proof fk) rn).2 = X := ⟨_, rfl⟩
  rw [hS3e, hn3e] at hred0
  rw [hred0] at hS hB3 HJ ⊢
  have HJ2 : Hid (joinOf C S (fk, fs) (gk, gs) v = (S3.keep C.room (fk, n3), (fk, n3))) := HJ
  clear hS3e hn3e hred0 HJ hB2 hlen2
  dsimp only at hS hB3 ⊢
  go_wp2_with fail
  have nfo : Far b V3 u2.heap.size := hS.fresh (Nat.le_refl _)
  generalize hw0 : u2.alloc (.cells #[.int .i64 (fk : Int), .int .i64 (n3 : Int)] 129) = u3
  have b3 : Below u2.heap.size u2 u3 := by rw [← hw0]; exact (Below.refl _ _).alloc (Nat.le_refl _) _
  have hfo : u3.heap[u2.heap.size]? = some (.cells #[.int .i64 (fk : Int), .int .i64 (n3 : Int)] 129 (0, 0)) := by rw [← hw0]; exact heap_alloc_new _ _
  clear hw0
  replace hM := hM.trans (SMoved.of_below b3)
  replace hS := hS.later b3
  replace lb := blk_lt hS.fb
  replace hfa := (b3.block _ (blk_lt hfa)).trans hfa
  replace cfa0 : u3.cell? ⟨w.heap.size, 0, none⟩ = some (.int .i64 (fk : Int)) := by rw [blk_cell hfa]; rfl
  replace cfa1 : u3.cell? ⟨w.heap.size, 1, none⟩ = some (.int .i64 (fs : Int)) := by rw [blk_cell hfa]; rfl
  replace lfa := blk_lt hfa
  replace hga := (b3.block _ (blk_lt hga)).trans hga
  replace cga0 : u3.cell? ⟨w.heap.size + 1, 0, none⟩ = some (.int .i64 (gk : Int)) := by rw [blk_cell hga]; rfl
  replace cga1 : u3.cell? ⟨w.heap.size + 1, 1, none⟩ = some (.int .i64 (gs : Int)) := by rw [blk_cell hga]; rfl
  replace lga := blk_lt hga
  replace hrs := (b3.block _ (blk_lt hrs)).trans hrs
  replace crs0 : u3.cell? ⟨w.heap.size + 2, 0, none⟩ = some (.int .i64 0) := by rw [blk_cell hrs]; rfl
  replace crs1 : u3.cell? ⟨w.heap.size + 2, 1, none⟩ = some (.int .i64 0) := by rw [blk_cell hrs]; rfl
  replace lrs := blk_lt hrs
  have cfo0 : u3.cell? ⟨u2.heap.size, 0, none⟩ = some (.int .i64 (fk : Int)) := by rw [blk_cell hfo]; rfl
  have cfo1 : u3.cell? ⟨u2.heap.size, 1, none⟩ = some (.int .i64 (n3 : Int)) := by rw [blk_cell hfo]; rfl
  have lfo := blk_lt hfo
  refine (skeep_any b C S3 V3 (fk, n3) _ hS hB3).mono ?_
  rintro e u4 ⟨rfl, V4, hS2, hM2⟩
  replace hfa := hM2.blk hfa nfa
  replace nfa := hM2.far lfa nfa
  replace hga := hM2.blk hga nga
  replace nga := hM2.far lga nga
  replace hrs := hM2.blk hrs nrs
  replace nrs := hM2.far lrs nrs
  replace hfo := hM2.blk hfo nfo
  replace nfo := hM2.far lfo nfo
  replace hM := hM.trans hM2
  replace hS := hS2
  clear hM2
  replace lb := blk_lt hS.fb
  replace cfa0 : u4.cell? ⟨w.heap.size, 0, none⟩ = some (.int .i64 (fk : Int)) := by rw [blk_cell hfa]; rfl
  replace cfa1 : u4.cell? ⟨w.heap.size, 1, none⟩ = some (.int .i64 (fs : Int)) := by rw [blk_cell hfa]; rfl
  replace lfa := blk_lt hfa
  replace cga0 : u4.cell? ⟨w.heap.size + 1, 0, none⟩ = some (.int .i64 (gk : Int)) := by rw [blk_cell hga]; rfl
  replace cga1 : u4.cell? ⟨w.heap.size + 1, 1, none⟩ = some (.int .i64 (gs : Int)) := by rw [blk_cell hga]; rfl
  replace lga := blk_lt hga
  replace crs0 : u4.cell? ⟨w.heap.size + 2, 0, none⟩ = some (.int .i64 0) := by rw [blk_cell hrs]; rfl
  replace crs1 : u4.cell? ⟨w.heap.size + 2, 1, none⟩ = some (.int .i64 0) := by rw [blk_cell hrs]; rfl
  replace lrs := blk_lt hrs
  replace cfo0 : u4.cell? ⟨u2.heap.size, 0, none⟩ = some (.int .i64 (fk : Int)) := by rw [blk_cell hfo]; rfl
  replace cfo1 : u4.cell? ⟨u2.heap.size, 1, none⟩ = some (.int .i64 (n3 : Int)) := by rw [blk_cell hfo]; rfl
  replace lfo := blk_lt hfo
  have z0 := blk_free hrs 0
  have z1 := blk_free hrs 1
  have hR := blk_set (blk_set hrs 0 (.int .i64 (fk : Int))) 1 (.int .i64 (n3 : Int))
  have j0 := blk_cell hR 0
  have j1 := blk_cell hR 1
  go_wp2_with fail
  refine bodyPost_ret (v := FactV (fk, n3)) (by simp [results, Tryz.results120, go_sem, j0, j1]) rfl ⟨by rw [unhide HJ2], ?_⟩
  rw [unhide HJ2]
  exact ⟨V4, (hS.set nrs 0 _).set nrs 1 _, (hM.set (k := w.heap.size + 2) (by omega) 0 _).set (k := w.heap.size + 2) (by omega) 1 _⟩
end Go.Proofs.YtgipjjhkhfihpaaGreatDoor
