import Derived.Test.YtbpolmdokdhkhaaC
import Derived.Test.YtbpolmdokdhkhaaD
namespace Go.Proofs.Ytbpolmdokdhkhaa
open Go.RowKit

abbrev SetV (c : Nat × Nat) : Value := .agg #[.int .i64 (c.1 : Int), .int .i64 (c.2 : Int)]
theorem int_ne_zero (a : Nat) : ((a : Int) != 0) = (a != 0) := by
  rw [Bool.eq_iff_iff, bne_iff_ne, bne_iff_ne]; omega
theorem int_eq_zero (a : Nat) : ((a : Int) == 0) = (a == 0) := by
  rw [Bool.eq_iff_iff, beq_iff_eq, beq_iff_eq]; omega
theorem and_lt9 (a b : Nat) (ha : a < 512) : a &&& b < 512 := Nat.lt_of_le_of_lt Nat.and_le_left ha
theorem less_lt9 (a b : Nat) (ha : a < 512) : less a b < 512 := Nat.lt_of_le_of_lt (less_le a b) ha

set_option maxRecDepth 100000 in
set_option maxHeartbeats 800000 in
theorem varOf_any (x : Int) (w : World) (hx : -9223372036854775807 ≤ x) (hx2 : x ≤ 9223372036854775807) :
    Calls Try.prog 75 #[.int .i64 x] w fun e w' => e = .returned (.int .i64 (x.natAbs : Nat)) ∧ w' = w := by
  by_cases h : x < 0
  · have hd : decide (x < 0) = true := by simpa using h
    have hwx : IntKind.i64.wrap (-x) = -x := by
      obtain ⟨m, hm⟩ := Int.eq_ofNat_of_zero_le (show 0 ≤ -x by omega)
      rw [hm]; exact wrap_i64_nat m (by omega)
    go_enter Try.func75, Try.ntmps75
    go_wp2_with fail
    go_ret
    exact ⟨ret_int (by omega), rfl⟩
  · have hd : decide (x < 0) = false := by simpa using h
    go_enter Try.func75, Try.ntmps75
    go_wp2_with fail
    go_ret
    exact ⟨ret_int (by omega), rfl⟩

set_option maxRecDepth 100000 in
set_option maxHeartbeats 800000 in
theorem empty_any (p n : Nat) (w : World) (hp : p < 512) (hn : n < 512) :
    Calls Try.prog 46 #[SetV (p, n)] w fun e w' => e = .returned (.bool (p ||| n == 0)) ∧ Below w.heap.size w w' := by
  have hor : bits .or .i64 (p : Int) (n : Int) = ((p ||| n : Nat) : Int) := i64_or _ _ (by omega) (by omega)
  have HE := hide (int_eq_zero (p ||| n))
  go_enter Try.func46, Try.ntmps46
  go_wp2_with fail
  go_ret
  exact ⟨ret_bool (unhide HE), (Below.refl _ _).alloc (Nat.le_refl _) _⟩

set_option maxRecDepth 100000 in
set_option maxHeartbeats 800000 in
theorem clashes_any (p n : Nat) (w : World) (hp : p < 512) (hn : n < 512) :
    Calls Try.prog 74 #[SetV (p, n)] w fun e w' => e = .returned (.bool (p &&& n != 0)) ∧ Below w.heap.size w w' := by
  have hand : bits .and .i64 (p : Int) (n : Int) = ((p &&& n : Nat) : Int) := i64_and _ _ (by omega) (by omega)
  have HE := hide (int_ne_zero (p &&& n))
  go_enter Try.func74, Try.ntmps74
  go_wp2_with fail
  go_ret
  exact ⟨ret_bool (unhide HE), (Below.refl _ _).alloc (Nat.le_refl _) _⟩

set_option maxRecDepth 100000 in
set_option maxHeartbeats 800000 in
theorem meets_any (p n p2 n2 : Nat) (w : World) (hp : p < 512) (hn : n < 512) (hp2 : p2 < 512) (hn2 : n2 < 512) :
    Calls Try.prog 86 #[SetV (p, n), SetV (p2, n2)] w fun e w' => e = .returned (.bool ((p &&& p2) ||| (n &&& n2) != 0)) ∧ Below w.heap.size w w' := by
  have h1 : bits .and .i64 (p : Int) (p2 : Int) = ((p &&& p2 : Nat) : Int) := i64_and _ _ (by omega) (by omega)
  have h2 : bits .and .i64 (n : Int) (n2 : Int) = ((n &&& n2 : Nat) : Int) := i64_and _ _ (by omega) (by omega)
  have h3 : bits .or .i64 ((p &&& p2 : Nat) : Int) ((n &&& n2 : Nat) : Int) = (((p &&& p2) ||| (n &&& n2) : Nat) : Int) := i64_or _ _ (by have := and_lt9 p p2 hp; omega) (by have := and_lt9 n n2 hn; omega)
  have HE := hide (int_ne_zero ((p &&& p2) ||| (n &&& n2)))
  go_enter Try.func86, Try.ntmps86
  go_wp2_with fail
  go_ret
  exact ⟨ret_bool (unhide HE), ((Below.refl _ _).alloc (Nat.le_refl _) _).alloc (by simp) _⟩

/-- A set has a literal. -/
def hasLit (c : Nat × Nat) (x : Int) : Bool := if x < 0 then c.2 &&& bitOf (-x) != 0 else c.1 &&& bitOf x != 0
set_option maxRecDepth 100000 in
set_option maxHeartbeats 800000 in
theorem has_any (p n : Nat) (x : Int) (w : World) (hp : p < 512) (hn : n < 512) (hx : -9223372036854775807 ≤ x) (hx2 : x ≤ 9223372036854775807) :
    Calls Try.prog 79 #[SetV (p, n), .int .i64 x] w fun e w' => e = .returned (.bool (hasLit (p, n) x)) ∧ Below w.heap.size w w' := by
  by_cases h : x < 0
  · have HW : Hid (hasLit (p, n) x = (n &&& bitOf (-x) != 0)) := hide (by unfold hasLit; rw [if_pos h])
    have hd : decide (x < 0) = true := by simpa using h
    have hwx : IntKind.i64.wrap (-x) = -x := by
      obtain ⟨m, hm⟩ := Int.eq_ofNat_of_zero_le (show 0 ≤ -x by omega)
      rw [hm]; exact wrap_i64_nat m (by omega)
    have hand : bits .and .i64 (n : Int) (bitOf (-x) : Nat) = ((n &&& bitOf (-x) : Nat) : Int) := i64_and _ _ (by omega) (by have := bitOf_lt (-x); omega)
    have HE := hide (int_ne_zero (n &&& bitOf (-x)))
    go_enter Try.func79, Try.ntmps79
    go_wp2_with fail
    go_quiet ((go_at_call 73; exact Calls.quiet_of_same (bit_any _ _)))
    go_wp2_with fail
    go_ret
    exact ⟨ret_bool (by rw [unhide HW]; exact unhide HE), below_drewN ((Below.refl _ _).alloc (Nat.le_refl _) _) nq⟩
  · have HW : Hid (hasLit (p, n) x = (p &&& bitOf x != 0)) := hide (by unfold hasLit; rw [if_neg h])
    have hd : decide (x < 0) = false := by simpa using h
    have hand : bits .and .i64 (p : Int) (bitOf x : Nat) = ((p &&& bitOf x : Nat) : Int) := i64_and _ _ (by omega) (by have := bitOf_lt x; omega)
    have HE := hide (int_ne_zero (p &&& bitOf x))
    go_enter Try.func79, Try.ntmps79
    go_wp2_with fail
    go_quiet ((go_at_call 73; exact Calls.quiet_of_same (bit_any _ _)))
    go_wp2_with fail
    go_ret
    exact ⟨ret_bool (by rw [unhide HW]; exact unhide HE), below_drewN ((Below.refl _ _).alloc (Nat.le_refl _) _) nq⟩

set_option maxRecDepth 100000 in
set_option maxHeartbeats 800000 in
theorem union_any (p n p2 n2 : Nat) (w : World) (hp : p < 512) (hn : n < 512) (hp2 : p2 < 512) (hn2 : n2 < 512) :
    Calls Try.prog 80 #[SetV (p, n), SetV (p2, n2)] w fun e w' => e = .returned (SetV (p ||| p2, n ||| n2)) ∧ Below w.heap.size w w' := by
  have h1 : bits .or .i64 (p : Int) (p2 : Int) = ((p ||| p2 : Nat) : Int) := i64_or _ _ (by omega) (by omega)
  have h2 : bits .or .i64 (n : Int) (n2 : Int) = ((n ||| n2 : Nat) : Int) := i64_or _ _ (by omega) (by omega)
  go_enter Try.func80, Try.ntmps80
  go_wp2_with fail
  refine bodyPost_ret (v := SetV (p ||| p2, n ||| n2)) (by simp [results, Try.results80, go_sem]) rfl ⟨rfl, ?_⟩
  exact ((((Below.refl _ _).alloc (Nat.le_refl _) _).alloc (by simp) _)).alloc (by simp; omega) _

/-- A set without a variable's literals. -/
def without (c : Nat × Nat) (v : Int) : Nat × Nat := (less c.1 (bitOf v), less c.2 (bitOf v))
set_option maxRecDepth 100000 in
set_option maxHeartbeats 800000 in
theorem withoutVar_any (p n : Nat) (v : Int) (w : World) (hp : p < 512) (hn : n < 512) :
    Calls Try.prog 81 #[SetV (p, n), .int .i64 v] w fun e w' => e = .returned (SetV (without (p, n) v)) ∧ Below w.heap.size w w' := by
  have hb := bitOf_lt v
  have h1 : bits .andNot .i64 (p : Int) (bitOf v : Nat) = ((less p (bitOf v) : Nat) : Int) := i64_andNot _ _ (by omega) (by omega)
  have h2 : bits .andNot .i64 (n : Int) (bitOf v : Nat) = ((less n (bitOf v) : Nat) : Int) := i64_andNot _ _ (by omega) (by omega)
  go_enter Try.func81, Try.ntmps81
  go_wp2_with fail
  refine (bit_any _ _).mono ?_
  rintro e w1 ⟨rfl, rfl⟩
  go_wp2_with fail
  refine bodyPost_ret (v := SetV (without (p, n) v)) (by simp [results, Try.results81, go_sem, without]) rfl ⟨rfl, ?_⟩
  exact (((Below.refl _ _).alloc (Nat.le_refl _) _).alloc (by simp) _)
end Go.Proofs.Ytbpolmdokdhkhaa

namespace Go.Proofs.Ytbpolmdokdhkhaa
open Go.RowKit

/-- A row whose block lies below B stays where all blocks below B do. -/
theorem own_under {w w' : World} {B base : Nat} {e : TypeId} {size : Nat} {v : Value} {n : Nat} {xs : List Value} (h : w.ownsRow base e size v n xs) (hl : ∀ k, v.ownBlock = some k → k < B) (hb : Below B w w') : w'.ownsRow base e size v n xs := by
  obtain ⟨h1, h2⟩ := h
  refine ⟨h1, ?_⟩
  rcases h2 with h2 | ⟨g, cap, cur, rfl, hg, hh, h3⟩
  · exact Or.inl h2
  · exact Or.inr ⟨g, cap, cur, rfl, hg, (hb.block g (hl g rfl)).trans hh, h3⟩

/-- The reader of a proof, at block b: the formula's rows lie below b, the steps' row above it. -/
structure PInv (w : World) (b : Nat) (q : QS) (kind : Nat) (ss : List (Nat × Nat)) (vV vC vS : Value) : Prop where
  fb : w.heap[b]? = some (.cells #[vV, vC, .int .i64 kind, vS] 70 (0, 0))
  oV : w.ownsRow 0 91 2 vV q.vars.length (varCells q.vars)
  oC : w.ownsRow 0 96 2 vC q.cl.length (pairs q.cl)
  oS : w.ownsRow (b + 1) 96 2 vS ss.length (pairs ss)
  lV : ∀ k, vV.ownBlock = some k → k < b
  lC : ∀ k, vC.ownBlock = some k → k < b
theorem PInv.later {w w' : World} {b : Nat} {q : QS} {kind : Nat} {ss : List (Nat × Nat)} {vV vC vS : Value} (h : PInv w b q kind ss vV vC vS) (hb : Below w.heap.size w w') : PInv w' b q kind ss vV vC vS :=
  ⟨(hb.block b (blk_lt h.fb)).trans h.fb, own_below h.oV hb, own_below h.oC hb, own_below h.oS hb, h.lV, h.lC⟩
/-- What holds of the formula and the steps. -/
structure QB (q : QS) : Prop where
  vl : q.vars.length ≤ 8
  cl : q.cl.length ≤ 24
  bits : ∀ c ∈ q.cl, c.1 < 512 ∧ c.2 < 512
  names : ∀ x ∈ q.vars, 1 ≤ x.1 ∧ x.1 ≤ 8
structure SB (ss : List (Nat × Nat)) : Prop where
  len : ss.length ≤ 9000
  bits : ∀ c ∈ ss, c.1 < 512 ∧ c.2 < 512

def pivotB (kind : Nat) (u : Bool) : Bool := u == (kind == 2)
set_option maxRecDepth 100000 in
set_option maxHeartbeats 800000 in
theorem isPivot_any (b : Nat) (kind : Nat) (v : Nat) (u : Bool) (w : World) (hc : w.cell? ⟨b, 2, none⟩ = some (.int .i64 kind)) :
    Calls Try.prog 87 #[.pointer (some ⟨b, 0, none⟩), .agg #[.int .i64 v, .bool u]] w fun e w' => e = .returned (.bool (pivotB kind u)) ∧ Below w.heap.size w w' := by
  have hbw := cell_lt hc
  have HE : Hid (((kind : Int) == 2) = (kind == 2)) := hide (by rw [Bool.eq_iff_iff, beq_iff_eq, beq_iff_eq]; omega)
  go_enter Try.func87, Try.ntmps87
  go_wp2_with fail
  go_quiet (fail)
  go_wp2_with fail
  go_ret
  exact ⟨ret_bool (by rw [unhide HE]; rfl), below_drewN ((Below.refl _ _).alloc (Nat.le_refl _) _) nq⟩

/-! ### stepAhead -/
def aheadQ (ss : List (Nat × Nat)) (w : List UInt8) : Option (Nat × Nat) := (numOf w ss.length).bind (fun n => ss[n - 1]?)
def AheadPost (ss : List (Nat × Nat)) (l : List UInt8) (w : World) (e : Ending) (w' : World) : Prop :=
  Below w.heap.size w w' ∧ e = .returned (.tuple #[SetV ((aheadQ ss l).getD (0, 0)), .bool (aheadQ ss l).isSome])
theorem numOf_range {l : List UInt8} {most n : Nat} (h : numOf l most = some n) : 1 ≤ n ∧ n ≤ most := by
  unfold numOf at h
  split at h
  · cases h
  · next hc =>
    simp only [not_or] at hc
    obtain ⟨h1, h2, h3, h4⟩ := hc
    simp at h
    subst h
    refine ⟨?_, by omega⟩
    match l, h1 with
    | c :: r, _ =>
      have h3' : (c :: r).all isDigit = true := by simpa using h3
      have hd : isDigit c = true := by simp at h3'; exact h3'.1
      have hd' : 48 ≤ c.toNat ∧ c.toNat ≤ 57 := of_decide_eq_true hd
      have hne : c.toNat ≠ 48 := fun e => h2 (by simp; apply UInt8.toNat_inj.1; exact e)
      have hm := dec_mono (c :: r) 1
      have : dec ((c :: r).take 1) = c.toNat - 48 := by simp [dec]
      omega

set_option maxRecDepth 100000 in
set_option maxHeartbeats 800000 in
theorem stepAhead_any (b : Nat) (q : QS) (kind : Nat) (ss : List (Nat × Nat)) (vV vC vS : Value) (l : List UInt8) (w : World) (hP : PInv w b q kind ss vV vC vS) (hS : SB ss) (hl : l.length ≤ 1048576) :
    Calls Try.prog 77 #[.pointer (some ⟨b, 0, none⟩), .string ⟨l.toArray⟩] w fun e w' => AheadPost ss l w e w' := by
  obtain ⟨aS, cS, rfl⟩ := own_form hP.oS
  have hbw := blk_lt hP.fb
  have hsl := hS.len
  have k3 : w.cell? ⟨b, 3, none⟩ = some (.slice aS ss.length cS) := by rw [blk_cell hP.fb]; rfl
  go_enter Try.func77, Try.ntmps77
  go_wp2_with fail
  refine (number_any l ss.length _ hl (by omega)).mono ?_
  rintro e w1 ⟨hw1, rfl⟩
  subst hw1
  cases hn : numOf l ss.length with
  | none =>
    have HF : Hid (aheadQ ss l = none) := hide (by unfold aheadQ; rw [hn]; rfl)
    go_wp2_with fail
    refine bodyPost_ret (v := .tuple #[SetV (0, 0), .bool false]) (by simp [results, Try.results77, go_sem]) rfl ⟨?_, by rw [unhide HF]; rfl⟩
    exact (Below.refl _ _).alloc (Nat.le_refl _) _
  | some n =>
    obtain ⟨hn1, hn2⟩ := numOf_range hn
    obtain ⟨m, rfl⟩ : ∃ m, n = m + 1 := ⟨n - 1, by omega⟩
    have hm : m < ss.length := by omega
    have HF : Hid (aheadQ ss l = some ss[m]) := hide (by unfold aheadQ; rw [hn]; simp [hm])
    obtain ⟨g, cap, hVe, hg, hg', _, hcell⟩ := own_pos hP.oS (by omega)
    injection hVe with hVe _ hV2
    subst hVe hV2
    obtain ⟨ha, hb'⟩ := pairs_at ss m hm
    have hx0 : w.cell? ⟨g, m * 2, none⟩ = some (.int .i64 (ss[m].1 : Int)) := hcell _ _ ha
    have hx1 : w.cell? ⟨g, m * 2 + 1, none⟩ = some (.int .i64 (ss[m].2 : Int)) := hcell _ _ hb'
    clear hcell ha hb'
    go_wp2_with fail
    refine bodyPost_ret (v := .tuple #[SetV ss[m], .bool true]) (by simp [results, Try.results77, go_sem]) rfl ⟨?_, by rw [unhide HF]; rfl⟩
    exact (Below.refl _ _).alloc (Nat.le_refl _) _
end Go.Proofs.Ytbpolmdokdhkhaa

namespace Go.Proofs.Ytbpolmdokdhkhaa
open Go.RowKit

theorem alloc_new_at {w : World} {o : Obj} {n : Nat} (h : n = w.heap.size) : (w.alloc o).heap[n]? = some o := by subst h; exact heap_alloc_new w o

/-! ### reduce -/
def hasVarB (c : Nat × Nat) (v : Nat) : Bool := (c.1 ||| c.2) &&& bitOf v != 0
/-- From the innermost variable outwards. -/
def redQ (kind : Nat) : List (Nat × Bool) → Nat × Nat → Nat × Nat
  | [], c => c
  | v :: vs, c => if hasVarB c v.1 then (if pivotB kind v.2 then c else redQ kind vs (without c v.1)) else redQ kind vs c
theorem without_lt (c : Nat × Nat) (v : Int) (h : c.1 < 512 ∧ c.2 < 512) : (without c v).1 < 512 ∧ (without c v).2 < 512 := ⟨less_lt9 _ _ h.1, less_lt9 _ _ h.2⟩
theorem redQ_lt (kind : Nat) (vs : List (Nat × Bool)) : ∀ (c : Nat × Nat), c.1 < 512 ∧ c.2 < 512 → (redQ kind vs c).1 < 512 ∧ (redQ kind vs c).2 < 512 := by
  induction vs with
  | nil => intro c h; exact h
  | cons v vs ih =>
    intro c h
    rw [redQ]
    split
    · split
      · exact h
      · exact ih _ (without_lt _ _ h)
    · exact ih _ h
theorem redQ_step (kind : Nat) (vs : List (Nat × Bool)) (k : Nat) (h : k < vs.length) (c : Nat × Nat) :
    redQ kind (vs.take (k + 1)).reverse c = if hasVarB c vs[k].1 then (if pivotB kind vs[k].2 then c else redQ kind (vs.take k).reverse (without c vs[k].1)) else redQ kind (vs.take k).reverse c := by
  rw [List.take_succ_eq_append_getElem h, List.reverse_append]
  rfl

set_option maxRecDepth 100000 in
set_option maxHeartbeats 1600000 in
theorem reduce_any (b : Nat) (q : QS) (kind : Nat) (ss : List (Nat × Nat)) (vV vC vS : Value) (c : Nat × Nat) (w : World) (hP : PInv w b q kind ss vV vC vS) (hQ : QB q) (hc : c.1 < 512 ∧ c.2 < 512) :
    Calls Try.prog 82 #[.pointer (some ⟨b, 0, none⟩), SetV c] w fun e w' => e = .returned (SetV (redQ kind q.vars.reverse c)) ∧ Below w.heap.size w w' := by
  obtain ⟨aV, cV, rfl⟩ := own_form hP.oV
  have hbw := blk_lt hP.fb
  have hvl := hQ.vl
  have k0 : w.cell? ⟨b, 0, none⟩ = some (.slice aV q.vars.length cV) := by rw [blk_cell hP.fb]; rfl
  have k2 : w.cell? ⟨b, 2, none⟩ = some (.int .i64 kind) := by rw [blk_cell hP.fb]; rfl
  go_enter Try.func82, Try.ntmps82
  obtain ⟨p0, n0⟩ := c
  go_wp2_with fail
  go_loopg [5] (q.vars.length + 1) (fun m i wx => ∃ (k p n : Nat), i = .int .i64 ((k : Int) - 1) ∧ k + 1 ≤ m ∧ m ≤ k + 1 ∧ k ≤ q.vars.length ∧ p < 512 ∧ n < 512 ∧ redQ kind q.vars.reverse (p0, n0) = redQ kind (q.vars.take k).reverse (p, n) ∧ Below w.heap.size w wx ∧
     wx.heap[w.heap.size]? = some (.cells #[.int .i64 p, .int .i64 n] 96 (0, 0)) ∧ wx.heap[w.heap.size + 1]? = some (.cells #[.int .i64 0, .int .i64 0] 96 (0, 0)))
  case atStart => exact ⟨q.vars.length, p0, n0, by go_num, by omega, by omega, by omega, hc.1, hc.2, by rw [List.take_length], ((Below.refl _ _).alloc (Nat.le_refl _) _).alloc (by simp) _, by rw [heap_alloc_old _ _ (by simp)]; exact heap_alloc_new _ _, alloc_new_at (by simp)⟩
  case round =>
    obtain ⟨k, p, n, rfl, hkm, hkm2, hkl, hp, hn, hred, hb, hset, hres⟩ := hrel
    have HR := hide hred; clear hred
    have hs0 : wr.cell? ⟨w.heap.size, 0, none⟩ = some (.int .i64 p) := by rw [blk_cell hset]; rfl
    have hs1 : wr.cell? ⟨w.heap.size, 1, none⟩ = some (.int .i64 n) := by rw [blk_cell hset]; rfl
    have hr0 : wr.cell? ⟨w.heap.size + 1, 0, none⟩ = some (.int .i64 0) := by rw [blk_cell hres]; rfl
    have hr1 : wr.cell? ⟨w.heap.size + 1, 1, none⟩ = some (.int .i64 0) := by rw [blk_cell hres]; rfl
    have hz0 := blk_free hset 0
    have hz1 := blk_free hset 1
    have hy0 := blk_free hres 0
    have hy1 := blk_free hres 1
    have hbs := blk_lt hres
    have x0 : wr.cell? ⟨b, 0, none⟩ = some (.slice aV q.vars.length cV) := by rw [hb.cell (p := ⟨b, 0, none⟩) hbw]; exact k0
    have x2 : wr.cell? ⟨b, 2, none⟩ = some (.int .i64 kind) := by rw [hb.cell (p := ⟨b, 2, none⟩) hbw]; exact k2
    have hbs0 : w.heap.size < wr.heap.size := by omega
    have hbw1 : b < wr.heap.size := by omega
    cases k with
    | zero =>
      have HF : Hid (redQ kind q.vars.reverse (p0, n0) = (p, n)) := hide (by rw [unhide HR]; rfl)
      have hR := blk_set (blk_set hres 0 (.int .i64 p)) 1 (.int .i64 n)
      have j0 := blk_cell hR 0
      have j1 := blk_cell hR 1
      go_wp2_with fail
      refine bodyPost_ret (v := SetV (p, n)) (by simp [results, Try.results82, go_sem, j0, j1]) rfl ⟨by rw [unhide HF], ?_⟩
      exact (hb.setCell (p := ⟨w.heap.size + 1, 0, none⟩) (Nat.le_succ _) _).setCell (p := ⟨w.heap.size + 1, 1, none⟩) (Nat.le_succ _) _
    | succ k =>
      have hlt : k < q.vars.length := by omega
      obtain ⟨g, cap, hVe, hg, hg', _, hcell⟩ := own_pos hP.oV (by omega)
      injection hVe with hVe _ hV2
      subst hVe hV2
      obtain ⟨ha, hb'⟩ := varCells_at q.vars k hlt
      have hx0 : wr.cell? ⟨g, k * 2, none⟩ = some (.int .i64 (q.vars[k].1 : Int)) := by rw [hb.cell (p := ⟨g, k * 2, none⟩) hg']; exact hcell _ _ ha
      have hx1 : wr.cell? ⟨g, k * 2 + 1, none⟩ = some (.bool q.vars[k].2) := by rw [hb.cell (p := ⟨g, k * 2 + 1, none⟩) hg']; exact hcell _ _ hb'
      have hgw : g < wr.heap.size := by omega
      have HST := hide (redQ_step kind q.vars k hlt (p, n))
      clear hcell ha hb'
      generalize q.vars[k] = x at *
      obtain ⟨vn, vu⟩ := x
      dsimp only at *
      go_wp2_with fail
      refine (hasVar_any p n vn _ hp hn).mono ?_
      rintro e w2 ⟨rfl, hb2⟩
      have hw2 : Below wr.heap.size wr w2 := ((Below.refl _ wr).alloc (Nat.le_refl _) _).trans (hb2.mono (by simp))
      have hsz2 := hw2.size
      have hv2 : w2.heap[wr.heap.size]? = some (.cells #[.int .i64 vn, .bool vu] 91 (0, 0)) := (hb2.block _ (by simp)).trans (heap_alloc_new _ _)
      have hset2 := (hw2.block _ hbs0).trans hset
      have hres2 := (hw2.block _ hbs).trans hres
      have hbw2 : Below w.heap.size w w2 := hb.trans (hw2.mono (by omega))
      rw [show ((p ||| n) &&& bitOf vn != 0) = hasVarB (p, n) vn from rfl]
      cases hh : hasVarB (p, n) vn with
      | false =>
        have HF : Hid (redQ kind q.vars.reverse (p0, n0) = redQ kind (q.vars.take k).reverse (p, n)) := hide (by rw [unhide HR, unhide HST, hh]; rfl)
        go_wp2_with fail
        go_roundg (gk - 1)
        case measure => omega
        case rel => exact ⟨k, p, n, by go_num, by omega, by omega, by omega, hp, hn, unhide HF, hbw2, hset2, hres2⟩
      | true =>
        have y2 : w2.cell? ⟨b, 2, none⟩ = some (.int .i64 kind) := by rw [hbw2.cell (p := ⟨b, 2, none⟩) hbw]; exact k2
        have hc0 : w2.cell? ⟨wr.heap.size, 0, none⟩ = some (.int .i64 vn) := by rw [blk_cell hv2]; rfl
        have hc1 : w2.cell? ⟨wr.heap.size, 1, none⟩ = some (.bool vu) := by rw [blk_cell hv2]; rfl
        go_wp2_with fail
        refine (isPivot_any b kind vn vu w2 y2).mono ?_
        rintro e w3 ⟨rfl, hb3⟩
        have hv3 := (hb3.block _ (blk_lt hv2)).trans hv2
        have hset3 := (hb3.block _ (blk_lt hset2)).trans hset2
        have hres3 := (hb3.block _ (blk_lt hres2)).trans hres2
        have hbw3 : Below w.heap.size w w3 := hbw2.trans (hb3.mono hbw2.size)
        have e0 : w3.cell? ⟨w.heap.size, 0, none⟩ = some (.int .i64 p) := by rw [blk_cell hset3]; rfl
        have e1 : w3.cell? ⟨w.heap.size, 1, none⟩ = some (.int .i64 n) := by rw [blk_cell hset3]; rfl
        have f0 : w3.cell? ⟨w.heap.size + 1, 0, none⟩ = some (.int .i64 0) := by rw [blk_cell hres3]; rfl
        have f1 : w3.cell? ⟨w.heap.size + 1, 1, none⟩ = some (.int .i64 0) := by rw [blk_cell hres3]; rfl
        have g0 : w3.cell? ⟨wr.heap.size, 0, none⟩ = some (.int .i64 vn) := by rw [blk_cell hv3]; rfl
        have z0 := blk_free hset3 0
        have z1 := blk_free hset3 1
        have y0 := blk_free hres3 0
        have y1 := blk_free hres3 1
        cases hpv : pivotB kind vu with
        | true =>
          have HF : Hid (redQ kind q.vars.reverse (p0, n0) = (p, n)) := hide (by rw [unhide HR, unhide HST, hh, hpv]; rfl)
          have hR := blk_set (blk_set hres3 0 (.int .i64 p)) 1 (.int .i64 n)
          have j0 := blk_cell hR 0
          have j1 := blk_cell hR 1
          go_wp2_with fail
          refine bodyPost_ret (v := SetV (p, n)) (by simp [results, Try.results82, go_sem, j0, j1]) rfl ⟨by rw [unhide HF], ?_⟩
          exact (hbw3.setCell (p := ⟨w.heap.size + 1, 0, none⟩) (Nat.le_succ _) _).setCell (p := ⟨w.heap.size + 1, 1, none⟩) (Nat.le_succ _) _
        | false =>
          have HF : Hid (redQ kind q.vars.reverse (p0, n0) = redQ kind (q.vars.take k).reverse (without (p, n) vn)) := hide (by rw [unhide HR, unhide HST, hh, hpv]; rfl)
          have hwl := without_lt (p, n) vn ⟨hp, hn⟩
          go_wp2_with fail
          refine (withoutVar_any p n vn w3 hp hn).mono ?_
          rintro e w4 ⟨rfl, hb4⟩
          have hset4 := (hb4.block _ (blk_lt hset3)).trans hset3
          have hres4 := (hb4.block _ (blk_lt hres3)).trans hres3
          have hbw4 : Below w.heap.size w w4 := hbw3.trans (hb4.mono hbw3.size)
          have i0 : w4.cell? ⟨w.heap.size, 0, none⟩ = some (.int .i64 p) := by rw [blk_cell hset4]; rfl
          have i1 : w4.cell? ⟨w.heap.size, 1, none⟩ = some (.int .i64 n) := by rw [blk_cell hset4]; rfl
          have t0 := blk_free hset4 0
          have t1 := blk_free hset4 1
          generalize without (p, n) vn = c' at *
          obtain ⟨p', n'⟩ := c'
          go_wp2_with fail
          go_roundg (gk - 1)
          case measure => omega
          case rel =>
            refine ⟨k, p', n', by go_num, by omega, by omega, by omega, hwl.1, hwl.2, unhide HF, (hbw4.setCell (p := ⟨w.heap.size, 0, none⟩) (Nat.le_refl _) _).setCell (p := ⟨w.heap.size, 1, none⟩) (Nat.le_refl _) _, blk_set (blk_set hset4 0 _) 1 _, ?_⟩
            rw [Below.heap_setCell _ _ _ _ (by simp), Below.heap_setCell _ _ _ _ (by simp)]
            exact hres4
end Go.Proofs.Ytbpolmdokdhkhaa

namespace Go.Proofs.Ytbpolmdokdhkhaa
open Go.RowKit

/-- A step's literals, or that it is none. -/
def StPost (res : Option (Nat × Nat)) (w : World) (e : Ending) (w' : World) : Prop :=
  Below w.heap.size w w' ∧ ∃ (c : Nat × Nat) (ok : Bool), e = .returned (.tuple #[SetV c, .bool ok]) ∧ (c.1 < 512 ∧ c.2 < 512) ∧ ((ok = true ∧ res = some c) ∨ (ok = false ∧ res = none))
theorem StPost.none_ {res : Option (Nat × Nat)} {w w' : World} {e : Ending} (hb : Below w.heap.size w w') (h : res = none) (c : Nat × Nat) (hc : c.1 < 512 ∧ c.2 < 512) (he : e = .returned (.tuple #[SetV c, .bool false])) : StPost res w e w' :=
  ⟨hb, c, false, he, hc, Or.inr ⟨rfl, h⟩⟩
theorem StPost.some_ {res : Option (Nat × Nat)} {w w' : World} {e : Ending} (hb : Below w.heap.size w w') (c : Nat × Nat) (h : res = some c) (hc : c.1 < 512 ∧ c.2 < 512) (he : e = .returned (.tuple #[SetV c, .bool true])) : StPost res w e w' :=
  ⟨hb, c, true, he, hc, Or.inl ⟨rfl, h⟩⟩
theorem zero_lt9 : ((0 : Nat), (0 : Nat)).1 < 512 ∧ ((0 : Nat), (0 : Nat)).2 < 512 := by decide
theorem ahead_lt {ss : List (Nat × Nat)} (h : SB ss) (l : List UInt8) : ((aheadQ ss l).getD (0, 0)).1 < 512 ∧ ((aheadQ ss l).getD (0, 0)).2 < 512 := by
  unfold aheadQ
  cases numOf l ss.length with
  | none => exact zero_lt9
  | some n =>
    show ((ss[n - 1]?).getD (0, 0)).1 < 512 ∧ ((ss[n - 1]?).getD (0, 0)).2 < 512
    cases hn : ss[n - 1]? with
    | none => exact zero_lt9
    | some c => exact h.bits c (List.mem_of_getElem? hn)

/-! ### readReduct -/
def reductQ (q : QS) (kind : Nat) (ss : List (Nat × Nat)) (ws : List (List UInt8)) : Option (Nat × Nat) :=
  match ws with
  | [x] => (aheadQ ss x).map (redQ kind q.vars.reverse)
  | _ => none

set_option maxRecDepth 100000 in
set_option maxHeartbeats 1600000 in
theorem readReduct_any (b : Nat) (q : QS) (kind : Nat) (ss : List (Nat × Nat)) (vV vC vS : Value) (ws : List (List UInt8)) (ao : Option Addr) (cap : Nat) (w : World) (hP : PInv w b q kind ss vV vC vS) (hQ : QB q) (hS : SB ss)
    (hs : StrsAt w ao ws) (hl : ws.length ≤ 1048576) (hws : ∀ x ∈ ws, x.length ≤ 1048576) :
    Calls Try.prog 63 #[.pointer (some ⟨b, 0, none⟩), .slice ao ws.length cap] w fun e w' => StPost (reductQ q kind ss ws) w e w' := by
  by_cases h1 : ws.length = 1
  · obtain ⟨x, rfl⟩ := List.length_eq_one_iff.1 h1
    clear h1
    obtain ⟨g, off, cur, rfl, hg, hcur⟩ := hs (by simp)
    have hxc : w.cell? ⟨g, off, none⟩ = some (S x) := by rw [blk_cell hg]; exact hcur 0 (by simp)
    have hgw := blk_lt hg
    have hxl := hws x (by simp)
    clear hcur hws
    have hrs := heap_alloc_new w (.cells #[.int .i64 0, .int .i64 0] 96)
    go_enter Try.func63, Try.ntmps63
    go_wp2_with fail
    have hA0 : Below w.heap.size w (w.alloc (.cells #[.int .i64 0, .int .i64 0] 96)) := (Below.refl _ _).alloc (Nat.le_refl _) _
    refine (stepAhead_any b q kind ss vV vC vS x _ (hP.later hA0) hS hxl).mono ?_
    rintro e w1 ⟨hb1, rfl⟩
    have hlt := ahead_lt hS x
    have HR : Hid (reductQ q kind ss [x] = (aheadQ ss x).map (redQ kind q.vars.reverse)) := hide rfl
    have hr1 := (hb1.block _ (blk_lt hrs)).trans hrs
    have hB1 : Below w.heap.size w w1 := hA0.trans (hb1.mono hA0.size)
    have HC : Hid ((aheadQ ss x).isSome = true → aheadQ ss x = some ((aheadQ ss x).getD (0, 0))) := hide (by
      cases aheadQ ss x with
      | none => intro h; cases h
      | some c => intro _; rfl)
    have HN : Hid ((aheadQ ss x).isSome = false → aheadQ ss x = none) := hide (by
      cases aheadQ ss x with
      | none => intro _; rfl
      | some c => intro h; cases h)
    generalize (aheadQ ss x).getD (0, 0) = c at *
    obtain ⟨p, n⟩ := c
    go_wp2_with fail
    have hA1 : Below w1.heap.size w1 (w1.alloc (.cells #[.int .i64 (p : Int), .int .i64 (n : Int)] 96)) := (Below.refl _ _).alloc (Nat.le_refl _) _
    have hB2 : Below w.heap.size w (w1.alloc (.cells #[.int .i64 (p : Int), .int .i64 (n : Int)] 96)) := hB1.trans (hA1.mono hB1.size)
    have hr2 := (hA1.block _ (blk_lt hr1)).trans hr1
    refine (reduce_any b q kind ss vV vC vS (p, n) _ (hP.later hB2) hQ hlt).mono ?_
    rintro e w2 ⟨rfl, hb2⟩
    have hr3 := (hb2.block _ (blk_lt hr2)).trans hr2
    have hB3 : Below w.heap.size w w2 := hB2.trans (hb2.mono hB2.size)
    have f0 : w2.cell? ⟨w.heap.size, 0, none⟩ = some (.int .i64 0) := by rw [blk_cell hr3]; rfl
    have f1 : w2.cell? ⟨w.heap.size, 1, none⟩ = some (.int .i64 0) := by rw [blk_cell hr3]; rfl
    have y0 := blk_free hr3 0
    have y1 := blk_free hr3 1
    have hltR := redQ_lt kind q.vars.reverse (p, n) hlt
    have HRC : Hid ((aheadQ ss x).isSome = true → reductQ q kind ss [x] = some (redQ kind q.vars.reverse (p, n))) := hide (fun h => by rw [unhide HR, unhide HC h]; rfl)
    have HRN : Hid ((aheadQ ss x).isSome = false → reductQ q kind ss [x] = none) := hide (fun h => by rw [unhide HR, unhide HN h]; rfl)
    generalize redQ kind q.vars.reverse (p, n) = c at *
    obtain ⟨p', n'⟩ := c
    have hR := blk_set (blk_set hr3 0 (.int .i64 p')) 1 (.int .i64 n')
    have j0 := blk_cell hR 0
    have j1 := blk_cell hR 1
    cases hok : (aheadQ ss x).isSome with
    | true =>
      have HF := hide (unhide HRC hok)
      clear hok
      go_wp2_with fail
      refine bodyPost_ret (v := .tuple #[SetV (p', n'), .bool true]) (by simp [results, Try.results63, go_sem, j0, j1]) rfl (StPost.some_ ?_ (p', n') (unhide HF) hltR rfl)
      exact (hB3.setCell (p := ⟨w.heap.size, 0, none⟩) (Nat.le_refl _) _).setCell (p := ⟨w.heap.size, 1, none⟩) (Nat.le_refl _) _
    | false =>
      have HF := hide (unhide HRN hok)
      clear hok
      go_wp2_with fail
      refine bodyPost_ret (v := .tuple #[SetV (p', n'), .bool false]) (by simp [results, Try.results63, go_sem, j0, j1]) rfl (StPost.none_ ?_ (unhide HF) (p', n') hltR rfl)
      exact (hB3.setCell (p := ⟨w.heap.size, 0, none⟩) (Nat.le_refl _) _).setCell (p := ⟨w.heap.size, 1, none⟩) (Nat.le_refl _) _
  · have HR : Hid (reductQ q kind ss ws = none) := hide (by
      unfold reductQ; split
      · simp at h1
      · rfl)
    have hb1 : ((ws.length : Int) != 1) = true := by rw [bne_iff_ne]; omega
    clear h1
    go_enter Try.func63, Try.ntmps63
    go_wp2_with fail
    refine bodyPost_ret (v := .tuple #[SetV (0, 0), .bool false]) (by simp [results, Try.results63, go_sem]) rfl (StPost.none_ ?_ (unhide HR) (0, 0) zero_lt9 rfl)
    exact (Below.refl _ _).alloc (Nat.le_refl _) _

theorem number_same (l : List UInt8) (most : Nat) (w : World) (hl : l.length ≤ 1048576) (hm : most ≤ 1048576) :
    Calls Try.prog 72 #[.string ⟨l.toArray⟩, .int .i64 most] w fun e w' => e = .returned (.tuple #[.int .i64 ((numOf l most).getD 0 : Nat), .bool (numOf l most).isSome]) ∧ w' = w :=
  (number_any l most w hl hm).mono fun _ _ h => ⟨h.2, h.1⟩

/-! ### readAxiom -/
def axiomQ (q : QS) (kind : Nat) (ws : List (List UInt8)) : Option (Nat × Nat) :=
  if kind = 1 then
    match ws with
    | [x] => (numOf x q.cl.length).bind (fun k => (q.cl[k - 1]?).bind (fun c => if c.1 &&& c.2 != 0 then none else some c))
    | _ => none
  else none

set_option maxRecDepth 100000 in
set_option maxHeartbeats 1600000 in
theorem readAxiom_any (b : Nat) (q : QS) (kind : Nat) (ss : List (Nat × Nat)) (vV vC vS : Value) (ws : List (List UInt8)) (ao : Option Addr) (cap : Nat) (w : World) (hP : PInv w b q kind ss vV vC vS) (hQ : QB q)
    (hs : StrsAt w ao ws) (hl : ws.length ≤ 1048576) (hws : ∀ x ∈ ws, x.length ≤ 1048576) :
    Calls Try.prog 60 #[.pointer (some ⟨b, 0, none⟩), .slice ao ws.length cap] w fun e w' => StPost (axiomQ q kind ws) w e w' := by
  have hbw := blk_lt hP.fb
  have k2 : w.cell? ⟨b, 2, none⟩ = some (.int .i64 kind) := by rw [blk_cell hP.fb]; rfl
  have hcl := hQ.cl
  by_cases hk : kind = 1
  · have hkb : ((kind : Int) != 1) = false := by rw [bne_eq_false_iff_eq]; omega
    by_cases h1 : ws.length = 1
    · obtain ⟨x, rfl⟩ := List.length_eq_one_iff.1 h1
      clear h1
      have HR : Hid (axiomQ q kind [x] = (numOf x q.cl.length).bind (fun k => (q.cl[k - 1]?).bind (fun c => if c.1 &&& c.2 != 0 then none else some c))) := hide (by unfold axiomQ; rw [if_pos hk])
      clear hk
      obtain ⟨g, off, cur, rfl, hg, hcur⟩ := hs (by simp)
      have hxc : w.cell? ⟨g, off, none⟩ = some (S x) := by rw [blk_cell hg]; exact hcur 0 (by simp)
      have hgw := blk_lt hg
      have hxl := hws x (by simp)
      clear hcur hws
      obtain ⟨aC, cC, rfl⟩ := own_form hP.oC
      have k1 : w.cell? ⟨b, 1, none⟩ = some (.slice aC q.cl.length cC) := by rw [blk_cell hP.fb]; rfl
      have hrs := heap_alloc_new w (.cells #[.int .i64 0, .int .i64 0] 96)
      have hA0 : Below w.heap.size w (w.alloc (.cells #[.int .i64 0, .int .i64 0] 96)) := (Below.refl _ _).alloc (Nat.le_refl _) _
      go_enter Try.func60, Try.ntmps60
      go_wp2_with fail
      go_quiet ((go_at_call 72; exact Calls.quiet_of_same (number_same x q.cl.length _ hxl (by omega))))
      cases hn : numOf x q.cl.length with
      | none =>
        have HF : Hid (axiomQ q kind [x] = none) := hide (by rw [unhide HR, hn]; rfl)
        go_wp2_with fail
        refine bodyPost_ret (v := .tuple #[SetV (0, 0), .bool false]) (by simp [results, Try.results60, go_sem]) rfl (StPost.none_ ?_ (unhide HF) (0, 0) zero_lt9 rfl)
        exact ((below_drewN hA0 nq).setCell (p := ⟨w.heap.size, 0, none⟩) (Nat.le_refl _) _).setCell (p := ⟨w.heap.size, 1, none⟩) (Nat.le_refl _) _
      | some n =>
        obtain ⟨hn1, hn2⟩ := numOf_range hn
        obtain ⟨m, rfl⟩ : ∃ m, n = m + 1 := ⟨n - 1, by omega⟩
        have hm : m < q.cl.length := by omega
        have HF : Hid (axiomQ q kind [x] = if q.cl[m].1 &&& q.cl[m].2 != 0 then none else some q.cl[m]) := hide (by rw [unhide HR, hn]; simp [hm])
        obtain ⟨g2, cap2, hVe, hg2, hg2', _, hcell⟩ := own_pos hP.oC (by omega)
        injection hVe with hVe _ hV2
        subst hVe hV2
        obtain ⟨ha, hb'⟩ := pairs_at q.cl m hm
        have hx0 : w.cell? ⟨g2, m * 2, none⟩ = some (.int .i64 (q.cl[m].1 : Int)) := hcell _ _ ha
        have hx1 : w.cell? ⟨g2, m * 2 + 1, none⟩ = some (.int .i64 (q.cl[m].2 : Int)) := hcell _ _ hb'
        have hlt := hQ.bits _ (List.getElem_mem hm)
        clear hcell ha hb' hn
        generalize q.cl[m] = c at *
        obtain ⟨p, n⟩ := c
        dsimp only at *
        go_wp2_with fail
        have hz1 : (((w.alloc (.cells #[.int .i64 0, .int .i64 0] 96)).drewN nq).alloc (.cells #[.int .i64 (p : Int), .int .i64 (n : Int)] 96)).heap[w.heap.size]? = some (.cells #[.int .i64 0, .int .i64 0] 96 (0, 0)) := by
          rw [heap_alloc_old _ _ (by rw [World.heap_drewN]; simp), World.heap_drewN]; exact hrs
        have hz2 : (((w.alloc (.cells #[.int .i64 0, .int .i64 0] 96)).drewN nq).alloc (.cells #[.int .i64 (p : Int), .int .i64 (n : Int)] 96)).heap[w.heap.size + 1]? = some (.cells #[.int .i64 (p : Int), .int .i64 (n : Int)] 96 (0, 0)) := alloc_new_at (by rw [World.heap_drewN]; simp)
        have hz3 : Below w.heap.size w (((w.alloc (.cells #[.int .i64 0, .int .i64 0] 96)).drewN nq).alloc (.cells #[.int .i64 (p : Int), .int .i64 (n : Int)] 96)) := (below_drewN hA0 nq).alloc (by rw [World.heap_drewN]; simp) _
        generalize (((w.alloc (.cells #[.int .i64 0, .int .i64 0] 96)).drewN nq).alloc (.cells #[.int .i64 (p : Int), .int .i64 (n : Int)] 96)) = wz at *
        have i0 : wz.cell? ⟨w.heap.size + 1, 0, none⟩ = some (.int .i64 p) := by rw [blk_cell hz2]; rfl
        have i1 : wz.cell? ⟨w.heap.size + 1, 1, none⟩ = some (.int .i64 n) := by rw [blk_cell hz2]; rfl
        go_region_with (go_at_call 74; refine (clashes_any p n _ hlt.1 hlt.2).mono ?_; rintro e w1 ⟨rfl, hb1⟩; have hy1 := (hb1.block _ (blk_lt hz1)).trans hz1; have hy2 := (hb1.block _ (blk_lt hz2)).trans hz2; have f0 : w1.cell? ⟨w.heap.size, 0, none⟩ = some (.int .i64 0) := (by rw [blk_cell hy1]; rfl); have f1 : w1.cell? ⟨w.heap.size, 1, none⟩ = some (.int .i64 0) := (by rw [blk_cell hy1]; rfl); have t0 := blk_free hy1 0; have t1 := blk_free hy1 1; have l0 : w1.cell? ⟨w.heap.size + 1, 0, none⟩ = some (.int .i64 p) := (by rw [blk_cell hy2]; rfl); have l1 : w1.cell? ⟨w.heap.size + 1, 1, none⟩ = some (.int .i64 n) := (by rw [blk_cell hy2]; rfl); have hbz : Below w.heap.size w w1 := hz3.drew.trans (hb1.mono hz3.size))
        all_goals go_wp2_with fail
        all_goals
          have hR := blk_set (blk_set hy1 0 (.int .i64 p)) 1 (.int .i64 n)
          have j0 := blk_cell hR 0
          have j1 := blk_cell hR 1
          refine bodyPost_ret (v := .tuple #[SetV (p, n), .bool (!(p &&& n != 0))]) (by simp [results, Try.results60, go_sem, j0, j1]) rfl ?_
          have hB : Below w.heap.size w ((w1.setCell ⟨w.heap.size, 0, none⟩ (.int .i64 p)).setCell ⟨w.heap.size, 1, none⟩ (.int .i64 n)) := (hbz.setCell (p := ⟨w.heap.size, 0, none⟩) (Nat.le_refl _) _).setCell (p := ⟨w.heap.size, 1, none⟩) (Nat.le_refl _) _
          cases hcl : (p &&& n != 0) with
          | true => exact StPost.none_ hB (by rw [unhide HF, hcl]; rfl) (p, n) hlt rfl
          | false => exact StPost.some_ hB (p, n) (by rw [unhide HF, hcl]; rfl) hlt rfl
    · have HR : Hid (axiomQ q kind ws = none) := hide (by
        unfold axiomQ; rw [if_pos hk]; split
        · simp at h1
        · rfl)
      have hb1 : ((ws.length : Int) != 1) = true := by rw [bne_iff_ne]; omega
      clear h1 hk
      go_enter Try.func60, Try.ntmps60
      go_wp2_with fail
      refine bodyPost_ret (v := .tuple #[SetV (0, 0), .bool false]) (by simp [results, Try.results60, go_sem]) rfl (StPost.none_ ?_ (unhide HR) (0, 0) zero_lt9 rfl)
      exact (Below.refl _ _).alloc (Nat.le_refl _) _
  · have HR : Hid (axiomQ q kind ws = none) := hide (by unfold axiomQ; rw [if_neg hk])
    have hb1 : ((kind : Int) != 1) = true := by rw [bne_iff_ne]; omega
    clear hk
    go_enter Try.func60, Try.ntmps60
    go_wp2_with fail
    refine bodyPost_ret (v := .tuple #[SetV (0, 0), .bool false]) (by simp [results, Try.results60, go_sem]) rfl (StPost.none_ ?_ (unhide HR) (0, 0) zero_lt9 rfl)
    exact (Below.refl _ _).alloc (Nat.le_refl _) _

/-! ### readPivot -/
def pivQ (q : QS) (kind : Nat) (l : List UInt8) : Option Nat :=
  if 0 < dig l then (findV q.vars (dig l).toNat).bind (fun x => if pivotB kind x.2 then some (dig l).toNat else none) else none
def PivPost (res : Option Nat) (w : World) (e : Ending) (w' : World) : Prop :=
  Below w.heap.size w w' ∧ ∃ (n : Nat) (ok : Bool), e = .returned (.tuple #[.int .i64 n, .bool ok]) ∧ n ≤ 8 ∧ ((ok = true ∧ res = some n ∧ 1 ≤ n) ∨ (ok = false ∧ res = none))

set_option maxRecDepth 100000 in
set_option maxHeartbeats 1600000 in
theorem readPivot_any (b : Nat) (q : QS) (kind : Nat) (ss : List (Nat × Nat)) (vV vC vS : Value) (l : List UInt8) (w : World) (hP : PInv w b q kind ss vV vC vS) (hQ : QB q) (hl : l.length ≤ 1048576) :
    Calls Try.prog 78 #[.pointer (some ⟨b, 0, none⟩), .string ⟨l.toArray⟩] w fun e w' => PivPost (pivQ q kind l) w e w' := by
  have hbw := blk_lt hP.fb
  have hvl := hQ.vl
  have k0 : w.cell? ⟨b, 0, none⟩ = some vV := by rw [blk_cell hP.fb]; rfl
  obtain ⟨d0, d1⟩ := dig_bd l
  obtain ⟨dn, hdn⟩ := Int.eq_ofNat_of_zero_le d0
  have HR : Hid (pivQ q kind l = if 0 < dn then (findV q.vars dn).bind (fun x => if pivotB kind x.2 then some dn else none) else none) := hide (by
    unfold pivQ; rw [hdn]; simp)
  go_enter Try.func78, Try.ntmps78
  go_wp2_with fail
  refine (variable_any l w hl).mono ?_
  rintro e w1 ⟨hw1, rfl⟩
  subst hw1
  rw [hdn]
  have hdn8 : dn ≤ 8 := by omega
  clear hdn d0 d1
  by_cases hz : dn = 0
  · have hdz : decide (0 < dn) = false := by simp; omega
    have HF : Hid (pivQ q kind l = none) := hide (by rw [unhide HR, if_neg (by omega)])
    clear hz
    go_wp2_with fail
    go_ret2
    exact ⟨Below.refl _ _, 0, false, rfl, by omega, Or.inr ⟨rfl, unhide HF⟩⟩
  · have hdz : decide (0 < dn) = true := by simp; omega
    have h1 : 1 ≤ dn := by omega
    have HF : Hid (pivQ q kind l = (findV q.vars dn).bind (fun x => if pivotB kind x.2 then some dn else none)) := hide (by rw [unhide HR, if_pos (by omega)])
    clear hz
    go_wp2_with fail
    refine (find_any 0 b q.vars vV dn w1 k0 hP.oV (by omega)).mono ?_
    rintro e w2 ⟨hb2, rfl⟩
    have x2 : w2.cell? ⟨b, 2, none⟩ = some (.int .i64 kind) := by rw [blk_cell (hP.later hb2).fb]; rfl
    have hbw2 := cell_lt x2
    cases hfd : findV q.vars dn with
    | none =>
      rw [hfd] at HF
      go_wp2_with fail
      go_ret2
      exact ⟨hb2.alloc hb2.size _, dn, false, rfl, hdn8, Or.inr ⟨rfl, unhide HF⟩⟩
    | some x =>
      rw [hfd] at HF
      obtain ⟨xn, xu⟩ := x
      dsimp only [Option.getD_some, Option.isSome_some]
      have hb2a : Below w1.heap.size w1 (w2.alloc (.cells #[.int .i64 (xn : Int), .bool xu] 91)) := hb2.alloc hb2.size _
      go_wp2_with fail
      refine (isPivot_any b kind xn xu _ (by rw [hb2a.cell (p := ⟨b, 2, none⟩) hbw]; rw [blk_cell hP.fb]; rfl)).mono ?_
      rintro e w3 ⟨rfl, hb3⟩
      have hb3' : Below w1.heap.size w1 w3 := hb2a.trans (hb3.mono hb2a.size)
      cases hpv : pivotB kind xu with
      | true =>
        have HG : Hid (pivQ q kind l = some dn) := hide (by rw [unhide HF]; simp [hpv])
        go_wp2_with fail
        go_ret2
        exact ⟨hb3', dn, true, rfl, hdn8, Or.inl ⟨rfl, unhide HG, h1⟩⟩
      | false =>
        have HG : Hid (pivQ q kind l = none) := hide (by rw [unhide HF]; simp [hpv])
        go_wp2_with fail
        go_ret2
        exact ⟨hb3', dn, false, rfl, hdn8, Or.inr ⟨rfl, unhide HG⟩⟩
end Go.Proofs.Ytbpolmdokdhkhaa

namespace Go.Proofs.Ytbpolmdokdhkhaa
open Go.RowKit

/-! ### readResolvent -/
def without2 (a b : Nat × Nat) (v : Nat) : Nat × Nat := without (a.1 ||| b.1, a.2 ||| b.2) v
def resQ2 (a b : Nat × Nat) (v : Nat) : Option (Nat × Nat) :=
  if hasLit a v = true ∧ hasLit b (-(v : Int)) = true then (if (without2 a b v).1 &&& (without2 a b v).2 != 0 then none else some (without2 a b v)) else none
def resQ (q : QS) (kind : Nat) (ss : List (Nat × Nat)) (ws : List (List UInt8)) : Option (Nat × Nat) :=
  match ws with
  | [x, y, z] => (aheadQ ss x).bind fun a => (aheadQ ss y).bind fun b => (pivQ q kind z).bind fun v => resQ2 a b v
  | _ => none
theorem wrap_neg_small (v : Nat) (h : v ≤ 8) : IntKind.i64.wrap (-(v : Int)) = -(v : Int) := by
  have : ∀ v : Fin 9, IntKind.i64.wrap (-(v.val : Int)) = -(v.val : Int) := by decide
  exact this ⟨v, by omega⟩
theorem opt_isSome {α : Type} (o : Option α) (d : α) : (o.isSome = true → o = some (o.getD d)) ∧ (o.isSome = false → o = none) := by
  cases o with
  | none => exact ⟨fun h => (by cases h), fun _ => rfl⟩
  | some c => exact ⟨fun _ => rfl, fun h => (by cases h)⟩
theorem len_three {α : Type} {l : List α} (h : l.length = 3) : ∃ x y z, l = [x, y, z] := by
  match l, h with
  | [x, y, z], _ => exact ⟨x, y, z, rfl⟩

set_option maxRecDepth 100000 in
set_option maxHeartbeats 3200000 in
theorem readResolvent_any (b : Nat) (q : QS) (kind : Nat) (ss : List (Nat × Nat)) (vV vC vS : Value) (ws : List (List UInt8)) (ao : Option Addr) (cap : Nat) (w : World) (hP : PInv w b q kind ss vV vC vS) (hQ : QB q) (hS : SB ss)
    (hs : StrsAt w ao ws) (hl : ws.length ≤ 1048576) (hws : ∀ x ∈ ws, x.length ≤ 1048576) :
    Calls Try.prog 62 #[.pointer (some ⟨b, 0, none⟩), .slice ao ws.length cap] w fun e w' => StPost (resQ q kind ss ws) w e w' := by
  by_cases h3 : ws.length = 3
  · obtain ⟨x, y, z, rfl⟩ := len_three h3
    clear h3
    obtain ⟨g, off, cur, rfl, hg, hcur⟩ := hs (by simp)
    have hgw := blk_lt hg
    have hx : w.cell? ⟨g, off, none⟩ = some (S x) := by rw [blk_cell hg]; exact hcur 0 (by simp)
    have hy : w.cell? ⟨g, off + 1, none⟩ = some (S y) := by rw [blk_cell hg]; exact hcur 1 (by simp)
    have hz : w.cell? ⟨g, off + 2, none⟩ = some (S z) := by rw [blk_cell hg]; exact hcur 2 (by simp)
    have hxl := hws x (by simp)
    have hyl := hws y (by simp)
    have hzl := hws z (by simp)
    clear hcur hws
    have HR : Hid (resQ q kind ss [x, y, z] = (aheadQ ss x).bind fun a => (aheadQ ss y).bind fun b => (pivQ q kind z).bind fun v => resQ2 a b v) := hide rfl
    have hr0 := heap_alloc_new w (.cells #[.int .i64 0, .int .i64 0] 96)
    have hB0 : Below w.heap.size w (w.alloc (.cells #[.int .i64 0, .int .i64 0] 96)) := (Below.refl _ _).alloc (Nat.le_refl _) _
    go_enter Try.func62, Try.ntmps62
    go_wp2_with fail
    refine (stepAhead_any b q kind ss vV vC vS x _ (hP.later hB0) hS hxl).mono ?_
    rintro e w1 ⟨hb1, rfl⟩
    have hlt1 := ahead_lt hS x
    obtain ⟨HC1, HN1⟩ : Hid ((aheadQ ss x).isSome = true → aheadQ ss x = some ((aheadQ ss x).getD (0, 0))) ∧ Hid ((aheadQ ss x).isSome = false → aheadQ ss x = none) := ⟨hide (opt_isSome _ _).1, hide (opt_isSome _ (0, 0)).2⟩
    generalize (aheadQ ss x).getD (0, 0) = c1 at *
    generalize (aheadQ ss x).isSome = o1 at *
    obtain ⟨p1, n1⟩ := c1
    have hB1 : Below w.heap.size w w1 := hB0.trans (hb1.mono hB0.size)
    have hr1 := (hb1.block _ (blk_lt hr0)).trans hr0
    have y1 : w1.cell? ⟨g, off + 1, none⟩ = some (S y) := by rw [hB1.cell (p := ⟨g, off + 1, none⟩) hgw]; exact hy
    have hA1 : Below w1.heap.size w1 (w1.alloc (.cells #[.int .i64 (p1 : Int), .int .i64 (n1 : Int)] 96)) := (Below.refl _ _).alloc (Nat.le_refl _) _
    have hB1a : Below w.heap.size w (w1.alloc (.cells #[.int .i64 (p1 : Int), .int .i64 (n1 : Int)] 96)) := hB1.trans (hA1.mono hB1.size)
    have hr1a := (hA1.block _ (blk_lt hr1)).trans hr1
    have hf1a := heap_alloc_new w1 (.cells #[.int .i64 (p1 : Int), .int .i64 (n1 : Int)] 96)
    have hgw1 : g < w1.heap.size := Nat.lt_of_lt_of_le hgw hB1.size
    go_wp2_with fail
    refine (stepAhead_any b q kind ss vV vC vS y _ (hP.later hB1a) hS hyl).mono ?_
    rintro e w2 ⟨hb2, rfl⟩
    have hlt2 := ahead_lt hS y
    obtain ⟨HC2, HN2⟩ : Hid ((aheadQ ss y).isSome = true → aheadQ ss y = some ((aheadQ ss y).getD (0, 0))) ∧ Hid ((aheadQ ss y).isSome = false → aheadQ ss y = none) := ⟨hide (opt_isSome _ _).1, hide (opt_isSome _ (0, 0)).2⟩
    generalize (aheadQ ss y).getD (0, 0) = c2 at *
    generalize (aheadQ ss y).isSome = o2 at *
    obtain ⟨p2, n2⟩ := c2
    have hB2 : Below w.heap.size w w2 := hB1a.trans (hb2.mono hB1a.size)
    have hr2 := (hb2.block _ (blk_lt hr1a)).trans hr1a
    have hf2 := (hb2.block _ (blk_lt hf1a)).trans hf1a
    have z2 : w2.cell? ⟨g, off + 2, none⟩ = some (S z) := by rw [hB2.cell (p := ⟨g, off + 2, none⟩) hgw]; exact hz
    have hA2 : Below w2.heap.size w2 (w2.alloc (.cells #[.int .i64 (p2 : Int), .int .i64 (n2 : Int)] 96)) := (Below.refl _ _).alloc (Nat.le_refl _) _
    have hB2a : Below w.heap.size w (w2.alloc (.cells #[.int .i64 (p2 : Int), .int .i64 (n2 : Int)] 96)) := hB2.trans (hA2.mono hB2.size)
    have hr2a := (hA2.block _ (blk_lt hr2)).trans hr2
    have hf2a := (hA2.block _ (blk_lt hf2)).trans hf2
    have hs2a := heap_alloc_new w2 (.cells #[.int .i64 (p2 : Int), .int .i64 (n2 : Int)] 96)
    have hgw2 : g < w2.heap.size := Nat.lt_of_lt_of_le hgw hB2.size
    go_wp2_with fail
    refine (readPivot_any b q kind ss vV vC vS z _ (hP.later hB2a) hQ hzl).mono ?_
    rintro e w3 ⟨hb3, v, o3, rfl, hv8, hpv⟩
    have hB3 : Below w.heap.size w w3 := hB2a.trans (hb3.mono hB2a.size)
    have hr3 := (hb3.block _ (blk_lt hr2a)).trans hr2a
    have hf3 := (hb3.block _ (blk_lt hf2a)).trans hf2a
    have hs3 := (hb3.block _ (blk_lt hs2a)).trans hs2a
    have r30 : w3.cell? ⟨w.heap.size, 0, none⟩ = some (.int .i64 0) := by rw [blk_cell hr3]; rfl
    have r31 : w3.cell? ⟨w.heap.size, 1, none⟩ = some (.int .i64 0) := by rw [blk_cell hr3]; rfl
    have f30 : w3.cell? ⟨w1.heap.size, 0, none⟩ = some (.int .i64 p1) := by rw [blk_cell hf3]; rfl
    have f31 : w3.cell? ⟨w1.heap.size, 1, none⟩ = some (.int .i64 n1) := by rw [blk_cell hf3]; rfl
    have s30 : w3.cell? ⟨w2.heap.size, 0, none⟩ = some (.int .i64 p2) := by rw [blk_cell hs3]; rfl
    have s31 : w3.cell? ⟨w2.heap.size, 1, none⟩ = some (.int .i64 n2) := by rw [blk_cell hs3]; rfl
    have zr0 := blk_free hr3 0
    have zr1 := blk_free hr3 1
    have hE3 : Below w.heap.size w ((w3.setCell ⟨w.heap.size, 0, none⟩ (.int .i64 0)).setCell ⟨w.heap.size, 1, none⟩ (.int .i64 0)) := (hB3.setCell (p := ⟨w.heap.size, 0, none⟩) (Nat.le_refl _) _).setCell (p := ⟨w.heap.size, 1, none⟩) (Nat.le_refl _) _
    have hRn := blk_set (blk_set hr3 0 (.int .i64 0)) 1 (.int .i64 0)
    have jn0 := blk_cell hRn 0
    have jn1 := blk_cell hRn 1
    cases o1 with
    | false =>
      have HF : Hid (resQ q kind ss [x, y, z] = none) := hide (by rw [unhide HR, unhide HN1 rfl]; rfl)
      go_wp2_with fail
      refine bodyPost_ret (v := .tuple #[SetV (0, 0), .bool false]) (by simp [results, Try.results62, go_sem, jn0, jn1]) rfl (StPost.none_ hE3 (unhide HF) (0, 0) zero_lt9 rfl)
    | true =>
      cases o2 with
      | false =>
        have HF : Hid (resQ q kind ss [x, y, z] = none) := hide (by rw [unhide HR, unhide HN2 rfl, unhide HC1 rfl]; rfl)
        go_wp2_with fail
        refine bodyPost_ret (v := .tuple #[SetV (0, 0), .bool false]) (by simp [results, Try.results62, go_sem, jn0, jn1]) rfl (StPost.none_ hE3 (unhide HF) (0, 0) zero_lt9 rfl)
      | true =>
        rcases hpv with ⟨rfl, hpv, hv1⟩ | ⟨rfl, hpv⟩
        · have HF : Hid (resQ q kind ss [x, y, z] = resQ2 (p1, n1) (p2, n2) v) := hide (by rw [unhide HR, unhide HC2 rfl, unhide HC1 rfl, hpv]; rfl)
          have hwn := wrap_neg_small v hv8
          clear hpv
          go_wp2_with fail
          refine (has_any p1 n1 v w3 hlt1.1 hlt1.2 (by omega) (by omega)).mono ?_
          rintro e w4 ⟨rfl, hb4⟩
          have hB4 : Below w.heap.size w w4 := hB3.trans (hb4.mono hB3.size)
          have hr4 := (hb4.block _ (blk_lt hr3)).trans hr3
          have hf4 := (hb4.block _ (blk_lt hf3)).trans hf3
          have hs4 := (hb4.block _ (blk_lt hs3)).trans hs3
          have r40 : w4.cell? ⟨w.heap.size, 0, none⟩ = some (.int .i64 0) := by rw [blk_cell hr4]; rfl
          have r41 : w4.cell? ⟨w.heap.size, 1, none⟩ = some (.int .i64 0) := by rw [blk_cell hr4]; rfl
          have s40 : w4.cell? ⟨w2.heap.size, 0, none⟩ = some (.int .i64 p2) := by rw [blk_cell hs4]; rfl
          have s41 : w4.cell? ⟨w2.heap.size, 1, none⟩ = some (.int .i64 n2) := by rw [blk_cell hs4]; rfl
          have zq0 := blk_free hr4 0
          have zq1 := blk_free hr4 1
          clear jn0 jn1 hRn hE3
          cases hh1 : hasLit (p1, n1) v with
          | false =>
            have HG : Hid (resQ q kind ss [x, y, z] = none) := hide (by rw [unhide HF]; unfold resQ2; rw [if_neg (by rw [hh1]; simp)])
            have hRm := blk_set (blk_set hr4 0 (.int .i64 0)) 1 (.int .i64 0)
            have jm0 := blk_cell hRm 0
            have jm1 := blk_cell hRm 1
            go_wp2_with fail
            refine bodyPost_ret (v := .tuple #[SetV (0, 0), .bool false]) (by simp [results, Try.results62, go_sem, jm0, jm1]) rfl (StPost.none_ ?_ (unhide HG) (0, 0) zero_lt9 rfl)
            exact (hB4.setCell (p := ⟨w.heap.size, 0, none⟩) (Nat.le_refl _) _).setCell (p := ⟨w.heap.size, 1, none⟩) (Nat.le_refl _) _
          | true =>
            go_wp2_with fail
            refine (has_any p2 n2 (-(v : Int)) w4 hlt2.1 hlt2.2 (by omega) (by omega)).mono ?_
            rintro e w5 ⟨rfl, hb5⟩
            have hB5 : Below w.heap.size w w5 := hB4.trans (hb5.mono hB4.size)
            have hr5 := (hb5.block _ (blk_lt hr4)).trans hr4
            have hf5 := (hb5.block _ (blk_lt hf4)).trans hf4
            have hs5 := (hb5.block _ (blk_lt hs4)).trans hs4
            have r50 : w5.cell? ⟨w.heap.size, 0, none⟩ = some (.int .i64 0) := by rw [blk_cell hr5]; rfl
            have r51 : w5.cell? ⟨w.heap.size, 1, none⟩ = some (.int .i64 0) := by rw [blk_cell hr5]; rfl
            have f50 : w5.cell? ⟨w1.heap.size, 0, none⟩ = some (.int .i64 p1) := by rw [blk_cell hf5]; rfl
            have f51 : w5.cell? ⟨w1.heap.size, 1, none⟩ = some (.int .i64 n1) := by rw [blk_cell hf5]; rfl
            have s50 : w5.cell? ⟨w2.heap.size, 0, none⟩ = some (.int .i64 p2) := by rw [blk_cell hs5]; rfl
            have s51 : w5.cell? ⟨w2.heap.size, 1, none⟩ = some (.int .i64 n2) := by rw [blk_cell hs5]; rfl
            have zp0 := blk_free hr5 0
            have zp1 := blk_free hr5 1
            cases hh2 : hasLit (p2, n2) (-(v : Int)) with
            | false =>
              have HG : Hid (resQ q kind ss [x, y, z] = none) := hide (by rw [unhide HF]; unfold resQ2; rw [if_neg (by rw [hh2]; simp)])
              have hRm := blk_set (blk_set hr5 0 (.int .i64 0)) 1 (.int .i64 0)
              have jm0 := blk_cell hRm 0
              have jm1 := blk_cell hRm 1
              go_wp2_with fail
              refine bodyPost_ret (v := .tuple #[SetV (0, 0), .bool false]) (by simp [results, Try.results62, go_sem, jm0, jm1]) rfl (StPost.none_ ?_ (unhide HG) (0, 0) zero_lt9 rfl)
              exact (hB5.setCell (p := ⟨w.heap.size, 0, none⟩) (Nat.le_refl _) _).setCell (p := ⟨w.heap.size, 1, none⟩) (Nat.le_refl _) _
            | true =>
              have HG : Hid (resQ q kind ss [x, y, z] = if (without2 (p1, n1) (p2, n2) v).1 &&& (without2 (p1, n1) (p2, n2) v).2 != 0 then none else some (without2 (p1, n1) (p2, n2) v)) := hide (by rw [unhide HF]; unfold resQ2; rw [if_pos ⟨hh1, hh2⟩])
              clear hh1 hh2
              go_wp2_with fail
              refine (union_any p1 n1 p2 n2 w5 hlt1.1 hlt1.2 hlt2.1 hlt2.2).mono ?_
              rintro e w6 ⟨rfl, hb6⟩
              have hB6 : Below w.heap.size w w6 := hB5.trans (hb6.mono hB5.size)
              have hr6 := (hb6.block _ (blk_lt hr5)).trans hr5
              have hu1 := or_lt p1 p2 hlt1.1 hlt2.1
              have hu2 := or_lt n1 n2 hlt1.2 hlt2.2
              have HW : Hid (without2 (p1, n1) (p2, n2) v = without (p1 ||| p2, n1 ||| n2) v) := hide rfl
              generalize p1 ||| p2 = pu at *
              generalize n1 ||| n2 = nu at *
              have hA6 : Below w6.heap.size w6 (w6.alloc (.cells #[.int .i64 (pu : Int), .int .i64 (nu : Int)] 96)) := (Below.refl _ _).alloc (Nat.le_refl _) _
              have hB6a := hB6.trans (hA6.mono hB6.size)
              have hr6a := (hA6.block _ (blk_lt hr6)).trans hr6
              go_wp2_with fail
              refine (withoutVar_any pu nu v _ hu1 hu2).mono ?_
              rintro e w7 ⟨rfl, hb7⟩
              have hB7 : Below w.heap.size w w7 := hB6a.trans (hb7.mono hB6a.size)
              have hr7 := (hb7.block _ (blk_lt hr6a)).trans hr6a
              have hlt7 := without_lt (pu, nu) v ⟨hu1, hu2⟩
              rw [unhide HW] at HG
              generalize without (pu, nu) v = cw at *
              obtain ⟨p, n⟩ := cw
              dsimp only at HG hlt7 ⊢
              have hA7 : Below w7.heap.size w7 (w7.alloc (.cells #[.int .i64 (p : Int), .int .i64 (n : Int)] 96)) := (Below.refl _ _).alloc (Nat.le_refl _) _
              have hz3 : Below w.heap.size w (w7.alloc (.cells #[.int .i64 (p : Int), .int .i64 (n : Int)] 96)) := hB7.trans (hA7.mono hB7.size)
              have hz1 := (hA7.block _ (blk_lt hr7)).trans hr7
              have hz2 := heap_alloc_new w7 (.cells #[.int .i64 (p : Int), .int .i64 (n : Int)] 96)
              go_wp2_with fail
              generalize w7.alloc (.cells #[.int .i64 (p : Int), .int .i64 (n : Int)] 96) = wz at *
              have i0 : wz.cell? ⟨w7.heap.size, 0, none⟩ = some (.int .i64 p) := by rw [blk_cell hz2]; rfl
              have i1 : wz.cell? ⟨w7.heap.size, 1, none⟩ = some (.int .i64 n) := by rw [blk_cell hz2]; rfl
              go_region_with (go_at_call 74; refine (clashes_any p n _ hlt7.1 hlt7.2).mono ?_; rintro e w8 ⟨rfl, hb8⟩; have hy1 := (hb8.block _ (blk_lt hz1)).trans hz1; have hy2 := (hb8.block _ (blk_lt hz2)).trans hz2; have f0 : w8.cell? ⟨w.heap.size, 0, none⟩ = some (.int .i64 0) := (by rw [blk_cell hy1]; rfl); have f1 : w8.cell? ⟨w.heap.size, 1, none⟩ = some (.int .i64 0) := (by rw [blk_cell hy1]; rfl); have t0 := blk_free hy1 0; have t1 := blk_free hy1 1; have l0 : w8.cell? ⟨w7.heap.size, 0, none⟩ = some (.int .i64 p) := (by rw [blk_cell hy2]; rfl); have l1 : w8.cell? ⟨w7.heap.size, 1, none⟩ = some (.int .i64 n) := (by rw [blk_cell hy2]; rfl); have hbz : Below w.heap.size w w8 := hz3.drew.trans (hb8.mono hz3.size))
              all_goals go_wp2_with fail
              all_goals
                have hR := blk_set (blk_set hy1 0 (.int .i64 p)) 1 (.int .i64 n)
                have j0 := blk_cell hR 0
                have j1 := blk_cell hR 1
                refine bodyPost_ret (v := .tuple #[SetV (p, n), .bool (!(p &&& n != 0))]) (by simp [results, Try.results62, go_sem, j0, j1]) rfl ?_
                have hB : Below w.heap.size w ((w8.setCell ⟨w.heap.size, 0, none⟩ (.int .i64 p)).setCell ⟨w.heap.size, 1, none⟩ (.int .i64 n)) := (hbz.setCell (p := ⟨w.heap.size, 0, none⟩) (Nat.le_refl _) _).setCell (p := ⟨w.heap.size, 1, none⟩) (Nat.le_refl _) _
                cases hcl : (p &&& n != 0) with
                | true => exact StPost.none_ hB (by rw [unhide HG, hcl]; rfl) (p, n) hlt7 rfl
                | false => exact StPost.some_ hB (p, n) (by rw [unhide HG, hcl]; rfl) hlt7 rfl
        · have HF : Hid (resQ q kind ss [x, y, z] = none) := hide (by rw [unhide HR, unhide HC2 rfl, unhide HC1 rfl, hpv]; rfl)
          clear hpv
          go_wp2_with fail
          refine bodyPost_ret (v := .tuple #[SetV (0, 0), .bool false]) (by simp [results, Try.results62, go_sem, jn0, jn1]) rfl (StPost.none_ hE3 (unhide HF) (0, 0) zero_lt9 rfl)
  · have HR : Hid (resQ q kind ss ws = none) := hide (by
      unfold resQ; split
      · simp at h3
      · rfl)
    have hb1 : ((ws.length : Int) != 3) = true := by rw [bne_iff_ne]; omega
    clear h3
    go_enter Try.func62, Try.ntmps62
    go_wp2_with fail
    refine bodyPost_ret (v := .tuple #[SetV (0, 0), .bool false]) (by simp [results, Try.results62, go_sem]) rfl (StPost.none_ ?_ (unhide HR) (0, 0) zero_lt9 rfl)
    exact (Below.refl _ _).alloc (Nat.le_refl _) _
end Go.Proofs.Ytbpolmdokdhkhaa

namespace Go.Proofs.Ytbpolmdokdhkhaa
open Go.RowKit

/-! ### satisfies -/
def okC (x c : Nat × Nat) : Bool := ((x.1 &&& c.1) ||| (x.2 &&& c.2) != 0) || (x.1 &&& x.2 != 0)
def satQ (cl : List (Nat × Nat)) (c : Nat × Nat) : Bool := cl.all (okC · c)
theorem satQ_take (cl : List (Nat × Nat)) (c : Nat × Nat) (k : Nat) (h : k < cl.length) : satQ (cl.take (k + 1)) c = (satQ (cl.take k) c && okC cl[k] c) := by
  unfold satQ; rw [List.take_succ_eq_append_getElem h, List.all_append]; simp
theorem satQ_of (cl : List (Nat × Nat)) (c : Nat × Nat) (k : Nat) (h : k < cl.length) (hc : okC cl[k] c = false) : satQ cl c = false := by
  unfold satQ; rw [List.all_eq_false]; exact ⟨cl[k], List.getElem_mem h, by rw [hc]; decide⟩

set_option maxRecDepth 100000 in
set_option maxHeartbeats 1600000 in
theorem satisfies_any (b : Nat) (q : QS) (kind : Nat) (ss : List (Nat × Nat)) (vV vC vS : Value) (p0 n0 : Nat) (w : World) (hP : PInv w b q kind ss vV vC vS) (hQ : QB q) (hp0 : p0 < 512) (hn0 : n0 < 512) :
    Calls Try.prog 76 #[.pointer (some ⟨b, 0, none⟩), SetV (p0, n0)] w fun e w' => e = .returned (.bool (satQ q.cl (p0, n0))) ∧ Below w.heap.size w w' := by
  have hbw := blk_lt hP.fb
  have hcl := hQ.cl
  have HCL := hide hQ.bits
  obtain ⟨aC, cC, rfl⟩ := own_form hP.oC
  have k1 : w.cell? ⟨b, 1, none⟩ = some (.slice aC q.cl.length cC) := by rw [blk_cell hP.fb]; rfl
  go_enter Try.func76, Try.ntmps76
  go_wp2_with fail
  go_loopg [14] (q.cl.length) (fun m i wx => ∃ k : Nat, i = .int .i64 k ∧ k + m = q.cl.length ∧ satQ (q.cl.take k) (p0, n0) = true ∧ Below w.heap.size w wx ∧ wx.heap[w.heap.size]? = some (.cells #[.int .i64 p0, .int .i64 n0] 96 (0, 0)))
  case atStart => exact ⟨0, rfl, by omega, rfl, (Below.refl _ _).alloc (Nat.le_refl _) _, heap_alloc_new _ _⟩
  case round =>
    obtain ⟨k, rfl, hk, hno, hb, hset⟩ := hrel
    have HNO := hide hno; clear hno
    have hbs := blk_lt hset
    have c0 : wr.cell? ⟨w.heap.size, 0, none⟩ = some (.int .i64 p0) := by rw [blk_cell hset]; rfl
    have c1 : wr.cell? ⟨w.heap.size, 1, none⟩ = some (.int .i64 n0) := by rw [blk_cell hset]; rfl
    by_cases hlt : k < q.cl.length
    · obtain ⟨g, cap, hV, hg, hg', _, hcell⟩ := own_pos hP.oC (by omega)
      injection hV with hV _ hV2
      subst hV hV2
      have hgw : g < wr.heap.size := by omega
      obtain ⟨ha, hb'⟩ := pairs_at q.cl k hlt
      have hx0 : wr.cell? ⟨g, k * 2, none⟩ = some (.int .i64 (q.cl[k].1 : Int)) := by rw [hb.cell (p := ⟨g, k * 2, none⟩) hg']; exact hcell _ _ ha
      have hx1 : wr.cell? ⟨g, k * 2 + 1, none⟩ = some (.int .i64 (q.cl[k].2 : Int)) := by rw [hb.cell (p := ⟨g, k * 2 + 1, none⟩) hg']; exact hcell _ _ hb'
      have HT := hide (satQ_take q.cl (p0, n0) k hlt)
      have hbd := unhide HCL _ (List.getElem_mem hlt)
      have HOF := hide (satQ_of q.cl (p0, n0) k hlt)
      clear hcell ha hb'
      generalize q.cl[k] = c at *
      obtain ⟨p, n⟩ := c
      have HOK : Hid (okC (p, n) (p0, n0) = (((p &&& p0) ||| (n &&& n0) != 0) || (p &&& n != 0))) := hide rfl
      go_wp2_with fail
      refine (meets_any p n p0 n0 _ hbd.1 hbd.2 hp0 hn0).mono ?_
      rintro e w2 ⟨rfl, hb2⟩
      have hA : Below wr.heap.size wr (wr.alloc (.cells #[.int .i64 (p : Int), .int .i64 (n : Int)] 96)) := (Below.refl _ _).alloc (Nat.le_refl _) _
      have hb2' : Below wr.heap.size wr w2 := hA.trans (hb2.mono hA.size)
      have hb3 : Below w.heap.size w w2 := hb.trans (hb2'.mono hb.size)
      have hset2 := (hb2'.block _ hbs).trans hset
      have hc2 := (hb2.block _ (by simp)).trans (heap_alloc_new wr (.cells #[.int .i64 (p : Int), .int .i64 (n : Int)] 96))
      have d0 : w2.cell? ⟨wr.heap.size, 0, none⟩ = some (.int .i64 p) := by rw [blk_cell hc2]; rfl
      have d1 : w2.cell? ⟨wr.heap.size, 1, none⟩ = some (.int .i64 n) := by rw [blk_cell hc2]; rfl
      cases hh : ((p &&& p0) ||| (n &&& n0) != 0) with
      | true =>
        have HO1 : Hid (okC (p, n) (p0, n0) = true) := hide (by rw [unhide HOK, hh]; rfl)
        go_wp2_with fail
        go_roundg (gk - 1)
        case measure => omega
        case rel => exact ⟨k + 1, by go_num, by omega, by rw [unhide HT, unhide HNO, unhide HO1]; rfl, hb3, hset2⟩
      | false =>
        go_wp2_with fail
        refine (clashes_any p n w2 hbd.1 hbd.2).mono ?_
        rintro e w3 ⟨rfl, hb4⟩
        have hb5 : Below w.heap.size w w3 := hb3.trans (hb4.mono hb3.size)
        have hset3 := (hb4.block _ (blk_lt hset2)).trans hset2
        cases hc : (p &&& n != 0) with
        | true =>
          have HO1 : Hid (okC (p, n) (p0, n0) = true) := hide (by rw [unhide HOK, hh, hc]; rfl)
          go_wp2_with fail
          go_roundg (gk - 1)
          case measure => omega
          case rel => exact ⟨k + 1, by go_num, by omega, by rw [unhide HT, unhide HNO, unhide HO1]; rfl, hb5, hset3⟩
        | false =>
          have HF := hide (unhide HOF (by rw [unhide HOK, hh, hc]; rfl))
          go_wp2_with fail
          go_ret
          exact ⟨ret_bool (unhide HF).symm, hb5⟩
    · have hkl : k = q.cl.length := by omega
      subst hkl
      have hno := unhide HNO
      rw [List.take_length] at hno
      have HF := hide hno; clear hno
      go_wp2_with fail
      go_ret
      exact ⟨ret_bool (unhide HF).symm, hb⟩
end Go.Proofs.Ytbpolmdokdhkhaa

namespace Go.Proofs.Ytbpolmdokdhkhaa
open Go.RowKit

/-! ### readCube -/
def cubeQ (vs : List (Nat × Bool)) : Nat × Nat → Nat → List (List UInt8) → Option (Nat × Nat)
  | c, _, [] => some c
  | c, last, w :: ws => if litGood w then
      match findV vs (litNum w).natAbs with
      | none => none
      | some x => if x.1 ≤ last then none else cubeQ vs (withLit c (litNum w)) x.1 ws
    else none
def cubeStepQ (q : QS) (kind : Nat) (ws : List (List UInt8)) : Option (Nat × Nat) :=
  if kind = 2 then (cubeQ q.vars (0, 0) 0 ws).bind (fun c => if satQ q.cl c then some c else none) else none

set_option maxRecDepth 100000 in
set_option maxHeartbeats 3200000 in
theorem readCube_any (b : Nat) (q : QS) (kind : Nat) (ss : List (Nat × Nat)) (vV vC vS : Value) (ws : List (List UInt8)) (ao : Option Addr) (cap : Nat) (w : World) (hP : PInv w b q kind ss vV vC vS) (hQ : QB q)
    (hs : StrsAt w ao ws) (hl : ws.length ≤ 1048576) (hws : ∀ x ∈ ws, x.length ≤ 1048576) :
    Calls Try.prog 61 #[.pointer (some ⟨b, 0, none⟩), .slice ao ws.length cap] w fun e w' => StPost (cubeStepQ q kind ws) w e w' := by
  have hbw := blk_lt hP.fb
  have hvl := hQ.vl
  have k2 : w.cell? ⟨b, 2, none⟩ = some (.int .i64 kind) := by rw [blk_cell hP.fb]; rfl
  have k0 : w.cell? ⟨b, 0, none⟩ = some vV := by rw [blk_cell hP.fb]; rfl
  by_cases hk : kind = 2
  · have hkb : ((kind : Int) != 2) = false := by rw [bne_eq_false_iff_eq]; omega
    have HR : Hid (cubeStepQ q kind ws = (cubeQ q.vars (0, 0) 0 ws).bind (fun c => if satQ q.cl c then some c else none)) := hide (by unfold cubeStepQ; rw [if_pos hk])
    have HWS := hide hws; clear hws hk
    go_enter Try.func61, Try.ntmps61
    go_wp2_with fail
    go_loopg [7, 24] (ws.length) (fun m la i wx => ∃ (j p n last : Nat), i = .int .i64 j ∧ la = .int .i64 last ∧ j + m = ws.length ∧ p < 512 ∧ n < 512 ∧ last ≤ 8 ∧ cubeQ q.vars (0, 0) 0 ws = cubeQ q.vars (p, n) last (ws.drop j) ∧ Below w.heap.size w wx ∧
      wx.heap[w.heap.size]? = some (.cells #[.int .i64 0, .int .i64 0] 96 (0, 0)) ∧ wx.heap[w.heap.size + 1]? = some (.cells #[.int .i64 p, .int .i64 n] 96 (0, 0)))
    case atStart => exact ⟨0, 0, 0, 0, rfl, rfl, by omega, by omega, by omega, by omega, rfl, ((Below.refl _ _).alloc (Nat.le_refl _) _).alloc (by simp) _, by rw [heap_alloc_old _ _ (by simp)]; exact heap_alloc_new _ _, alloc_new_at (by simp)⟩
    case round =>
      obtain ⟨j, p, n, last, rfl, rfl, hj, hp, hn, hla, hto, hb, hres, hcub⟩ := hrel
      have hbs := blk_lt hcub
      have hbs0 : w.heap.size < wr.heap.size := by omega
      have hbw1 : b < wr.heap.size := by omega
      have r0 : wr.cell? ⟨w.heap.size, 0, none⟩ = some (.int .i64 0) := by rw [blk_cell hres]; rfl
      have r1 : wr.cell? ⟨w.heap.size, 1, none⟩ = some (.int .i64 0) := by rw [blk_cell hres]; rfl
      have z0 := blk_free hres 0
      have z1 := blk_free hres 1
      have c0 : wr.cell? ⟨w.heap.size + 1, 0, none⟩ = some (.int .i64 p) := by rw [blk_cell hcub]; rfl
      have c1 : wr.cell? ⟨w.heap.size + 1, 1, none⟩ = some (.int .i64 n) := by rw [blk_cell hcub]; rfl
      by_cases hlt : j < ws.length
      · obtain ⟨g, off, cur, rfl, hg, hcur⟩ := hs (by intro e; subst e; simp at hlt)
        have hgw := blk_lt hg
        have hgw1 : g < wr.heap.size := by omega
        have hcj : wr.cell? ⟨g, off + j, none⟩ = some (S ws[j]) := by
          rw [hb.cell (p := ⟨g, off + j, none⟩) hgw, blk_cell hg]; exact hcur j hlt
        have hwl := unhide HWS _ (List.getElem_mem hlt)
        rw [List.drop_eq_getElem_cons hlt, cubeQ] at hto
        have HTO := hide hto; clear hto hcur
        obtain ⟨n0, n1⟩ := litNum_bd ws[j]
        go_wp2_with fail
        refine (wliteral_any ws[j] wr hwl).mono ?_
        rintro e w2 ⟨hw2, rfl⟩
        subst hw2
        cases hgd : litGood ws[j] with
        | false =>
          have HF : Hid (cubeStepQ q kind ws = none) := hide (by rw [unhide HR, unhide HTO, hgd]; rfl)
          have hRm := blk_set (blk_set hres 0 (.int .i64 0)) 1 (.int .i64 0)
          have jm0 := blk_cell hRm 0
          have jm1 := blk_cell hRm 1
          go_wp2_with fail
          refine bodyPost_ret (v := .tuple #[SetV (0, 0), .bool false]) (by simp [results, Try.results61, go_sem, jm0, jm1]) rfl (StPost.none_ ?_ (unhide HF) (0, 0) zero_lt9 rfl)
          exact (hb.setCell (p := ⟨w.heap.size, 0, none⟩) (Nat.le_refl _) _).setCell (p := ⟨w.heap.size, 1, none⟩) (Nat.le_refl _) _
        | true =>
          rw [hgd, if_pos rfl] at HTO
          have x0 : w2.cell? ⟨b, 0, none⟩ = some vV := by rw [hb.cell (p := ⟨b, 0, none⟩) hbw]; exact k0
          have hoV : w2.ownsRow 0 91 2 vV q.vars.length (varCells q.vars) := own_under hP.oV (fun k hk => Nat.lt_trans (hP.lV k hk) hbw) hb
          go_wp2_with fail
          refine (varOf_any (litNum ws[j]) w2 (by omega) (by omega)).mono ?_
          rintro e w3 ⟨rfl, hw3⟩
          subst hw3
          go_wp2_with fail
          refine (find_any 0 b q.vars vV (litNum ws[j]).natAbs w3 x0 hoV (by omega)).mono ?_
          rintro e w4 ⟨hb4, rfl⟩
          have hbw4 := Nat.lt_of_lt_of_le hbw1 hb4.size
          have hbs4 := Nat.lt_of_lt_of_le hbs hb4.size
          have hbs04 := Nat.lt_of_lt_of_le hbs0 hb4.size
          have hres4 := (hb4.block _ hbs0).trans hres
          have hcub4 := (hb4.block _ hbs).trans hcub
          have hB4 : Below w.heap.size w w4 := hb.trans (hb4.mono hb.size)
          have r40 : w4.cell? ⟨w.heap.size, 0, none⟩ = some (.int .i64 0) := by rw [blk_cell hres4]; rfl
          have r41 : w4.cell? ⟨w.heap.size, 1, none⟩ = some (.int .i64 0) := by rw [blk_cell hres4]; rfl
          have z40 := blk_free hres4 0
          have z41 := blk_free hres4 1
          have c40 : w4.cell? ⟨w.heap.size + 1, 0, none⟩ = some (.int .i64 p) := by rw [blk_cell hcub4]; rfl
          have c41 : w4.cell? ⟨w.heap.size + 1, 1, none⟩ = some (.int .i64 n) := by rw [blk_cell hcub4]; rfl
          cases hfd : findV q.vars (litNum ws[j]).natAbs with
          | none =>
            rw [hfd] at HTO
            have HF : Hid (cubeStepQ q kind ws = none) := hide (by rw [unhide HR, unhide HTO]; rfl)
            go_wp2_with fail
            have hR := blk_set (blk_set hres4 0 (.int .i64 0)) 1 (.int .i64 0)
            have hR' := (heap_alloc_old _ (.cells #[.int .i64 0, .bool false] 91) (blk_lt hR)).trans hR
            have q0 := blk_cell hR' 0
            have q1 := blk_cell hR' 1
            refine bodyPost_ret (v := .tuple #[SetV (0, 0), .bool false]) (by simp [results, Try.results61, go_sem, q0, q1]) rfl (StPost.none_ ?_ (unhide HF) (0, 0) zero_lt9 rfl)
            exact ((hB4.setCell (p := ⟨w.heap.size, 0, none⟩) (Nat.le_refl _) _).setCell (p := ⟨w.heap.size, 1, none⟩) (Nat.le_refl _) _).alloc (by simp [World.setCell]; omega) _
          | some x =>
            rw [hfd] at HTO
            have hxn := hQ.names x (List.mem_of_find?_eq_some hfd)
            obtain ⟨xn, xu⟩ := x
            dsimp only [Option.getD_some, Option.isSome_some] at HTO hxn ⊢
            by_cases hle : xn ≤ last
            · have hdl : decide (xn ≤ last) = true := by simp; omega
              have HF : Hid (cubeStepQ q kind ws = none) := hide (by rw [unhide HR, unhide HTO, if_pos hle]; rfl)
              clear hle
              go_wp2_with fail
              have hR := blk_set (blk_set hres4 0 (.int .i64 0)) 1 (.int .i64 0)
              have hR' := (heap_alloc_old _ (.cells #[.int .i64 (xn : Int), .bool xu] 91) (blk_lt hR)).trans hR
              have q0 := blk_cell hR' 0
              have q1 := blk_cell hR' 1
              refine bodyPost_ret (v := .tuple #[SetV (0, 0), .bool false]) (by simp [results, Try.results61, go_sem, q0, q1]) rfl (StPost.none_ ?_ (unhide HF) (0, 0) zero_lt9 rfl)
              exact ((hB4.setCell (p := ⟨w.heap.size, 0, none⟩) (Nat.le_refl _) _).setCell (p := ⟨w.heap.size, 1, none⟩) (Nat.le_refl _) _).alloc (by simp [World.setCell]; omega) _
            · have hdl : decide (xn ≤ last) = false := by simp; omega
              have HF : Hid (cubeQ q.vars (0, 0) 0 ws = cubeQ q.vars (withLit (p, n) (litNum ws[j])) xn (ws.drop (j + 1))) := hide (by rw [unhide HTO, if_neg hle])
              clear hle
              have hwl2 := withLit_lt (p, n) (litNum ws[j]) hp hn
              have hA4 : Below w4.heap.size w4 (w4.alloc (.cells #[.int .i64 (xn : Int), .bool xu] 91)) := (Below.refl _ _).alloc (Nat.le_refl _) _
              have hB4a := hB4.trans (hA4.mono hB4.size)
              have hres4a := (hA4.block _ (blk_lt hres4)).trans hres4
              have hcub4a := (hA4.block _ (blk_lt hcub4)).trans hcub4
              have hv4a := heap_alloc_new w4 (.cells #[.int .i64 (xn : Int), .bool xu] 91)
              go_wp2_with fail
              refine (with_any p n (litNum ws[j]) _ hp hn (by omega) (by omega)).mono ?_
              rintro e w5 ⟨rfl, hb5⟩
              have hres5 := (hb5.block _ (blk_lt hres4a)).trans hres4a
              have hcub5 := (hb5.block _ (blk_lt hcub4a)).trans hcub4a
              have hv5 := (hb5.block _ (blk_lt hv4a)).trans hv4a
              have hB5 : Below w.heap.size w w5 := hB4a.trans (hb5.mono hB4a.size)
              have c50 : w5.cell? ⟨w.heap.size + 1, 0, none⟩ = some (.int .i64 p) := by rw [blk_cell hcub5]; rfl
              have c51 : w5.cell? ⟨w.heap.size + 1, 1, none⟩ = some (.int .i64 n) := by rw [blk_cell hcub5]; rfl
              have v50 : w5.cell? ⟨w4.heap.size, 0, none⟩ = some (.int .i64 xn) := by rw [blk_cell hv5]; rfl
              have z50 := blk_free hcub5 0
              have z51 := blk_free hcub5 1
              have hne : w4.heap.size ≠ w.heap.size + 1 := by omega
              have hne2 : w.heap.size + 1 ≠ w4.heap.size := by omega
              generalize withLit (p, n) (litNum ws[j]) = cw at *
              obtain ⟨p', n'⟩ := cw
              go_wp2_with fail
              go_roundg (gk - 1)
              case measure => omega
              case rel =>
                refine ⟨j + 1, p', n', xn, by go_num, rfl, by omega, hwl2.1, hwl2.2, hxn.2, unhide HF, (hB5.setCell (p := ⟨w.heap.size + 1, 0, none⟩) (Nat.le_succ _) _).setCell (p := ⟨w.heap.size + 1, 1, none⟩) (Nat.le_succ _) _, ?_, blk_set (blk_set hcub5 0 _) 1 _⟩
                rw [Below.heap_setCell _ _ _ _ (by simp), Below.heap_setCell _ _ _ _ (by simp)]
                exact hres5
      · have hjl : j = ws.length := by omega
        subst hjl
        rw [List.drop_length] at hto
        have HF : Hid (cubeStepQ q kind ws = if satQ q.cl (p, n) then some (p, n) else none) := hide (by rw [unhide HR, hto]; rfl)
        clear hto
        have hP1 : PInv wr b q kind ss vV vC vS := hP.later hb
        go_wp2_with fail
        go_region_with (go_at_call 76; refine (satisfies_any b q kind ss vV vC vS p n _ (hP1.later (Below.refl _ _).drew) hQ hp hn).mono ?_; rintro e w8 ⟨rfl, hb8⟩; have hy1 := (hb8.block _ (blk_lt hres)).trans hres; have hy2 := (hb8.block _ (blk_lt hcub)).trans hcub; have f0 : w8.cell? ⟨w.heap.size, 0, none⟩ = some (.int .i64 0) := (by rw [blk_cell hy1]; rfl); have f1 : w8.cell? ⟨w.heap.size, 1, none⟩ = some (.int .i64 0) := (by rw [blk_cell hy1]; rfl); have t0 := blk_free hy1 0; have t1 := blk_free hy1 1; have l0 : w8.cell? ⟨w.heap.size + 1, 0, none⟩ = some (.int .i64 p) := (by rw [blk_cell hy2]; rfl); have l1 : w8.cell? ⟨w.heap.size + 1, 1, none⟩ = some (.int .i64 n) := (by rw [blk_cell hy2]; rfl); have hbz : Below w.heap.size w w8 := hb.drew.trans (hb8.mono hb.size))
        all_goals go_wp2_with fail
        all_goals
          have hR := blk_set (blk_set hy1 0 (.int .i64 p)) 1 (.int .i64 n)
          have j0 := blk_cell hR 0
          have j1 := blk_cell hR 1
          refine bodyPost_ret (v := .tuple #[SetV (p, n), .bool (satQ q.cl (p, n))]) (by simp [results, Try.results61, go_sem, j0, j1]) rfl ?_
          have hB : Below w.heap.size w ((w8.setCell ⟨w.heap.size, 0, none⟩ (.int .i64 p)).setCell ⟨w.heap.size, 1, none⟩ (.int .i64 n)) := (hbz.setCell (p := ⟨w.heap.size, 0, none⟩) (Nat.le_refl _) _).setCell (p := ⟨w.heap.size, 1, none⟩) (Nat.le_refl _) _
          cases hcl : satQ q.cl (p, n) with
          | false => exact StPost.none_ hB (by rw [unhide HF, hcl]; rfl) (p, n) ⟨hp, hn⟩ rfl
          | true => exact StPost.some_ hB (p, n) (by rw [unhide HF, hcl]; rfl) ⟨hp, hn⟩ rfl
  · have HR : Hid (cubeStepQ q kind ws = none) := hide (by unfold cubeStepQ; rw [if_neg hk])
    have hb1 : ((kind : Int) != 2) = true := by rw [bne_iff_ne]; omega
    clear hk
    go_enter Try.func61, Try.ntmps61
    go_wp2_with fail
    refine bodyPost_ret (v := .tuple #[SetV (0, 0), .bool false]) (by simp [results, Try.results61, go_sem]) rfl (StPost.none_ ?_ (unhide HR) (0, 0) zero_lt9 rfl)
    exact (Below.refl _ _).alloc (Nat.le_refl _) _
end Go.Proofs.Ytbpolmdokdhkhaa
