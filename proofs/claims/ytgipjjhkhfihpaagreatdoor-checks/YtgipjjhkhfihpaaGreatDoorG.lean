import Derived.Test.YtgipjjhkhfihpaaGreatDoorC
import Derived.Test.YtgipjjhkhfihpaaGreatDoorD
namespace Go.Proofs.YtgipjjhkhfihpaaGreatDoor
open Go.RowKit

abbrev SetV (c : Nat × Nat) : Value := .agg #[.int .i64 (c.1 : Int), .int .i64 (c.2 : Int)]
theorem int_ne_zero (a : Nat) : ((a : Int) != 0) = (a != 0) := by
  rw [Bool.eq_iff_iff, bne_iff_ne, bne_iff_ne]; omega
theorem int_eq_zero (a : Nat) : ((a : Int) == 0) = (a == 0) := by
  rw [Bool.eq_iff_iff, beq_iff_eq, beq_iff_eq]; omega
theorem and_lt9 (a b : Nat) (ha : a < 512) : a &&& b < 512 := Nat.lt_of_le_of_lt Nat.and_le_left ha
theorem less_lt9 (a b : Nat) (ha : a < 512) : less a b < 512 := Nat.lt_of_le_of_lt (less_le a b) ha

set_option maxRecDepth 100000 in
set_option maxHeartbeats 800000 in
theorem varOf_any (x : Int) (w : World) (hx : -9223372036854775807 ≤ x) (hx2 : x ≤ 9223372036854775807) :
    Calls Tryz.prog 112 #[.int .i64 x] w fun e w' => e = .returned (.int .i64 (x.natAbs : Nat)) ∧ w' = w := by
  by_cases h : x < 0
  · have hd : decide (x < 0) = true := by simpa using h
    have hwx : IntKind.i64.wrap (-x) = -x := by
      obtain ⟨m, hm⟩ := Int.eq_ofNat_of_zero_le (show 0 ≤ -x by omega)
      rw [hm]; exact wrap_i64_nat m (by omega)
    go_enter Tryz.func112, Tryz.ntmps112
    go_wp2_with fail
    go_ret
    exact ⟨ret_int (by omega), rfl⟩
  · have hd : decide (x < 0) = false := by simpa using h
    go_enter Tryz.func112, Tryz.ntmps112
    go_wp2_with fail
    go_ret
    exact ⟨ret_int (by omega), rfl⟩

set_option maxRecDepth 100000 in
set_option maxHeartbeats 800000 in
theorem empty_any (p n : Nat) (w : World) (hp : p < 512) (hn : n < 512) :
    Calls Tryz.prog 74 #[SetV (p, n)] w fun e w' => e = .returned (.bool (p ||| n == 0)) ∧ Below w.heap.size w w' := by
  have hor : bits .or .i64 (p : Int) (n : Int) = ((p ||| n : Nat) : Int) := i64_or _ _ (by omega) (by omega)
  have HE := hide (int_eq_zero (p ||| n))
  go_enter Tryz.func74, Tryz.ntmps74
  go_wp2_with fail
  go_ret
  exact ⟨ret_bool (unhide HE), (Below.refl _ _).alloc (Nat.le_refl _) _⟩

set_option maxRecDepth 100000 in
set_option maxHeartbeats 800000 in
theorem clashes_any (p n : Nat) (w : World) (hp : p < 512) (hn : n < 512) :
    Calls Tryz.prog 124 #[SetV (p, n)] w fun e w' => e = .returned (.bool (p &&& n != 0)) ∧ Below w.heap.size w w' := by
  have hand : bits .and .i64 (p : Int) (n : Int) = ((p &&& n : Nat) : Int) := i64_and _ _ (by omega) (by omega)
  have HE := hide (int_ne_zero (p &&& n))
  go_enter Tryz.func124, Tryz.ntmps124
  go_wp2_with fail
  go_ret
  exact ⟨ret_bool (unhide HE), (Below.refl _ _).alloc (Nat.le_refl _) _⟩

set_option maxRecDepth 100000 in
set_option maxHeartbeats 800000 in
theorem meets_any (p n p2 n2 : Nat) (w : World) (hp : p < 512) (hn : n < 512) (hp2 : p2 < 512) (hn2 : n2 < 512) :
    Calls Tryz.prog 131 #[SetV (p, n), SetV (p2, n2)] w fun e w' => e = .returned (.bool ((p &&& p2) ||| (n &&& n2) != 0)) ∧ Below w.heap.size w w' := by
  have h1 : bits .and .i64 (p : Int) (p2 : Int) = ((p &&& p2 : Nat) : Int) := i64_and _ _ (by omega) (by omega)
  have h2 : bits .and .i64 (n : Int) (n2 : Int) = ((n &&& n2 : Nat) : Int) := i64_and _ _ (by omega) (by omega)
  have h3 : bits .or .i64 ((p &&& p2 : Nat) : Int) ((n &&& n2 : Nat) : Int) = (((p &&& p2) ||| (n &&& n2) : Nat) : Int) := i64_or _ _ (by have := and_lt9 p p2 hp; omega) (by have := and_lt9 n n2 hn; omega)
  have HE := hide (int_ne_zero ((p &&& p2) ||| (n &&& n2)))
  go_enter Tryz.func131, Tryz.ntmps131
  go_wp2_with fail
  go_ret
  exact ⟨ret_bool (unhide HE), ((Below.refl _ _).alloc (Nat.le_refl _) _).alloc (by simp) _⟩

/-- A set has a literal. -/
def hasLit (c : Nat × Nat) (x : Int) : Bool := if x < 0 then c.2 &&& bitOf (-x) != 0 else c.1 &&& bitOf x != 0
set_option maxRecDepth 100000 in
set_option maxHeartbeats 800000 in
theorem has_any (p n : Nat) (x : Int) (w : World) (hp : p < 512) (hn : n < 512) (hx : -9223372036854775807 ≤ x) (hx2 : x ≤ 9223372036854775807) :
    Calls Tryz.prog 87 #[SetV (p, n), .int .i64 x] w fun e w' => e = .returned (.bool (hasLit (p, n) x)) ∧ Below w.heap.size w w' := by
  by_cases h : x < 0
  · have HW : Hid (hasLit (p, n) x = (n &&& bitOf (-x) != 0)) := hide (by unfold hasLit; rw [if_pos h])
    have hd : decide (x < 0) = true := by simpa using h
    have hwx : IntKind.i64.wrap (-x) = -x := by
      obtain ⟨m, hm⟩ := Int.eq_ofNat_of_zero_le (show 0 ≤ -x by omega)
      rw [hm]; exact wrap_i64_nat m (by omega)
    have hand : bits .and .i64 (n : Int) (bitOf (-x) : Nat) = ((n &&& bitOf (-x) : Nat) : Int) := i64_and _ _ (by omega) (by have := bitOf_lt (-x); omega)
    have HE := hide (int_ne_zero (n &&& bitOf (-x)))
    go_enter Tryz.func87, Tryz.ntmps87
    go_wp2_with fail
    go_quiet ((go_at_call 108; exact Calls.quiet_of_same (bit_any _ _)))
    go_wp2_with fail
    go_ret
    exact ⟨ret_bool (by rw [unhide HW]; exact unhide HE), below_drewN ((Below.refl _ _).alloc (Nat.le_refl _) _) nq⟩
  · have HW : Hid (hasLit (p, n) x = (p &&& bitOf x != 0)) := hide (by unfold hasLit; rw [if_neg h])
    have hd : decide (x < 0) = false := by simpa using h
    have hand : bits .and .i64 (p : Int) (bitOf x : Nat) = ((p &&& bitOf x : Nat) : Int) := i64_and _ _ (by omega) (by have := bitOf_lt x; omega)
    have HE := hide (int_ne_zero (p &&& bitOf x))
    go_enter Tryz.func87, Tryz.ntmps87
    go_wp2_with fail
    go_quiet ((go_at_call 108; exact Calls.quiet_of_same (bit_any _ _)))
    go_wp2_with fail
    go_ret
    exact ⟨ret_bool (by rw [unhide HW]; exact unhide HE), below_drewN ((Below.refl _ _).alloc (Nat.le_refl _) _) nq⟩

set_option maxRecDepth 100000 in
set_option maxHeartbeats 800000 in
theorem union_any (p n p2 n2 : Nat) (w : World) (hp : p < 512) (hn : n < 512) (hp2 : p2 < 512) (hn2 : n2 < 512) :
    Calls Tryz.prog 139 #[SetV (p, n), SetV (p2, n2)] w fun e w' => e = .returned (SetV (p ||| p2, n ||| n2)) ∧ Below w.heap.size w w' := by
  have h1 : bits .or .i64 (p : Int) (p2 : Int) = ((p ||| p2 : Nat) : Int) := i64_or _ _ (by omega) (by omega)
  have h2 : bits .or .i64 (n : Int) (n2 : Int) = ((n ||| n2 : Nat) : Int) := i64_or _ _ (by omega) (by omega)
  go_enter Tryz.func139, Tryz.ntmps139
  go_wp2_with fail
  refine bodyPost_ret (v := SetV (p ||| p2, n ||| n2)) (by simp [results, Tryz.results139, go_sem]) rfl ⟨rfl, ?_⟩
  exact ((((Below.refl _ _).alloc (Nat.le_refl _) _).alloc (by simp) _)).alloc (by simp; omega) _

/-- A set without a variable's literals. -/
def without (c : Nat × Nat) (v : Int) : Nat × Nat := (less c.1 (bitOf v), less c.2 (bitOf v))
set_option maxRecDepth 100000 in
set_option maxHeartbeats 800000 in
theorem withoutVar_any (p n : Nat) (v : Int) (w : World) (hp : p < 512) (hn : n < 512) :
    Calls Tryz.prog 140 #[SetV (p, n), .int .i64 v] w fun e w' => e = .returned (SetV (without (p, n) v)) ∧ Below w.heap.size w w' := by
  have hb := bitOf_lt v
  have h1 : bits .andNot .i64 (p : Int) (bitOf v : Nat) = ((less p (bitOf v) : Nat) : Int) := i64_andNot _ _ (by omega) (by omega)
  have h2 : bits .andNot .i64 (n : Int) (bitOf v : Nat) = ((less n (bitOf v) : Nat) : Int) := i64_andNot _ _ (by omega) (by omega)
  go_enter Tryz.func140, Tryz.ntmps140
  go_wp2_with fail
  refine (bit_any _ _).mono ?_
  rintro e w1 ⟨rfl, rfl⟩
  go_wp2_with fail
  refine bodyPost_ret (v := SetV (without (p, n) v)) (by simp [results, Tryz.results140, go_sem, without]) rfl ⟨rfl, ?_⟩
  exact (((Below.refl _ _).alloc (Nat.le_refl _) _).alloc (by simp) _)
end Go.Proofs.YtgipjjhkhfihpaaGreatDoor

namespace Go.Proofs.YtgipjjhkhfihpaaGreatDoor
open Go.RowKit

/-- What holds of the formula and the steps. -/
structure QB (q : QS) : Prop where
  vl : q.vars.length ≤ 8
  cl : q.cl.length ≤ 24
  bits : ∀ c ∈ q.cl, c.1 < 512 ∧ c.2 < 512
  names : ∀ x ∈ q.vars, 1 ≤ x.1 ∧ x.1 ≤ 8
structure SB (ss : List (Nat × Nat)) : Prop where
  len : ss.length ≤ 9000
  bits : ∀ c ∈ ss, c.1 < 512 ∧ c.2 < 512
def pivotB (kind : Nat) (u : Bool) : Bool := u == (kind == 2)
def hasVarB (c : Nat × Nat) (v : Nat) : Bool := (c.1 ||| c.2) &&& bitOf v != 0
/-- From the innermost variable outwards. -/
def redQ (kind : Nat) : List (Nat × Bool) → Nat × Nat → Nat × Nat
  | [], c => c
  | v :: vs, c => if hasVarB c v.1 then (if pivotB kind v.2 then c else redQ kind vs (without c v.1)) else redQ kind vs c
theorem without_lt (c : Nat × Nat) (v : Int) (h : c.1 < 512 ∧ c.2 < 512) : (without c v).1 < 512 ∧ (without c v).2 < 512 := ⟨less_lt9 _ _ h.1, less_lt9 _ _ h.2⟩
theorem redQ_lt (kind : Nat) (vs : List (Nat × Bool)) : ∀ (c : Nat × Nat), c.1 < 512 ∧ c.2 < 512 → (redQ kind vs c).1 < 512 ∧ (redQ kind vs c).2 < 512 := by
  induction vs with
  | nil => intro c h; exact h
  | cons v vs ih =>
    intro c h
    rw [redQ]
    split
    · split
      · exact h
      · exact ih _ (without_lt _ _ h)
    · exact ih _ h
theorem redQ_step (kind : Nat) (vs : List (Nat × Bool)) (k : Nat) (h : k < vs.length) (c : Nat × Nat) :
    redQ kind (vs.take (k + 1)).reverse c = if hasVarB c vs[k].1 then (if pivotB kind vs[k].2 then c else redQ kind (vs.take k).reverse (without c vs[k].1)) else redQ kind (vs.take k).reverse c := by
  rw [List.take_succ_eq_append_getElem h, List.reverse_append]
  rfl
def without2 (a b : Nat × Nat) (v : Nat) : Nat × Nat := without (a.1 ||| b.1, a.2 ||| b.2) v
def okC (x c : Nat × Nat) : Bool := ((x.1 &&& c.1) ||| (x.2 &&& c.2) != 0) || (x.1 &&& x.2 != 0)
def satQ (cl : List (Nat × Nat)) (c : Nat × Nat) : Bool := cl.all (okC · c)
theorem satQ_take (cl : List (Nat × Nat)) (c : Nat × Nat) (k : Nat) (h : k < cl.length) : satQ (cl.take (k + 1)) c = (satQ (cl.take k) c && okC cl[k] c) := by
  unfold satQ; rw [List.take_succ_eq_append_getElem h, List.all_append]; simp
theorem satQ_of (cl : List (Nat × Nat)) (c : Nat × Nat) (k : Nat) (h : k < cl.length) (hc : okC cl[k] c = false) : satQ cl c = false := by
  unfold satQ; rw [List.all_eq_false]; exact ⟨cl[k], List.getElem_mem h, by rw [hc]; decide⟩

/-! ### Steps as the program holds them -/
structure Stp where
  rule : Nat
  first : Nat
  second : Nat
  var : Nat
  lits : Nat × Nat
def litsAt (p : List Stp) (n : Nat) : Nat × Nat := if n = 0 then (0, 0) else match p[n - 1]? with
  | some s => s.lits
  | none => (0, 0)
def psCells (l : List Stp) : List Value := l.flatMap (fun s => [Value.int .i64 (s.rule : Int), Value.int .i64 (s.first : Int), Value.int .i64 (s.second : Int), Value.int .i64 (s.var : Int), Value.int .i64 (s.lits.1 : Int), Value.int .i64 (s.lits.2 : Int)])
theorem psCells_length (l : List Stp) : (psCells l).length = l.length * 6 := by
  induction l with
  | nil => rfl
  | cons a l ih => simp [psCells] at *; omega
theorem psCells_snoc (l : List Stp) (s : Stp) : psCells (l ++ [s]) = psCells l ++ [Value.int .i64 (s.rule : Int), Value.int .i64 (s.first : Int), Value.int .i64 (s.second : Int), Value.int .i64 (s.var : Int), Value.int .i64 (s.lits.1 : Int), Value.int .i64 (s.lits.2 : Int)] := by simp [psCells]
theorem psCells_at (l : List Stp) (k j : Nat) (h : k < l.length) (hj : j < 6) : (psCells l)[k * 6 + j]? = [Value.int .i64 (l[k].rule : Int), Value.int .i64 (l[k].first : Int), Value.int .i64 (l[k].second : Int), Value.int .i64 (l[k].var : Int), Value.int .i64 (l[k].lits.1 : Int), Value.int .i64 (l[k].lits.2 : Int)][j]? := by
  induction l generalizing k with
  | nil => simp at h
  | cons a l ih =>
    cases k with
    | zero =>
      simp only [psCells, List.flatMap_cons, Nat.zero_mul, Nat.zero_add, List.getElem_cons_zero]
      rw [List.getElem?_append_left (by simpa using hj)]
    | succ k =>
      have := ih k (by simpa using h)
      simp only [psCells, List.flatMap_cons] at this ⊢
      rw [show (k + 1) * 6 + j = (k * 6 + j) + 6 from by omega, List.getElem?_append_right (by simp)]
      simpa using this
theorem litsAt_in (p : List Stp) (m : Nat) (h : m < p.length) : litsAt p (m + 1) = p[m].lits := by
  unfold litsAt; rw [if_neg (by omega), Nat.add_sub_cancel, List.getElem?_eq_getElem h]
theorem litsAt_out (p : List Stp) (n : Nat) (h : n < 1 ∨ p.length < n) : litsAt p n = (0, 0) := by
  unfold litsAt
  split
  · rfl
  · rw [List.getElem?_eq_none (by omega)]
theorem litsAt_lt (p : List Stp) (h : ∀ s ∈ p, s.lits.1 < 512 ∧ s.lits.2 < 512) (n : Nat) : (litsAt p n).1 < 512 ∧ (litsAt p n).2 < 512 := by
  unfold litsAt
  split
  · exact ⟨by decide, by decide⟩
  · split
    · next s hs => exact h s (List.mem_of_getElem? hs)
    · exact ⟨by decide, by decide⟩
end Go.Proofs.YtgipjjhkhfihpaaGreatDoor

namespace Go.Proofs.YtgipjjhkhfihpaaGreatDoor
open Go.RowKit

theorem alloc_new_at {w : World} {o : Obj} {n : Nat} (h : n = w.heap.size) : (w.alloc o).heap[n]? = some o := by subst h; exact heap_alloc_new w o
/-- A row whose block lies below B stays where all blocks below B do. -/
theorem own_under {w w' : World} {B base : Nat} {e : TypeId} {size : Nat} {v : Value} {n : Nat} {xs : List Value} (h : w.ownsRow base e size v n xs) (hl : ∀ k, v.ownBlock = some k → k < B) (hb : Below B w w') : w'.ownsRow base e size v n xs := by
  obtain ⟨h1, h2⟩ := h
  refine ⟨h1, ?_⟩
  rcases h2 with h2 | ⟨g, cap, cur, rfl, hg, hh, h3⟩
  · exact Or.inl h2
  · exact Or.inr ⟨g, cap, cur, rfl, hg, (hb.block g (hl g rfl)).trans hh, h3⟩

set_option maxRecDepth 100000 in
set_option maxHeartbeats 800000 in
theorem isPivot_any (b o : Nat) (kind : Nat) (v : Nat) (u : Bool) (w : World) (hc : w.cell? ⟨b, o, none⟩ = some (.int .i64 kind)) :
    Calls Tryz.prog 138 #[.pointer (some ⟨b, o, none⟩), .agg #[.int .i64 v, .bool u]] w fun e w' => e = .returned (.bool (pivotB kind u)) ∧ Below w.heap.size w w' := by
  have hbw := cell_lt hc
  have HE : Hid (((kind : Int) == 2) = (kind == 2)) := hide (by rw [Bool.eq_iff_iff, beq_iff_eq, beq_iff_eq]; omega)
  go_enter Tryz.func138, Tryz.ntmps138
  go_wp2_with fail
  go_quiet (fail)
  go_wp2_with fail
  go_ret
  exact ⟨ret_bool (by rw [unhide HE]; rfl), below_drewN ((Below.refl _ _).alloc (Nat.le_refl _) _) nq⟩

set_option maxRecDepth 100000 in
set_option maxHeartbeats 800000 in
theorem plits_any (base b o : Nat) (p : List Stp) (vS : Value) (n : Nat) (w : World) (hs : w.cell? ⟨b, o + 1, none⟩ = some vS) (hown : w.ownsRow base 134 6 vS p.length (psCells p)) (hl : p.length ≤ 1048576) :
    Calls Tryz.prog 73 #[.pointer (some ⟨b, o, none⟩), .int .i64 n] w fun e w' => e = .returned (SetV (litsAt p n)) ∧ Below w.heap.size w w' := by
  obtain ⟨aS, cS, rfl⟩ := own_form hown
  have hbw := cell_lt hs
  by_cases h1 : n < 1
  · have HL : Hid (litsAt p n = (0, 0)) := hide (litsAt_out p n (Or.inl h1))
    have e : n = 0 := by omega
    subst e
    clear h1
    go_enter Tryz.func73, Tryz.ntmps73
    go_wp2_with fail
    refine bodyPost_ret (v := SetV (0, 0)) (by simp [results, Tryz.results73, go_sem]) rfl ⟨by rw [unhide HL], ?_⟩
    exact (Below.refl _ _).alloc (Nat.le_refl _) _
  · have hd1 : decide ((n : Int) < 1) = false := by simp; omega
    by_cases h2 : p.length < n
    · have HL : Hid (litsAt p n = (0, 0)) := hide (litsAt_out p n (Or.inr h2))
      have hd2 : decide (p.length < n) = true := by simpa using h2
      clear h1 h2
      go_enter Tryz.func73, Tryz.ntmps73
      go_wp2_with fail
      refine bodyPost_ret (v := SetV (0, 0)) (by simp [results, Tryz.results73, go_sem]) rfl ⟨by rw [unhide HL], ?_⟩
      exact (Below.refl _ _).alloc (Nat.le_refl _) _
    · obtain ⟨m, rfl⟩ : ∃ m, n = m + 1 := ⟨n - 1, by omega⟩
      have hm : m < p.length := by omega
      have hd2 : decide (p.length < m + 1) = false := by simp; omega
      have hd3 : decide ((p.length : Int) < ((m : Int) + 1)) = false := by simp; omega
      have hd4 : decide ((m : Int) + 1 < 1) = false := by simp; omega
      have HL : Hid (litsAt p (m + 1) = p[m].lits) := hide (litsAt_in p m hm)
      obtain ⟨g, cap, hVe, hg, hg', _, hcell⟩ := own_pos hown (by omega)
      injection hVe with hVe _ hV2
      subst hVe hV2
      have hx0 : w.cell? ⟨g, m * 6 + 4, none⟩ = some (.int .i64 (p[m].lits.1 : Int)) := hcell _ _ (psCells_at p m 4 hm (by omega))
      have hx1 : w.cell? ⟨g, m * 6 + 5, none⟩ = some (.int .i64 (p[m].lits.2 : Int)) := hcell _ _ (psCells_at p m 5 hm (by omega))
      clear hcell h1 h2
      generalize p[m].lits = c at *
      obtain ⟨c1, c2⟩ := c
      dsimp only at *
      go_enter Tryz.func73, Tryz.ntmps73
      go_wp2_with fail
      refine bodyPost_ret (v := SetV (c1, c2)) (by simp [results, Tryz.results73, go_sem]) rfl ⟨by rw [unhide HL], ?_⟩
      exact (Below.refl _ _).alloc (Nat.le_refl _) _

abbrev StpV (s : Stp) : Value := .agg #[.int .i64 (s.rule : Int), .int .i64 (s.first : Int), .int .i64 (s.second : Int), .int .i64 (s.var : Int), .int .i64 (s.lits.1 : Int), .int .i64 (s.lits.2 : Int)]

set_option maxRecDepth 100000 in
set_option maxHeartbeats 800000 in
theorem resolvent_any (base b o : Nat) (p : List Stp) (vS : Value) (s : Stp) (w : World) (hs : w.cell? ⟨b, o + 1, none⟩ = some vS) (hown : w.ownsRow base 134 6 vS p.length (psCells p)) (hl : p.length ≤ 1048576) (hb : ∀ s ∈ p, s.lits.1 < 512 ∧ s.lits.2 < 512) :
    Calls Tryz.prog 127 #[.pointer (some ⟨b, o, none⟩), StpV s] w fun e w' => e = .returned (SetV (without2 (litsAt p s.first) (litsAt p s.second) s.var)) ∧ Below w.heap.size w w' := by
  have hbw := cell_lt hs
  have hl1 := litsAt_lt p hb s.first
  have hl2 := litsAt_lt p hb s.second
  have HW : Hid (without2 (litsAt p s.first) (litsAt p s.second) s.var = without ((litsAt p s.first).1 ||| (litsAt p s.second).1, (litsAt p s.first).2 ||| (litsAt p s.second).2) s.var) := hide rfl
  obtain ⟨sr, sf, ss, sv, sl⟩ := s
  obtain ⟨sl1, sl2⟩ := sl
  dsimp only at *
  go_enter Tryz.func127, Tryz.ntmps127
  go_wp2_with fail
  generalize hw0 : ((w.alloc (.cells #[.int .i64 (sr : Int), .int .i64 (sf : Int), .int .i64 (ss : Int), .int .i64 (sv : Int), .int .i64 (sl1 : Int), .int .i64 (sl2 : Int)] 134)).alloc (.cells #[.int .i64 0, .int .i64 0] 74)) = u1
  have hB : Below w.heap.size w u1 := by rw [← hw0]; exact ((Below.refl _ _).alloc (Nat.le_refl _) _).alloc (by simp) _
  have hst : u1.heap[w.heap.size]? = some (.cells #[.int .i64 (sr : Int), .int .i64 (sf : Int), .int .i64 (ss : Int), .int .i64 (sv : Int), .int .i64 (sl1 : Int), .int .i64 (sl2 : Int)] 134 (0, 0)) := by rw [← hw0, heap_alloc_old _ _ (by simp)]; exact alloc_new_at (by simp)
  have hrs : u1.heap[w.heap.size + 1]? = some (.cells #[.int .i64 0, .int .i64 0] 74 (0, 0)) := by rw [← hw0]; exact alloc_new_at (by simp)
  clear hw0
  have cst0 : u1.cell? ⟨w.heap.size, 0, none⟩ = some (.int .i64 (sr : Int)) := by rw [blk_cell hst]; rfl
  have cst1 : u1.cell? ⟨w.heap.size, 1, none⟩ = some (.int .i64 (sf : Int)) := by rw [blk_cell hst]; rfl
  have cst2 : u1.cell? ⟨w.heap.size, 2, none⟩ = some (.int .i64 (ss : Int)) := by rw [blk_cell hst]; rfl
  have cst3 : u1.cell? ⟨w.heap.size, 3, none⟩ = some (.int .i64 (sv : Int)) := by rw [blk_cell hst]; rfl
  have cst4 : u1.cell? ⟨w.heap.size, 4, none⟩ = some (.int .i64 (sl1 : Int)) := by rw [blk_cell hst]; rfl
  have cst5 : u1.cell? ⟨w.heap.size, 5, none⟩ = some (.int .i64 (sl2 : Int)) := by rw [blk_cell hst]; rfl
  have lst := blk_lt hst
  have crs0 : u1.cell? ⟨w.heap.size + 1, 0, none⟩ = some (.int .i64 0) := by rw [blk_cell hrs]; rfl
  have crs1 : u1.cell? ⟨w.heap.size + 1, 1, none⟩ = some (.int .i64 0) := by rw [blk_cell hrs]; rfl
  have lrs := blk_lt hrs
  have hc : u1.cell? ⟨b, o + 1, none⟩ = some vS := by rw [hB.cell (p := ⟨b, o + 1, none⟩) hbw]; exact hs
  have hbw2 : b < u1.heap.size := Nat.lt_of_lt_of_le hbw hB.size
  refine (plits_any base b o p vS sf _ hc (own_below hown hB) hl).mono ?_
  rintro e u2 ⟨rfl, b2⟩
  replace hB := hB.trans (b2.mono hB.size)
  replace hst := (b2.block _ (blk_lt hst)).trans hst
  replace cst0 : u2.cell? ⟨w.heap.size, 0, none⟩ = some (.int .i64 (sr : Int)) := by rw [blk_cell hst]; rfl
  replace cst1 : u2.cell? ⟨w.heap.size, 1, none⟩ = some (.int .i64 (sf : Int)) := by rw [blk_cell hst]; rfl
  replace cst2 : u2.cell? ⟨w.heap.size, 2, none⟩ = some (.int .i64 (ss : Int)) := by rw [blk_cell hst]; rfl
  replace cst3 : u2.cell? ⟨w.heap.size, 3, none⟩ = some (.int .i64 (sv : Int)) := by rw [blk_cell hst]; rfl
  replace cst4 : u2.cell? ⟨w.heap.size, 4, none⟩ = some (.int .i64 (sl1 : Int)) := by rw [blk_cell hst]; rfl
  replace cst5 : u2.cell? ⟨w.heap.size, 5, none⟩ = some (.int .i64 (sl2 : Int)) := by rw [blk_cell hst]; rfl
  replace lst := blk_lt hst
  replace hrs := (b2.block _ (blk_lt hrs)).trans hrs
  replace crs0 : u2.cell? ⟨w.heap.size + 1, 0, none⟩ = some (.int .i64 0) := by rw [blk_cell hrs]; rfl
  replace crs1 : u2.cell? ⟨w.heap.size + 1, 1, none⟩ = some (.int .i64 0) := by rw [blk_cell hrs]; rfl
  replace lrs := blk_lt hrs
  replace hc : u2.cell? ⟨b, o + 1, none⟩ = some vS := by rw [hB.cell (p := ⟨b, o + 1, none⟩) hbw]; exact hs
  replace hbw2 : b < u2.heap.size := Nat.lt_of_lt_of_le hbw hB.size
  generalize hea : litsAt p sf = a at *
  have HEA := hide hea
  clear hea
  obtain ⟨a1, a2⟩ := a
  dsimp only at *
  go_wp2_with fail
  generalize hw0 : u2.alloc (.cells #[.int .i64 (a1 : Int), .int .i64 (a2 : Int)] 74) = u3
  have b3 : Below u2.heap.size u2 u3 := by rw [← hw0]; exact (Below.refl _ _).alloc (Nat.le_refl _) _
  have hfi : u3.heap[u2.heap.size]? = some (.cells #[.int .i64 (a1 : Int), .int .i64 (a2 : Int)] 74 (0, 0)) := by rw [← hw0]; exact heap_alloc_new _ _
  clear hw0
  replace hB := hB.trans (b3.mono hB.size)
  replace hst := (b3.block _ (blk_lt hst)).trans hst
  replace cst0 : u3.cell? ⟨w.heap.size, 0, none⟩ = some (.int .i64 (sr : Int)) := by rw [blk_cell hst]; rfl
  replace cst1 : u3.cell? ⟨w.heap.size, 1, none⟩ = some (.int .i64 (sf : Int)) := by rw [blk_cell hst]; rfl
  replace cst2 : u3.cell? ⟨w.heap.size, 2, none⟩ = some (.int .i64 (ss : Int)) := by rw [blk_cell hst]; rfl
  replace cst3 : u3.cell? ⟨w.heap.size, 3, none⟩ = some (.int .i64 (sv : Int)) := by rw [blk_cell hst]; rfl
  replace cst4 : u3.cell? ⟨w.heap.size, 4, none⟩ = some (.int .i64 (sl1 : Int)) := by rw [blk_cell hst]; rfl
  replace cst5 : u3.cell? ⟨w.heap.size, 5, none⟩ = some (.int .i64 (sl2 : Int)) := by rw [blk_cell hst]; rfl
  replace lst := blk_lt hst
  replace hrs := (b3.block _ (blk_lt hrs)).trans hrs
  replace crs0 : u3.cell? ⟨w.heap.size + 1, 0, none⟩ = some (.int .i64 0) := by rw [blk_cell hrs]; rfl
  replace crs1 : u3.cell? ⟨w.heap.size + 1, 1, none⟩ = some (.int .i64 0) := by rw [blk_cell hrs]; rfl
  replace lrs := blk_lt hrs
  replace hc : u3.cell? ⟨b, o + 1, none⟩ = some vS := by rw [hB.cell (p := ⟨b, o + 1, none⟩) hbw]; exact hs
  replace hbw2 : b < u3.heap.size := Nat.lt_of_lt_of_le hbw hB.size
  have cfi0 : u3.cell? ⟨u2.heap.size, 0, none⟩ = some (.int .i64 (a1 : Int)) := by rw [blk_cell hfi]; rfl
  have cfi1 : u3.cell? ⟨u2.heap.size, 1, none⟩ = some (.int .i64 (a2 : Int)) := by rw [blk_cell hfi]; rfl
  have lfi := blk_lt hfi
  refine (plits_any base b o p vS ss _ hc (own_below hown hB) hl).mono ?_
  rintro e u4 ⟨rfl, b4⟩
  replace hB := hB.trans (b4.mono hB.size)
  replace hst := (b4.block _ (blk_lt hst)).trans hst
  replace cst0 : u4.cell? ⟨w.heap.size, 0, none⟩ = some (.int .i64 (sr : Int)) := by rw [blk_cell hst]; rfl
  replace cst1 : u4.cell? ⟨w.heap.size, 1, none⟩ = some (.int .i64 (sf : Int)) := by rw [blk_cell hst]; rfl
  replace cst2 : u4.cell? ⟨w.heap.size, 2, none⟩ = some (.int .i64 (ss : Int)) := by rw [blk_cell hst]; rfl
  replace cst3 : u4.cell? ⟨w.heap.size, 3, none⟩ = some (.int .i64 (sv : Int)) := by rw [blk_cell hst]; rfl
  replace cst4 : u4.cell? ⟨w.heap.size, 4, none⟩ = some (.int .i64 (sl1 : Int)) := by rw [blk_cell hst]; rfl
  replace cst5 : u4.cell? ⟨w.heap.size, 5, none⟩ = some (.int .i64 (sl2 : Int)) := by rw [blk_cell hst]; rfl
  replace lst := blk_lt hst
  replace hrs := (b4.block _ (blk_lt hrs)).trans hrs
  replace crs0 : u4.cell? ⟨w.heap.size + 1, 0, none⟩ = some (.int .i64 0) := by rw [blk_cell hrs]; rfl
  replace crs1 : u4.cell? ⟨w.heap.size + 1, 1, none⟩ = some (.int .i64 0) := by rw [blk_cell hrs]; rfl
  replace lrs := blk_lt hrs
  replace hfi := (b4.block _ (blk_lt hfi)).trans hfi
  replace cfi0 : u4.cell? ⟨u2.heap.size, 0, none⟩ = some (.int .i64 (a1 : Int)) := by rw [blk_cell hfi]; rfl
  replace cfi1 : u4.cell? ⟨u2.heap.size, 1, none⟩ = some (.int .i64 (a2 : Int)) := by rw [blk_cell hfi]; rfl
  replace lfi := blk_lt hfi
  replace hc : u4.cell? ⟨b, o + 1, none⟩ = some vS := by rw [hB.cell (p := ⟨b, o + 1, none⟩) hbw]; exact hs
  replace hbw2 : b < u4.heap.size := Nat.lt_of_lt_of_le hbw hB.size
  generalize hea : litsAt p ss = a at *
  have HEB := hide hea
  clear hea
  obtain ⟨d1, d2⟩ := a
  dsimp only at *
  go_wp2_with fail
  generalize hw0 : u4.alloc (.cells #[.int .i64 (d1 : Int), .int .i64 (d2 : Int)] 74) = u5
  have b5 : Below u4.heap.size u4 u5 := by rw [← hw0]; exact (Below.refl _ _).alloc (Nat.le_refl _) _
  have hse : u5.heap[u4.heap.size]? = some (.cells #[.int .i64 (d1 : Int), .int .i64 (d2 : Int)] 74 (0, 0)) := by rw [← hw0]; exact heap_alloc_new _ _
  clear hw0
  replace hB := hB.trans (b5.mono hB.size)
  replace hst := (b5.block _ (blk_lt hst)).trans hst
  replace cst0 : u5.cell? ⟨w.heap.size, 0, none⟩ = some (.int .i64 (sr : Int)) := by rw [blk_cell hst]; rfl
  replace cst1 : u5.cell? ⟨w.heap.size, 1, none⟩ = some (.int .i64 (sf : Int)) := by rw [blk_cell hst]; rfl
  replace cst2 : u5.cell? ⟨w.heap.size, 2, none⟩ = some (.int .i64 (ss : Int)) := by rw [blk_cell hst]; rfl
  replace cst3 : u5.cell? ⟨w.heap.size, 3, none⟩ = some (.int .i64 (sv : Int)) := by rw [blk_cell hst]; rfl
  replace cst4 : u5.cell? ⟨w.heap.size, 4, none⟩ = some (.int .i64 (sl1 : Int)) := by rw [blk_cell hst]; rfl
  replace cst5 : u5.cell? ⟨w.heap.size, 5, none⟩ = some (.int .i64 (sl2 : Int)) := by rw [blk_cell hst]; rfl
  replace lst := blk_lt hst
  replace hrs := (b5.block _ (blk_lt hrs)).trans hrs
  replace crs0 : u5.cell? ⟨w.heap.size + 1, 0, none⟩ = some (.int .i64 0) := by rw [blk_cell hrs]; rfl
  replace crs1 : u5.cell? ⟨w.heap.size + 1, 1, none⟩ = some (.int .i64 0) := by rw [blk_cell hrs]; rfl
  replace lrs := blk_lt hrs
  replace hfi := (b5.block _ (blk_lt hfi)).trans hfi
  replace cfi0 : u5.cell? ⟨u2.heap.size, 0, none⟩ = some (.int .i64 (a1 : Int)) := by rw [blk_cell hfi]; rfl
  replace cfi1 : u5.cell? ⟨u2.heap.size, 1, none⟩ = some (.int .i64 (a2 : Int)) := by rw [blk_cell hfi]; rfl
  replace lfi := blk_lt hfi
  replace hc : u5.cell? ⟨b, o + 1, none⟩ = some vS := by rw [hB.cell (p := ⟨b, o + 1, none⟩) hbw]; exact hs
  replace hbw2 : b < u5.heap.size := Nat.lt_of_lt_of_le hbw hB.size
  have cse0 : u5.cell? ⟨u4.heap.size, 0, none⟩ = some (.int .i64 (d1 : Int)) := by rw [blk_cell hse]; rfl
  have cse1 : u5.cell? ⟨u4.heap.size, 1, none⟩ = some (.int .i64 (d2 : Int)) := by rw [blk_cell hse]; rfl
  have lse := blk_lt hse
  refine (union_any a1 a2 d1 d2 _ hl1.1 hl1.2 hl2.1 hl2.2).mono ?_
  rintro e u6 ⟨rfl, b6⟩
  replace hB := hB.trans (b6.mono hB.size)
  replace hst := (b6.block _ (blk_lt hst)).trans hst
  replace cst0 : u6.cell? ⟨w.heap.size, 0, none⟩ = some (.int .i64 (sr : Int)) := by rw [blk_cell hst]; rfl
  replace cst1 : u6.cell? ⟨w.heap.size, 1, none⟩ = some (.int .i64 (sf : Int)) := by rw [blk_cell hst]; rfl
  replace cst2 : u6.cell? ⟨w.heap.size, 2, none⟩ = some (.int .i64 (ss : Int)) := by rw [blk_cell hst]; rfl
  replace cst3 : u6.cell? ⟨w.heap.size, 3, none⟩ = some (.int .i64 (sv : Int)) := by rw [blk_cell hst]; rfl
  replace cst4 : u6.cell? ⟨w.heap.size, 4, none⟩ = some (.int .i64 (sl1 : Int)) := by rw [blk_cell hst]; rfl
  replace cst5 : u6.cell? ⟨w.heap.size, 5, none⟩ = some (.int .i64 (sl2 : Int)) := by rw [blk_cell hst]; rfl
  replace lst := blk_lt hst
  replace hrs := (b6.block _ (blk_lt hrs)).trans hrs
  replace crs0 : u6.cell? ⟨w.heap.size + 1, 0, none⟩ = some (.int .i64 0) := by rw [blk_cell hrs]; rfl
  replace crs1 : u6.cell? ⟨w.heap.size + 1, 1, none⟩ = some (.int .i64 0) := by rw [blk_cell hrs]; rfl
  replace lrs := blk_lt hrs
  replace hfi := (b6.block _ (blk_lt hfi)).trans hfi
  replace cfi0 : u6.cell? ⟨u2.heap.size, 0, none⟩ = some (.int .i64 (a1 : Int)) := by rw [blk_cell hfi]; rfl
  replace cfi1 : u6.cell? ⟨u2.heap.size, 1, none⟩ = some (.int .i64 (a2 : Int)) := by rw [blk_cell hfi]; rfl
  replace lfi := blk_lt hfi
  replace hse := (b6.block _ (blk_lt hse)).trans hse
  replace cse0 : u6.cell? ⟨u4.heap.size, 0, none⟩ = some (.int .i64 (d1 : Int)) := by rw [blk_cell hse]; rfl
  replace cse1 : u6.cell? ⟨u4.heap.size, 1, none⟩ = some (.int .i64 (d2 : Int)) := by rw [blk_cell hse]; rfl
  replace lse := blk_lt hse
  replace hc : u6.cell? ⟨b, o + 1, none⟩ = some vS := by rw [hB.cell (p := ⟨b, o + 1, none⟩) hbw]; exact hs
  replace hbw2 : b < u6.heap.size := Nat.lt_of_lt_of_le hbw hB.size
  have hu1 := or_lt a1 d1 hl1.1 hl2.1
  have hu2 := or_lt a2 d2 hl1.2 hl2.2
  generalize a1 ||| d1 = pu at *
  generalize a2 ||| d2 = nu at *
  go_wp2_with fail
  generalize hw0 : u6.alloc (.cells #[.int .i64 (pu : Int), .int .i64 (nu : Int)] 74) = u7
  have b7 : Below u6.heap.size u6 u7 := by rw [← hw0]; exact (Below.refl _ _).alloc (Nat.le_refl _) _
  have hbo : u7.heap[u6.heap.size]? = some (.cells #[.int .i64 (pu : Int), .int .i64 (nu : Int)] 74 (0, 0)) := by rw [← hw0]; exact heap_alloc_new _ _
  clear hw0
  replace hB := hB.trans (b7.mono hB.size)
  replace hst := (b7.block _ (blk_lt hst)).trans hst
  replace cst0 : u7.cell? ⟨w.heap.size, 0, none⟩ = some (.int .i64 (sr : Int)) := by rw [blk_cell hst]; rfl
  replace cst1 : u7.cell? ⟨w.heap.size, 1, none⟩ = some (.int .i64 (sf : Int)) := by rw [blk_cell hst]; rfl
  replace cst2 : u7.cell? ⟨w.heap.size, 2, none⟩ = some (.int .i64 (ss : Int)) := by rw [blk_cell hst]; rfl
  replace cst3 : u7.cell? ⟨w.heap.size, 3, none⟩ = some (.int .i64 (sv : Int)) := by rw [blk_cell hst]; rfl
  replace cst4 : u7.cell? ⟨w.heap.size, 4, none⟩ = some (.int .i64 (sl1 : Int)) := by rw [blk_cell hst]; rfl
  replace cst5 : u7.cell? ⟨w.heap.size, 5, none⟩ = some (.int .i64 (sl2 : Int)) := by rw [blk_cell hst]; rfl
  replace lst := blk_lt hst
  replace hrs := (b7.block _ (blk_lt hrs)).trans hrs
  replace crs0 : u7.cell? ⟨w.heap.size + 1, 0, none⟩ = some (.int .i64 0) := by rw [blk_cell hrs]; rfl
  replace crs1 : u7.cell? ⟨w.heap.size + 1, 1, none⟩ = some (.int .i64 0) := by rw [blk_cell hrs]; rfl
  replace lrs := blk_lt hrs
  replace hfi := (b7.block _ (blk_lt hfi)).trans hfi
  replace cfi0 : u7.cell? ⟨u2.heap.size, 0, none⟩ = some (.int .i64 (a1 : Int)) := by rw [blk_cell hfi]; rfl
  replace cfi1 : u7.cell? ⟨u2.heap.size, 1, none⟩ = some (.int .i64 (a2 : Int)) := by rw [blk_cell hfi]; rfl
  replace lfi := blk_lt hfi
  replace hse := (b7.block _ (blk_lt hse)).trans hse
  replace cse0 : u7.cell? ⟨u4.heap.size, 0, none⟩ = some (.int .i64 (d1 : Int)) := by rw [blk_cell hse]; rfl
  replace cse1 : u7.cell? ⟨u4.heap.size, 1, none⟩ = some (.int .i64 (d2 : Int)) := by rw [blk_cell hse]; rfl
  replace lse := blk_lt hse
  replace hc : u7.cell? ⟨b, o + 1, none⟩ = some vS := by rw [hB.cell (p := ⟨b, o + 1, none⟩) hbw]; exact hs
  replace hbw2 : b < u7.heap.size := Nat.lt_of_lt_of_le hbw hB.size
  have cbo0 : u7.cell? ⟨u6.heap.size, 0, none⟩ = some (.int .i64 (pu : Int)) := by rw [blk_cell hbo]; rfl
  have cbo1 : u7.cell? ⟨u6.heap.size, 1, none⟩ = some (.int .i64 (nu : Int)) := by rw [blk_cell hbo]; rfl
  have lbo := blk_lt hbo
  refine (withoutVar_any pu nu sv _ hu1 hu2).mono ?_
  rintro e u8 ⟨rfl, b8⟩
  replace hB := hB.trans (b8.mono hB.size)
  replace hst := (b8.block _ (blk_lt hst)).trans hst
  replace cst0 : u8.cell? ⟨w.heap.size, 0, none⟩ = some (.int .i64 (sr : Int)) := by rw [blk_cell hst]; rfl
  replace cst1 : u8.cell? ⟨w.heap.size, 1, none⟩ = some (.int .i64 (sf : Int)) := by rw [blk_cell hst]; rfl
  replace cst2 : u8.cell? ⟨w.heap.size, 2, none⟩ = some (.int .i64 (ss : Int)) := by rw [blk_cell hst]; rfl
  replace cst3 : u8.cell? ⟨w.heap.size, 3, none⟩ = some (.int .i64 (sv : Int)) := by rw [blk_cell hst]; rfl
  replace cst4 : u8.cell? ⟨w.heap.size, 4, none⟩ = some (.int .i64 (sl1 : Int)) := by rw [blk_cell hst]; rfl
  replace cst5 : u8.cell? ⟨w.heap.size, 5, none⟩ = some (.int .i64 (sl2 : Int)) := by rw [blk_cell hst]; rfl
  replace lst := blk_lt hst
  replace hrs := (b8.block _ (blk_lt hrs)).trans hrs
  replace crs0 : u8.cell? ⟨w.heap.size + 1, 0, none⟩ = some (.int .i64 0) := by rw [blk_cell hrs]; rfl
  replace crs1 : u8.cell? ⟨w.heap.size + 1, 1, none⟩ = some (.int .i64 0) := by rw [blk_cell hrs]; rfl
  replace lrs := blk_lt hrs
  replace hfi := (b8.block _ (blk_lt hfi)).trans hfi
  replace cfi0 : u8.cell? ⟨u2.heap.size, 0, none⟩ = some (.int .i64 (a1 : Int)) := by rw [blk_cell hfi]; rfl
  replace cfi1 : u8.cell? ⟨u2.heap.size, 1, none⟩ = some (.int .i64 (a2 : Int)) := by rw [blk_cell hfi]; rfl
  replace lfi := blk_lt hfi
  replace hse := (b8.block _ (blk_lt hse)).trans hse
  replace cse0 : u8.cell? ⟨u4.heap.size, 0, none⟩ = some (.int .i64 (d1 : Int)) := by rw [blk_cell hse]; rfl
  replace cse1 : u8.cell? ⟨u4.heap.size, 1, none⟩ = some (.int .i64 (d2 : Int)) := by rw [blk_cell hse]; rfl
  replace lse := blk_lt hse
  replace hbo := (b8.block _ (blk_lt hbo)).trans hbo
  replace cbo0 : u8.cell? ⟨u6.heap.size, 0, none⟩ = some (.int .i64 (pu : Int)) := by rw [blk_cell hbo]; rfl
  replace cbo1 : u8.cell? ⟨u6.heap.size, 1, none⟩ = some (.int .i64 (nu : Int)) := by rw [blk_cell hbo]; rfl
  replace lbo := blk_lt hbo
  replace hc : u8.cell? ⟨b, o + 1, none⟩ = some vS := by rw [hB.cell (p := ⟨b, o + 1, none⟩) hbw]; exact hs
  replace hbw2 : b < u8.heap.size := Nat.lt_of_lt_of_le hbw hB.size
  have hlt := without_lt (pu, nu) sv ⟨hu1, hu2⟩
  generalize without (pu, nu) sv = cw at *
  obtain ⟨p', n'⟩ := cw
  dsimp only at *
  have z0 := blk_free hrs 0
  have z1 := blk_free hrs 1
  have hR := blk_set (blk_set hrs 0 (.int .i64 (p' : Int))) 1 (.int .i64 (n' : Int))
  have j0 := blk_cell hR 0
  have j1 := blk_cell hR 1
  go_wp2_with fail
  refine bodyPost_ret (v := SetV (p', n')) (by simp [results, Tryz.results127, go_sem, j0, j1]) rfl ⟨by rw [unhide HEA, unhide HEB, unhide HW], ?_⟩
  exact (hB.setCell (p := ⟨w.heap.size + 1, 0, none⟩) (Nat.le_succ _) _).setCell (p := ⟨w.heap.size + 1, 1, none⟩) (Nat.le_succ _) _
end Go.Proofs.YtgipjjhkhfihpaaGreatDoor

namespace Go.Proofs.YtgipjjhkhfihpaaGreatDoor
open Go.RowKit

/-! ### reduced -/
set_option maxRecDepth 100000 in
set_option maxHeartbeats 1600000 in
theorem preduced_any (base b o : Nat) (q : QS) (kind : Nat) (vV vC : Value) (c : Nat × Nat) (w : World) (hk : w.cell? ⟨b, o, none⟩ = some (.int .i64 kind)) (hoV : w.ownsRow base 139 2 vV q.vars.length (varCells q.vars)) (hQ : QB q) (hc : c.1 < 512 ∧ c.2 < 512) (hCf : ∃ aC nC cC, vC = .slice aC nC cC) :
    Calls Tryz.prog 128 #[.pointer (some ⟨b, o, none⟩), .agg #[vV, vC], SetV c] w fun e w' => e = .returned (SetV (redQ kind q.vars.reverse c)) ∧ Below w.heap.size w w' := by
  obtain ⟨aV, cV, rfl⟩ := own_form hoV
  obtain ⟨aC, nC, cC, rfl⟩ := hCf
  have hbw := cell_lt hk
  have hvl := hQ.vl
  go_enter Tryz.func128, Tryz.ntmps128
  obtain ⟨p0, n0⟩ := c
  go_wp2_with fail
  go_loopg [7] (q.vars.length + 1) (fun m i wx => ∃ (k p n : Nat), i = .int .i64 ((k : Int) - 1) ∧ k + 1 ≤ m ∧ m ≤ k + 1 ∧ k ≤ q.vars.length ∧ p < 512 ∧ n < 512 ∧ redQ kind q.vars.reverse (p0, n0) = redQ kind (q.vars.take k).reverse (p, n) ∧ Below w.heap.size w wx ∧
     wx.heap[w.heap.size]? = some (.cells #[.slice aV q.vars.length cV, .slice aC nC cC] 60 (0, 0)) ∧ wx.heap[w.heap.size + 1]? = some (.cells #[.int .i64 p, .int .i64 n] 74 (0, 0)) ∧ wx.heap[w.heap.size + 2]? = some (.cells #[.int .i64 0, .int .i64 0] 74 (0, 0)))
  case atStart => exact ⟨q.vars.length, p0, n0, by go_num, by omega, by omega, by omega, hc.1, hc.2, by rw [List.take_length], (((Below.refl _ _).alloc (Nat.le_refl _) _).alloc (by simp) _).alloc (by simp; omega) _, by rw [heap_alloc_old _ _ (by simp; omega), heap_alloc_old _ _ (by simp)]; exact heap_alloc_new _ _, by rw [heap_alloc_old _ _ (by simp)]; exact alloc_new_at (by simp), alloc_new_at (by simp)⟩
  case round =>
    obtain ⟨k, p, n, rfl, hkm, hkm2, hkl, hp, hn, hred, hb, hfo, hset, hres⟩ := hrel
    have HR := hide hred; clear hred
    have hv0 : wr.cell? ⟨w.heap.size, 0, none⟩ = some (.slice aV q.vars.length cV) := by rw [blk_cell hfo]; rfl
    have hs0 : wr.cell? ⟨w.heap.size + 1, 0, none⟩ = some (.int .i64 p) := by rw [blk_cell hset]; rfl
    have hs1 : wr.cell? ⟨w.heap.size + 1, 1, none⟩ = some (.int .i64 n) := by rw [blk_cell hset]; rfl
    have hr0 : wr.cell? ⟨w.heap.size + 2, 0, none⟩ = some (.int .i64 0) := by rw [blk_cell hres]; rfl
    have hr1 : wr.cell? ⟨w.heap.size + 2, 1, none⟩ = some (.int .i64 0) := by rw [blk_cell hres]; rfl
    have hz0 := blk_free hset 0
    have hz1 := blk_free hset 1
    have hy0 := blk_free hres 0
    have hy1 := blk_free hres 1
    have hbs := blk_lt hres
    have hbs0 : w.heap.size < wr.heap.size := by omega
    have hbs1 : w.heap.size + 1 < wr.heap.size := by omega
    have hbw1 : b < wr.heap.size := by omega
    cases k with
    | zero =>
      have HF : Hid (redQ kind q.vars.reverse (p0, n0) = (p, n)) := hide (by rw [unhide HR]; rfl)
      have hR := blk_set (blk_set hres 0 (.int .i64 p)) 1 (.int .i64 n)
      have j0 := blk_cell hR 0
      have j1 := blk_cell hR 1
      go_wp2_with fail
      refine bodyPost_ret (v := SetV (p, n)) (by simp [results, Tryz.results128, go_sem, j0, j1]) rfl ⟨by rw [unhide HF], ?_⟩
      exact (hb.setCell (p := ⟨w.heap.size + 2, 0, none⟩) (by simp) _).setCell (p := ⟨w.heap.size + 2, 1, none⟩) (by simp) _
    | succ k =>
      have hlt : k < q.vars.length := by omega
      obtain ⟨g, cap, hVe, hg, hg', _, hcell⟩ := own_pos hoV (by omega)
      injection hVe with hVe _ hV2
      subst hVe hV2
      obtain ⟨ha, hb'⟩ := varCells_at q.vars k hlt
      have hx0 : wr.cell? ⟨g, k * 2, none⟩ = some (.int .i64 (q.vars[k].1 : Int)) := by rw [hb.cell (p := ⟨g, k * 2, none⟩) hg']; exact hcell _ _ ha
      have hx1 : wr.cell? ⟨g, k * 2 + 1, none⟩ = some (.bool q.vars[k].2) := by rw [hb.cell (p := ⟨g, k * 2 + 1, none⟩) hg']; exact hcell _ _ hb'
      have hgw : g < wr.heap.size := by omega
      have HST := hide (redQ_step kind q.vars k hlt (p, n))
      clear hcell ha hb'
      generalize q.vars[k] = x at *
      obtain ⟨vn, vu⟩ := x
      dsimp only at *
      go_wp2_with fail
      refine (hasVar_any p n vn _ hp hn).mono ?_
      rintro e w2 ⟨rfl, hb2⟩
      have hw2 : Below wr.heap.size wr w2 := ((Below.refl _ wr).alloc (Nat.le_refl _) _).trans (hb2.mono (by simp))
      have hsz2 := hw2.size
      have hv2 : w2.heap[wr.heap.size]? = some (.cells #[.int .i64 vn, .bool vu] 139 (0, 0)) := (hb2.block _ (by simp)).trans (heap_alloc_new _ _)
      have hfo2 := (hw2.block _ hbs0).trans hfo
      have hset2 := (hw2.block _ hbs1).trans hset
      have hres2 := (hw2.block _ hbs).trans hres
      have hbw2 : Below w.heap.size w w2 := hb.trans (hw2.mono (by omega))
      rw [show ((p ||| n) &&& bitOf vn != 0) = hasVarB (p, n) vn from rfl]
      cases hh : hasVarB (p, n) vn with
      | false =>
        have HF : Hid (redQ kind q.vars.reverse (p0, n0) = redQ kind (q.vars.take k).reverse (p, n)) := hide (by rw [unhide HR, unhide HST, hh]; rfl)
        go_wp2_with fail
        go_roundg (gk - 1)
        case measure => omega
        case rel => exact ⟨k, p, n, by go_num, by omega, by omega, by omega, hp, hn, unhide HF, hbw2, hfo2, hset2, hres2⟩
      | true =>
        have y2 : w2.cell? ⟨b, o, none⟩ = some (.int .i64 kind) := by rw [hbw2.cell (p := ⟨b, o, none⟩) hbw]; exact hk
        have hc0 : w2.cell? ⟨wr.heap.size, 0, none⟩ = some (.int .i64 vn) := by rw [blk_cell hv2]; rfl
        have hc1 : w2.cell? ⟨wr.heap.size, 1, none⟩ = some (.bool vu) := by rw [blk_cell hv2]; rfl
        go_wp2_with fail
        refine (isPivot_any b o kind vn vu w2 y2).mono ?_
        rintro e w3 ⟨rfl, hb3⟩
        have hv3 := (hb3.block _ (blk_lt hv2)).trans hv2
        have hfo3 := (hb3.block _ (blk_lt hfo2)).trans hfo2
        have hset3 := (hb3.block _ (blk_lt hset2)).trans hset2
        have hres3 := (hb3.block _ (blk_lt hres2)).trans hres2
        have hbw3 : Below w.heap.size w w3 := hbw2.trans (hb3.mono hbw2.size)
        have e0 : w3.cell? ⟨w.heap.size + 1, 0, none⟩ = some (.int .i64 p) := by rw [blk_cell hset3]; rfl
        have e1 : w3.cell? ⟨w.heap.size + 1, 1, none⟩ = some (.int .i64 n) := by rw [blk_cell hset3]; rfl
        have f0 : w3.cell? ⟨w.heap.size + 2, 0, none⟩ = some (.int .i64 0) := by rw [blk_cell hres3]; rfl
        have f1 : w3.cell? ⟨w.heap.size + 2, 1, none⟩ = some (.int .i64 0) := by rw [blk_cell hres3]; rfl
        have g0 : w3.cell? ⟨wr.heap.size, 0, none⟩ = some (.int .i64 vn) := by rw [blk_cell hv3]; rfl
        have z0 := blk_free hset3 0
        have z1 := blk_free hset3 1
        have y0 := blk_free hres3 0
        have y1 := blk_free hres3 1
        cases hpv : pivotB kind vu with
        | true =>
          have HF : Hid (redQ kind q.vars.reverse (p0, n0) = (p, n)) := hide (by rw [unhide HR, unhide HST, hh, hpv]; rfl)
          have hR := blk_set (blk_set hres3 0 (.int .i64 p)) 1 (.int .i64 n)
          have j0 := blk_cell hR 0
          have j1 := blk_cell hR 1
          go_wp2_with fail
          refine bodyPost_ret (v := SetV (p, n)) (by simp [results, Tryz.results128, go_sem, j0, j1]) rfl ⟨by rw [unhide HF], ?_⟩
          exact (hbw3.setCell (p := ⟨w.heap.size + 2, 0, none⟩) (by simp) _).setCell (p := ⟨w.heap.size + 2, 1, none⟩) (by simp) _
        | false =>
          have HF : Hid (redQ kind q.vars.reverse (p0, n0) = redQ kind (q.vars.take k).reverse (without (p, n) vn)) := hide (by rw [unhide HR, unhide HST, hh, hpv]; rfl)
          have hwl := without_lt (p, n) vn ⟨hp, hn⟩
          go_wp2_with fail
          refine (withoutVar_any p n vn w3 hp hn).mono ?_
          rintro e w4 ⟨rfl, hb4⟩
          have hfo4 := (hb4.block _ (blk_lt hfo3)).trans hfo3
          have hset4 := (hb4.block _ (blk_lt hset3)).trans hset3
          have hres4 := (hb4.block _ (blk_lt hres3)).trans hres3
          have hbw4 : Below w.heap.size w w4 := hbw3.trans (hb4.mono hbw3.size)
          have i0 : w4.cell? ⟨w.heap.size + 1, 0, none⟩ = some (.int .i64 p) := by rw [blk_cell hset4]; rfl
          have i1 : w4.cell? ⟨w.heap.size + 1, 1, none⟩ = some (.int .i64 n) := by rw [blk_cell hset4]; rfl
          have u0 := blk_free hset4 0
          have u1 := blk_free hset4 1
          generalize without (p, n) vn = cw at *
          obtain ⟨p', n'⟩ := cw
          go_wp2_with fail
          go_roundg (gk - 1)
          case measure => omega
          case rel =>
            refine ⟨k, p', n', by go_num, by omega, by omega, by omega, hwl.1, hwl.2, unhide HF, (hbw4.setCell (p := ⟨w.heap.size + 1, 0, none⟩) (by simp) _).setCell (p := ⟨w.heap.size + 1, 1, none⟩) (by simp) _, ?_, blk_set (blk_set hset4 0 _) 1 _, ?_⟩
            · rw [Below.heap_setCell _ _ _ _ (by simp), Below.heap_setCell _ _ _ _ (by simp)]; exact hfo4
            · rw [Below.heap_setCell _ _ _ _ (by simp), Below.heap_setCell _ _ _ _ (by simp)]; exact hres4
end Go.Proofs.YtgipjjhkhfihpaaGreatDoor

namespace Go.Proofs.YtgipjjhkhfihpaaGreatDoor
open Go.RowKit

theorem own_set_ne {w : World} {base : Nat} {e : TypeId} {size : Nat} {v : Value} {n : Nat} {xs : List Value} (h : w.ownsRow base e size v n xs) {p : Addr} (hp : v.ownBlock ≠ some p.block) (u : Value) : (w.setCell p u).ownsRow base e size v n xs := by
  obtain ⟨h1, h2⟩ := h
  refine ⟨h1, ?_⟩
  rcases h2 with h2 | ⟨g, cap, cur, rfl, hg, hh, h3⟩
  · exact Or.inl h2
  · refine Or.inr ⟨g, cap, cur, rfl, hg, ?_, h3⟩
    rw [Below.heap_setCell _ _ _ _ (fun e => hp (by subst e; rfl))]; exact hh
/-- A row and a block of another type are apart. -/
theorem own_type_ne {w : World} {base : Nat} {e t : TypeId} {size : Nat} {v : Value} {n : Nat} {xs : List Value} {b : Nat} {c : Array Value} {fr : Nat × Nat} (h : w.ownsRow base e size v n xs) (hb : w.heap[b]? = some (.cells c t fr)) (hne : e ≠ t) : v.ownBlock ≠ some b := by
  rcases h.2 with ⟨rfl, _⟩ | ⟨g, cap, cur, rfl, hg, hh, h3⟩
  · intro h; cases h
  · intro h
    injection h with h
    subst h
    rw [hh] at hb
    injection hb with hb
    injection hb with _ hb _
    exact hne hb
/-- A row stays where all but other blocks do. -/
theorem own_keep {T : Nat → Prop} {w w' : World} {base : Nat} {e : TypeId} {size : Nat} {v : Value} {n : Nat} {xs : List Value} (h : w.ownsRow base e size v n xs) (ho : Only T w w') (hT : ∀ k, v.ownBlock = some k → ¬ T k) : w'.ownsRow base e size v n xs := by
  obtain ⟨h1, h2⟩ := h
  refine ⟨h1, ?_⟩
  rcases h2 with h2 | ⟨g, cap, cur, rfl, hg, hh, h3⟩
  · exact Or.inl h2
  · exact Or.inr ⟨g, cap, cur, rfl, hg, (ho.block g (blk_lt hh) (hT g rfl)).trans hh, h3⟩
theorem infoStep : (Tryz.prog.info? 134).map (fun i => (i.zero, i.size, i.bytes)) = some (some (.agg #[.int .i64 0, .int .i64 0, .int .i64 0, .int .i64 0, .int .i64 0, .int .i64 0]), 6, 48) := by kernel_rfl
/-- Where a row went: it is where it was, or in a new block. -/
def Moved (w : World) (v v' : Value) : Prop := v'.ownBlock = v.ownBlock ∨ ∃ k, v'.ownBlock = some k ∧ w.heap.size ≤ k
def AddPost (base b o : Nat) (p : List Stp) (vS : Value) (s : Stp) (cells : Array Value) (t : TypeId) (w : World) (e : Ending) (w' : World) : Prop :=
  ∃ v', e = .returned (.int .i64 ((p.length : Int) + 1)) ∧ w'.ownsRow base 134 6 v' (p.length + 1) (psCells (p ++ [s])) ∧ w'.heap[b]? = some (.cells (cells.setIfInBounds (o + 1) v') t (0, 0)) ∧ Only (fun k => k = b ∨ vS.ownBlock = some k) w w' ∧ Moved w vS v'

set_option maxRecDepth 100000 in
set_option maxHeartbeats 1600000 in
theorem add_any (base b o : Nat) (p : List Stp) (vS : Value) (s : Stp) (cells : Array Value) (t : TypeId) (w : World) (hfb : w.heap[b]? = some (.cells cells t (0, 0))) (hcs : cells[o + 1]? = some vS) (ht : 134 ≠ t) (hown : w.ownsRow base 134 6 vS p.length (psCells p)) (hl : p.length ≤ 1048576) (hbase : base ≤ w.heap.size) :
    Calls Tryz.prog 72 #[.pointer (some ⟨b, o, none⟩), StpV s] w fun e w' => AddPost base b o p vS s cells t w e w' := by
  obtain ⟨aS, cS, rfl⟩ := own_form hown
  have hbw := blk_lt hfb
  have hne := own_type_ne hown hfb ht
  have hs : w.cell? ⟨b, o + 1, none⟩ = some (.slice aS p.length cS) := by rw [blk_cell hfb]; exact hcs
  obtain ⟨sr, sf, ss, sv, sl⟩ := s
  obtain ⟨sl1, sl2⟩ := sl
  obtain ⟨i1, hi1, hz10, hz11, hz12⟩ := info_parts infoStep
  go_enter Tryz.func72, Tryz.ntmps72
  go_wp2_with fail
  generalize hw0 : w.alloc (.cells #[.int .i64 (sr : Int), .int .i64 (sf : Int), .int .i64 (ss : Int), .int .i64 (sv : Int), .int .i64 (sl1 : Int), .int .i64 (sl2 : Int)] 134) = wz
  have hB : Below w.heap.size w wz := by rw [← hw0]; exact (Below.refl _ _).alloc (Nat.le_refl _) _
  have hst : wz.heap[w.heap.size]? = some (.cells #[.int .i64 (sr : Int), .int .i64 (sf : Int), .int .i64 (ss : Int), .int .i64 (sv : Int), .int .i64 (sl1 : Int), .int .i64 (sl2 : Int)] 134 (0, 0)) := by rw [← hw0]; exact heap_alloc_new _ _
  clear hw0
  have lst := blk_lt hst
  have c0 : wz.cell? ⟨w.heap.size, 0, none⟩ = some (.int .i64 (sr : Int)) := by rw [blk_cell hst]; rfl
  have c1 : wz.cell? ⟨w.heap.size, 1, none⟩ = some (.int .i64 (sf : Int)) := by rw [blk_cell hst]; rfl
  have c2 : wz.cell? ⟨w.heap.size, 2, none⟩ = some (.int .i64 (ss : Int)) := by rw [blk_cell hst]; rfl
  have c3 : wz.cell? ⟨w.heap.size, 3, none⟩ = some (.int .i64 (sv : Int)) := by rw [blk_cell hst]; rfl
  have c4 : wz.cell? ⟨w.heap.size, 4, none⟩ = some (.int .i64 (sl1 : Int)) := by rw [blk_cell hst]; rfl
  have c5 : wz.cell? ⟨w.heap.size, 5, none⟩ = some (.int .i64 (sl2 : Int)) := by rw [blk_cell hst]; rfl
  have hfz := (hB.block _ hbw).trans hfb
  have hsz : wz.cell? ⟨b, o + 1, none⟩ = some (.slice aS p.length cS) := by rw [blk_cell hfz]; exact hcs
  have hfr := blk_free hfz (o + 1)
  have hbz := blk_lt hfz
  have hownz := own_below hown hB
  have hbz0 : base ≤ wz.heap.size := Nat.le_trans hbase hB.size
  have HPS := hide (psCells_snoc p ⟨sr, sf, ss, sv, (sl1, sl2)⟩)
  have HNE := hide hne
  clear hne
  go_region_law (refine step_append_at rfl (.tmp 9) (.tmp 11) 65 rfl base 134 i1 (.agg #[.int .i64 0, .int .i64 0, .int .i64 0, .int .i64 0, .int .i64 0, .int .i64 0]) 6 48 Tryz.underlying65 hi1 hz10 hz11 hz12 rfl (by decide) (.slice aS p.length cS) p.length (psCells p) (hownz.alloc _).drew rfl ⟨wz.heap.size, 0, none⟩ 1 1 [.int .i64 (sr : Int), .int .i64 (sf : Int), .int .i64 (ss : Int), .int .i64 (sv : Int), .int .i64 (sl1 : Int), .int .i64 (sl2 : Int)] rfl rfl (new_cells wz [.int .i64 (sr : Int), .int .i64 (sf : Int), .int .i64 (ss : Int), .int .i64 (sv : Int), .int .i64 (sl1 : Int), .int .i64 (sl2 : Int)] 134) (by simp [Value.oneCell']) (by decide) (by unfold maxLen; omega) (by omega) (by simp; omega) ?_; intro v' w' hown' hgrow hmv; have hfb' : w'.heap[b]? = some (.cells cells t (0, 0)) := (hgrow.block b (by simp [World.drew]; omega) (fun e => unhide HNE e.symm)).trans ((heap_alloc_old wz _ hbz).trans hfz); obtain ⟨g4, cap4, rfl, hg4, hg4', hcap4, hcell4⟩ := own_pos hown' (by omega); have hq3 : w'.cell? ⟨b, o + 1, none⟩ = some (.slice aS p.length cS) := (by rw [blk_cell hfb']; exact hcs); have hqz := blk_free hfb' (o + 1))
  all_goals
    have hlo : o + 1 < cells.size := (Array.getElem?_eq_some_iff.1 hcs).1
    have hset := blk_set hfb' (o + 1) (.slice (some ⟨g4, 0, none⟩) (p.length + 1) cap4)
    have hget : (w'.setCell ⟨b, o + 1, none⟩ (.slice (some ⟨g4, 0, none⟩) (p.length + 1) cap4)).cell? ⟨b, o + 1, none⟩ = some (.slice (some ⟨g4, 0, none⟩) (p.length + 1) cap4) := by rw [blk_cell hset]; simp [hlo]
    have HO := hide (own_set_ne hown' (p := ⟨b, o + 1, none⟩) (own_type_ne hown' hfb' ht) (.slice (some ⟨g4, 0, none⟩) (p.length + 1) cap4))
    have HX : Hid (Only (fun k => k = b ∨ (Value.slice aS p.length cS).ownBlock = some k) w w') := hide ((((Only.of_below hB).alloc _).drew).grown hgrow (fun k hk => Or.inl (Or.inr hk)))
    have HM := hide hmv
    clear hown' hmv hgrow hcell4 hownz
    go_wp2_with fail
    go_ret
    refine ⟨_, ret_int (by omega), ?_, hset, (unhide HX).setCell (p := ⟨b, o + 1, none⟩) (Or.inl (Or.inl rfl)) _, ?_⟩
    · rw [unhide HPS]; exact unhide HO
    · rcases unhide HM with h | ⟨k, h1, h2⟩
      · exact Or.inl h
      · exact Or.inr ⟨k, h1, by have := hB.size; simp [World.drew] at h2; omega⟩
end Go.Proofs.YtgipjjhkhfihpaaGreatDoor

namespace Go.Proofs.YtgipjjhkhfihpaaGreatDoor
open Go.RowKit

set_option maxRecDepth 100000 in
set_option maxHeartbeats 1600000 in
theorem qsat_any (base b : Nat) (q : QS) (vC : Value) (p0 n0 : Nat) (w : World) (hc1 : w.cell? ⟨b, 1, none⟩ = some vC) (hoC : w.ownsRow base 74 2 vC q.cl.length (pairs q.cl)) (hQ : QB q) (hp0 : p0 < 512) (hn0 : n0 < 512) :
    Calls Tryz.prog 117 #[.pointer (some ⟨b, 0, none⟩), SetV (p0, n0)] w fun e w' => e = .returned (.bool (satQ q.cl (p0, n0))) ∧ Below w.heap.size w w' := by
  have hbw := cell_lt hc1
  have hcl := hQ.cl
  have HCL := hide hQ.bits
  obtain ⟨aC, cC, rfl⟩ := own_form hoC
  go_enter Tryz.func117, Tryz.ntmps117
  go_wp2_with fail
  go_loopg [13] (q.cl.length) (fun m i wx => ∃ k : Nat, i = .int .i64 k ∧ k + m = q.cl.length ∧ satQ (q.cl.take k) (p0, n0) = true ∧ Below w.heap.size w wx ∧ wx.heap[w.heap.size]? = some (.cells #[.int .i64 p0, .int .i64 n0] 74 (0, 0)))
  case atStart => exact ⟨0, rfl, by omega, rfl, (Below.refl _ _).alloc (Nat.le_refl _) _, heap_alloc_new _ _⟩
  case round =>
    obtain ⟨k, rfl, hk, hno, hb, hset⟩ := hrel
    have HNO := hide hno; clear hno
    have hbs := blk_lt hset
    have c0 : wr.cell? ⟨w.heap.size, 0, none⟩ = some (.int .i64 p0) := by rw [blk_cell hset]; rfl
    have c1 : wr.cell? ⟨w.heap.size, 1, none⟩ = some (.int .i64 n0) := by rw [blk_cell hset]; rfl
    by_cases hlt : k < q.cl.length
    · obtain ⟨g, cap, hV, hg, hg', _, hcell⟩ := own_pos hoC (by omega)
      injection hV with hV _ hV2
      subst hV hV2
      have hgw : g < wr.heap.size := by omega
      obtain ⟨ha, hb'⟩ := pairs_at q.cl k hlt
      have hx0 : wr.cell? ⟨g, k * 2, none⟩ = some (.int .i64 (q.cl[k].1 : Int)) := by rw [hb.cell (p := ⟨g, k * 2, none⟩) hg']; exact hcell _ _ ha
      have hx1 : wr.cell? ⟨g, k * 2 + 1, none⟩ = some (.int .i64 (q.cl[k].2 : Int)) := by rw [hb.cell (p := ⟨g, k * 2 + 1, none⟩) hg']; exact hcell _ _ hb'
      have HT := hide (satQ_take q.cl (p0, n0) k hlt)
      have hbd := unhide HCL _ (List.getElem_mem hlt)
      have HOF := hide (satQ_of q.cl (p0, n0) k hlt)
      clear hcell ha hb'
      generalize q.cl[k] = c at *
      obtain ⟨p, n⟩ := c
      have HOK : Hid (okC (p, n) (p0, n0) = (((p &&& p0) ||| (n &&& n0) != 0) || (p &&& n != 0))) := hide rfl
      go_wp2_with fail
      refine (meets_any p n p0 n0 _ hbd.1 hbd.2 hp0 hn0).mono ?_
      rintro e w2 ⟨rfl, hb2⟩
      have hA : Below wr.heap.size wr (wr.alloc (.cells #[.int .i64 (p : Int), .int .i64 (n : Int)] 74)) := (Below.refl _ _).alloc (Nat.le_refl _) _
      have hb2' : Below wr.heap.size wr w2 := hA.trans (hb2.mono hA.size)
      have hb3 : Below w.heap.size w w2 := hb.trans (hb2'.mono hb.size)
      have hset2 := (hb2'.block _ hbs).trans hset
      have hc2 := (hb2.block _ (by simp)).trans (heap_alloc_new wr (.cells #[.int .i64 (p : Int), .int .i64 (n : Int)] 74))
      have d0 : w2.cell? ⟨wr.heap.size, 0, none⟩ = some (.int .i64 p) := by rw [blk_cell hc2]; rfl
      have d1 : w2.cell? ⟨wr.heap.size, 1, none⟩ = some (.int .i64 n) := by rw [blk_cell hc2]; rfl
      cases hh : ((p &&& p0) ||| (n &&& n0) != 0) with
      | true =>
        have HO1 : Hid (okC (p, n) (p0, n0) = true) := hide (by rw [unhide HOK, hh]; rfl)
        go_wp2_with fail
        go_roundg (gk - 1)
        case measure => omega
        case rel => exact ⟨k + 1, by go_num, by omega, by rw [unhide HT, unhide HNO, unhide HO1]; rfl, hb3, hset2⟩
      | false =>
        go_wp2_with fail
        refine (clashes_any p n w2 hbd.1 hbd.2).mono ?_
        rintro e w3 ⟨rfl, hb4⟩
        have hb5 : Below w.heap.size w w3 := hb3.trans (hb4.mono hb3.size)
        have hset3 := (hb4.block _ (blk_lt hset2)).trans hset2
        cases hc : (p &&& n != 0) with
        | true =>
          have HO1 : Hid (okC (p, n) (p0, n0) = true) := hide (by rw [unhide HOK, hh, hc]; rfl)
          go_wp2_with fail
          go_roundg (gk - 1)
          case measure => omega
          case rel => exact ⟨k + 1, by go_num, by omega, by rw [unhide HT, unhide HNO, unhide HO1]; rfl, hb5, hset3⟩
        | false =>
          have HF := hide (unhide HOF (by rw [unhide HOK, hh, hc]; rfl))
          go_wp2_with fail
          go_ret
          exact ⟨ret_bool (unhide HF).symm, hb5⟩
    · have hkl : k = q.cl.length := by omega
      subst hkl
      have hno := unhide HNO
      rw [List.take_length] at hno
      have HF := hide hno; clear hno
      go_wp2_with fail
      go_ret
      exact ⟨ret_bool (unhide HF).symm, hb⟩
end Go.Proofs.YtgipjjhkhfihpaaGreatDoor
