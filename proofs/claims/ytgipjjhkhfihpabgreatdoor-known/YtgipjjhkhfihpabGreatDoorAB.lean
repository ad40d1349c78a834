import Derived.Test.YtgipjjhkhfihpabGreatDoorAA
import Derived.Deep.RegionWith
import Derived.Deep.QuietTactic
import Derived.BigQuiet
namespace Go.Proofs.YtgipjjhkhfihpabGreatDoor
open Go.RowKit

/-- The bit of a variable. -/
def bitOf (v : Int) : Nat := if 1 ≤ v ∧ v ≤ 8 then 2 ^ v.toNat else 0
theorem bitOf_lt (v : Int) : bitOf v < 512 := by
  unfold bitOf; split
  · have := pow_bd v.toNat (by omega); omega
  · decide

set_option maxRecDepth 100000 in
set_option maxHeartbeats 400000 in
theorem bit_any (v : Int) (w : World) : Calls Tryz.prog 70 #[.int .i64 v] w fun e w' => e = .returned (.int .i64 (bitOf v : Nat)) ∧ w' = w := by
  by_cases h1 : v < 1
  · have HB : Hid (bitOf v = 0) := hide (by unfold bitOf; rw [if_neg (by omega)])
    have hd : decide (v < 1) = true := by simpa using h1
    go_enter Tryz.func70, Tryz.ntmps70
    go_wp2_with fail
    go_ret
    exact ⟨by rw [unhide HB]; rfl, rfl⟩
  · have hd : decide (v < 1) = false := by simpa using h1
    by_cases h2 : 8 < v
    · have HB : Hid (bitOf v = 0) := hide (by unfold bitOf; rw [if_neg (by omega)])
      have hd2 : decide (8 < v) = true := by simpa using h2
      go_enter Tryz.func70, Tryz.ntmps70
      go_wp2_with fail
      go_ret
      exact ⟨by rw [unhide HB]; rfl, rfl⟩
    · have HB : Hid (bitOf v = 2 ^ v.toNat) := hide (by unfold bitOf; rw [if_pos (by omega)])
      have hd2 : decide (8 < v) = false := by simpa using h2
      have HS := hide (shl_one v (by omega) (by omega))
      go_enter Tryz.func70, Tryz.ntmps70
      go_wp2_with fail
      go_ret
      exact ⟨ret_int (by rw [unhide HB]; exact unhide HS), rfl⟩

/-- A set with a literal. -/
def withLit (c : Nat × Nat) (x : Int) : Nat × Nat := if x < 0 then (c.1, c.2 ||| bitOf (-x)) else (c.1 ||| bitOf x, c.2)

set_option maxRecDepth 100000 in
set_option maxHeartbeats 800000 in
theorem with_any (p n : Nat) (x : Int) (w : World) (hp : p < 512) (hn : n < 512) (hx : -9223372036854775807 ≤ x) (hx2 : x ≤ 9223372036854775807) :
    Calls Tryz.prog 49 #[.agg #[.int .i64 p, .int .i64 n], .int .i64 x] w fun e w' =>
      e = .returned (.agg #[.int .i64 ((withLit (p, n) x).1 : Nat), .int .i64 ((withLit (p, n) x).2 : Nat)]) ∧ Below w.heap.size w w' := by
  by_cases h : x < 0
  · have HW : Hid (withLit (p, n) x = (p, n ||| bitOf (-x))) := hide (by unfold withLit; rw [if_pos h])
    have hd : decide (x < 0) = true := by simpa using h
    have hwx : IntKind.i64.wrap (-x) = -x := by
      obtain ⟨m, hm⟩ := Int.eq_ofNat_of_zero_le (show 0 ≤ -x by omega)
      rw [hm]; exact wrap_i64_nat m (by omega)
    have hor : bits .or .i64 (n : Int) (bitOf (-x) : Nat) = ((n ||| bitOf (-x) : Nat) : Int) := i64_or _ _ (by omega) (by have := bitOf_lt (-x); omega)
    go_enter Tryz.func49, Tryz.ntmps49
    go_wp2_with fail
    go_region_with (go_at_call 70; refine (bit_any _ _).mono ?_; rintro e w1 ⟨rfl, rfl⟩)
    all_goals go_wp2_with fail
    all_goals
      refine bodyPost_ret (v := .agg #[.int .i64 p, .int .i64 ((n ||| bitOf (-x) : Nat) : Int)]) (by simp [results, Tryz.results49, go_sem]) rfl ⟨by rw [unhide HW], ?_⟩
      exact ((((Below.refl _ _).alloc (Nat.le_refl _) _).alloc (by simp) _)).drew
  · have HW : Hid (withLit (p, n) x = (p ||| bitOf x, n)) := hide (by unfold withLit; rw [if_neg h])
    have hd : decide (x < 0) = false := by simpa using h
    have hor : bits .or .i64 (p : Int) (bitOf x : Nat) = ((p ||| bitOf x : Nat) : Int) := i64_or _ _ (by omega) (by have := bitOf_lt x; omega)
    go_enter Tryz.func49, Tryz.ntmps49
    go_wp2_with fail
    go_region_with (go_at_call 70; refine (bit_any _ _).mono ?_; rintro e w1 ⟨rfl, rfl⟩)
    all_goals go_wp2_with fail
    all_goals
      refine bodyPost_ret (v := .agg #[.int .i64 ((p ||| bitOf x : Nat) : Int), .int .i64 n]) (by simp [results, Tryz.results49, go_sem]) rfl ⟨by rw [unhide HW], ?_⟩
      exact ((((Below.refl _ _).alloc (Nat.le_refl _) _).alloc (by simp) _)).drew

set_option maxRecDepth 100000 in
set_option maxHeartbeats 800000 in
theorem hasVar_any (p n : Nat) (v : Int) (w : World) (hp : p < 512) (hn : n < 512) :
    Calls Tryz.prog 69 #[.agg #[.int .i64 p, .int .i64 n], .int .i64 v] w fun e w' =>
      e = .returned (.bool ((p ||| n) &&& bitOf v != 0)) ∧ Below w.heap.size w w' := by
  have hor : bits .or .i64 (p : Int) (n : Int) = ((p ||| n : Nat) : Int) := i64_or _ _ (by omega) (by omega)
  have hand : bits .and .i64 ((p ||| n : Nat) : Int) (bitOf v : Nat) = (((p ||| n) &&& bitOf v : Nat) : Int) := i64_and _ _ (by have := or_lt p n hp hn; omega) (by have := bitOf_lt v; omega)
  have HE : Hid (((((p ||| n) &&& bitOf v : Nat) : Int) != 0) = ((p ||| n) &&& bitOf v != 0)) := hide (by
    rw [Bool.eq_iff_iff, bne_iff_ne, bne_iff_ne]; omega)
  go_enter Tryz.func69, Tryz.ntmps69
  go_wp2_with fail
  go_quiet ((go_at_call 70; exact Calls.quiet_of_same (bit_any _ _)))
  go_wp2_with fail
  go_ret
  exact ⟨ret_bool (unhide HE), below_drewN ((Below.refl _ _).alloc (Nat.le_refl _) _) nq⟩
end Go.Proofs.YtgipjjhkhfihpabGreatDoor

namespace Go.Proofs.YtgipjjhkhfihpabGreatDoor
open Go.RowKit

abbrev SetV (c : Nat × Nat) : Value := .agg #[.int .i64 (c.1 : Int), .int .i64 (c.2 : Int)]
theorem int_ne_zero (a : Nat) : ((a : Int) != 0) = (a != 0) := by
  rw [Bool.eq_iff_iff, bne_iff_ne, bne_iff_ne]; omega
theorem int_eq_zero (a : Nat) : ((a : Int) == 0) = (a == 0) := by
  rw [Bool.eq_iff_iff, beq_iff_eq, beq_iff_eq]; omega
theorem and_lt9 (a b : Nat) (ha : a < 512) : a &&& b < 512 := Nat.lt_of_le_of_lt Nat.and_le_left ha
theorem less_lt9 (a b : Nat) (ha : a < 512) : less a b < 512 := Nat.lt_of_le_of_lt (less_le a b) ha

set_option maxRecDepth 100000 in
set_option maxHeartbeats 800000 in
theorem varOf_any (x : Int) (w : World) (hx : -9223372036854775807 ≤ x) (hx2 : x ≤ 9223372036854775807) :
    Calls Tryz.prog 74 #[.int .i64 x] w fun e w' => e = .returned (.int .i64 (x.natAbs : Nat)) ∧ w' = w := by
  by_cases h : x < 0
  · have hd : decide (x < 0) = true := by simpa using h
    have hwx : IntKind.i64.wrap (-x) = -x := by
      obtain ⟨m, hm⟩ := Int.eq_ofNat_of_zero_le (show 0 ≤ -x by omega)
      rw [hm]; exact wrap_i64_nat m (by omega)
    go_enter Tryz.func74, Tryz.ntmps74
    go_wp2_with fail
    go_ret
    exact ⟨ret_int (by omega), rfl⟩
  · have hd : decide (x < 0) = false := by simpa using h
    go_enter Tryz.func74, Tryz.ntmps74
    go_wp2_with fail
    go_ret
    exact ⟨ret_int (by omega), rfl⟩

set_option maxRecDepth 100000 in
set_option maxHeartbeats 800000 in
theorem empty_any (p n : Nat) (w : World) (hp : p < 512) (hn : n < 512) :
    Calls Tryz.prog 61 #[SetV (p, n)] w fun e w' => e = .returned (.bool (p ||| n == 0)) ∧ Below w.heap.size w w' := by
  have hor : bits .or .i64 (p : Int) (n : Int) = ((p ||| n : Nat) : Int) := i64_or _ _ (by omega) (by omega)
  have HE := hide (int_eq_zero (p ||| n))
  go_enter Tryz.func61, Tryz.ntmps61
  go_wp2_with fail
  go_ret
  exact ⟨ret_bool (unhide HE), (Below.refl _ _).alloc (Nat.le_refl _) _⟩

set_option maxRecDepth 100000 in
set_option maxHeartbeats 800000 in
theorem clashes_any (p n : Nat) (w : World) (hp : p < 512) (hn : n < 512) :
    Calls Tryz.prog 100 #[SetV (p, n)] w fun e w' => e = .returned (.bool (p &&& n != 0)) ∧ Below w.heap.size w w' := by
  have hand : bits .and .i64 (p : Int) (n : Int) = ((p &&& n : Nat) : Int) := i64_and _ _ (by omega) (by omega)
  have HE := hide (int_ne_zero (p &&& n))
  go_enter Tryz.func100, Tryz.ntmps100
  go_wp2_with fail
  go_ret
  exact ⟨ret_bool (unhide HE), (Below.refl _ _).alloc (Nat.le_refl _) _⟩

set_option maxRecDepth 100000 in
set_option maxHeartbeats 800000 in
theorem meets_any (p n p2 n2 : Nat) (w : World) (hp : p < 512) (hn : n < 512) (hp2 : p2 < 512) (hn2 : n2 < 512) :
    Calls Tryz.prog 94 #[SetV (p, n), SetV (p2, n2)] w fun e w' => e = .returned (.bool ((p &&& p2) ||| (n &&& n2) != 0)) ∧ Below w.heap.size w w' := by
  have h1 : bits .and .i64 (p : Int) (p2 : Int) = ((p &&& p2 : Nat) : Int) := i64_and _ _ (by omega) (by omega)
  have h2 : bits .and .i64 (n : Int) (n2 : Int) = ((n &&& n2 : Nat) : Int) := i64_and _ _ (by omega) (by omega)
  have h3 : bits .or .i64 ((p &&& p2 : Nat) : Int) ((n &&& n2 : Nat) : Int) = (((p &&& p2) ||| (n &&& n2) : Nat) : Int) := i64_or _ _ (by have := and_lt9 p p2 hp; omega) (by have := and_lt9 n n2 hn; omega)
  have HE := hide (int_ne_zero ((p &&& p2) ||| (n &&& n2)))
  go_enter Tryz.func94, Tryz.ntmps94
  go_wp2_with fail
  go_ret
  exact ⟨ret_bool (unhide HE), ((Below.refl _ _).alloc (Nat.le_refl _) _).alloc (by simp) _⟩

/-- A set has a literal. -/
def hasLit (c : Nat × Nat) (x : Int) : Bool := if x < 0 then c.2 &&& bitOf (-x) != 0 else c.1 &&& bitOf x != 0
set_option maxRecDepth 100000 in
set_option maxHeartbeats 800000 in
theorem has_any (p n : Nat) (x : Int) (w : World) (hp : p < 512) (hn : n < 512) (hx : -9223372036854775807 ≤ x) (hx2 : x ≤ 9223372036854775807) :
    Calls Tryz.prog 66 #[SetV (p, n), .int .i64 x] w fun e w' => e = .returned (.bool (hasLit (p, n) x)) ∧ Below w.heap.size w w' := by
  by_cases h : x < 0
  · have HW : Hid (hasLit (p, n) x = (n &&& bitOf (-x) != 0)) := hide (by unfold hasLit; rw [if_pos h])
    have hd : decide (x < 0) = true := by simpa using h
    have hwx : IntKind.i64.wrap (-x) = -x := by
      obtain ⟨m, hm⟩ := Int.eq_ofNat_of_zero_le (show 0 ≤ -x by omega)
      rw [hm]; exact wrap_i64_nat m (by omega)
    have hand : bits .and .i64 (n : Int) (bitOf (-x) : Nat) = ((n &&& bitOf (-x) : Nat) : Int) := i64_and _ _ (by omega) (by have := bitOf_lt (-x); omega)
    have HE := hide (int_ne_zero (n &&& bitOf (-x)))
    go_enter Tryz.func66, Tryz.ntmps66
    go_wp2_with fail
    go_quiet ((go_at_call 70; exact Calls.quiet_of_same (bit_any _ _)))
    go_wp2_with fail
    go_ret
    exact ⟨ret_bool (by rw [unhide HW]; exact unhide HE), below_drewN ((Below.refl _ _).alloc (Nat.le_refl _) _) nq⟩
  · have HW : Hid (hasLit (p, n) x = (p &&& bitOf x != 0)) := hide (by unfold hasLit; rw [if_neg h])
    have hd : decide (x < 0) = false := by simpa using h
    have hand : bits .and .i64 (p : Int) (bitOf x : Nat) = ((p &&& bitOf x : Nat) : Int) := i64_and _ _ (by omega) (by have := bitOf_lt x; omega)
    have HE := hide (int_ne_zero (p &&& bitOf x))
    go_enter Tryz.func66, Tryz.ntmps66
    go_wp2_with fail
    go_quiet ((go_at_call 70; exact Calls.quiet_of_same (bit_any _ _)))
    go_wp2_with fail
    go_ret
    exact ⟨ret_bool (by rw [unhide HW]; exact unhide HE), below_drewN ((Below.refl _ _).alloc (Nat.le_refl _) _) nq⟩

set_option maxRecDepth 100000 in
set_option maxHeartbeats 800000 in
theorem union_any (p n p2 n2 : Nat) (w : World) (hp : p < 512) (hn : n < 512) (hp2 : p2 < 512) (hn2 : n2 < 512) :
    Calls Tryz.prog 107 #[SetV (p, n), SetV (p2, n2)] w fun e w' => e = .returned (SetV (p ||| p2, n ||| n2)) ∧ Below w.heap.size w w' := by
  have h1 : bits .or .i64 (p : Int) (p2 : Int) = ((p ||| p2 : Nat) : Int) := i64_or _ _ (by omega) (by omega)
  have h2 : bits .or .i64 (n : Int) (n2 : Int) = ((n ||| n2 : Nat) : Int) := i64_or _ _ (by omega) (by omega)
  go_enter Tryz.func107, Tryz.ntmps107
  go_wp2_with fail
  refine bodyPost_ret (v := SetV (p ||| p2, n ||| n2)) (by simp [results, Tryz.results107, go_sem]) rfl ⟨rfl, ?_⟩
  exact ((((Below.refl _ _).alloc (Nat.le_refl _) _).alloc (by simp) _)).alloc (by simp; omega) _

/-- A set without a variable's literals. -/
def without (c : Nat × Nat) (v : Int) : Nat × Nat := (less c.1 (bitOf v), less c.2 (bitOf v))
set_option maxRecDepth 100000 in
set_option maxHeartbeats 800000 in
theorem withoutVar_any (p n : Nat) (v : Int) (w : World) (hp : p < 512) (hn : n < 512) :
    Calls Tryz.prog 108 #[SetV (p, n), .int .i64 v] w fun e w' => e = .returned (SetV (without (p, n) v)) ∧ Below w.heap.size w w' := by
  have hb := bitOf_lt v
  have h1 : bits .andNot .i64 (p : Int) (bitOf v : Nat) = ((less p (bitOf v) : Nat) : Int) := i64_andNot _ _ (by omega) (by omega)
  have h2 : bits .andNot .i64 (n : Int) (bitOf v : Nat) = ((less n (bitOf v) : Nat) : Int) := i64_andNot _ _ (by omega) (by omega)
  go_enter Tryz.func108, Tryz.ntmps108
  go_wp2_with fail
  refine (bit_any _ _).mono ?_
  rintro e w1 ⟨rfl, rfl⟩
  go_wp2_with fail
  refine bodyPost_ret (v := SetV (without (p, n) v)) (by simp [results, Tryz.results108, go_sem, without]) rfl ⟨rfl, ?_⟩
  exact (((Below.refl _ _).alloc (Nat.le_refl _) _).alloc (by simp) _)
end Go.Proofs.YtgipjjhkhfihpabGreatDoor

namespace Go.Proofs.YtgipjjhkhfihpabGreatDoor
open Go.RowKit

def ints (l : List Nat) : List Value := l.map (fun n : Nat => Value.int .i64 (n : Int))
def pairs (l : List (Nat × Nat)) : List Value := l.flatMap (fun c => [Value.int .i64 (c.1 : Int), Value.int .i64 (c.2 : Int)])
theorem pairs_length (l : List (Nat × Nat)) : (pairs l).length = l.length * 2 := by
  induction l with
  | nil => rfl
  | cons a l ih => simp [pairs] at *; omega
theorem pairs_snoc (l : List (Nat × Nat)) (c : Nat × Nat) : pairs (l ++ [c]) = pairs l ++ [Value.int .i64 (c.1 : Int), Value.int .i64 (c.2 : Int)] := by simp [pairs]

theorem Tryz.info3 : (Tryz.prog.info? 3).map (fun i => (i.zero, i.size, i.bytes)) = some (some (.int .i64 0), 1, 8) := by kernel_rfl
theorem own_below {w w' : World} {base : Nat} {e : TypeId} {size : Nat} {v : Value} {n : Nat} {xs : List Value} (h : w.ownsRow base e size v n xs) (hb : Below w.heap.size w w') : w'.ownsRow base e size v n xs :=
  h.kept (row := none) ⟨hb.os, hb.tape, hb.output, hb.size, fun k hk _ => hb.block k hk⟩ (by cases hv : v.ownBlock <;> simp)

/-- Two owned rows of different element types lie apart. -/
theorem own_apart {w : World} {b1 b2 : Nat} {e1 e2 : TypeId} {s1 s2 : Nat} {v1 v2 : Value} {n1 n2 : Nat} {x1 x2 : List Value} (h1 : w.ownsRow b1 e1 s1 v1 n1 x1) (h2 : w.ownsRow b2 e2 s2 v2 n2 x2) (he : e1 ≠ e2) :
    v1.ownBlock = none ∨ v1.ownBlock ≠ v2.ownBlock := by
  rcases h1.2 with ⟨rfl, _⟩ | ⟨g1, c1, cur1, rfl, _, hh1, _⟩
  · exact Or.inl rfl
  · right
    rcases h2.2 with ⟨rfl, _⟩ | ⟨g2, c2, cur2, rfl, _, hh2, _⟩
    · simp [Value.ownBlock]
    · simp [Value.ownBlock]
      intro e; subst e
      rw [hh1] at hh2
      simp at hh2
      exact he hh2.2

theorem own_kept {w wp w' : World} {base base2 : Nat} {e e2 : TypeId} {size size2 : Nat} {v v2 : Value} {n n2 : Nat} {xs x2 : List Value} (h : w.ownsRow base e size v n xs) (hp : Below w.heap.size w wp) (h2 : w.ownsRow base2 e2 size2 v2 n2 x2) (hg : wp.grownBy w' v2.ownBlock) (he : e ≠ e2) : w'.ownsRow base e size v n xs :=
  (own_below h hp).kept hg (own_apart h h2 he)

end Go.Proofs.YtgipjjhkhfihpabGreatDoor

namespace Go.Proofs.YtgipjjhkhfihpabGreatDoor
open Go.RowKit

def apart (a b : Value) : Prop := ∀ k, a.ownBlock = some k → b.ownBlock ≠ some k
theorem apart.symm {a b : Value} (h : apart a b) : apart b a := fun k hk hk' => h k hk' hk
theorem apart.keep {a b : Value} (h : apart a b) : a.ownBlock = none ∨ a.ownBlock ≠ b.ownBlock := by
  cases ha : a.ownBlock with
  | none => exact Or.inl rfl
  | some k => exact Or.inr (fun e => h k ha e.symm)
theorem apart_nil (a : Value) : apart (.slice none 0 0) a := fun k hk => by simp [Value.ownBlock] at hk
/-- What comes out of an append onto a lies apart from b as a did. -/
theorem apart.grown {a a' b : Value} {w : World} {base : Nat} {e : TypeId} {size n : Nat} {xs : List Value} (h : apart a b) (hb : w.ownsRow base e size b n xs) (hat : a'.ownBlock = a.ownBlock ∨ ∃ k, a'.ownBlock = some k ∧ w.heap.size ≤ k) : apart a' b := by
  intro k hk hk'
  rcases hat with hat | ⟨k', hat, hle⟩
  · exact h k (hat ▸ hk) hk'
  · rw [hk] at hat; injection hat with e; subst e
    have := (hb.lt k hk').2; omega

section
variable {w1 wr wp w' : World} {bf : Nat} {st : RS} {order ends : List Nat} {all : Nat} {vT vK vC vO vE v' : Value}
end

theorem own_lo {w : World} {base lo : Nat} {e : TypeId} {size : Nat} {v : Value} {n : Nat} {xs : List Value} (h : w.ownsRow base e size v n xs) (hl : lo ≤ base) : w.ownsRow lo e size v n xs := by
  refine ⟨h.1, ?_⟩
  rcases h.2 with h2 | ⟨g, cap, cur, hv, hg, r⟩
  · exact Or.inl h2
  · exact Or.inr ⟨g, cap, cur, hv, Nat.le_trans hl hg, r⟩
end Go.Proofs.YtgipjjhkhfihpabGreatDoor

namespace Go.Proofs.YtgipjjhkhfihpabGreatDoor
open Go.RowKit

/-- What the program holds of a formula. -/
structure QS where
  vars : List (Nat × Bool)
  cl : List (Nat × Nat)
def varCells (l : List (Nat × Bool)) : List Value := l.flatMap (fun x => [Value.int .i64 (x.1 : Int), Value.bool x.2])
theorem varCells_length (l : List (Nat × Bool)) : (varCells l).length = l.length * 2 := by
  induction l with
  | nil => rfl
  | cons a l ih => simp [varCells] at *; omega
theorem varCells_snoc (l : List (Nat × Bool)) (x : Nat × Bool) : varCells (l ++ [x]) = varCells l ++ [Value.int .i64 (x.1 : Int), Value.bool x.2] := by simp [varCells]
theorem varCells_at (l : List (Nat × Bool)) (k : Nat) (h : k < l.length) : (varCells l)[k * 2]? = some (.int .i64 (l[k].1 : Int)) ∧ (varCells l)[k * 2 + 1]? = some (.bool l[k].2) := by
  induction l generalizing k with
  | nil => simp at h
  | cons a l ih =>
    cases k with
    | zero => simp [varCells]
    | succ k =>
      have := ih k (by simpa using h)
      simp only [varCells, List.flatMap_cons] at this ⊢
      constructor
      · rw [show (k + 1) * 2 = k * 2 + 2 from by omega, List.getElem?_append_right (by simp)]
        simpa using this.1
      · rw [show (k + 1) * 2 + 1 = k * 2 + 1 + 2 from by omega, List.getElem?_append_right (by simp)]
        simpa using this.2
theorem pairs_at (l : List (Nat × Nat)) (k : Nat) (h : k < l.length) : (pairs l)[k * 2]? = some (.int .i64 (l[k].1 : Int)) ∧ (pairs l)[k * 2 + 1]? = some (.int .i64 (l[k].2 : Int)) := by
  induction l generalizing k with
  | nil => simp at h
  | cons a l ih =>
    cases k with
    | zero => simp [pairs]
    | succ k =>
      have := ih k (by simpa using h)
      simp only [pairs, List.flatMap_cons] at this ⊢
      constructor
      · rw [show (k + 1) * 2 = k * 2 + 2 from by omega, List.getElem?_append_right (by simp)]
        simpa using this.1
      · rw [show (k + 1) * 2 + 1 = k * 2 + 1 + 2 from by omega, List.getElem?_append_right (by simp)]
        simpa using this.2

/-- The program's formula lies at block b, its rows from base on. -/
structure QInv (base : Nat) (w : World) (b : Nat) (q : QS) (vV vC : Value) : Prop where
  fb : w.heap[b]? = some (.cells #[vV, vC] 44 (0, 0))
  oV : w.ownsRow base 109 2 vV q.vars.length (varCells q.vars)
  oC : w.ownsRow base 77 2 vC q.cl.length (pairs q.cl)
theorem QInv.later {base b : Nat} {w w' : World} {q : QS} {vV vC : Value} (h : QInv base w b q vV vC) (hb : Below w.heap.size w w') : QInv base w' b q vV vC :=
  ⟨(hb.block b (blk_lt h.fb)).trans h.fb, own_below h.oV hb, own_below h.oC hb⟩

def hasV (vs : List (Nat × Bool)) (v : Nat) : Bool := vs.any (fun x => x.1 == v)
theorem hasV_take (vs : List (Nat × Bool)) (v k : Nat) (h : k < vs.length) : hasV (vs.take (k + 1)) v = (hasV (vs.take k) v || (vs[k].1 == v)) := by
  unfold hasV; rw [List.take_succ_eq_append_getElem h, List.any_append]; simp
theorem cell_lt {w : World} {b o : Nat} {v : Value} (h : w.cell? ⟨b, o, none⟩ = some v) : b < w.heap.size := by
  rcases Nat.lt_or_ge b w.heap.size with h1 | h1
  · exact h1
  · rw [World.cell?, Array.getElem?_eq_none h1] at h; cases h
/-- The variable with this number, and whether there is one. -/
def findV (vs : List (Nat × Bool)) (v : Nat) : Option (Nat × Bool) := vs.find? (fun x => x.1 == v)
theorem findV_hit (vs : List (Nat × Bool)) (v k : Nat) (h : k < vs.length) (hno : hasV (vs.take k) v = false) (hv : vs[k].1 = v) : findV vs v = some vs[k] := by
  unfold findV
  conv => lhs; rw [← List.take_append_drop k vs, List.drop_eq_getElem_cons h]
  rw [List.find?_append]
  have : (vs.take k).find? (fun x => x.1 == v) = none := by
    rw [List.find?_eq_none]
    intro x hx hh
    unfold hasV at hno
    rw [List.any_eq_false] at hno
    exact hno x hx hh
  rw [this, List.find?_cons, show (vs[k].1 == v) = true from by simp [hv]]
  rfl
theorem findV_none (vs : List (Nat × Bool)) (v : Nat) (h : hasV vs v = false) : findV vs v = none := by
  unfold findV; rw [List.find?_eq_none]
  intro x hx hh
  unfold hasV at h
  rw [List.any_eq_false] at h
  exact h x hx hh
theorem hasV_find (vs : List (Nat × Bool)) (v : Nat) : (findV vs v).isSome = hasV vs v := by
  unfold findV hasV; rw [List.isSome_find?]
def FindPost (vs : List (Nat × Bool)) (v : Nat) (w : World) (e : Ending) (w' : World) : Prop :=
  Below w.heap.size w w' ∧ e = .returned (.tuple #[.agg #[.int .i64 (((findV vs v).getD (0, false)).1 : Nat), .bool ((findV vs v).getD (0, false)).2], .bool (findV vs v).isSome])

set_option maxRecDepth 100000 in
set_option maxHeartbeats 800000 in
theorem find_any (base b : Nat) (vs : List (Nat × Bool)) (vV : Value) (v : Nat) (w : World) (hc0 : w.cell? ⟨b, 0, none⟩ = some vV) (hV : w.ownsRow base 109 2 vV vs.length (varCells vs)) (hl : vs.length ≤ 1073741824) :
    Calls Tryz.prog 46 #[.pointer (some ⟨b, 0, none⟩), .int .i64 v] w fun e w' => FindPost vs v w e w' := by
  obtain ⟨aV, cV, rfl⟩ := own_form hV
  have hbw := cell_lt hc0
  go_enter Tryz.func46, Tryz.ntmps46
  go_wp2_with fail
  go_loopg [13] (vs.length) (fun n i wx => ∃ k : Nat, i = .int .i64 k ∧ k + n = vs.length ∧ hasV (vs.take k) v = false ∧ Below w.heap.size w wx ∧ wx.heap[w.heap.size]? = some (.cells #[.int .i64 0, .bool false] 109 (0, 0)))
  case atStart => exact ⟨0, rfl, by omega, rfl, (Below.refl _ _).alloc (Nat.le_refl _) _, heap_alloc_new _ _⟩
  case round =>
    obtain ⟨k, rfl, hk, hno, hb, hres⟩ := hrel
    have HNO := hide hno; clear hno
    have hbs := blk_lt hres
    have hr0 : wr.cell? ⟨w.heap.size, 0, none⟩ = some (.int .i64 0) := by rw [blk_cell hres]; rfl
    have hr1 : wr.cell? ⟨w.heap.size, 1, none⟩ = some (.bool false) := by rw [blk_cell hres]; rfl
    have hz0 := blk_free hres 0
    have hz1 := blk_free hres 1
    by_cases hlt : k < vs.length
    · obtain ⟨g, cap, hVe, hg, hg', _, hcell⟩ := own_pos hV (by omega)
      injection hVe with hVe _ hV2
      subst hVe hV2
      have hgw : g < wr.heap.size := by omega
      obtain ⟨ha, hb'⟩ := varCells_at vs k hlt
      have hx0 : wr.cell? ⟨g, k * 2, none⟩ = some (.int .i64 (vs[k].1 : Int)) := by rw [hb.cell (p := ⟨g, k * 2, none⟩) hg']; exact hcell _ _ ha
      have hx1 : wr.cell? ⟨g, k * 2 + 1, none⟩ = some (.bool vs[k].2) := by rw [hb.cell (p := ⟨g, k * 2 + 1, none⟩) hg']; exact hcell _ _ hb'
      have HT := hide (hasV_take vs v k hlt)
      have HH := hide (findV_hit vs v k hlt (unhide HNO))
      clear hcell ha hb'
      by_cases hv : vs[k].1 = v
      · have hvb : ((vs[k].1 : Int) == (v : Int)) = true := by rw [beq_iff_eq]; omega
        have HF := hide (unhide HH hv)
        clear hv
        go_wp2_with fail
        have hR := blk_set (blk_set hres 0 (.int .i64 (vs[k].1 : Int))) 1 (.bool vs[k].2)
        have hR' := (heap_alloc_old _ (.cells #[.int .i64 (vs[k].1 : Int), .bool vs[k].2] 109) (blk_lt hR)).trans hR
        have k0 := blk_cell hR' 0
        have k1 := blk_cell hR' 1
        refine bodyPost_ret (v := .tuple #[.agg #[.int .i64 (vs[k].1 : Int), .bool vs[k].2], .bool true]) (by simp [results, Tryz.results46, go_sem, k0, k1]) rfl ⟨?_, by rw [unhide HF]; rfl⟩
        exact ((hb.setCell (p := ⟨w.heap.size, 0, none⟩) (Nat.le_refl _) _).setCell (p := ⟨w.heap.size, 1, none⟩) (Nat.le_refl _) _).alloc (by simp [World.setCell]; omega) _
      · have hvb : ((vs[k].1 : Int) == (v : Int)) = false := by rw [beq_eq_false_iff_ne]; omega
        have HV := hide hv; clear hv
        go_wp2_with fail
        go_roundg (gk - 1)
        case measure => omega
        case rel =>
          refine ⟨k + 1, by go_num, by omega, ?_, hb.alloc (by omega) _, (heap_alloc_old _ _ hbs).trans hres⟩
          rw [unhide HT, unhide HNO]; simpa using unhide HV
    · have hkl : k = vs.length := by omega
      subst hkl
      have hno := unhide HNO
      rw [List.take_length] at hno
      have HF := hide (findV_none vs v hno); clear hno
      go_wp2_with fail
      refine bodyPost_ret (v := .tuple #[.agg #[.int .i64 0, .bool false], .bool false]) (by simp [results, Tryz.results46, go_sem, hr0, hr1]) rfl ⟨?_, by rw [unhide HF]; rfl⟩
      exact (hb.setCell (p := ⟨w.heap.size, 0, none⟩) (Nat.le_refl _) _).setCell (p := ⟨w.heap.size, 1, none⟩) (Nat.le_refl _) _

/-! ### inClauses -/
def inC (cl : List (Nat × Nat)) (v : Int) : Bool := cl.any (fun c => (c.1 ||| c.2) &&& bitOf v != 0)
theorem inC_take (cl : List (Nat × Nat)) (v : Int) (k : Nat) (h : k < cl.length) : inC (cl.take (k + 1)) v = (inC (cl.take k) v || ((cl[k].1 ||| cl[k].2) &&& bitOf v != 0)) := by
  unfold inC; rw [List.take_succ_eq_append_getElem h, List.any_append]; simp
theorem inC_of_take (cl : List (Nat × Nat)) (v : Int) (k : Nat) (h : inC (cl.take k) v = true) : inC cl v = true := by
  unfold inC at *
  rw [List.any_eq_true] at *
  obtain ⟨x, hx, hv⟩ := h
  exact ⟨x, List.mem_of_mem_take hx, hv⟩

set_option maxRecDepth 100000 in
set_option maxHeartbeats 800000 in
theorem qin_any (base b : Nat) (q : QS) (vV vC : Value) (v : Int) (w : World) (hq : QInv base w b q vV vC) (hl : q.cl.length ≤ 1048576) (hcl : ∀ c ∈ q.cl, c.1 < 512 ∧ c.2 < 512) :
    Calls Tryz.prog 47 #[.pointer (some ⟨b, 0, none⟩), .int .i64 v] w fun e w' => e = .returned (.bool (inC q.cl v)) ∧ Below w.heap.size w w' := by
  have hc0 : w.cell? ⟨b, 1, none⟩ = some vC := by rw [blk_cell hq.fb]; rfl
  have HCL := hide hcl; clear hcl
  obtain ⟨aV, cV, rfl⟩ := own_form hq.oC
  go_enter Tryz.func47, Tryz.ntmps47
  go_wp2_with fail
  go_loopg [12] (q.cl.length) (fun n i wx => ∃ k : Nat, i = .int .i64 k ∧ k + n = q.cl.length ∧ inC (q.cl.take k) v = false ∧ Below w.heap.size w wx)
  case atStart => exact ⟨0, rfl, by omega, rfl, Below.refl _ _⟩
  case round =>
    obtain ⟨k, rfl, hk, hno, hb⟩ := hrel
    have HNO := hide hno; clear hno
    have hbs := hb.size
    by_cases hlt : k < q.cl.length
    · obtain ⟨g, cap, hV, hg, hg', _, hcell⟩ := own_pos hq.oC (by omega)
      injection hV with hV _ hV2
      subst hV hV2
      have hgw : g < wr.heap.size := by omega
      obtain ⟨ha, hb'⟩ := pairs_at q.cl k hlt
      have hx0 : wr.cell? ⟨g, k * 2, none⟩ = some (.int .i64 (q.cl[k].1 : Int)) := by rw [hb.cell (p := ⟨g, k * 2, none⟩) hg']; exact hcell _ _ ha
      have hx1 : wr.cell? ⟨g, k * 2 + 1, none⟩ = some (.int .i64 (q.cl[k].2 : Int)) := by rw [hb.cell (p := ⟨g, k * 2 + 1, none⟩) hg']; exact hcell _ _ hb'
      have HT := hide (inC_take q.cl v k hlt)
      have hbd := unhide HCL _ (List.getElem_mem hlt)
      have HOF := hide (inC_of_take q.cl v (k + 1))
      clear hcell ha hb'
      generalize q.cl[k] = c at *
      obtain ⟨p, n⟩ := c
      go_wp2_with fail
      refine (hasVar_any p n v _ hbd.1 hbd.2).mono ?_
      rintro e w2 ⟨rfl, hb2⟩
      have hb3 : Below w.heap.size w w2 := (hb.alloc hbs _).trans (hb2.mono (by simp; omega))
      cases hh : ((p ||| n) &&& bitOf v != 0) with
      | true =>
        have HF := hide (unhide HOF (by rw [unhide HT]; simp only [hh]; simp))
        go_wp2_with fail
        go_ret
        exact ⟨ret_bool (unhide HF).symm, hb3⟩
      | false =>
        go_wp2_with fail
        go_roundg (gk - 1)
        case measure => omega
        case rel => exact ⟨k + 1, by go_num, by omega, by rw [unhide HT, unhide HNO]; simp only [hh]; rfl, hb3⟩
    · have hkl : k = q.cl.length := by omega
      subst hkl
      have hno := unhide HNO
      rw [List.take_length] at hno
      have HF := hide hno; clear hno
      go_wp2_with fail
      go_ret
      exact ⟨ret_bool (unhide HF).symm, hb⟩
end Go.Proofs.YtgipjjhkhfihpabGreatDoor

namespace Go.Proofs.YtgipjjhkhfihpabGreatDoor
open Go.RowKit

/-- What holds of the formula and the steps. -/
structure QB (q : QS) : Prop where
  vl : q.vars.length ≤ 8
  cl : q.cl.length ≤ 24
  bits : ∀ c ∈ q.cl, c.1 < 512 ∧ c.2 < 512
  names : ∀ x ∈ q.vars, 1 ≤ x.1 ∧ x.1 ≤ 8
def pivotB (kind : Nat) (u : Bool) : Bool := u == (kind == 2)
def hasVarB (c : Nat × Nat) (v : Nat) : Bool := (c.1 ||| c.2) &&& bitOf v != 0
/-- From the innermost variable outwards. -/
def redQ (kind : Nat) : List (Nat × Bool) → Nat × Nat → Nat × Nat
  | [], c => c
  | v :: vs, c => if hasVarB c v.1 then (if pivotB kind v.2 then c else redQ kind vs (without c v.1)) else redQ kind vs c
theorem without_lt (c : Nat × Nat) (v : Int) (h : c.1 < 512 ∧ c.2 < 512) : (without c v).1 < 512 ∧ (without c v).2 < 512 := ⟨less_lt9 _ _ h.1, less_lt9 _ _ h.2⟩
theorem redQ_lt (kind : Nat) (vs : List (Nat × Bool)) : ∀ (c : Nat × Nat), c.1 < 512 ∧ c.2 < 512 → (redQ kind vs c).1 < 512 ∧ (redQ kind vs c).2 < 512 := by
  induction vs with
  | nil => intro c h; exact h
  | cons v vs ih =>
    intro c h
    rw [redQ]
    split
    · split
      · exact h
      · exact ih _ (without_lt _ _ h)
    · exact ih _ h
theorem redQ_step (kind : Nat) (vs : List (Nat × Bool)) (k : Nat) (h : k < vs.length) (c : Nat × Nat) :
    redQ kind (vs.take (k + 1)).reverse c = if hasVarB c vs[k].1 then (if pivotB kind vs[k].2 then c else redQ kind (vs.take k).reverse (without c vs[k].1)) else redQ kind (vs.take k).reverse c := by
  rw [List.take_succ_eq_append_getElem h, List.reverse_append]
  rfl
def without2 (a b : Nat × Nat) (v : Nat) : Nat × Nat := without (a.1 ||| b.1, a.2 ||| b.2) v
def okC (x c : Nat × Nat) : Bool := ((x.1 &&& c.1) ||| (x.2 &&& c.2) != 0) || (x.1 &&& x.2 != 0)
def satQ (cl : List (Nat × Nat)) (c : Nat × Nat) : Bool := cl.all (okC · c)
theorem satQ_take (cl : List (Nat × Nat)) (c : Nat × Nat) (k : Nat) (h : k < cl.length) : satQ (cl.take (k + 1)) c = (satQ (cl.take k) c && okC cl[k] c) := by
  unfold satQ; rw [List.take_succ_eq_append_getElem h, List.all_append]; simp
theorem satQ_of (cl : List (Nat × Nat)) (c : Nat × Nat) (k : Nat) (h : k < cl.length) (hc : okC cl[k] c = false) : satQ cl c = false := by
  unfold satQ; rw [List.all_eq_false]; exact ⟨cl[k], List.getElem_mem h, by rw [hc]; decide⟩

/-! ### Steps as the program holds them -/
structure Stp where
  rule : Nat
  first : Nat
  second : Nat
  var : Nat
  lits : Nat × Nat
def litsAt (p : List Stp) (n : Nat) : Nat × Nat := if n = 0 then (0, 0) else match p[n - 1]? with
  | some s => s.lits
  | none => (0, 0)
def psCells (l : List Stp) : List Value := l.flatMap (fun s => [Value.int .i64 (s.rule : Int), Value.int .i64 (s.first : Int), Value.int .i64 (s.second : Int), Value.int .i64 (s.var : Int), Value.int .i64 (s.lits.1 : Int), Value.int .i64 (s.lits.2 : Int)])
theorem psCells_snoc (l : List Stp) (s : Stp) : psCells (l ++ [s]) = psCells l ++ [Value.int .i64 (s.rule : Int), Value.int .i64 (s.first : Int), Value.int .i64 (s.second : Int), Value.int .i64 (s.var : Int), Value.int .i64 (s.lits.1 : Int), Value.int .i64 (s.lits.2 : Int)] := by simp [psCells]
theorem psCells_at (l : List Stp) (k j : Nat) (h : k < l.length) (hj : j < 6) : (psCells l)[k * 6 + j]? = [Value.int .i64 (l[k].rule : Int), Value.int .i64 (l[k].first : Int), Value.int .i64 (l[k].second : Int), Value.int .i64 (l[k].var : Int), Value.int .i64 (l[k].lits.1 : Int), Value.int .i64 (l[k].lits.2 : Int)][j]? := by
  induction l generalizing k with
  | nil => simp at h
  | cons a l ih =>
    cases k with
    | zero =>
      simp only [psCells, List.flatMap_cons, Nat.zero_mul, Nat.zero_add, List.getElem_cons_zero]
      rw [List.getElem?_append_left (by simpa using hj)]
    | succ k =>
      have := ih k (by simpa using h)
      simp only [psCells, List.flatMap_cons] at this ⊢
      rw [show (k + 1) * 6 + j = (k * 6 + j) + 6 from by omega, List.getElem?_append_right (by simp)]
      simpa using this
theorem litsAt_in (p : List Stp) (m : Nat) (h : m < p.length) : litsAt p (m + 1) = p[m].lits := by
  unfold litsAt; rw [if_neg (by omega), Nat.add_sub_cancel, List.getElem?_eq_getElem h]
theorem litsAt_out (p : List Stp) (n : Nat) (h : n < 1 ∨ p.length < n) : litsAt p n = (0, 0) := by
  unfold litsAt
  split
  · rfl
  · rw [List.getElem?_eq_none (by omega)]
theorem litsAt_lt (p : List Stp) (h : ∀ s ∈ p, s.lits.1 < 512 ∧ s.lits.2 < 512) (n : Nat) : (litsAt p n).1 < 512 ∧ (litsAt p n).2 < 512 := by
  unfold litsAt
  split
  · exact ⟨by decide, by decide⟩
  · split
    · next s hs => exact h s (List.mem_of_getElem? hs)
    · exact ⟨by decide, by decide⟩
end Go.Proofs.YtgipjjhkhfihpabGreatDoor

namespace Go.Proofs.YtgipjjhkhfihpabGreatDoor
open Go.RowKit

/-! ### The search, as a function -/
def meetsB (a b : Nat × Nat) : Bool := (a.1 &&& b.1) ||| (a.2 &&& b.2) != 0
def clashB (a : Nat × Nat) : Bool := a.1 &&& a.2 != 0
def emptyB (a : Nat × Nat) : Bool := a.1 ||| a.2 == 0
def minus (a b : Nat × Nat) : Nat × Nat := (less a.1 b.1, less a.2 b.2)
def swapL (a : Nat × Nat) : Nat × Nat := (a.2, a.1)
/-- The resolvent of two steps, added. -/
def resP (p : List Stp) (a b v : Nat) : List Stp × Nat :=
  if hasLit (litsAt p a) v then (p ++ [⟨3, a, b, v, without2 (litsAt p a) (litsAt p b) v⟩], p.length + 1)
  else (p ++ [⟨3, b, a, v, without2 (litsAt p b) (litsAt p a) v⟩], p.length + 1)
def redP (q : QS) (kind : Nat) (p : List Stp) (n : Nat) : List Stp × Nat :=
  if redQ kind q.vars.reverse (litsAt p n) = litsAt p n then (p, n) else (p ++ [⟨4, n, 0, 0, redQ kind q.vars.reverse (litsAt p n)⟩], p.length + 1)
/-- What changes while nodes are looked at. -/
structure SS where
  nodes : Nat
  ref : List Stp
  aff : List Stp
  kept : List (Nat × Nat)
  most : Nat
/-- What doesn't. -/
structure SC where
  q : QS
  uni : Nat × Nat
  budget : Nat
  room : Nat
def SS.proof (s : SS) (kind : Nat) : List Stp := if kind = 2 then s.aff else s.ref
def SS.lits (s : SS) (f : Nat × Nat) : Nat × Nat := litsAt (s.proof f.1) f.2
def SS.put (s : SS) (kind : Nat) (p : List Stp) : SS := if kind = 2 then { s with aff := p } else { s with ref := p }
def storeK (room : Nat) (kept : List (Nat × Nat)) (f : Nat × Nat) : List (Nat × Nat) := if room = 0 then kept else if room ≤ kept.length then kept.drop 1 ++ [f] else kept ++ [f]
def storeM (room : Nat) (kept : List (Nat × Nat)) (f : Nat × Nat) (most : Nat) : Nat := if room = 0 then most else if most < (storeK room kept f).length then (storeK room kept f).length else most
def SS.store (room : Nat) (s : SS) (f : Nat × Nat) : SS := { s with kept := storeK room s.kept f, most := storeM room s.kept f s.most }
def SS.keep (room : Nat) (s : SS) (f : Nat × Nat) : SS := if emptyB (s.lits f) then s else s.store room f
def SS.reduce (q : QS) (s : SS) (f : Nat × Nat) : SS × (Nat × Nat) := (s.put f.1 (redP q f.1 (s.proof f.1) f.2).1, (f.1, (redP q f.1 (s.proof f.1) f.2).2))

def clausesOf (q : QS) (kept : List (Nat × Nat)) : List Nat := (List.range q.cl.length).map (· + 1) ++ (kept.filter (fun f => f.1 == 1)).map (·.2)
def leftOf (c vals : Nat × Nat) : Nat × Nat := minus c (swapL vals)
def openB (c vals : Nat × Nat) : Bool := !meetsB c vals && !clashB c
def isConf (uni vals c : Nat × Nat) : Bool := openB c vals && emptyB (minus (leftOf c vals) uni)
def confOf (ref : List Stp) (uni : Nat × Nat) (cs : List Nat) (vals : Nat × Nat) : Nat := (cs.find? (fun s => isConf uni vals (litsAt ref s))).getD 0
def listFrom (c : Nat × Nat) : Nat → Nat → List Int
  | 0, _ => []
  | k + 1, v => (if hasLit c v then [(v : Int)] else []) ++ ((if hasLit c (-(v : Int)) then [-(v : Int)] else []) ++ listFrom c k (v + 1))
/-- The literals, rising. -/
def listOf (c : Nat × Nat) : List Int := listFrom c 8 1
def isUnit (uni vals c : Nat × Nat) : Bool := openB c vals && ((listOf (leftOf c vals)).length == 1 && !meetsB (leftOf c vals) uni)
def unitOf (ref : List Stp) (uni : Nat × Nat) (cs : List Nat) (vals : Nat × Nat) : Int × Nat := match cs.find? (fun s => isUnit uni vals (litsAt ref s)) with
  | none => (0, 0)
  | some s => ((listOf (leftOf (litsAt ref s) vals)).headD 0, s)
structure US where
  vals : Nat × Nat
  trail : List (Int × Nat)
  conf : Nat
def unitsGo (ref : List Stp) (uni : Nat × Nat) (cs : List Nat) : Nat → Nat × Nat → List (Int × Nat) → US
  | 0, vals, trail => ⟨vals, trail, 0⟩
  | m + 1, vals, trail => if confOf ref uni cs vals ≠ 0 then ⟨vals, trail, confOf ref uni cs vals⟩ else
    if (unitOf ref uni cs vals).2 = 0 then ⟨vals, trail, 0⟩ else unitsGo ref uni cs m (withLit vals (unitOf ref uni cs vals).1) (trail ++ [unitOf ref uni cs vals])
def unitsOf (C : SC) (s : SS) (path : Nat × Nat) : US := unitsGo s.ref C.uni (clausesOf C.q s.kept) (C.q.vars.length + 1) path []
/-- From the last unit to the first. -/
def expl : List (Int × Nat) → List Stp → Nat → List Stp × Nat
  | [], p, n => (p, n)
  | m :: ms, p, n => if hasLit (litsAt p n) (-m.1) then expl ms (resP p m.2 n m.1.natAbs).1 (resP p m.2 n m.1.natAbs).2 else expl ms p n
def explain (C : SC) (s : SS) (u : US) : SS × (Nat × Nat) :=
  let r := expl u.trail.reverse s.ref u.conf
  let d := redP C.q 1 r.1 r.2
  let s2 : SS := { s with ref := d.1 }
  (if r.2 ≠ u.conf then s2.keep C.room (1, d.2) else s2, (1, d.2))
def holdsB (c path : Nat × Nat) : Bool := emptyB (minus c path)
def shrinkStep (q : QS) (u : Bool) (c : Nat × Nat) (v : Nat × Bool) : Nat × Nat := if v.2 = u ∧ satQ q.cl (without c v.1) = true then without c v.1 else c
def shrinkK (q : QS) (u : Bool) (c : Nat × Nat) : Nat × Nat := q.vars.reverse.foldl (shrinkStep q u) c
def shrinkQ (q : QS) (c : Nat × Nat) : Nat × Nat := shrinkK q false (shrinkK q true c)
def cubeOf (C : SC) (s : SS) (path vals : Nat × Nat) : SS × (Nat × Nat) :=
  match s.kept.find? (fun f => f.1 == 2 && holdsB (s.lits f) path) with
  | some f => (s, f)
  | none => if satQ C.q.cl vals then
      let p := s.aff ++ [⟨2, 0, 0, 0, shrinkQ C.q vals⟩]
      let d := redP C.q 2 p p.length
      let s2 : SS := { s with aff := d.1 }
      (s2.keep C.room (2, d.2), (2, d.2))
    else (s, (0, 0))
/-- A node ahead of its branches: what was found, or the values. -/
def nodeOf (C : SC) (s : SS) (path : Nat × Nat) : (SS × (Nat × Nat)) ⊕ (SS × (Nat × Nat)) :=
  if 0 < C.budget ∧ C.budget ≤ s.nodes then .inl (s, (0, 0)) else
  let s1 : SS := { s with nodes := s.nodes + 1 }
  let u := unitsOf C s1 path
  if u.conf ≠ 0 then .inl (explain C s1 u) else
  let r := cubeOf C s1 path u.vals
  if r.2.1 ≠ 0 then .inl r else .inr (r.1, u.vals)
def joinOf (C : SC) (s : SS) (a b : Nat × Nat) (v : Nat) : SS × (Nat × Nat) :=
  let r := resP (s.proof a.1) a.2 b.2 v
  let d := redP C.q a.1 r.1 r.2
  let s2 := s.put a.1 d.1
  (s2.keep C.room (a.1, d.2), (a.1, d.2))
def lookM (C : SC) : Nat → Nat × Nat → Nat → SS → SS × (Nat × Nat)
  | 0, path, _, s => match nodeOf C s path with
    | .inl r => r
    | .inr r => (r.1, (0, 0))
  | m + 1, path, depth, s => match nodeOf C s path with
    | .inl r => r
    | .inr (s1, vals) =>
      let v := (C.q.vars.getD depth (0, false)).1
      let side : Int := if hasLit vals (-(v : Int)) then -(v : Int) else v
      let a := lookM C m (withLit path side) (depth + 1) s1
      if hasVarB (a.1.lits a.2) v then
        let b := lookM C m (withLit path (-side)) (depth + 1) a.1
        if hasVarB (b.1.lits b.2) v then joinOf C b.1 a.2 b.2 v else b
      else a
/-! ### What is needed of a proof, and its text -/
def markOne (b : Bool) (i n : Nat) (m : List Bool) : List Bool := if b = true ∧ 0 < n ∧ n < i then m.set n true else m
def markStep (p : List Stp) (last i : Nat) (m : List Bool) : List Bool :=
  let m1 := if i = last then m.set i true else m
  let b := m1.getD i false && decide ((p.getD (i - 1) ⟨0, 0, 0, 0, (0, 0)⟩).rule ≠ 1)
  markOne b i (p.getD (i - 1) ⟨0, 0, 0, 0, (0, 0)⟩).second (markOne b i (p.getD (i - 1) ⟨0, 0, 0, 0, (0, 0)⟩).first m1)
def markTo (p : List Stp) (last : Nat) : Nat → List Bool → List Bool
  | 0, m => m
  | i + 1, m => markTo p last i (markStep p last (i + 1) m)
def needs (p : List Stp) (last : Nat) : List Bool := markTo p last p.length (List.replicate (p.length + 1) false)
/-- A step with the new numbers of those that it is made of. -/
def renum (nums : List Nat) (i : Nat) (s : Stp) : Stp := { s with first := if s.rule ≠ 1 ∧ s.first ≤ i then nums.getD s.first 0 else s.first, second := if s.second ≤ i then nums.getD s.second 0 else s.second }
def shortTo (p : List Stp) (mk : List Bool) : Nat → List Stp → List Nat → List Stp × List Nat
  | 0, sh, nums => (sh, nums)
  | m + 1, sh, nums =>
    let i := p.length - (m + 1)
    if mk.getD (i + 1) false then shortTo p mk m (sh ++ [renum nums i (p.getD i ⟨0, 0, 0, 0, (0, 0)⟩)]) (nums.set (i + 1) (sh.length + 1)) else shortTo p mk m sh nums
def shortOf (p : List Stp) (last : Nat) : List Stp := (shortTo p (needs p last) p.length [] (List.replicate (p.length + 1) 0)).1

def uniTo (vs : List (Nat × Bool)) (u : Nat × Nat) : Nat × Nat := vs.foldl (fun u v => if v.2 then withLit (withLit u v.1) (-(v.1 : Int)) else u) u
def axioms (cl : List (Nat × Nat)) : List Stp := cl.zipIdx.map (fun c => ⟨1, c.2 + 1, 0, 0, c.1⟩)
def beginC (q : QS) (budget room : Nat) : SC := ⟨q, uniTo q.vars (0, 0), budget, room⟩
def beginS (q : QS) : SS := ⟨0, axioms q.cl, [], [], 0⟩
def solveM (q : QS) (budget room : Nat) : SS × (Nat × Nat) := lookM (beginC q budget room) q.vars.length (0, 0) 0 (beginS q)
end Go.Proofs.YtgipjjhkhfihpabGreatDoor

namespace Go.Proofs.YtgipjjhkhfihpabGreatDoor

/-! ### Truth by all assignments, and why steps prove -/
/-- Variable by variable: one value that makes it so, or (of universal ones) both. -/
def fromL (sat : Nat → Bool) (all : Nat) : List Nat → Nat → Bool
  | [], t => sat t
  | v :: vs, t => if fromL sat all vs (t ||| 2 ^ v) != all.testBit v then fromL sat all vs (t ||| 2 ^ v) else fromL sat all vs t
/-- A set of literals is hit by t: it has one that is true (val: true), or one that is false (val: false). -/
def Hit (val : Bool) (c : Nat × Nat) (t : Nat) : Prop := ∃ v, (c.1.testBit v = true ∧ t.testBit v = val) ∨ (c.2.testBit v = true ∧ t.testBit v = !val)
/-- t comes out of t0 by values of vs, at each of which the outcome stays val. -/
def Plays (sat : Nat → Bool) (all : Nat) (val : Bool) : List Nat → Nat → Nat → Prop
  | [], t0, t => sat t0 = val ∧ t = t0
  | v :: vs, t0, t => fromL sat all (v :: vs) t0 = val ∧ ∃ b : Bool, Plays sat all val vs (if b then t0 ||| 2 ^ v else t0) t

section
variable {sat : Nat → Bool} {all : Nat} {val : Bool}

theorem Plays.from {vs : List Nat} {t0 t : Nat} (h : Plays sat all val vs t0 t) : fromL sat all vs t0 = val := by
  cases vs with
  | nil => exact h.1
  | cons v vs => exact h.1
theorem from_both {v : Nat} {vs : List Nat} {t : Nat} (h : fromL sat all (v :: vs) t = val) (hk : all.testBit v = val) (b : Bool) : fromL sat all vs (if b then t ||| 2 ^ v else t) = val := by
  rw [fromL, hk] at h
  cases ha : fromL sat all vs (t ||| 2 ^ v) <;> cases hv : val <;> cases b <;> simp_all
theorem from_one {v : Nat} {vs : List Nat} {t : Nat} (h : fromL sat all (v :: vs) t = val) : ∃ b : Bool, fromL sat all vs (if b then t ||| 2 ^ v else t) = val := by
  rw [fromL] at h
  split at h
  · exact ⟨true, h⟩
  · exact ⟨false, h⟩
theorem bit_or (t v u : Nat) : (t ||| 2 ^ v).testBit u = (t.testBit u || decide (v = u)) := by rw [Nat.testBit_or, Nat.testBit_two_pow]
theorem pick_bit (b : Bool) (t v u : Nat) (h : u ≠ v) : (if b then t ||| 2 ^ v else t).testBit u = t.testBit u := by
  cases b with
  | false => rfl
  | true => rw [if_pos rfl, bit_or]; simp [Ne.symm h]
theorem pick_at (b : Bool) (t v : Nat) (h : t.testBit v = false) : (if b then t ||| 2 ^ v else t).testBit v = b := by
  cases b with
  | false => exact h
  | true => rw [if_pos rfl, bit_or]; simp
/-- Bits of other variables stay. -/
theorem Plays.stays : ∀ {vs : List Nat} {t0 t : Nat}, Plays sat all val vs t0 t → ∀ u, u ∉ vs → t.testBit u = t0.testBit u := by
  intro vs
  induction vs with
  | nil => intro t0 t h u _; rw [h.2]
  | cons v vs ih =>
    intro t0 t h u hu
    obtain ⟨_, b, h⟩ := h
    rw [List.mem_cons, not_or] at hu
    rw [ih h u hu.2, pick_bit _ _ _ _ hu.1]
/-- Where the outcome is val, some play leads on, whatever values the variables have that are of the kind that val is for. -/
theorem plays_ext (f : Nat → Bool) : ∀ (vs : List Nat) (t0 : Nat), fromL sat all vs t0 = val → vs.Nodup → (∀ v ∈ vs, t0.testBit v = false) → ∃ t, Plays sat all val vs t0 t ∧ ∀ v ∈ vs, all.testBit v = val → t.testBit v = f v := by
  intro vs
  induction vs with
  | nil => intro t0 h _ _; exact ⟨t0, ⟨h, rfl⟩, by simp⟩
  | cons v vs ih =>
    intro t0 h hn h0
    rw [List.nodup_cons] at hn
    have hstep : ∃ b : Bool, fromL sat all vs (if b then t0 ||| 2 ^ v else t0) = val ∧ (all.testBit v = val → b = f v) := by
      by_cases hk : all.testBit v = val
      · exact ⟨f v, from_both h hk _, fun _ => rfl⟩
      · obtain ⟨b, hb⟩ := from_one h
        exact ⟨b, hb, fun e => absurd e hk⟩
    obtain ⟨b, hb, hf⟩ := hstep
    obtain ⟨t, hp, ht⟩ := ih _ hb hn.2 (fun u hu => by
      rw [pick_bit b t0 v u (fun e => hn.1 (by rw [← e]; exact hu))]
      exact h0 u (by simp [hu]))
    refine ⟨t, ⟨h, b, hp⟩, fun u hu hk => ?_⟩
    rcases List.mem_cons.1 hu with rfl | hu
    · rw [hp.stays u hn.1, pick_at _ _ _ (h0 u (by simp))]
      exact hf hk
    · exact ht u hu hk
theorem plays_any_one (vs : List Nat) (t0 : Nat) (h : fromL sat all vs t0 = val) (hn : vs.Nodup) (h0 : ∀ v ∈ vs, t0.testBit v = false) : ∃ t, Plays sat all val vs t0 t := by
  obtain ⟨t, ht, _⟩ := plays_ext (fun _ => false) vs t0 h hn h0
  exact ⟨t, ht⟩
/-- A play cut in two. -/
theorem Plays.cut : ∀ {a b : List Nat} {t0 t : Nat}, Plays sat all val (a ++ b) t0 t → ∃ t1, Plays sat all val b t1 t ∧ (∀ t', Plays sat all val b t1 t' → Plays sat all val (a ++ b) t0 t') ∧ (∀ u, u ∉ a → t1.testBit u = t0.testBit u) := by
  intro a
  induction a with
  | nil => intro b t0 t h; exact ⟨t0, h, fun t' h' => h', fun u _ => rfl⟩
  | cons v a ih =>
    intro b t0 t h
    obtain ⟨h1, c, h2⟩ := h
    obtain ⟨t1, h3, h4, h5⟩ := ih h2
    refine ⟨t1, h3, fun t' h' => ⟨h1, c, h4 t' h'⟩, fun u hu => ?_⟩
    rw [List.mem_cons, not_or] at hu
    rw [h5 u hu.2, pick_bit _ _ _ _ hu.1]
theorem Plays.leaf : ∀ {vs : List Nat} {t0 t : Nat}, Plays sat all val vs t0 t → sat t = val := by
  intro vs
  induction vs with
  | nil => intro t0 t h; rw [h.2]; exact h.1
  | cons v vs ih => intro t0 t h; obtain ⟨_, b, h⟩ := h; exact ih h

/-- What holds of every step of a proof. -/
structure Good (sat : Nat → Bool) (all : Nat) (val : Bool) (order : List Nat) (c : Nat × Nat) : Prop where
  apart : ∀ v, c.1.testBit v = true → c.2.testBit v = true → False
  vars : ∀ v, c.1.testBit v = true ∨ c.2.testBit v = true → v ∈ order
  hits : ∀ t, Plays sat all val order 0 t → Hit val c t

/-- Reduction. -/
theorem good_reduced {pre suf : List Nat} {c c' : Nat × Nat} (hg : Good sat all val (pre ++ suf) c) (hn : (pre ++ suf).Nodup)
    (hlast : ∀ v ∈ suf, c.1.testBit v = true ∨ c.2.testBit v = true → all.testBit v = val)
    (h1 : ∀ v, c'.1.testBit v = (c.1.testBit v && !(decide (v ∈ suf) && (all.testBit v == val)))) (h2 : ∀ v, c'.2.testBit v = (c.2.testBit v && !(decide (v ∈ suf) && (all.testBit v == val)))) : Good sat all val (pre ++ suf) c' := by
  have s1 : ∀ v, c'.1.testBit v = true → c.1.testBit v = true := fun v h => by rw [h1, Bool.and_eq_true] at h; exact h.1
  have s2 : ∀ v, c'.2.testBit v = true → c.2.testBit v = true := fun v h => by rw [h2, Bool.and_eq_true] at h; exact h.1
  refine ⟨fun v a b => hg.apart v (s1 v a) (s2 v b), fun v h => hg.vars v (h.elim (fun h => Or.inl (s1 v h)) (fun h => Or.inr (s2 v h))), fun t ht => ?_⟩
  obtain ⟨t1, h3, h4, h5⟩ := ht.cut
  rw [List.nodup_append] at hn
  obtain ⟨hn1, hn2, hn3⟩ := hn
  have hz : ∀ v ∈ suf, t1.testBit v = false := fun v hv => by
    rw [h5 v (fun hp => hn3 v hp v hv rfl)]; simp
  obtain ⟨t', hp', hf'⟩ := plays_ext (fun v => if c.1.testBit v then !val else val) suf t1 h3.from hn2 hz
  obtain ⟨v, hv⟩ := hg.hits t' (h4 t' hp')
  have hvo : v ∈ pre ++ suf := hg.vars v (hv.elim (fun h => Or.inl h.1) (fun h => Or.inr h.1))
  by_cases hs : v ∈ suf
  · have hk := hlast v hs (hv.elim (fun h => Or.inl h.1) (fun h => Or.inr h.1))
    have hb := hf' v hs hk
    rcases hv with ⟨a, b⟩ | ⟨a, b⟩
    · rw [b, a, if_pos rfl] at hb
      cases val <;> cases hb
    · have hc1 : c.1.testBit v = false := by
        cases h : c.1.testBit v with
        | false => rfl
        | true => exact (hg.apart v h a).elim
      rw [b, hc1, if_neg (by decide)] at hb
      cases val <;> cases hb
  · have e1 : t'.testBit v = t.testBit v := by rw [hp'.stays v hs, h3.stays v hs]
    refine ⟨v, ?_⟩
    rw [h1, h2, ← e1]
    simpa [hs] using hv
/-- Resolution. -/
theorem good_resolved {order : List Nat} {a b c : Nat × Nat} {p : Nat} (ha : Good sat all val order a) (hb : Good sat all val order b) (_hap : a.1.testBit p = true) (_hbp : b.2.testBit p = true)
    (h1 : ∀ v, c.1.testBit v = ((a.1.testBit v && !(decide (v = p))) || b.1.testBit v)) (h2 : ∀ v, c.2.testBit v = (a.2.testBit v || (b.2.testBit v && !(decide (v = p)))))
    (hc : ∀ v, c.1.testBit v = true → c.2.testBit v = true → False) : Good sat all val order c := by
  refine ⟨hc, fun v h => ?_, fun t ht => ?_⟩
  · rw [h1, h2] at h
    simp at h
    rcases h with (h | h) | (h | h)
    · exact ha.vars v (Or.inl h.1)
    · exact hb.vars v (Or.inl h)
    · exact ha.vars v (Or.inr h)
    · exact hb.vars v (Or.inr h.1)
  · obtain ⟨v, hv⟩ := ha.hits t ht
    obtain ⟨u, hu⟩ := hb.hits t ht
    rcases hv with ⟨x, y⟩ | ⟨x, y⟩
    · by_cases hvp : v = p
      · subst hvp
        rcases hu with ⟨x', y'⟩ | ⟨x', y'⟩
        · exact ⟨u, Or.inl ⟨by rw [h1]; simp [x'], y'⟩⟩
        · by_cases hup : u = v
          · subst hup
            rw [y] at y'
            cases val <;> cases y'
          · exact ⟨u, Or.inr ⟨by rw [h2]; simp [x', hup], y'⟩⟩
      · exact ⟨v, Or.inl ⟨by rw [h1]; simp [x, hvp], y⟩⟩
    · exact ⟨v, Or.inr ⟨by rw [h2]; simp [x], y⟩⟩
/-- A step with no literals ends it. -/
theorem good_empty {order : List Nat} {c : Nat × Nat} (hg : Good sat all val order c) (hn : order.Nodup) (h1 : c.1 = 0) (h2 : c.2 = 0) : fromL sat all order 0 = !val := by
  by_cases h : fromL sat all order 0 = val
  · obtain ⟨t, ht⟩ := plays_any_one order 0 h hn (fun v _ => by simp)
    obtain ⟨v, hv⟩ := hg.hits t ht
    rw [h1, h2] at hv
    simp at hv
  · cases val <;> cases hh : fromL sat all order 0 <;> simp_all
end
end Go.Proofs.YtgipjjhkhfihpabGreatDoor

namespace Go.Proofs.YtgipjjhkhfihpabGreatDoor
open Go.RowKit

/-! ### What a text proves, by the document -/
/-- A number from 1 to most; 0: none. -/
def cnt (w : List UInt8) (most : Nat) : Nat := if w.all isDigit = true ∧ w.length ≤ 6 ∧ w.head? ≠ some 48 ∧ dec w ≤ most then dec w else 0
def big : Nat := 1048576
def hasB (c : Nat × Nat) (v : Nat) : Bool := (c.1 ||| c.2).testBit v
/-- One more than the last place that bars reduction. -/
def lastTo (order : List Nat) (kind : Nat) (c : Nat × Nat) : Nat → Nat
  | 0 => 0
  | k + 1 => if hasB c (order.getD k 0) && !kind.testBit (order.getD k 0) then k + 1 else lastTo order kind c k
def clr (kind : Nat) (c : Nat × Nat) (v : Nat) : Nat × Nat := if kind.testBit v then (less c.1 (2 ^ v), less c.2 (2 ^ v)) else c
def redR (order : List Nat) (kind : Nat) (c : Nat × Nat) : Nat × Nat := (order.drop (lastTo order kind c order.length)).foldl (clr kind) c
def apartO (c : Nat × Nat) : Option (Nat × Nat) := if c.1 &&& c.2 = 0 then some c else none
def axR (F : Form) (k : Nat) : Option (Nat × Nat) := if k < 1 ∨ F.cl.length < k then none else apartO (F.cl.getD (k - 1) (0, 0))
def litVar (w : List UInt8) : Nat := if dig w = 0 then (dig w.tail).toNat else (dig w).toNat
def cubeTo (order : List Nat) : Nat × Nat → Nat → List (List UInt8) → Option (Nat × Nat)
  | c, _, [] => some c
  | c, last, w :: ws => if (litInto c w).2 = true ∧ last < litVar w ∧ litVar w ∈ order then cubeTo order (litInto c w).1 (litVar w) ws else none
def missed (x c : Nat × Nat) : Bool := (x.1 &&& x.2 == 0) && ((x.1 &&& c.1 == 0) && (x.2 &&& c.2 == 0))
def satR (cl : List (Nat × Nat)) (c : Nat × Nat) : Bool := cl.all (fun x => !missed x c)
def cubeR (F : Form) (tl : List (List UInt8)) : Option (Nat × Nat) := (cubeTo F.order (0, 0) 0 tl).bind (fun c => if satR F.cl c then some c else none)
def resolve2 (a b : Nat × Nat) (v : Nat) : Nat × Nat := (less a.1 (2 ^ v) ||| b.1, a.2 ||| less b.2 (2 ^ v))
def resR (F : Form) (truth : Bool) (ss : List (Nat × Nat)) (i j v : Nat) : Option (Nat × Nat) :=
  if i < 1 ∨ ss.length < i ∨ j < 1 ∨ ss.length < j ∨ v < 1 ∨ 8 < v then none else
  if F.all.testBit v ≠ truth ∨ (ss.getD (i - 1) (0, 0)).1.testBit v = false ∨ (ss.getD (j - 1) (0, 0)).2.testBit v = false then none else
  apartO (resolve2 (ss.getD (i - 1) (0, 0)) (ss.getD (j - 1) (0, 0)) v)
def kindR (F : Form) (truth : Bool) : Nat := if truth then less 510 F.all else F.all
def reductR (F : Form) (truth : Bool) (ss : List (Nat × Nat)) (i : Nat) : Option (Nat × Nat) :=
  if i < 1 ∨ ss.length < i then none else some (redR F.order (kindR F truth) (ss.getD (i - 1) (0, 0)))
/-- What a line adds to the steps. -/
def stepR (F : Form) (truth : Bool) (ss : List (Nat × Nat)) (hd : List UInt8) (tl : List (List UInt8)) : Option (Nat × Nat) :=
  if hd = [97] ∧ truth = false ∧ tl.length = 1 then axR F (cnt (tl.getD 0 []) big)
  else if hd = [99] ∧ truth = true then cubeR F tl
  else if hd = [114] ∧ tl.length = 3 then resR F truth ss (cnt (tl.getD 0 []) big) (cnt (tl.getD 1 []) big) (cnt (tl.getD 2 []) big)
  else if hd = [100] ∧ tl.length = 1 then reductR F truth ss (cnt (tl.getD 0 []) big)
  else none
def lineR (F : Form) (truth : Bool) (ss : List (Nat × Nat)) (row : List UInt8) : Option (Nat × Nat) :=
  match cutAt 32 row with
  | [] => none
  | hd :: tl => if ss.length = 9000 then none else stepR F truth ss hd tl
theorem lineR_eq (F : Form) (truth : Bool) (ss : List (Nat × Nat)) (row hd : List UInt8) (tl : List (List UInt8)) (h : cutAt 32 row = hd :: tl) : lineR F truth ss row = if ss.length = 9000 then none else stepR F truth ss hd tl := by
  unfold lineR; rw [h]
/-- Lines from the n-th on: the steps, or the first line that is none. -/
def rowsR (F : Form) (truth : Bool) : List (Nat × Nat) → Nat → List (List UInt8) → List (Nat × Nat) ⊕ Nat
  | ss, _, [] => .inl ss
  | ss, n, r :: rs => match lineR F truth ss r with
    | none => .inr (n + 1)
    | some c => rowsR F truth (ss ++ [c]) (n + 1) rs
def isTwo (row : List UInt8) : Bool := (cutAt 32 row).head? == some [114]
def twoR (rs : List (List UInt8)) : Nat := (rs.filter isTwo).length
def sTrue : List UInt8 := [112, 114, 111, 111, 102, 32, 116, 114, 117, 101]
def sFalse : List UInt8 := [112, 114, 111, 111, 102, 32, 102, 97, 108, 115, 101]
def emptyLast (ss : List (Nat × Nat)) : Bool := match ss.getLast? with
  | none => false
  | some c => c.1 ||| c.2 == 0
def provesR (F : Form) (l : List UInt8) : (Nat × Nat) ⊕ (Bool × Nat) :=
  if 262144 < l.length then .inl (1, 0) else
  match (cutTo 10 l).1 with
  | [] => .inl (5, 1)
  | r0 :: rs => if r0 = sTrue ∨ r0 = sFalse then
      match rowsR F (r0 == sTrue) [] 1 rs with
      | .inr i => .inl (5, i)
      | .inl ss => if (cutTo 10 l).2 = [] ∧ emptyLast ss = true then .inr (r0 == sTrue, twoR rs) else .inl (5, rs.length + 2)
    else .inl (5, 1)

/-! ### Bounds -/
def Bd (c : Nat × Nat) : Prop := c.1 < 512 ∧ c.2 < 512
theorem less_lt (a b : Nat) (h : a < 512) : less a b < 512 := Nat.lt_of_le_of_lt (less_le a b) h
theorem clr_bd (kind : Nat) (c : Nat × Nat) (v : Nat) (h : Bd c) : Bd (clr kind c v) := by
  unfold clr; split
  · exact ⟨less_lt _ _ h.1, less_lt _ _ h.2⟩
  · exact h
theorem clrs_bd (kind : Nat) (l : List Nat) : ∀ c, Bd c → Bd (l.foldl (clr kind) c) := by
  induction l with
  | nil => intro c h; exact h
  | cons v l ih => intro c h; exact ih _ (clr_bd kind c v h)
theorem litInto_bd (c : Nat × Nat) (w : List UInt8) (h : Bd c) : Bd (litInto c w).1 := litInto_lt c w h.1 h.2
theorem cubeTo_bd (order : List Nat) (ws : List (List UInt8)) : ∀ c last c', Bd c → cubeTo order c last ws = some c' → Bd c' := by
  induction ws with
  | nil => intro c last c' h e; simp [cubeTo] at e; subst e; exact h
  | cons w ws ih =>
    intro c last c' h e
    rw [cubeTo] at e
    split at e
    · exact ih _ _ _ (litInto_bd c w h) e
    · cases e
theorem apartO_some {c c' : Nat × Nat} (h : apartO c = some c') : c' = c ∧ c.1 &&& c.2 = 0 := by
  unfold apartO at h
  split at h
  · next hh => simp at h; exact ⟨h.symm, hh⟩
  · cases h
theorem getD_bd (l : List (Nat × Nat)) (k : Nat) (h : ∀ c ∈ l, Bd c) : Bd (l.getD k (0, 0)) := by
  rw [List.getD]
  cases hk : l[k]? with
  | none => exact ⟨by decide, by decide⟩
  | some c => exact h c (List.mem_of_getElem? hk)
theorem stepR_bd (F : Form) (truth : Bool) (ss : List (Nat × Nat)) (hd : List UInt8) (tl : List (List UInt8)) (c : Nat × Nat) (hF : ∀ c ∈ F.cl, Bd c) (hS : ∀ c ∈ ss, Bd c) (h : stepR F truth ss hd tl = some c) : Bd c := by
  unfold stepR at h
  split at h
  · unfold axR at h
    split at h
    · cases h
    · obtain ⟨rfl, _⟩ := apartO_some h; exact getD_bd _ _ hF
  · split at h
    · unfold cubeR at h
      cases hc : cubeTo F.order (0, 0) 0 tl with
      | none => rw [hc] at h; cases h
      | some c' =>
        rw [hc] at h
        simp only [Option.bind_some] at h
        split at h
        · simp at h; subst h; exact cubeTo_bd _ _ _ _ _ ⟨by decide, by decide⟩ hc
        · cases h
    · split at h
      · unfold resR at h
        split at h
        · cases h
        · split at h
          · cases h
          · obtain ⟨rfl, _⟩ := apartO_some h
            have h1 := getD_bd ss (cnt (tl.getD 0 []) big - 1) hS
            have h2 := getD_bd ss (cnt (tl.getD 1 []) big - 1) hS
            exact ⟨or_lt _ _ (less_lt _ _ h1.1) h2.1, or_lt _ _ h1.2 (less_lt _ _ h2.2)⟩
      · split at h
        · unfold reductR at h
          split at h
          · cases h
          · simp at h; subst h
            exact clrs_bd _ _ _ (getD_bd _ _ hS)
        · cases h
end Go.Proofs.YtgipjjhkhfihpabGreatDoor
