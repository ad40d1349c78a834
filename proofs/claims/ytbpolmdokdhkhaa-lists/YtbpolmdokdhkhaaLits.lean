import Derived.Test.YtbpolmdokdhkhaaNumber
import Derived.Deep.RegionWith
import Derived.Deep.QuietTactic
import Derived.BigQuiet
namespace Go.Proofs.Ytbpolmdokdhkhaa
open Go.RowKit

/-- The bit of a variable. -/
def bitOf (v : Int) : Nat := if 1 ≤ v ∧ v ≤ 8 then 2 ^ v.toNat else 0
theorem bitOf_lt (v : Int) : bitOf v < 512 := by
  unfold bitOf; split
  · have := pow_bd v.toNat (by omega); omega
  · decide

set_option maxRecDepth 100000 in
set_option maxHeartbeats 400000 in
theorem bit_any (v : Int) (w : World) : Calls Try.prog 73 #[.int .i64 v] w fun e w' => e = .returned (.int .i64 (bitOf v : Nat)) ∧ w' = w := by
  by_cases h1 : v < 1
  · have HB : Hid (bitOf v = 0) := hide (by unfold bitOf; rw [if_neg (by omega)])
    have hd : decide (v < 1) = true := by simpa using h1
    go_enter Try.func73, Try.ntmps73
    go_wp2_with fail
    go_ret
    exact ⟨by rw [unhide HB]; rfl, rfl⟩
  · have hd : decide (v < 1) = false := by simpa using h1
    by_cases h2 : 8 < v
    · have HB : Hid (bitOf v = 0) := hide (by unfold bitOf; rw [if_neg (by omega)])
      have hd2 : decide (8 < v) = true := by simpa using h2
      go_enter Try.func73, Try.ntmps73
      go_wp2_with fail
      go_ret
      exact ⟨by rw [unhide HB]; rfl, rfl⟩
    · have HB : Hid (bitOf v = 2 ^ v.toNat) := hide (by unfold bitOf; rw [if_pos (by omega)])
      have hd2 : decide (8 < v) = false := by simpa using h2
      have HS := hide (shl_one v (by omega) (by omega))
      go_enter Try.func73, Try.ntmps73
      go_wp2_with fail
      go_ret
      exact ⟨ret_int (by rw [unhide HB]; exact unhide HS), rfl⟩

/-- A set with a literal. -/
def withLit (c : Nat × Nat) (x : Int) : Nat × Nat := if x < 0 then (c.1, c.2 ||| bitOf (-x)) else (c.1 ||| bitOf x, c.2)

set_option maxRecDepth 100000 in
set_option maxHeartbeats 800000 in
theorem with_any (p n : Nat) (x : Int) (w : World) (hp : p < 512) (hn : n < 512) (hx : -9223372036854775807 ≤ x) (hx2 : x ≤ 9223372036854775807) :
    Calls Try.prog 58 #[.agg #[.int .i64 p, .int .i64 n], .int .i64 x] w fun e w' =>
      e = .returned (.agg #[.int .i64 ((withLit (p, n) x).1 : Nat), .int .i64 ((withLit (p, n) x).2 : Nat)]) ∧ Below w.heap.size w w' := by
  by_cases h : x < 0
  · have HW : Hid (withLit (p, n) x = (p, n ||| bitOf (-x))) := hide (by unfold withLit; rw [if_pos h])
    have hd : decide (x < 0) = true := by simpa using h
    have hwx : IntKind.i64.wrap (-x) = -x := by
      obtain ⟨m, hm⟩ := Int.eq_ofNat_of_zero_le (show 0 ≤ -x by omega)
      rw [hm]; exact wrap_i64_nat m (by omega)
    have hor : bits .or .i64 (n : Int) (bitOf (-x) : Nat) = ((n ||| bitOf (-x) : Nat) : Int) := i64_or _ _ (by omega) (by have := bitOf_lt (-x); omega)
    go_enter Try.func58, Try.ntmps58
    go_wp2_with fail
    go_region_with (go_at_call 73; refine (bit_any _ _).mono ?_; rintro e w1 ⟨rfl, rfl⟩)
    all_goals go_wp2_with fail
    all_goals
      refine bodyPost_ret (v := .agg #[.int .i64 p, .int .i64 ((n ||| bitOf (-x) : Nat) : Int)]) (by simp [results, Try.results58, go_sem]) rfl ⟨by rw [unhide HW], ?_⟩
      exact ((((Below.refl _ _).alloc (Nat.le_refl _) _).alloc (by simp) _)).drew
  · have HW : Hid (withLit (p, n) x = (p ||| bitOf x, n)) := hide (by unfold withLit; rw [if_neg h])
    have hd : decide (x < 0) = false := by simpa using h
    have hor : bits .or .i64 (p : Int) (bitOf x : Nat) = ((p ||| bitOf x : Nat) : Int) := i64_or _ _ (by omega) (by have := bitOf_lt x; omega)
    go_enter Try.func58, Try.ntmps58
    go_wp2_with fail
    go_region_with (go_at_call 73; refine (bit_any _ _).mono ?_; rintro e w1 ⟨rfl, rfl⟩)
    all_goals go_wp2_with fail
    all_goals
      refine bodyPost_ret (v := .agg #[.int .i64 ((p ||| bitOf x : Nat) : Int), .int .i64 n]) (by simp [results, Try.results58, go_sem]) rfl ⟨by rw [unhide HW], ?_⟩
      exact ((((Below.refl _ _).alloc (Nat.le_refl _) _).alloc (by simp) _)).drew

set_option maxRecDepth 100000 in
set_option maxHeartbeats 800000 in
theorem hasVar_any (p n : Nat) (v : Int) (w : World) (hp : p < 512) (hn : n < 512) :
    Calls Try.prog 59 #[.agg #[.int .i64 p, .int .i64 n], .int .i64 v] w fun e w' =>
      e = .returned (.bool ((p ||| n) &&& bitOf v != 0)) ∧ Below w.heap.size w w' := by
  have hor : bits .or .i64 (p : Int) (n : Int) = ((p ||| n : Nat) : Int) := i64_or _ _ (by omega) (by omega)
  have hand : bits .and .i64 ((p ||| n : Nat) : Int) (bitOf v : Nat) = (((p ||| n) &&& bitOf v : Nat) : Int) := i64_and _ _ (by have := or_lt p n hp hn; omega) (by have := bitOf_lt v; omega)
  have HE : Hid (((((p ||| n) &&& bitOf v : Nat) : Int) != 0) = ((p ||| n) &&& bitOf v != 0)) := hide (by
    rw [Bool.eq_iff_iff, bne_iff_ne, bne_iff_ne]; omega)
  go_enter Try.func59, Try.ntmps59
  go_wp2_with fail
  go_quiet ((go_at_call 73; exact Calls.quiet_of_same (bit_any _ _)))
  go_wp2_with fail
  go_ret
  exact ⟨ret_bool (unhide HE), below_drewN ((Below.refl _ _).alloc (Nat.le_refl _) _) nq⟩
end Go.Proofs.Ytbpolmdokdhkhaa
