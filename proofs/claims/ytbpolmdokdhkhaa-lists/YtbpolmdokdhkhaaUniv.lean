import Derived.Test.YtbpolmdokdhkhaaLiteral
namespace Go.Proofs.Ytbpolmdokdhkhaa
open Go.RowKit

theorem shr_bit (a v : Nat) (ha : a < 512) (_hv : v ≤ 8) : bits .and .i64 ((a : Int) / 2 ^ v) 1 = if a.testBit v then 1 else 0 := by
  have e : (a : Int) / 2 ^ v = ((a / 2 ^ v : Nat) : Int) := by
    rw [Int.natCast_ediv]; simp
  have hle : a / 2 ^ v ≤ a := Nat.div_le_self _ _
  rw [e, show (1 : Int) = ((1 : Nat) : Int) from rfl, i64_and _ _ (by omega) (by omega)]
  rw [Nat.and_one_is_mod, Nat.testBit_eq_decide_div_mod_eq]
  rcases Nat.mod_two_eq_zero_or_one (a / 2 ^ v) with h | h <;> simp [h]
theorem shr_bit_eq (a v : Nat) (ha : a < 512) (hv : v ≤ 8) : (bits .and .i64 ((a : Int) / 2 ^ v) 1 == 1) = a.testBit v := by
  rw [shr_bit a v ha hv]; cases a.testBit v <;> rfl

set_option maxRecDepth 100000 in
set_option maxHeartbeats 400000 in
theorem universal_any (b a v : Nat) (w : World) (ha : a < 512) (hv : v ≤ 8) (hc : w.cell? ⟨b, 1, none⟩ = some (.int .i64 a)) :
    Calls Try.prog 67 #[.pointer (some ⟨b, 0, none⟩), .int .i64 v] w fun e w' => e = .returned (.bool (a.testBit v)) ∧ w' = w := by
  have hb := shr_bit_eq a v ha hv
  go_enter Try.func67, Try.ntmps67
  go_wp2_with fail
  go_ret
  exact ⟨rfl, rfl⟩
end Go.Proofs.Ytbpolmdokdhkhaa
