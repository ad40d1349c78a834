import Derived.Test.YtbpolmdokdhkhaaDigit
import Derived.Test.YtbpolmdokdhkhaaBits
namespace Go.Proofs.Ytbpolmdokdhkhaa
open Go.RowKit

theorem dig_bd (l : List UInt8) : 0 ≤ dig l ∧ dig l ≤ 8 := by
  unfold dig; split
  · split <;> omega
  · omega

theorem pow_bd (n : Nat) (h : n ≤ 8) : 2 ^ n ≤ 256 := by
  have := Nat.pow_le_pow_right (n := 2) (by omega) h
  simpa using this
theorem shl_one (v : Int) (h0 : 0 ≤ v) (h1 : v ≤ 8) : wrap64 (2 ^ v.toNat) = ((2 ^ v.toNat : Nat) : Int) := by
  have h := pow_bd v.toNat (by omega)
  rw [show (2 : Int) ^ v.toNat = ((2 ^ v.toNat : Nat) : Int) from by simp]
  generalize 2 ^ v.toNat = m at *
  exact IntWalk.wrap64_in _ ⟨by omega, by omega⟩
theorem or_bit (n : Nat) (hn : n < 512) (v : Int) (h0 : 0 ≤ v) (h1 : v ≤ 8) : bits .or .i64 (n : Int) (wrap64 (2 ^ v.toNat)) = ((n ||| 2 ^ v.toNat : Nat) : Int) := by
  have h := pow_bd v.toNat (by omega)
  rw [shl_one v h0 h1]
  generalize 2 ^ v.toNat = m at *
  exact i64_or _ _ (by omega) (by omega)
theorem or_lt (a b : Nat) (ha : a < 512) (hb : b < 512) : a ||| b < 512 := Nat.or_lt_two_pow (n := 9) ha hb

attribute [local go_sem] ba_get

set_option maxRecDepth 100000 in
set_option maxHeartbeats 400000 in
theorem literal_neg (l : List UInt8) (b p n : Nat) (w : World) (hblk : w.heap[b]? = some (.cells #[.int .i64 p, .int .i64 n] 115 (0, 0))) (hn : n < 512) :
    Calls Try.prog 65 #[.pointer (some ⟨b, 0, none⟩), .string ⟨(45 :: l).toArray⟩] w fun e w' => 
      e = .returned (.bool (decide (0 < dig l))) ∧ w'.heap[b]? = some (.cells #[.int .i64 p, .int .i64 ((n ||| 2 ^ (dig l).toNat : Nat) : Int)] 115 (0, 0)) ∧ Only (· = b) w w' := by
  obtain ⟨d0, d1⟩ := dig_bd l
  go_enter Try.func65, Try.ntmps65
  go_wp2_with fail
  rw [ba_extract, show List.take (l.length + 1 - 1) (List.drop 1 (45 :: l)) = l from by simp]
  refine (digit_any l w).mono ?_
  rintro e w1 ⟨rfl, hb⟩
  have hblk1 : w1.heap[b]? = some (.cells #[.int .i64 p, .int .i64 n] 115 (0, 0)) := (hb.block b (blk_lt hblk)).trans hblk
  have hc0 : w1.cell? ⟨b, 0, none⟩ = some (.int .i64 p) := by rw [blk_cell hblk1]; rfl
  have hc1 : w1.cell? ⟨b, 1, none⟩ = some (.int .i64 n) := by rw [blk_cell hblk1]; rfl
  have hf1 := blk_free hblk1 1
  go_wp2_with fail
  go_region
  all_goals go_wp2_with fail
  all_goals go_ret
  all_goals
    refine ⟨rfl, ?_, ((Only.of_below hb).setAt _ _).drew⟩
    rw [or_bit n hn _ d0 d1]
    exact blk_set hblk1 1 _

set_option maxRecDepth 100000 in
set_option maxHeartbeats 400000 in
theorem literal_pos (l : List UInt8) (h45 : l.head? ≠ some 45) (b p n : Nat) (w : World) (hblk : w.heap[b]? = some (.cells #[.int .i64 p, .int .i64 n] 115 (0, 0))) (hp : p < 512) :
    Calls Try.prog 65 #[.pointer (some ⟨b, 0, none⟩), .string ⟨l.toArray⟩] w fun e w' => 
      e = .returned (.bool (decide (0 < dig l))) ∧ w'.heap[b]? = some (.cells #[.int .i64 ((p ||| 2 ^ (dig l).toNat : Nat) : Int), .int .i64 n] 115 (0, 0)) ∧ Only (· = b) w w' := by
  obtain ⟨d0, d1⟩ := dig_bd l
  match l with
  | [] =>
    clear h45
    go_enter Try.func65, Try.ntmps65
    go_wp2_with fail
    refine (digit_any [] w).mono ?_
    rintro e w1 ⟨rfl, hb⟩
    have hblk1 : w1.heap[b]? = some (.cells #[.int .i64 p, .int .i64 n] 115 (0, 0)) := (hb.block b (blk_lt hblk)).trans hblk
    have hc0 : w1.cell? ⟨b, 0, none⟩ = some (.int .i64 p) := by rw [blk_cell hblk1]; rfl
    have hf1 := blk_free hblk1 0
    go_wp2_with fail
    go_region
    all_goals go_wp2_with fail
    all_goals go_ret
    all_goals
      refine ⟨rfl, ?_, ((Only.of_below hb).setAt _ _).drew⟩
      rw [or_bit p hp _ d0 d1]
      exact blk_set hblk1 0 _
  | c :: l =>
    have hc : ((c.toNat : Int) == 45) = false := by
      rw [beq_eq_false_iff_ne]; intro e
      exact h45 (by simp; apply UInt8.toNat_inj.1; show _ = 45; omega)
    clear h45
    go_enter Try.func65, Try.ntmps65
    go_wp2_with fail
    refine (digit_any (c :: l) w).mono ?_
    rintro e w1 ⟨rfl, hb⟩
    have hblk1 : w1.heap[b]? = some (.cells #[.int .i64 p, .int .i64 n] 115 (0, 0)) := (hb.block b (blk_lt hblk)).trans hblk
    have hc0 : w1.cell? ⟨b, 0, none⟩ = some (.int .i64 p) := by rw [blk_cell hblk1]; rfl
    have hf1 := blk_free hblk1 0
    go_wp2_with fail
    go_region
    all_goals go_wp2_with fail
    all_goals go_ret
    all_goals
      refine ⟨rfl, ?_, ((Only.of_below hb).setAt _ _).drew⟩
      rw [or_bit p hp _ d0 d1]
      exact blk_set hblk1 0 _

end Go.Proofs.Ytbpolmdokdhkhaa
