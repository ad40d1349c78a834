import Derived.Test.YtbpolmdokdhkhaaBase
namespace Go.Proofs.Ytbpolmdokdhkhaa
open Go.RowKit

/-- The variable that a word writes, or 0. -/
def dig : List UInt8 → Int
  | [c] => if 49 ≤ (c.toNat : Int) ∧ (c.toNat : Int) ≤ 56 then (c.toNat : Int) - 48 else 0
  | _ => 0

theorem dig_hit (k : Nat) (h : k < 8) (l : List UInt8) (e : (l == [48 + (UInt8.ofNat k + 1)]) = true) : dig l = (k : Int) + 1 := by
  rw [beq_iff_eq.1 e]
  have : (48 + (UInt8.ofNat k + 1)).toNat = 49 + k := by
    simp [UInt8.toNat_add, UInt8.toNat_ofNat']; omega
  simp only [dig, this]
  rw [if_pos (by omega)]; omega

theorem dig_miss (l : List UInt8) (h : ∀ j : Nat, j < 8 → (l == [48 + (UInt8.ofNat j + 1)]) = false) : dig l = 0 := by
  match l with
  | [] => rfl
  | _ :: _ :: _ => rfl
  | [c] =>
    simp only [dig]
    split
    · next hc =>
      exfalso
      have := h (c.toNat - 49) (by omega)
      have e : c = 48 + (UInt8.ofNat (c.toNat - 49) + 1) := by
        apply UInt8.toNat_inj.1
        simp [UInt8.toNat_add, UInt8.toNat_ofNat']; omega
      rw [← e] at this
      simp at this
    · rfl

theorem conv_byte (n : Int) (h0 : 0 ≤ n) (h1 : n < 256) (w : World) :
    (convert 101 9 (.slice (some ⟨w.heap.size, 0, none⟩) 1 1)).run Try.prog (w.alloc (.cells #[.int .u8 n] 5)) =
      .ok (.string ⟨#[UInt8.ofNat n.toNat]⟩) (w.alloc (.cells #[.int .u8 n] 5)) := by
  have e : ((UInt8.ofNat n.toNat).toNat : Int) = n := by simp [UInt8.toNat_ofNat']; omega
  have h := run_convert_bytes_back (P := Try.prog) (w.alloc (.cells #[.int .u8 n] 5)) 101 9 5 ⟨w.heap.size, 0, none⟩ 1 [UInt8.ofNat n.toNat] Try.underlying101 Try.underlying5 Try.underlying9
    (fun j hj => by
      simp at hj; subst hj
      simp only [List.getElem_cons_zero, e]
      simp [Addr.add])
  exact h

set_option maxRecDepth 100000 in
set_option maxHeartbeats 400000 in
theorem digit_any (l : List UInt8) (w : World) :
    Calls Try.prog 66 #[.string ⟨l.toArray⟩] w fun e w' => e = .returned (.int .i64 (dig l)) ∧ Below w.heap.size w w' := by
  go_enter Try.func66, Try.ntmps66
  go_wp2
  go_loopw [3] (fun i wr => ∃ k : Nat, k ≤ 8 ∧ i = .int .i64 (k + 1) ∧ Below w.heap.size w wr ∧ (∀ j : Nat, j < k → (l == [48 + (UInt8.ofNat j + 1)]) = false)) (fun i _ => 10 - (intOf i).toNat)
  case atStart => exact ⟨0, by omega, rfl, Below.refl _ _, fun j h => absurd h (by omega)⟩
  case round =>
    obtain ⟨k, hk, rfl, hb, hno⟩ := hrel
    have HN : Hid (∀ j : Nat, j < k → (l == [48 + (UInt8.ofNat j + 1)]) = false) := hno
    clear hno
    by_cases hlt : k < 8
    · have hcv := conv_byte (48 + ((k : Int) + 1)) (by omega) (by omega) wr
      go_wp2
      · go_ret
        exact ⟨ret_int (dig_hit k hlt l ‹_›).symm, hb.alloc hb.size _⟩
      · go_roundw
        case rel =>
          refine ⟨k + 1, by omega, by go_num, hb.alloc hb.size _, fun j hj => ?_⟩
          rcases Nat.lt_or_ge j k with h | h
          · exact HN.out j h
          · have : j = k := by omega
            subst this; assumption
        case measure => simp [intOf]; omega
    · go_wp2
      go_ret
      have : k = 8 := by omega
      subst this
      exact ⟨ret_int (dig_miss l HN.out).symm, hb⟩
end Go.Proofs.Ytbpolmdokdhkhaa
