import Derived.Test.YtbpolmdokdhkhaaLaw1
import Derived.Deep.QuietTactic
import Derived.BigQuiet
namespace Go.Proofs.Ytbpolmdokdhkhaa
open Go.RowKit

/-- Numbers lie at an address. -/
def IntsAt (w : World) (v : Value) (l : List Nat) : Prop := ∃ ao cap, v = .slice ao l.length cap ∧ ∀ i (hi : i < l.length), ∃ g off, ao = some ⟨g, off, none⟩ ∧ w.cell? ⟨g, off + i, none⟩ = some (.int .i64 (l[i] : Int))
/-- Where block k begins. -/
def fromOf (F : Form) (k : Nat) : Nat := if 0 < k then F.ends.getD (k - 1) 0 else 0
def blockOf (F : Form) (k : Nat) : List Nat := (F.order.drop (fromOf F k)).take (F.ends.getD k 0 - fromOf F k)

def BlockPost (F : Form) (k : Nat) (w : World) (e : Ending) (w' : World) : Prop := ∃ v, e = .returned v ∧ IntsAt w' v (blockOf F k) ∧ Below w.heap.size w w'
theorem ints_piece {w w' : World} {gO lo1 hi1 cap : Nat} {l : List Nat} (hc : ∀ j u, (ints l)[j]? = some u → w.cell? ⟨gO, j, none⟩ = some u) (hw : ∀ j, w'.cell? ⟨gO, j, none⟩ = w.cell? ⟨gO, j, none⟩) (h1 : lo1 ≤ hi1) (h2 : hi1 ≤ l.length) :
    IntsAt w' (.slice (some ⟨gO, lo1, none⟩) (hi1 - lo1) cap) ((l.drop lo1).take (hi1 - lo1)) := by
  have hl : ((l.drop lo1).take (hi1 - lo1)).length = hi1 - lo1 := by simp; omega
  refine ⟨_, _, by rw [hl], fun i hi => ⟨gO, lo1, rfl, ?_⟩⟩
  rw [hw]
  refine hc _ _ ?_
  rw [hl] at hi
  simp [ints, show lo1 + i < l.length by omega]
theorem ints_empty (w : World) (ao : Option Addr) (cap : Nat) : IntsAt w (.slice ao 0 cap) [] := ⟨ao, cap, rfl, fun i hi => by simp at hi⟩

set_option maxRecDepth 100000 in
set_option maxHeartbeats 1600000 in
theorem block_any (lo b k : Nat) (F : Form) (w : World) (hF : RefAt lo w b F) (hk : k < F.ends.length) (hle : fromOf F k ≤ F.ends.getD k 0) (hel : F.ends.getD k 0 ≤ F.order.length) (_hol : F.order.length ≤ 1073741824) (hpos : 0 < F.order.length) (hen : F.ends.length ≤ 1073741824) :
    Calls Try.prog 36 #[.pointer (some ⟨b, 0, none⟩), .int .i64 k] w fun e w' => BlockPost F k w e w' := by
  obtain ⟨_, vO, vE, vC, hfb, hO, hE, _⟩ := hF
  obtain ⟨gO, cO, rfl, _, _, hcO, hcellO⟩ := own_pos hO hpos
  obtain ⟨gE, cE, rfl, _, _, hcE, hcellE⟩ := own_pos hE (by omega)
  have k0 : w.cell? ⟨b, 0, none⟩ = some (.slice (some ⟨gO, 0, none⟩) F.order.length cO) := by rw [blk_cell hfb]; rfl
  have k2 : w.cell? ⟨b, 2, none⟩ = some (.slice (some ⟨gE, 0, none⟩) F.ends.length cE) := by rw [blk_cell hfb]; rfl
  have ek : w.cell? ⟨gE, k, none⟩ = some (.int .i64 (F.ends.getD k 0 : Nat)) := hcellE k _ (by simp [ints, List.getD, hk])
  have HCO := hide hcellO
  have hkb : k ≤ 1073741824 := by omega
  by_cases h0 : 0 < k
  · have ek1 : w.cell? ⟨gE, k - 1, none⟩ = some (.int .i64 (F.ends.getD (k - 1) 0 : Nat)) := hcellE (k - 1) _ (by simp [ints, List.getD, show k - 1 < F.ends.length by omega])
    have HFR : Hid (fromOf F k = F.ends.getD (k - 1) 0) := hide (by unfold fromOf; rw [if_pos h0])
    have HBL : Hid (blockOf F k = (F.order.drop (F.ends.getD (k - 1) 0)).take (F.ends.getD k 0 - F.ends.getD (k - 1) 0)) := hide (by unfold blockOf; rw [unhide HFR])
    rw [unhide HFR] at hle
    have hd0 : decide (0 < k) = true := by simpa using h0
    clear hcellE hcellO
    generalize F.ends.getD (k - 1) 0 = lo1 at *
    generalize F.ends.getD k 0 = hi1 at *
    go_enter Try.func36, Try.ntmps36
    go_wp2_with fail
    go_quiet (fail)
    go_wp2_with fail
    · next hce =>
      have hz : hi1 - lo1 = 0 := by omega
      have HZ := hide hz
      clear hz
      go_ret
      refine ⟨_, rfl, ?_, below_drewN (Below.refl _ _) nq⟩
      rw [unhide HBL, unhide HZ]
      show IntsAt _ (.slice (some ⟨gO, 0, none⟩) 0 0) _
      simpa using ints_empty _ _ _
    · go_ret
      refine ⟨_, rfl, ?_, below_drewN (Below.refl _ _) nq⟩
      rw [unhide HBL]
      exact ints_piece (unhide HCO) (fun j => rfl) hle hel
  · have HFR : Hid (fromOf F k = 0) := hide (by unfold fromOf; rw [if_neg h0])
    have HBL : Hid (blockOf F k = (F.order.drop 0).take (F.ends.getD k 0 - 0)) := hide (by unfold blockOf; rw [unhide HFR])
    have hd0 : decide (0 < k) = false := by simpa using h0
    clear hcellE hcellO hle
    generalize F.ends.getD k 0 = hi1 at *
    go_enter Try.func36, Try.ntmps36
    go_wp2_with fail
    go_quiet (fail)
    go_wp2_with fail
    go_ret
    refine ⟨_, rfl, ?_, below_drewN (Below.refl _ _) nq⟩
    rw [unhide HBL]
    exact ints_piece (lo1 := 0) (unhide HCO) (fun j => rfl) (Nat.zero_le _) hel
end Go.Proofs.Ytbpolmdokdhkhaa
