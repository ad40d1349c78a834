import Derived.Test.YtgipjjhkhfihpabGreatDoorAY
import Derived.Lib.LaidTab
namespace Go.Proofs.YtgipjjhkhfihpabGreatDoor
open Go.RowKit

/-! ### The table, out of the row's condition -/
theorem tabG2 : Tryz.prog.globalNamed "internal/strconv.uint64pow10" = some ((Tryz.prog.globalNamed "internal/strconv.uint64pow10").getD 0) := by kernel_rfl
theorem tabT2 : (Tryz.prog.globals[(Tryz.prog.globalNamed "internal/strconv.uint64pow10").getD 0]?).map (·.type) = some 173 := by kernel_rfl
theorem tab_of_third2 {d1 d2 : DataW Unit} {W : World} (h : laidMet Tryz.prog [("math/bits.deBruijn32tab", d1), ("math/bits.deBruijn64tab", d2), ("internal/strconv.uint64pow10", Lib.tabData .u64 Lib.pow10Tab)] W) : TabAt W := by
  obtain ⟨ps, hv, _⟩ := h
  obtain ⟨_, _, _, _, _, _, _, _, _, _, hv2, _⟩ := hv
  obtain ⟨_, _, _, _, _, _, _, _, _, _, hv3, _⟩ := hv2
  obtain ⟨g', t', cs, fuel, p, q, hg', ht', hvar, hd, _, _⟩ := hv3
  obtain rfl := Option.some.inj (tabG2.symm.trans hg')
  obtain rfl := Option.some.inj (tabT2.symm.trans ht')
  unfold TabAt Lib.TabIs
  rw [hvar, ← Lib.cells_of_tab (show Tryz.prog.underlying 173 = some (.array 20 166) by kernel_rfl) (show Tryz.prog.underlying 166 = some (.int .u64) by kernel_rfl) (by kernel_rfl) (by kernel_rfl) hd]
end Go.Proofs.YtgipjjhkhfihpabGreatDoor
