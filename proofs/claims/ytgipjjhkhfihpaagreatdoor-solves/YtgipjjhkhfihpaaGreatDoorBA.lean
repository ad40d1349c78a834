import Derived.Test.YtgipjjhkhfihpaaGreatDoorAZ
import Derived.Test.YtgipjjhkhfihpaaGreatDoorAU
import Derived.Test.YtgipjjhkhfihpaaGreatDoorAG
import Derived.Lib.AppendStr
import Derived.Test.YtgipjjhkhfihpaaGreatDoorAJ
import Derived.Test.YtgipjjhkhfihpaaGreatDoorAM
namespace Go.Proofs.YtgipjjhkhfihpaaGreatDoor
open Go.RowKit

/-! ### line -/
/-- Numbers that a step's text wants. -/
structure StpBd (s : Stp) : Prop where
  first : s.first ≤ 1048576
  second : s.rule = 3 → s.second ≤ 1048576
  var : s.rule = 3 → s.var ≤ 1048576
  lits : s.lits.1 < 512 ∧ s.lits.2 < 512
theorem joinW_lits (l : List Int) : ∀ x : List UInt8, joinW (x :: l.map Lib.itoa) = x ++ litsLine l := by
  induction l with
  | nil => intro x; simp [joinW, litsLine]
  | cons a l ih =>
    intro x
    rw [List.map_cons]
    show x ++ 32 :: joinW (Lib.itoa a :: l.map Lib.itoa) = _
    rw [ih]; simp [litsLine]
theorem itoa_nat (n : Nat) : Lib.itoa (n : Int) = Lib.decDigits n := itoa_pos n
theorem line_one (c : UInt8) (s : Stp) (h : wordsP s = [[c], Lib.decDigits s.first]) : lineP s ++ [10] = [c, 32] ++ Lib.itoa (s.first : Int) ++ [10] := by
  unfold lineP; rw [h, itoa_nat]; simp [joinW]
theorem line_res (s : Stp) (h : s.rule = 3) : lineP s ++ [10] = resLine s := by
  unfold lineP wordsP resLine
  rw [if_neg (by omega), if_neg (by omega), if_pos h, itoa_nat, itoa_nat, itoa_nat]; simp [joinW]
theorem line_cube (s : Stp) (h : s.rule = 2) : lineP s ++ [10] = cubeLn s := by
  unfold lineP wordsP cubeLn
  rw [if_neg (by omega), if_pos h, joinW_lits]
theorem one_bytes (c : UInt8) (a : List UInt8) : ByteArray.mk #[c, 32] ++ ByteArray.mk a.toArray ++ ByteArray.mk #[10] = ByteArray.mk ([c, 32] ++ a ++ [10]).toArray := by
  rw [show (ByteArray.mk #[c, 32]) = ByteArray.mk ([c, 32] : List UInt8).toArray from rfl, show (ByteArray.mk #[10]) = ByteArray.mk ([10] : List UInt8).toArray from rfl]
  simp only [ba_append]
set_option maxRecDepth 100000 in
set_option maxHeartbeats 3200000 in
theorem line_any (s : Stp) (w : World) (ht : TabAt w) (hs : StpBd s) :
    Calls Tryz.prog 64 #[StpV s] w fun e w' => e = .returned (.string ⟨(lineP s ++ [10]).toArray⟩) ∧ Below w.heap.size w w' := by
  obtain ⟨h1, h2, h3, h4⟩ := hs
  have HC := hide (cubeLine_any s)
  have HRL := hide (resolventLine_any s)
  have HL2 := hide (line_cube s)
  have HL3 := hide (line_res s)
  have HO := hide (fun c h => line_one c s h)
  have HWP : Hid (wordsP s = if s.rule = 1 then [[97], Lib.decDigits s.first] else if s.rule = 2 then [99] :: (listOf s.lits).map Lib.itoa else if s.rule = 3 then [[114], Lib.decDigits s.first, Lib.decDigits s.second, Lib.decDigits s.var] else [[100], Lib.decDigits s.first]) := hide rfl
  obtain ⟨sr, sf, ss, sv, l1, l2⟩ := s
  dsimp only at h1 h2 h3 h4 HC HRL HL2 HL3 HO HWP ⊢
  rcases (show sr = 1 ∨ sr = 2 ∨ sr = 3 ∨ (sr ≠ 1 ∧ sr ≠ 2 ∧ sr ≠ 3) by omega) with hr | hr | hr | hr
  · have HF : Hid (lineP ⟨sr, sf, ss, sv, (l1, l2)⟩ ++ [10] = [97, 32] ++ Lib.itoa (sf : Int) ++ [10]) := hide (unhide HO 97 (by rw [unhide HWP, if_pos hr]))
    have hd1 : ((sr : Int) == 1) = true := by rw [beq_iff_eq]; omega
    have hn1 : (sr == 1) = true := by rw [beq_iff_eq]; exact hr
    have hd2 : ((sr : Int) == 2) = false := by rw [beq_eq_false_iff_ne]; omega
    have hn2 : (sr == 2) = false := by rw [beq_eq_false_iff_ne]; omega
    have hd3 : ((sr : Int) == 3) = false := by rw [beq_eq_false_iff_ne]; omega
    have hn3 : (sr == 3) = false := by rw [beq_eq_false_iff_ne]; omega
    clear hr HL2 HL3 HO HWP h2 h3
    go_enter Tryz.func64, Tryz.ntmps64
    go_wp2_with fail
    generalize hw0 : (w.alloc (.cells #[.int .i64 (sr : Int), .int .i64 (sf : Int), .int .i64 (ss : Int), .int .i64 (sv : Int), .int .i64 (l1 : Int), .int .i64 (l2 : Int)] 134)) = u1
    have hB : Below w.heap.size w u1 := by rw [← hw0]; exact (Below.refl _ _).alloc (Nat.le_refl _) _
    have hst : u1.heap[w.heap.size]? = some (.cells #[.int .i64 (sr : Int), .int .i64 (sf : Int), .int .i64 (ss : Int), .int .i64 (sv : Int), .int .i64 (l1 : Int), .int .i64 (l2 : Int)] 134 (0, 0)) := by rw [← hw0]; exact alloc_new_at (by simp)
    clear hw0
    have cst0 : u1.cell? ⟨w.heap.size, 0, none⟩ = some (.int .i64 (sr : Int)) := by rw [blk_cell hst]; rfl
    have cst1 : u1.cell? ⟨w.heap.size, 1, none⟩ = some (.int .i64 (sf : Int)) := by rw [blk_cell hst]; rfl
    have cst2 : u1.cell? ⟨w.heap.size, 2, none⟩ = some (.int .i64 (ss : Int)) := by rw [blk_cell hst]; rfl
    have cst3 : u1.cell? ⟨w.heap.size, 3, none⟩ = some (.int .i64 (sv : Int)) := by rw [blk_cell hst]; rfl
    have cst4 : u1.cell? ⟨w.heap.size, 4, none⟩ = some (.int .i64 (l1 : Int)) := by rw [blk_cell hst]; rfl
    have cst5 : u1.cell? ⟨w.heap.size, 5, none⟩ = some (.int .i64 (l2 : Int)) := by rw [blk_cell hst]; rfl
    have lst := blk_lt hst
    have ht0 := ht.later hB
    have hxl := Lib.itoa_length_le (sf : Int) (by omega) (by omega)
    refine (itoa_any (sf : Int) (by omega) (by omega) _ ht0).mono ?_
    rintro e u2 ⟨rfl, b2⟩
    replace hB := hB.trans (b2.mono hB.size)
    replace hst := (b2.block _ (blk_lt hst)).trans hst
    replace cst0 : u2.cell? ⟨w.heap.size, 0, none⟩ = some (.int .i64 (sr : Int)) := by rw [blk_cell hst]; rfl
    replace cst1 : u2.cell? ⟨w.heap.size, 1, none⟩ = some (.int .i64 (sf : Int)) := by rw [blk_cell hst]; rfl
    replace cst2 : u2.cell? ⟨w.heap.size, 2, none⟩ = some (.int .i64 (ss : Int)) := by rw [blk_cell hst]; rfl
    replace cst3 : u2.cell? ⟨w.heap.size, 3, none⟩ = some (.int .i64 (sv : Int)) := by rw [blk_cell hst]; rfl
    replace cst4 : u2.cell? ⟨w.heap.size, 4, none⟩ = some (.int .i64 (l1 : Int)) := by rw [blk_cell hst]; rfl
    replace cst5 : u2.cell? ⟨w.heap.size, 5, none⟩ = some (.int .i64 (l2 : Int)) := by rw [blk_cell hst]; rfl
    replace lst := blk_lt hst
    generalize Lib.itoa (sf : Int) = x at *
    have HE := hide (one_bytes 97 x)
    go_wp2_with fail
    go_ret
    exact ⟨by rw [unhide HE, unhide HF]; rfl, hB⟩
  · have HF : Hid (lineP ⟨sr, sf, ss, sv, (l1, l2)⟩ ++ [10] = cubeLn ⟨sr, sf, ss, sv, (l1, l2)⟩) := hide (unhide HL2 hr)
    have hd1 : ((sr : Int) == 1) = false := by rw [beq_eq_false_iff_ne]; omega
    have hn1 : (sr == 1) = false := by rw [beq_eq_false_iff_ne]; omega
    have hd2 : ((sr : Int) == 2) = true := by rw [beq_iff_eq]; omega
    have hn2 : (sr == 2) = true := by rw [beq_iff_eq]; exact hr
    have hd3 : ((sr : Int) == 3) = false := by rw [beq_eq_false_iff_ne]; omega
    have hn3 : (sr == 3) = false := by rw [beq_eq_false_iff_ne]; omega
    clear hr HL2 HL3 HO HWP h2 h3
    go_enter Tryz.func64, Tryz.ntmps64
    go_wp2_with fail
    generalize hw0 : (w.alloc (.cells #[.int .i64 (sr : Int), .int .i64 (sf : Int), .int .i64 (ss : Int), .int .i64 (sv : Int), .int .i64 (l1 : Int), .int .i64 (l2 : Int)] 134)) = u1
    have hB : Below w.heap.size w u1 := by rw [← hw0]; exact (Below.refl _ _).alloc (Nat.le_refl _) _
    have hst : u1.heap[w.heap.size]? = some (.cells #[.int .i64 (sr : Int), .int .i64 (sf : Int), .int .i64 (ss : Int), .int .i64 (sv : Int), .int .i64 (l1 : Int), .int .i64 (l2 : Int)] 134 (0, 0)) := by rw [← hw0]; exact alloc_new_at (by simp)
    clear hw0
    have cst0 : u1.cell? ⟨w.heap.size, 0, none⟩ = some (.int .i64 (sr : Int)) := by rw [blk_cell hst]; rfl
    have cst1 : u1.cell? ⟨w.heap.size, 1, none⟩ = some (.int .i64 (sf : Int)) := by rw [blk_cell hst]; rfl
    have cst2 : u1.cell? ⟨w.heap.size, 2, none⟩ = some (.int .i64 (ss : Int)) := by rw [blk_cell hst]; rfl
    have cst3 : u1.cell? ⟨w.heap.size, 3, none⟩ = some (.int .i64 (sv : Int)) := by rw [blk_cell hst]; rfl
    have cst4 : u1.cell? ⟨w.heap.size, 4, none⟩ = some (.int .i64 (l1 : Int)) := by rw [blk_cell hst]; rfl
    have cst5 : u1.cell? ⟨w.heap.size, 5, none⟩ = some (.int .i64 (l2 : Int)) := by rw [blk_cell hst]; rfl
    have lst := blk_lt hst
    have ht0 := ht.later hB
    refine (unhide HC _ ht0 h4).mono ?_
    rintro e u2 ⟨rfl, b2⟩
    replace hB := hB.trans (b2.mono hB.size)
    replace hst := (b2.block _ (blk_lt hst)).trans hst
    replace cst0 : u2.cell? ⟨w.heap.size, 0, none⟩ = some (.int .i64 (sr : Int)) := by rw [blk_cell hst]; rfl
    replace cst1 : u2.cell? ⟨w.heap.size, 1, none⟩ = some (.int .i64 (sf : Int)) := by rw [blk_cell hst]; rfl
    replace cst2 : u2.cell? ⟨w.heap.size, 2, none⟩ = some (.int .i64 (ss : Int)) := by rw [blk_cell hst]; rfl
    replace cst3 : u2.cell? ⟨w.heap.size, 3, none⟩ = some (.int .i64 (sv : Int)) := by rw [blk_cell hst]; rfl
    replace cst4 : u2.cell? ⟨w.heap.size, 4, none⟩ = some (.int .i64 (l1 : Int)) := by rw [blk_cell hst]; rfl
    replace cst5 : u2.cell? ⟨w.heap.size, 5, none⟩ = some (.int .i64 (l2 : Int)) := by rw [blk_cell hst]; rfl
    replace lst := blk_lt hst
    go_wp2_with fail
    go_ret
    exact ⟨by rw [unhide HF]; rfl, hB⟩
  · have HF : Hid (lineP ⟨sr, sf, ss, sv, (l1, l2)⟩ ++ [10] = resLine ⟨sr, sf, ss, sv, (l1, l2)⟩) := hide (unhide HL3 hr)
    replace h2 := h2 hr
    replace h3 := h3 hr
    have hd1 : ((sr : Int) == 1) = false := by rw [beq_eq_false_iff_ne]; omega
    have hn1 : (sr == 1) = false := by rw [beq_eq_false_iff_ne]; omega
    have hd2 : ((sr : Int) == 2) = false := by rw [beq_eq_false_iff_ne]; omega
    have hn2 : (sr == 2) = false := by rw [beq_eq_false_iff_ne]; omega
    have hd3 : ((sr : Int) == 3) = true := by rw [beq_iff_eq]; omega
    have hn3 : (sr == 3) = true := by rw [beq_iff_eq]; exact hr
    clear hr HL2 HL3 HO HWP
    go_enter Tryz.func64, Tryz.ntmps64
    go_wp2_with fail
    generalize hw0 : (w.alloc (.cells #[.int .i64 (sr : Int), .int .i64 (sf : Int), .int .i64 (ss : Int), .int .i64 (sv : Int), .int .i64 (l1 : Int), .int .i64 (l2 : Int)] 134)) = u1
    have hB : Below w.heap.size w u1 := by rw [← hw0]; exact (Below.refl _ _).alloc (Nat.le_refl _) _
    have hst : u1.heap[w.heap.size]? = some (.cells #[.int .i64 (sr : Int), .int .i64 (sf : Int), .int .i64 (ss : Int), .int .i64 (sv : Int), .int .i64 (l1 : Int), .int .i64 (l2 : Int)] 134 (0, 0)) := by rw [← hw0]; exact alloc_new_at (by simp)
    clear hw0
    have cst0 : u1.cell? ⟨w.heap.size, 0, none⟩ = some (.int .i64 (sr : Int)) := by rw [blk_cell hst]; rfl
    have cst1 : u1.cell? ⟨w.heap.size, 1, none⟩ = some (.int .i64 (sf : Int)) := by rw [blk_cell hst]; rfl
    have cst2 : u1.cell? ⟨w.heap.size, 2, none⟩ = some (.int .i64 (ss : Int)) := by rw [blk_cell hst]; rfl
    have cst3 : u1.cell? ⟨w.heap.size, 3, none⟩ = some (.int .i64 (sv : Int)) := by rw [blk_cell hst]; rfl
    have cst4 : u1.cell? ⟨w.heap.size, 4, none⟩ = some (.int .i64 (l1 : Int)) := by rw [blk_cell hst]; rfl
    have cst5 : u1.cell? ⟨w.heap.size, 5, none⟩ = some (.int .i64 (l2 : Int)) := by rw [blk_cell hst]; rfl
    have lst := blk_lt hst
    have ht0 := ht.later hB
    refine (unhide HRL _ ht0 h1 h2 h3).mono ?_
    rintro e u2 ⟨rfl, b2⟩
    replace hB := hB.trans (b2.mono hB.size)
    replace hst := (b2.block _ (blk_lt hst)).trans hst
    replace cst0 : u2.cell? ⟨w.heap.size, 0, none⟩ = some (.int .i64 (sr : Int)) := by rw [blk_cell hst]; rfl
    replace cst1 : u2.cell? ⟨w.heap.size, 1, none⟩ = some (.int .i64 (sf : Int)) := by rw [blk_cell hst]; rfl
    replace cst2 : u2.cell? ⟨w.heap.size, 2, none⟩ = some (.int .i64 (ss : Int)) := by rw [blk_cell hst]; rfl
    replace cst3 : u2.cell? ⟨w.heap.size, 3, none⟩ = some (.int .i64 (sv : Int)) := by rw [blk_cell hst]; rfl
    replace cst4 : u2.cell? ⟨w.heap.size, 4, none⟩ = some (.int .i64 (l1 : Int)) := by rw [blk_cell hst]; rfl
    replace cst5 : u2.cell? ⟨w.heap.size, 5, none⟩ = some (.int .i64 (l2 : Int)) := by rw [blk_cell hst]; rfl
    replace lst := blk_lt hst
    go_wp2_with fail
    go_ret
    exact ⟨by rw [unhide HF]; rfl, hB⟩
  · have HF : Hid (lineP ⟨sr, sf, ss, sv, (l1, l2)⟩ ++ [10] = [100, 32] ++ Lib.itoa (sf : Int) ++ [10]) := hide (unhide HO 100 (by rw [unhide HWP, if_neg hr.1, if_neg hr.2.1, if_neg hr.2.2]))
    have hd1 : ((sr : Int) == 1) = false := by rw [beq_eq_false_iff_ne]; omega
    have hn1 : (sr == 1) = false := by rw [beq_eq_false_iff_ne]; omega
    have hd2 : ((sr : Int) == 2) = false := by rw [beq_eq_false_iff_ne]; omega
    have hn2 : (sr == 2) = false := by rw [beq_eq_false_iff_ne]; omega
    have hd3 : ((sr : Int) == 3) = false := by rw [beq_eq_false_iff_ne]; omega
    have hn3 : (sr == 3) = false := by rw [beq_eq_false_iff_ne]; omega
    clear hr HL2 HL3 HO HWP h2 h3
    go_enter Tryz.func64, Tryz.ntmps64
    go_wp2_with fail
    generalize hw0 : (w.alloc (.cells #[.int .i64 (sr : Int), .int .i64 (sf : Int), .int .i64 (ss : Int), .int .i64 (sv : Int), .int .i64 (l1 : Int), .int .i64 (l2 : Int)] 134)) = u1
    have hB : Below w.heap.size w u1 := by rw [← hw0]; exact (Below.refl _ _).alloc (Nat.le_refl _) _
    have hst : u1.heap[w.heap.size]? = some (.cells #[.int .i64 (sr : Int), .int .i64 (sf : Int), .int .i64 (ss : Int), .int .i64 (sv : Int), .int .i64 (l1 : Int), .int .i64 (l2 : Int)] 134 (0, 0)) := by rw [← hw0]; exact alloc_new_at (by simp)
    clear hw0
    have cst0 : u1.cell? ⟨w.heap.size, 0, none⟩ = some (.int .i64 (sr : Int)) := by rw [blk_cell hst]; rfl
    have cst1 : u1.cell? ⟨w.heap.size, 1, none⟩ = some (.int .i64 (sf : Int)) := by rw [blk_cell hst]; rfl
    have cst2 : u1.cell? ⟨w.heap.size, 2, none⟩ = some (.int .i64 (ss : Int)) := by rw [blk_cell hst]; rfl
    have cst3 : u1.cell? ⟨w.heap.size, 3, none⟩ = some (.int .i64 (sv : Int)) := by rw [blk_cell hst]; rfl
    have cst4 : u1.cell? ⟨w.heap.size, 4, none⟩ = some (.int .i64 (l1 : Int)) := by rw [blk_cell hst]; rfl
    have cst5 : u1.cell? ⟨w.heap.size, 5, none⟩ = some (.int .i64 (l2 : Int)) := by rw [blk_cell hst]; rfl
    have lst := blk_lt hst
    have ht0 := ht.later hB
    have hxl := Lib.itoa_length_le (sf : Int) (by omega) (by omega)
    refine (itoa_any (sf : Int) (by omega) (by omega) _ ht0).mono ?_
    rintro e u2 ⟨rfl, b2⟩
    replace hB := hB.trans (b2.mono hB.size)
    replace hst := (b2.block _ (blk_lt hst)).trans hst
    replace cst0 : u2.cell? ⟨w.heap.size, 0, none⟩ = some (.int .i64 (sr : Int)) := by rw [blk_cell hst]; rfl
    replace cst1 : u2.cell? ⟨w.heap.size, 1, none⟩ = some (.int .i64 (sf : Int)) := by rw [blk_cell hst]; rfl
    replace cst2 : u2.cell? ⟨w.heap.size, 2, none⟩ = some (.int .i64 (ss : Int)) := by rw [blk_cell hst]; rfl
    replace cst3 : u2.cell? ⟨w.heap.size, 3, none⟩ = some (.int .i64 (sv : Int)) := by rw [blk_cell hst]; rfl
    replace cst4 : u2.cell? ⟨w.heap.size, 4, none⟩ = some (.int .i64 (l1 : Int)) := by rw [blk_cell hst]; rfl
    replace cst5 : u2.cell? ⟨w.heap.size, 5, none⟩ = some (.int .i64 (l2 : Int)) := by rw [blk_cell hst]; rfl
    replace lst := blk_lt hst
    generalize Lib.itoa (sf : Int) = x at *
    have HE := hide (one_bytes 100 x)
    go_wp2_with fail
    go_ret
    exact ⟨by rw [unhide HE, unhide HF]; rfl, hB⟩
end Go.Proofs.YtgipjjhkhfihpaaGreatDoor

namespace Go.Proofs.YtgipjjhkhfihpaaGreatDoor
open Go.RowKit

/-! ### Text -/
def byteVals (l : List UInt8) : List Value := l.map fun b => Value.int .u8 b.toNat
theorem strCells_list (l : List UInt8) : Lib.strCells ⟨l.toArray⟩ = byteVals l := by simp [Lib.strCells, byteVals]
theorem byteVals_append (a b : List UInt8) : byteVals (a ++ b) = byteVals a ++ byteVals b := by simp [byteVals]
def firstP (truth : Bool) : List UInt8 := headP truth ++ [10]
def textTo (truth : Bool) (p : List Stp) : List UInt8 := firstP truth ++ p.flatMap (fun s => lineP s ++ [10])
theorem textTo_eq (truth : Bool) (p : List Stp) : textTo truth p = textP truth p := by
  unfold textTo textP joinN firstP
  simp [List.flatMap_map]
theorem textTo_snoc (truth : Bool) (p : List Stp) (s : Stp) : textTo truth (p ++ [s]) = textTo truth p ++ (lineP s ++ [10]) := by simp [textTo]
set_option maxRecDepth 100000 in
set_option maxHeartbeats 3200000 in
theorem text_any (b o : Nat) (cells : Array Value) (t : TypeId) (p : List Stp) (vS : Value) (kind : Nat) (w : World) (hP : PAt w b o cells t p vS kind) (hk : kind = 1 ∨ kind = 2) (ht : TabAt w) (hbd : ∀ s ∈ p, StpBd s) (hlen : ∀ s ∈ p, (lineP s).length ≤ 400) (hl : p.length ≤ 100000) :
    Calls Tryz.prog 42 #[.pointer (some ⟨b, o, none⟩)] w fun e w' => e = .returned (.string ⟨(textP (kind == 2) p).toArray⟩) ∧ Below w.heap.size w w' := by
  obtain ⟨aS, cS, rfl⟩ := own_form hP.own
  have hbw := blk_lt hP.fb
  have ck1 : w.cell? ⟨b, o, none⟩ = some (.int .i64 (kind : Int)) := by rw [blk_cell hP.fb]; exact hP.ck
  have cs1 : w.cell? ⟨b, o + 1, none⟩ = some (.slice aS p.length cS) := by rw [blk_cell hP.fb]; exact hP.cs
  obtain ⟨i1, hi1, hz10, hz11, hz12⟩ := info_parts (show (Tryz.prog.info? 5).map (fun i => (i.zero, i.size, i.bytes)) = some (some (.int .u8 0), 1, 1) by kernel_rfl)
  rcases hk with hk | hk
  · skip
    have hd1 : ((kind : Int) == 2) = false := by rw [beq_eq_false_iff_ne]; omega
    have hd2 : (kind == 2) = false := by rw [beq_eq_false_iff_ne]; omega
    clear hk
    have HTT : Hid (textP false p = textTo false p) := hide (by rw [textTo_eq])
    go_enter Tryz.func42, Tryz.ntmps42
    go_wp2_with (at_builtin; refine Lib.wpList_append_own_string _ rfl _ _ 114 9 rfl w.heap.size 5 i1 Tryz.underlying114 Tryz.underlying9 hi1 hz10 hz11 hz12 _ 0 [] rfl (World.ownsRow_nil _ _ _ _) _ rfl (by decide) (by decide) (Nat.le_refl _) ?_; intro v1 w1 hown1 hgrow1 hnn1; have hown2 : w1.ownsRow w.heap.size 5 1 v1 (firstP false).length (byteVals (firstP false)) := hown1; have hB1 : Below w.heap.size w w1 := below_grown (Below.refl _ _) hgrow1 (World.ownsRow_nil w w.heap.size 5 1) (Nat.le_refl _) (Nat.le_refl _); obtain ⟨a1, c1, rfl⟩ := own_form hown2; have cs2 : w1.cell? ⟨b, o + 1, none⟩ = some (.slice aS p.length cS) := (by rw [hB1.cell (p := ⟨b, o + 1, none⟩) hbw]; exact cs1); have lb1 : b < w1.heap.size := Nat.lt_of_lt_of_le hbw hB1.size; clear hown1 hgrow1 hnn1)
    go_loopg [4, 21] (p.length) (fun m tv i wx => ∃ (k : Nat) (acc : List UInt8), i = .int .i64 k ∧ k + m = p.length ∧ acc = textTo false (p.take k) ∧ acc.length ≤ 12 + 401 * k ∧ wx.ownsRow w.heap.size 5 1 tv acc.length (byteVals acc) ∧ Below w.heap.size w wx)
    case atStart => exact ⟨0, firstP false, rfl, by omega, by simp [textTo], by decide, hown2, hB1⟩
    case round =>
      clear cs2 lb1 hown2 hB1
      obtain ⟨k, acc, rfl, hkm, hac, hal, hown, hB⟩ := hrel
      have HAC := hide hac
      clear hac
      obtain ⟨aV, cV, rfl⟩ := own_form hown
      have hPr := hP.later hB
      have hbs := hB.size
      by_cases hlt : k < p.length
      · have hd3 : decide ((k : Int) < (p.length : Int)) = true := decide_eq_true (by omega)
        have hd4 : decide (k < p.length) = true := decide_eq_true hlt
        obtain ⟨g2, cap, hVe, _, hg2', _, hcell⟩ := own_pos hPr.own (by omega)
        injection hVe with hVe _ hV2
        subst hVe hV2
        have e0 : wr.cell? ⟨g2, k * 6, none⟩ = some (.int .i64 (p[k].rule : Int)) := hcell _ _ (psCells_at p k 0 hlt (by omega))
        have e1 : wr.cell? ⟨g2, k * 6 + 1, none⟩ = some (.int .i64 (p[k].first : Int)) := hcell _ _ (psCells_at p k 1 hlt (by omega))
        have e2 : wr.cell? ⟨g2, k * 6 + 2, none⟩ = some (.int .i64 (p[k].second : Int)) := hcell _ _ (psCells_at p k 2 hlt (by omega))
        have e3 : wr.cell? ⟨g2, k * 6 + 3, none⟩ = some (.int .i64 (p[k].var : Int)) := hcell _ _ (psCells_at p k 3 hlt (by omega))
        have e4 : wr.cell? ⟨g2, k * 6 + 4, none⟩ = some (.int .i64 (p[k].lits.1 : Int)) := hcell _ _ (psCells_at p k 4 hlt (by omega))
        have e5 : wr.cell? ⟨g2, k * 6 + 5, none⟩ = some (.int .i64 (p[k].lits.2 : Int)) := hcell _ _ (psCells_at p k 5 hlt (by omega))
        have hsb := hbd _ (List.getElem_mem hlt)
        have hsl := hlen _ (List.getElem_mem hlt)
        have HTK : Hid (textTo false (p.take (k + 1)) = textTo false (p.take k) ++ (lineP p[k] ++ [10])) := hide (by rw [List.take_succ_eq_append_getElem hlt, textTo_snoc])
        clear hcell
        generalize p[k] = st at *
        obtain ⟨sr, sf, ss, sv, l1, l2⟩ := st
        dsimp only at e0 e1 e2 e3 e4 e5
        go_wp2_with fail
        have hA : Below wr.heap.size wr (wr.alloc (.cells #[.int .i64 (sr : Int), .int .i64 (sf : Int), .int .i64 (ss : Int), .int .i64 (sv : Int), .int .i64 (l1 : Int), .int .i64 (l2 : Int)] 134)) := (Below.refl _ _).alloc (Nat.le_refl _) _
        have hBA := hB.trans (hA.mono hB.size)
        refine (line_any ⟨sr, sf, ss, sv, (l1, l2)⟩ _ (ht.later hBA) hsb).mono ?_
        rintro e u5 ⟨rfl, b5⟩
        have hB5 := hBA.trans (b5.mono hBA.size)
        have hA5 : Below wr.heap.size wr u5 := hA.trans (b5.mono hA.size)
        have hown5 := own_below hown hA5
        have hbs5 := hB5.size
        clear hBA hA b5 e0 e1 e2 e3 e4 e5
        have hsl2 : (lineP ⟨sr, sf, ss, sv, (l1, l2)⟩ ++ [10]).length ≤ 401 := by rw [List.length_append]; exact Nat.add_le_add_right hsl 1
        generalize lineP ⟨sr, sf, ss, sv, (l1, l2)⟩ ++ [10] = ln at *
        have hszl : (ByteArray.mk ln.toArray).size = ln.length := by simp [ByteArray.size]
        have HBV : Hid (byteVals acc ++ Lib.strCells ⟨ln.toArray⟩ = byteVals (acc ++ ln)) := hide (by rw [strCells_list, byteVals_append])
        go_wp2_with (at_builtin; refine Lib.wpList_append_own_string _ rfl _ _ 114 9 rfl w.heap.size 5 i1 Tryz.underlying114 Tryz.underlying9 hi1 hz10 hz11 hz12 _ acc.length (byteVals acc) rfl hown5 ⟨ln.toArray⟩ rfl (by unfold maxLen; rw [hszl]; omega) (by rw [hszl]; omega) hbs5 ?_; intro v6 w6 hown6 hgrow6 hnn6)
        have hB6 : Below w.heap.size w w6 := below_grown hB5 hgrow6 hown5 (Nat.le_refl _) hbs5
        rw [hszl, unhide HBV] at hown6
        obtain ⟨a6, c6, rfl⟩ := own_form hown6
        go_wp2_with fail
        go_roundg (gk - 1)
        case measure => omega
        case rel => exact ⟨k + 1, acc ++ ln, by go_num, by omega, by rw [unhide HTK, unhide HAC], by rw [List.length_append]; omega, by rw [List.length_append]; exact hown6, hB6⟩
      · have hd3 : decide ((k : Int) < (p.length : Int)) = false := decide_eq_false (by omega)
        have hd4 : decide (k < p.length) = false := decide_eq_false hlt
        have HF : Hid (acc = textTo false p) := hide (by rw [unhide HAC, List.take_of_length_le (by omega)])
        have hpos : 0 < acc.length := by rw [unhide HF]; unfold textTo; rw [List.length_append]; exact Nat.lt_of_lt_of_le (show 0 < (firstP false).length by decide) (Nat.le_add_right _ _)
        obtain ⟨g3, cap3, hVe, _, hg3', _, hcell⟩ := own_pos hown hpos
        injection hVe with hVe _ hV2
        subst hVe hV2
        have hcv := run_convert_bytes_back (P := Tryz.prog) wr 114 9 5 ⟨g3, 0, none⟩ cV acc Tryz.underlying114 Tryz.underlying5 Tryz.underlying9 (fun j hj => by
          rw [show (⟨g3, 0, none⟩ : Addr).add j = ⟨g3, j, none⟩ from by unfold Addr.add; split <;> simp_all]
          exact hcell j _ (by simp [byteVals, hj]))
        clear hcell
        go_wp2_with fail
        go_ret
        exact ⟨by rw [unhide HTT, ← unhide HF]; rfl, hB⟩
  · skip
    have hd1 : ((kind : Int) == 2) = true := by rw [beq_iff_eq]; omega
    have hd2 : (kind == 2) = true := by rw [beq_iff_eq]; omega
    clear hk
    have HTT : Hid (textP true p = textTo true p) := hide (by rw [textTo_eq])
    go_enter Tryz.func42, Tryz.ntmps42
    go_wp2_with (at_builtin; refine Lib.wpList_append_own_string _ rfl _ _ 114 9 rfl w.heap.size 5 i1 Tryz.underlying114 Tryz.underlying9 hi1 hz10 hz11 hz12 _ 0 [] rfl (World.ownsRow_nil _ _ _ _) _ rfl (by decide) (by decide) (Nat.le_refl _) ?_; intro v1 w1 hown1 hgrow1 hnn1; have hown2 : w1.ownsRow w.heap.size 5 1 v1 (firstP true).length (byteVals (firstP true)) := hown1; have hB1 : Below w.heap.size w w1 := below_grown (Below.refl _ _) hgrow1 (World.ownsRow_nil w w.heap.size 5 1) (Nat.le_refl _) (Nat.le_refl _); obtain ⟨a1, c1, rfl⟩ := own_form hown2; have cs2 : w1.cell? ⟨b, o + 1, none⟩ = some (.slice aS p.length cS) := (by rw [hB1.cell (p := ⟨b, o + 1, none⟩) hbw]; exact cs1); have lb1 : b < w1.heap.size := Nat.lt_of_lt_of_le hbw hB1.size; clear hown1 hgrow1 hnn1)
    go_loopg [4, 21] (p.length) (fun m tv i wx => ∃ (k : Nat) (acc : List UInt8), i = .int .i64 k ∧ k + m = p.length ∧ acc = textTo true (p.take k) ∧ acc.length ≤ 12 + 401 * k ∧ wx.ownsRow w.heap.size 5 1 tv acc.length (byteVals acc) ∧ Below w.heap.size w wx)
    case atStart => exact ⟨0, firstP true, rfl, by omega, by simp [textTo], by decide, hown2, hB1⟩
    case round =>
      clear cs2 lb1 hown2 hB1
      obtain ⟨k, acc, rfl, hkm, hac, hal, hown, hB⟩ := hrel
      have HAC := hide hac
      clear hac
      obtain ⟨aV, cV, rfl⟩ := own_form hown
      have hPr := hP.later hB
      have hbs := hB.size
      by_cases hlt : k < p.length
      · have hd3 : decide ((k : Int) < (p.length : Int)) = true := decide_eq_true (by omega)
        have hd4 : decide (k < p.length) = true := decide_eq_true hlt
        obtain ⟨g2, cap, hVe, _, hg2', _, hcell⟩ := own_pos hPr.own (by omega)
        injection hVe with hVe _ hV2
        subst hVe hV2
        have e0 : wr.cell? ⟨g2, k * 6, none⟩ = some (.int .i64 (p[k].rule : Int)) := hcell _ _ (psCells_at p k 0 hlt (by omega))
        have e1 : wr.cell? ⟨g2, k * 6 + 1, none⟩ = some (.int .i64 (p[k].first : Int)) := hcell _ _ (psCells_at p k 1 hlt (by omega))
        have e2 : wr.cell? ⟨g2, k * 6 + 2, none⟩ = some (.int .i64 (p[k].second : Int)) := hcell _ _ (psCells_at p k 2 hlt (by omega))
        have e3 : wr.cell? ⟨g2, k * 6 + 3, none⟩ = some (.int .i64 (p[k].var : Int)) := hcell _ _ (psCells_at p k 3 hlt (by omega))
        have e4 : wr.cell? ⟨g2, k * 6 + 4, none⟩ = some (.int .i64 (p[k].lits.1 : Int)) := hcell _ _ (psCells_at p k 4 hlt (by omega))
        have e5 : wr.cell? ⟨g2, k * 6 + 5, none⟩ = some (.int .i64 (p[k].lits.2 : Int)) := hcell _ _ (psCells_at p k 5 hlt (by omega))
        have hsb := hbd _ (List.getElem_mem hlt)
        have hsl := hlen _ (List.getElem_mem hlt)
        have HTK : Hid (textTo true (p.take (k + 1)) = textTo true (p.take k) ++ (lineP p[k] ++ [10])) := hide (by rw [List.take_succ_eq_append_getElem hlt, textTo_snoc])
        clear hcell
        generalize p[k] = st at *
        obtain ⟨sr, sf, ss, sv, l1, l2⟩ := st
        dsimp only at e0 e1 e2 e3 e4 e5
        go_wp2_with fail
        have hA : Below wr.heap.size wr (wr.alloc (.cells #[.int .i64 (sr : Int), .int .i64 (sf : Int), .int .i64 (ss : Int), .int .i64 (sv : Int), .int .i64 (l1 : Int), .int .i64 (l2 : Int)] 134)) := (Below.refl _ _).alloc (Nat.le_refl _) _
        have hBA := hB.trans (hA.mono hB.size)
        refine (line_any ⟨sr, sf, ss, sv, (l1, l2)⟩ _ (ht.later hBA) hsb).mono ?_
        rintro e u5 ⟨rfl, b5⟩
        have hB5 := hBA.trans (b5.mono hBA.size)
        have hA5 : Below wr.heap.size wr u5 := hA.trans (b5.mono hA.size)
        have hown5 := own_below hown hA5
        have hbs5 := hB5.size
        clear hBA hA b5 e0 e1 e2 e3 e4 e5
        have hsl2 : (lineP ⟨sr, sf, ss, sv, (l1, l2)⟩ ++ [10]).length ≤ 401 := by rw [List.length_append]; exact Nat.add_le_add_right hsl 1
        generalize lineP ⟨sr, sf, ss, sv, (l1, l2)⟩ ++ [10] = ln at *
        have hszl : (ByteArray.mk ln.toArray).size = ln.length := by simp [ByteArray.size]
        have HBV : Hid (byteVals acc ++ Lib.strCells ⟨ln.toArray⟩ = byteVals (acc ++ ln)) := hide (by rw [strCells_list, byteVals_append])
        go_wp2_with (at_builtin; refine Lib.wpList_append_own_string _ rfl _ _ 114 9 rfl w.heap.size 5 i1 Tryz.underlying114 Tryz.underlying9 hi1 hz10 hz11 hz12 _ acc.length (byteVals acc) rfl hown5 ⟨ln.toArray⟩ rfl (by unfold maxLen; rw [hszl]; omega) (by rw [hszl]; omega) hbs5 ?_; intro v6 w6 hown6 hgrow6 hnn6)
        have hB6 : Below w.heap.size w w6 := below_grown hB5 hgrow6 hown5 (Nat.le_refl _) hbs5
        rw [hszl, unhide HBV] at hown6
        obtain ⟨a6, c6, rfl⟩ := own_form hown6
        go_wp2_with fail
        go_roundg (gk - 1)
        case measure => omega
        case rel => exact ⟨k + 1, acc ++ ln, by go_num, by omega, by rw [unhide HTK, unhide HAC], by rw [List.length_append]; omega, by rw [List.length_append]; exact hown6, hB6⟩
      · have hd3 : decide ((k : Int) < (p.length : Int)) = false := decide_eq_false (by omega)
        have hd4 : decide (k < p.length) = false := decide_eq_false hlt
        have HF : Hid (acc = textTo true p) := hide (by rw [unhide HAC, List.take_of_length_le (by omega)])
        have hpos : 0 < acc.length := by rw [unhide HF]; unfold textTo; rw [List.length_append]; exact Nat.lt_of_lt_of_le (show 0 < (firstP true).length by decide) (Nat.le_add_right _ _)
        obtain ⟨g3, cap3, hVe, _, hg3', _, hcell⟩ := own_pos hown hpos
        injection hVe with hVe _ hV2
        subst hVe hV2
        have hcv := run_convert_bytes_back (P := Tryz.prog) wr 114 9 5 ⟨g3, 0, none⟩ cV acc Tryz.underlying114 Tryz.underlying5 Tryz.underlying9 (fun j hj => by
          rw [show (⟨g3, 0, none⟩ : Addr).add j = ⟨g3, j, none⟩ from by unfold Addr.add; split <;> simp_all]
          exact hcell j _ (by simp [byteVals, hj]))
        clear hcell
        go_wp2_with fail
        go_ret
        exact ⟨by rw [unhide HTT, ← unhide HF]; rfl, hB⟩
end Go.Proofs.YtgipjjhkhfihpaaGreatDoor

namespace Go.Proofs.YtgipjjhkhfihpaaGreatDoor
open Go.RowKit

/-! ### The steps of a proof that was found can be written -/
theorem stp_bd {q : QS} (hq : QB q) {k : Nat} {p : List Stp} {s : Stp} (h : StOk q k p s) (hp : p.length ≤ 100000) : StpBd s := by
  obtain ⟨h1, h2⟩ := h
  have hcl := hq.cl
  refine ⟨?_, fun h3 => ?_, fun h3 => ?_, h1.bd⟩
  · rcases h2 with ⟨_, _, _, h4, _⟩ | ⟨_, _, h4, _⟩ | ⟨_, h4, _⟩ | ⟨_, h4, _⟩
    · omega
    · omega
    · omega
    · omega
  · rcases h2 with ⟨h4, _⟩ | ⟨h4, _⟩ | ⟨_, _, h4, _⟩ | ⟨h4, _⟩
    · omega
    · omega
    · omega
    · omega
  · rcases h2 with ⟨h4, _⟩ | ⟨h4, _⟩ | ⟨_, _, _, ⟨x, hx, h4, _⟩, _⟩ | ⟨h4, _⟩
    · omega
    · omega
    · have := hq.names x hx; omega
    · omega
theorem short_bd {q : QS} (hq : QB q) {k : Nat} {p : List Stp} (hp : POk q k p) {last : Nat} (h1 : 1 ≤ last) (hl : last ≤ p.length) (hf : Free (litsAt p last)) (hpl : p.length ≤ 90000) : (∀ s ∈ shortOf p last, StpBd s) ∧ (∀ s ∈ shortOf p last, (lineP s).length ≤ 400) ∧ (shortOf p last).length ≤ 100000 := by
  obtain ⟨s1, s2, s3, _⟩ := short_ok hp h1 hl hf
  have hb : ∀ s ∈ shortOf p last, StpBd s := by
    intro s hs
    obtain ⟨i, hi, rfl⟩ := List.mem_iff_getElem.1 hs
    exact stp_bd hq (s1 i hi) (by rw [List.length_take]; omega)
  have hst : ∀ s ∈ shortOf p last, (s.rule ≠ 2 → s.first < 1000000) ∧ (s.rule = 3 → s.second < 1000000 ∧ s.var < 1000000) := by
    intro s hs
    obtain ⟨i, hi, rfl⟩ := List.mem_iff_getElem.1 hs
    have h := (s1 i hi).2
    have hcl := hq.cl
    have ht : ((shortOf p last).take i).length ≤ 100000 := by rw [List.length_take]; omega
    rcases h with ⟨h4, _, _, h5, _⟩ | ⟨h4, _⟩ | ⟨_, h4, h5, ⟨x, hx, h6, _⟩, _⟩ | ⟨h4, h5, _⟩
    · exact ⟨fun _ => by omega, fun e => by omega⟩
    · exact ⟨fun e => absurd h4 e, fun e => by omega⟩
    · have := hq.names x hx
      exact ⟨fun _ => by omega, fun _ => ⟨by omega, by omega⟩⟩
    · exact ⟨fun _ => by omega, fun e => by omega⟩
  refine ⟨hb, fun s hs => ?_, by omega⟩
  have := lineP_len (s2 s hs) (hst s hs).1 (hst s hs).2
  omega
end Go.Proofs.YtgipjjhkhfihpaaGreatDoor

namespace Go.Proofs.YtgipjjhkhfihpaaGreatDoor
open Go.RowKit

set_option maxRecDepth 100000 in
set_option maxHeartbeats 800000 in
theorem formula_any (b : Nat) (vV vC : Value) (aV aC : Option Addr) (nV cV nC cC : Nat) (hV : vV = .slice aV nV cV) (hC : vC = .slice aC nC cC) (w : World) (hb : w.heap[b]? = some (.cells #[vV, vC] 64 (0, 0))) :
    Calls Tryz.prog 25 #[.pointer (some ⟨b, 0, none⟩)] w fun e w' => e = .returned (.agg #[vV, vC]) ∧ Below w.heap.size w w' := by
  subst hV hC
  have hf0 : w.cell? ⟨b, 0, none⟩ = some (.slice aV nV cV) := by rw [blk_cell hb]; rfl
  have hf1 : w.cell? ⟨b, 1, none⟩ = some (.slice aC nC cC) := by rw [blk_cell hb]; rfl
  have hbl := blk_lt hb
  go_enter Tryz.func25, Tryz.ntmps25
  go_wp2_with fail
  refine bodyPost_ret (v := .agg #[.slice aV nV cV, .slice aC nC cC]) (by simp [results, Tryz.results25, go_sem]) rfl ⟨rfl, ?_⟩
  exact (Below.refl _ _).alloc (Nat.le_refl _) _
end Go.Proofs.YtgipjjhkhfihpaaGreatDoor

namespace Go.Proofs.YtgipjjhkhfihpaaGreatDoor
open Go.RowKit

/-! ### duel.Formula.Solve -/
abbrev VdV (v : Vd) : Value := .agg #[.int .i64 (v.kind : Int), .int .i64 (v.nodes : Int), .int .i64 (v.lemmas : Int), .string ⟨v.text.toArray⟩]
theorem solved_text {q : QS} (hq : QGood q) (budget room : Nat) (h : (solveM q budget room).2.1 ≠ 0) : (∀ s ∈ (solvedP (solveM q budget room)).2, StpBd s) ∧ (∀ s ∈ (solvedP (solveM q budget room)).2, (lineP s).length ≤ 400) ∧ (solvedP (solveM q budget room)).2.length ≤ 100000 ∧ (solvedP (solveM q budget room)).1 = (solveM q budget room).2.1 ∧ ((solveM q budget room).2.1 = 1 ∨ (solveM q budget room).2.1 = 2) ∧ (solvedP (solveM q budget room)).2 = shortOf ((solveM q budget room).1.proof (solveM q budget room).2.1) (solveM q budget room).2.2 := by
  have hin := begin_in hq budget room
  have hl := look_ok (C := beginC q budget room) hq (uni_ok hq) q.vars.length 0 (0, 0) (beginS q) hin.lin.inv hin.path hin.dm
  have hsz := hl.size
  have hmo := hl.most
  have hm := hin.most
  have h24 : sizeS (beginS q) ≤ 100 + 12 * (beginS q).nodes := hin.lin.size
  unfold solveM at h ⊢
  generalize lookM (beginC q budget room) q.vars.length (0, 0) 0 (beginS q) = r at *
  have hf := hl.fact h
  have h0 : (beginS q).nodes = 0 := rfl
  rw [h0] at hsz hmo hm h24
  have hplen : (r.1.proof r.2.1).length ≤ 90000 := by
    have : (r.1.proof r.2.1).length ≤ sizeS r.1 := by
      unfold SS.proof sizeS
      split <;> omega
    generalize 2 ^ (q.vars.length + 1) = X at *
    omega
  obtain ⟨b1, b2, b3⟩ := short_bd hq.qb (hl.inv.pok hf.inn.kind) hf.inn.lo hf.inn.hi hf.inn.free hplen
  have hsp : solvedP r = (r.2.1, shortOf (r.1.proof r.2.1) r.2.2) := by
    unfold solvedP SS.proof
    rcases hf.inn.kind with e | e
    · rw [if_pos e, e]; rfl
    · rw [if_neg (by omega), if_pos e, e]; rfl
  rw [hsp]
  exact ⟨b1, b2, b3, rfl, hf.inn.kind, rfl⟩
set_option maxRecDepth 100000 in
set_option maxHeartbeats 3200000 in
theorem dsolve_bad (b : Nat) (a l : Int) (w : World) (h : a < 0 ∨ 1048576 < a ∨ l < 0 ∨ 64 < l) :
    Calls Tryz.prog 22 #[.pointer (some ⟨b, 0, none⟩), .int .i64 a, .int .i64 l] w fun e w' => e = .returned (.tuple #[VdV ⟨0, 0, 0, []⟩, .int .i64 4]) ∧ Below w.heap.size w w' := by
  have HV : Hid (VdV ⟨0, 0, 0, []⟩ = .agg #[.int .i64 0, .int .i64 0, .int .i64 0, .string ⟨#[]⟩]) := hide rfl
  rcases (show a < 0 ∨ (¬ a < 0 ∧ 1048576 < a) ∨ (¬ a < 0 ∧ ¬ 1048576 < a ∧ l < 0) ∨ (¬ a < 0 ∧ ¬ 1048576 < a ∧ ¬ l < 0 ∧ 64 < l) by omega) with h | h | h | h
  · have d0 : decide (a < 0) = true := decide_eq_true (by omega)
    clear h
    go_enter Tryz.func22, Tryz.ntmps22
    go_wp2_with fail
    generalize hw0 : (w.alloc (.cells #[.int .i64 0, .int .i64 0, .int .i64 0, .string ⟨#[]⟩] 54)) = u1
    have hB : Below w.heap.size w u1 := by rw [← hw0]; exact (Below.refl _ _).alloc (Nat.le_refl _) _
    have hrs : u1.heap[w.heap.size]? = some (.cells #[.int .i64 0, .int .i64 0, .int .i64 0, .string ⟨#[]⟩] 54 (0, 0)) := by rw [← hw0]; exact alloc_new_at (by simp)
    clear hw0
    have crs0 : u1.cell? ⟨w.heap.size, 0, none⟩ = some (.int .i64 0) := by rw [blk_cell hrs]; rfl
    have crs1 : u1.cell? ⟨w.heap.size, 1, none⟩ = some (.int .i64 0) := by rw [blk_cell hrs]; rfl
    have crs2 : u1.cell? ⟨w.heap.size, 2, none⟩ = some (.int .i64 0) := by rw [blk_cell hrs]; rfl
    have crs3 : u1.cell? ⟨w.heap.size, 3, none⟩ = some (.string ⟨#[]⟩) := by rw [blk_cell hrs]; rfl
    have lrs := blk_lt hrs
    refine bodyPost_ret (v := .tuple #[.agg #[.int .i64 0, .int .i64 0, .int .i64 0, .string ⟨#[]⟩], .int .i64 4]) (by simp [results, Tryz.results22, go_sem, crs0, crs1, crs2, crs3]) rfl ⟨by rw [unhide HV], hB⟩
  · have d0 : decide (a < 0) = false := decide_eq_false (by omega)
    have d1 : decide ((1048576 : Int) < a) = true := decide_eq_true (by omega)
    clear h
    go_enter Tryz.func22, Tryz.ntmps22
    go_wp2_with fail
    generalize hw0 : (w.alloc (.cells #[.int .i64 0, .int .i64 0, .int .i64 0, .string ⟨#[]⟩] 54)) = u1
    have hB : Below w.heap.size w u1 := by rw [← hw0]; exact (Below.refl _ _).alloc (Nat.le_refl _) _
    have hrs : u1.heap[w.heap.size]? = some (.cells #[.int .i64 0, .int .i64 0, .int .i64 0, .string ⟨#[]⟩] 54 (0, 0)) := by rw [← hw0]; exact alloc_new_at (by simp)
    clear hw0
    have crs0 : u1.cell? ⟨w.heap.size, 0, none⟩ = some (.int .i64 0) := by rw [blk_cell hrs]; rfl
    have crs1 : u1.cell? ⟨w.heap.size, 1, none⟩ = some (.int .i64 0) := by rw [blk_cell hrs]; rfl
    have crs2 : u1.cell? ⟨w.heap.size, 2, none⟩ = some (.int .i64 0) := by rw [blk_cell hrs]; rfl
    have crs3 : u1.cell? ⟨w.heap.size, 3, none⟩ = some (.string ⟨#[]⟩) := by rw [blk_cell hrs]; rfl
    have lrs := blk_lt hrs
    refine bodyPost_ret (v := .tuple #[.agg #[.int .i64 0, .int .i64 0, .int .i64 0, .string ⟨#[]⟩], .int .i64 4]) (by simp [results, Tryz.results22, go_sem, crs0, crs1, crs2, crs3]) rfl ⟨by rw [unhide HV], hB⟩
  · have d0 : decide (a < 0) = false := decide_eq_false (by omega)
    have d1 : decide ((1048576 : Int) < a) = false := decide_eq_false (by omega)
    have d2 : decide (l < 0) = true := decide_eq_true (by omega)
    clear h
    go_enter Tryz.func22, Tryz.ntmps22
    go_wp2_with fail
    generalize hw0 : (w.alloc (.cells #[.int .i64 0, .int .i64 0, .int .i64 0, .string ⟨#[]⟩] 54)) = u1
    have hB : Below w.heap.size w u1 := by rw [← hw0]; exact (Below.refl _ _).alloc (Nat.le_refl _) _
    have hrs : u1.heap[w.heap.size]? = some (.cells #[.int .i64 0, .int .i64 0, .int .i64 0, .string ⟨#[]⟩] 54 (0, 0)) := by rw [← hw0]; exact alloc_new_at (by simp)
    clear hw0
    have crs0 : u1.cell? ⟨w.heap.size, 0, none⟩ = some (.int .i64 0) := by rw [blk_cell hrs]; rfl
    have crs1 : u1.cell? ⟨w.heap.size, 1, none⟩ = some (.int .i64 0) := by rw [blk_cell hrs]; rfl
    have crs2 : u1.cell? ⟨w.heap.size, 2, none⟩ = some (.int .i64 0) := by rw [blk_cell hrs]; rfl
    have crs3 : u1.cell? ⟨w.heap.size, 3, none⟩ = some (.string ⟨#[]⟩) := by rw [blk_cell hrs]; rfl
    have lrs := blk_lt hrs
    refine bodyPost_ret (v := .tuple #[.agg #[.int .i64 0, .int .i64 0, .int .i64 0, .string ⟨#[]⟩], .int .i64 4]) (by simp [results, Tryz.results22, go_sem, crs0, crs1, crs2, crs3]) rfl ⟨by rw [unhide HV], hB⟩
  · have d0 : decide (a < 0) = false := decide_eq_false (by omega)
    have d1 : decide ((1048576 : Int) < a) = false := decide_eq_false (by omega)
    have d2 : decide (l < 0) = false := decide_eq_false (by omega)
    have d3 : decide ((64 : Int) < l) = true := decide_eq_true (by omega)
    clear h
    go_enter Tryz.func22, Tryz.ntmps22
    go_wp2_with fail
    generalize hw0 : (w.alloc (.cells #[.int .i64 0, .int .i64 0, .int .i64 0, .string ⟨#[]⟩] 54)) = u1
    have hB : Below w.heap.size w u1 := by rw [← hw0]; exact (Below.refl _ _).alloc (Nat.le_refl _) _
    have hrs : u1.heap[w.heap.size]? = some (.cells #[.int .i64 0, .int .i64 0, .int .i64 0, .string ⟨#[]⟩] 54 (0, 0)) := by rw [← hw0]; exact alloc_new_at (by simp)
    clear hw0
    have crs0 : u1.cell? ⟨w.heap.size, 0, none⟩ = some (.int .i64 0) := by rw [blk_cell hrs]; rfl
    have crs1 : u1.cell? ⟨w.heap.size, 1, none⟩ = some (.int .i64 0) := by rw [blk_cell hrs]; rfl
    have crs2 : u1.cell? ⟨w.heap.size, 2, none⟩ = some (.int .i64 0) := by rw [blk_cell hrs]; rfl
    have crs3 : u1.cell? ⟨w.heap.size, 3, none⟩ = some (.string ⟨#[]⟩) := by rw [blk_cell hrs]; rfl
    have lrs := blk_lt hrs
    refine bodyPost_ret (v := .tuple #[.agg #[.int .i64 0, .int .i64 0, .int .i64 0, .string ⟨#[]⟩], .int .i64 4]) (by simp [results, Tryz.results22, go_sem, crs0, crs1, crs2, crs3]) rfl ⟨by rw [unhide HV], hB⟩
set_option maxRecDepth 100000 in
set_option maxHeartbeats 3200000 in
theorem dsolve_any (lo b : Nat) (q : QS) (bn ln : Nat) (w : World) (hP : ProgAt lo w b q) (hq : QGood q) (ht : TabAt w) (hbn : bn ≤ 1048576) (hln : ln ≤ 64) :
    Calls Tryz.prog 22 #[.pointer (some ⟨b, 0, none⟩), .int .i64 (bn : Int), .int .i64 (ln : Int)] w fun e w' => e = .returned (.tuple #[VdV (verdict q bn ln), .int .i64 0]) ∧ Below w.heap.size w w' := by
  obtain ⟨_, vV, vC, hfb, hV, hC⟩ := hP
  have hbw := blk_lt hfb
  obtain ⟨aV, cV, rfl⟩ := own_form hV
  obtain ⟨aC, cC, rfl⟩ := own_form hC
  have d0 : decide ((bn : Int) < 0) = false := decide_eq_false (by omega)
  have d1 : decide ((1048576 : Int) < (bn : Int)) = false := decide_eq_false (by omega)
  have d2 : decide ((ln : Int) < 0) = false := decide_eq_false (by omega)
  have d3 : decide ((64 : Int) < (ln : Int)) = false := decide_eq_false (by omega)
  have d1n : decide (1048576 < bn) = false := decide_eq_false (by omega)
  have d3n : decide (64 < ln) = false := decide_eq_false (by omega)
  have HTX := hide (solved_text hq bn ln)
  have HVD : Hid (verdict q bn ln = ⟨(solveM q bn ln).2.1, (solveM q bn ln).1.nodes, (solveM q bn ln).1.most, if (solveM q bn ln).2.1 = 0 then [] else textP ((solveM q bn ln).2.1 == 2) (shortOf ((solveM q bn ln).1.proof (solveM q bn ln).2.1) (solveM q bn ln).2.2)⟩) := hide rfl
  go_enter Tryz.func22, Tryz.ntmps22
  go_wp2_with fail
  generalize hw0 : (w.alloc (.cells #[.int .i64 0, .int .i64 0, .int .i64 0, .string ⟨#[]⟩] 54)) = u1
  have hB : Below w.heap.size w u1 := by rw [← hw0]; exact (Below.refl _ _).alloc (Nat.le_refl _) _
  have hrs : u1.heap[w.heap.size]? = some (.cells #[.int .i64 0, .int .i64 0, .int .i64 0, .string ⟨#[]⟩] 54 (0, 0)) := by rw [← hw0]; exact alloc_new_at (by simp)
  clear hw0
  have crs0 : u1.cell? ⟨w.heap.size, 0, none⟩ = some (.int .i64 0) := by rw [blk_cell hrs]; rfl
  have crs1 : u1.cell? ⟨w.heap.size, 1, none⟩ = some (.int .i64 0) := by rw [blk_cell hrs]; rfl
  have crs2 : u1.cell? ⟨w.heap.size, 2, none⟩ = some (.int .i64 0) := by rw [blk_cell hrs]; rfl
  have crs3 : u1.cell? ⟨w.heap.size, 3, none⟩ = some (.string ⟨#[]⟩) := by rw [blk_cell hrs]; rfl
  have lrs := blk_lt hrs
  refine (formula_any b _ _ aV aC _ cV _ cC rfl rfl _ ((hB.block _ hbw).trans hfb)).mono ?_
  rintro e u2 ⟨rfl, b2⟩
  replace hB := hB.trans (b2.mono hB.size)
  replace hrs := (b2.block _ (blk_lt hrs)).trans hrs
  replace crs0 : u2.cell? ⟨w.heap.size, 0, none⟩ = some (.int .i64 0) := by rw [blk_cell hrs]; rfl
  replace crs1 : u2.cell? ⟨w.heap.size, 1, none⟩ = some (.int .i64 0) := by rw [blk_cell hrs]; rfl
  replace crs2 : u2.cell? ⟨w.heap.size, 2, none⟩ = some (.int .i64 0) := by rw [blk_cell hrs]; rfl
  replace crs3 : u2.cell? ⟨w.heap.size, 3, none⟩ = some (.string ⟨#[]⟩) := by rw [blk_cell hrs]; rfl
  replace lrs := blk_lt hrs
  go_wp2_with fail
  refine (ssolve_any q aV aC cV cC bn ln _ (own_lo (lo := 0) (own_below hV hB) (Nat.zero_le _)) (own_lo (lo := 0) (own_below hC hB) (Nat.zero_le _)) hq hbn hln).mono ?_
  rintro e u3 ⟨v3, rfl, ho3, b3⟩
  replace hB := hB.trans (b3.mono hB.size)
  replace hrs := (b3.block _ (blk_lt hrs)).trans hrs
  replace crs0 : u3.cell? ⟨w.heap.size, 0, none⟩ = some (.int .i64 0) := by rw [blk_cell hrs]; rfl
  replace crs1 : u3.cell? ⟨w.heap.size, 1, none⟩ = some (.int .i64 0) := by rw [blk_cell hrs]; rfl
  replace crs2 : u3.cell? ⟨w.heap.size, 2, none⟩ = some (.int .i64 0) := by rw [blk_cell hrs]; rfl
  replace crs3 : u3.cell? ⟨w.heap.size, 3, none⟩ = some (.string ⟨#[]⟩) := by rw [blk_cell hrs]; rfl
  replace lrs := blk_lt hrs
  generalize solveM q bn ln = r at *
  obtain ⟨S4, f1, f2⟩ := r
  dsimp only at ho3 HTX HVD ⊢
  generalize solvedP (S4, f1, f2) = sp at *
  obtain ⟨pk, sl⟩ := sp
  dsimp only at ho3 HTX ⊢
  obtain ⟨a3, c3, rfl⟩ := own_form ho3
  by_cases hf1 : f1 = 0
  · have hq1 : ((f1 : Int) == 0) = true := by rw [beq_iff_eq]; omega
    have hq2 : (f1 == 0) = true := by rw [beq_iff_eq]; exact hf1
    have HX : Hid (verdict q bn ln = ⟨f1, S4.nodes, S4.most, []⟩) := hide (by rw [unhide HVD, if_pos hf1])
    clear hf1
    have hA5 : Below u3.heap.size u3 ((u3.alloc (.cells #[.int .i64 (f1 : Int), .int .i64 (S4.nodes : Int), .int .i64 (S4.most : Int), .int .i64 (pk : Int), .slice a3 sl.length c3] 97)).alloc (.cells #[.int .i64 (f1 : Int), .int .i64 (S4.nodes : Int), .int .i64 (S4.most : Int), .string ⟨#[]⟩] 54)) := ((Below.refl _ _).alloc (Nat.le_refl _) _).alloc (by simp) _
    have hrs5 := (hA5.block _ (blk_lt hrs)).trans hrs
    have hB5 := hB.trans (hA5.mono hB.size)
    have hRW := setRow_heap ((u3.alloc (.cells #[.int .i64 (f1 : Int), .int .i64 (S4.nodes : Int), .int .i64 (S4.most : Int), .int .i64 (pk : Int), .slice a3 sl.length c3] 97)).alloc (.cells #[.int .i64 (f1 : Int), .int .i64 (S4.nodes : Int), .int .i64 (S4.most : Int), .string ⟨#[]⟩] 54)) w.heap.size _ #[.int .i64 (f1 : Int), .int .i64 (S4.nodes : Int), .int .i64 (S4.most : Int), .string ⟨#[]⟩] _ _ hrs5
    have j0 : (((u3.alloc (.cells #[.int .i64 (f1 : Int), .int .i64 (S4.nodes : Int), .int .i64 (S4.most : Int), .int .i64 (pk : Int), .slice a3 sl.length c3] 97)).alloc (.cells #[.int .i64 (f1 : Int), .int .i64 (S4.nodes : Int), .int .i64 (S4.most : Int), .string ⟨#[]⟩] 54)).setRow w.heap.size #[.int .i64 (f1 : Int), .int .i64 (S4.nodes : Int), .int .i64 (S4.most : Int), .string ⟨#[]⟩]).cell? ⟨w.heap.size, 0, none⟩ = some (.int .i64 (f1 : Int)) := by rw [blk_cell hRW]; rfl
    have j1 : (((u3.alloc (.cells #[.int .i64 (f1 : Int), .int .i64 (S4.nodes : Int), .int .i64 (S4.most : Int), .int .i64 (pk : Int), .slice a3 sl.length c3] 97)).alloc (.cells #[.int .i64 (f1 : Int), .int .i64 (S4.nodes : Int), .int .i64 (S4.most : Int), .string ⟨#[]⟩] 54)).setRow w.heap.size #[.int .i64 (f1 : Int), .int .i64 (S4.nodes : Int), .int .i64 (S4.most : Int), .string ⟨#[]⟩]).cell? ⟨w.heap.size, 1, none⟩ = some (.int .i64 (S4.nodes : Int)) := by rw [blk_cell hRW]; rfl
    have j2 : (((u3.alloc (.cells #[.int .i64 (f1 : Int), .int .i64 (S4.nodes : Int), .int .i64 (S4.most : Int), .int .i64 (pk : Int), .slice a3 sl.length c3] 97)).alloc (.cells #[.int .i64 (f1 : Int), .int .i64 (S4.nodes : Int), .int .i64 (S4.most : Int), .string ⟨#[]⟩] 54)).setRow w.heap.size #[.int .i64 (f1 : Int), .int .i64 (S4.nodes : Int), .int .i64 (S4.most : Int), .string ⟨#[]⟩]).cell? ⟨w.heap.size, 2, none⟩ = some (.int .i64 (S4.most : Int)) := by rw [blk_cell hRW]; rfl
    have j3 : (((u3.alloc (.cells #[.int .i64 (f1 : Int), .int .i64 (S4.nodes : Int), .int .i64 (S4.most : Int), .int .i64 (pk : Int), .slice a3 sl.length c3] 97)).alloc (.cells #[.int .i64 (f1 : Int), .int .i64 (S4.nodes : Int), .int .i64 (S4.most : Int), .string ⟨#[]⟩] 54)).setRow w.heap.size #[.int .i64 (f1 : Int), .int .i64 (S4.nodes : Int), .int .i64 (S4.most : Int), .string ⟨#[]⟩]).cell? ⟨w.heap.size, 3, none⟩ = some (.string ⟨#[]⟩) := by rw [blk_cell hRW]; rfl
    clear hRW
    go_wp2_with ((refine wpList_store_row rfl 54 _ _ rfl w.heap.size _ rfl rfl 54 _ hrs5 (by kernel_rfl) rfl (by simp [Value.oneCell']) ?_))
    refine bodyPost_ret (v := .tuple #[.agg #[.int .i64 (f1 : Int), .int .i64 (S4.nodes : Int), .int .i64 (S4.most : Int), .string ⟨#[]⟩], .int .i64 0]) (by simp [results, Tryz.results22, go_sem, j0, j1, j2, j3]) rfl ⟨by rw [unhide HX], below_setRow hB5 (Nat.le_refl _) _⟩
  · have hq1 : ((f1 : Int) == 0) = false := by rw [beq_eq_false_iff_ne]; omega
    have hq2 : (f1 == 0) = false := by rw [beq_eq_false_iff_ne]; exact hf1
    obtain ⟨t1, t2, t3, t4, t5, t6⟩ := unhide HTX hf1
    have HX : Hid (verdict q bn ln = ⟨f1, S4.nodes, S4.most, textP (pk == 2) sl⟩) := hide (by rw [unhide HVD, if_neg hf1, ← t6, t4])
    have hpk : pk = 1 ∨ pk = 2 := by rw [t4]; exact t5
    clear hf1 HTX t4 t5 t6
    have hA5 : Below u3.heap.size u3 ((u3.alloc (.cells #[.int .i64 (f1 : Int), .int .i64 (S4.nodes : Int), .int .i64 (S4.most : Int), .int .i64 (pk : Int), .slice a3 sl.length c3] 97)).alloc (.cells #[.int .i64 (f1 : Int), .int .i64 (S4.nodes : Int), .int .i64 (S4.most : Int), .string ⟨#[]⟩] 54)) := ((Below.refl _ _).alloc (Nat.le_refl _) _).alloc (by simp) _
    have hrs5 := (hA5.block _ (blk_lt hrs)).trans hrs
    have hB5 := hB.trans (hA5.mono hB.size)
    have han : ((u3.alloc (.cells #[.int .i64 (f1 : Int), .int .i64 (S4.nodes : Int), .int .i64 (S4.most : Int), .int .i64 (pk : Int), .slice a3 sl.length c3] 97)).alloc (.cells #[.int .i64 (f1 : Int), .int .i64 (S4.nodes : Int), .int .i64 (S4.most : Int), .string ⟨#[]⟩] 54)).heap[u3.heap.size]? = some (.cells #[.int .i64 (f1 : Int), .int .i64 (S4.nodes : Int), .int .i64 (S4.most : Int), .int .i64 (pk : Int), .slice a3 sl.length c3] 97 (0, 0)) := by rw [heap_alloc_old _ _ (by simp)]; exact alloc_new_at (by simp)
    have hve : ((u3.alloc (.cells #[.int .i64 (f1 : Int), .int .i64 (S4.nodes : Int), .int .i64 (S4.most : Int), .int .i64 (pk : Int), .slice a3 sl.length c3] 97)).alloc (.cells #[.int .i64 (f1 : Int), .int .i64 (S4.nodes : Int), .int .i64 (S4.most : Int), .string ⟨#[]⟩] 54)).heap[u3.heap.size + 1]? = some (.cells #[.int .i64 (f1 : Int), .int .i64 (S4.nodes : Int), .int .i64 (S4.most : Int), .string ⟨#[]⟩] 54 (0, 0)) := alloc_new_at (by simp)
    have ho5 := own_lo (lo := 0) (own_below ho3 hA5) (Nat.zero_le _)
    have hrl : w.heap.size < u3.heap.size := blk_lt hrs
    go_wp2_with fail
    generalize ((u3.alloc (.cells #[.int .i64 (f1 : Int), .int .i64 (S4.nodes : Int), .int .i64 (S4.most : Int), .int .i64 (pk : Int), .slice a3 sl.length c3] 97)).alloc (.cells #[.int .i64 (f1 : Int), .int .i64 (S4.nodes : Int), .int .i64 (S4.most : Int), .string ⟨#[]⟩] 54)) = u5 at *
    refine (text_any u3.heap.size 3 _ 97 sl _ pk _ ⟨han, rfl, rfl, ho5, by decide⟩ hpk (ht.later hB5) t1 t2 t3).mono ?_
    rintro e u6 ⟨rfl, b6⟩
    generalize textP (pk == 2) sl = tx at *
    replace hrs5 := (b6.block _ (blk_lt hrs5)).trans hrs5
    replace hve := (b6.block _ (blk_lt hve)).trans hve
    replace hB5 := hB5.trans (b6.mono hB5.size)
    have z3 := blk_free hve 3
    have q3 : u6.cell? ⟨u3.heap.size + 1, 3, none⟩ = some (.string ⟨#[]⟩) := by rw [blk_cell hve]; rfl
    have lve := blk_lt hve
    have hveS : (u6.setCell ⟨u3.heap.size + 1, 3, none⟩ (.string ⟨tx.toArray⟩)).heap[u3.heap.size + 1]? = some (.cells #[.int .i64 (f1 : Int), .int .i64 (S4.nodes : Int), .int .i64 (S4.most : Int), .string ⟨tx.toArray⟩] 54 (0, 0)) := blk_set hve 3 (.string ⟨tx.toArray⟩)
    have hrsS := blk_other hrs5 (c := u3.heap.size + 1) (by omega) 3 (.string ⟨tx.toArray⟩)
    have hBS := hB5.setCell (p := ⟨u3.heap.size + 1, 3, none⟩) (show w.heap.size ≤ u3.heap.size + 1 by omega) (.string ⟨tx.toArray⟩)
    have hRW := setRow_heap (u6.setCell ⟨u3.heap.size + 1, 3, none⟩ (.string ⟨tx.toArray⟩)) w.heap.size _ #[.int .i64 (f1 : Int), .int .i64 (S4.nodes : Int), .int .i64 (S4.most : Int), .string ⟨tx.toArray⟩] _ _ hrsS
    have j0 : ((u6.setCell ⟨u3.heap.size + 1, 3, none⟩ (.string ⟨tx.toArray⟩)).setRow w.heap.size #[.int .i64 (f1 : Int), .int .i64 (S4.nodes : Int), .int .i64 (S4.most : Int), .string ⟨tx.toArray⟩]).cell? ⟨w.heap.size, 0, none⟩ = some (.int .i64 (f1 : Int)) := by rw [blk_cell hRW]; rfl
    have j1 : ((u6.setCell ⟨u3.heap.size + 1, 3, none⟩ (.string ⟨tx.toArray⟩)).setRow w.heap.size #[.int .i64 (f1 : Int), .int .i64 (S4.nodes : Int), .int .i64 (S4.most : Int), .string ⟨tx.toArray⟩]).cell? ⟨w.heap.size, 1, none⟩ = some (.int .i64 (S4.nodes : Int)) := by rw [blk_cell hRW]; rfl
    have j2 : ((u6.setCell ⟨u3.heap.size + 1, 3, none⟩ (.string ⟨tx.toArray⟩)).setRow w.heap.size #[.int .i64 (f1 : Int), .int .i64 (S4.nodes : Int), .int .i64 (S4.most : Int), .string ⟨tx.toArray⟩]).cell? ⟨w.heap.size, 2, none⟩ = some (.int .i64 (S4.most : Int)) := by rw [blk_cell hRW]; rfl
    have j3 : ((u6.setCell ⟨u3.heap.size + 1, 3, none⟩ (.string ⟨tx.toArray⟩)).setRow w.heap.size #[.int .i64 (f1 : Int), .int .i64 (S4.nodes : Int), .int .i64 (S4.most : Int), .string ⟨tx.toArray⟩]).cell? ⟨w.heap.size, 3, none⟩ = some (.string ⟨tx.toArray⟩) := by rw [blk_cell hRW]; rfl
    clear hRW
    go_wp2_with (first | (refine wpList_load_row rfl 54 _ rfl (u3.heap.size + 1) rfl 54 _ (0, 0) _ hveS Tryz.underlying54 rfl (by kernel_rfl) ?_) | (refine wpList_store_row rfl 54 _ _ rfl w.heap.size _ rfl rfl 54 _ hrsS (by kernel_rfl) rfl (by simp [Value.oneCell']) ?_))
    refine bodyPost_ret (v := .tuple #[.agg #[.int .i64 (f1 : Int), .int .i64 (S4.nodes : Int), .int .i64 (S4.most : Int), .string ⟨tx.toArray⟩], .int .i64 0]) (by simp [results, Tryz.results22, go_sem, j0, j1, j2, j3]) rfl ⟨by rw [unhide HX], below_setRow hBS (Nat.le_refl _) _⟩
end Go.Proofs.YtgipjjhkhfihpaaGreatDoor

namespace Go.Proofs.YtgipjjhkhfihpaaGreatDoor
open Go.RowKit

/-- One step of a script. -/
structure OpV where
  kind : Int
  a : Int
  b : Int
  c : Int
  s : List UInt8
  t : List UInt8
def OpV.cells (o : OpV) : List Value := [.int .i64 o.kind, .int .i64 o.a, .int .i64 o.b, .int .i64 o.c, S o.s, S o.t]
def i64ok (x : Int) : Prop := -9223372036854775808 ≤ x ∧ x ≤ 9223372036854775807
structure OpV.Ok (o : OpV) : Prop where
  kind : i64ok o.kind
  a : i64ok o.a
  b : i64ok o.b
  c : i64ok o.c

theorem here_foreign {bw : Nat} {w : World} {ts : List TypeId} : ∀ k, k < w.heap.size → k = bw → Foreign (bw + 1) w ts k := fun k _ e => Or.inl (by omega)

theorem Only.pre {T : Nat → Prop} {a b c : World} (h : Below a.heap.size a b) (k : Only T b c) : Only T a c := (Only.of_below h).trans k

/-- The kinds of steps that only turn texts. -/
def base4 (k : Int) : Bool := k == 1 || k == 2 || k == 4 || k == 5
def opCells (l : List OpV) : List Value := l.flatMap OpV.cells
theorem opCells_snoc (l : List OpV) (o : OpV) : opCells (l ++ [o]) = opCells l ++ o.cells := by simp [opCells]
theorem opCells_at (l : List OpV) (k j : Nat) (h : k < l.length) (hj : j < 6) : (opCells l)[k * 6 + j]? = l[k].cells[j]? := by
  induction l generalizing k with
  | nil => simp at h
  | cons a l ih =>
    cases k with
    | zero =>
      simp only [opCells, List.flatMap_cons]
      rw [List.getElem?_append_left (by simp [OpV.cells]; omega)]
      simp
    | succ k =>
      have := ih k (by simpa using h)
      simp only [opCells, List.flatMap_cons] at this ⊢
      rw [show (k + 1) * 6 + j = k * 6 + j + 6 from by omega, List.getElem?_append_right (by simp [OpV.cells])]
      simpa [OpV.cells] using this
def sizeTo (l : List OpV) (k : Nat) : Nat := ((l.take k).map (fun o => o.s.length + 1)).sum
theorem sizeTo_succ (l : List OpV) (k : Nat) (h : k < l.length) : sizeTo l (k + 1) = sizeTo l k + (l[k].s.length + 1) := by
  unfold sizeTo
  rw [List.take_succ_eq_append_getElem h, List.map_append, List.sum_append]
  simp only [List.map_cons, List.map_nil, List.sum_cons, List.sum_nil, Nat.add_zero]
theorem sizeTo_le (l : List OpV) (k : Nat) (_h : k ≤ l.length) : sizeTo l k ≤ sizeTo l l.length := by
  have e : l.take l.length = l.take k ++ l.drop k := by rw [List.take_length, List.take_append_drop]
  unfold sizeTo
  rw [e, List.map_append, List.sum_append]
  omega

end Go.Proofs.YtgipjjhkhfihpaaGreatDoor
