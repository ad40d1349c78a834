import Derived.Test.YtgipjjhkhfihpaaA
import Derived.Laws.Tables
import Derived.Test.YtgipjjhkhfihpaaJ
import Derived.Test.YtgipjjhkhfihpaaD
import Derived.Test.YtgipjjhkhfihpaaF
import Derived.Test.YtgipjjhkhfihpaaRows
import Derived.WalkKit
import Derived.ProofKit
import Derived.OpenShut
namespace Go.Proofs.Ytgipjjhkhfihpaa
open Go.RowKit

/-- A slice literal of many parts, without simp going through the parts. -/
theorem wp_buildSlice {P : Program} {o : Oper} {a : Act} {w : World} {K : Act → World → Prop} {Q : Exit → Act → World → Prop} (t e : TypeId) (len : Nat) (parts : Array (Nat × Operand)) (ho : o.op = .buildSlice t len parts)
    (i : TypeInfo) (z : Value) (size : Nat) (hu : P.underlying t = some (.slice e)) (hi : P.info? e = some i) (hz : i.zero = some z) (hsz : i.size = size) (hle : ¬ len * size > 2 ^ 24) (hne : ¬ len * size = 0) (cells : Array Value)
    (hf : Instr.fill (fun k => some (k * size, size)) ((Array.range (len * size)).map (z.cells[· % z.cells.size]!)) (parts.map fun (k, x) => (k, a.eval x)).toList = some cells)
    (h : K (a.put o.dst (.slice (some ⟨w.heap.size, 0, none⟩) len len)) (w.alloc (.cells cells e))) : o.wp P a w K Q := by
  subst hsz
  have hr : (Instr.buildSlice t len (parts.map fun (k, x) => (k, a.eval x))).run P w = .ok (.slice (some ⟨w.heap.size, 0, none⟩) len len) (w.alloc (.cells cells e)) := by
    simp only [gt_iff_lt] at hle
    simp [Instr.buildSlice, run_underlying hu, sizeOf, typeInfo, zeroValue, hi, hz, hle, hne]
    have hf' : Instr.fill (fun k => some (k * i.size, i.size)) ((Array.range (len * i.size)).map (z.cells[· % z.cells.size]!)) (parts.toList.map (fun x => (x.1, a.eval x.2))) = some cells := by simpa using hf
    rw [hf']
    rfl
  unfold Oper.wp execOp
  simp only [ho, Sem.run_bind, hr, Result.andThen_ok]
  exact h
end Go.Proofs.Ytgipjjhkhfihpaa

namespace Go.Proofs.Ytgipjjhkhfihpaa
open Go.RowKit

/-- A formula and a proof, one of which is none, and where. -/
structure Fault where
  s : List UInt8
  e : Nat
  line : Nat
  proof : List UInt8
  at_ : Nat
def faultList : List Fault := [
    ⟨[101, 10], 2, 1, [], 0⟩,
    ⟨[101, 32, 49, 32, 49, 10], 2, 1, [], 0⟩,
    ⟨[101, 32, 49, 10, 97, 32, 49, 10], 2, 2, [], 0⟩,
    ⟨[101, 32, 57, 10], 2, 1, [], 0⟩,
    ⟨[99, 32, 49, 10, 101, 32, 49, 10], 2, 2, [], 0⟩,
    ⟨[99, 32, 48, 10], 2, 1, [], 0⟩,
    ⟨[99, 32, 49], 2, 1, [], 0⟩,
    ⟨[10], 2, 1, [], 0⟩,
    ⟨[99, 32, 32, 49, 10], 2, 1, [], 0⟩,
    ⟨[99, 32, 45, 45, 49, 10], 2, 1, [], 0⟩,
    ⟨[99, 32, 49, 48, 10], 2, 1, [], 0⟩,
    ⟨[101, 32, 45, 49, 10], 2, 1, [], 0⟩,
    ⟨[120, 10], 2, 1, [], 0⟩,
    ⟨[97, 32, 49, 10, 101, 32, 50, 10, 99, 32, 49, 32, 50, 10, 99, 32, 45, 49, 32, 50, 10, 99, 32, 45, 50, 10], 0, 0, [112, 114, 111, 111, 102, 32, 102, 97, 108, 115, 101, 10, 97, 32, 49, 10, 97, 32, 50, 10, 114, 32, 49, 32, 50, 32, 49, 10], 4⟩,
    ⟨[101, 32, 49, 10, 97, 32, 50, 10, 99, 32, 49, 32, 50, 10, 99, 32, 45, 49, 32, 50, 10], 0, 0, [112, 114, 111, 111, 102, 32, 116, 114, 117, 101, 10, 99, 32, 49, 32, 50, 10, 99, 32, 45, 49, 32, 50, 10, 114, 32, 49, 32, 50, 32, 49, 10], 4⟩,
    ⟨[97, 32, 49, 10, 101, 32, 50, 10, 99, 32, 49, 32, 50, 10, 99, 32, 45, 49, 32, 45, 50, 10], 0, 0, [], 1⟩,
    ⟨[97, 32, 49, 10, 101, 32, 50, 10, 99, 32, 49, 32, 50, 10, 99, 32, 45, 49, 32, 45, 50, 10], 0, 0, [112, 114, 111, 111, 102, 32, 116, 114, 117, 101], 1⟩,
    ⟨[97, 32, 49, 10, 101, 32, 50, 10, 99, 32, 49, 32, 50, 10, 99, 32, 45, 49, 32, 45, 50, 10], 0, 0, [112, 114, 111, 111, 102, 10], 1⟩,
    ⟨[97, 32, 49, 10, 101, 32, 50, 10, 99, 32, 49, 32, 50, 10, 99, 32, 45, 49, 32, 45, 50, 10], 0, 0, [112, 114, 111, 111, 102, 32, 116, 114, 117, 101, 10], 2⟩,
    ⟨[97, 32, 49, 10, 101, 32, 50, 10, 99, 32, 49, 32, 50, 10, 99, 32, 45, 49, 32, 45, 50, 10], 0, 0, [112, 114, 111, 111, 102, 32, 116, 114, 117, 101, 10, 99, 10], 2⟩,
    ⟨[97, 32, 49, 10, 101, 32, 50, 10, 99, 32, 49, 32, 50, 10, 99, 32, 45, 49, 32, 45, 50, 10], 0, 0, [112, 114, 111, 111, 102, 32, 116, 114, 117, 101, 10, 97, 32, 49, 10], 2⟩,
    ⟨[97, 32, 49, 10, 101, 32, 50, 10, 99, 32, 49, 32, 50, 10, 99, 32, 45, 49, 32, 45, 50, 10], 0, 0, [112, 114, 111, 111, 102, 32, 116, 114, 117, 101, 10, 99, 32, 49, 32, 45, 50, 10], 3⟩,
    ⟨[97, 32, 49, 10, 101, 32, 50, 10, 99, 32, 49, 32, 50, 10, 99, 32, 45, 49, 32, 45, 50, 10], 0, 0, [112, 114, 111, 111, 102, 32, 116, 114, 117, 101, 10, 99, 32, 50, 32, 49, 10], 2⟩,
    ⟨[97, 32, 49, 10, 101, 32, 50, 10, 99, 32, 49, 32, 50, 10, 99, 32, 45, 49, 32, 45, 50, 10], 0, 0, [112, 114, 111, 111, 102, 32, 116, 114, 117, 101, 10, 99, 32, 49, 32, 45, 50, 32, 51, 10], 2⟩,
    ⟨[97, 32, 49, 10, 101, 32, 50, 10, 99, 32, 49, 32, 50, 10, 99, 32, 45, 49, 32, 45, 50, 10], 0, 0, [112, 114, 111, 111, 102, 32, 116, 114, 117, 101, 10, 99, 32, 49, 32, 45, 50, 10, 99, 32, 45, 49, 32, 50, 10, 114, 32, 49, 32, 50, 32, 49, 10], 4⟩,
    ⟨[97, 32, 49, 10, 101, 32, 50, 10, 99, 32, 49, 32, 50, 10, 99, 32, 45, 49, 32, 45, 50, 10], 0, 0, [112, 114, 111, 111, 102, 32, 116, 114, 117, 101, 10, 99, 32, 49, 32, 45, 50, 10, 100, 32, 49, 10, 99, 32, 45, 49, 32, 50, 10, 100, 32, 51, 10, 114, 32, 52, 32, 50, 32, 49, 10], 6⟩,
    ⟨[101, 32, 50, 10, 97, 32, 49, 10, 99, 32, 49, 32, 50, 10, 99, 32, 45, 49, 32, 45, 50, 10], 0, 0, [112, 114, 111, 111, 102, 32, 102, 97, 108, 115, 101, 10, 97, 32, 51, 10], 2⟩,
    ⟨[101, 32, 50, 10, 97, 32, 49, 10, 99, 32, 49, 32, 50, 10, 99, 32, 45, 49, 32, 45, 50, 10], 0, 0, [112, 114, 111, 111, 102, 32, 102, 97, 108, 115, 101, 10, 97, 32, 49, 10, 100, 32, 50, 10], 3⟩,
    ⟨[101, 32, 50, 10, 97, 32, 49, 10, 99, 32, 49, 32, 50, 10, 99, 32, 45, 49, 32, 45, 50, 10], 0, 0, [112, 114, 111, 111, 102, 32, 102, 97, 108, 115, 101, 10, 97, 32, 49, 10, 100, 32, 49, 10, 100, 32, 50], 4⟩,
    ⟨[101, 32, 50, 10, 97, 32, 49, 10, 99, 32, 49, 32, 50, 10, 99, 32, 45, 49, 32, 45, 50, 10], 0, 0, [112, 114, 111, 111, 102, 32, 102, 97, 108, 115, 101, 10, 97, 32, 49, 10, 97, 32, 50, 10, 114, 32, 49, 32, 50, 32, 50, 10], 4⟩,
    ⟨[101, 32, 50, 10, 97, 32, 49, 10, 99, 32, 49, 32, 50, 10, 99, 32, 45, 49, 32, 45, 50, 10], 0, 0, [112, 114, 111, 111, 102, 32, 102, 97, 108, 115, 101, 10, 97, 32, 49, 10, 97, 32, 50, 10, 114, 32, 49, 32, 50, 32, 49, 10], 4⟩,
    ⟨[101, 32, 50, 10, 97, 32, 49, 10, 99, 32, 49, 32, 50, 10, 99, 32, 45, 49, 32, 45, 50, 10], 0, 0, [112, 114, 111, 111, 102, 32, 102, 97, 108, 115, 101, 10, 97, 32, 49, 10, 97, 32, 50, 10, 100, 32, 49, 10, 100, 32, 50, 10, 114, 32, 51, 32, 52, 32, 49, 10], 6⟩,
    ⟨[101, 32, 50, 10, 97, 32, 49, 10, 99, 32, 49, 32, 50, 10, 99, 32, 45, 49, 32, 45, 50, 10], 0, 0, [112, 114, 111, 111, 102, 32, 102, 97, 108, 115, 101, 10, 99, 32, 49, 10], 2⟩,
    ⟨[101, 32, 50, 10, 97, 32, 49, 10, 99, 32, 49, 32, 50, 10, 99, 32, 45, 49, 32, 45, 50, 10], 0, 0, [112, 114, 111, 111, 102, 32, 102, 97, 108, 115, 101, 10, 97, 32, 48, 49, 10], 2⟩,
    ⟨[97, 32, 49, 10, 101, 32, 50, 10, 99, 32, 49, 32, 50, 10, 99, 32, 45, 49, 32, 45, 50, 10], 0, 0, [112, 114, 111, 111, 102, 32, 102, 97, 108, 115, 101, 10, 97, 32, 49, 10, 100, 32, 49, 10, 97, 32, 50, 10, 100, 32, 51, 10, 114, 32, 50, 32, 52, 32, 50, 10], 6⟩]
def Fault.cells (f : Fault) : List Value := [S f.s, .int .i64 (f.e : Int), .int .i64 (f.line : Int), S f.proof, .int .i64 (f.at_ : Int)]
def faultOk (f : Fault) : Bool := match loadSpec f.s with
  | .inl (x, i) => x == f.e && i == f.line
  | .inr q => f.e == 0 && f.line == 0 && decide (checkQ q f.proof = (0, 5, f.at_))
set_option maxRecDepth 100000 in
theorem faults_ok : faultList.all faultOk = true := by decide +kernel

end Go.Proofs.Ytgipjjhkhfihpaa

namespace Go.Proofs.Ytgipjjhkhfihpaa
open Go.RowKit

theorem Try.info39 : (Try.prog.info? 39).map (fun i => (i.zero, i.size, i.bytes)) = some (some (.agg #[.string ⟨#[]⟩, .int .i64 0, .int .i64 0, .string ⟨#[]⟩, .int .i64 0]), 5, 56) := by kernel_rfl

set_option maxRecDepth 100000 in
set_option maxHeartbeats 6400000 in
theorem faults_any (w : World) : Calls Try.prog 10 #[] w fun e w' => e = .returned (.slice (some ⟨w.heap.size, 0, none⟩) 35 35) ∧ w' = w.alloc (.cells (faultList.flatMap Fault.cells).toArray 39) := by
  obtain ⟨i0, hi, hz0, hz1, hz2⟩ := info_parts Try.info39
  go_enter Try.func10, Try.ntmps10
  go_wp2_with fail
  refine wp_buildSlice 36 39 35 _ rfl i0 _ 5 Try.underlying36 hi hz0 hz1 (by decide) (by decide) (faultList.flatMap Fault.cells).toArray (by kernel_rfl) ?_
  go_wp2_with fail
  go_ret
  exact ⟨rfl, rfl⟩
end Go.Proofs.Ytgipjjhkhfihpaa

namespace Go.Proofs.Ytgipjjhkhfihpaa
open Go.RowKit

set_option maxRecDepth 100000 in
set_option maxHeartbeats 400000 in
theorem kpick_any (c : Int) (n : Nat) (w : World) (hn : 0 < n) (hn2 : n ≤ 1048576) (h1 : -9223372036854775808 ≤ c) (h2 : c ≤ 9223372036854775807) :
    Calls Try.prog 6 #[.int .i64 c, .int .i64 n] w fun e w' => ∃ r : Nat, e = .returned (.int .i64 r) ∧ r < n ∧ w' = w := by
  by_cases hc : c < 0
  · have hd : decide (c < 0) = true := by simpa using hc
    go_enter Try.func6, Try.ntmps6
    go_wp2_with fail
    go_ret
    have e : -((c + 1).tmod n) = (-(c + 1)) % n := by rw [← Int.neg_tmod, Int.tmod_eq_emod_of_nonneg (by omega)]
    have e1 := Int.emod_nonneg (-(c + 1)) (show (n : Int) ≠ 0 by omega)
    have e2 := Int.emod_lt_of_pos (-(c + 1)) (show (0 : Int) < n by omega)
    refine ⟨((-(c + 1)) % n).toNat, ret_int ?_, by omega, rfl⟩
    omega
  · have hd : decide (c < 0) = false := by simpa using hc
    go_enter Try.func6, Try.ntmps6
    go_wp2_with fail
    go_ret
    refine ⟨(c % n).toNat, ?_, ?_, rfl⟩
    · refine ret_int ?_
      have := Int.emod_nonneg c (show (n : Int) ≠ 0 by omega)
      omega
    · have := Int.emod_nonneg c (show (n : Int) ≠ 0 by omega)
      have := Int.emod_lt_of_pos c (show (0 : Int) < n by omega)
      omega

theorem faultCells_at (l : List Fault) (k j : Nat) (h : k < l.length) (hj : j < 5) : (l.flatMap Fault.cells)[k * 5 + j]? = l[k].cells[j]? := by
  induction l generalizing k with
  | nil => simp at h
  | cons a l ih =>
    cases k with
    | zero =>
      simp only [List.flatMap_cons]
      rw [List.getElem?_append_left (by simp [Fault.cells]; omega)]
      simp
    | succ k =>
      have := ih k (by simpa using h)
      simp only [List.flatMap_cons] at this ⊢
      rw [show (k + 1) * 5 + j = k * 5 + j + 5 from by omega, List.getElem?_append_right (by simp [Fault.cells])]
      simpa [Fault.cells] using this
theorem fault_len : faultList.length = 35 := rfl
theorem fault_ok (k : Nat) (h : k < faultList.length) : faultOk faultList[k] = true := by
  have := faults_ok
  rw [List.all_eq_true] at this
  exact this _ (List.getElem_mem h)

set_option maxRecDepth 100000 in
set_option maxHeartbeats 3200000 in
theorem wrong_any (c : Int) (w : World) (h1 : -9223372036854775808 ≤ c) (h2 : c ≤ 9223372036854775807) :
    Calls Try.prog 4 #[.int .i64 c] w fun e w' => e = .returned (.bool true) ∧ Below w.heap.size w w' := by
  go_enter Try.func4, Try.ntmps4
  go_wp2_with fail
  refine (faults_any w).mono ?_
  rintro e w1 ⟨rfl, hw1⟩
  have hB1 : Below w.heap.size w w1 := by rw [hw1]; exact (Below.refl _ _).alloc (Nat.le_refl _) _
  have hblk : w1.heap[w.heap.size]? = some (.cells (faultList.flatMap Fault.cells).toArray 39 (0, 0)) := by rw [hw1]; exact heap_alloc_new _ _
  clear hw1
  have HC : Hid (∀ (r : Nat) (hr : r < faultList.length) (j : Nat) (hj : j < 5) (u : Value), faultList[r].cells[j]? = some u → w1.cell? ⟨w.heap.size, r * 5 + j, none⟩ = some u) := hide (fun r hr j hj u hu => by
    rw [blk_cell hblk]
    rw [List.getElem?_toArray, faultCells_at faultList r j hr hj]; exact hu)
  have hl1 := blk_lt hblk
  clear hblk
  go_wp2_with fail
  refine (kpick_any c 35 w1 (by omega) (by omega) h1 h2).mono ?_
  rintro e w2 ⟨r, rfl, hr, hw2⟩
  subst hw2
  have hr' : r < faultList.length := by rw [fault_len]; exact hr
  have x0 := unhide HC r hr' 0 (by omega) _ rfl
  have x1 := unhide HC r hr' 1 (by omega) _ rfl
  have x2 := unhide HC r hr' 2 (by omega) _ rfl
  have x3 := unhide HC r hr' 3 (by omega) _ rfl
  have x4 := unhide HC r hr' 4 (by omega) _ rfl
  have hok := fault_ok r hr'
  have HOK := hide hok
  clear hok HC
  generalize faultList[r] = f at *
  obtain ⟨s, fe, fl, pf, fa⟩ := f
  dsimp only at *
  rw [Nat.add_zero] at x0
  go_wp2_with fail
  have hA : Below w2.heap.size w2 (w2.alloc (.cells #[S s, .int .i64 (fe : Int), .int .i64 (fl : Int), S pf, .int .i64 (fa : Int)] 39)) := (Below.refl _ _).alloc (Nat.le_refl _) _
  have hx0 := heap_alloc_new w2 (.cells #[S s, .int .i64 (fe : Int), .int .i64 (fl : Int), S pf, .int .i64 (fa : Int)] 39)
  have hB2 := hB1.trans (hA.mono hB1.size)
  refine (load_any s _).mono ?_
  rintro e w3 ⟨hb3, hp⟩
  have hB3 : Below w.heap.size w w3 := hB2.trans (hb3.mono hB2.size)
  have hx3 := (hb3.block _ (blk_lt hx0)).trans hx0
  have y1 : w3.cell? ⟨w2.heap.size, 1, none⟩ = some (.int .i64 fe) := by rw [blk_cell hx3]; rfl
  have y2 : w3.cell? ⟨w2.heap.size, 2, none⟩ = some (.int .i64 fl) := by rw [blk_cell hx3]; rfl
  have y3 : w3.cell? ⟨w2.heap.size, 3, none⟩ = some (S pf) := by rw [blk_cell hx3]; rfl
  have y4 : w3.cell? ⟨w2.heap.size, 4, none⟩ = some (.int .i64 fa) := by rw [blk_cell hx3]; rfl
  have hl3 := blk_lt hx3
  clear x0 x1 x2 x3 x4
  have hok := unhide HOK
  unfold faultOk at hok
  have hse := spec_eq s
  cases hq : loadSpec s with
  | inl xi =>
    obtain ⟨x, i⟩ := xi
    rw [hq] at hok hp
    have hp' : e = .returned (.tuple #[.pointer none, .int .i64 (x : Int), .int .i64 (i : Int)]) := hp
    subst hp'
    simp only [Bool.and_eq_true, beq_iff_eq] at hok
    obtain ⟨e1, e2⟩ := hok
    subst e1 e2
    have hxp := loadSpec_pos s x i hq
    have hxb : ((x : Int) != 0) = true := by rw [bne_iff_ne]; omega
    have hxx : ((x : Int) != (x : Int)) = false := by simp
    have hii : ((i : Int) != (i : Int)) = false := by simp
    clear hp hq hse
    go_wp2_with fail
    go_ret
    exact ⟨rfl, hB3⟩
  | inr q =>
    rw [hq] at hok hp hse
    obtain ⟨b, rfl, hP⟩ := hp
    obtain ⟨st, q0, _, hsame, hqq, h24, hN⟩ := hse
    have hQB : QB q := by rw [hqq]; exact qb_of hN h24
    simp only [Bool.and_eq_true, beq_iff_eq, decide_eq_true_eq] at hok
    obtain ⟨⟨e1, e2⟩, e3⟩ := hok
    subst e1 e2
    have HCK := hide e3
    clear e3 hq hqq
    go_wp2_with fail
    refine (check_any _ b q pf w3 hP hQB).mono ?_
    rintro e w4 ⟨hb4, rfl⟩
    rw [unhide HCK]
    dsimp only
    have hB4 : Below w.heap.size w w4 := hB3.trans (hb4.mono hB3.size)
    have hx4 := (hb4.block _ hl3).trans hx3
    have v4 : w4.cell? ⟨w2.heap.size, 4, none⟩ = some (.int .i64 fa) := by rw [blk_cell hx4]; rfl
    have haa : ((fa : Int) == (fa : Int)) = true := by simp
    go_wp2_with fail
    go_ret
    exact ⟨rfl, hB4⟩
end Go.Proofs.Ytgipjjhkhfihpaa

namespace Go.Proofs.Ytgipjjhkhfihpaa
open Go.ChangeShapes Go.WideShapes Go.ChangeAt Go.RowKit

set_option maxRecDepth 100000 in
theorem wrong_lifted (os : Os) (started : os.Started) (H : Type) (enc : TypeId × Value → H) :
    ReturnsInHanded {} Try.checked os 4 .any (Rows.wrongSpec.pre6 enc Try.prog Try.f4 Rows.wrongRow.domain false) (Rows.wrongSpec.post enc Try.prog Try.f4 false true false false) := by
  refine returnsInHanded_of_change (C := Try.checked) Try.own started (by kernel_rfl) Try.func4
    (ChangeSpec.witness6 (enc := enc) (C := Try.checked) false ⟨#[], #[.int .i64 0], []⟩ 8 (by kernel_rfl) (by kernel_rfl) (by kernel_rfl) (by kernel_rfl)) ?_
  intro W base args ds gs before hval0 hW hcnd _
  have hval : ∀ (j : Nat) t v, Try.f4.params[j]? = some t → args[j]? = some v → Value.okWide Try.prog W .any base t v := hval0
  have hW' := hW
  obtain ⟨p, q, hA0, hV, rfl, hfz, hnd⟩ := hW
  have hA : DataW.TrodAll enc Try.prog W 0 (fun _ => true) true Try.f4.params.toList args.toList ds p := hA0
  rw [Try.params4] at hA hval
  obtain ⟨v0, vs0, d0, ds0, p0, q0, hargs, rfl, rfl, h0, r0⟩ := trodAll_cons hA
  obtain ⟨rfl, rfl, rfl⟩ := trodAll_nil r0
  obtain rfl : args = #[v0] := by cases args; simp_all
  obtain ⟨rfl, rfl⟩ := trodVars_none hV
  obtain ⟨a0, rfl, rfl, rfl, w0⟩ := open_int Try.underlying3 (hval 0 3 v0 rfl rfl) h0
  clear hA0 hval0
  simp only [List.append_nil] at hW'
  have hb0 := i64_of_wf w0
  refine (wrong_any a0 W hb0.1 hb0.2).mono fun e W' ⟨he, bel⟩ => ?_
  subst he
  exact ⟨_, rfl, _, _, _, [], _, [], hW', trodAll_mk1 (shut_bool Try.underlying4 _), trodAll_mk1 (shut_int Try.underlying3 w0), rfl, bel.frame _, fun h => by cases h⟩

theorem wrong_holds : Rows.WrongSaid :=
  OpenClaim.holds_of_wide 4 Try.f4 rfl rfl rfl rfl rfl rfl rfl ⟨rfl, rfl, rfl, rfl, rfl⟩ rfl rfl rfl rfl rfl (by kernel_rfl) Try.func4 (by kernel_rfl)
    (of_decide_eq_true (by kernel_rfl)) (by unfold Func.isWrapper; first | (rw [if_pos (by decide +kernel)]; kernel_rfl) | (rw [if_neg (by decide +kernel)]; exact ⟨rfl, rfl⟩))
    (fun os started H enc _ => wrong_lifted os started H enc)
#print axioms wrong_holds
end Go.Proofs.Ytgipjjhkhfihpaa
