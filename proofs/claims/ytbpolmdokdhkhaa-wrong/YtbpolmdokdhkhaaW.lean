import Derived.Test.YtbpolmdokdhkhaaA
import Derived.Laws.Tables
import Derived.Test.YtbpolmdokdhkhaaJ
import Derived.Test.YtbpolmdokdhkhaaD
import Derived.Test.YtbpolmdokdhkhaaF
import Derived.Test.YtbpolmdokdhkhaaRows
import Derived.ProofKit
import Derived.SizedLaws
import Derived.OpenShut
import Derived.Deep.Slices
import Derived.WalkKit
namespace Go.Proofs.Ytbpolmdokdhkhaa
open Go.RowKit

/-- A slice literal of many parts, without simp going through the parts. -/
theorem wp_buildSlice {P : Program} {o : Oper} {a : Act} {w : World} {K : Act → World → Prop} {Q : Exit → Act → World → Prop} (t e : TypeId) (len : Nat) (parts : Array (Nat × Operand)) (ho : o.op = .buildSlice t len parts)
    (i : TypeInfo) (z : Value) (size : Nat) (hu : P.underlying t = some (.slice e)) (hi : P.info? e = some i) (hz : i.zero = some z) (hsz : i.size = size) (hle : ¬ len * size > 2 ^ 24) (hne : ¬ len * size = 0) (cells : Array Value)
    (hf : Instr.fill (fun k => some (k * size, size)) ((Array.range (len * size)).map (z.cells[· % z.cells.size]!)) (parts.map fun (k, x) => (k, a.eval x)).toList = some cells)
    (h : K (a.put o.dst (.slice (some ⟨w.heap.size, 0, none⟩) len len)) (w.alloc (.cells cells e))) : o.wp P a w K Q := by
  subst hsz
  have hr : (Instr.buildSlice t len (parts.map fun (k, x) => (k, a.eval x))).run P w = .ok (.slice (some ⟨w.heap.size, 0, none⟩) len len) (w.alloc (.cells cells e)) := by
    simp only [gt_iff_lt] at hle
    simp [Instr.buildSlice, run_underlying hu, sizeOf, typeInfo, zeroValue, hi, hz, hle, hne]
    have hf' : Instr.fill (fun k => some (k * i.size, i.size)) ((Array.range (len * i.size)).map (z.cells[· % z.cells.size]!)) (parts.toList.map (fun x => (x.1, a.eval x.2))) = some cells := by simpa using hf
    rw [hf']
    rfl
  unfold Oper.wp execOp
  simp only [ho, Sem.run_bind, hr, Result.andThen_ok]
  exact h
end Go.Proofs.Ytbpolmdokdhkhaa

namespace Go.Proofs.Ytbpolmdokdhkhaa
open Go.RowKit

/-- A formula and a proof, one of which is none, and where. -/
structure Fault where
  s : List UInt8
  e : Nat
  line : Nat
  proof : List UInt8
  at_ : Nat
def faultList : List Fault := [
    ⟨[101, 10], 2, 1, [], 0⟩,
    ⟨[101, 32, 49, 32, 49, 10], 2, 1, [], 0⟩,
    ⟨[101, 32, 49, 10, 97, 32, 49, 10], 2, 2, [], 0⟩,
    ⟨[101, 32, 57, 10], 2, 1, [], 0⟩,
    ⟨[99, 32, 49, 10, 101, 32, 49, 10], 2, 2, [], 0⟩,
    ⟨[99, 32, 48, 10], 2, 1, [], 0⟩,
    ⟨[99, 32, 49], 2, 1, [], 0⟩,
    ⟨[10], 2, 1, [], 0⟩,
    ⟨[99, 32, 32, 49, 10], 2, 1, [], 0⟩,
    ⟨[99, 32, 45, 45, 49, 10], 2, 1, [], 0⟩,
    ⟨[99, 32, 49, 48, 10], 2, 1, [], 0⟩,
    ⟨[101, 32, 45, 49, 10], 2, 1, [], 0⟩,
    ⟨[120, 10], 2, 1, [], 0⟩,
    ⟨[97, 32, 49, 10, 101, 32, 50, 10, 99, 32, 49, 32, 50, 10, 99, 32, 45, 49, 32, 50, 10, 99, 32, 45, 50, 10], 0, 0, [112, 114, 111, 111, 102, 32, 102, 97, 108, 115, 101, 10, 97, 32, 49, 10, 97, 32, 50, 10, 114, 32, 49, 32, 50, 32, 49, 10], 4⟩,
    ⟨[101, 32, 49, 10, 97, 32, 50, 10, 99, 32, 49, 32, 50, 10, 99, 32, 45, 49, 32, 50, 10], 0, 0, [112, 114, 111, 111, 102, 32, 116, 114, 117, 101, 10, 99, 32, 49, 32, 50, 10, 99, 32, 45, 49, 32, 50, 10, 114, 32, 49, 32, 50, 32, 49, 10], 4⟩,
    ⟨[97, 32, 49, 10, 101, 32, 50, 10, 99, 32, 49, 32, 50, 10, 99, 32, 45, 49, 32, 45, 50, 10], 0, 0, [], 1⟩,
    ⟨[97, 32, 49, 10, 101, 32, 50, 10, 99, 32, 49, 32, 50, 10, 99, 32, 45, 49, 32, 45, 50, 10], 0, 0, [112, 114, 111, 111, 102, 32, 116, 114, 117, 101], 1⟩,
    ⟨[97, 32, 49, 10, 101, 32, 50, 10, 99, 32, 49, 32, 50, 10, 99, 32, 45, 49, 32, 45, 50, 10], 0, 0, [112, 114, 111, 111, 102, 10], 1⟩,
    ⟨[97, 32, 49, 10, 101, 32, 50, 10, 99, 32, 49, 32, 50, 10, 99, 32, 45, 49, 32, 45, 50, 10], 0, 0, [112, 114, 111, 111, 102, 32, 116, 114, 117, 101, 10], 2⟩,
    ⟨[97, 32, 49, 10, 101, 32, 50, 10, 99, 32, 49, 32, 50, 10, 99, 32, 45, 49, 32, 45, 50, 10], 0, 0, [112, 114, 111, 111, 102, 32, 116, 114, 117, 101, 10, 99, 10], 2⟩,
    ⟨[97, 32, 49, 10, 101, 32, 50, 10, 99, 32, 49, 32, 50, 10, 99, 32, 45, 49, 32, 45, 50, 10], 0, 0, [112, 114, 111, 111, 102, 32, 116, 114, 117, 101, 10, 97, 32, 49, 10], 2⟩,
    ⟨[97, 32, 49, 10, 101, 32, 50, 10, 99, 32, 49, 32, 50, 10, 99, 32, 45, 49, 32, 45, 50, 10], 0, 0, [112, 114, 111, 111, 102, 32, 116, 114, 117, 101, 10, 99, 32, 49, 32, 45, 50, 10], 3⟩,
    ⟨[97, 32, 49, 10, 101, 32, 50, 10, 99, 32, 49, 32, 50, 10, 99, 32, 45, 49, 32, 45, 50, 10], 0, 0, [112, 114, 111, 111, 102, 32, 116, 114, 117, 101, 10, 99, 32, 50, 32, 49, 10], 2⟩,
    ⟨[97, 32, 49, 10, 101, 32, 50, 10, 99, 32, 49, 32, 50, 10, 99, 32, 45, 49, 32, 45, 50, 10], 0, 0, [112, 114, 111, 111, 102, 32, 116, 114, 117, 101, 10, 99, 32, 49, 32, 45, 50, 32, 51, 10], 2⟩,
    ⟨[97, 32, 49, 10, 101, 32, 50, 10, 99, 32, 49, 32, 50, 10, 99, 32, 45, 49, 32, 45, 50, 10], 0, 0, [112, 114, 111, 111, 102, 32, 116, 114, 117, 101, 10, 99, 32, 49, 32, 45, 50, 10, 99, 32, 45, 49, 32, 50, 10, 114, 32, 49, 32, 50, 32, 49, 10], 4⟩,
    ⟨[97, 32, 49, 10, 101, 32, 50, 10, 99, 32, 49, 32, 50, 10, 99, 32, 45, 49, 32, 45, 50, 10], 0, 0, [112, 114, 111, 111, 102, 32, 116, 114, 117, 101, 10, 99, 32, 49, 32, 45, 50, 10, 100, 32, 49, 10, 99, 32, 45, 49, 32, 50, 10, 100, 32, 51, 10, 114, 32, 52, 32, 50, 32, 49, 10], 6⟩,
    ⟨[101, 32, 50, 10, 97, 32, 49, 10, 99, 32, 49, 32, 50, 10, 99, 32, 45, 49, 32, 45, 50, 10], 0, 0, [112, 114, 111, 111, 102, 32, 102, 97, 108, 115, 101, 10, 97, 32, 51, 10], 2⟩,
    ⟨[101, 32, 50, 10, 97, 32, 49, 10, 99, 32, 49, 32, 50, 10, 99, 32, 45, 49, 32, 45, 50, 10], 0, 0, [112, 114, 111, 111, 102, 32, 102, 97, 108, 115, 101, 10, 97, 32, 49, 10, 100, 32, 50, 10], 3⟩,
    ⟨[101, 32, 50, 10, 97, 32, 49, 10, 99, 32, 49, 32, 50, 10, 99, 32, 45, 49, 32, 45, 50, 10], 0, 0, [112, 114, 111, 111, 102, 32, 102, 97, 108, 115, 101, 10, 97, 32, 49, 10, 100, 32, 49, 10, 100, 32, 50], 4⟩,
    ⟨[101, 32, 50, 10, 97, 32, 49, 10, 99, 32, 49, 32, 50, 10, 99, 32, 45, 49, 32, 45, 50, 10], 0, 0, [112, 114, 111, 111, 102, 32, 102, 97, 108, 115, 101, 10, 97, 32, 49, 10, 97, 32, 50, 10, 114, 32, 49, 32, 50, 32, 50, 10], 4⟩,
    ⟨[101, 32, 50, 10, 97, 32, 49, 10, 99, 32, 49, 32, 50, 10, 99, 32, 45, 49, 32, 45, 50, 10], 0, 0, [112, 114, 111, 111, 102, 32, 102, 97, 108, 115, 101, 10, 97, 32, 49, 10, 97, 32, 50, 10, 114, 32, 49, 32, 50, 32, 49, 10], 4⟩,
    ⟨[101, 32, 50, 10, 97, 32, 49, 10, 99, 32, 49, 32, 50, 10, 99, 32, 45, 49, 32, 45, 50, 10], 0, 0, [112, 114, 111, 111, 102, 32, 102, 97, 108, 115, 101, 10, 97, 32, 49, 10, 97, 32, 50, 10, 100, 32, 49, 10, 100, 32, 50, 10, 114, 32, 51, 32, 52, 32, 49, 10], 6⟩,
    ⟨[101, 32, 50, 10, 97, 32, 49, 10, 99, 32, 49, 32, 50, 10, 99, 32, 45, 49, 32, 45, 50, 10], 0, 0, [112, 114, 111, 111, 102, 32, 102, 97, 108, 115, 101, 10, 99, 32, 49, 10], 2⟩,
    ⟨[101, 32, 50, 10, 97, 32, 49, 10, 99, 32, 49, 32, 50, 10, 99, 32, 45, 49, 32, 45, 50, 10], 0, 0, [112, 114, 111, 111, 102, 32, 102, 97, 108, 115, 101, 10, 97, 32, 48, 49, 10], 2⟩,
    ⟨[97, 32, 49, 10, 101, 32, 50, 10, 99, 32, 49, 32, 50, 10, 99, 32, 45, 49, 32, 45, 50, 10], 0, 0, [112, 114, 111, 111, 102, 32, 102, 97, 108, 115, 101, 10, 97, 32, 49, 10, 100, 32, 49, 10, 97, 32, 50, 10, 100, 32, 51, 10, 114, 32, 50, 32, 52, 32, 50, 10], 6⟩]
def Fault.cells (f : Fault) : List Value := [S f.s, .int .i64 (f.e : Int), .int .i64 (f.line : Int), S f.proof, .int .i64 (f.at_ : Int)]
def faultOk (f : Fault) : Bool := match loadSpec f.s with
  | .inl (x, i) => x == f.e && i == f.line
  | .inr q => f.e == 0 && f.line == 0 && decide (checkQ q f.proof = (0, 5, f.at_))
set_option maxRecDepth 100000 in
theorem faults_ok : faultList.all faultOk = true := by decide +kernel

end Go.Proofs.Ytbpolmdokdhkhaa

namespace Go.Proofs.Ytbpolmdokdhkhaa
open Go.RowKit

theorem Try.info30 : (Try.prog.info? 30).map (fun i => (i.zero, i.size, i.bytes)) = some (some (.agg #[.string ⟨#[]⟩, .int .i64 0, .int .i64 0, .string ⟨#[]⟩, .int .i64 0]), 5, 56) := by kernel_rfl

set_option maxRecDepth 100000 in
set_option maxHeartbeats 6400000 in
theorem faults_any (w : World) : Calls Try.prog 9 #[] w fun e w' => e = .returned (.slice (some ⟨w.heap.size, 0, none⟩) 35 35) ∧ w' = w.alloc (.cells (faultList.flatMap Fault.cells).toArray 30) := by
  obtain ⟨i0, hi, hz0, hz1, hz2⟩ := info_parts Try.info30
  go_enter Try.func9, Try.ntmps9
  go_wp2_with fail
  refine wp_buildSlice 26 30 35 _ rfl i0 _ 5 Try.underlying26 hi hz0 hz1 (by decide) (by decide) (faultList.flatMap Fault.cells).toArray (by kernel_rfl) ?_
  go_wp2_with fail
  go_ret
  exact ⟨rfl, rfl⟩
end Go.Proofs.Ytbpolmdokdhkhaa

namespace Go.Proofs.Ytbpolmdokdhkhaa
open Go.RowKit

set_option maxRecDepth 100000 in
set_option maxHeartbeats 400000 in
theorem kpick_any (c : Int) (n : Nat) (w : World) (hn : 0 < n) (hn2 : n ≤ 1048576) (h1 : -9223372036854775808 ≤ c) (h2 : c ≤ 9223372036854775807) :
    Calls Try.prog 10 #[.int .i64 c, .int .i64 n] w fun e w' => ∃ r : Nat, e = .returned (.int .i64 r) ∧ r < n ∧ w' = w := by
  by_cases hc : c < 0
  · have hd : decide (c < 0) = true := by simpa using hc
    go_enter Try.func10, Try.ntmps10
    go_wp2_with fail
    go_ret
    have e : -((c + 1).tmod n) = (-(c + 1)) % n := by rw [← Int.neg_tmod, Int.tmod_eq_emod_of_nonneg (by omega)]
    have e1 := Int.emod_nonneg (-(c + 1)) (show (n : Int) ≠ 0 by omega)
    have e2 := Int.emod_lt_of_pos (-(c + 1)) (show (0 : Int) < n by omega)
    refine ⟨((-(c + 1)) % n).toNat, ret_int ?_, by omega, rfl⟩
    omega
  · have hd : decide (c < 0) = false := by simpa using hc
    go_enter Try.func10, Try.ntmps10
    go_wp2_with fail
    go_ret
    refine ⟨(c % n).toNat, ?_, ?_, rfl⟩
    · refine ret_int ?_
      have := Int.emod_nonneg c (show (n : Int) ≠ 0 by omega)
      omega
    · have := Int.emod_nonneg c (show (n : Int) ≠ 0 by omega)
      have := Int.emod_lt_of_pos c (show (0 : Int) < n by omega)
      omega

theorem faultCells_at (l : List Fault) (k j : Nat) (h : k < l.length) (hj : j < 5) : (l.flatMap Fault.cells)[k * 5 + j]? = l[k].cells[j]? := by
  induction l generalizing k with
  | nil => simp at h
  | cons a l ih =>
    cases k with
    | zero =>
      simp only [List.flatMap_cons]
      rw [List.getElem?_append_left (by simp [Fault.cells]; omega)]
      simp
    | succ k =>
      have := ih k (by simpa using h)
      simp only [List.flatMap_cons] at this ⊢
      rw [show (k + 1) * 5 + j = k * 5 + j + 5 from by omega, List.getElem?_append_right (by simp [Fault.cells])]
      simpa [Fault.cells] using this
theorem fault_len : faultList.length = 35 := rfl
theorem fault_ok (k : Nat) (h : k < faultList.length) : faultOk faultList[k] = true := by
  have := faults_ok
  rw [List.all_eq_true] at this
  exact this _ (List.getElem_mem h)

set_option maxRecDepth 100000 in
set_option maxHeartbeats 3200000 in
theorem wrong_any (c : Int) (w : World) (h1 : -9223372036854775808 ≤ c) (h2 : c ≤ 9223372036854775807) :
    Calls Try.prog 7 #[.int .i64 c] w fun e w' => e = .returned (.bool true) ∧ Below w.heap.size w w' := by
  go_enter Try.func7, Try.ntmps7
  go_wp2_with fail
  refine (faults_any w).mono ?_
  rintro e w1 ⟨rfl, hw1⟩
  have hB1 : Below w.heap.size w w1 := by rw [hw1]; exact (Below.refl _ _).alloc (Nat.le_refl _) _
  have hblk : w1.heap[w.heap.size]? = some (.cells (faultList.flatMap Fault.cells).toArray 30 (0, 0)) := by rw [hw1]; exact heap_alloc_new _ _
  clear hw1
  have HC : Hid (∀ (r : Nat) (hr : r < faultList.length) (j : Nat) (hj : j < 5) (u : Value), faultList[r].cells[j]? = some u → w1.cell? ⟨w.heap.size, r * 5 + j, none⟩ = some u) := hide (fun r hr j hj u hu => by
    rw [blk_cell hblk]
    rw [List.getElem?_toArray, faultCells_at faultList r j hr hj]; exact hu)
  have hl1 := blk_lt hblk
  clear hblk
  go_wp2_with fail
  refine (kpick_any c 35 w1 (by omega) (by omega) h1 h2).mono ?_
  rintro e w2 ⟨r, rfl, hr, hw2⟩
  subst hw2
  have hr' : r < faultList.length := by rw [fault_len]; exact hr
  have x0 := unhide HC r hr' 0 (by omega) _ rfl
  have x1 := unhide HC r hr' 1 (by omega) _ rfl
  have x2 := unhide HC r hr' 2 (by omega) _ rfl
  have x3 := unhide HC r hr' 3 (by omega) _ rfl
  have x4 := unhide HC r hr' 4 (by omega) _ rfl
  have hok := fault_ok r hr'
  have HOK := hide hok
  clear hok HC
  generalize faultList[r] = f at *
  obtain ⟨s, fe, fl, pf, fa⟩ := f
  dsimp only at *
  rw [Nat.add_zero] at x0
  go_wp2_with fail
  have hA : Below w2.heap.size w2 (w2.alloc (.cells #[S s, .int .i64 (fe : Int), .int .i64 (fl : Int), S pf, .int .i64 (fa : Int)] 30)) := (Below.refl _ _).alloc (Nat.le_refl _) _
  have hx0 := heap_alloc_new w2 (.cells #[S s, .int .i64 (fe : Int), .int .i64 (fl : Int), S pf, .int .i64 (fa : Int)] 30)
  have hB2 := hB1.trans (hA.mono hB1.size)
  refine (load_any s _).mono ?_
  rintro e w3 ⟨hb3, hp⟩
  have hB3 : Below w.heap.size w w3 := hB2.trans (hb3.mono hB2.size)
  have hx3 := (hb3.block _ (blk_lt hx0)).trans hx0
  have y1 : w3.cell? ⟨w2.heap.size, 1, none⟩ = some (.int .i64 fe) := by rw [blk_cell hx3]; rfl
  have y2 : w3.cell? ⟨w2.heap.size, 2, none⟩ = some (.int .i64 fl) := by rw [blk_cell hx3]; rfl
  have y3 : w3.cell? ⟨w2.heap.size, 3, none⟩ = some (S pf) := by rw [blk_cell hx3]; rfl
  have y4 : w3.cell? ⟨w2.heap.size, 4, none⟩ = some (.int .i64 fa) := by rw [blk_cell hx3]; rfl
  have hl3 := blk_lt hx3
  clear x0 x1 x2 x3 x4
  have hok := unhide HOK
  unfold faultOk at hok
  have hse := spec_eq s
  cases hq : loadSpec s with
  | inl xi =>
    obtain ⟨x, i⟩ := xi
    rw [hq] at hok hp
    have hp' : e = .returned (.tuple #[.pointer none, .int .i64 (x : Int), .int .i64 (i : Int)]) := hp
    subst hp'
    simp only [Bool.and_eq_true, beq_iff_eq] at hok
    obtain ⟨e1, e2⟩ := hok
    subst e1 e2
    have hxp := loadSpec_pos s x i hq
    have hxb : ((x : Int) != 0) = true := by rw [bne_iff_ne]; omega
    have hxx : ((x : Int) != (x : Int)) = false := by simp
    have hii : ((i : Int) != (i : Int)) = false := by simp
    clear hp hq hse
    go_wp2_with fail
    go_ret
    exact ⟨rfl, hB3⟩
  | inr q =>
    rw [hq] at hok hp hse
    obtain ⟨b, rfl, hP⟩ := hp
    obtain ⟨st, q0, _, hsame, hqq, h24, hN⟩ := hse
    have hQB : QB q := by rw [hqq]; exact qb_of hN h24
    simp only [Bool.and_eq_true, beq_iff_eq, decide_eq_true_eq] at hok
    obtain ⟨⟨e1, e2⟩, e3⟩ := hok
    subst e1 e2
    have HCK := hide e3
    clear e3 hq hqq
    go_wp2_with fail
    refine (check_any _ b q pf w3 hP hQB).mono ?_
    rintro e w4 ⟨hb4, rfl⟩
    rw [unhide HCK]
    dsimp only
    have hB4 : Below w.heap.size w w4 := hB3.trans (hb4.mono hB3.size)
    have hx4 := (hb4.block _ hl3).trans hx3
    have v4 : w4.cell? ⟨w2.heap.size, 4, none⟩ = some (.int .i64 fa) := by rw [blk_cell hx4]; rfl
    have haa : ((fa : Int) == (fa : Int)) = true := by simp
    go_wp2_with fail
    go_ret
    exact ⟨rfl, hB4⟩
end Go.Proofs.Ytbpolmdokdhkhaa

namespace Go.Proofs.Ytbpolmdokdhkhaa
open Go.ChangeShapes Go.WideShapes Go.ChangeAt Go.RowKit Go.Deep

theorem Try.cellsOp : Try.prog.cellsOf 39 = 6 := by kernel_rfl
theorem Try.cellsInt : Try.prog.cellsOf 3 = 1 := by kernel_rfl
theorem Try.cellsStr : Try.prog.cellsOf 9 = 1 := by kernel_rfl
theorem Try.bytesOp : Try.prog.bytesOf 39 = 64 := by kernel_rfl
theorem Try.own : ownKnob Try.prog.godebug = none := by kernel_rfl
theorem Try.laidOut : laidOutB Try.prog = true := by kernel_rfl

section
variable {H : Type} {enc : TypeId × Value → H} {w : World} {base : Nat} {spare : Nat → Bool} {held : Bool}

def OpV.data (o : OpV) : DataW H := .agg [.lit (.int .i64 o.kind), .lit (.int .i64 o.a), .lit (.int .i64 o.b), .lit (.int .i64 o.c), .lit (.string o.s), .lit (.string o.t)]

theorem i64_of_wf {x : Int} (h : (Lit.int .i64 x).wf = true) : i64ok x := bounds_i64 h

set_option maxRecDepth 100000 in
set_option maxHeartbeats 800000 in
theorem open_op {n : Nat} {cs : List Value} {x : DataW H × List MemPlace} (h : DataW.trod enc Try.prog w base spare held n 39 cs = some x) : ∃ o : OpV, cs = o.cells ∧ o.Ok ∧ x.1 = o.data := by
  obtain ⟨xs, m, _, hx, hl, hlen, hf⟩ := DataW.trod_struct Try.underlying39 h
  rw [Try.cellsOp] at hl
  match cs, hl with
  | [c0, c1, c2, c3, c4, c5], _ =>
    have hlen' : xs.length = 6 := hlen
    match xs, hlen' with
    | [y0, y1, y2, y3, y4, y5], _ =>
      have h0 : DataW.trod enc Try.prog w base spare held m 3 [c0] = some y0 := by simpa [Try.cellsInt] using hf 0 _ rfl
      have h1 : DataW.trod enc Try.prog w base spare held m 3 [c1] = some y1 := by simpa [Try.cellsInt] using hf 1 _ rfl
      have h2 : DataW.trod enc Try.prog w base spare held m 3 [c2] = some y2 := by simpa [Try.cellsInt] using hf 2 _ rfl
      have h3 : DataW.trod enc Try.prog w base spare held m 3 [c3] = some y3 := by simpa [Try.cellsInt] using hf 3 _ rfl
      have h4 : DataW.trod enc Try.prog w base spare held m 9 [c4] = some y4 := by simpa [Try.cellsStr] using hf 4 _ rfl
      have h5 : DataW.trod enc Try.prog w base spare held m 9 [c5] = some y5 := by simpa [Try.cellsStr] using hf 5 _ rfl
      obtain ⟨k0, e0, rfl, w0⟩ := DataW.trod_int Try.underlying3 h0
      obtain ⟨k1, e1, rfl, w1⟩ := DataW.trod_int Try.underlying3 h1
      obtain ⟨k2, e2, rfl, w2⟩ := DataW.trod_int Try.underlying3 h2
      obtain ⟨k3, e3, rfl, w3⟩ := DataW.trod_int Try.underlying3 h3
      obtain ⟨s4, e4, rfl, w4⟩ := DataW.trod_string Try.underlying9 h4
      obtain ⟨s5, e5, rfl, w5⟩ := DataW.trod_string Try.underlying9 h5
      simp at e0 e1 e2 e3 e4 e5
      subst e0 e1 e2 e3 e4 e5
      exact ⟨⟨k0, k1, k2, k3, s4.data.toList, s5.data.toList⟩, rfl, ⟨i64_of_wf w0, i64_of_wf w1, i64_of_wf w2, i64_of_wf w3⟩, by rw [hx]; rfl⟩

theorem open_script {fuel : Nat} {ao : Option Addr} {len cap : Nat} {x : DataW H × List MemPlace} (h : DataW.trod enc Try.prog w 0 spare held fuel 22 [.slice ao len cap] = some x) :
    ∃ ops : List OpV, ops.length = len ∧ ScriptAt w ao ops ∧ (∀ o ∈ ops, o.Ok) ∧ ((ops = [] ∧ len = 0) ∨ ∃ sp, x.1 = .slice (ops.map OpV.data) sp) := by
  rcases open_slice Try.underlying22 h with ⟨hcs, _⟩ | ⟨a, len', cap', m, n, D, Pl, hcs, _, hl, hm, hm', hx, hel⟩
  · simp at hcs
    obtain ⟨rfl, rfl, rfl⟩ := hcs
    exact ⟨[], rfl, fun h => absurd rfl h, by simp, Or.inl ⟨rfl, rfl⟩⟩
  · simp at hcs
    obtain ⟨rfl, rfl, rfl⟩ := hcs
    have hlm : len ≤ m := by rw [hm']; split <;> omega
    have hex : ∀ i, i < len → ∃ o : OpV, w.cells? 0 (a.add (i * 6)) 6 = some o.cells ∧ o.Ok ∧ D i = o.data := by
      intro i hi
      obtain ⟨cs', h1, h2⟩ := hel i (by omega)
      rw [Try.cellsOp] at h1
      obtain ⟨o, rfl, h3, h4⟩ := open_op h2
      exact ⟨o, h1, h3, h4⟩
    obtain ⟨O, hO⟩ : ∃ O : Nat → OpV, ∀ i, i < len → w.cells? 0 (a.add (i * 6)) 6 = some (O i).cells ∧ (O i).Ok ∧ D i = (O i).data :=
      ⟨fun i => if h : i < len then Classical.choose (hex i h) else ⟨0, 0, 0, 0, [], []⟩, fun i hi => by
        simp only [hi, dif_pos]; exact Classical.choose_spec (hex i hi)⟩
    refine ⟨(List.range len).map O, by simp, ?_, ?_, Or.inr ⟨(List.range (m - len)).map fun j => D (len + j), ?_⟩⟩
    · intro hne
      have h0 : 0 < len := by
        rcases Nat.eq_zero_or_pos len with h0 | h0
        · subst h0; simp at hne
        · exact h0
      have hcell : ∀ k (hk : k < len) j (_ : j < 6) u, (O k).cells[j]? = some u → w.cell? ((a.add (k * 6)).add j) = some u := by
        intro k hk j hj u hu
        obtain ⟨_, hlen, hc⟩ := World.cells?_some (hO k hk).1
        rw [hc j (by omega)]; exact hu
      obtain ⟨b, off, spot⟩ := a
      have hsp : spot = none := by
        have h1 := hcell 0 h0 0 (by omega) _ rfl
        simpa [Addr.add] using World.cell?_spot h1
      subst hsp
      have hadd : ∀ k j, ((⟨b, off, none⟩ : Addr).add (k * 6)).add j = ⟨b, off + (k * 6 + j), none⟩ := by
        intro k j; rw [add_plain, add_plain, Nat.add_assoc]
      refine ⟨b, off, rfl, ?_, ?_⟩
      · have h1 := hcell 0 h0 0 (by omega) _ rfl
        exact World.block_lt_of_cell? w _ h1
      · intro k hk j hj u hu
        have hk' : k < len := by simpa using hk
        rw [← hadd]
        refine hcell k hk' j hj u ?_
        simpa using hu
    · intro o ho
      simp at ho
      obtain ⟨i, hi, rfl⟩ := ho
      exact (hO i hi).2.1
    · rw [hx]
      show DataW.slice _ _ = _
      congr 1
      rw [List.map_map]
      apply List.map_congr_left
      intro i hi
      exact (hO i (by simpa using hi)).2.2

theorem weightsAll_in {P : Program} {e : TypeId} : ∀ {l : List (DataW H)} {d : DataW H}, d ∈ l → ∀ n ∈ d.weights P e, n ∈ DataW.weightsAll P e l
  | d0 :: l, d, hd, n, hn => by
    simp only [DataW.weightsAll, List.mem_append]
    rcases List.mem_cons.1 hd with rfl | h
    · exact Or.inl hn
    · exact Or.inr (weightsAll_in h n hn)

set_option maxRecDepth 100000 in
theorem sized_script {ops : List OpV} {sp : List (DataW H)} (h : (DataW.weightsEach Try.prog [22] [.slice (ops.map OpV.data) sp]).all (· ≤ reachBytes) = true) : Sized ops ∧ ops.length ≤ 140737488355328 := by
  constructor
  · intro o ho
    have key : ∀ n ∈ (o.data : DataW H).weights Try.prog 39, n ≤ reachBytes := by
      intro n hn
      refine of_decide_eq_true (List.all_eq_true.1 h n (DataW.weights_mem_each (j := 0) rfl rfl n ?_))
      simp only [DataW.weights, Try.underlying22, List.mem_cons, List.mem_append]
      exact Or.inr (Or.inl (weightsAll_in (List.mem_map_of_mem ho) n hn))
    have hr : reachBytes < 2 ^ 47 := reachBytes_lt
    have k1 := key o.s.length (by simp [OpV.data, DataW.weights, DataW.weightsEach, Try.underlying39])
    have k2 := key o.t.length (by simp [OpV.data, DataW.weights, DataW.weightsEach, Try.underlying39])
    constructor <;> omega
  · have := sized_slice h (j := 0) (t := 22) (e := 39) rfl rfl Try.underlying22
    rw [Try.bytesOp] at this
    have hr : reachBytes < 2 ^ 47 := reachBytes_lt
    simp at this
    omega
end
end Go.Proofs.Ytbpolmdokdhkhaa

namespace Go.Proofs.Ytbpolmdokdhkhaa
open Go.ChangeShapes Go.WideShapes Go.ChangeAt Go.RowKit

set_option maxRecDepth 100000 in
theorem wrong_lifted (os : Os) (started : os.Started) (H : Type) (enc : TypeId × Value → H) :
    ReturnsInHanded {} Try.checked os 7 .any (Rows.wrongSpec.pre6 enc Try.prog Try.f7 Rows.wrongRow.domain false) (Rows.wrongSpec.post enc Try.prog Try.f7 false true false false) := by
  refine returnsInHanded_of_change (C := Try.checked) Try.own started (by kernel_rfl) Try.func7
    (ChangeSpec.witness6 (enc := enc) (C := Try.checked) false ⟨#[], #[.int .i64 0], []⟩ 8 (by kernel_rfl) (by kernel_rfl) (by kernel_rfl) (by kernel_rfl)) ?_
  intro W base args ds gs before hval0 hW hcnd _
  have hval : ∀ (j : Nat) t v, Try.f7.params[j]? = some t → args[j]? = some v → Value.okWide Try.prog W .any base t v := hval0
  have hW' := hW
  obtain ⟨p, q, hA0, hV, rfl, hfz, hnd⟩ := hW
  have hA : DataW.TrodAll enc Try.prog W 0 (fun _ => true) true Try.f7.params.toList args.toList ds p := hA0
  rw [Try.params7] at hA hval
  obtain ⟨v0, vs0, d0, ds0, p0, q0, hargs, rfl, rfl, h0, r0⟩ := trodAll_cons hA
  obtain ⟨rfl, rfl, rfl⟩ := trodAll_nil r0
  obtain rfl : args = #[v0] := by cases args; simp_all
  obtain ⟨rfl, rfl⟩ := trodVars_none hV
  obtain ⟨a0, rfl, rfl, rfl, w0⟩ := open_int Try.underlying3 (hval 0 3 v0 rfl rfl) h0
  clear hA0 hval0
  simp only [List.append_nil] at hW'
  have hb0 := i64_of_wf w0
  refine (wrong_any a0 W hb0.1 hb0.2).mono fun e W' ⟨he, bel⟩ => ?_
  subst he
  exact ⟨_, rfl, _, _, _, [], _, [], hW', trodAll_mk1 (shut_bool Try.underlying4 _), trodAll_mk1 (shut_int Try.underlying3 w0), rfl, bel.frame _, fun h => by cases h⟩

theorem wrong_holds : Rows.WrongSaid :=
  OpenClaim.holds_of_wide 7 Try.f7 rfl rfl rfl rfl rfl rfl rfl ⟨rfl, rfl, rfl, rfl, rfl⟩ rfl rfl rfl rfl rfl (by kernel_rfl) Try.func7 (by kernel_rfl)
    (of_decide_eq_true (by kernel_rfl)) (by unfold Func.isWrapper; first | (rw [if_pos (by decide +kernel)]; kernel_rfl) | (rw [if_neg (by decide +kernel)]; exact ⟨rfl, rfl⟩))
    (fun os started H enc _ => wrong_lifted os started H enc)
#print axioms wrong_holds
end Go.Proofs.Ytbpolmdokdhkhaa
