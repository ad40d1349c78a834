import Derived.Test.YtgipjjhkhfihpabGreatDoorAK
import Derived.Test.YtgipjjhkhfihpabGreatDoorBF
import Derived.Test.YtgipjjhkhfihpabGreatDoorAA
import Derived.Laws.Tables
import Derived.Test.YtgipjjhkhfihpabGreatDoorBK
import Derived.Test.YtgipjjhkhfihpabGreatDoorAZ
import Derived.Test.YtgipjjhkhfihpabGreatDoorBA
import Derived.Test.YtgipjjhkhfihpabGreatDoorCards
import Derived.Test.YtgipjjhkhfihpabGreatDoorTie
import Derived.ProofKit
import Derived.LaidMore
import Derived.Stop.Joined
import Derived.Lib.LaidTab
import Derived.OpenShut
import Derived.Deep.DeepHandedRow
import Derived.WalkKit
import Derived.ChangeMaps5
namespace Go.Proofs.YtgipjjhkhfihpabGreatDoor
open Go.RowKit

/-! ### Known formulas -/
structure Famous where
  s : List UInt8
  kind : Nat
  proof : List UInt8
def knownList : List Famous := [
    ⟨[], 2, [112, 114, 111, 111, 102, 32, 116, 114, 117, 101, 10, 99, 10]⟩,
    ⟨[99, 10], 1, [112, 114, 111, 111, 102, 32, 102, 97, 108, 115, 101, 10, 97, 32, 49, 10]⟩,
    ⟨[97, 32, 49, 10], 2, [112, 114, 111, 111, 102, 32, 116, 114, 117, 101, 10, 99, 10]⟩,
    ⟨[97, 32, 49, 10, 99, 32, 49, 10], 1, [112, 114, 111, 111, 102, 32, 102, 97, 108, 115, 101, 10, 97, 32, 49, 10, 100, 32, 49, 10]⟩,
    ⟨[101, 32, 49, 10, 99, 32, 49, 10], 2, [112, 114, 111, 111, 102, 32, 116, 114, 117, 101, 10, 99, 32, 49, 10, 100, 32, 49, 10]⟩,
    ⟨[99, 32, 49, 32, 45, 49, 10], 2, [112, 114, 111, 111, 102, 32, 116, 114, 117, 101, 10, 99, 10]⟩,
    ⟨[97, 32, 49, 10, 101, 32, 50, 10, 99, 32, 49, 32, 50, 10, 99, 32, 45, 49, 32, 45, 50, 10], 2, [112, 114, 111, 111, 102, 32, 116, 114, 117, 101, 10, 99, 32, 49, 32, 45, 50, 10, 99, 32, 45, 49, 32, 50, 10, 100, 32, 49, 10, 100, 32, 50, 10, 114, 32, 51, 32, 52, 32, 49, 10]⟩,
    ⟨[101, 32, 50, 10, 97, 32, 49, 10, 99, 32, 49, 32, 50, 10, 99, 32, 45, 49, 32, 45, 50, 10], 1, [112, 114, 111, 111, 102, 32, 102, 97, 108, 115, 101, 10, 97, 32, 49, 10, 97, 32, 50, 10, 100, 32, 49, 10, 100, 32, 50, 10, 114, 32, 51, 32, 52, 32, 50, 10]⟩,
    ⟨[99, 32, 49, 32, 50, 10, 99, 32, 49, 32, 45, 50, 10, 99, 32, 45, 49, 32, 50, 10, 99, 32, 45, 49, 32, 45, 50, 10], 1, [112, 114, 111, 111, 102, 32, 102, 97, 108, 115, 101, 10, 97, 32, 49, 10, 97, 32, 50, 10, 97, 32, 51, 10, 97, 32, 52, 10, 114, 32, 49, 32, 50, 32, 50, 10, 114, 32, 51, 32, 52, 32, 50, 10, 114, 32, 53, 32, 54, 32, 49, 10]⟩,
    ⟨[97, 32, 49, 32, 50, 10, 101, 32, 51, 10, 99, 32, 49, 32, 50, 32, 45, 51, 10, 99, 32, 49, 32, 45, 50, 32, 51, 10, 99, 32, 45, 49, 32, 50, 32, 51, 10, 99, 32, 45, 49, 32, 45, 50, 32, 45, 51, 10], 2, [112, 114, 111, 111, 102, 32, 116, 114, 117, 101, 10, 99, 32, 49, 32, 50, 32, 45, 51, 10, 100, 32, 49, 10, 99, 32, 49, 32, 45, 50, 32, 51, 10, 100, 32, 51, 10, 114, 32, 50, 32, 52, 32, 50, 10, 99, 32, 45, 49, 32, 50, 32, 51, 10, 100, 32, 54, 10, 99, 32, 45, 49, 32, 45, 50, 32, 45, 51, 10, 100, 32, 56, 10, 114, 32, 55, 32, 57, 32, 50, 10, 114, 32, 53, 32, 49, 48, 32, 49, 10]⟩,
    ⟨[101, 32, 49, 10, 97, 32, 50, 10, 101, 32, 51, 10, 99, 32, 49, 32, 51, 10, 99, 32, 45, 49, 32, 50, 32, 45, 51, 10, 99, 32, 45, 49, 32, 45, 50, 32, 51, 10, 99, 32, 49, 32, 45, 50, 32, 45, 51, 10], 2, []⟩,
    ⟨[101, 32, 49, 10, 97, 32, 50, 10, 101, 32, 51, 10, 99, 32, 49, 32, 50, 32, 51, 10, 99, 32, 49, 32, 45, 51, 10, 99, 32, 45, 49, 32, 45, 50, 32, 51, 10, 99, 32, 45, 49, 32, 45, 50, 32, 45, 51, 10], 1, []⟩,
    ⟨[97, 32, 49, 10, 97, 32, 50, 10, 99, 32, 49, 32, 45, 50, 10, 99, 32, 45, 49, 32, 50, 10], 1, [112, 114, 111, 111, 102, 32, 102, 97, 108, 115, 101, 10, 97, 32, 50, 10, 100, 32, 49, 10]⟩,
    ⟨[97, 32, 49, 10, 101, 32, 50, 10, 97, 32, 51, 10, 101, 32, 52, 10, 99, 32, 49, 32, 50, 10, 99, 32, 45, 49, 32, 45, 50, 10, 99, 32, 51, 32, 52, 10, 99, 32, 45, 51, 32, 45, 52, 10], 2, []⟩,
    ⟨[101, 32, 50, 10, 97, 32, 49, 10, 101, 32, 52, 10, 97, 32, 51, 10, 99, 32, 51, 32, 52, 32, 50, 10, 99, 32, 45, 51, 32, 45, 52, 32, 50, 10], 2, []⟩]
def Famous.cells (f : Famous) : List Value := [S f.s, .int .i64 (f.kind : Int), S f.proof]
def knownOk (f : Famous) : Bool := match loadSpec f.s with
  | .inl _ => false
  | .inr q => (verdict q 0 0).kind == f.kind && (f.proof == [] || decide (checkQ q f.proof = (f.kind, 0, 0))) && (f.kind == 1 || f.kind == 2) && decide (f.s.length ≤ 200)
set_option maxRecDepth 100000 in
theorem knowns_ok : knownList.all knownOk = true := by kernel_rfl
theorem known_len : knownList.length = 15 := rfl
theorem known_ok (k : Nat) (h : k < knownList.length) : knownOk knownList[k] = true := by
  have := knowns_ok
  rw [List.all_eq_true] at this
  exact this _ (List.getElem_mem h)
theorem knownCells_at (l : List Famous) (k j : Nat) (h : k < l.length) (hj : j < 3) : (l.flatMap Famous.cells)[k * 3 + j]? = l[k].cells[j]? := by
  induction l generalizing k with
  | nil => simp at h
  | cons a l ih =>
    cases k with
    | zero =>
      simp only [List.flatMap_cons]
      rw [List.getElem?_append_left (by simp [Famous.cells]; omega)]
      simp
    | succ k =>
      have := ih k (by simpa using h)
      simp only [List.flatMap_cons] at this ⊢
      rw [show (k + 1) * 3 + j = k * 3 + j + 3 from by omega, List.getElem?_append_right (by simp [Famous.cells])]
      simpa [Famous.cells] using this
end Go.Proofs.YtgipjjhkhfihpabGreatDoor

namespace Go.Proofs.YtgipjjhkhfihpabGreatDoor
open Go.RowKit

end Go.Proofs.YtgipjjhkhfihpabGreatDoor

namespace Go.Proofs.YtgipjjhkhfihpabGreatDoor
open Go.RowKit

theorem infoFamous : (Tryz.prog.info? 25).map (fun i => (i.zero, i.size, i.bytes)) = some (some (.agg #[.string ⟨#[]⟩, .int .i64 0, .string ⟨#[]⟩]), 3, 40) := by kernel_rfl
set_option maxRecDepth 100000 in
set_option maxHeartbeats 6400000 in
theorem knowns_any (w : World) : Calls Tryz.prog 5 #[] w fun e w' => e = .returned (.slice (some ⟨w.heap.size, 0, none⟩) 15 15) ∧ w' = w.alloc (.cells (knownList.flatMap Famous.cells).toArray 25) := by
  obtain ⟨i0, hi, hz0, hz1, hz2⟩ := info_parts infoFamous
  go_enter Tryz.func5, Tryz.ntmps5
  go_wp2_with fail
  go_ret
  exact ⟨rfl, rfl⟩
end Go.Proofs.YtgipjjhkhfihpabGreatDoor

namespace Go.Proofs.YtgipjjhkhfihpabGreatDoor
open Go.RowKit

/-! ### won -/
theorem read_of_check {q : QS} {t : List UInt8} {kind : Nat} (h : checkQ q t = (kind, 0, 0)) (h0 : kind ≠ 0) : ∃ ls, readQ q t = .inr (kind, ls) := by
  cases hr : readQ q t with
  | inl y =>
    unfold checkQ at h; rw [hr] at h; obtain ⟨y1, y2⟩ := y
    injection h with h1 _
    exact absurd h1.symm h0
  | inr y => unfold checkQ at h; rw [hr] at h; obtain ⟨y1, y2⟩ := y; injection h with h1 _; subst h1; exact ⟨y2, rfl⟩
theorem verdict_read {l : List UInt8} {q : QS} (h : loadSpec l = .inr q) (room : Nat) : ((verdict q 0 room).kind = 1 ∨ (verdict q 0 room).kind = 2) ∧ checkQ q (verdict q 0 room).text = ((verdict q 0 room).kind, 0, 0) := by
  obtain ⟨hg, F, _, hF, hO⟩ := load_good h
  have hs := solve_ok hg hF hO 0 room
  have h0 : (solveM q 0 room).2.1 ≠ 0 := fun e => by have := (hs.unknown e).1; omega
  have hp := (hs.proof h0).2.2.1
  have hk : (verdict q 0 room).kind = (solveM q 0 room).2.1 := rfl
  have ht : (verdict q 0 room).text = textP ((solveM q 0 room).2.1 == 2) (shortOf ((solveM q 0 room).1.proof (solveM q 0 room).2.1) (solveM q 0 room).2.2) := by
    show (if (solveM q 0 room).2.1 = 0 then [] else _) = _
    rw [if_neg h0]
  have hk2 : (solveM q 0 room).2.1 = 1 ∨ (solveM q 0 room).2.1 = 2 := by
    rcases hs.kind with e | e
    · exact absurd e h0
    · exact e
  rw [hk, ht]
  refine ⟨hk2, ?_⟩
  rw [check_eq hF hO, hp]
  show (kd ((solveM q 0 room).2.1 == 2), 0, 0) = _
  rcases hk2 with e | e <;> rw [e] <;> rfl
set_option maxRecDepth 100000 in
set_option maxHeartbeats 6400000 in
theorem kwon_any (l : List UInt8) (a : Int) (w : World) (ht : TabAt w) (hll : l.length ≤ 8192) (ha1 : -9223372036854775808 ≤ a) (ha2 : a ≤ 9223372036854775807) :
    Calls Tryz.prog 12 #[.string ⟨l.toArray⟩, .int .i64 a] w fun e w' => e = .returned (.bool true) ∧ Below w.heap.size w w' := by
  go_enter Tryz.func12, Tryz.ntmps12
  go_wp2_with fail
  refine (load_any l w).mono ?_
  rintro e u1 ⟨c1, hp⟩
  cases hq : loadSpec l with
  | inl x0 =>
    obtain ⟨x, i⟩ := x0
    have hx := loadSpec_pos l x i hq
    rw [hq] at hp
    have hp' : e = .returned (.tuple #[.pointer none, .int .i64 (x : Int), .int .i64 (i : Int)]) := hp
    subst hp'
    clear hp hq
    have hx0 : ((x : Int) == 0) = false := by rw [beq_eq_false_iff_ne]; omega
    have hx1 : (x == 0) = false := by rw [beq_eq_false_iff_ne]; omega
    go_wp2_with fail
    go_ret
    exact ⟨rfl, c1⟩
  | inr q =>
    obtain ⟨hg, hT⟩ := text_load hq
    have HT := hide hT
    have HVR := hide (fun room => verdict_read hq room)
    rw [hq] at hp
    obtain ⟨bq, rfl, hP⟩ := hp
    clear hq hT
    go_wp2_with fail
    refine (kpick_eq a 65 u1 (by decide) (by decide) ha1 ha2).mono ?_
    rintro e u2 ⟨rfl, rfl⟩
    have hn64 : pickK a 65 ≤ 64 := by have := pickK_lt a 65 (by decide); omega
    generalize pickK a 65 = n at *
    go_wp2_with fail
    refine (dsolve_any _ bq q 0 n u2 hP hg (ht.later c1) (by decide) hn64).mono ?_
    rintro e u3 ⟨rfl, c3⟩
    obtain ⟨hk12, hck⟩ := unhide HVR n
    generalize verdict q 0 n = vd at *
    obtain ⟨vk, vn, vm, vt⟩ := vd
    dsimp only at hk12 hck ⊢
    have hB := c1.trans (c3.mono c1.size)
    have hP3 := hP.later c3
    clear HVR
    obtain ⟨ls, hrd⟩ := read_of_check hck (by omega)
    have hKP : KP l vt q vk := ⟨hg, unhide HT, ls, hrd⟩
    have HKP := hide hKP
    have HCK := hide hck
    clear hck hrd hKP HT
    rcases hk12 with rfl | rfl
    · go_wp2_with fail
      have hA : Below u3.heap.size u3 (u3.alloc (.cells #[.int .i64 1, .int .i64 (vn : Int), .int .i64 (vm : Int), .string ⟨vt.toArray⟩] 32)) := (Below.refl _ _).alloc (Nat.le_refl _) _
      have hv := heap_alloc_new u3 (.cells #[.int .i64 1, .int .i64 (vn : Int), .int .i64 (vm : Int), .string ⟨vt.toArray⟩] 32)
      generalize (u3.alloc (.cells #[.int .i64 1, .int .i64 (vn : Int), .int .i64 (vm : Int), .string ⟨vt.toArray⟩] 32)) = u4 at *
      have hB4 := hB.trans (hA.mono hB.size)
      have hP4 := hP3.later hA
      refine (check_any _ bq q vt u4 hP4 hg.qb).mono ?_
      rintro e u5 ⟨c5, rfl⟩
      rw [unhide HCK]
      dsimp only
      have hB5 := hB4.trans (c5.mono hB4.size)
      have hP5 := hP4.later c5
      replace hv := (c5.block _ (blk_lt hv)).trans hv
      have cv0 : u5.cell? ⟨u3.heap.size, 0, none⟩ = some (.int .i64 1) := by rw [blk_cell hv]; rfl
      have cv3 : u5.cell? ⟨u3.heap.size, 3, none⟩ = some (.string ⟨vt.toArray⟩) := by rw [blk_cell hv]; rfl
      have lv := blk_lt hv
      have h8 := blocks_le q.vars hg.qb.vl
      go_wp2_with fail
      refine (kplays_any l vt q 1 (unhide HKP) false rfl _ bq hll ((progBlocks q.vars).length + 1) [] none 0 u5 (by omega) (by simp; omega) (legal_nil q 1) hP5 (World.ownsRow_nil _ _ _ _)).mono ?_
      rintro e u6 ⟨rfl, b6⟩
      have hB6 := hB5.trans (b6.mono hB5.size)
      go_wp2_with fail
      go_ret
      exact ⟨rfl, hB6⟩
    · go_wp2_with fail
      have hA : Below u3.heap.size u3 (u3.alloc (.cells #[.int .i64 2, .int .i64 (vn : Int), .int .i64 (vm : Int), .string ⟨vt.toArray⟩] 32)) := (Below.refl _ _).alloc (Nat.le_refl _) _
      have hv := heap_alloc_new u3 (.cells #[.int .i64 2, .int .i64 (vn : Int), .int .i64 (vm : Int), .string ⟨vt.toArray⟩] 32)
      generalize (u3.alloc (.cells #[.int .i64 2, .int .i64 (vn : Int), .int .i64 (vm : Int), .string ⟨vt.toArray⟩] 32)) = u4 at *
      have hB4 := hB.trans (hA.mono hB.size)
      have hP4 := hP3.later hA
      refine (check_any _ bq q vt u4 hP4 hg.qb).mono ?_
      rintro e u5 ⟨c5, rfl⟩
      rw [unhide HCK]
      dsimp only
      have hB5 := hB4.trans (c5.mono hB4.size)
      have hP5 := hP4.later c5
      replace hv := (c5.block _ (blk_lt hv)).trans hv
      have cv0 : u5.cell? ⟨u3.heap.size, 0, none⟩ = some (.int .i64 2) := by rw [blk_cell hv]; rfl
      have cv3 : u5.cell? ⟨u3.heap.size, 3, none⟩ = some (.string ⟨vt.toArray⟩) := by rw [blk_cell hv]; rfl
      have lv := blk_lt hv
      have h8 := blocks_le q.vars hg.qb.vl
      go_wp2_with fail
      refine (kplays_any l vt q 2 (unhide HKP) true rfl _ bq hll ((progBlocks q.vars).length + 1) [] none 0 u5 (by omega) (by simp; omega) (legal_nil q 2) hP5 (World.ownsRow_nil _ _ _ _)).mono ?_
      rintro e u6 ⟨rfl, b6⟩
      have hB6 := hB5.trans (b6.mono hB5.size)
      go_wp2_with fail
      go_ret
      exact ⟨rfl, hB6⟩
end Go.Proofs.YtgipjjhkhfihpabGreatDoor

namespace Go.Proofs.YtgipjjhkhfihpabGreatDoor
open Go.RowKit

/-! ### Known -/
set_option maxRecDepth 100000 in
set_option maxHeartbeats 6400000 in
theorem known_any (a : Int) (w : World) (ht : TabAt w) (ha1 : -9223372036854775808 ≤ a) (ha2 : a ≤ 9223372036854775807) :
    Calls Tryz.prog 3 #[.int .i64 a] w fun e w' => e = .returned (.bool true) ∧ Below w.heap.size w w' := by
  go_enter Tryz.func3, Tryz.ntmps3
  go_wp2_with fail
  refine (knowns_any w).mono ?_
  rintro e w1 ⟨rfl, hw1⟩
  have hB1 : Below w.heap.size w w1 := by rw [hw1]; exact (Below.refl _ _).alloc (Nat.le_refl _) _
  have hblk : w1.heap[w.heap.size]? = some (.cells (knownList.flatMap Famous.cells).toArray 25 (0, 0)) := by rw [hw1]; exact heap_alloc_new _ _
  clear hw1
  have HC : Hid (∀ (r : Nat) (hr : r < knownList.length) (j : Nat) (hj : j < 3) (u : Value), knownList[r].cells[j]? = some u → w1.cell? ⟨w.heap.size, r * 3 + j, none⟩ = some u) := hide (fun r hr j hj u hu => by
    rw [blk_cell hblk]
    rw [List.getElem?_toArray, knownCells_at knownList r j hr hj]; exact hu)
  have hl1 := blk_lt hblk
  clear hblk
  go_wp2_with fail
  refine (kpick_eq a 15 w1 (by decide) (by decide) ha1 ha2).mono ?_
  rintro e w2 ⟨rfl, rfl⟩
  have hr := pickK_lt a 15 (by decide)
  generalize pickK a 15 = r at *
  have hr' : r < knownList.length := by rw [known_len]; exact hr
  have x0 := unhide HC r hr' 0 (by omega) _ rfl
  have x1 := unhide HC r hr' 1 (by omega) _ rfl
  have x2 := unhide HC r hr' 2 (by omega) _ rfl
  have hok := known_ok r hr'
  have HOK := hide hok
  clear hok HC
  generalize knownList[r] = f at *
  obtain ⟨s, fk, pf⟩ := f
  dsimp only at *
  rw [Nat.add_zero] at x0
  go_wp2_with fail
  have hA : Below w2.heap.size w2 (w2.alloc (.cells #[S s, .int .i64 (fk : Int), S pf] 25)) := (Below.refl _ _).alloc (Nat.le_refl _) _
  have hx0 := heap_alloc_new w2 (.cells #[S s, .int .i64 (fk : Int), S pf] 25)
  have hB2 := hB1.trans (hA.mono hB1.size)
  refine (load_any s _).mono ?_
  rintro e u3 ⟨c3, hp⟩
  have hB3 := hB2.trans (c3.mono hB2.size)
  have hx3 := (c3.block _ (blk_lt hx0)).trans hx0
  have hok := unhide HOK
  unfold knownOk at hok
  cases hq : loadSpec s with
  | inl xi => rw [hq] at hok; cases hok
  | inr q =>
    obtain ⟨hg, hT⟩ := text_load hq
    have HT := hide hT
    rw [hq] at hok hp
    obtain ⟨bq, rfl, hP⟩ := hp
    dsimp only at hok
    simp only [Bool.and_eq_true, Bool.or_eq_true, beq_iff_eq, decide_eq_true_eq] at hok
    obtain ⟨⟨⟨hok1, hok2⟩, hok3⟩, hok4⟩ := hok
    clear hq hT HOK x0 x1 x2 hA
    have lx3 := blk_lt hx3
    go_wp2_with fail
    refine (dsolve_any _ bq q 0 0 u3 hP hg (ht.later hB3) (by decide) (by decide)).mono ?_
    rintro e u4 ⟨rfl, c4⟩
    generalize verdict q 0 0 = vd at *
    obtain ⟨vk, vn, vm, vt⟩ := vd
    dsimp only at hok1 ⊢
    subst hok1
    have hB4 := hB3.trans (c4.mono hB3.size)
    have hP4 := hP.later c4
    have hx4 := (c4.block _ (blk_lt hx3)).trans hx3
    have hA5 : Below u4.heap.size u4 (u4.alloc (.cells #[.int .i64 (vk : Int), .int .i64 (vn : Int), .int .i64 (vm : Int), .string ⟨vt.toArray⟩] 32)) := (Below.refl _ _).alloc (Nat.le_refl _) _
    have hx5 := (hA5.block _ (blk_lt hx4)).trans hx4
    have hB5 := hB4.trans (hA5.mono hB4.size)
    have hP5 := hP4.later hA5
    have hv5 := heap_alloc_new u4 (.cells #[.int .i64 (vk : Int), .int .i64 (vn : Int), .int .i64 (vm : Int), .string ⟨vt.toArray⟩] 32)
    have y1 : (u4.alloc (.cells #[.int .i64 (vk : Int), .int .i64 (vn : Int), .int .i64 (vm : Int), .string ⟨vt.toArray⟩] 32)).cell? ⟨w2.heap.size, 1, none⟩ = some (.int .i64 (vk : Int)) := by rw [blk_cell hx5]; rfl
    have y2 : (u4.alloc (.cells #[.int .i64 (vk : Int), .int .i64 (vn : Int), .int .i64 (vm : Int), .string ⟨vt.toArray⟩] 32)).cell? ⟨w2.heap.size, 2, none⟩ = some (S pf) := by rw [blk_cell hx5]; rfl
    have y3 : (u4.alloc (.cells #[.int .i64 (vk : Int), .int .i64 (vn : Int), .int .i64 (vm : Int), .string ⟨vt.toArray⟩] 32)).cell? ⟨u4.heap.size, 0, none⟩ = some (.int .i64 (vk : Int)) := by rw [blk_cell hv5]; rfl
    have lx4 := blk_lt hx4
    by_cases hpf : pf = []
    · subst hpf
      go_wp2_with fail
      go_ret
      exact ⟨rfl, hB5⟩
    · have hpe : pf.isEmpty = false := by cases pf with | nil => exact absurd rfl hpf | cons x xs => rfl
      have hck : checkQ q pf = (vk, 0, 0) := by
        rcases hok2 with e | e
        · exact absurd e hpf
        · exact e
      obtain ⟨ls, hrd⟩ := read_of_check hck (by omega)
      have HKP : Hid (KP s pf q vk) := hide ⟨hg, unhide HT, ls, hrd⟩
      have HCK := hide hck
      have HTR : Hid (((vk : Int) == 2) = (vk == 2)) := hide (by rw [Bool.eq_iff_iff, beq_iff_eq, beq_iff_eq]; omega)
      clear hok2 hck hrd hpf hok3
      go_wp2_with fail
      generalize (u4.alloc (.cells #[.int .i64 (vk : Int), .int .i64 (vn : Int), .int .i64 (vm : Int), .string ⟨vt.toArray⟩] 32)) = u5 at *
      refine (check_any _ bq q pf u5 hP5 hg.qb).mono ?_
      rintro e u6 ⟨c6, rfl⟩
      rw [unhide HCK]
      dsimp only
      have hB6 := hB5.trans (c6.mono hB5.size)
      have hP6 := hP5.later c6
      have hx6 := (c6.block _ (blk_lt hx5)).trans hx5
      have z0 : u6.cell? ⟨w2.heap.size, 0, none⟩ = some (S s) := by rw [blk_cell hx6]; rfl
      have z1 : u6.cell? ⟨w2.heap.size, 1, none⟩ = some (.int .i64 (vk : Int)) := by rw [blk_cell hx6]; rfl
      have z2 : u6.cell? ⟨w2.heap.size, 2, none⟩ = some (S pf) := by rw [blk_cell hx6]; rfl
      have hl6 := blk_lt hx6
      have h8 := blocks_le q.vars hg.qb.vl
      go_wp2_with fail
      refine (kplays_any s pf q vk (unhide HKP) ((vk : Int) == 2) (unhide HTR) _ bq (by omega) ((progBlocks q.vars).length + 1) [] none 0 u6 (by omega) (by simp; omega) (legal_nil q vk) hP6 (World.ownsRow_nil _ _ _ _)).mono ?_
      rintro e u7 ⟨rfl, b7⟩
      have hB7 := hB6.trans (b7.mono hB6.size)
      have hx7 := (b7.block _ (blk_lt hx6)).trans hx6
      have t1 : u7.cell? ⟨w2.heap.size, 1, none⟩ = some (.int .i64 (vk : Int)) := by rw [blk_cell hx7]; rfl
      have hl7 := blk_lt hx7
      have hvv : ((vk : Int) == (vk : Int)) = true := beq_self_eq_true _
      go_wp2_with fail
      go_ret
      exact ⟨rfl, hB7⟩
end Go.Proofs.YtgipjjhkhfihpabGreatDoor

namespace Go.Proofs.YtgipjjhkhfihpabGreatDoor
open Go.ChangeShapes Go.WideShapes Go.ChangeAt Go.ChangeMaps Go.RowKit

theorem i64_wf2 {x : Int} (h : (Lit.int .i64 x).wf = true) : -9223372036854775808 ≤ x ∧ x ≤ 9223372036854775807 := bounds_i64 h
theorem known_met (os : Os) (args : Array Value) : laidMetH Tryz.prog Rows.knownRow.laid ((World.doorLaid Tryz.prog 400 os).forCall (fun _ _ => 0) ⟨#[], args, []⟩).memory :=
  laidMetH_of_parts3 (fuel := 8) (laidMet_of_run' 8 (by kernel_rfl) (by kernel_rfl)) (by kernel_rfl) (by kernel_rfl)
theorem known_tab {W : World} (h : laidMetH Tryz.prog Rows.knownRow.laid W) : TabAt W := by
  have hf : (Rows.knownRow.laid.filter fun x => x.2.handleName?.isSome) = [] := by rfl
  unfold laidMetH at h
  rw [hf] at h
  exact tab_of_third2 h

set_option maxHeartbeats 1600000 in
set_option maxRecDepth 100000 in
theorem known_lifted (os : Os) (started : os.Started) (H : Type) (enc : TypeId × Value → H) (F : Stop.Interp) :
    ReturnsInHanded {} Tryz.checked os 3 .any ((OpenSpec.ofChange Rows.knownSpec).preRow enc Tryz.prog Tryz.f3 Rows.knownRow.domain false Rows.knownRow.laid) (((OpenSpec.ofChange Rows.knownSpec).at F).post enc Tryz.prog Tryz.f3 false true false false) := by
  obtain ⟨places, hx⟩ : ∃ places, DataW.whole enc Tryz.prog ((World.doorLaid Tryz.prog 400 os).forCall (fun _ _ => 0) ⟨#[], #[.int .i64 0], []⟩).memory Tryz.f3.params.toList Rows.knownSpec.vars false #[Value.int .i64 0].toList 8 = some ([.lit (.int .i64 0)], [], places) := ⟨[], by kernel_rfl⟩
  refine returnsInHanded_of_row (C := Tryz.checked) (s := OpenSpec.ofChange Rows.knownSpec) (show ownKnob Tryz.prog.godebug = none by kernel_rfl) started (by kernel_rfl) Tryz.func3
    (witness_row_at (enc := enc) (C := Tryz.checked) false (World.doorLaid Tryz.prog 400 os) #[.int .i64 0] rfl (by kernel_rfl) (by kernel_rfl) (by kernel_rfl)
      (OpenSpec.preRow_of_cond 8 hx (by kernel_rfl) (fun k hk => by cases hk) (by kernel_rfl) (known_met os _))) ?_
  intro W base args ds gs before hval0 hW _ _ _ hL _ _
  have hval : ∀ (j : Nat) t v, Tryz.f3.params[j]? = some t → args[j]? = some v → Value.okWide Tryz.prog W .any base t v := hval0
  have hW' := hW
  obtain ⟨p, q, hA0, hV, rfl, hfz, hnd⟩ := hW
  have hA : DataW.TrodAll enc Tryz.prog W 0 (fun _ => true) true Tryz.f3.params.toList args.toList ds p := hA0
  rw [Tryz.params3] at hA hval
  obtain ⟨v0, vs0, d0, ds0, p0, q0, hargs0, rfl, rfl, h0, r0⟩ := trodAll_cons hA
  obtain ⟨rfl, rfl, rfl⟩ := trodAll_nil r0
  obtain rfl : args = #[v0] := by cases args; simp_all
  obtain ⟨rfl, rfl⟩ := trodVars_none hV
  obtain ⟨i0, rfl, rfl, rfl, w0⟩ := open_int Tryz.underlying3 (hval 0 3 v0 rfl rfl) h0
  have hb0 := i64_wf2 w0
  clear hA0 hval0
  simp only [List.append_nil] at hW'
  refine (known_any i0 W (known_tab hL) hb0.1 hb0.2).mono fun e W' ⟨he, bel⟩ => ?_
  subst he
  exact ⟨_, rfl, _, _, _, [], _, [], hW', trodAll_mk1 (shut_bool Tryz.underlying4 _), trodAll_mk1 (shut_int Tryz.underlying3 w0), rfl, bel.frame _, fun h => by cases h⟩

theorem known_said : Rows.KnownSaid :=
  OpenClaim.holds_of_cond 3 Tryz.f3 rfl rfl rfl rfl rfl rfl rfl ⟨rfl, rfl, rfl, rfl, rfl⟩ rfl rfl rfl rfl rfl (by kernel_rfl) Tryz.func3 (by kernel_rfl)
    (of_decide_eq_true (by kernel_rfl)) (by unfold Func.isWrapper; first | (rw [if_pos (by decide +kernel)]; kernel_rfl) | (rw [if_neg (by decide +kernel)]; exact ⟨rfl, rfl⟩))
    (fun os started H enc _ F => by rw [OpenClaim.pre_eq_preRow]; exact known_lifted os started H enc F)
/-- No parameter wants a stand-in; the program's own looks are off. -/
theorem known_plain (f : FuncId) (fn : Func) (hf : Tryz.pinned.checked.prog.funcNamed "duel/duelkeep.Known" = some f) (hfn : Tryz.pinned.checked.prog.funcs[f]? = some fn) :
    false = Tryz.pinned.checked.prog.looks [] ∧ ∀ (j : Nat) t, fn.params[j]? = some t → Tryz.pinned.checked.prog.wantsStandIn t = false := by
  obtain rfl : f = 3 := Option.some.inj ((show Tryz.prog.funcNamed "duel/duelkeep.Known" = some 3 by kernel_rfl).symm.trans hf) |>.symm
  obtain rfl : fn = Tryz.f3 := (Option.some.inj (Tryz.func3.symm.trans hfn)).symm
  refine ⟨by kernel_rfl, fun j t ht => ?_⟩
  rw [Tryz.params3] at ht
  obtain rfl : t = 3 := by simpa using Array.mem_of_getElem? ht
  exact (show Tryz.prog.wantsStandIn 3 = false by kernel_rfl)
theorem known_holds : Rows.KnownCardSaid :=
  Claim7.holds_tied_plain_at .later [] _ _ _ _ known_said (fun _ h => by cases h) (by kernel_rfl) (fun _ h => by cases h) known_row_tie rfl ⟨rfl, rfl⟩ (by kernel_rfl) rfl known_plain (by kernel_rfl)
#print axioms known_holds
end Go.Proofs.YtgipjjhkhfihpabGreatDoor
