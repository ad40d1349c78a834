import Derived.Test.YtgipjjhkhfihpaaAA
import Derived.Test.YtgipjjhkhfihpaaAN
import Derived.Test.YtgipjjhkhfihpaaRows
import Derived.WalkKit
import Derived.ProofKit
import Derived.OpenShut
import Derived.Test.YtgipjjhkhfihpaaAD
namespace Go.Proofs.Ytgipjjhkhfihpaa
open Go.RowKit

/-- Which of n things a raw number speaks of. -/
def pickK (c : Int) (n : Nat) : Nat := if c < 0 then ((-(c + 1)) % n).toNat else (c % n).toNat
theorem pickK_lt (c : Int) (n : Nat) (hn : 0 < n) : pickK c n < n := by
  unfold pickK
  split
  · have := Int.emod_nonneg (-(c + 1)) (show (n : Int) ≠ 0 by omega)
    have := Int.emod_lt_of_pos (-(c + 1)) (show (0 : Int) < n by omega)
    omega
  · have := Int.emod_nonneg c (show (n : Int) ≠ 0 by omega)
    have := Int.emod_lt_of_pos c (show (0 : Int) < n by omega)
    omega
set_option maxRecDepth 100000 in
set_option maxHeartbeats 400000 in
theorem kpick_eq (c : Int) (n : Nat) (w : World) (hn : 0 < n) (hn2 : n ≤ 1048576) (h1 : -9223372036854775808 ≤ c) (h2 : c ≤ 9223372036854775807) :
    Calls Try.prog 6 #[.int .i64 c, .int .i64 n] w fun e w' => e = .returned (.int .i64 (pickK c n : Nat)) ∧ w' = w := by
  by_cases hc : c < 0
  · have hd : decide (c < 0) = true := by simpa using hc
    have HP : Hid (pickK c n = ((-(c + 1)) % n).toNat) := hide (by unfold pickK; rw [if_pos hc])
    go_enter Try.func6, Try.ntmps6
    go_wp2_with fail
    go_ret
    have e : -((c + 1).tmod n) = (-(c + 1)) % n := by rw [← Int.neg_tmod, Int.tmod_eq_emod_of_nonneg (by omega)]
    have e1 := Int.emod_nonneg (-(c + 1)) (show (n : Int) ≠ 0 by omega)
    refine ⟨ret_int ?_, rfl⟩
    rw [unhide HP]
    omega
  · have hd : decide (c < 0) = false := by simpa using hc
    have HP : Hid (pickK c n = (c % n).toNat) := hide (by unfold pickK; rw [if_neg hc])
    go_enter Try.func6, Try.ntmps6
    go_wp2_with fail
    go_ret
    refine ⟨ret_int ?_, rfl⟩
    rw [unhide HP]
    have := Int.emod_nonneg c (show (n : Int) ≠ 0 by omega)
    omega
end Go.Proofs.Ytgipjjhkhfihpaa

namespace Go.Proofs.Ytgipjjhkhfihpaa
open Go.RowKit

set_option maxRecDepth 100000 in
set_option maxHeartbeats 3200000 in
theorem long_any (c : Int) (w : World) (h1 : -9223372036854775808 ≤ c) (h2 : c ≤ 9223372036854775807) :
    Calls Try.prog 3 #[.int .i64 c] w fun e w' => e = .returned (.bool true) ∧ Below w.heap.size w w' := by
  go_enter Try.func3, Try.ntmps3
  go_wp2_with fail
  have hr := pickK_lt c 6 (by decide)
  refine (kpick_eq c 6 w (by omega) (by omega) h1 h2).mono ?_
  rintro e w1 ⟨rfl, hw1⟩
  subst hw1
  generalize pickK c 6 = r at *
  obtain ⟨q, hok⟩ := lim_ok r hr
  have HLI : Hid (∀ w, Calls Try.prog 5 #[.int .i64 r] w fun e w' => e = .returned (LimV (limOf r)) ∧ Below w.heap.size w w') := hide (fun w => limits_any r hr w)
  generalize limOf r = L at *
  obtain ⟨s, pf, kind, le, line⟩ := L
  obtain ⟨hload, hread⟩ := hok
  dsimp only at hload hread
  unfold LimV at HLI
  dsimp only at HLI
  have hse := spec_eq s
  rw [hload] at hse
  obtain ⟨st, q0, _, hsame, hqq, h24, hN⟩ := hse
  have hQB : QB q := by rw [hqq]; exact qb_of hN h24
  have HLO := hide hload
  clear hload hsame hqq h24 hN
  go_wp2_with fail
  refine (unhide HLI _).mono ?_
  rintro e w2 ⟨rfl, hb2⟩
  go_wp2_with fail
  have hA : Below w2.heap.size w2 (w2.alloc (.cells #[.string ⟨s.toArray⟩, .string ⟨pf.toArray⟩, .int .i64 (kind : Int), .int .i64 (le : Int), .int .i64 (line : Int)] 24)) := (Below.refl _ _).alloc (Nat.le_refl _) _
  have hx0 := heap_alloc_new w2 (.cells #[.string ⟨s.toArray⟩, .string ⟨pf.toArray⟩, .int .i64 (kind : Int), .int .i64 (le : Int), .int .i64 (line : Int)] 24)
  have hB2 : Below w1.heap.size w1 _ := below_trans hb2 hA
  refine (load_any s _).mono ?_
  rintro e w3 ⟨hb3, hp⟩
  rw [unhide HLO] at hp
  obtain ⟨b, rfl, hP⟩ := hp
  have hB3 := hB2.trans (hb3.mono hB2.size)
  have hx3 := (hb3.block _ (blk_lt hx0)).trans hx0
  have y1 : w3.cell? ⟨w2.heap.size, 1, none⟩ = some (.string ⟨pf.toArray⟩) := by rw [blk_cell hx3]; rfl
  have lx3 := blk_lt hx3
  rcases hread with ⟨he0, rfl, hrq⟩ | ⟨rfl, rfl, ls, hrq⟩
  · have HCK : Hid (checkQ q pf = (0, le, line)) := hide (by unfold checkQ; rw [hrq])
    have HRQ := hide hrq
    clear hrq
    go_wp2_with fail
    refine (check_any _ b q pf w3 hP hQB).mono ?_
    rintro e w4 ⟨hb4, rfl⟩
    rw [unhide HCK]
    dsimp only
    have hB4 := hB3.trans (hb4.mono hB3.size)
    have hx4 := (hb4.block _ lx3).trans hx3
    have z1 : w4.cell? ⟨w2.heap.size, 1, none⟩ = some (.string ⟨pf.toArray⟩) := by rw [blk_cell hx4]; rfl
    have lx4 := blk_lt hx4
    go_wp2_with fail
    refine (dopen_any _ b q pf w4 (hP.later hb4) hQB).mono ?_
    rintro e w5 ⟨hb5, hp5⟩
    rw [unhide HRQ] at hp5
    have hp6 : e = .returned (.tuple #[.pointer none, .int .i64 (le : Int), .int .i64 (line : Int)]) := hp5
    subst hp6
    clear hp5
    have hB5 := hB4.trans (hb5.mono hB4.size)
    have hx5 := (hb5.block _ lx4).trans hx4
    have v2 : w5.cell? ⟨w2.heap.size, 2, none⟩ = some (.int .i64 0) := by rw [blk_cell hx5]; rfl
    have v3 : w5.cell? ⟨w2.heap.size, 3, none⟩ = some (.int .i64 (le : Int)) := by rw [blk_cell hx5]; rfl
    have v4 : w5.cell? ⟨w2.heap.size, 4, none⟩ = some (.int .i64 (line : Int)) := by rw [blk_cell hx5]; rfl
    have lx5 := blk_lt hx5
    have f1 : ((le : Int) == (le : Int)) = true := by simp
    have f2 : ((line : Int) == (line : Int)) = true := by simp
    have f3 : ((le : Int) != 0) = true := by rw [bne_iff_ne]; omega
    clear y1 z1 hx3 hx4 lx3 lx4 hP hQB HLI HLO HCK HRQ hb3 hb4 hb5 hB3 hB4 hB2 hA hx0 hb2
    go_wp2_with fail
    go_ret
    exact ⟨rfl, hB5⟩
  · have HCK : Hid (checkQ q pf = (kind, 0, 0)) := hide (by unfold checkQ; rw [hrq])
    have HRQ := hide hrq
    clear hrq
    go_wp2_with fail
    refine (check_any _ b q pf w3 hP hQB).mono ?_
    rintro e w4 ⟨hb4, rfl⟩
    rw [unhide HCK]
    dsimp only
    have hB4 := hB3.trans (hb4.mono hB3.size)
    have hx4 := (hb4.block _ lx3).trans hx3
    have z1 : w4.cell? ⟨w2.heap.size, 1, none⟩ = some (.string ⟨pf.toArray⟩) := by rw [blk_cell hx4]; rfl
    have lx4 := blk_lt hx4
    go_wp2_with fail
    refine (dopen_any _ b q pf w4 (hP.later hb4) hQB).mono ?_
    rintro e w5 ⟨hb5, hp5⟩
    rw [unhide HRQ] at hp5
    obtain ⟨ss, db, gv, _, _, _, rfl, _, _, _⟩ := hp5
    have hB5 := hB4.trans (hb5.mono hB4.size)
    have hx5 := (hb5.block _ lx4).trans hx4
    have v2 : w5.cell? ⟨w2.heap.size, 2, none⟩ = some (.int .i64 (kind : Int)) := by rw [blk_cell hx5]; rfl
    have v3 : w5.cell? ⟨w2.heap.size, 3, none⟩ = some (.int .i64 0) := by rw [blk_cell hx5]; rfl
    have v4 : w5.cell? ⟨w2.heap.size, 4, none⟩ = some (.int .i64 0) := by rw [blk_cell hx5]; rfl
    have lx5 := blk_lt hx5
    have f1 : ((kind : Int) == (kind : Int)) = true := by simp
    clear y1 z1 hx3 hx4 lx3 lx4 hP hQB HLI HLO HCK HRQ hb3 hb4 hb5 hB3 hB4 hB2 hA hx0 hb2
    go_wp2_with fail
    go_ret
    exact ⟨rfl, hB5⟩
end Go.Proofs.Ytgipjjhkhfihpaa

namespace Go.Proofs.Ytgipjjhkhfihpaa
open Go.ChangeShapes Go.WideShapes Go.ChangeAt Go.RowKit

set_option maxRecDepth 100000 in
theorem long_lifted (os : Os) (started : os.Started) (H : Type) (enc : TypeId × Value → H) :
    ReturnsInHanded {} Try.checked os 3 .any (Rows.longSpec.pre6 enc Try.prog Try.f3 Rows.longRow.domain false) (Rows.longSpec.post enc Try.prog Try.f3 false true false false) := by
  refine returnsInHanded_of_change (C := Try.checked) Try.own started (by kernel_rfl) Try.func3
    (ChangeSpec.witness6 (enc := enc) (C := Try.checked) false ⟨#[], #[.int .i64 0], []⟩ 8 (by kernel_rfl) (by kernel_rfl) (by kernel_rfl) (by kernel_rfl)) ?_
  intro W base args ds gs before hval0 hW hcnd _
  have hval : ∀ (j : Nat) t v, Try.f3.params[j]? = some t → args[j]? = some v → Value.okWide Try.prog W .any base t v := hval0
  have hW' := hW
  obtain ⟨p, q, hA0, hV, rfl, hfz, hnd⟩ := hW
  have hA : DataW.TrodAll enc Try.prog W 0 (fun _ => true) true Try.f3.params.toList args.toList ds p := hA0
  rw [Try.params3] at hA hval
  obtain ⟨v0, vs0, d0, ds0, p0, q0, hargs, rfl, rfl, h0, r0⟩ := trodAll_cons hA
  obtain ⟨rfl, rfl, rfl⟩ := trodAll_nil r0
  obtain rfl : args = #[v0] := by cases args; simp_all
  obtain ⟨rfl, rfl⟩ := trodVars_none hV
  obtain ⟨a0, rfl, rfl, rfl, w0⟩ := open_int Try.underlying3 (hval 0 3 v0 rfl rfl) h0
  clear hA0 hval0
  simp only [List.append_nil] at hW'
  have hb0 := i64_of_wf w0
  refine (long_any a0 W hb0.1 hb0.2).mono fun e W' ⟨he, bel⟩ => ?_
  subst he
  exact ⟨_, rfl, _, _, _, [], _, [], hW', trodAll_mk1 (shut_bool Try.underlying4 _), trodAll_mk1 (shut_int Try.underlying3 w0), rfl, bel.frame _, fun h => by cases h⟩

theorem long_holds : Rows.LongSaid :=
  OpenClaim.holds_of_wide 3 Try.f3 rfl rfl rfl rfl rfl rfl rfl ⟨rfl, rfl, rfl, rfl, rfl⟩ rfl rfl rfl rfl rfl (by kernel_rfl) Try.func3 (by kernel_rfl)
    (of_decide_eq_true (by kernel_rfl)) (by unfold Func.isWrapper; first | (rw [if_pos (by decide +kernel)]; kernel_rfl) | (rw [if_neg (by decide +kernel)]; exact ⟨rfl, rfl⟩))
    (fun os started H enc _ => long_lifted os started H enc)
#print axioms long_holds
end Go.Proofs.Ytgipjjhkhfihpaa
