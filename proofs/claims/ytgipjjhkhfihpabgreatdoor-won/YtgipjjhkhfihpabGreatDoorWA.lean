import Derived.Test.YtgipjjhkhfihpabGreatDoorBK
import Derived.Test.YtgipjjhkhfihpabGreatDoorAZ
import Derived.Test.YtgipjjhkhfihpabGreatDoorBA
import Derived.Test.YtgipjjhkhfihpabGreatDoorCards
import Derived.Test.YtgipjjhkhfihpabGreatDoorTie
import Derived.ProofKit
import Derived.LaidMore
import Derived.Stop.Joined
import Derived.Lib.LaidTab
import Derived.OpenShut
import Derived.Deep.DeepHandedRow
import Derived.WalkKit
import Derived.ChangeMaps5
namespace Go.Proofs.YtgipjjhkhfihpabGreatDoor
open Go.RowKit

/-! ### won -/
theorem read_of_check {q : QS} {t : List UInt8} {kind : Nat} (h : checkQ q t = (kind, 0, 0)) (h0 : kind ≠ 0) : ∃ ls, readQ q t = .inr (kind, ls) := by
  cases hr : readQ q t with
  | inl y =>
    unfold checkQ at h; rw [hr] at h; obtain ⟨y1, y2⟩ := y
    injection h with h1 _
    exact absurd h1.symm h0
  | inr y => unfold checkQ at h; rw [hr] at h; obtain ⟨y1, y2⟩ := y; injection h with h1 _; subst h1; exact ⟨y2, rfl⟩
theorem verdict_read {l : List UInt8} {q : QS} (h : loadSpec l = .inr q) (room : Nat) : ((verdict q 0 room).kind = 1 ∨ (verdict q 0 room).kind = 2) ∧ checkQ q (verdict q 0 room).text = ((verdict q 0 room).kind, 0, 0) := by
  obtain ⟨hg, F, _, hF, hO⟩ := load_good h
  have hs := solve_ok hg hF hO 0 room
  have h0 : (solveM q 0 room).2.1 ≠ 0 := fun e => by have := (hs.unknown e).1; omega
  have hp := (hs.proof h0).2.2.1
  have hk : (verdict q 0 room).kind = (solveM q 0 room).2.1 := rfl
  have ht : (verdict q 0 room).text = textP ((solveM q 0 room).2.1 == 2) (shortOf ((solveM q 0 room).1.proof (solveM q 0 room).2.1) (solveM q 0 room).2.2) := by
    show (if (solveM q 0 room).2.1 = 0 then [] else _) = _
    rw [if_neg h0]
  have hk2 : (solveM q 0 room).2.1 = 1 ∨ (solveM q 0 room).2.1 = 2 := by
    rcases hs.kind with e | e
    · exact absurd e h0
    · exact e
  rw [hk, ht]
  refine ⟨hk2, ?_⟩
  rw [check_eq hF hO, hp]
  show (kd ((solveM q 0 room).2.1 == 2), 0, 0) = _
  rcases hk2 with e | e <;> rw [e] <;> rfl
set_option maxRecDepth 100000 in
set_option maxHeartbeats 6400000 in
theorem kwon_any (l : List UInt8) (a : Int) (w : World) (ht : TabAt w) (hll : l.length ≤ 8192) (ha1 : -9223372036854775808 ≤ a) (ha2 : a ≤ 9223372036854775807) :
    Calls Tryz.prog 12 #[.string ⟨l.toArray⟩, .int .i64 a] w fun e w' => e = .returned (.bool true) ∧ Below w.heap.size w w' := by
  go_enter Tryz.func12, Tryz.ntmps12
  go_wp2_with fail
  refine (load_any l w).mono ?_
  rintro e u1 ⟨c1, hp⟩
  cases hq : loadSpec l with
  | inl x0 =>
    obtain ⟨x, i⟩ := x0
    have hx := loadSpec_pos l x i hq
    rw [hq] at hp
    have hp' : e = .returned (.tuple #[.pointer none, .int .i64 (x : Int), .int .i64 (i : Int)]) := hp
    subst hp'
    clear hp hq
    have hx0 : ((x : Int) == 0) = false := by rw [beq_eq_false_iff_ne]; omega
    have hx1 : (x == 0) = false := by rw [beq_eq_false_iff_ne]; omega
    go_wp2_with fail
    go_ret
    exact ⟨rfl, c1⟩
  | inr q =>
    obtain ⟨hg, hT⟩ := text_load hq
    have HT := hide hT
    have HVR := hide (fun room => verdict_read hq room)
    rw [hq] at hp
    obtain ⟨bq, rfl, hP⟩ := hp
    clear hq hT
    go_wp2_with fail
    refine (kpick_eq a 65 u1 (by decide) (by decide) ha1 ha2).mono ?_
    rintro e u2 ⟨rfl, rfl⟩
    have hn64 : pickK a 65 ≤ 64 := by have := pickK_lt a 65 (by decide); omega
    generalize pickK a 65 = n at *
    go_wp2_with fail
    refine (dsolve_any _ bq q 0 n u2 hP hg (ht.later c1) (by decide) hn64).mono ?_
    rintro e u3 ⟨rfl, c3⟩
    obtain ⟨hk12, hck⟩ := unhide HVR n
    generalize verdict q 0 n = vd at *
    obtain ⟨vk, vn, vm, vt⟩ := vd
    dsimp only at hk12 hck ⊢
    have hB := c1.trans (c3.mono c1.size)
    have hP3 := hP.later c3
    clear HVR
    obtain ⟨ls, hrd⟩ := read_of_check hck (by omega)
    have hKP : KP l vt q vk := ⟨hg, unhide HT, ls, hrd⟩
    have HKP := hide hKP
    have HCK := hide hck
    clear hck hrd hKP HT
    rcases hk12 with rfl | rfl
    · go_wp2_with fail
      have hA : Below u3.heap.size u3 (u3.alloc (.cells #[.int .i64 1, .int .i64 (vn : Int), .int .i64 (vm : Int), .string ⟨vt.toArray⟩] 32)) := (Below.refl _ _).alloc (Nat.le_refl _) _
      have hv := heap_alloc_new u3 (.cells #[.int .i64 1, .int .i64 (vn : Int), .int .i64 (vm : Int), .string ⟨vt.toArray⟩] 32)
      generalize (u3.alloc (.cells #[.int .i64 1, .int .i64 (vn : Int), .int .i64 (vm : Int), .string ⟨vt.toArray⟩] 32)) = u4 at *
      have hB4 := hB.trans (hA.mono hB.size)
      have hP4 := hP3.later hA
      refine (check_any _ bq q vt u4 hP4 hg.qb).mono ?_
      rintro e u5 ⟨c5, rfl⟩
      rw [unhide HCK]
      dsimp only
      have hB5 := hB4.trans (c5.mono hB4.size)
      have hP5 := hP4.later c5
      replace hv := (c5.block _ (blk_lt hv)).trans hv
      have cv0 : u5.cell? ⟨u3.heap.size, 0, none⟩ = some (.int .i64 1) := by rw [blk_cell hv]; rfl
      have cv3 : u5.cell? ⟨u3.heap.size, 3, none⟩ = some (.string ⟨vt.toArray⟩) := by rw [blk_cell hv]; rfl
      have lv := blk_lt hv
      have h8 := blocks_le q.vars hg.qb.vl
      go_wp2_with fail
      refine (kplays_any l vt q 1 (unhide HKP) false rfl _ bq hll ((progBlocks q.vars).length + 1) [] none 0 u5 (by omega) (by simp; omega) (legal_nil q 1) hP5 (World.ownsRow_nil _ _ _ _)).mono ?_
      rintro e u6 ⟨rfl, b6⟩
      have hB6 := hB5.trans (b6.mono hB5.size)
      go_wp2_with fail
      go_ret
      exact ⟨rfl, hB6⟩
    · go_wp2_with fail
      have hA : Below u3.heap.size u3 (u3.alloc (.cells #[.int .i64 2, .int .i64 (vn : Int), .int .i64 (vm : Int), .string ⟨vt.toArray⟩] 32)) := (Below.refl _ _).alloc (Nat.le_refl _) _
      have hv := heap_alloc_new u3 (.cells #[.int .i64 2, .int .i64 (vn : Int), .int .i64 (vm : Int), .string ⟨vt.toArray⟩] 32)
      generalize (u3.alloc (.cells #[.int .i64 2, .int .i64 (vn : Int), .int .i64 (vm : Int), .string ⟨vt.toArray⟩] 32)) = u4 at *
      have hB4 := hB.trans (hA.mono hB.size)
      have hP4 := hP3.later hA
      refine (check_any _ bq q vt u4 hP4 hg.qb).mono ?_
      rintro e u5 ⟨c5, rfl⟩
      rw [unhide HCK]
      dsimp only
      have hB5 := hB4.trans (c5.mono hB4.size)
      have hP5 := hP4.later c5
      replace hv := (c5.block _ (blk_lt hv)).trans hv
      have cv0 : u5.cell? ⟨u3.heap.size, 0, none⟩ = some (.int .i64 2) := by rw [blk_cell hv]; rfl
      have cv3 : u5.cell? ⟨u3.heap.size, 3, none⟩ = some (.string ⟨vt.toArray⟩) := by rw [blk_cell hv]; rfl
      have lv := blk_lt hv
      have h8 := blocks_le q.vars hg.qb.vl
      go_wp2_with fail
      refine (kplays_any l vt q 2 (unhide HKP) true rfl _ bq hll ((progBlocks q.vars).length + 1) [] none 0 u5 (by omega) (by simp; omega) (legal_nil q 2) hP5 (World.ownsRow_nil _ _ _ _)).mono ?_
      rintro e u6 ⟨rfl, b6⟩
      have hB6 := hB5.trans (b6.mono hB5.size)
      go_wp2_with fail
      go_ret
      exact ⟨rfl, hB6⟩
end Go.Proofs.YtgipjjhkhfihpabGreatDoor

namespace Go.Proofs.YtgipjjhkhfihpabGreatDoor
open Go.ChangeShapes Go.WideShapes Go.ChangeAt Go.ChangeMaps Go.RowKit

theorem i64_wf2 {x : Int} (h : (Lit.int .i64 x).wf = true) : -9223372036854775808 ≤ x ∧ x ≤ 9223372036854775807 := bounds_i64 h
theorem won_met (os : Os) (args : Array Value) : laidMetH Tryz.prog Rows.wonRow.laid ((World.doorLaid Tryz.prog 400 os).forCall (fun _ _ => 0) ⟨#[], args, []⟩).memory :=
  laidMetH_of_parts3 (fuel := 8) (laidMet_of_run' 8 (by kernel_rfl) (by kernel_rfl)) (by kernel_rfl) (by kernel_rfl)
theorem won_tab {W : World} (h : laidMetH Tryz.prog Rows.wonRow.laid W) : TabAt W := by
  have hf : (Rows.wonRow.laid.filter fun x => x.2.handleName?.isSome) = [] := by rfl
  unfold laidMetH at h
  rw [hf] at h
  exact tab_of_third2 h
set_option maxRecDepth 100000 in
set_option maxHeartbeats 800000 in
theorem won_any (l : List UInt8) (a : Int) (w : World) (ht : TabAt w) (ha1 : -9223372036854775808 ≤ a) (ha2 : a ≤ 9223372036854775807) :
    Calls Tryz.prog 4 #[.string ⟨l.toArray⟩, .int .i64 a] w fun e w' => e = .returned (.bool true) ∧ Below w.heap.size w w' := by
  by_cases hl : 8192 < l.length
  · have hd : decide ((8192 : Int) < (l.length : Int)) = true := decide_eq_true (by omega)
    have hd2 : decide (8192 < l.length) = true := decide_eq_true hl
    clear hl
    go_enter Tryz.func4, Tryz.ntmps4
    go_wp2_with fail
    go_ret
    exact ⟨rfl, Below.refl _ _⟩
  · have hd : decide ((8192 : Int) < (l.length : Int)) = false := decide_eq_false (by omega)
    have hd2 : decide (8192 < l.length) = false := decide_eq_false hl
    have HL : Hid (l.length ≤ 8192) := hide (by omega)
    clear hl
    go_enter Tryz.func4, Tryz.ntmps4
    go_wp2_with fail
    refine (anchored_any l w ht).mono ?_
    rintro e u1 ⟨rfl, b1⟩
    go_wp2_with fail
    refine (kwon_any l a u1 (ht.later b1) (unhide HL) ha1 ha2).mono ?_
    rintro e u2 ⟨rfl, b2⟩
    go_wp2_with fail
    go_ret
    exact ⟨rfl, b1.trans (b2.mono b1.size)⟩

set_option maxHeartbeats 1600000 in
set_option maxRecDepth 100000 in
theorem won_lifted (os : Os) (started : os.Started) (H : Type) (enc : TypeId × Value → H) (F : Stop.Interp) :
    ReturnsInHanded {} Tryz.checked os 4 .any ((OpenSpec.ofChange Rows.wonSpec).preRow enc Tryz.prog Tryz.f4 Rows.wonRow.domain false Rows.wonRow.laid) (((OpenSpec.ofChange Rows.wonSpec).at F).post enc Tryz.prog Tryz.f4 false true false false) := by
  obtain ⟨places, hx⟩ : ∃ places, DataW.whole enc Tryz.prog ((World.doorLaid Tryz.prog 400 os).forCall (fun _ _ => 0) ⟨#[], #[.string ⟨#[]⟩, .int .i64 0], []⟩).memory Tryz.f4.params.toList Rows.wonSpec.vars false #[Value.string ⟨#[]⟩, Value.int .i64 0].toList 8 = some ([.lit (.string []), .lit (.int .i64 0)], [], places) := ⟨[], by kernel_rfl⟩
  refine returnsInHanded_of_row (C := Tryz.checked) (s := OpenSpec.ofChange Rows.wonSpec) (show ownKnob Tryz.prog.godebug = none by kernel_rfl) started (by kernel_rfl) Tryz.func4
    (witness_row_at (enc := enc) (C := Tryz.checked) false (World.doorLaid Tryz.prog 400 os) #[.string ⟨#[]⟩, .int .i64 0] rfl (by kernel_rfl) (by kernel_rfl) (by kernel_rfl)
      (OpenSpec.preRow_of_cond 8 hx (by kernel_rfl) (fun k hk => by cases hk) (by kernel_rfl) (won_met os _))) ?_
  intro W base args ds gs before hval0 hW _ _ _ hL _ _
  have hval : ∀ (j : Nat) t v, Tryz.f4.params[j]? = some t → args[j]? = some v → Value.okWide Tryz.prog W .any base t v := hval0
  have hW' := hW
  obtain ⟨p, q, hA0, hV, rfl, hfz, hnd⟩ := hW
  have hA : DataW.TrodAll enc Tryz.prog W 0 (fun _ => true) true Tryz.f4.params.toList args.toList ds p := hA0
  rw [Tryz.params4] at hA hval
  obtain ⟨v0, vs0, d0, ds0, p0, q0, hargs0, rfl, rfl, h0, r0⟩ := trodAll_cons hA
  obtain ⟨v1, vs1, d1, ds1, p1, q1, hargs1, rfl, rfl, h1, r1⟩ := trodAll_cons r0
  obtain ⟨rfl, rfl, rfl⟩ := trodAll_nil r1
  obtain rfl : args = #[v0, v1] := by cases args; simp_all
  obtain ⟨rfl, rfl⟩ := trodVars_none hV
  obtain ⟨s0, rfl, rfl, rfl, w0⟩ := open_string Tryz.underlying9 (hval 0 9 v0 rfl rfl) h0
  obtain ⟨i1, rfl, rfl, rfl, w1⟩ := open_int Tryz.underlying3 (hval 1 3 v1 rfl rfl) h1
  have hb1 := i64_wf2 w1
  clear hA0 hval0
  simp only [List.append_nil] at hW'
  obtain ⟨l0, hl0⟩ : ∃ l : List UInt8, s0 = ⟨l.toArray⟩ := ⟨s0.data.toList, by simp⟩
  subst hl0
  refine (won_any l0 i1 W (won_tab hL) hb1.1 hb1.2).mono fun e W' ⟨he, bel⟩ => ?_
  subst he
  exact ⟨_, rfl, _, _, _, [], _, [], hW', trodAll_mk1 (shut_bool Tryz.underlying4 _), trodAll_mk2 (shut_string Tryz.underlying9 w0) (shut_int Tryz.underlying3 w1), rfl, bel.frame _, fun h => by cases h⟩

theorem won_said : Rows.WonSaid :=
  OpenClaim.holds_of_cond 4 Tryz.f4 rfl rfl rfl rfl rfl rfl rfl ⟨rfl, rfl, rfl, rfl, rfl⟩ rfl rfl rfl rfl rfl (by kernel_rfl) Tryz.func4 (by kernel_rfl)
    (of_decide_eq_true (by kernel_rfl)) (by unfold Func.isWrapper; first | (rw [if_pos (by decide +kernel)]; kernel_rfl) | (rw [if_neg (by decide +kernel)]; exact ⟨rfl, rfl⟩))
    (fun os started H enc _ F => by rw [OpenClaim.pre_eq_preRow]; exact won_lifted os started H enc F)
/-- No parameter wants a stand-in; the program's own looks are off. -/
theorem won_plain (f : FuncId) (fn : Func) (hf : Tryz.pinned.checked.prog.funcNamed "duel/duelkeep.Won" = some f) (hfn : Tryz.pinned.checked.prog.funcs[f]? = some fn) :
    false = Tryz.pinned.checked.prog.looks [] ∧ ∀ (j : Nat) t, fn.params[j]? = some t → Tryz.pinned.checked.prog.wantsStandIn t = false := by
  obtain rfl : f = 4 := Option.some.inj ((show Tryz.prog.funcNamed "duel/duelkeep.Won" = some 4 by kernel_rfl).symm.trans hf) |>.symm
  obtain rfl : fn = Tryz.f4 := (Option.some.inj (Tryz.func4.symm.trans hfn)).symm
  refine ⟨by kernel_rfl, fun j t ht => ?_⟩
  rw [Tryz.params4] at ht
  have h2 : t = 9 ∨ t = 3 := by
    have := Array.mem_of_getElem? ht
    simp at this
    first
      | exact this
      | omega
      | (rcases this with h | h | h <;> simp [h])
  rcases h2 with rfl | rfl
  · exact (show Tryz.prog.wantsStandIn 9 = false by kernel_rfl)
  · exact (show Tryz.prog.wantsStandIn 3 = false by kernel_rfl)
theorem won_holds : Rows.WonCardSaid :=
  Claim7.holds_tied_plain_at .later [] _ _ _ _ won_said (fun _ h => by cases h) (by kernel_rfl) (fun _ h => by cases h) won_row_tie rfl ⟨rfl, rfl⟩ (by kernel_rfl) rfl won_plain (by kernel_rfl)
#print axioms won_holds
end Go.Proofs.YtgipjjhkhfihpabGreatDoor
