import Derived.Test.YtgipjjhkhfihpaaDoorFA
import Derived.Test.YtgipjjhkhfihpaaDoorAL
import Derived.Test.YtgipjjhkhfihpaaDoorCards
import Derived.Test.YtgipjjhkhfihpaaDoorTie
import Derived.ProofKit
import Derived.LaidMore
import Derived.Stop.Joined
import Derived.Lib.LaidTab
import Derived.OpenShut
import Derived.Deep.DeepHandedRow
import Derived.WalkKit
import Derived.ChangeMaps5
namespace Go.Proofs.YtgipjjhkhfihpaaDoor
open Go.ChangeShapes Go.WideShapes Go.ChangeAt Go.ChangeMaps Go.RowKit

theorem i64_wf2 {x : Int} (h : (Lit.int .i64 x).wf = true) : -9223372036854775808 ≤ x ∧ x ≤ 9223372036854775807 := bounds_i64 h
theorem fewer_met (os : Os) (args : Array Value) : laidMetH Tryd.prog Rows.fewerRow.laid ((World.doorLaid Tryd.prog 400 os).forCall (fun _ _ => 0) ⟨#[], args, []⟩).memory :=
  laidMetH_of_parts3 (fuel := 8) (laidMet_of_run' 8 (by kernel_rfl) (by kernel_rfl)) (by kernel_rfl) (by kernel_rfl)
theorem fewer_tab {W : World} (h : laidMetH Tryd.prog Rows.fewerRow.laid W) : TabAt W := by
  have hf : (Rows.fewerRow.laid.filter fun x => x.2.handleName?.isSome) = [] := by rfl
  unfold laidMetH at h
  rw [hf] at h
  exact tab_of_third2 h
set_option maxRecDepth 100000 in
set_option maxHeartbeats 800000 in
theorem fewer_any (l : List UInt8) (a : Int) (t : List UInt8) (w : World) (ht : TabAt w) (ha1 : -9223372036854775808 ≤ a) (ha2 : a ≤ 9223372036854775807) :
    Calls Tryd.prog 5 #[.string ⟨l.toArray⟩, .int .i64 a, .string ⟨t.toArray⟩] w fun e w' => e = .returned (.bool true) ∧ Below w.heap.size w w' := by
  by_cases hl : 8192 < l.length
  · have hd : decide ((8192 : Int) < (l.length : Int)) = true := decide_eq_true (by omega)
    have hd2 : decide (8192 < l.length) = true := decide_eq_true hl
    clear hl
    go_enter Tryd.func5, Tryd.ntmps5
    go_wp2_with fail
    go_ret
    exact ⟨rfl, Below.refl _ _⟩
  · have hd : decide ((8192 : Int) < (l.length : Int)) = false := decide_eq_false (by omega)
    have hd2 : decide (8192 < l.length) = false := decide_eq_false hl
    have HL : Hid (l.length ≤ 8192) := hide (by omega)
    clear hl
    by_cases hl : 8192 < t.length
    · have hd3 : decide ((8192 : Int) < (t.length : Int)) = true := decide_eq_true (by omega)
      have hd4 : decide (8192 < t.length) = true := decide_eq_true hl
      clear hl
      go_enter Tryd.func5, Tryd.ntmps5
      go_wp2_with fail
      go_ret
      exact ⟨rfl, Below.refl _ _⟩
    · have hd3 : decide ((8192 : Int) < (t.length : Int)) = false := decide_eq_false (by omega)
      have hd4 : decide (8192 < t.length) = false := decide_eq_false hl
      have HT : Hid (t.length ≤ 8192) := hide (by omega)
      clear hl
      go_enter Tryd.func5, Tryd.ntmps5
      go_wp2_with fail
      refine (anchored_any l w ht).mono ?_
      rintro e u1 ⟨rfl, b1⟩
      go_wp2_with fail
      refine (kfewer_any l t a u1 (ht.later b1) (unhide HL) (unhide HT) ha1 ha2).mono ?_
      rintro e u2 ⟨rfl, b2⟩
      go_wp2_with fail
      go_ret
      exact ⟨rfl, b1.trans (b2.mono b1.size)⟩

set_option maxHeartbeats 1600000 in
set_option maxRecDepth 100000 in
theorem fewer_lifted (os : Os) (started : os.Started) (H : Type) (enc : TypeId × Value → H) (F : Stop.Interp) :
    ReturnsInHanded {} Tryd.checked os 5 .any ((OpenSpec.ofChange Rows.fewerSpec).preRow enc Tryd.prog Tryd.f5 Rows.fewerRow.domain false Rows.fewerRow.laid) (((OpenSpec.ofChange Rows.fewerSpec).at F).post enc Tryd.prog Tryd.f5 false true false false) := by
  obtain ⟨places, hx⟩ : ∃ places, DataW.whole enc Tryd.prog ((World.doorLaid Tryd.prog 400 os).forCall (fun _ _ => 0) ⟨#[], #[.string ⟨#[]⟩, .int .i64 0, .string ⟨#[]⟩], []⟩).memory Tryd.f5.params.toList Rows.fewerSpec.vars false #[Value.string ⟨#[]⟩, Value.int .i64 0, Value.string ⟨#[]⟩].toList 8 = some ([.lit (.string []), .lit (.int .i64 0), .lit (.string [])], [], places) := ⟨[], by kernel_rfl⟩
  refine returnsInHanded_of_row (C := Tryd.checked) (s := OpenSpec.ofChange Rows.fewerSpec) (show ownKnob Tryd.prog.godebug = none by kernel_rfl) started (by kernel_rfl) Tryd.func5
    (witness_row_at (enc := enc) (C := Tryd.checked) false (World.doorLaid Tryd.prog 400 os) #[.string ⟨#[]⟩, .int .i64 0, .string ⟨#[]⟩] rfl (by kernel_rfl) (by kernel_rfl) (by kernel_rfl)
      (OpenSpec.preRow_of_cond 8 hx (by kernel_rfl) (fun k hk => by cases hk) (by kernel_rfl) (fewer_met os _))) ?_
  intro W base args ds gs before hval0 hW _ _ _ hL _ _
  have hval : ∀ (j : Nat) t v, Tryd.f5.params[j]? = some t → args[j]? = some v → Value.okWide Tryd.prog W .any base t v := hval0
  have hW' := hW
  obtain ⟨p, q, hA0, hV, rfl, hfz, hnd⟩ := hW
  have hA : DataW.TrodAll enc Tryd.prog W 0 (fun _ => true) true Tryd.f5.params.toList args.toList ds p := hA0
  rw [Tryd.params5] at hA hval
  obtain ⟨v0, vs0, d0, ds0, p0, q0, hargs0, rfl, rfl, h0, r0⟩ := trodAll_cons hA
  obtain ⟨v1, vs1, d1, ds1, p1, q1, hargs1, rfl, rfl, h1, r1⟩ := trodAll_cons r0
  obtain ⟨v2, vs2, d2, ds2, p2, q2, hargs2, rfl, rfl, h2, r2⟩ := trodAll_cons r1
  obtain ⟨rfl, rfl, rfl⟩ := trodAll_nil r2
  obtain rfl : args = #[v0, v1, v2] := by cases args; simp_all
  obtain ⟨rfl, rfl⟩ := trodVars_none hV
  obtain ⟨s0, rfl, rfl, rfl, w0⟩ := open_string Tryd.underlying9 (hval 0 9 v0 rfl rfl) h0
  obtain ⟨i1, rfl, rfl, rfl, w1⟩ := open_int Tryd.underlying3 (hval 1 3 v1 rfl rfl) h1
  have hb1 := i64_wf2 w1
  obtain ⟨s2, rfl, rfl, rfl, w2⟩ := open_string Tryd.underlying9 (hval 2 9 v2 rfl rfl) h2
  clear hA0 hval0
  simp only [List.append_nil] at hW'
  obtain ⟨l0, hl0⟩ : ∃ l : List UInt8, s0 = ⟨l.toArray⟩ := ⟨s0.data.toList, by simp⟩
  subst hl0
  obtain ⟨l2, hl2⟩ : ∃ l : List UInt8, s2 = ⟨l.toArray⟩ := ⟨s2.data.toList, by simp⟩
  subst hl2
  refine (fewer_any l0 i1 l2 W (fewer_tab hL) hb1.1 hb1.2).mono fun e W' ⟨he, bel⟩ => ?_
  subst he
  exact ⟨_, rfl, _, _, _, [], _, [], hW', trodAll_mk1 (shut_bool Tryd.underlying4 _), trodAll_mk3 (shut_string Tryd.underlying9 w0) (shut_int Tryd.underlying3 w1) (shut_string Tryd.underlying9 w2), rfl, bel.frame _, fun h => by cases h⟩

theorem fewer_said : Rows.FewerSaid :=
  OpenClaim.holds_of_cond 5 Tryd.f5 rfl rfl rfl rfl rfl rfl rfl ⟨rfl, rfl, rfl, rfl, rfl⟩ rfl rfl rfl rfl rfl (by kernel_rfl) Tryd.func5 (by kernel_rfl)
    (of_decide_eq_true (by kernel_rfl)) (by unfold Func.isWrapper; first | (rw [if_pos (by decide +kernel)]; kernel_rfl) | (rw [if_neg (by decide +kernel)]; exact ⟨rfl, rfl⟩))
    (fun os started H enc _ F => by rw [OpenClaim.pre_eq_preRow]; exact fewer_lifted os started H enc F)
/-- No parameter wants a stand-in; the program's own looks are off. -/
theorem fewer_plain (f : FuncId) (fn : Func) (hf : Tryd.pinned.checked.prog.funcNamed "duel/duelkeep.Fewer" = some f) (hfn : Tryd.pinned.checked.prog.funcs[f]? = some fn) :
    false = Tryd.pinned.checked.prog.looks [] ∧ ∀ (j : Nat) t, fn.params[j]? = some t → Tryd.pinned.checked.prog.wantsStandIn t = false := by
  obtain rfl : f = 5 := Option.some.inj ((show Tryd.prog.funcNamed "duel/duelkeep.Fewer" = some 5 by kernel_rfl).symm.trans hf) |>.symm
  obtain rfl : fn = Tryd.f5 := (Option.some.inj (Tryd.func5.symm.trans hfn)).symm
  refine ⟨by kernel_rfl, fun j t ht => ?_⟩
  rw [Tryd.params5] at ht
  have h2 : t = 9 ∨ t = 3 := by
    have := Array.mem_of_getElem? ht
    simp at this
    first
      | exact this
      | omega
      | (rcases this with h | h | h <;> simp [h])
  rcases h2 with rfl | rfl
  · exact (show Tryd.prog.wantsStandIn 9 = false by kernel_rfl)
  · exact (show Tryd.prog.wantsStandIn 3 = false by kernel_rfl)
theorem fewer_holds : Rows.FewerCardSaid :=
  Claim7.holds_tied_plain_at .later [] _ _ _ _ fewer_said (fun _ h => by cases h) (by kernel_rfl) (fun _ h => by cases h) fewer_row_tie rfl ⟨rfl, rfl⟩ (by kernel_rfl) rfl fewer_plain (by kernel_rfl)
#print axioms fewer_holds
end Go.Proofs.YtgipjjhkhfihpaaDoor
