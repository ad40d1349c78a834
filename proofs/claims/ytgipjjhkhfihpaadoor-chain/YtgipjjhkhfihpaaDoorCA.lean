import Derived.Test.YtgipjjhkhfihpaaDoorAJ
import Derived.Test.YtgipjjhkhfihpaaDoorAC
import Derived.Test.YtgipjjhkhfihpaaDoorAY
import Derived.Test.YtgipjjhkhfihpaaDoorCards
import Derived.Test.YtgipjjhkhfihpaaDoorTie
import Derived.ProofKit
import Derived.LaidMore
import Derived.Stop.Joined
import Derived.Lib.LaidTab
import Derived.OpenShut
import Derived.Deep.DeepHandedRow
import Derived.WalkKit
import Derived.ChangeMaps5
namespace Go.Proofs.YtgipjjhkhfihpaaDoor
open Go.RowKit

/-! ### Chain: the texts, and what is answered, by the kernel -/
def chainPre : Nat → List UInt8
  | 0 => []
  | 1 => [99, 32, 49, 10]
  | (k + 2) => chainPre (k + 1) ++ [99, 32, 45, UInt8.ofNat (49 + k), 32, UInt8.ofNat (50 + k), 10]
def chainText (n : Nat) : List UInt8 := chainPre n ++ [99, 32, 45, UInt8.ofNat (48 + n), 10]
def linesR (t : List UInt8) : Nat := ((klinesOf t).filter (fun r => r.head? == some 114)).length
def chainSays (n : Nat) (v : Vd) : Bool := v.kind == 1 && v.nodes == 1 && decide (linesR v.text ≤ n) && decide (v.text.length ≤ 262144)
def chainOk (n few : Nat) : Bool := match loadSpec (chainText n) with
  | .inl _ => false
  | .inr q => chainSays n (verdict q few 0)
def chainU (n u : Nat) : Bool := (vkind ([97, 32, UInt8.ofNat (48 + u), 10] ++ chainText n)).1 == 1
theorem chain_all : (List.range 7).all (fun a => (List.range 3).all (fun f => chainOk (a + 2) f)) = true := by kernel_rfl
theorem chainU_all : (List.range 7).all (fun a => (List.range (a + 2)).all (fun u => chainU (a + 2) (u + 1))) = true := by kernel_rfl
end Go.Proofs.YtgipjjhkhfihpaaDoor

namespace Go.Proofs.YtgipjjhkhfihpaaDoor
open Go.RowKit

/-! ### Chain -/
theorem chain_at (na few : Nat) (h1 : na < 7) (h2 : few < 3) : ∃ q, loadSpec (chainText (na + 2)) = .inr q ∧ (verdict q few 0).kind = 1 ∧ (verdict q few 0).nodes = 1 ∧ linesR (verdict q few 0).text ≤ na + 2 ∧ (verdict q few 0).text.length ≤ 262144 := by
  have h := chain_all
  rw [List.all_eq_true] at h
  have h' := h na (List.mem_range.2 h1)
  rw [List.all_eq_true] at h'
  have h3 := h' few (List.mem_range.2 h2)
  unfold chainOk at h3
  cases hq : loadSpec (chainText (na + 2)) with
  | inl a => rw [hq] at h3; cases h3
  | inr q =>
    rw [hq] at h3
    dsimp only at h3
    unfold chainSays at h3
    simp only [Bool.and_eq_true, beq_iff_eq, decide_eq_true_eq] at h3
    exact ⟨q, rfl, h3.1.1.1, h3.1.1.2, h3.1.2, h3.2⟩
theorem chainU_at (na u : Nat) (h1 : na < 7) (h2 : u < na + 2) : (vkind ([97, 32, UInt8.ofNat (48 + (u + 1)), 10] ++ chainText (na + 2))).1 = 1 := by
  have h := chainU_all
  rw [List.all_eq_true] at h
  have h' := h na (List.mem_range.2 h1)
  rw [List.all_eq_true] at h'
  have h3 := h' u (List.mem_range.2 h2)
  unfold chainU at h3
  simpa using h3
theorem chainPre_one : chainPre 1 = [99, 32, 49, 10] := rfl
theorem chainPre_more (k : Nat) : chainPre (k + 2) = chainPre (k + 1) ++ [99, 32, 45, UInt8.ofNat (49 + k), 32, UInt8.ofNat (50 + k), 10] := rfl
theorem chainPre_len (k : Nat) : (chainPre k).length ≤ 7 * k := by
  match k with
  | 0 => simp [chainPre]
  | 1 => simp [chainPre]
  | k + 2 =>
    have := chainPre_len (k + 1)
    rw [chainPre_more, List.length_append]
    simp
    omega
theorem chain_next (k : Nat) (h : 0 < k) (acc : List UInt8) (hac : acc = chainPre k) (c d : UInt8) (hc : c = UInt8.ofNat (48 + k)) (hd : d = UInt8.ofNat (49 + k)) : acc ++ [99, 32, 45] ++ [c] ++ [32] ++ [d] ++ [10] = chainPre (k + 1) := by
  obtain ⟨j, rfl⟩ : ∃ j, k = j + 1 := ⟨k - 1, by omega⟩
  rw [chainPre_more, ← hac, hc, hd]
  simp [show 48 + (j + 1) = 49 + j from by omega, show 49 + (j + 1) = 50 + j from by omega]
attribute [local go_sem] ba_get
set_option maxRecDepth 100000 in
set_option maxHeartbeats 3200000 in
theorem chain_any (a b : Int) (w : World) (ht : TabAt w) (ha1 : -9223372036854775808 ≤ a) (ha2 : a ≤ 9223372036854775807) (hb1 : -9223372036854775808 ≤ b) (hb2 : b ≤ 9223372036854775807) :
    Calls Tryd.prog 4 #[.int .i64 a, .int .i64 b] w fun e w' => e = .returned (.bool true) ∧ Below w.heap.size w w' := by
  go_enter Tryd.func4, Tryd.ntmps4
  go_wp2_with fail
  refine (kpick_eq a 7 w (by decide) (by decide) ha1 ha2).mono ?_
  rintro e w1 ⟨rfl, rfl⟩
  have hn := pickK_lt a 7 (by decide)
  generalize pickK a 7 = na at *
  go_wp2_with fail
  go_loopg [6, 7] (na + 2) (fun m vs vv wx => ∃ (k : Nat) (acc : List UInt8), vv = .int .i64 ((k : Int) + 1) ∧ vs = .string ⟨acc.toArray⟩ ∧ acc = chainPre k ∧ k + m = na + 2 ∧ Below w1.heap.size w1 wx)
  case atStart => exact ⟨0, [], rfl, rfl, rfl, by omega, Below.refl _ _⟩
  case round =>
    obtain ⟨k, acc, rfl, rfl, hac, hkm, hb⟩ := hrel
    have hal : acc.length ≤ 100 := by have := chainPre_len k; rw [← hac] at this; omega
    have HAC := hide hac
    clear hac
    by_cases hlt : k + 1 ≤ na + 2
    · have hd1 : decide ((k : Int) + 1 ≤ 2 + (na : Int)) = true := decide_eq_true (by omega)
      have hcv := conv_byte (48 + ((k : Int) + 1)) (by omega) (by omega) wr
      by_cases hk0 : k = 0
      · have hd2 : (((k : Int) + 1) == 1) = true := by rw [beq_iff_eq]; omega
        have HN : Hid (acc ++ [99, 32, 49, 10] = chainPre (k + 1)) := hide (by rw [unhide HAC]; subst hk0; rfl)
        clear hk0
        have hcv3 := conv_byte 49 (by omega) (by omega) wr
        go_wp2_with fail
        go_roundg (gk - 1)
        case measure => omega
        case rel => exact ⟨k + 1, chainPre (k + 1), by go_num, by rw [← unhide HN, ← ba_append], rfl, by omega, hb.alloc hb.size _⟩
      · have hd2 : (((k : Int) + 1) == 1) = false := by rw [beq_eq_false_iff_ne]; omega
        have hcv2 := conv_byte (48 + ((k : Int) + 1) - 1) (by omega) (by omega) (wr.alloc (.cells #[.int .u8 (48 + ((k : Int) + 1))] 5))
        rw [show (wr.alloc (.cells #[.int .u8 (48 + ((k : Int) + 1))] 5)).heap.size = wr.heap.size + 1 from Array.size_push _] at hcv2
        obtain ⟨cc, hcc⟩ : ∃ X, X = UInt8.ofNat (48 + k) := ⟨_, rfl⟩
        obtain ⟨dd, hdd⟩ : ∃ X, X = UInt8.ofNat (49 + k) := ⟨_, rfl⟩
        have HN := hide (chain_next k (by omega) acc (unhide HAC) cc dd hcc hdd)
        rw [show (48 + ((k : Int) + 1) - 1).toNat = 48 + k from by omega, ← hcc] at hcv2
        rw [show (48 + ((k : Int) + 1)).toNat = 49 + k from by omega, ← hdd] at hcv
        clear hk0 hcc hdd
        go_wp2_with fail
        go_roundg (gk - 1)
        case measure => omega
        case rel =>
          refine ⟨k + 1, chainPre (k + 1), by go_num, ?_, rfl, by omega, ?_⟩
          · rw [← unhide HN]; simp only [ba_append]
          · have b1 := hb.alloc hb.size (.cells #[.int .u8 (48 + ((k : Int) + 1))] 5)
            exact b1.alloc b1.size _
    · have hd1 : decide ((k : Int) + 1 ≤ 2 + (na : Int)) = false := decide_eq_false (by omega)
      have hkn : k = na + 2 := by omega
      have hcv := conv_byte (48 + (2 + (na : Int))) (by omega) (by omega) wr
      obtain ⟨cc, hcc⟩ : ∃ X, X = UInt8.ofNat (48 + (na + 2)) := ⟨_, rfl⟩
      rw [show (48 + (2 + (na : Int))).toNat = 48 + (na + 2) from by omega, ← hcc] at hcv
      have hEE : ByteArray.mk acc.toArray ++ ⟨#[99, 32, 45]⟩ ++ ⟨#[cc]⟩ ++ ⟨#[10]⟩ = ⟨(chainText (na + 2)).toArray⟩ := by
        simp only [ba_append]
        unfold chainText
        rw [unhide HAC, hkn, hcc]
        simp
      clear HAC hkn hlt hcc
      obtain ⟨ct, hct⟩ : ∃ X, X = chainText (na + 2) := ⟨_, rfl⟩
      rw [← hct] at hEE
      have HCT := hide hct
      clear hct
      go_wp2_with fail
      refine (load_any ct _).mono ?_
      rintro e u2 ⟨c2, hp⟩
      have hB1 := hb.alloc hb.size (.cells #[.int .u8 (48 + (2 + (na : Int)))] 5)
      have hB2 := hB1.trans (c2.mono hB1.size)
      clear hcv hEE
      generalize hfe : pickK b 3 = few
      have HFE := hide hfe
      have hf3 : few < 3 := by rw [← hfe]; exact pickK_lt b 3 (by decide)
      obtain ⟨q, hq, hk1, hn1, hr1, hl1⟩ := chain_at na few (by omega) hf3
      rw [← unhide HCT] at hq
      have hg := (load_good hq).1
      rw [hq] at hp
      obtain ⟨bq, rfl, hP⟩ := hp
      clear hq hfe
      go_wp2_with fail
      refine (kpick_eq b 3 _ (by decide) (by decide) hb1 hb2).mono ?_
      rintro e u3 ⟨rfl, rfl⟩
      rw [unhide HFE]
      clear HFE
      go_wp2_with fail
      refine (dsolve_any _ bq q few 0 u3 hP hg (ht.later hB2) (by omega) (by decide)).mono ?_
      rintro e u4 ⟨rfl, b4⟩
      generalize verdict q few 0 = vd at *
      obtain ⟨vk, vn, vm, vt⟩ := vd
      dsimp only at hk1 hn1 hr1 hl1 ⊢
      obtain rfl := hk1
      obtain rfl := hn1
      have hB4 := hB2.trans (b4.mono hB2.size)
      go_wp2_with fail
      have hA : Below u4.heap.size u4 (u4.alloc (.cells #[.int .i64 1, .int .i64 1, .int .i64 (vm : Int), .string ⟨vt.toArray⟩] 31)) := (Below.refl _ _).alloc (Nat.le_refl _) _
      have hv := heap_alloc_new u4 (.cells #[.int .i64 1, .int .i64 1, .int .i64 (vm : Int), .string ⟨vt.toArray⟩] 31)
      have hB5 := hB4.trans (hA.mono hB4.size)
      generalize (u4.alloc (.cells #[.int .i64 1, .int .i64 1, .int .i64 (vm : Int), .string ⟨vt.toArray⟩] 31)) = u5 at *
      refine (klines_any vt u5 (by omega)).mono ?_
      rintro e u6 ⟨vl, rfl, hown, b6⟩
      have hB6 := hB5.trans (b6.mono hB5.size)
      replace hv := (b6.block _ (blk_lt hv)).trans hv
      have hrl : (klinesOf vt).length ≤ 262144 := by have := (cutTo_size 10 vt).1; unfold klinesOf; omega
      have hrr : ∀ r ∈ klinesOf vt, r.length ≤ 262144 := fun r hr => by have := cutAt_len 10 vt r (by unfold cutAt; exact List.mem_append_left _ hr); omega
      have hr1' : ((klinesOf vt).filter (fun r => r.head? == some 114)).length ≤ na + 2 := hr1
      clear hr1 hA
      generalize klinesOf vt = rows at *
      have HR1 := hide hr1'
      have HRR := hide hrr
      clear hr1' hrr
      obtain ⟨aL, cL, rfl⟩ := own_form hown
      go_wp2_with fail
      go_loopg [18, 19] (rows.length) (fun m v2 vi wx => ∃ (j t2 : Nat), vi = .int .i64 (j : Int) ∧ v2 = .int .i64 (t2 : Int) ∧ j + m = rows.length ∧ t2 = ((rows.take j).filter (fun r => r.head? == some 114)).length ∧ Below u6.heap.size u6 wx)
      case atStart => exact ⟨0, 0, rfl, rfl, by omega, by simp, Below.refl _ _⟩
      case round =>
        obtain ⟨j, t2, rfl, rfl, hjm, ht2, hb⟩ := hrel
        have ht2l : t2 ≤ 262144 := by
          have h1 := List.length_filter_le (fun r : List UInt8 => r.head? == some 114) (rows.take j)
          have h2 := List.length_take_le j rows
          omega
        have HT2 := hide ht2
        clear ht2
        by_cases hlt : j < rows.length
        · have hd3 : decide ((j : Int) < (rows.length : Int)) = true := decide_eq_true (by omega)
          have hd4 : decide (j < rows.length) = true := decide_eq_true hlt
          obtain ⟨g, cap, hVe, _, hg', _, hcell⟩ := own_pos (own_below hown hb) (by omega)
          injection hVe with hVe _ hV2
          subst hVe hV2
          have hx := hcell _ _ (mapS_at rows j hlt)
          have hr0 := unhide HRR rows[j] (List.getElem_mem hlt)
          have HTK : Hid (((rows.take (j + 1)).filter (fun r => r.head? == some 114)).length = t2 + (if (rows[j].head? == some 114) = true then 1 else 0)) := hide (by
            rw [List.take_succ_eq_append_getElem hlt, List.filter_append, List.length_append, ← unhide HT2]
            congr 1
            rw [List.filter_cons, List.filter_nil]
            split <;> rfl)
          clear hcell
          generalize rows[j] = r at *
          go_wp2_with fail
          refine (kstarts_any r 114 wr (by omega)).mono ?_
          rintro e u8 ⟨rfl, b8⟩
          have hb8 := hb.trans (b8.mono hb.size)
          by_cases hst : (r.head? == some 114) = true
          · rw [if_pos hst] at HTK
            rw [hst]
            clear hst
            go_wp2_with fail
            go_roundg (gk - 1)
            case measure => omega
            case rel => exact ⟨j + 1, t2 + 1, by go_num, by go_num, by omega, (unhide HTK).symm, hb8⟩
          · rw [if_neg hst] at HTK
            rw [show (r.head? == some 114) = false by simpa using hst]
            clear hst
            go_wp2_with fail
            go_roundg (gk - 1)
            case measure => omega
            case rel => exact ⟨j + 1, t2, by go_num, rfl, by omega, (unhide HTK).symm, hb8⟩
        · have hd3 : decide ((j : Int) < (rows.length : Int)) = false := decide_eq_false (by omega)
          have hd4 : decide (j < rows.length) = false := decide_eq_false hlt
          have h2n : t2 ≤ na + 2 := by
            have h1 := unhide HT2
            rw [List.take_of_length_le (by omega)] at h1
            rw [h1]; exact unhide HR1
          have g1 : decide (2 + (na : Int) < (t2 : Int)) = false := decide_eq_false (by omega)
          replace hv := (hb.block _ (blk_lt hv)).trans hv
          have cv0 : wr.cell? ⟨u4.heap.size, 0, none⟩ = some (.int .i64 1) := by rw [blk_cell hv]; rfl
          have cv1 : wr.cell? ⟨u4.heap.size, 1, none⟩ = some (.int .i64 1) := by rw [blk_cell hv]; rfl
          have lv := blk_lt hv
          have hBr := hB6.trans (hb.mono hB6.size)
          clear HT2 HR1 HRR
          go_wp2_with fail
          have h2m : 2 + (na : Int) = ((na + 2 : Nat) : Int) := by omega
          have hpk := kpick_eq b (na + 2) wr (by omega) (by omega) hb1 hb2
          rw [← h2m] at hpk
          refine hpk.mono ?_
          rintro e u9 ⟨rfl, rfl⟩
          have hup := pickK_lt b (na + 2) (by omega)
          have hU := chainU_at na (pickK b (na + 2)) (by omega) hup
          generalize pickK b (na + 2) = up at *
          obtain ⟨dd, hdd⟩ : ∃ X, X = UInt8.ofNat (48 + (up + 1)) := ⟨_, rfl⟩
          have hcv := conv_byte (48 + (1 + (up : Int))) (by omega) (by omega) u9
          rw [show (48 + (1 + (up : Int))).toNat = 48 + (up + 1) from by omega, ← hdd] at hcv
          rw [← hdd, ← unhide HCT] at hU
          have hE2 : (ByteArray.mk #[97, 32]) ++ ⟨#[dd]⟩ ++ ⟨#[10]⟩ ++ ByteArray.mk ct.toArray = ⟨([97, 32, dd, 10] ++ ct).toArray⟩ := by
            simp only [ba_append]
            simp
          have hctl : ct.length ≤ 200 := by
            rw [unhide HCT]
            unfold chainText
            have := chainPre_len (na + 2)
            rw [List.length_append]
            simp
            omega
          obtain ⟨cu, hcu⟩ : ∃ X, X = [97, 32, dd, 10] ++ ct := ⟨_, rfl⟩
          rw [← hcu] at hE2 hU
          have HU := hide hU
          clear hU hcu hdd h2m hpk hown hv cv0 cv1
          go_wp2_with fail
          have hBs := hBr.alloc hBr.size (.cells #[.int .u8 (48 + (1 + (up : Int)))] 5)
          refine (kkind_any cu _ (ht.later hBs)).mono ?_
          rintro e u10 ⟨rfl, b10⟩
          have hB10 := hBs.trans (b10.mono hBs.size)
          rw [unhide HU]
          generalize (vkind cu).2 = tx
          clear hE2 hcv
          go_wp2_with fail
          go_ret
          exact ⟨rfl, hB10⟩
end Go.Proofs.YtgipjjhkhfihpaaDoor

namespace Go.Proofs.YtgipjjhkhfihpaaDoor
open Go.ChangeShapes Go.WideShapes Go.ChangeAt Go.ChangeMaps Go.RowKit

theorem i64_wf2 {x : Int} (h : (Lit.int .i64 x).wf = true) : -9223372036854775808 ≤ x ∧ x ≤ 9223372036854775807 := bounds_i64 h
theorem chain_met (os : Os) (args : Array Value) : laidMetH Tryd.prog Rows.chainRow.laid ((World.doorLaid Tryd.prog 400 os).forCall (fun _ _ => 0) ⟨#[], args, []⟩).memory :=
  laidMetH_of_parts3 (fuel := 8) (laidMet_of_run' 8 (by kernel_rfl) (by kernel_rfl)) (by kernel_rfl) (by kernel_rfl)
theorem chain_tab {W : World} (h : laidMetH Tryd.prog Rows.chainRow.laid W) : TabAt W := by
  have hf : (Rows.chainRow.laid.filter fun x => x.2.handleName?.isSome) = [] := by rfl
  unfold laidMetH at h
  rw [hf] at h
  exact tab_of_third2 h

set_option maxHeartbeats 1600000 in
set_option maxRecDepth 100000 in
theorem chain_lifted (os : Os) (started : os.Started) (H : Type) (enc : TypeId × Value → H) (F : Stop.Interp) :
    ReturnsInHanded {} Tryd.checked os 4 .any ((OpenSpec.ofChange Rows.chainSpec).preRow enc Tryd.prog Tryd.f4 Rows.chainRow.domain false Rows.chainRow.laid) (((OpenSpec.ofChange Rows.chainSpec).at F).post enc Tryd.prog Tryd.f4 false true false false) := by
  obtain ⟨places, hx⟩ : ∃ places, DataW.whole enc Tryd.prog ((World.doorLaid Tryd.prog 400 os).forCall (fun _ _ => 0) ⟨#[], #[.int .i64 0, .int .i64 0], []⟩).memory Tryd.f4.params.toList Rows.chainSpec.vars false #[Value.int .i64 0, Value.int .i64 0].toList 8 = some ([.lit (.int .i64 0), .lit (.int .i64 0)], [], places) := ⟨[], by kernel_rfl⟩
  refine returnsInHanded_of_row (C := Tryd.checked) (s := OpenSpec.ofChange Rows.chainSpec) (show ownKnob Tryd.prog.godebug = none by kernel_rfl) started (by kernel_rfl) Tryd.func4
    (witness_row_at (enc := enc) (C := Tryd.checked) false (World.doorLaid Tryd.prog 400 os) #[.int .i64 0, .int .i64 0] rfl (by kernel_rfl) (by kernel_rfl) (by kernel_rfl)
      (OpenSpec.preRow_of_cond 8 hx (by kernel_rfl) (fun k hk => by cases hk) (by kernel_rfl) (chain_met os _))) ?_
  intro W base args ds gs before hval0 hW _ _ _ hL _ _
  have hval : ∀ (j : Nat) t v, Tryd.f4.params[j]? = some t → args[j]? = some v → Value.okWide Tryd.prog W .any base t v := hval0
  have hW' := hW
  obtain ⟨p, q, hA0, hV, rfl, hfz, hnd⟩ := hW
  have hA : DataW.TrodAll enc Tryd.prog W 0 (fun _ => true) true Tryd.f4.params.toList args.toList ds p := hA0
  rw [Tryd.params4] at hA hval
  obtain ⟨v0, vs0, d0, ds0, p0, q0, hargs0, rfl, rfl, h0, r0⟩ := trodAll_cons hA
  obtain ⟨v1, vs1, d1, ds1, p1, q1, hargs1, rfl, rfl, h1, r1⟩ := trodAll_cons r0
  obtain ⟨rfl, rfl, rfl⟩ := trodAll_nil r1
  obtain rfl : args = #[v0, v1] := by cases args; simp_all
  obtain ⟨rfl, rfl⟩ := trodVars_none hV
  obtain ⟨i0, rfl, rfl, rfl, w0⟩ := open_int Tryd.underlying3 (hval 0 3 v0 rfl rfl) h0
  have hb0 := i64_wf2 w0
  obtain ⟨i1, rfl, rfl, rfl, w1⟩ := open_int Tryd.underlying3 (hval 1 3 v1 rfl rfl) h1
  have hb1 := i64_wf2 w1
  clear hA0 hval0
  simp only [List.append_nil] at hW'
  refine (chain_any i0 i1 W (chain_tab hL) hb0.1 hb0.2 hb1.1 hb1.2).mono fun e W' ⟨he, bel⟩ => ?_
  subst he
  exact ⟨_, rfl, _, _, _, [], _, [], hW', trodAll_mk1 (shut_bool Tryd.underlying4 _), trodAll_mk2 (shut_int Tryd.underlying3 w0) (shut_int Tryd.underlying3 w1), rfl, bel.frame _, fun h => by cases h⟩

theorem chain_said : Rows.ChainSaid :=
  OpenClaim.holds_of_cond 4 Tryd.f4 rfl rfl rfl rfl rfl rfl rfl ⟨rfl, rfl, rfl, rfl, rfl⟩ rfl rfl rfl rfl rfl (by kernel_rfl) Tryd.func4 (by kernel_rfl)
    (of_decide_eq_true (by kernel_rfl)) (by unfold Func.isWrapper; first | (rw [if_pos (by decide +kernel)]; kernel_rfl) | (rw [if_neg (by decide +kernel)]; exact ⟨rfl, rfl⟩))
    (fun os started H enc _ F => by rw [OpenClaim.pre_eq_preRow]; exact chain_lifted os started H enc F)
/-- No parameter wants a stand-in; the program's own looks are off. -/
theorem chain_plain (f : FuncId) (fn : Func) (hf : Tryd.pinned.checked.prog.funcNamed "duel/duelkeep.Chain" = some f) (hfn : Tryd.pinned.checked.prog.funcs[f]? = some fn) :
    false = Tryd.pinned.checked.prog.looks [] ∧ ∀ (j : Nat) t, fn.params[j]? = some t → Tryd.pinned.checked.prog.wantsStandIn t = false := by
  obtain rfl : f = 4 := Option.some.inj ((show Tryd.prog.funcNamed "duel/duelkeep.Chain" = some 4 by kernel_rfl).symm.trans hf) |>.symm
  obtain rfl : fn = Tryd.f4 := (Option.some.inj (Tryd.func4.symm.trans hfn)).symm
  refine ⟨by kernel_rfl, fun j t ht => ?_⟩
  rw [Tryd.params4] at ht
  obtain rfl : t = 3 := by simpa using Array.mem_of_getElem? ht
  exact (show Tryd.prog.wantsStandIn 3 = false by kernel_rfl)
theorem chain_holds : Rows.ChainCardSaid :=
  Claim7.holds_tied_plain_at .later [] _ _ _ _ chain_said (fun _ h => by cases h) (by kernel_rfl) (fun _ h => by cases h) chain_row_tie rfl ⟨rfl, rfl⟩ (by kernel_rfl) rfl chain_plain (by kernel_rfl)
#print axioms chain_holds
end Go.Proofs.YtgipjjhkhfihpaaDoor
