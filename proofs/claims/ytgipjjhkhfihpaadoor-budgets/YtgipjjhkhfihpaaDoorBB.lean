import Derived.Test.YtgipjjhkhfihpaaDoorAY
import Derived.Test.YtgipjjhkhfihpaaDoorBA
import Derived.Laws.Tables
import Derived.Laws.Rows
import Derived.Laws.CopyOwn
namespace Go.Proofs.YtgipjjhkhfihpaaDoor
open Go.RowKit

/-! ### budgeted -/
theorem ProgAt.setV {lo b k : Nat} {w w' : World} {q : QS} {c : Array Value} (h : ProgAt lo w b q) (hk : w.heap[k]? = some (.cells c 31 (0, 0))) (ho : Only (· = k) w w') : ProgAt lo w' b q := by
  obtain ⟨h1, vV, vC, h2, h3, h4⟩ := h
  refine ⟨h1, vV, vC, (ho.block b (blk_lt h2) (fun e => ?_)).trans h2, own_keep h3 ho (fun j hj e => ?_), own_keep h4 ho (fun j hj e => ?_)⟩
  · subst e; exact absurd (blk_type h2 hk) (by decide)
  · subst e; exact own_type_ne h3 hk (by decide) hj
  · subst e; exact own_type_ne h4 hk (by decide) hj
set_option maxRecDepth 100000 in
set_option maxHeartbeats 6400000 in
theorem budgeted_any (l : List UInt8) (a b : Int) (w : World) (ht : TabAt w) (ha1 : -9223372036854775808 ≤ a) (ha2 : a ≤ 9223372036854775807) (hb1 : -9223372036854775808 ≤ b) (hb2 : b ≤ 9223372036854775807) :
    Calls Tryd.prog 7 #[.string ⟨l.toArray⟩, .int .i64 a, .int .i64 b] w fun e w' => e = .returned (.bool true) ∧ Below w.heap.size w w' := by
  go_enter Tryd.func7, Tryd.ntmps7
  go_wp2_with fail
  refine (load_any l w).mono ?_
  rintro e u1 ⟨c1, hp⟩
  cases hq : loadSpec l with
  | inl x0 =>
    obtain ⟨x, i⟩ := x0
    have hx := loadSpec_pos l x i hq
    rw [hq] at hp
    have hp' : e = .returned (.tuple #[.pointer none, .int .i64 (x : Int), .int .i64 (i : Int)]) := hp
    subst hp'
    clear hp hq
    have hx0 : ((x : Int) == 0) = false := by rw [beq_eq_false_iff_ne]; omega
    have hx1 : (x == 0) = false := by rw [beq_eq_false_iff_ne]; omega
    go_wp2_with fail
    go_ret
    exact ⟨rfl, c1⟩
  | inr q =>
    obtain ⟨hg, F, _, hF, hO⟩ := load_good hq
    rw [hq] at hp
    obtain ⟨bq, rfl, hP⟩ := hp
    clear hq
    have HSV := hide (fun (lo b : Nat) (bn ln : Nat) (w : World) (hP : ProgAt lo w b q) (ht : TabAt w) (h1 : bn ≤ 1048576) (h2 : ln ≤ 64) => dsolve_any lo b q bn ln w hP hg ht h1 h2)
    have HVF := hide (fun room => vfree hg hF hO room)
    have HVB := hide (fun room n hn => verdict_budget q room n hn)
    have HVR := hide (fun room h => verdict_room q room h)
    go_wp2_with fail
    refine (kpick_eq b 65 u1 (by decide) (by decide) hb1 hb2).mono ?_
    rintro e u2 ⟨rfl, rfl⟩
    have hn64 : pickK b 65 ≤ 64 := by have := pickK_lt b 65 (by decide); omega
    generalize pickK b 65 = n at *
    go_wp2_with fail
    refine (unhide HSV _ bq 0 n u2 hP (ht.later c1) (by decide) hn64).mono ?_
    rintro e u3 ⟨rfl, c3⟩
    have hB := c1.trans (c3.mono c1.size)
    replace hP := hP.later c3
    have hV := unhide HVF n
    have HE1 := hide ((unhide HVB n (verdict q 0 n).nodes hV.one).1 (Nat.le_refl _))
    have HE2 := hide (unhide HVR n)
    have HE4 := hide (fun k hk => (unhide HVB n k hk).1)
    have HE3 := hide (fun k hk => (unhide HVB n k hk).2)
    have hU := unhide HVF 0
    have hku : (verdict q 0 0).kind = (verdict q 0 n).kind := by rw [hU.kind, hV.kind]
    have hmu : (verdict q 0 0).lemmas = 0 := Nat.le_zero.1 hU.lem
    have h1n := hV.one
    have hk12 := hV.two
    have hmn := hV.lem
    have hsn := hV.small
    clear HVB HVR HVF hV hU
    obtain ⟨U, hUe⟩ : ∃ X, verdict q 0 0 = X := ⟨_, rfl⟩
    rw [hUe] at hku hmu
    have HU0 := hide hUe
    clear hUe
    obtain ⟨uk, un, um, ut⟩ := U
    generalize verdict q 0 n = V at *
    obtain ⟨vk, vn, vm, vt⟩ := V
    dsimp only at hku hmu h1n hmn hsn hk12 HE1 HE2 HE3 HE4 ⊢
    obtain rfl := hku.symm
    have HMU := hide hmu
    clear hmu
    have hz1 : ((vk : Int) == 0) = false := by rw [beq_eq_false_iff_ne]; omega
    have hz2 : ((0 : Int) == (vk : Int)) = false := by rw [beq_eq_false_iff_ne]; omega
    have hz3 : decide ((0 : Int) = (vk : Int)) = false := decide_eq_false (by omega)
    have hz4 : (vk == 0) = false := by rw [beq_eq_false_iff_ne]; omega
    have hz5 : (0 == vk) = false := by rw [beq_eq_false_iff_ne]; omega
    clear hk12
    go_wp2_with fail
    have b4 : Below u3.heap.size u3 (u3.alloc (.cells #[.int .i64 (vk : Int), .int .i64 (vn : Int), .int .i64 (vm : Int), .string ⟨vt.toArray⟩] 31)) := (Below.refl _ _).alloc (Nat.le_refl _) _
    have hv := heap_alloc_new u3 (.cells #[.int .i64 (vk : Int), .int .i64 (vn : Int), .int .i64 (vm : Int), .string ⟨vt.toArray⟩] 31)
    generalize (u3.alloc (.cells #[.int .i64 (vk : Int), .int .i64 (vn : Int), .int .i64 (vm : Int), .string ⟨vt.toArray⟩] 31)) = u4 at *
    replace hB := hB.trans (b4.mono hB.size)
    replace hP := hP.later b4
    have cv0_4 : u4.cell? ⟨u3.heap.size, 0, none⟩ = some (.int .i64 (vk : Int)) := by rw [blk_cell hv]; rfl
    have cv1_4 : u4.cell? ⟨u3.heap.size, 1, none⟩ = some (.int .i64 (vn : Int)) := by rw [blk_cell hv]; rfl
    have cv2_4 : u4.cell? ⟨u3.heap.size, 2, none⟩ = some (.int .i64 (vm : Int)) := by rw [blk_cell hv]; rfl
    have cv3_4 : u4.cell? ⟨u3.heap.size, 3, none⟩ = some (.string ⟨vt.toArray⟩) := by rw [blk_cell hv]; rfl
    have lv_4 := blk_lt hv
    refine (unhide HSV _ bq (vn) (n) _ hP (ht.later hB) (by omega) (hn64)).mono ?_
    rintro e u5 ⟨rfl, b5⟩
    replace hB := hB.trans (b5.mono hB.size)
    replace hP := hP.later b5
    replace hv := (b5.block _ (blk_lt hv)).trans hv
    have cv0_5 : u5.cell? ⟨u3.heap.size, 0, none⟩ = some (.int .i64 (vk : Int)) := by rw [blk_cell hv]; rfl
    have cv1_5 : u5.cell? ⟨u3.heap.size, 1, none⟩ = some (.int .i64 (vn : Int)) := by rw [blk_cell hv]; rfl
    have cv2_5 : u5.cell? ⟨u3.heap.size, 2, none⟩ = some (.int .i64 (vm : Int)) := by rw [blk_cell hv]; rfl
    have cv3_5 : u5.cell? ⟨u3.heap.size, 3, none⟩ = some (.string ⟨vt.toArray⟩) := by rw [blk_cell hv]; rfl
    have lv_5 := blk_lt hv
    rw [unhide HE1]
    rcases Nat.lt_or_ge vm n with hmv | hmv
    · have g1 : decide ((vm : Int) < (n : Int)) = true := decide_eq_true (by omega)
      have g1n : decide (vm < n) = true := decide_eq_true hmv
      go_wp2_with fail
      have hiw := hB.size
      have b6 : Below u5.heap.size u5 (u5.alloc (.cells #[.int .i64 (vk : Int), .int .i64 (vn : Int), .int .i64 (vm : Int), .string ⟨vt.toArray⟩] 31)) := (Below.refl _ _).alloc (Nat.le_refl _) _
      have hw := heap_alloc_new u5 (.cells #[.int .i64 (vk : Int), .int .i64 (vn : Int), .int .i64 (vm : Int), .string ⟨vt.toArray⟩] 31)
      generalize (u5.alloc (.cells #[.int .i64 (vk : Int), .int .i64 (vn : Int), .int .i64 (vm : Int), .string ⟨vt.toArray⟩] 31)) = u6 at *
      replace hB := hB.trans (b6.mono hB.size)
      replace hP := hP.later b6
      replace hv := (b6.block _ (blk_lt hv)).trans hv
      have cv0_6 : u6.cell? ⟨u3.heap.size, 0, none⟩ = some (.int .i64 (vk : Int)) := by rw [blk_cell hv]; rfl
      have cv1_6 : u6.cell? ⟨u3.heap.size, 1, none⟩ = some (.int .i64 (vn : Int)) := by rw [blk_cell hv]; rfl
      have cv2_6 : u6.cell? ⟨u3.heap.size, 2, none⟩ = some (.int .i64 (vm : Int)) := by rw [blk_cell hv]; rfl
      have cv3_6 : u6.cell? ⟨u3.heap.size, 3, none⟩ = some (.string ⟨vt.toArray⟩) := by rw [blk_cell hv]; rfl
      have lv_6 := blk_lt hv
      have cw0_6 : u6.cell? ⟨u5.heap.size, 0, none⟩ = some (.int .i64 (vk : Int)) := by rw [blk_cell hw]; rfl
      have cw1_6 : u6.cell? ⟨u5.heap.size, 1, none⟩ = some (.int .i64 (vn : Int)) := by rw [blk_cell hw]; rfl
      have cw2_6 : u6.cell? ⟨u5.heap.size, 2, none⟩ = some (.int .i64 (vm : Int)) := by rw [blk_cell hw]; rfl
      have cw3_6 : u6.cell? ⟨u5.heap.size, 3, none⟩ = some (.string ⟨vt.toArray⟩) := by rw [blk_cell hw]; rfl
      have lw_6 := blk_lt hw
      have hivw : u3.heap.size ≠ u5.heap.size := by have := lv_4; have := b5.size; omega
      refine (unhide HSV _ bq (0) (vm) _ hP (ht.later hB) (by decide) (by omega)).mono ?_
      rintro e u7 ⟨rfl, b7⟩
      replace hB := hB.trans (b7.mono hB.size)
      replace hP := hP.later b7
      replace hv := (b7.block _ (blk_lt hv)).trans hv
      replace hw := (b7.block _ (blk_lt hw)).trans hw
      have cv0_7 : u7.cell? ⟨u3.heap.size, 0, none⟩ = some (.int .i64 (vk : Int)) := by rw [blk_cell hv]; rfl
      have cv1_7 : u7.cell? ⟨u3.heap.size, 1, none⟩ = some (.int .i64 (vn : Int)) := by rw [blk_cell hv]; rfl
      have cv2_7 : u7.cell? ⟨u3.heap.size, 2, none⟩ = some (.int .i64 (vm : Int)) := by rw [blk_cell hv]; rfl
      have cv3_7 : u7.cell? ⟨u3.heap.size, 3, none⟩ = some (.string ⟨vt.toArray⟩) := by rw [blk_cell hv]; rfl
      have lv_7 := blk_lt hv
      have cw0_7 : u7.cell? ⟨u5.heap.size, 0, none⟩ = some (.int .i64 (vk : Int)) := by rw [blk_cell hw]; rfl
      have cw1_7 : u7.cell? ⟨u5.heap.size, 1, none⟩ = some (.int .i64 (vn : Int)) := by rw [blk_cell hw]; rfl
      have cw2_7 : u7.cell? ⟨u5.heap.size, 2, none⟩ = some (.int .i64 (vm : Int)) := by rw [blk_cell hw]; rfl
      have cw3_7 : u7.cell? ⟨u5.heap.size, 3, none⟩ = some (.string ⟨vt.toArray⟩) := by rw [blk_cell hw]; rfl
      have lw_7 := blk_lt hw
      rw [unhide HE2 hmv]
      clear hmv
      have hO9 := only_setRow u7 (u5.heap.size) #[.int .i64 (vk : Int), .int .i64 (vn : Int), .int .i64 (vm : Int), .string ⟨vt.toArray⟩]
      have hPs := hP.setV hw hO9
      have hBs := below_setRow hB (show w.heap.size ≤ u5.heap.size by omega) #[.int .i64 (vk : Int), .int .i64 (vn : Int), .int .i64 (vm : Int), .string ⟨vt.toArray⟩]
      have hws := setRow_heap u7 (u5.heap.size) _ #[.int .i64 (vk : Int), .int .i64 (vn : Int), .int .i64 (vm : Int), .string ⟨vt.toArray⟩] _ _ hw
      have hvs := (hO9.block _ (blk_lt hv) hivw).trans hv
      have sv0 : (u7.setRow (u5.heap.size) #[.int .i64 (vk : Int), .int .i64 (vn : Int), .int .i64 (vm : Int), .string ⟨vt.toArray⟩]).cell? ⟨u3.heap.size, 0, none⟩ = some (.int .i64 (vk : Int)) := by rw [blk_cell hvs]; rfl
      have sv1 : (u7.setRow (u5.heap.size) #[.int .i64 (vk : Int), .int .i64 (vn : Int), .int .i64 (vm : Int), .string ⟨vt.toArray⟩]).cell? ⟨u3.heap.size, 1, none⟩ = some (.int .i64 (vn : Int)) := by rw [blk_cell hvs]; rfl
      have sv2 : (u7.setRow (u5.heap.size) #[.int .i64 (vk : Int), .int .i64 (vn : Int), .int .i64 (vm : Int), .string ⟨vt.toArray⟩]).cell? ⟨u3.heap.size, 2, none⟩ = some (.int .i64 (vm : Int)) := by rw [blk_cell hvs]; rfl
      have sv3 : (u7.setRow (u5.heap.size) #[.int .i64 (vk : Int), .int .i64 (vn : Int), .int .i64 (vm : Int), .string ⟨vt.toArray⟩]).cell? ⟨u3.heap.size, 3, none⟩ = some (.string ⟨vt.toArray⟩) := by rw [blk_cell hvs]; rfl
      have sw0 : (u7.setRow (u5.heap.size) #[.int .i64 (vk : Int), .int .i64 (vn : Int), .int .i64 (vm : Int), .string ⟨vt.toArray⟩]).cell? ⟨u5.heap.size, 0, none⟩ = some (.int .i64 (vk : Int)) := by rw [blk_cell hws]; rfl
      have sw1 : (u7.setRow (u5.heap.size) #[.int .i64 (vk : Int), .int .i64 (vn : Int), .int .i64 (vm : Int), .string ⟨vt.toArray⟩]).cell? ⟨u5.heap.size, 1, none⟩ = some (.int .i64 (vn : Int)) := by rw [blk_cell hws]; rfl
      have sw2 : (u7.setRow (u5.heap.size) #[.int .i64 (vk : Int), .int .i64 (vn : Int), .int .i64 (vm : Int), .string ⟨vt.toArray⟩]).cell? ⟨u5.heap.size, 2, none⟩ = some (.int .i64 (vm : Int)) := by rw [blk_cell hws]; rfl
      have sw3 : (u7.setRow (u5.heap.size) #[.int .i64 (vk : Int), .int .i64 (vn : Int), .int .i64 (vm : Int), .string ⟨vt.toArray⟩]).cell? ⟨u5.heap.size, 3, none⟩ = some (.string ⟨vt.toArray⟩) := by rw [blk_cell hws]; rfl
      have ssz : (u7.setRow (u5.heap.size) #[.int .i64 (vk : Int), .int .i64 (vn : Int), .int .i64 (vm : Int), .string ⟨vt.toArray⟩]).heap.size = u7.heap.size := setRow_size _ _ _
      go_wp2_with (refine wpList_store_row rfl 31 _ _ rfl (u5.heap.size) _ rfl rfl 31 _ hw (by kernel_rfl) rfl (by simp [Value.oneCell']) ?_)
      generalize (u7.setRow (u5.heap.size) #[.int .i64 (vk : Int), .int .i64 (vn : Int), .int .i64 (vm : Int), .string ⟨vt.toArray⟩]) = u8 at *
      replace hP := hPs
      replace hB := hBs
      replace hw := hws
      replace hv := hvs
      clear hPs hBs hws hvs hO9 sv0 sv1 sv2 sv3 sw0 sw1 sw2 sw3
      have cv0_8 : u8.cell? ⟨u3.heap.size, 0, none⟩ = some (.int .i64 (vk : Int)) := by rw [blk_cell hv]; rfl
      have cv1_8 : u8.cell? ⟨u3.heap.size, 1, none⟩ = some (.int .i64 (vn : Int)) := by rw [blk_cell hv]; rfl
      have cv2_8 : u8.cell? ⟨u3.heap.size, 2, none⟩ = some (.int .i64 (vm : Int)) := by rw [blk_cell hv]; rfl
      have cv3_8 : u8.cell? ⟨u3.heap.size, 3, none⟩ = some (.string ⟨vt.toArray⟩) := by rw [blk_cell hv]; rfl
      have lv_8 := blk_lt hv
      have cw0_8 : u8.cell? ⟨u5.heap.size, 0, none⟩ = some (.int .i64 (vk : Int)) := by rw [blk_cell hw]; rfl
      have cw1_8 : u8.cell? ⟨u5.heap.size, 1, none⟩ = some (.int .i64 (vn : Int)) := by rw [blk_cell hw]; rfl
      have cw2_8 : u8.cell? ⟨u5.heap.size, 2, none⟩ = some (.int .i64 (vm : Int)) := by rw [blk_cell hw]; rfl
      have cw3_8 : u8.cell? ⟨u5.heap.size, 3, none⟩ = some (.string ⟨vt.toArray⟩) := by rw [blk_cell hw]; rfl
      have lw_8 := blk_lt hw
      refine (unhide HSV _ bq (0) (0) _ hP (ht.later hB) (by decide) (by decide)).mono ?_
      rintro e u9 ⟨rfl, b9⟩
      replace hB := hB.trans (b9.mono hB.size)
      replace hP := hP.later b9
      replace hv := (b9.block _ (blk_lt hv)).trans hv
      replace hw := (b9.block _ (blk_lt hw)).trans hw
      have cv0_9 : u9.cell? ⟨u3.heap.size, 0, none⟩ = some (.int .i64 (vk : Int)) := by rw [blk_cell hv]; rfl
      have cv1_9 : u9.cell? ⟨u3.heap.size, 1, none⟩ = some (.int .i64 (vn : Int)) := by rw [blk_cell hv]; rfl
      have cv2_9 : u9.cell? ⟨u3.heap.size, 2, none⟩ = some (.int .i64 (vm : Int)) := by rw [blk_cell hv]; rfl
      have cv3_9 : u9.cell? ⟨u3.heap.size, 3, none⟩ = some (.string ⟨vt.toArray⟩) := by rw [blk_cell hv]; rfl
      have lv_9 := blk_lt hv
      have cw0_9 : u9.cell? ⟨u5.heap.size, 0, none⟩ = some (.int .i64 (vk : Int)) := by rw [blk_cell hw]; rfl
      have cw1_9 : u9.cell? ⟨u5.heap.size, 1, none⟩ = some (.int .i64 (vn : Int)) := by rw [blk_cell hw]; rfl
      have cw2_9 : u9.cell? ⟨u5.heap.size, 2, none⟩ = some (.int .i64 (vm : Int)) := by rw [blk_cell hw]; rfl
      have cw3_9 : u9.cell? ⟨u5.heap.size, 3, none⟩ = some (.string ⟨vt.toArray⟩) := by rw [blk_cell hw]; rfl
      have lw_9 := blk_lt hw
      rw [unhide HU0]
      have e1 : ((um : Int) == 0) = true := by rw [beq_iff_eq]; have := unhide HMU; omega
      have e1n : (um == 0) = true := by rw [beq_iff_eq]; exact unhide HMU
      have e2 : decide ((n : Int) < (vm : Int)) = false := decide_eq_false (by omega)
      have e2n : decide (n < vm) = false := decide_eq_false (by omega)
      rcases Nat.lt_or_ge 1 vn with h1v | h1v
      · have e3 : decide ((1 : Int) < (vn : Int)) = true := decide_eq_true (by omega)
        have e3n : decide (1 < vn) = true := decide_eq_true h1v
        go_wp2_with fail
        have b10 : Below u9.heap.size u9 (u9.alloc (.cells #[.int .i64 (vk : Int), .int .i64 (un : Int), .int .i64 0, .string ⟨ut.toArray⟩] 31)) := (Below.refl _ _).alloc (Nat.le_refl _) _
        have hu := heap_alloc_new u9 (.cells #[.int .i64 (vk : Int), .int .i64 (un : Int), .int .i64 0, .string ⟨ut.toArray⟩] 31)
        generalize (u9.alloc (.cells #[.int .i64 (vk : Int), .int .i64 (un : Int), .int .i64 0, .string ⟨ut.toArray⟩] 31)) = u10 at *
        replace hB := hB.trans (b10.mono hB.size)
        replace hP := hP.later b10
        replace hv := (b10.block _ (blk_lt hv)).trans hv
        replace hw := (b10.block _ (blk_lt hw)).trans hw
        have cv0_10 : u10.cell? ⟨u3.heap.size, 0, none⟩ = some (.int .i64 (vk : Int)) := by rw [blk_cell hv]; rfl
        have cv1_10 : u10.cell? ⟨u3.heap.size, 1, none⟩ = some (.int .i64 (vn : Int)) := by rw [blk_cell hv]; rfl
        have cv2_10 : u10.cell? ⟨u3.heap.size, 2, none⟩ = some (.int .i64 (vm : Int)) := by rw [blk_cell hv]; rfl
        have cv3_10 : u10.cell? ⟨u3.heap.size, 3, none⟩ = some (.string ⟨vt.toArray⟩) := by rw [blk_cell hv]; rfl
        have lv_10 := blk_lt hv
        have cw0_10 : u10.cell? ⟨u5.heap.size, 0, none⟩ = some (.int .i64 (vk : Int)) := by rw [blk_cell hw]; rfl
        have cw1_10 : u10.cell? ⟨u5.heap.size, 1, none⟩ = some (.int .i64 (vn : Int)) := by rw [blk_cell hw]; rfl
        have cw2_10 : u10.cell? ⟨u5.heap.size, 2, none⟩ = some (.int .i64 (vm : Int)) := by rw [blk_cell hw]; rfl
        have cw3_10 : u10.cell? ⟨u5.heap.size, 3, none⟩ = some (.string ⟨vt.toArray⟩) := by rw [blk_cell hw]; rfl
        have lw_10 := blk_lt hw
        have cu0_10 : u10.cell? ⟨u9.heap.size, 0, none⟩ = some (.int .i64 (vk : Int)) := by rw [blk_cell hu]; rfl
        have cu1_10 : u10.cell? ⟨u9.heap.size, 1, none⟩ = some (.int .i64 (un : Int)) := by rw [blk_cell hu]; rfl
        have cu2_10 : u10.cell? ⟨u9.heap.size, 2, none⟩ = some (.int .i64 0) := by rw [blk_cell hu]; rfl
        have cu3_10 : u10.cell? ⟨u9.heap.size, 3, none⟩ = some (.string ⟨ut.toArray⟩) := by rw [blk_cell hu]; rfl
        have lu_10 := blk_lt hu
        rw [show ((vn : Int) - 1) = ((vn - 1 : Nat) : Int) from by omega]
        refine (unhide HSV _ bq (vn - 1) (n) _ hP (ht.later hB) (by omega) (hn64)).mono ?_
        rintro e u11 ⟨rfl, b11⟩
        replace hB := hB.trans (b11.mono hB.size)
        replace hP := hP.later b11
        replace hv := (b11.block _ (blk_lt hv)).trans hv
        replace hw := (b11.block _ (blk_lt hw)).trans hw
        have cv0_11 : u11.cell? ⟨u3.heap.size, 0, none⟩ = some (.int .i64 (vk : Int)) := by rw [blk_cell hv]; rfl
        have cv1_11 : u11.cell? ⟨u3.heap.size, 1, none⟩ = some (.int .i64 (vn : Int)) := by rw [blk_cell hv]; rfl
        have cv2_11 : u11.cell? ⟨u3.heap.size, 2, none⟩ = some (.int .i64 (vm : Int)) := by rw [blk_cell hv]; rfl
        have cv3_11 : u11.cell? ⟨u3.heap.size, 3, none⟩ = some (.string ⟨vt.toArray⟩) := by rw [blk_cell hv]; rfl
        have lv_11 := blk_lt hv
        have cw0_11 : u11.cell? ⟨u5.heap.size, 0, none⟩ = some (.int .i64 (vk : Int)) := by rw [blk_cell hw]; rfl
        have cw1_11 : u11.cell? ⟨u5.heap.size, 1, none⟩ = some (.int .i64 (vn : Int)) := by rw [blk_cell hw]; rfl
        have cw2_11 : u11.cell? ⟨u5.heap.size, 2, none⟩ = some (.int .i64 (vm : Int)) := by rw [blk_cell hw]; rfl
        have cw3_11 : u11.cell? ⟨u5.heap.size, 3, none⟩ = some (.string ⟨vt.toArray⟩) := by rw [blk_cell hw]; rfl
        have lw_11 := blk_lt hw
        have hW := unhide HE3 (vn - 1) (by omega) (by omega)
        generalize verdict q (vn - 1) n = W at *
        obtain ⟨xk, xn, xm, xt⟩ := W
        dsimp only at hW ⊢
        obtain ⟨hw1, hw2, hw3⟩ := hW
        subst hw1 hw2 hw3
        have hcast : ((vn - 1 : Nat) : Int) = (vn : Int) - 1 := by omega
        clear h1v
        have hO9 := only_setRow u11 (u5.heap.size) #[.int .i64 0, .int .i64 ((vn : Int) - 1), .int .i64 (xm : Int), .string ⟨([] : List UInt8).toArray⟩]
        have hPs := hP.setV hw hO9
        have hBs := below_setRow hB (show w.heap.size ≤ u5.heap.size by omega) #[.int .i64 0, .int .i64 ((vn : Int) - 1), .int .i64 (xm : Int), .string ⟨([] : List UInt8).toArray⟩]
        have hws := setRow_heap u11 (u5.heap.size) _ #[.int .i64 0, .int .i64 ((vn : Int) - 1), .int .i64 (xm : Int), .string ⟨([] : List UInt8).toArray⟩] _ _ hw
        have hvs := (hO9.block _ (blk_lt hv) hivw).trans hv
        have sv0 : (u11.setRow (u5.heap.size) #[.int .i64 0, .int .i64 ((vn : Int) - 1), .int .i64 (xm : Int), .string ⟨([] : List UInt8).toArray⟩]).cell? ⟨u3.heap.size, 0, none⟩ = some (.int .i64 (vk : Int)) := by rw [blk_cell hvs]; rfl
        have sv1 : (u11.setRow (u5.heap.size) #[.int .i64 0, .int .i64 ((vn : Int) - 1), .int .i64 (xm : Int), .string ⟨([] : List UInt8).toArray⟩]).cell? ⟨u3.heap.size, 1, none⟩ = some (.int .i64 (vn : Int)) := by rw [blk_cell hvs]; rfl
        have sv2 : (u11.setRow (u5.heap.size) #[.int .i64 0, .int .i64 ((vn : Int) - 1), .int .i64 (xm : Int), .string ⟨([] : List UInt8).toArray⟩]).cell? ⟨u3.heap.size, 2, none⟩ = some (.int .i64 (vm : Int)) := by rw [blk_cell hvs]; rfl
        have sv3 : (u11.setRow (u5.heap.size) #[.int .i64 0, .int .i64 ((vn : Int) - 1), .int .i64 (xm : Int), .string ⟨([] : List UInt8).toArray⟩]).cell? ⟨u3.heap.size, 3, none⟩ = some (.string ⟨vt.toArray⟩) := by rw [blk_cell hvs]; rfl
        have sw0 : (u11.setRow (u5.heap.size) #[.int .i64 0, .int .i64 ((vn : Int) - 1), .int .i64 (xm : Int), .string ⟨([] : List UInt8).toArray⟩]).cell? ⟨u5.heap.size, 0, none⟩ = some (.int .i64 0) := by rw [blk_cell hws]; rfl
        have sw1 : (u11.setRow (u5.heap.size) #[.int .i64 0, .int .i64 ((vn : Int) - 1), .int .i64 (xm : Int), .string ⟨([] : List UInt8).toArray⟩]).cell? ⟨u5.heap.size, 1, none⟩ = some (.int .i64 ((vn : Int) - 1)) := by rw [blk_cell hws]; rfl
        have sw2 : (u11.setRow (u5.heap.size) #[.int .i64 0, .int .i64 ((vn : Int) - 1), .int .i64 (xm : Int), .string ⟨([] : List UInt8).toArray⟩]).cell? ⟨u5.heap.size, 2, none⟩ = some (.int .i64 (xm : Int)) := by rw [blk_cell hws]; rfl
        have sw3 : (u11.setRow (u5.heap.size) #[.int .i64 0, .int .i64 ((vn : Int) - 1), .int .i64 (xm : Int), .string ⟨([] : List UInt8).toArray⟩]).cell? ⟨u5.heap.size, 3, none⟩ = some (.string ⟨([] : List UInt8).toArray⟩) := by rw [blk_cell hws]; rfl
        have ssz : (u11.setRow (u5.heap.size) #[.int .i64 0, .int .i64 ((vn : Int) - 1), .int .i64 (xm : Int), .string ⟨([] : List UInt8).toArray⟩]).heap.size = u11.heap.size := setRow_size _ _ _
        go_wp2_with (refine wpList_store_row rfl 31 _ _ rfl (u5.heap.size) _ rfl rfl 31 _ hw (by kernel_rfl) rfl (by simp [Value.oneCell']) ?_)
        generalize (u11.setRow (u5.heap.size) #[.int .i64 0, .int .i64 ((vn : Int) - 1), .int .i64 (xm : Int), .string ⟨([] : List UInt8).toArray⟩]) = u12 at *
        replace hP := hPs
        replace hB := hBs
        replace hw := hws
        replace hv := hvs
        clear hPs hBs hws hvs hO9 sv0 sv1 sv2 sv3 sw0 sw1 sw2 sw3
        have cv0_12 : u12.cell? ⟨u3.heap.size, 0, none⟩ = some (.int .i64 (vk : Int)) := by rw [blk_cell hv]; rfl
        have cv1_12 : u12.cell? ⟨u3.heap.size, 1, none⟩ = some (.int .i64 (vn : Int)) := by rw [blk_cell hv]; rfl
        have cv2_12 : u12.cell? ⟨u3.heap.size, 2, none⟩ = some (.int .i64 (vm : Int)) := by rw [blk_cell hv]; rfl
        have cv3_12 : u12.cell? ⟨u3.heap.size, 3, none⟩ = some (.string ⟨vt.toArray⟩) := by rw [blk_cell hv]; rfl
        have lv_12 := blk_lt hv
        have cw0_12 : u12.cell? ⟨u5.heap.size, 0, none⟩ = some (.int .i64 0) := by rw [blk_cell hw]; rfl
        have cw1_12 : u12.cell? ⟨u5.heap.size, 1, none⟩ = some (.int .i64 ((vn : Int) - 1)) := by rw [blk_cell hw]; rfl
        have cw2_12 : u12.cell? ⟨u5.heap.size, 2, none⟩ = some (.int .i64 (xm : Int)) := by rw [blk_cell hw]; rfl
        have cw3_12 : u12.cell? ⟨u5.heap.size, 3, none⟩ = some (.string ⟨([] : List UInt8).toArray⟩) := by rw [blk_cell hw]; rfl
        have lw_12 := blk_lt hw
        refine (kpick_eq a 600 _ (by decide) (by decide) ha1 ha2).mono ?_
        rintro e ux ⟨rfl, hux⟩
        subst hux
        have hr6 : pickK a 600 < 600 := pickK_lt a 600 (by decide)
        generalize pickK a 600 = r at *
        go_wp2_with fail
        rw [show (1 + (r : Int)) = ((1 + r : Nat) : Int) from by omega]
        refine (unhide HSV _ bq (1 + r) (n) _ hP (ht.later hB) (by omega) (hn64)).mono ?_
        rintro e u13 ⟨rfl, b13⟩
        replace hB := hB.trans (b13.mono hB.size)
        replace hP := hP.later b13
        replace hv := (b13.block _ (blk_lt hv)).trans hv
        replace hw := (b13.block _ (blk_lt hw)).trans hw
        have cv0_13 : u13.cell? ⟨u3.heap.size, 0, none⟩ = some (.int .i64 (vk : Int)) := by rw [blk_cell hv]; rfl
        have cv1_13 : u13.cell? ⟨u3.heap.size, 1, none⟩ = some (.int .i64 (vn : Int)) := by rw [blk_cell hv]; rfl
        have cv2_13 : u13.cell? ⟨u3.heap.size, 2, none⟩ = some (.int .i64 (vm : Int)) := by rw [blk_cell hv]; rfl
        have cv3_13 : u13.cell? ⟨u3.heap.size, 3, none⟩ = some (.string ⟨vt.toArray⟩) := by rw [blk_cell hv]; rfl
        have lv_13 := blk_lt hv
        have cw0_13 : u13.cell? ⟨u5.heap.size, 0, none⟩ = some (.int .i64 0) := by rw [blk_cell hw]; rfl
        have cw1_13 : u13.cell? ⟨u5.heap.size, 1, none⟩ = some (.int .i64 ((vn : Int) - 1)) := by rw [blk_cell hw]; rfl
        have cw2_13 : u13.cell? ⟨u5.heap.size, 2, none⟩ = some (.int .i64 (xm : Int)) := by rw [blk_cell hw]; rfl
        have cw3_13 : u13.cell? ⟨u5.heap.size, 3, none⟩ = some (.string ⟨([] : List UInt8).toArray⟩) := by rw [blk_cell hw]; rfl
        have lw_13 := blk_lt hw
        rcases Nat.lt_or_ge (1 + r) vn with hkv | hkv
        · have hW := unhide HE3 (1 + r) (by omega) hkv
          generalize verdict q (1 + r) n = W at *
          obtain ⟨wk, wn, wm, wt⟩ := W
          dsimp only at hW ⊢
          obtain ⟨hw1, hw2, hw3⟩ := hW
          subst hw1 hw2 hw3
          have hcast2 : ((1 + r : Nat) : Int) = 1 + (r : Int) := by omega
          have f3 : decide (((1 + r : Nat) : Int) < (vn : Int)) = true := decide_eq_true (by omega)
          have f3n : decide (1 + r < vn) = true := decide_eq_true hkv
          have f3m : decide (1 + (r : Int) < (vn : Int)) = true := decide_eq_true (by omega)
          clear hkv
          have hO9 := only_setRow u13 (u5.heap.size) #[.int .i64 0, .int .i64 (1 + (r : Int)), .int .i64 (wm : Int), .string ⟨([] : List UInt8).toArray⟩]
          have hPs := hP.setV hw hO9
          have hBs := below_setRow hB (show w.heap.size ≤ u5.heap.size by omega) #[.int .i64 0, .int .i64 (1 + (r : Int)), .int .i64 (wm : Int), .string ⟨([] : List UInt8).toArray⟩]
          have hws := setRow_heap u13 (u5.heap.size) _ #[.int .i64 0, .int .i64 (1 + (r : Int)), .int .i64 (wm : Int), .string ⟨([] : List UInt8).toArray⟩] _ _ hw
          have hvs := (hO9.block _ (blk_lt hv) hivw).trans hv
          have sv0 : (u13.setRow (u5.heap.size) #[.int .i64 0, .int .i64 (1 + (r : Int)), .int .i64 (wm : Int), .string ⟨([] : List UInt8).toArray⟩]).cell? ⟨u3.heap.size, 0, none⟩ = some (.int .i64 (vk : Int)) := by rw [blk_cell hvs]; rfl
          have sv1 : (u13.setRow (u5.heap.size) #[.int .i64 0, .int .i64 (1 + (r : Int)), .int .i64 (wm : Int), .string ⟨([] : List UInt8).toArray⟩]).cell? ⟨u3.heap.size, 1, none⟩ = some (.int .i64 (vn : Int)) := by rw [blk_cell hvs]; rfl
          have sv2 : (u13.setRow (u5.heap.size) #[.int .i64 0, .int .i64 (1 + (r : Int)), .int .i64 (wm : Int), .string ⟨([] : List UInt8).toArray⟩]).cell? ⟨u3.heap.size, 2, none⟩ = some (.int .i64 (vm : Int)) := by rw [blk_cell hvs]; rfl
          have sv3 : (u13.setRow (u5.heap.size) #[.int .i64 0, .int .i64 (1 + (r : Int)), .int .i64 (wm : Int), .string ⟨([] : List UInt8).toArray⟩]).cell? ⟨u3.heap.size, 3, none⟩ = some (.string ⟨vt.toArray⟩) := by rw [blk_cell hvs]; rfl
          have sw0 : (u13.setRow (u5.heap.size) #[.int .i64 0, .int .i64 (1 + (r : Int)), .int .i64 (wm : Int), .string ⟨([] : List UInt8).toArray⟩]).cell? ⟨u5.heap.size, 0, none⟩ = some (.int .i64 0) := by rw [blk_cell hws]; rfl
          have sw1 : (u13.setRow (u5.heap.size) #[.int .i64 0, .int .i64 (1 + (r : Int)), .int .i64 (wm : Int), .string ⟨([] : List UInt8).toArray⟩]).cell? ⟨u5.heap.size, 1, none⟩ = some (.int .i64 (1 + (r : Int))) := by rw [blk_cell hws]; rfl
          have sw2 : (u13.setRow (u5.heap.size) #[.int .i64 0, .int .i64 (1 + (r : Int)), .int .i64 (wm : Int), .string ⟨([] : List UInt8).toArray⟩]).cell? ⟨u5.heap.size, 2, none⟩ = some (.int .i64 (wm : Int)) := by rw [blk_cell hws]; rfl
          have sw3 : (u13.setRow (u5.heap.size) #[.int .i64 0, .int .i64 (1 + (r : Int)), .int .i64 (wm : Int), .string ⟨([] : List UInt8).toArray⟩]).cell? ⟨u5.heap.size, 3, none⟩ = some (.string ⟨([] : List UInt8).toArray⟩) := by rw [blk_cell hws]; rfl
          have ssz : (u13.setRow (u5.heap.size) #[.int .i64 0, .int .i64 (1 + (r : Int)), .int .i64 (wm : Int), .string ⟨([] : List UInt8).toArray⟩]).heap.size = u13.heap.size := setRow_size _ _ _
          go_wp2_with (refine wpList_store_row rfl 31 _ _ rfl (u5.heap.size) _ rfl rfl 31 _ hw (by kernel_rfl) rfl (by simp [Value.oneCell']) ?_)
          generalize (u13.setRow (u5.heap.size) #[.int .i64 0, .int .i64 (1 + (r : Int)), .int .i64 (wm : Int), .string ⟨([] : List UInt8).toArray⟩]) = u14 at *
          replace hP := hPs
          replace hB := hBs
          replace hw := hws
          replace hv := hvs
          clear hPs hBs hws hvs hO9 sv0 sv1 sv2 sv3 sw0 sw1 sw2 sw3
          have cv0_14 : u14.cell? ⟨u3.heap.size, 0, none⟩ = some (.int .i64 (vk : Int)) := by rw [blk_cell hv]; rfl
          have cv1_14 : u14.cell? ⟨u3.heap.size, 1, none⟩ = some (.int .i64 (vn : Int)) := by rw [blk_cell hv]; rfl
          have cv2_14 : u14.cell? ⟨u3.heap.size, 2, none⟩ = some (.int .i64 (vm : Int)) := by rw [blk_cell hv]; rfl
          have cv3_14 : u14.cell? ⟨u3.heap.size, 3, none⟩ = some (.string ⟨vt.toArray⟩) := by rw [blk_cell hv]; rfl
          have lv_14 := blk_lt hv
          have cw0_14 : u14.cell? ⟨u5.heap.size, 0, none⟩ = some (.int .i64 0) := by rw [blk_cell hw]; rfl
          have cw1_14 : u14.cell? ⟨u5.heap.size, 1, none⟩ = some (.int .i64 (1 + (r : Int))) := by rw [blk_cell hw]; rfl
          have cw2_14 : u14.cell? ⟨u5.heap.size, 2, none⟩ = some (.int .i64 (wm : Int)) := by rw [blk_cell hw]; rfl
          have cw3_14 : u14.cell? ⟨u5.heap.size, 3, none⟩ = some (.string ⟨([] : List UInt8).toArray⟩) := by rw [blk_cell hw]; rfl
          have lw_14 := blk_lt hw
          refine (dsolve_bad bq (-1) ((n : Int)) _ (Or.inl (by decide))).mono ?_
          rintro e u15 ⟨rfl, b15⟩
          replace hB := hB.trans (b15.mono hB.size)
          replace hP := hP.later b15
          replace hv := (b15.block _ (blk_lt hv)).trans hv
          replace hw := (b15.block _ (blk_lt hw)).trans hw
          have cv0_15 : u15.cell? ⟨u3.heap.size, 0, none⟩ = some (.int .i64 (vk : Int)) := by rw [blk_cell hv]; rfl
          have cv1_15 : u15.cell? ⟨u3.heap.size, 1, none⟩ = some (.int .i64 (vn : Int)) := by rw [blk_cell hv]; rfl
          have cv2_15 : u15.cell? ⟨u3.heap.size, 2, none⟩ = some (.int .i64 (vm : Int)) := by rw [blk_cell hv]; rfl
          have cv3_15 : u15.cell? ⟨u3.heap.size, 3, none⟩ = some (.string ⟨vt.toArray⟩) := by rw [blk_cell hv]; rfl
          have lv_15 := blk_lt hv
          have cw0_15 : u15.cell? ⟨u5.heap.size, 0, none⟩ = some (.int .i64 0) := by rw [blk_cell hw]; rfl
          have cw1_15 : u15.cell? ⟨u5.heap.size, 1, none⟩ = some (.int .i64 (1 + (r : Int))) := by rw [blk_cell hw]; rfl
          have cw2_15 : u15.cell? ⟨u5.heap.size, 2, none⟩ = some (.int .i64 (wm : Int)) := by rw [blk_cell hw]; rfl
          have cw3_15 : u15.cell? ⟨u5.heap.size, 3, none⟩ = some (.string ⟨([] : List UInt8).toArray⟩) := by rw [blk_cell hw]; rfl
          have lw_15 := blk_lt hw
          go_wp2_with fail
          refine (dsolve_bad bq (0) (65) _ (Or.inr (Or.inr (Or.inr (by decide))))).mono ?_
          rintro e u16 ⟨rfl, b16⟩
          replace hB := hB.trans (b16.mono hB.size)
          replace hP := hP.later b16
          replace hv := (b16.block _ (blk_lt hv)).trans hv
          replace hw := (b16.block _ (blk_lt hw)).trans hw
          have cv0_16 : u16.cell? ⟨u3.heap.size, 0, none⟩ = some (.int .i64 (vk : Int)) := by rw [blk_cell hv]; rfl
          have cv1_16 : u16.cell? ⟨u3.heap.size, 1, none⟩ = some (.int .i64 (vn : Int)) := by rw [blk_cell hv]; rfl
          have cv2_16 : u16.cell? ⟨u3.heap.size, 2, none⟩ = some (.int .i64 (vm : Int)) := by rw [blk_cell hv]; rfl
          have cv3_16 : u16.cell? ⟨u3.heap.size, 3, none⟩ = some (.string ⟨vt.toArray⟩) := by rw [blk_cell hv]; rfl
          have lv_16 := blk_lt hv
          have cw0_16 : u16.cell? ⟨u5.heap.size, 0, none⟩ = some (.int .i64 0) := by rw [blk_cell hw]; rfl
          have cw1_16 : u16.cell? ⟨u5.heap.size, 1, none⟩ = some (.int .i64 (1 + (r : Int))) := by rw [blk_cell hw]; rfl
          have cw2_16 : u16.cell? ⟨u5.heap.size, 2, none⟩ = some (.int .i64 (wm : Int)) := by rw [blk_cell hw]; rfl
          have cw3_16 : u16.cell? ⟨u5.heap.size, 3, none⟩ = some (.string ⟨([] : List UInt8).toArray⟩) := by rw [blk_cell hw]; rfl
          have lw_16 := blk_lt hw
          go_wp2_with fail
          go_ret
          exact ⟨rfl, hB.alloc hB.size _⟩
        · rw [unhide HE4 (1 + r) (by omega) hkv]
          have f3 : decide (((1 + r : Nat) : Int) < (vn : Int)) = false := decide_eq_false (by omega)
          have f3n : decide (1 + r < vn) = false := decide_eq_false (by omega)
          have f3m : decide (1 + (r : Int) < (vn : Int)) = false := decide_eq_false (by omega)
          clear hkv
          have hO9 := only_setRow u13 (u5.heap.size) #[.int .i64 (vk : Int), .int .i64 (vn : Int), .int .i64 (vm : Int), .string ⟨vt.toArray⟩]
          have hPs := hP.setV hw hO9
          have hBs := below_setRow hB (show w.heap.size ≤ u5.heap.size by omega) #[.int .i64 (vk : Int), .int .i64 (vn : Int), .int .i64 (vm : Int), .string ⟨vt.toArray⟩]
          have hws := setRow_heap u13 (u5.heap.size) _ #[.int .i64 (vk : Int), .int .i64 (vn : Int), .int .i64 (vm : Int), .string ⟨vt.toArray⟩] _ _ hw
          have hvs := (hO9.block _ (blk_lt hv) hivw).trans hv
          have sv0 : (u13.setRow (u5.heap.size) #[.int .i64 (vk : Int), .int .i64 (vn : Int), .int .i64 (vm : Int), .string ⟨vt.toArray⟩]).cell? ⟨u3.heap.size, 0, none⟩ = some (.int .i64 (vk : Int)) := by rw [blk_cell hvs]; rfl
          have sv1 : (u13.setRow (u5.heap.size) #[.int .i64 (vk : Int), .int .i64 (vn : Int), .int .i64 (vm : Int), .string ⟨vt.toArray⟩]).cell? ⟨u3.heap.size, 1, none⟩ = some (.int .i64 (vn : Int)) := by rw [blk_cell hvs]; rfl
          have sv2 : (u13.setRow (u5.heap.size) #[.int .i64 (vk : Int), .int .i64 (vn : Int), .int .i64 (vm : Int), .string ⟨vt.toArray⟩]).cell? ⟨u3.heap.size, 2, none⟩ = some (.int .i64 (vm : Int)) := by rw [blk_cell hvs]; rfl
          have sv3 : (u13.setRow (u5.heap.size) #[.int .i64 (vk : Int), .int .i64 (vn : Int), .int .i64 (vm : Int), .string ⟨vt.toArray⟩]).cell? ⟨u3.heap.size, 3, none⟩ = some (.string ⟨vt.toArray⟩) := by rw [blk_cell hvs]; rfl
          have sw0 : (u13.setRow (u5.heap.size) #[.int .i64 (vk : Int), .int .i64 (vn : Int), .int .i64 (vm : Int), .string ⟨vt.toArray⟩]).cell? ⟨u5.heap.size, 0, none⟩ = some (.int .i64 (vk : Int)) := by rw [blk_cell hws]; rfl
          have sw1 : (u13.setRow (u5.heap.size) #[.int .i64 (vk : Int), .int .i64 (vn : Int), .int .i64 (vm : Int), .string ⟨vt.toArray⟩]).cell? ⟨u5.heap.size, 1, none⟩ = some (.int .i64 (vn : Int)) := by rw [blk_cell hws]; rfl
          have sw2 : (u13.setRow (u5.heap.size) #[.int .i64 (vk : Int), .int .i64 (vn : Int), .int .i64 (vm : Int), .string ⟨vt.toArray⟩]).cell? ⟨u5.heap.size, 2, none⟩ = some (.int .i64 (vm : Int)) := by rw [blk_cell hws]; rfl
          have sw3 : (u13.setRow (u5.heap.size) #[.int .i64 (vk : Int), .int .i64 (vn : Int), .int .i64 (vm : Int), .string ⟨vt.toArray⟩]).cell? ⟨u5.heap.size, 3, none⟩ = some (.string ⟨vt.toArray⟩) := by rw [blk_cell hws]; rfl
          have ssz : (u13.setRow (u5.heap.size) #[.int .i64 (vk : Int), .int .i64 (vn : Int), .int .i64 (vm : Int), .string ⟨vt.toArray⟩]).heap.size = u13.heap.size := setRow_size _ _ _
          go_wp2_with (refine wpList_store_row rfl 31 _ _ rfl (u5.heap.size) _ rfl rfl 31 _ hw (by kernel_rfl) rfl (by simp [Value.oneCell']) ?_)
          generalize (u13.setRow (u5.heap.size) #[.int .i64 (vk : Int), .int .i64 (vn : Int), .int .i64 (vm : Int), .string ⟨vt.toArray⟩]) = u14 at *
          replace hP := hPs
          replace hB := hBs
          replace hw := hws
          replace hv := hvs
          clear hPs hBs hws hvs hO9 sv0 sv1 sv2 sv3 sw0 sw1 sw2 sw3
          have cv0_14 : u14.cell? ⟨u3.heap.size, 0, none⟩ = some (.int .i64 (vk : Int)) := by rw [blk_cell hv]; rfl
          have cv1_14 : u14.cell? ⟨u3.heap.size, 1, none⟩ = some (.int .i64 (vn : Int)) := by rw [blk_cell hv]; rfl
          have cv2_14 : u14.cell? ⟨u3.heap.size, 2, none⟩ = some (.int .i64 (vm : Int)) := by rw [blk_cell hv]; rfl
          have cv3_14 : u14.cell? ⟨u3.heap.size, 3, none⟩ = some (.string ⟨vt.toArray⟩) := by rw [blk_cell hv]; rfl
          have lv_14 := blk_lt hv
          have cw0_14 : u14.cell? ⟨u5.heap.size, 0, none⟩ = some (.int .i64 (vk : Int)) := by rw [blk_cell hw]; rfl
          have cw1_14 : u14.cell? ⟨u5.heap.size, 1, none⟩ = some (.int .i64 (vn : Int)) := by rw [blk_cell hw]; rfl
          have cw2_14 : u14.cell? ⟨u5.heap.size, 2, none⟩ = some (.int .i64 (vm : Int)) := by rw [blk_cell hw]; rfl
          have cw3_14 : u14.cell? ⟨u5.heap.size, 3, none⟩ = some (.string ⟨vt.toArray⟩) := by rw [blk_cell hw]; rfl
          have lw_14 := blk_lt hw
          refine (dsolve_bad bq (-1) ((n : Int)) _ (Or.inl (by decide))).mono ?_
          rintro e u15 ⟨rfl, b15⟩
          replace hB := hB.trans (b15.mono hB.size)
          replace hP := hP.later b15
          replace hv := (b15.block _ (blk_lt hv)).trans hv
          replace hw := (b15.block _ (blk_lt hw)).trans hw
          have cv0_15 : u15.cell? ⟨u3.heap.size, 0, none⟩ = some (.int .i64 (vk : Int)) := by rw [blk_cell hv]; rfl
          have cv1_15 : u15.cell? ⟨u3.heap.size, 1, none⟩ = some (.int .i64 (vn : Int)) := by rw [blk_cell hv]; rfl
          have cv2_15 : u15.cell? ⟨u3.heap.size, 2, none⟩ = some (.int .i64 (vm : Int)) := by rw [blk_cell hv]; rfl
          have cv3_15 : u15.cell? ⟨u3.heap.size, 3, none⟩ = some (.string ⟨vt.toArray⟩) := by rw [blk_cell hv]; rfl
          have lv_15 := blk_lt hv
          have cw0_15 : u15.cell? ⟨u5.heap.size, 0, none⟩ = some (.int .i64 (vk : Int)) := by rw [blk_cell hw]; rfl
          have cw1_15 : u15.cell? ⟨u5.heap.size, 1, none⟩ = some (.int .i64 (vn : Int)) := by rw [blk_cell hw]; rfl
          have cw2_15 : u15.cell? ⟨u5.heap.size, 2, none⟩ = some (.int .i64 (vm : Int)) := by rw [blk_cell hw]; rfl
          have cw3_15 : u15.cell? ⟨u5.heap.size, 3, none⟩ = some (.string ⟨vt.toArray⟩) := by rw [blk_cell hw]; rfl
          have lw_15 := blk_lt hw
          go_wp2_with fail
          refine (dsolve_bad bq (0) (65) _ (Or.inr (Or.inr (Or.inr (by decide))))).mono ?_
          rintro e u16 ⟨rfl, b16⟩
          replace hB := hB.trans (b16.mono hB.size)
          replace hP := hP.later b16
          replace hv := (b16.block _ (blk_lt hv)).trans hv
          replace hw := (b16.block _ (blk_lt hw)).trans hw
          have cv0_16 : u16.cell? ⟨u3.heap.size, 0, none⟩ = some (.int .i64 (vk : Int)) := by rw [blk_cell hv]; rfl
          have cv1_16 : u16.cell? ⟨u3.heap.size, 1, none⟩ = some (.int .i64 (vn : Int)) := by rw [blk_cell hv]; rfl
          have cv2_16 : u16.cell? ⟨u3.heap.size, 2, none⟩ = some (.int .i64 (vm : Int)) := by rw [blk_cell hv]; rfl
          have cv3_16 : u16.cell? ⟨u3.heap.size, 3, none⟩ = some (.string ⟨vt.toArray⟩) := by rw [blk_cell hv]; rfl
          have lv_16 := blk_lt hv
          have cw0_16 : u16.cell? ⟨u5.heap.size, 0, none⟩ = some (.int .i64 (vk : Int)) := by rw [blk_cell hw]; rfl
          have cw1_16 : u16.cell? ⟨u5.heap.size, 1, none⟩ = some (.int .i64 (vn : Int)) := by rw [blk_cell hw]; rfl
          have cw2_16 : u16.cell? ⟨u5.heap.size, 2, none⟩ = some (.int .i64 (vm : Int)) := by rw [blk_cell hw]; rfl
          have cw3_16 : u16.cell? ⟨u5.heap.size, 3, none⟩ = some (.string ⟨vt.toArray⟩) := by rw [blk_cell hw]; rfl
          have lw_16 := blk_lt hw
          go_wp2_with fail
          go_ret
          exact ⟨rfl, hB.alloc hB.size _⟩
      · have e3 : decide ((1 : Int) < (vn : Int)) = false := decide_eq_false (by omega)
        have e3n : decide (1 < vn) = false := decide_eq_false (by omega)
        clear h1v
        go_wp2_with fail
        have b10 : Below u9.heap.size u9 (u9.alloc (.cells #[.int .i64 (vk : Int), .int .i64 (un : Int), .int .i64 0, .string ⟨ut.toArray⟩] 31)) := (Below.refl _ _).alloc (Nat.le_refl _) _
        have hu := heap_alloc_new u9 (.cells #[.int .i64 (vk : Int), .int .i64 (un : Int), .int .i64 0, .string ⟨ut.toArray⟩] 31)
        generalize (u9.alloc (.cells #[.int .i64 (vk : Int), .int .i64 (un : Int), .int .i64 0, .string ⟨ut.toArray⟩] 31)) = u10 at *
        replace hB := hB.trans (b10.mono hB.size)
        replace hP := hP.later b10
        replace hv := (b10.block _ (blk_lt hv)).trans hv
        replace hw := (b10.block _ (blk_lt hw)).trans hw
        have cv0_10 : u10.cell? ⟨u3.heap.size, 0, none⟩ = some (.int .i64 (vk : Int)) := by rw [blk_cell hv]; rfl
        have cv1_10 : u10.cell? ⟨u3.heap.size, 1, none⟩ = some (.int .i64 (vn : Int)) := by rw [blk_cell hv]; rfl
        have cv2_10 : u10.cell? ⟨u3.heap.size, 2, none⟩ = some (.int .i64 (vm : Int)) := by rw [blk_cell hv]; rfl
        have cv3_10 : u10.cell? ⟨u3.heap.size, 3, none⟩ = some (.string ⟨vt.toArray⟩) := by rw [blk_cell hv]; rfl
        have lv_10 := blk_lt hv
        have cw0_10 : u10.cell? ⟨u5.heap.size, 0, none⟩ = some (.int .i64 (vk : Int)) := by rw [blk_cell hw]; rfl
        have cw1_10 : u10.cell? ⟨u5.heap.size, 1, none⟩ = some (.int .i64 (vn : Int)) := by rw [blk_cell hw]; rfl
        have cw2_10 : u10.cell? ⟨u5.heap.size, 2, none⟩ = some (.int .i64 (vm : Int)) := by rw [blk_cell hw]; rfl
        have cw3_10 : u10.cell? ⟨u5.heap.size, 3, none⟩ = some (.string ⟨vt.toArray⟩) := by rw [blk_cell hw]; rfl
        have lw_10 := blk_lt hw
        have cu0_10 : u10.cell? ⟨u9.heap.size, 0, none⟩ = some (.int .i64 (vk : Int)) := by rw [blk_cell hu]; rfl
        have cu1_10 : u10.cell? ⟨u9.heap.size, 1, none⟩ = some (.int .i64 (un : Int)) := by rw [blk_cell hu]; rfl
        have cu2_10 : u10.cell? ⟨u9.heap.size, 2, none⟩ = some (.int .i64 0) := by rw [blk_cell hu]; rfl
        have cu3_10 : u10.cell? ⟨u9.heap.size, 3, none⟩ = some (.string ⟨ut.toArray⟩) := by rw [blk_cell hu]; rfl
        have lu_10 := blk_lt hu
        refine (kpick_eq a 600 _ (by decide) (by decide) ha1 ha2).mono ?_
        rintro e ux ⟨rfl, hux⟩
        subst hux
        have hr6 : pickK a 600 < 600 := pickK_lt a 600 (by decide)
        generalize pickK a 600 = r at *
        go_wp2_with fail
        rw [show (1 + (r : Int)) = ((1 + r : Nat) : Int) from by omega]
        refine (unhide HSV _ bq (1 + r) (n) _ hP (ht.later hB) (by omega) (hn64)).mono ?_
        rintro e u11 ⟨rfl, b11⟩
        replace hB := hB.trans (b11.mono hB.size)
        replace hP := hP.later b11
        replace hv := (b11.block _ (blk_lt hv)).trans hv
        replace hw := (b11.block _ (blk_lt hw)).trans hw
        have cv0_11 : u11.cell? ⟨u3.heap.size, 0, none⟩ = some (.int .i64 (vk : Int)) := by rw [blk_cell hv]; rfl
        have cv1_11 : u11.cell? ⟨u3.heap.size, 1, none⟩ = some (.int .i64 (vn : Int)) := by rw [blk_cell hv]; rfl
        have cv2_11 : u11.cell? ⟨u3.heap.size, 2, none⟩ = some (.int .i64 (vm : Int)) := by rw [blk_cell hv]; rfl
        have cv3_11 : u11.cell? ⟨u3.heap.size, 3, none⟩ = some (.string ⟨vt.toArray⟩) := by rw [blk_cell hv]; rfl
        have lv_11 := blk_lt hv
        have cw0_11 : u11.cell? ⟨u5.heap.size, 0, none⟩ = some (.int .i64 (vk : Int)) := by rw [blk_cell hw]; rfl
        have cw1_11 : u11.cell? ⟨u5.heap.size, 1, none⟩ = some (.int .i64 (vn : Int)) := by rw [blk_cell hw]; rfl
        have cw2_11 : u11.cell? ⟨u5.heap.size, 2, none⟩ = some (.int .i64 (vm : Int)) := by rw [blk_cell hw]; rfl
        have cw3_11 : u11.cell? ⟨u5.heap.size, 3, none⟩ = some (.string ⟨vt.toArray⟩) := by rw [blk_cell hw]; rfl
        have lw_11 := blk_lt hw
        rcases Nat.lt_or_ge (1 + r) vn with hkv | hkv
        · have hW := unhide HE3 (1 + r) (by omega) hkv
          generalize verdict q (1 + r) n = W at *
          obtain ⟨wk, wn, wm, wt⟩ := W
          dsimp only at hW ⊢
          obtain ⟨hw1, hw2, hw3⟩ := hW
          subst hw1 hw2 hw3
          have hcast2 : ((1 + r : Nat) : Int) = 1 + (r : Int) := by omega
          have f3 : decide (((1 + r : Nat) : Int) < (vn : Int)) = true := decide_eq_true (by omega)
          have f3n : decide (1 + r < vn) = true := decide_eq_true hkv
          have f3m : decide (1 + (r : Int) < (vn : Int)) = true := decide_eq_true (by omega)
          clear hkv
          have hO9 := only_setRow u11 (u5.heap.size) #[.int .i64 0, .int .i64 (1 + (r : Int)), .int .i64 (wm : Int), .string ⟨([] : List UInt8).toArray⟩]
          have hPs := hP.setV hw hO9
          have hBs := below_setRow hB (show w.heap.size ≤ u5.heap.size by omega) #[.int .i64 0, .int .i64 (1 + (r : Int)), .int .i64 (wm : Int), .string ⟨([] : List UInt8).toArray⟩]
          have hws := setRow_heap u11 (u5.heap.size) _ #[.int .i64 0, .int .i64 (1 + (r : Int)), .int .i64 (wm : Int), .string ⟨([] : List UInt8).toArray⟩] _ _ hw
          have hvs := (hO9.block _ (blk_lt hv) hivw).trans hv
          have sv0 : (u11.setRow (u5.heap.size) #[.int .i64 0, .int .i64 (1 + (r : Int)), .int .i64 (wm : Int), .string ⟨([] : List UInt8).toArray⟩]).cell? ⟨u3.heap.size, 0, none⟩ = some (.int .i64 (vk : Int)) := by rw [blk_cell hvs]; rfl
          have sv1 : (u11.setRow (u5.heap.size) #[.int .i64 0, .int .i64 (1 + (r : Int)), .int .i64 (wm : Int), .string ⟨([] : List UInt8).toArray⟩]).cell? ⟨u3.heap.size, 1, none⟩ = some (.int .i64 (vn : Int)) := by rw [blk_cell hvs]; rfl
          have sv2 : (u11.setRow (u5.heap.size) #[.int .i64 0, .int .i64 (1 + (r : Int)), .int .i64 (wm : Int), .string ⟨([] : List UInt8).toArray⟩]).cell? ⟨u3.heap.size, 2, none⟩ = some (.int .i64 (vm : Int)) := by rw [blk_cell hvs]; rfl
          have sv3 : (u11.setRow (u5.heap.size) #[.int .i64 0, .int .i64 (1 + (r : Int)), .int .i64 (wm : Int), .string ⟨([] : List UInt8).toArray⟩]).cell? ⟨u3.heap.size, 3, none⟩ = some (.string ⟨vt.toArray⟩) := by rw [blk_cell hvs]; rfl
          have sw0 : (u11.setRow (u5.heap.size) #[.int .i64 0, .int .i64 (1 + (r : Int)), .int .i64 (wm : Int), .string ⟨([] : List UInt8).toArray⟩]).cell? ⟨u5.heap.size, 0, none⟩ = some (.int .i64 0) := by rw [blk_cell hws]; rfl
          have sw1 : (u11.setRow (u5.heap.size) #[.int .i64 0, .int .i64 (1 + (r : Int)), .int .i64 (wm : Int), .string ⟨([] : List UInt8).toArray⟩]).cell? ⟨u5.heap.size, 1, none⟩ = some (.int .i64 (1 + (r : Int))) := by rw [blk_cell hws]; rfl
          have sw2 : (u11.setRow (u5.heap.size) #[.int .i64 0, .int .i64 (1 + (r : Int)), .int .i64 (wm : Int), .string ⟨([] : List UInt8).toArray⟩]).cell? ⟨u5.heap.size, 2, none⟩ = some (.int .i64 (wm : Int)) := by rw [blk_cell hws]; rfl
          have sw3 : (u11.setRow (u5.heap.size) #[.int .i64 0, .int .i64 (1 + (r : Int)), .int .i64 (wm : Int), .string ⟨([] : List UInt8).toArray⟩]).cell? ⟨u5.heap.size, 3, none⟩ = some (.string ⟨([] : List UInt8).toArray⟩) := by rw [blk_cell hws]; rfl
          have ssz : (u11.setRow (u5.heap.size) #[.int .i64 0, .int .i64 (1 + (r : Int)), .int .i64 (wm : Int), .string ⟨([] : List UInt8).toArray⟩]).heap.size = u11.heap.size := setRow_size _ _ _
          go_wp2_with (refine wpList_store_row rfl 31 _ _ rfl (u5.heap.size) _ rfl rfl 31 _ hw (by kernel_rfl) rfl (by simp [Value.oneCell']) ?_)
          generalize (u11.setRow (u5.heap.size) #[.int .i64 0, .int .i64 (1 + (r : Int)), .int .i64 (wm : Int), .string ⟨([] : List UInt8).toArray⟩]) = u12 at *
          replace hP := hPs
          replace hB := hBs
          replace hw := hws
          replace hv := hvs
          clear hPs hBs hws hvs hO9 sv0 sv1 sv2 sv3 sw0 sw1 sw2 sw3
          have cv0_12 : u12.cell? ⟨u3.heap.size, 0, none⟩ = some (.int .i64 (vk : Int)) := by rw [blk_cell hv]; rfl
          have cv1_12 : u12.cell? ⟨u3.heap.size, 1, none⟩ = some (.int .i64 (vn : Int)) := by rw [blk_cell hv]; rfl
          have cv2_12 : u12.cell? ⟨u3.heap.size, 2, none⟩ = some (.int .i64 (vm : Int)) := by rw [blk_cell hv]; rfl
          have cv3_12 : u12.cell? ⟨u3.heap.size, 3, none⟩ = some (.string ⟨vt.toArray⟩) := by rw [blk_cell hv]; rfl
          have lv_12 := blk_lt hv
          have cw0_12 : u12.cell? ⟨u5.heap.size, 0, none⟩ = some (.int .i64 0) := by rw [blk_cell hw]; rfl
          have cw1_12 : u12.cell? ⟨u5.heap.size, 1, none⟩ = some (.int .i64 (1 + (r : Int))) := by rw [blk_cell hw]; rfl
          have cw2_12 : u12.cell? ⟨u5.heap.size, 2, none⟩ = some (.int .i64 (wm : Int)) := by rw [blk_cell hw]; rfl
          have cw3_12 : u12.cell? ⟨u5.heap.size, 3, none⟩ = some (.string ⟨([] : List UInt8).toArray⟩) := by rw [blk_cell hw]; rfl
          have lw_12 := blk_lt hw
          refine (dsolve_bad bq (-1) ((n : Int)) _ (Or.inl (by decide))).mono ?_
          rintro e u13 ⟨rfl, b13⟩
          replace hB := hB.trans (b13.mono hB.size)
          replace hP := hP.later b13
          replace hv := (b13.block _ (blk_lt hv)).trans hv
          replace hw := (b13.block _ (blk_lt hw)).trans hw
          have cv0_13 : u13.cell? ⟨u3.heap.size, 0, none⟩ = some (.int .i64 (vk : Int)) := by rw [blk_cell hv]; rfl
          have cv1_13 : u13.cell? ⟨u3.heap.size, 1, none⟩ = some (.int .i64 (vn : Int)) := by rw [blk_cell hv]; rfl
          have cv2_13 : u13.cell? ⟨u3.heap.size, 2, none⟩ = some (.int .i64 (vm : Int)) := by rw [blk_cell hv]; rfl
          have cv3_13 : u13.cell? ⟨u3.heap.size, 3, none⟩ = some (.string ⟨vt.toArray⟩) := by rw [blk_cell hv]; rfl
          have lv_13 := blk_lt hv
          have cw0_13 : u13.cell? ⟨u5.heap.size, 0, none⟩ = some (.int .i64 0) := by rw [blk_cell hw]; rfl
          have cw1_13 : u13.cell? ⟨u5.heap.size, 1, none⟩ = some (.int .i64 (1 + (r : Int))) := by rw [blk_cell hw]; rfl
          have cw2_13 : u13.cell? ⟨u5.heap.size, 2, none⟩ = some (.int .i64 (wm : Int)) := by rw [blk_cell hw]; rfl
          have cw3_13 : u13.cell? ⟨u5.heap.size, 3, none⟩ = some (.string ⟨([] : List UInt8).toArray⟩) := by rw [blk_cell hw]; rfl
          have lw_13 := blk_lt hw
          go_wp2_with fail
          refine (dsolve_bad bq (0) (65) _ (Or.inr (Or.inr (Or.inr (by decide))))).mono ?_
          rintro e u14 ⟨rfl, b14⟩
          replace hB := hB.trans (b14.mono hB.size)
          replace hP := hP.later b14
          replace hv := (b14.block _ (blk_lt hv)).trans hv
          replace hw := (b14.block _ (blk_lt hw)).trans hw
          have cv0_14 : u14.cell? ⟨u3.heap.size, 0, none⟩ = some (.int .i64 (vk : Int)) := by rw [blk_cell hv]; rfl
          have cv1_14 : u14.cell? ⟨u3.heap.size, 1, none⟩ = some (.int .i64 (vn : Int)) := by rw [blk_cell hv]; rfl
          have cv2_14 : u14.cell? ⟨u3.heap.size, 2, none⟩ = some (.int .i64 (vm : Int)) := by rw [blk_cell hv]; rfl
          have cv3_14 : u14.cell? ⟨u3.heap.size, 3, none⟩ = some (.string ⟨vt.toArray⟩) := by rw [blk_cell hv]; rfl
          have lv_14 := blk_lt hv
          have cw0_14 : u14.cell? ⟨u5.heap.size, 0, none⟩ = some (.int .i64 0) := by rw [blk_cell hw]; rfl
          have cw1_14 : u14.cell? ⟨u5.heap.size, 1, none⟩ = some (.int .i64 (1 + (r : Int))) := by rw [blk_cell hw]; rfl
          have cw2_14 : u14.cell? ⟨u5.heap.size, 2, none⟩ = some (.int .i64 (wm : Int)) := by rw [blk_cell hw]; rfl
          have cw3_14 : u14.cell? ⟨u5.heap.size, 3, none⟩ = some (.string ⟨([] : List UInt8).toArray⟩) := by rw [blk_cell hw]; rfl
          have lw_14 := blk_lt hw
          go_wp2_with fail
          go_ret
          exact ⟨rfl, hB.alloc hB.size _⟩
        · rw [unhide HE4 (1 + r) (by omega) hkv]
          have f3 : decide (((1 + r : Nat) : Int) < (vn : Int)) = false := decide_eq_false (by omega)
          have f3n : decide (1 + r < vn) = false := decide_eq_false (by omega)
          have f3m : decide (1 + (r : Int) < (vn : Int)) = false := decide_eq_false (by omega)
          clear hkv
          have hO9 := only_setRow u11 (u5.heap.size) #[.int .i64 (vk : Int), .int .i64 (vn : Int), .int .i64 (vm : Int), .string ⟨vt.toArray⟩]
          have hPs := hP.setV hw hO9
          have hBs := below_setRow hB (show w.heap.size ≤ u5.heap.size by omega) #[.int .i64 (vk : Int), .int .i64 (vn : Int), .int .i64 (vm : Int), .string ⟨vt.toArray⟩]
          have hws := setRow_heap u11 (u5.heap.size) _ #[.int .i64 (vk : Int), .int .i64 (vn : Int), .int .i64 (vm : Int), .string ⟨vt.toArray⟩] _ _ hw
          have hvs := (hO9.block _ (blk_lt hv) hivw).trans hv
          have sv0 : (u11.setRow (u5.heap.size) #[.int .i64 (vk : Int), .int .i64 (vn : Int), .int .i64 (vm : Int), .string ⟨vt.toArray⟩]).cell? ⟨u3.heap.size, 0, none⟩ = some (.int .i64 (vk : Int)) := by rw [blk_cell hvs]; rfl
          have sv1 : (u11.setRow (u5.heap.size) #[.int .i64 (vk : Int), .int .i64 (vn : Int), .int .i64 (vm : Int), .string ⟨vt.toArray⟩]).cell? ⟨u3.heap.size, 1, none⟩ = some (.int .i64 (vn : Int)) := by rw [blk_cell hvs]; rfl
          have sv2 : (u11.setRow (u5.heap.size) #[.int .i64 (vk : Int), .int .i64 (vn : Int), .int .i64 (vm : Int), .string ⟨vt.toArray⟩]).cell? ⟨u3.heap.size, 2, none⟩ = some (.int .i64 (vm : Int)) := by rw [blk_cell hvs]; rfl
          have sv3 : (u11.setRow (u5.heap.size) #[.int .i64 (vk : Int), .int .i64 (vn : Int), .int .i64 (vm : Int), .string ⟨vt.toArray⟩]).cell? ⟨u3.heap.size, 3, none⟩ = some (.string ⟨vt.toArray⟩) := by rw [blk_cell hvs]; rfl
          have sw0 : (u11.setRow (u5.heap.size) #[.int .i64 (vk : Int), .int .i64 (vn : Int), .int .i64 (vm : Int), .string ⟨vt.toArray⟩]).cell? ⟨u5.heap.size, 0, none⟩ = some (.int .i64 (vk : Int)) := by rw [blk_cell hws]; rfl
          have sw1 : (u11.setRow (u5.heap.size) #[.int .i64 (vk : Int), .int .i64 (vn : Int), .int .i64 (vm : Int), .string ⟨vt.toArray⟩]).cell? ⟨u5.heap.size, 1, none⟩ = some (.int .i64 (vn : Int)) := by rw [blk_cell hws]; rfl
          have sw2 : (u11.setRow (u5.heap.size) #[.int .i64 (vk : Int), .int .i64 (vn : Int), .int .i64 (vm : Int), .string ⟨vt.toArray⟩]).cell? ⟨u5.heap.size, 2, none⟩ = some (.int .i64 (vm : Int)) := by rw [blk_cell hws]; rfl
          have sw3 : (u11.setRow (u5.heap.size) #[.int .i64 (vk : Int), .int .i64 (vn : Int), .int .i64 (vm : Int), .string ⟨vt.toArray⟩]).cell? ⟨u5.heap.size, 3, none⟩ = some (.string ⟨vt.toArray⟩) := by rw [blk_cell hws]; rfl
          have ssz : (u11.setRow (u5.heap.size) #[.int .i64 (vk : Int), .int .i64 (vn : Int), .int .i64 (vm : Int), .string ⟨vt.toArray⟩]).heap.size = u11.heap.size := setRow_size _ _ _
          go_wp2_with (refine wpList_store_row rfl 31 _ _ rfl (u5.heap.size) _ rfl rfl 31 _ hw (by kernel_rfl) rfl (by simp [Value.oneCell']) ?_)
          generalize (u11.setRow (u5.heap.size) #[.int .i64 (vk : Int), .int .i64 (vn : Int), .int .i64 (vm : Int), .string ⟨vt.toArray⟩]) = u12 at *
          replace hP := hPs
          replace hB := hBs
          replace hw := hws
          replace hv := hvs
          clear hPs hBs hws hvs hO9 sv0 sv1 sv2 sv3 sw0 sw1 sw2 sw3
          have cv0_12 : u12.cell? ⟨u3.heap.size, 0, none⟩ = some (.int .i64 (vk : Int)) := by rw [blk_cell hv]; rfl
          have cv1_12 : u12.cell? ⟨u3.heap.size, 1, none⟩ = some (.int .i64 (vn : Int)) := by rw [blk_cell hv]; rfl
          have cv2_12 : u12.cell? ⟨u3.heap.size, 2, none⟩ = some (.int .i64 (vm : Int)) := by rw [blk_cell hv]; rfl
          have cv3_12 : u12.cell? ⟨u3.heap.size, 3, none⟩ = some (.string ⟨vt.toArray⟩) := by rw [blk_cell hv]; rfl
          have lv_12 := blk_lt hv
          have cw0_12 : u12.cell? ⟨u5.heap.size, 0, none⟩ = some (.int .i64 (vk : Int)) := by rw [blk_cell hw]; rfl
          have cw1_12 : u12.cell? ⟨u5.heap.size, 1, none⟩ = some (.int .i64 (vn : Int)) := by rw [blk_cell hw]; rfl
          have cw2_12 : u12.cell? ⟨u5.heap.size, 2, none⟩ = some (.int .i64 (vm : Int)) := by rw [blk_cell hw]; rfl
          have cw3_12 : u12.cell? ⟨u5.heap.size, 3, none⟩ = some (.string ⟨vt.toArray⟩) := by rw [blk_cell hw]; rfl
          have lw_12 := blk_lt hw
          refine (dsolve_bad bq (-1) ((n : Int)) _ (Or.inl (by decide))).mono ?_
          rintro e u13 ⟨rfl, b13⟩
          replace hB := hB.trans (b13.mono hB.size)
          replace hP := hP.later b13
          replace hv := (b13.block _ (blk_lt hv)).trans hv
          replace hw := (b13.block _ (blk_lt hw)).trans hw
          have cv0_13 : u13.cell? ⟨u3.heap.size, 0, none⟩ = some (.int .i64 (vk : Int)) := by rw [blk_cell hv]; rfl
          have cv1_13 : u13.cell? ⟨u3.heap.size, 1, none⟩ = some (.int .i64 (vn : Int)) := by rw [blk_cell hv]; rfl
          have cv2_13 : u13.cell? ⟨u3.heap.size, 2, none⟩ = some (.int .i64 (vm : Int)) := by rw [blk_cell hv]; rfl
          have cv3_13 : u13.cell? ⟨u3.heap.size, 3, none⟩ = some (.string ⟨vt.toArray⟩) := by rw [blk_cell hv]; rfl
          have lv_13 := blk_lt hv
          have cw0_13 : u13.cell? ⟨u5.heap.size, 0, none⟩ = some (.int .i64 (vk : Int)) := by rw [blk_cell hw]; rfl
          have cw1_13 : u13.cell? ⟨u5.heap.size, 1, none⟩ = some (.int .i64 (vn : Int)) := by rw [blk_cell hw]; rfl
          have cw2_13 : u13.cell? ⟨u5.heap.size, 2, none⟩ = some (.int .i64 (vm : Int)) := by rw [blk_cell hw]; rfl
          have cw3_13 : u13.cell? ⟨u5.heap.size, 3, none⟩ = some (.string ⟨vt.toArray⟩) := by rw [blk_cell hw]; rfl
          have lw_13 := blk_lt hw
          go_wp2_with fail
          refine (dsolve_bad bq (0) (65) _ (Or.inr (Or.inr (Or.inr (by decide))))).mono ?_
          rintro e u14 ⟨rfl, b14⟩
          replace hB := hB.trans (b14.mono hB.size)
          replace hP := hP.later b14
          replace hv := (b14.block _ (blk_lt hv)).trans hv
          replace hw := (b14.block _ (blk_lt hw)).trans hw
          have cv0_14 : u14.cell? ⟨u3.heap.size, 0, none⟩ = some (.int .i64 (vk : Int)) := by rw [blk_cell hv]; rfl
          have cv1_14 : u14.cell? ⟨u3.heap.size, 1, none⟩ = some (.int .i64 (vn : Int)) := by rw [blk_cell hv]; rfl
          have cv2_14 : u14.cell? ⟨u3.heap.size, 2, none⟩ = some (.int .i64 (vm : Int)) := by rw [blk_cell hv]; rfl
          have cv3_14 : u14.cell? ⟨u3.heap.size, 3, none⟩ = some (.string ⟨vt.toArray⟩) := by rw [blk_cell hv]; rfl
          have lv_14 := blk_lt hv
          have cw0_14 : u14.cell? ⟨u5.heap.size, 0, none⟩ = some (.int .i64 (vk : Int)) := by rw [blk_cell hw]; rfl
          have cw1_14 : u14.cell? ⟨u5.heap.size, 1, none⟩ = some (.int .i64 (vn : Int)) := by rw [blk_cell hw]; rfl
          have cw2_14 : u14.cell? ⟨u5.heap.size, 2, none⟩ = some (.int .i64 (vm : Int)) := by rw [blk_cell hw]; rfl
          have cw3_14 : u14.cell? ⟨u5.heap.size, 3, none⟩ = some (.string ⟨vt.toArray⟩) := by rw [blk_cell hw]; rfl
          have lw_14 := blk_lt hw
          go_wp2_with fail
          go_ret
          exact ⟨rfl, hB.alloc hB.size _⟩
    · have g1 : decide ((vm : Int) < (n : Int)) = false := decide_eq_false (by omega)
      have g1n : decide (vm < n) = false := decide_eq_false (by omega)
      clear hmv
      go_wp2_with fail
      have hiw := hB.size
      have b6 : Below u5.heap.size u5 (u5.alloc (.cells #[.int .i64 (vk : Int), .int .i64 (vn : Int), .int .i64 (vm : Int), .string ⟨vt.toArray⟩] 31)) := (Below.refl _ _).alloc (Nat.le_refl _) _
      have hw := heap_alloc_new u5 (.cells #[.int .i64 (vk : Int), .int .i64 (vn : Int), .int .i64 (vm : Int), .string ⟨vt.toArray⟩] 31)
      generalize (u5.alloc (.cells #[.int .i64 (vk : Int), .int .i64 (vn : Int), .int .i64 (vm : Int), .string ⟨vt.toArray⟩] 31)) = u6 at *
      replace hB := hB.trans (b6.mono hB.size)
      replace hP := hP.later b6
      replace hv := (b6.block _ (blk_lt hv)).trans hv
      have cv0_6 : u6.cell? ⟨u3.heap.size, 0, none⟩ = some (.int .i64 (vk : Int)) := by rw [blk_cell hv]; rfl
      have cv1_6 : u6.cell? ⟨u3.heap.size, 1, none⟩ = some (.int .i64 (vn : Int)) := by rw [blk_cell hv]; rfl
      have cv2_6 : u6.cell? ⟨u3.heap.size, 2, none⟩ = some (.int .i64 (vm : Int)) := by rw [blk_cell hv]; rfl
      have cv3_6 : u6.cell? ⟨u3.heap.size, 3, none⟩ = some (.string ⟨vt.toArray⟩) := by rw [blk_cell hv]; rfl
      have lv_6 := blk_lt hv
      have cw0_6 : u6.cell? ⟨u5.heap.size, 0, none⟩ = some (.int .i64 (vk : Int)) := by rw [blk_cell hw]; rfl
      have cw1_6 : u6.cell? ⟨u5.heap.size, 1, none⟩ = some (.int .i64 (vn : Int)) := by rw [blk_cell hw]; rfl
      have cw2_6 : u6.cell? ⟨u5.heap.size, 2, none⟩ = some (.int .i64 (vm : Int)) := by rw [blk_cell hw]; rfl
      have cw3_6 : u6.cell? ⟨u5.heap.size, 3, none⟩ = some (.string ⟨vt.toArray⟩) := by rw [blk_cell hw]; rfl
      have lw_6 := blk_lt hw
      have hivw : u3.heap.size ≠ u5.heap.size := by have := lv_4; have := b5.size; omega
      refine (unhide HSV _ bq (0) (0) _ hP (ht.later hB) (by decide) (by decide)).mono ?_
      rintro e u7 ⟨rfl, b7⟩
      replace hB := hB.trans (b7.mono hB.size)
      replace hP := hP.later b7
      replace hv := (b7.block _ (blk_lt hv)).trans hv
      replace hw := (b7.block _ (blk_lt hw)).trans hw
      have cv0_7 : u7.cell? ⟨u3.heap.size, 0, none⟩ = some (.int .i64 (vk : Int)) := by rw [blk_cell hv]; rfl
      have cv1_7 : u7.cell? ⟨u3.heap.size, 1, none⟩ = some (.int .i64 (vn : Int)) := by rw [blk_cell hv]; rfl
      have cv2_7 : u7.cell? ⟨u3.heap.size, 2, none⟩ = some (.int .i64 (vm : Int)) := by rw [blk_cell hv]; rfl
      have cv3_7 : u7.cell? ⟨u3.heap.size, 3, none⟩ = some (.string ⟨vt.toArray⟩) := by rw [blk_cell hv]; rfl
      have lv_7 := blk_lt hv
      have cw0_7 : u7.cell? ⟨u5.heap.size, 0, none⟩ = some (.int .i64 (vk : Int)) := by rw [blk_cell hw]; rfl
      have cw1_7 : u7.cell? ⟨u5.heap.size, 1, none⟩ = some (.int .i64 (vn : Int)) := by rw [blk_cell hw]; rfl
      have cw2_7 : u7.cell? ⟨u5.heap.size, 2, none⟩ = some (.int .i64 (vm : Int)) := by rw [blk_cell hw]; rfl
      have cw3_7 : u7.cell? ⟨u5.heap.size, 3, none⟩ = some (.string ⟨vt.toArray⟩) := by rw [blk_cell hw]; rfl
      have lw_7 := blk_lt hw
      rw [unhide HU0]
      have e1 : ((um : Int) == 0) = true := by rw [beq_iff_eq]; have := unhide HMU; omega
      have e1n : (um == 0) = true := by rw [beq_iff_eq]; exact unhide HMU
      have e2 : decide ((n : Int) < (vm : Int)) = false := decide_eq_false (by omega)
      have e2n : decide (n < vm) = false := decide_eq_false (by omega)
      rcases Nat.lt_or_ge 1 vn with h1v | h1v
      · have e3 : decide ((1 : Int) < (vn : Int)) = true := decide_eq_true (by omega)
        have e3n : decide (1 < vn) = true := decide_eq_true h1v
        go_wp2_with fail
        have b8 : Below u7.heap.size u7 (u7.alloc (.cells #[.int .i64 (vk : Int), .int .i64 (un : Int), .int .i64 0, .string ⟨ut.toArray⟩] 31)) := (Below.refl _ _).alloc (Nat.le_refl _) _
        have hu := heap_alloc_new u7 (.cells #[.int .i64 (vk : Int), .int .i64 (un : Int), .int .i64 0, .string ⟨ut.toArray⟩] 31)
        generalize (u7.alloc (.cells #[.int .i64 (vk : Int), .int .i64 (un : Int), .int .i64 0, .string ⟨ut.toArray⟩] 31)) = u8 at *
        replace hB := hB.trans (b8.mono hB.size)
        replace hP := hP.later b8
        replace hv := (b8.block _ (blk_lt hv)).trans hv
        replace hw := (b8.block _ (blk_lt hw)).trans hw
        have cv0_8 : u8.cell? ⟨u3.heap.size, 0, none⟩ = some (.int .i64 (vk : Int)) := by rw [blk_cell hv]; rfl
        have cv1_8 : u8.cell? ⟨u3.heap.size, 1, none⟩ = some (.int .i64 (vn : Int)) := by rw [blk_cell hv]; rfl
        have cv2_8 : u8.cell? ⟨u3.heap.size, 2, none⟩ = some (.int .i64 (vm : Int)) := by rw [blk_cell hv]; rfl
        have cv3_8 : u8.cell? ⟨u3.heap.size, 3, none⟩ = some (.string ⟨vt.toArray⟩) := by rw [blk_cell hv]; rfl
        have lv_8 := blk_lt hv
        have cw0_8 : u8.cell? ⟨u5.heap.size, 0, none⟩ = some (.int .i64 (vk : Int)) := by rw [blk_cell hw]; rfl
        have cw1_8 : u8.cell? ⟨u5.heap.size, 1, none⟩ = some (.int .i64 (vn : Int)) := by rw [blk_cell hw]; rfl
        have cw2_8 : u8.cell? ⟨u5.heap.size, 2, none⟩ = some (.int .i64 (vm : Int)) := by rw [blk_cell hw]; rfl
        have cw3_8 : u8.cell? ⟨u5.heap.size, 3, none⟩ = some (.string ⟨vt.toArray⟩) := by rw [blk_cell hw]; rfl
        have lw_8 := blk_lt hw
        have cu0_8 : u8.cell? ⟨u7.heap.size, 0, none⟩ = some (.int .i64 (vk : Int)) := by rw [blk_cell hu]; rfl
        have cu1_8 : u8.cell? ⟨u7.heap.size, 1, none⟩ = some (.int .i64 (un : Int)) := by rw [blk_cell hu]; rfl
        have cu2_8 : u8.cell? ⟨u7.heap.size, 2, none⟩ = some (.int .i64 0) := by rw [blk_cell hu]; rfl
        have cu3_8 : u8.cell? ⟨u7.heap.size, 3, none⟩ = some (.string ⟨ut.toArray⟩) := by rw [blk_cell hu]; rfl
        have lu_8 := blk_lt hu
        rw [show ((vn : Int) - 1) = ((vn - 1 : Nat) : Int) from by omega]
        refine (unhide HSV _ bq (vn - 1) (n) _ hP (ht.later hB) (by omega) (hn64)).mono ?_
        rintro e u9 ⟨rfl, b9⟩
        replace hB := hB.trans (b9.mono hB.size)
        replace hP := hP.later b9
        replace hv := (b9.block _ (blk_lt hv)).trans hv
        replace hw := (b9.block _ (blk_lt hw)).trans hw
        have cv0_9 : u9.cell? ⟨u3.heap.size, 0, none⟩ = some (.int .i64 (vk : Int)) := by rw [blk_cell hv]; rfl
        have cv1_9 : u9.cell? ⟨u3.heap.size, 1, none⟩ = some (.int .i64 (vn : Int)) := by rw [blk_cell hv]; rfl
        have cv2_9 : u9.cell? ⟨u3.heap.size, 2, none⟩ = some (.int .i64 (vm : Int)) := by rw [blk_cell hv]; rfl
        have cv3_9 : u9.cell? ⟨u3.heap.size, 3, none⟩ = some (.string ⟨vt.toArray⟩) := by rw [blk_cell hv]; rfl
        have lv_9 := blk_lt hv
        have cw0_9 : u9.cell? ⟨u5.heap.size, 0, none⟩ = some (.int .i64 (vk : Int)) := by rw [blk_cell hw]; rfl
        have cw1_9 : u9.cell? ⟨u5.heap.size, 1, none⟩ = some (.int .i64 (vn : Int)) := by rw [blk_cell hw]; rfl
        have cw2_9 : u9.cell? ⟨u5.heap.size, 2, none⟩ = some (.int .i64 (vm : Int)) := by rw [blk_cell hw]; rfl
        have cw3_9 : u9.cell? ⟨u5.heap.size, 3, none⟩ = some (.string ⟨vt.toArray⟩) := by rw [blk_cell hw]; rfl
        have lw_9 := blk_lt hw
        have hW := unhide HE3 (vn - 1) (by omega) (by omega)
        generalize verdict q (vn - 1) n = W at *
        obtain ⟨xk, xn, xm, xt⟩ := W
        dsimp only at hW ⊢
        obtain ⟨hw1, hw2, hw3⟩ := hW
        subst hw1 hw2 hw3
        have hcast : ((vn - 1 : Nat) : Int) = (vn : Int) - 1 := by omega
        clear h1v
        have hO9 := only_setRow u9 (u5.heap.size) #[.int .i64 0, .int .i64 ((vn : Int) - 1), .int .i64 (xm : Int), .string ⟨([] : List UInt8).toArray⟩]
        have hPs := hP.setV hw hO9
        have hBs := below_setRow hB (show w.heap.size ≤ u5.heap.size by omega) #[.int .i64 0, .int .i64 ((vn : Int) - 1), .int .i64 (xm : Int), .string ⟨([] : List UInt8).toArray⟩]
        have hws := setRow_heap u9 (u5.heap.size) _ #[.int .i64 0, .int .i64 ((vn : Int) - 1), .int .i64 (xm : Int), .string ⟨([] : List UInt8).toArray⟩] _ _ hw
        have hvs := (hO9.block _ (blk_lt hv) hivw).trans hv
        have sv0 : (u9.setRow (u5.heap.size) #[.int .i64 0, .int .i64 ((vn : Int) - 1), .int .i64 (xm : Int), .string ⟨([] : List UInt8).toArray⟩]).cell? ⟨u3.heap.size, 0, none⟩ = some (.int .i64 (vk : Int)) := by rw [blk_cell hvs]; rfl
        have sv1 : (u9.setRow (u5.heap.size) #[.int .i64 0, .int .i64 ((vn : Int) - 1), .int .i64 (xm : Int), .string ⟨([] : List UInt8).toArray⟩]).cell? ⟨u3.heap.size, 1, none⟩ = some (.int .i64 (vn : Int)) := by rw [blk_cell hvs]; rfl
        have sv2 : (u9.setRow (u5.heap.size) #[.int .i64 0, .int .i64 ((vn : Int) - 1), .int .i64 (xm : Int), .string ⟨([] : List UInt8).toArray⟩]).cell? ⟨u3.heap.size, 2, none⟩ = some (.int .i64 (vm : Int)) := by rw [blk_cell hvs]; rfl
        have sv3 : (u9.setRow (u5.heap.size) #[.int .i64 0, .int .i64 ((vn : Int) - 1), .int .i64 (xm : Int), .string ⟨([] : List UInt8).toArray⟩]).cell? ⟨u3.heap.size, 3, none⟩ = some (.string ⟨vt.toArray⟩) := by rw [blk_cell hvs]; rfl
        have sw0 : (u9.setRow (u5.heap.size) #[.int .i64 0, .int .i64 ((vn : Int) - 1), .int .i64 (xm : Int), .string ⟨([] : List UInt8).toArray⟩]).cell? ⟨u5.heap.size, 0, none⟩ = some (.int .i64 0) := by rw [blk_cell hws]; rfl
        have sw1 : (u9.setRow (u5.heap.size) #[.int .i64 0, .int .i64 ((vn : Int) - 1), .int .i64 (xm : Int), .string ⟨([] : List UInt8).toArray⟩]).cell? ⟨u5.heap.size, 1, none⟩ = some (.int .i64 ((vn : Int) - 1)) := by rw [blk_cell hws]; rfl
        have sw2 : (u9.setRow (u5.heap.size) #[.int .i64 0, .int .i64 ((vn : Int) - 1), .int .i64 (xm : Int), .string ⟨([] : List UInt8).toArray⟩]).cell? ⟨u5.heap.size, 2, none⟩ = some (.int .i64 (xm : Int)) := by rw [blk_cell hws]; rfl
        have sw3 : (u9.setRow (u5.heap.size) #[.int .i64 0, .int .i64 ((vn : Int) - 1), .int .i64 (xm : Int), .string ⟨([] : List UInt8).toArray⟩]).cell? ⟨u5.heap.size, 3, none⟩ = some (.string ⟨([] : List UInt8).toArray⟩) := by rw [blk_cell hws]; rfl
        have ssz : (u9.setRow (u5.heap.size) #[.int .i64 0, .int .i64 ((vn : Int) - 1), .int .i64 (xm : Int), .string ⟨([] : List UInt8).toArray⟩]).heap.size = u9.heap.size := setRow_size _ _ _
        go_wp2_with (refine wpList_store_row rfl 31 _ _ rfl (u5.heap.size) _ rfl rfl 31 _ hw (by kernel_rfl) rfl (by simp [Value.oneCell']) ?_)
        generalize (u9.setRow (u5.heap.size) #[.int .i64 0, .int .i64 ((vn : Int) - 1), .int .i64 (xm : Int), .string ⟨([] : List UInt8).toArray⟩]) = u10 at *
        replace hP := hPs
        replace hB := hBs
        replace hw := hws
        replace hv := hvs
        clear hPs hBs hws hvs hO9 sv0 sv1 sv2 sv3 sw0 sw1 sw2 sw3
        have cv0_10 : u10.cell? ⟨u3.heap.size, 0, none⟩ = some (.int .i64 (vk : Int)) := by rw [blk_cell hv]; rfl
        have cv1_10 : u10.cell? ⟨u3.heap.size, 1, none⟩ = some (.int .i64 (vn : Int)) := by rw [blk_cell hv]; rfl
        have cv2_10 : u10.cell? ⟨u3.heap.size, 2, none⟩ = some (.int .i64 (vm : Int)) := by rw [blk_cell hv]; rfl
        have cv3_10 : u10.cell? ⟨u3.heap.size, 3, none⟩ = some (.string ⟨vt.toArray⟩) := by rw [blk_cell hv]; rfl
        have lv_10 := blk_lt hv
        have cw0_10 : u10.cell? ⟨u5.heap.size, 0, none⟩ = some (.int .i64 0) := by rw [blk_cell hw]; rfl
        have cw1_10 : u10.cell? ⟨u5.heap.size, 1, none⟩ = some (.int .i64 ((vn : Int) - 1)) := by rw [blk_cell hw]; rfl
        have cw2_10 : u10.cell? ⟨u5.heap.size, 2, none⟩ = some (.int .i64 (xm : Int)) := by rw [blk_cell hw]; rfl
        have cw3_10 : u10.cell? ⟨u5.heap.size, 3, none⟩ = some (.string ⟨([] : List UInt8).toArray⟩) := by rw [blk_cell hw]; rfl
        have lw_10 := blk_lt hw
        refine (kpick_eq a 600 _ (by decide) (by decide) ha1 ha2).mono ?_
        rintro e ux ⟨rfl, hux⟩
        subst hux
        have hr6 : pickK a 600 < 600 := pickK_lt a 600 (by decide)
        generalize pickK a 600 = r at *
        go_wp2_with fail
        rw [show (1 + (r : Int)) = ((1 + r : Nat) : Int) from by omega]
        refine (unhide HSV _ bq (1 + r) (n) _ hP (ht.later hB) (by omega) (hn64)).mono ?_
        rintro e u11 ⟨rfl, b11⟩
        replace hB := hB.trans (b11.mono hB.size)
        replace hP := hP.later b11
        replace hv := (b11.block _ (blk_lt hv)).trans hv
        replace hw := (b11.block _ (blk_lt hw)).trans hw
        have cv0_11 : u11.cell? ⟨u3.heap.size, 0, none⟩ = some (.int .i64 (vk : Int)) := by rw [blk_cell hv]; rfl
        have cv1_11 : u11.cell? ⟨u3.heap.size, 1, none⟩ = some (.int .i64 (vn : Int)) := by rw [blk_cell hv]; rfl
        have cv2_11 : u11.cell? ⟨u3.heap.size, 2, none⟩ = some (.int .i64 (vm : Int)) := by rw [blk_cell hv]; rfl
        have cv3_11 : u11.cell? ⟨u3.heap.size, 3, none⟩ = some (.string ⟨vt.toArray⟩) := by rw [blk_cell hv]; rfl
        have lv_11 := blk_lt hv
        have cw0_11 : u11.cell? ⟨u5.heap.size, 0, none⟩ = some (.int .i64 0) := by rw [blk_cell hw]; rfl
        have cw1_11 : u11.cell? ⟨u5.heap.size, 1, none⟩ = some (.int .i64 ((vn : Int) - 1)) := by rw [blk_cell hw]; rfl
        have cw2_11 : u11.cell? ⟨u5.heap.size, 2, none⟩ = some (.int .i64 (xm : Int)) := by rw [blk_cell hw]; rfl
        have cw3_11 : u11.cell? ⟨u5.heap.size, 3, none⟩ = some (.string ⟨([] : List UInt8).toArray⟩) := by rw [blk_cell hw]; rfl
        have lw_11 := blk_lt hw
        rcases Nat.lt_or_ge (1 + r) vn with hkv | hkv
        · have hW := unhide HE3 (1 + r) (by omega) hkv
          generalize verdict q (1 + r) n = W at *
          obtain ⟨wk, wn, wm, wt⟩ := W
          dsimp only at hW ⊢
          obtain ⟨hw1, hw2, hw3⟩ := hW
          subst hw1 hw2 hw3
          have hcast2 : ((1 + r : Nat) : Int) = 1 + (r : Int) := by omega
          have f3 : decide (((1 + r : Nat) : Int) < (vn : Int)) = true := decide_eq_true (by omega)
          have f3n : decide (1 + r < vn) = true := decide_eq_true hkv
          have f3m : decide (1 + (r : Int) < (vn : Int)) = true := decide_eq_true (by omega)
          clear hkv
          have hO9 := only_setRow u11 (u5.heap.size) #[.int .i64 0, .int .i64 (1 + (r : Int)), .int .i64 (wm : Int), .string ⟨([] : List UInt8).toArray⟩]
          have hPs := hP.setV hw hO9
          have hBs := below_setRow hB (show w.heap.size ≤ u5.heap.size by omega) #[.int .i64 0, .int .i64 (1 + (r : Int)), .int .i64 (wm : Int), .string ⟨([] : List UInt8).toArray⟩]
          have hws := setRow_heap u11 (u5.heap.size) _ #[.int .i64 0, .int .i64 (1 + (r : Int)), .int .i64 (wm : Int), .string ⟨([] : List UInt8).toArray⟩] _ _ hw
          have hvs := (hO9.block _ (blk_lt hv) hivw).trans hv
          have sv0 : (u11.setRow (u5.heap.size) #[.int .i64 0, .int .i64 (1 + (r : Int)), .int .i64 (wm : Int), .string ⟨([] : List UInt8).toArray⟩]).cell? ⟨u3.heap.size, 0, none⟩ = some (.int .i64 (vk : Int)) := by rw [blk_cell hvs]; rfl
          have sv1 : (u11.setRow (u5.heap.size) #[.int .i64 0, .int .i64 (1 + (r : Int)), .int .i64 (wm : Int), .string ⟨([] : List UInt8).toArray⟩]).cell? ⟨u3.heap.size, 1, none⟩ = some (.int .i64 (vn : Int)) := by rw [blk_cell hvs]; rfl
          have sv2 : (u11.setRow (u5.heap.size) #[.int .i64 0, .int .i64 (1 + (r : Int)), .int .i64 (wm : Int), .string ⟨([] : List UInt8).toArray⟩]).cell? ⟨u3.heap.size, 2, none⟩ = some (.int .i64 (vm : Int)) := by rw [blk_cell hvs]; rfl
          have sv3 : (u11.setRow (u5.heap.size) #[.int .i64 0, .int .i64 (1 + (r : Int)), .int .i64 (wm : Int), .string ⟨([] : List UInt8).toArray⟩]).cell? ⟨u3.heap.size, 3, none⟩ = some (.string ⟨vt.toArray⟩) := by rw [blk_cell hvs]; rfl
          have sw0 : (u11.setRow (u5.heap.size) #[.int .i64 0, .int .i64 (1 + (r : Int)), .int .i64 (wm : Int), .string ⟨([] : List UInt8).toArray⟩]).cell? ⟨u5.heap.size, 0, none⟩ = some (.int .i64 0) := by rw [blk_cell hws]; rfl
          have sw1 : (u11.setRow (u5.heap.size) #[.int .i64 0, .int .i64 (1 + (r : Int)), .int .i64 (wm : Int), .string ⟨([] : List UInt8).toArray⟩]).cell? ⟨u5.heap.size, 1, none⟩ = some (.int .i64 (1 + (r : Int))) := by rw [blk_cell hws]; rfl
          have sw2 : (u11.setRow (u5.heap.size) #[.int .i64 0, .int .i64 (1 + (r : Int)), .int .i64 (wm : Int), .string ⟨([] : List UInt8).toArray⟩]).cell? ⟨u5.heap.size, 2, none⟩ = some (.int .i64 (wm : Int)) := by rw [blk_cell hws]; rfl
          have sw3 : (u11.setRow (u5.heap.size) #[.int .i64 0, .int .i64 (1 + (r : Int)), .int .i64 (wm : Int), .string ⟨([] : List UInt8).toArray⟩]).cell? ⟨u5.heap.size, 3, none⟩ = some (.string ⟨([] : List UInt8).toArray⟩) := by rw [blk_cell hws]; rfl
          have ssz : (u11.setRow (u5.heap.size) #[.int .i64 0, .int .i64 (1 + (r : Int)), .int .i64 (wm : Int), .string ⟨([] : List UInt8).toArray⟩]).heap.size = u11.heap.size := setRow_size _ _ _
          go_wp2_with (refine wpList_store_row rfl 31 _ _ rfl (u5.heap.size) _ rfl rfl 31 _ hw (by kernel_rfl) rfl (by simp [Value.oneCell']) ?_)
          generalize (u11.setRow (u5.heap.size) #[.int .i64 0, .int .i64 (1 + (r : Int)), .int .i64 (wm : Int), .string ⟨([] : List UInt8).toArray⟩]) = u12 at *
          replace hP := hPs
          replace hB := hBs
          replace hw := hws
          replace hv := hvs
          clear hPs hBs hws hvs hO9 sv0 sv1 sv2 sv3 sw0 sw1 sw2 sw3
          have cv0_12 : u12.cell? ⟨u3.heap.size, 0, none⟩ = some (.int .i64 (vk : Int)) := by rw [blk_cell hv]; rfl
          have cv1_12 : u12.cell? ⟨u3.heap.size, 1, none⟩ = some (.int .i64 (vn : Int)) := by rw [blk_cell hv]; rfl
          have cv2_12 : u12.cell? ⟨u3.heap.size, 2, none⟩ = some (.int .i64 (vm : Int)) := by rw [blk_cell hv]; rfl
          have cv3_12 : u12.cell? ⟨u3.heap.size, 3, none⟩ = some (.string ⟨vt.toArray⟩) := by rw [blk_cell hv]; rfl
          have lv_12 := blk_lt hv
          have cw0_12 : u12.cell? ⟨u5.heap.size, 0, none⟩ = some (.int .i64 0) := by rw [blk_cell hw]; rfl
          have cw1_12 : u12.cell? ⟨u5.heap.size, 1, none⟩ = some (.int .i64 (1 + (r : Int))) := by rw [blk_cell hw]; rfl
          have cw2_12 : u12.cell? ⟨u5.heap.size, 2, none⟩ = some (.int .i64 (wm : Int)) := by rw [blk_cell hw]; rfl
          have cw3_12 : u12.cell? ⟨u5.heap.size, 3, none⟩ = some (.string ⟨([] : List UInt8).toArray⟩) := by rw [blk_cell hw]; rfl
          have lw_12 := blk_lt hw
          refine (dsolve_bad bq (-1) ((n : Int)) _ (Or.inl (by decide))).mono ?_
          rintro e u13 ⟨rfl, b13⟩
          replace hB := hB.trans (b13.mono hB.size)
          replace hP := hP.later b13
          replace hv := (b13.block _ (blk_lt hv)).trans hv
          replace hw := (b13.block _ (blk_lt hw)).trans hw
          have cv0_13 : u13.cell? ⟨u3.heap.size, 0, none⟩ = some (.int .i64 (vk : Int)) := by rw [blk_cell hv]; rfl
          have cv1_13 : u13.cell? ⟨u3.heap.size, 1, none⟩ = some (.int .i64 (vn : Int)) := by rw [blk_cell hv]; rfl
          have cv2_13 : u13.cell? ⟨u3.heap.size, 2, none⟩ = some (.int .i64 (vm : Int)) := by rw [blk_cell hv]; rfl
          have cv3_13 : u13.cell? ⟨u3.heap.size, 3, none⟩ = some (.string ⟨vt.toArray⟩) := by rw [blk_cell hv]; rfl
          have lv_13 := blk_lt hv
          have cw0_13 : u13.cell? ⟨u5.heap.size, 0, none⟩ = some (.int .i64 0) := by rw [blk_cell hw]; rfl
          have cw1_13 : u13.cell? ⟨u5.heap.size, 1, none⟩ = some (.int .i64 (1 + (r : Int))) := by rw [blk_cell hw]; rfl
          have cw2_13 : u13.cell? ⟨u5.heap.size, 2, none⟩ = some (.int .i64 (wm : Int)) := by rw [blk_cell hw]; rfl
          have cw3_13 : u13.cell? ⟨u5.heap.size, 3, none⟩ = some (.string ⟨([] : List UInt8).toArray⟩) := by rw [blk_cell hw]; rfl
          have lw_13 := blk_lt hw
          go_wp2_with fail
          refine (dsolve_bad bq (0) (65) _ (Or.inr (Or.inr (Or.inr (by decide))))).mono ?_
          rintro e u14 ⟨rfl, b14⟩
          replace hB := hB.trans (b14.mono hB.size)
          replace hP := hP.later b14
          replace hv := (b14.block _ (blk_lt hv)).trans hv
          replace hw := (b14.block _ (blk_lt hw)).trans hw
          have cv0_14 : u14.cell? ⟨u3.heap.size, 0, none⟩ = some (.int .i64 (vk : Int)) := by rw [blk_cell hv]; rfl
          have cv1_14 : u14.cell? ⟨u3.heap.size, 1, none⟩ = some (.int .i64 (vn : Int)) := by rw [blk_cell hv]; rfl
          have cv2_14 : u14.cell? ⟨u3.heap.size, 2, none⟩ = some (.int .i64 (vm : Int)) := by rw [blk_cell hv]; rfl
          have cv3_14 : u14.cell? ⟨u3.heap.size, 3, none⟩ = some (.string ⟨vt.toArray⟩) := by rw [blk_cell hv]; rfl
          have lv_14 := blk_lt hv
          have cw0_14 : u14.cell? ⟨u5.heap.size, 0, none⟩ = some (.int .i64 0) := by rw [blk_cell hw]; rfl
          have cw1_14 : u14.cell? ⟨u5.heap.size, 1, none⟩ = some (.int .i64 (1 + (r : Int))) := by rw [blk_cell hw]; rfl
          have cw2_14 : u14.cell? ⟨u5.heap.size, 2, none⟩ = some (.int .i64 (wm : Int)) := by rw [blk_cell hw]; rfl
          have cw3_14 : u14.cell? ⟨u5.heap.size, 3, none⟩ = some (.string ⟨([] : List UInt8).toArray⟩) := by rw [blk_cell hw]; rfl
          have lw_14 := blk_lt hw
          go_wp2_with fail
          go_ret
          exact ⟨rfl, hB.alloc hB.size _⟩
        · rw [unhide HE4 (1 + r) (by omega) hkv]
          have f3 : decide (((1 + r : Nat) : Int) < (vn : Int)) = false := decide_eq_false (by omega)
          have f3n : decide (1 + r < vn) = false := decide_eq_false (by omega)
          have f3m : decide (1 + (r : Int) < (vn : Int)) = false := decide_eq_false (by omega)
          clear hkv
          have hO9 := only_setRow u11 (u5.heap.size) #[.int .i64 (vk : Int), .int .i64 (vn : Int), .int .i64 (vm : Int), .string ⟨vt.toArray⟩]
          have hPs := hP.setV hw hO9
          have hBs := below_setRow hB (show w.heap.size ≤ u5.heap.size by omega) #[.int .i64 (vk : Int), .int .i64 (vn : Int), .int .i64 (vm : Int), .string ⟨vt.toArray⟩]
          have hws := setRow_heap u11 (u5.heap.size) _ #[.int .i64 (vk : Int), .int .i64 (vn : Int), .int .i64 (vm : Int), .string ⟨vt.toArray⟩] _ _ hw
          have hvs := (hO9.block _ (blk_lt hv) hivw).trans hv
          have sv0 : (u11.setRow (u5.heap.size) #[.int .i64 (vk : Int), .int .i64 (vn : Int), .int .i64 (vm : Int), .string ⟨vt.toArray⟩]).cell? ⟨u3.heap.size, 0, none⟩ = some (.int .i64 (vk : Int)) := by rw [blk_cell hvs]; rfl
          have sv1 : (u11.setRow (u5.heap.size) #[.int .i64 (vk : Int), .int .i64 (vn : Int), .int .i64 (vm : Int), .string ⟨vt.toArray⟩]).cell? ⟨u3.heap.size, 1, none⟩ = some (.int .i64 (vn : Int)) := by rw [blk_cell hvs]; rfl
          have sv2 : (u11.setRow (u5.heap.size) #[.int .i64 (vk : Int), .int .i64 (vn : Int), .int .i64 (vm : Int), .string ⟨vt.toArray⟩]).cell? ⟨u3.heap.size, 2, none⟩ = some (.int .i64 (vm : Int)) := by rw [blk_cell hvs]; rfl
          have sv3 : (u11.setRow (u5.heap.size) #[.int .i64 (vk : Int), .int .i64 (vn : Int), .int .i64 (vm : Int), .string ⟨vt.toArray⟩]).cell? ⟨u3.heap.size, 3, none⟩ = some (.string ⟨vt.toArray⟩) := by rw [blk_cell hvs]; rfl
          have sw0 : (u11.setRow (u5.heap.size) #[.int .i64 (vk : Int), .int .i64 (vn : Int), .int .i64 (vm : Int), .string ⟨vt.toArray⟩]).cell? ⟨u5.heap.size, 0, none⟩ = some (.int .i64 (vk : Int)) := by rw [blk_cell hws]; rfl
          have sw1 : (u11.setRow (u5.heap.size) #[.int .i64 (vk : Int), .int .i64 (vn : Int), .int .i64 (vm : Int), .string ⟨vt.toArray⟩]).cell? ⟨u5.heap.size, 1, none⟩ = some (.int .i64 (vn : Int)) := by rw [blk_cell hws]; rfl
          have sw2 : (u11.setRow (u5.heap.size) #[.int .i64 (vk : Int), .int .i64 (vn : Int), .int .i64 (vm : Int), .string ⟨vt.toArray⟩]).cell? ⟨u5.heap.size, 2, none⟩ = some (.int .i64 (vm : Int)) := by rw [blk_cell hws]; rfl
          have sw3 : (u11.setRow (u5.heap.size) #[.int .i64 (vk : Int), .int .i64 (vn : Int), .int .i64 (vm : Int), .string ⟨vt.toArray⟩]).cell? ⟨u5.heap.size, 3, none⟩ = some (.string ⟨vt.toArray⟩) := by rw [blk_cell hws]; rfl
          have ssz : (u11.setRow (u5.heap.size) #[.int .i64 (vk : Int), .int .i64 (vn : Int), .int .i64 (vm : Int), .string ⟨vt.toArray⟩]).heap.size = u11.heap.size := setRow_size _ _ _
          go_wp2_with (refine wpList_store_row rfl 31 _ _ rfl (u5.heap.size) _ rfl rfl 31 _ hw (by kernel_rfl) rfl (by simp [Value.oneCell']) ?_)
          generalize (u11.setRow (u5.heap.size) #[.int .i64 (vk : Int), .int .i64 (vn : Int), .int .i64 (vm : Int), .string ⟨vt.toArray⟩]) = u12 at *
          replace hP := hPs
          replace hB := hBs
          replace hw := hws
          replace hv := hvs
          clear hPs hBs hws hvs hO9 sv0 sv1 sv2 sv3 sw0 sw1 sw2 sw3
          have cv0_12 : u12.cell? ⟨u3.heap.size, 0, none⟩ = some (.int .i64 (vk : Int)) := by rw [blk_cell hv]; rfl
          have cv1_12 : u12.cell? ⟨u3.heap.size, 1, none⟩ = some (.int .i64 (vn : Int)) := by rw [blk_cell hv]; rfl
          have cv2_12 : u12.cell? ⟨u3.heap.size, 2, none⟩ = some (.int .i64 (vm : Int)) := by rw [blk_cell hv]; rfl
          have cv3_12 : u12.cell? ⟨u3.heap.size, 3, none⟩ = some (.string ⟨vt.toArray⟩) := by rw [blk_cell hv]; rfl
          have lv_12 := blk_lt hv
          have cw0_12 : u12.cell? ⟨u5.heap.size, 0, none⟩ = some (.int .i64 (vk : Int)) := by rw [blk_cell hw]; rfl
          have cw1_12 : u12.cell? ⟨u5.heap.size, 1, none⟩ = some (.int .i64 (vn : Int)) := by rw [blk_cell hw]; rfl
          have cw2_12 : u12.cell? ⟨u5.heap.size, 2, none⟩ = some (.int .i64 (vm : Int)) := by rw [blk_cell hw]; rfl
          have cw3_12 : u12.cell? ⟨u5.heap.size, 3, none⟩ = some (.string ⟨vt.toArray⟩) := by rw [blk_cell hw]; rfl
          have lw_12 := blk_lt hw
          refine (dsolve_bad bq (-1) ((n : Int)) _ (Or.inl (by decide))).mono ?_
          rintro e u13 ⟨rfl, b13⟩
          replace hB := hB.trans (b13.mono hB.size)
          replace hP := hP.later b13
          replace hv := (b13.block _ (blk_lt hv)).trans hv
          replace hw := (b13.block _ (blk_lt hw)).trans hw
          have cv0_13 : u13.cell? ⟨u3.heap.size, 0, none⟩ = some (.int .i64 (vk : Int)) := by rw [blk_cell hv]; rfl
          have cv1_13 : u13.cell? ⟨u3.heap.size, 1, none⟩ = some (.int .i64 (vn : Int)) := by rw [blk_cell hv]; rfl
          have cv2_13 : u13.cell? ⟨u3.heap.size, 2, none⟩ = some (.int .i64 (vm : Int)) := by rw [blk_cell hv]; rfl
          have cv3_13 : u13.cell? ⟨u3.heap.size, 3, none⟩ = some (.string ⟨vt.toArray⟩) := by rw [blk_cell hv]; rfl
          have lv_13 := blk_lt hv
          have cw0_13 : u13.cell? ⟨u5.heap.size, 0, none⟩ = some (.int .i64 (vk : Int)) := by rw [blk_cell hw]; rfl
          have cw1_13 : u13.cell? ⟨u5.heap.size, 1, none⟩ = some (.int .i64 (vn : Int)) := by rw [blk_cell hw]; rfl
          have cw2_13 : u13.cell? ⟨u5.heap.size, 2, none⟩ = some (.int .i64 (vm : Int)) := by rw [blk_cell hw]; rfl
          have cw3_13 : u13.cell? ⟨u5.heap.size, 3, none⟩ = some (.string ⟨vt.toArray⟩) := by rw [blk_cell hw]; rfl
          have lw_13 := blk_lt hw
          go_wp2_with fail
          refine (dsolve_bad bq (0) (65) _ (Or.inr (Or.inr (Or.inr (by decide))))).mono ?_
          rintro e u14 ⟨rfl, b14⟩
          replace hB := hB.trans (b14.mono hB.size)
          replace hP := hP.later b14
          replace hv := (b14.block _ (blk_lt hv)).trans hv
          replace hw := (b14.block _ (blk_lt hw)).trans hw
          have cv0_14 : u14.cell? ⟨u3.heap.size, 0, none⟩ = some (.int .i64 (vk : Int)) := by rw [blk_cell hv]; rfl
          have cv1_14 : u14.cell? ⟨u3.heap.size, 1, none⟩ = some (.int .i64 (vn : Int)) := by rw [blk_cell hv]; rfl
          have cv2_14 : u14.cell? ⟨u3.heap.size, 2, none⟩ = some (.int .i64 (vm : Int)) := by rw [blk_cell hv]; rfl
          have cv3_14 : u14.cell? ⟨u3.heap.size, 3, none⟩ = some (.string ⟨vt.toArray⟩) := by rw [blk_cell hv]; rfl
          have lv_14 := blk_lt hv
          have cw0_14 : u14.cell? ⟨u5.heap.size, 0, none⟩ = some (.int .i64 (vk : Int)) := by rw [blk_cell hw]; rfl
          have cw1_14 : u14.cell? ⟨u5.heap.size, 1, none⟩ = some (.int .i64 (vn : Int)) := by rw [blk_cell hw]; rfl
          have cw2_14 : u14.cell? ⟨u5.heap.size, 2, none⟩ = some (.int .i64 (vm : Int)) := by rw [blk_cell hw]; rfl
          have cw3_14 : u14.cell? ⟨u5.heap.size, 3, none⟩ = some (.string ⟨vt.toArray⟩) := by rw [blk_cell hw]; rfl
          have lw_14 := blk_lt hw
          go_wp2_with fail
          go_ret
          exact ⟨rfl, hB.alloc hB.size _⟩
      · have e3 : decide ((1 : Int) < (vn : Int)) = false := decide_eq_false (by omega)
        have e3n : decide (1 < vn) = false := decide_eq_false (by omega)
        clear h1v
        go_wp2_with fail
        have b8 : Below u7.heap.size u7 (u7.alloc (.cells #[.int .i64 (vk : Int), .int .i64 (un : Int), .int .i64 0, .string ⟨ut.toArray⟩] 31)) := (Below.refl _ _).alloc (Nat.le_refl _) _
        have hu := heap_alloc_new u7 (.cells #[.int .i64 (vk : Int), .int .i64 (un : Int), .int .i64 0, .string ⟨ut.toArray⟩] 31)
        generalize (u7.alloc (.cells #[.int .i64 (vk : Int), .int .i64 (un : Int), .int .i64 0, .string ⟨ut.toArray⟩] 31)) = u8 at *
        replace hB := hB.trans (b8.mono hB.size)
        replace hP := hP.later b8
        replace hv := (b8.block _ (blk_lt hv)).trans hv
        replace hw := (b8.block _ (blk_lt hw)).trans hw
        have cv0_8 : u8.cell? ⟨u3.heap.size, 0, none⟩ = some (.int .i64 (vk : Int)) := by rw [blk_cell hv]; rfl
        have cv1_8 : u8.cell? ⟨u3.heap.size, 1, none⟩ = some (.int .i64 (vn : Int)) := by rw [blk_cell hv]; rfl
        have cv2_8 : u8.cell? ⟨u3.heap.size, 2, none⟩ = some (.int .i64 (vm : Int)) := by rw [blk_cell hv]; rfl
        have cv3_8 : u8.cell? ⟨u3.heap.size, 3, none⟩ = some (.string ⟨vt.toArray⟩) := by rw [blk_cell hv]; rfl
        have lv_8 := blk_lt hv
        have cw0_8 : u8.cell? ⟨u5.heap.size, 0, none⟩ = some (.int .i64 (vk : Int)) := by rw [blk_cell hw]; rfl
        have cw1_8 : u8.cell? ⟨u5.heap.size, 1, none⟩ = some (.int .i64 (vn : Int)) := by rw [blk_cell hw]; rfl
        have cw2_8 : u8.cell? ⟨u5.heap.size, 2, none⟩ = some (.int .i64 (vm : Int)) := by rw [blk_cell hw]; rfl
        have cw3_8 : u8.cell? ⟨u5.heap.size, 3, none⟩ = some (.string ⟨vt.toArray⟩) := by rw [blk_cell hw]; rfl
        have lw_8 := blk_lt hw
        have cu0_8 : u8.cell? ⟨u7.heap.size, 0, none⟩ = some (.int .i64 (vk : Int)) := by rw [blk_cell hu]; rfl
        have cu1_8 : u8.cell? ⟨u7.heap.size, 1, none⟩ = some (.int .i64 (un : Int)) := by rw [blk_cell hu]; rfl
        have cu2_8 : u8.cell? ⟨u7.heap.size, 2, none⟩ = some (.int .i64 0) := by rw [blk_cell hu]; rfl
        have cu3_8 : u8.cell? ⟨u7.heap.size, 3, none⟩ = some (.string ⟨ut.toArray⟩) := by rw [blk_cell hu]; rfl
        have lu_8 := blk_lt hu
        refine (kpick_eq a 600 _ (by decide) (by decide) ha1 ha2).mono ?_
        rintro e ux ⟨rfl, hux⟩
        subst hux
        have hr6 : pickK a 600 < 600 := pickK_lt a 600 (by decide)
        generalize pickK a 600 = r at *
        go_wp2_with fail
        rw [show (1 + (r : Int)) = ((1 + r : Nat) : Int) from by omega]
        refine (unhide HSV _ bq (1 + r) (n) _ hP (ht.later hB) (by omega) (hn64)).mono ?_
        rintro e u9 ⟨rfl, b9⟩
        replace hB := hB.trans (b9.mono hB.size)
        replace hP := hP.later b9
        replace hv := (b9.block _ (blk_lt hv)).trans hv
        replace hw := (b9.block _ (blk_lt hw)).trans hw
        have cv0_9 : u9.cell? ⟨u3.heap.size, 0, none⟩ = some (.int .i64 (vk : Int)) := by rw [blk_cell hv]; rfl
        have cv1_9 : u9.cell? ⟨u3.heap.size, 1, none⟩ = some (.int .i64 (vn : Int)) := by rw [blk_cell hv]; rfl
        have cv2_9 : u9.cell? ⟨u3.heap.size, 2, none⟩ = some (.int .i64 (vm : Int)) := by rw [blk_cell hv]; rfl
        have cv3_9 : u9.cell? ⟨u3.heap.size, 3, none⟩ = some (.string ⟨vt.toArray⟩) := by rw [blk_cell hv]; rfl
        have lv_9 := blk_lt hv
        have cw0_9 : u9.cell? ⟨u5.heap.size, 0, none⟩ = some (.int .i64 (vk : Int)) := by rw [blk_cell hw]; rfl
        have cw1_9 : u9.cell? ⟨u5.heap.size, 1, none⟩ = some (.int .i64 (vn : Int)) := by rw [blk_cell hw]; rfl
        have cw2_9 : u9.cell? ⟨u5.heap.size, 2, none⟩ = some (.int .i64 (vm : Int)) := by rw [blk_cell hw]; rfl
        have cw3_9 : u9.cell? ⟨u5.heap.size, 3, none⟩ = some (.string ⟨vt.toArray⟩) := by rw [blk_cell hw]; rfl
        have lw_9 := blk_lt hw
        rcases Nat.lt_or_ge (1 + r) vn with hkv | hkv
        · have hW := unhide HE3 (1 + r) (by omega) hkv
          generalize verdict q (1 + r) n = W at *
          obtain ⟨wk, wn, wm, wt⟩ := W
          dsimp only at hW ⊢
          obtain ⟨hw1, hw2, hw3⟩ := hW
          subst hw1 hw2 hw3
          have hcast2 : ((1 + r : Nat) : Int) = 1 + (r : Int) := by omega
          have f3 : decide (((1 + r : Nat) : Int) < (vn : Int)) = true := decide_eq_true (by omega)
          have f3n : decide (1 + r < vn) = true := decide_eq_true hkv
          have f3m : decide (1 + (r : Int) < (vn : Int)) = true := decide_eq_true (by omega)
          clear hkv
          have hO9 := only_setRow u9 (u5.heap.size) #[.int .i64 0, .int .i64 (1 + (r : Int)), .int .i64 (wm : Int), .string ⟨([] : List UInt8).toArray⟩]
          have hPs := hP.setV hw hO9
          have hBs := below_setRow hB (show w.heap.size ≤ u5.heap.size by omega) #[.int .i64 0, .int .i64 (1 + (r : Int)), .int .i64 (wm : Int), .string ⟨([] : List UInt8).toArray⟩]
          have hws := setRow_heap u9 (u5.heap.size) _ #[.int .i64 0, .int .i64 (1 + (r : Int)), .int .i64 (wm : Int), .string ⟨([] : List UInt8).toArray⟩] _ _ hw
          have hvs := (hO9.block _ (blk_lt hv) hivw).trans hv
          have sv0 : (u9.setRow (u5.heap.size) #[.int .i64 0, .int .i64 (1 + (r : Int)), .int .i64 (wm : Int), .string ⟨([] : List UInt8).toArray⟩]).cell? ⟨u3.heap.size, 0, none⟩ = some (.int .i64 (vk : Int)) := by rw [blk_cell hvs]; rfl
          have sv1 : (u9.setRow (u5.heap.size) #[.int .i64 0, .int .i64 (1 + (r : Int)), .int .i64 (wm : Int), .string ⟨([] : List UInt8).toArray⟩]).cell? ⟨u3.heap.size, 1, none⟩ = some (.int .i64 (vn : Int)) := by rw [blk_cell hvs]; rfl
          have sv2 : (u9.setRow (u5.heap.size) #[.int .i64 0, .int .i64 (1 + (r : Int)), .int .i64 (wm : Int), .string ⟨([] : List UInt8).toArray⟩]).cell? ⟨u3.heap.size, 2, none⟩ = some (.int .i64 (vm : Int)) := by rw [blk_cell hvs]; rfl
          have sv3 : (u9.setRow (u5.heap.size) #[.int .i64 0, .int .i64 (1 + (r : Int)), .int .i64 (wm : Int), .string ⟨([] : List UInt8).toArray⟩]).cell? ⟨u3.heap.size, 3, none⟩ = some (.string ⟨vt.toArray⟩) := by rw [blk_cell hvs]; rfl
          have sw0 : (u9.setRow (u5.heap.size) #[.int .i64 0, .int .i64 (1 + (r : Int)), .int .i64 (wm : Int), .string ⟨([] : List UInt8).toArray⟩]).cell? ⟨u5.heap.size, 0, none⟩ = some (.int .i64 0) := by rw [blk_cell hws]; rfl
          have sw1 : (u9.setRow (u5.heap.size) #[.int .i64 0, .int .i64 (1 + (r : Int)), .int .i64 (wm : Int), .string ⟨([] : List UInt8).toArray⟩]).cell? ⟨u5.heap.size, 1, none⟩ = some (.int .i64 (1 + (r : Int))) := by rw [blk_cell hws]; rfl
          have sw2 : (u9.setRow (u5.heap.size) #[.int .i64 0, .int .i64 (1 + (r : Int)), .int .i64 (wm : Int), .string ⟨([] : List UInt8).toArray⟩]).cell? ⟨u5.heap.size, 2, none⟩ = some (.int .i64 (wm : Int)) := by rw [blk_cell hws]; rfl
          have sw3 : (u9.setRow (u5.heap.size) #[.int .i64 0, .int .i64 (1 + (r : Int)), .int .i64 (wm : Int), .string ⟨([] : List UInt8).toArray⟩]).cell? ⟨u5.heap.size, 3, none⟩ = some (.string ⟨([] : List UInt8).toArray⟩) := by rw [blk_cell hws]; rfl
          have ssz : (u9.setRow (u5.heap.size) #[.int .i64 0, .int .i64 (1 + (r : Int)), .int .i64 (wm : Int), .string ⟨([] : List UInt8).toArray⟩]).heap.size = u9.heap.size := setRow_size _ _ _
          go_wp2_with (refine wpList_store_row rfl 31 _ _ rfl (u5.heap.size) _ rfl rfl 31 _ hw (by kernel_rfl) rfl (by simp [Value.oneCell']) ?_)
          generalize (u9.setRow (u5.heap.size) #[.int .i64 0, .int .i64 (1 + (r : Int)), .int .i64 (wm : Int), .string ⟨([] : List UInt8).toArray⟩]) = u10 at *
          replace hP := hPs
          replace hB := hBs
          replace hw := hws
          replace hv := hvs
          clear hPs hBs hws hvs hO9 sv0 sv1 sv2 sv3 sw0 sw1 sw2 sw3
          have cv0_10 : u10.cell? ⟨u3.heap.size, 0, none⟩ = some (.int .i64 (vk : Int)) := by rw [blk_cell hv]; rfl
          have cv1_10 : u10.cell? ⟨u3.heap.size, 1, none⟩ = some (.int .i64 (vn : Int)) := by rw [blk_cell hv]; rfl
          have cv2_10 : u10.cell? ⟨u3.heap.size, 2, none⟩ = some (.int .i64 (vm : Int)) := by rw [blk_cell hv]; rfl
          have cv3_10 : u10.cell? ⟨u3.heap.size, 3, none⟩ = some (.string ⟨vt.toArray⟩) := by rw [blk_cell hv]; rfl
          have lv_10 := blk_lt hv
          have cw0_10 : u10.cell? ⟨u5.heap.size, 0, none⟩ = some (.int .i64 0) := by rw [blk_cell hw]; rfl
          have cw1_10 : u10.cell? ⟨u5.heap.size, 1, none⟩ = some (.int .i64 (1 + (r : Int))) := by rw [blk_cell hw]; rfl
          have cw2_10 : u10.cell? ⟨u5.heap.size, 2, none⟩ = some (.int .i64 (wm : Int)) := by rw [blk_cell hw]; rfl
          have cw3_10 : u10.cell? ⟨u5.heap.size, 3, none⟩ = some (.string ⟨([] : List UInt8).toArray⟩) := by rw [blk_cell hw]; rfl
          have lw_10 := blk_lt hw
          refine (dsolve_bad bq (-1) ((n : Int)) _ (Or.inl (by decide))).mono ?_
          rintro e u11 ⟨rfl, b11⟩
          replace hB := hB.trans (b11.mono hB.size)
          replace hP := hP.later b11
          replace hv := (b11.block _ (blk_lt hv)).trans hv
          replace hw := (b11.block _ (blk_lt hw)).trans hw
          have cv0_11 : u11.cell? ⟨u3.heap.size, 0, none⟩ = some (.int .i64 (vk : Int)) := by rw [blk_cell hv]; rfl
          have cv1_11 : u11.cell? ⟨u3.heap.size, 1, none⟩ = some (.int .i64 (vn : Int)) := by rw [blk_cell hv]; rfl
          have cv2_11 : u11.cell? ⟨u3.heap.size, 2, none⟩ = some (.int .i64 (vm : Int)) := by rw [blk_cell hv]; rfl
          have cv3_11 : u11.cell? ⟨u3.heap.size, 3, none⟩ = some (.string ⟨vt.toArray⟩) := by rw [blk_cell hv]; rfl
          have lv_11 := blk_lt hv
          have cw0_11 : u11.cell? ⟨u5.heap.size, 0, none⟩ = some (.int .i64 0) := by rw [blk_cell hw]; rfl
          have cw1_11 : u11.cell? ⟨u5.heap.size, 1, none⟩ = some (.int .i64 (1 + (r : Int))) := by rw [blk_cell hw]; rfl
          have cw2_11 : u11.cell? ⟨u5.heap.size, 2, none⟩ = some (.int .i64 (wm : Int)) := by rw [blk_cell hw]; rfl
          have cw3_11 : u11.cell? ⟨u5.heap.size, 3, none⟩ = some (.string ⟨([] : List UInt8).toArray⟩) := by rw [blk_cell hw]; rfl
          have lw_11 := blk_lt hw
          go_wp2_with fail
          refine (dsolve_bad bq (0) (65) _ (Or.inr (Or.inr (Or.inr (by decide))))).mono ?_
          rintro e u12 ⟨rfl, b12⟩
          replace hB := hB.trans (b12.mono hB.size)
          replace hP := hP.later b12
          replace hv := (b12.block _ (blk_lt hv)).trans hv
          replace hw := (b12.block _ (blk_lt hw)).trans hw
          have cv0_12 : u12.cell? ⟨u3.heap.size, 0, none⟩ = some (.int .i64 (vk : Int)) := by rw [blk_cell hv]; rfl
          have cv1_12 : u12.cell? ⟨u3.heap.size, 1, none⟩ = some (.int .i64 (vn : Int)) := by rw [blk_cell hv]; rfl
          have cv2_12 : u12.cell? ⟨u3.heap.size, 2, none⟩ = some (.int .i64 (vm : Int)) := by rw [blk_cell hv]; rfl
          have cv3_12 : u12.cell? ⟨u3.heap.size, 3, none⟩ = some (.string ⟨vt.toArray⟩) := by rw [blk_cell hv]; rfl
          have lv_12 := blk_lt hv
          have cw0_12 : u12.cell? ⟨u5.heap.size, 0, none⟩ = some (.int .i64 0) := by rw [blk_cell hw]; rfl
          have cw1_12 : u12.cell? ⟨u5.heap.size, 1, none⟩ = some (.int .i64 (1 + (r : Int))) := by rw [blk_cell hw]; rfl
          have cw2_12 : u12.cell? ⟨u5.heap.size, 2, none⟩ = some (.int .i64 (wm : Int)) := by rw [blk_cell hw]; rfl
          have cw3_12 : u12.cell? ⟨u5.heap.size, 3, none⟩ = some (.string ⟨([] : List UInt8).toArray⟩) := by rw [blk_cell hw]; rfl
          have lw_12 := blk_lt hw
          go_wp2_with fail
          go_ret
          exact ⟨rfl, hB.alloc hB.size _⟩
        · rw [unhide HE4 (1 + r) (by omega) hkv]
          have f3 : decide (((1 + r : Nat) : Int) < (vn : Int)) = false := decide_eq_false (by omega)
          have f3n : decide (1 + r < vn) = false := decide_eq_false (by omega)
          have f3m : decide (1 + (r : Int) < (vn : Int)) = false := decide_eq_false (by omega)
          clear hkv
          have hO9 := only_setRow u9 (u5.heap.size) #[.int .i64 (vk : Int), .int .i64 (vn : Int), .int .i64 (vm : Int), .string ⟨vt.toArray⟩]
          have hPs := hP.setV hw hO9
          have hBs := below_setRow hB (show w.heap.size ≤ u5.heap.size by omega) #[.int .i64 (vk : Int), .int .i64 (vn : Int), .int .i64 (vm : Int), .string ⟨vt.toArray⟩]
          have hws := setRow_heap u9 (u5.heap.size) _ #[.int .i64 (vk : Int), .int .i64 (vn : Int), .int .i64 (vm : Int), .string ⟨vt.toArray⟩] _ _ hw
          have hvs := (hO9.block _ (blk_lt hv) hivw).trans hv
          have sv0 : (u9.setRow (u5.heap.size) #[.int .i64 (vk : Int), .int .i64 (vn : Int), .int .i64 (vm : Int), .string ⟨vt.toArray⟩]).cell? ⟨u3.heap.size, 0, none⟩ = some (.int .i64 (vk : Int)) := by rw [blk_cell hvs]; rfl
          have sv1 : (u9.setRow (u5.heap.size) #[.int .i64 (vk : Int), .int .i64 (vn : Int), .int .i64 (vm : Int), .string ⟨vt.toArray⟩]).cell? ⟨u3.heap.size, 1, none⟩ = some (.int .i64 (vn : Int)) := by rw [blk_cell hvs]; rfl
          have sv2 : (u9.setRow (u5.heap.size) #[.int .i64 (vk : Int), .int .i64 (vn : Int), .int .i64 (vm : Int), .string ⟨vt.toArray⟩]).cell? ⟨u3.heap.size, 2, none⟩ = some (.int .i64 (vm : Int)) := by rw [blk_cell hvs]; rfl
          have sv3 : (u9.setRow (u5.heap.size) #[.int .i64 (vk : Int), .int .i64 (vn : Int), .int .i64 (vm : Int), .string ⟨vt.toArray⟩]).cell? ⟨u3.heap.size, 3, none⟩ = some (.string ⟨vt.toArray⟩) := by rw [blk_cell hvs]; rfl
          have sw0 : (u9.setRow (u5.heap.size) #[.int .i64 (vk : Int), .int .i64 (vn : Int), .int .i64 (vm : Int), .string ⟨vt.toArray⟩]).cell? ⟨u5.heap.size, 0, none⟩ = some (.int .i64 (vk : Int)) := by rw [blk_cell hws]; rfl
          have sw1 : (u9.setRow (u5.heap.size) #[.int .i64 (vk : Int), .int .i64 (vn : Int), .int .i64 (vm : Int), .string ⟨vt.toArray⟩]).cell? ⟨u5.heap.size, 1, none⟩ = some (.int .i64 (vn : Int)) := by rw [blk_cell hws]; rfl
          have sw2 : (u9.setRow (u5.heap.size) #[.int .i64 (vk : Int), .int .i64 (vn : Int), .int .i64 (vm : Int), .string ⟨vt.toArray⟩]).cell? ⟨u5.heap.size, 2, none⟩ = some (.int .i64 (vm : Int)) := by rw [blk_cell hws]; rfl
          have sw3 : (u9.setRow (u5.heap.size) #[.int .i64 (vk : Int), .int .i64 (vn : Int), .int .i64 (vm : Int), .string ⟨vt.toArray⟩]).cell? ⟨u5.heap.size, 3, none⟩ = some (.string ⟨vt.toArray⟩) := by rw [blk_cell hws]; rfl
          have ssz : (u9.setRow (u5.heap.size) #[.int .i64 (vk : Int), .int .i64 (vn : Int), .int .i64 (vm : Int), .string ⟨vt.toArray⟩]).heap.size = u9.heap.size := setRow_size _ _ _
          go_wp2_with (refine wpList_store_row rfl 31 _ _ rfl (u5.heap.size) _ rfl rfl 31 _ hw (by kernel_rfl) rfl (by simp [Value.oneCell']) ?_)
          generalize (u9.setRow (u5.heap.size) #[.int .i64 (vk : Int), .int .i64 (vn : Int), .int .i64 (vm : Int), .string ⟨vt.toArray⟩]) = u10 at *
          replace hP := hPs
          replace hB := hBs
          replace hw := hws
          replace hv := hvs
          clear hPs hBs hws hvs hO9 sv0 sv1 sv2 sv3 sw0 sw1 sw2 sw3
          have cv0_10 : u10.cell? ⟨u3.heap.size, 0, none⟩ = some (.int .i64 (vk : Int)) := by rw [blk_cell hv]; rfl
          have cv1_10 : u10.cell? ⟨u3.heap.size, 1, none⟩ = some (.int .i64 (vn : Int)) := by rw [blk_cell hv]; rfl
          have cv2_10 : u10.cell? ⟨u3.heap.size, 2, none⟩ = some (.int .i64 (vm : Int)) := by rw [blk_cell hv]; rfl
          have cv3_10 : u10.cell? ⟨u3.heap.size, 3, none⟩ = some (.string ⟨vt.toArray⟩) := by rw [blk_cell hv]; rfl
          have lv_10 := blk_lt hv
          have cw0_10 : u10.cell? ⟨u5.heap.size, 0, none⟩ = some (.int .i64 (vk : Int)) := by rw [blk_cell hw]; rfl
          have cw1_10 : u10.cell? ⟨u5.heap.size, 1, none⟩ = some (.int .i64 (vn : Int)) := by rw [blk_cell hw]; rfl
          have cw2_10 : u10.cell? ⟨u5.heap.size, 2, none⟩ = some (.int .i64 (vm : Int)) := by rw [blk_cell hw]; rfl
          have cw3_10 : u10.cell? ⟨u5.heap.size, 3, none⟩ = some (.string ⟨vt.toArray⟩) := by rw [blk_cell hw]; rfl
          have lw_10 := blk_lt hw
          refine (dsolve_bad bq (-1) ((n : Int)) _ (Or.inl (by decide))).mono ?_
          rintro e u11 ⟨rfl, b11⟩
          replace hB := hB.trans (b11.mono hB.size)
          replace hP := hP.later b11
          replace hv := (b11.block _ (blk_lt hv)).trans hv
          replace hw := (b11.block _ (blk_lt hw)).trans hw
          have cv0_11 : u11.cell? ⟨u3.heap.size, 0, none⟩ = some (.int .i64 (vk : Int)) := by rw [blk_cell hv]; rfl
          have cv1_11 : u11.cell? ⟨u3.heap.size, 1, none⟩ = some (.int .i64 (vn : Int)) := by rw [blk_cell hv]; rfl
          have cv2_11 : u11.cell? ⟨u3.heap.size, 2, none⟩ = some (.int .i64 (vm : Int)) := by rw [blk_cell hv]; rfl
          have cv3_11 : u11.cell? ⟨u3.heap.size, 3, none⟩ = some (.string ⟨vt.toArray⟩) := by rw [blk_cell hv]; rfl
          have lv_11 := blk_lt hv
          have cw0_11 : u11.cell? ⟨u5.heap.size, 0, none⟩ = some (.int .i64 (vk : Int)) := by rw [blk_cell hw]; rfl
          have cw1_11 : u11.cell? ⟨u5.heap.size, 1, none⟩ = some (.int .i64 (vn : Int)) := by rw [blk_cell hw]; rfl
          have cw2_11 : u11.cell? ⟨u5.heap.size, 2, none⟩ = some (.int .i64 (vm : Int)) := by rw [blk_cell hw]; rfl
          have cw3_11 : u11.cell? ⟨u5.heap.size, 3, none⟩ = some (.string ⟨vt.toArray⟩) := by rw [blk_cell hw]; rfl
          have lw_11 := blk_lt hw
          go_wp2_with fail
          refine (dsolve_bad bq (0) (65) _ (Or.inr (Or.inr (Or.inr (by decide))))).mono ?_
          rintro e u12 ⟨rfl, b12⟩
          replace hB := hB.trans (b12.mono hB.size)
          replace hP := hP.later b12
          replace hv := (b12.block _ (blk_lt hv)).trans hv
          replace hw := (b12.block _ (blk_lt hw)).trans hw
          have cv0_12 : u12.cell? ⟨u3.heap.size, 0, none⟩ = some (.int .i64 (vk : Int)) := by rw [blk_cell hv]; rfl
          have cv1_12 : u12.cell? ⟨u3.heap.size, 1, none⟩ = some (.int .i64 (vn : Int)) := by rw [blk_cell hv]; rfl
          have cv2_12 : u12.cell? ⟨u3.heap.size, 2, none⟩ = some (.int .i64 (vm : Int)) := by rw [blk_cell hv]; rfl
          have cv3_12 : u12.cell? ⟨u3.heap.size, 3, none⟩ = some (.string ⟨vt.toArray⟩) := by rw [blk_cell hv]; rfl
          have lv_12 := blk_lt hv
          have cw0_12 : u12.cell? ⟨u5.heap.size, 0, none⟩ = some (.int .i64 (vk : Int)) := by rw [blk_cell hw]; rfl
          have cw1_12 : u12.cell? ⟨u5.heap.size, 1, none⟩ = some (.int .i64 (vn : Int)) := by rw [blk_cell hw]; rfl
          have cw2_12 : u12.cell? ⟨u5.heap.size, 2, none⟩ = some (.int .i64 (vm : Int)) := by rw [blk_cell hw]; rfl
          have cw3_12 : u12.cell? ⟨u5.heap.size, 3, none⟩ = some (.string ⟨vt.toArray⟩) := by rw [blk_cell hw]; rfl
          have lw_12 := blk_lt hw
          go_wp2_with fail
          go_ret
          exact ⟨rfl, hB.alloc hB.size _⟩
end Go.Proofs.YtgipjjhkhfihpaaDoor
