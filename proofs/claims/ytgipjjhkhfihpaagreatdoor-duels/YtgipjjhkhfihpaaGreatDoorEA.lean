import Derived.Test.YtgipjjhkhfihpaaGreatDoorDP
import Derived.Test.YtgipjjhkhfihpaaGreatDoorDZ
import Derived.Test.YtgipjjhkhfihpaaGreatDoorDF
import Derived.Deep.RegionWith
namespace Go.Proofs.YtgipjjhkhfihpaaGreatDoor
open Go.RowKit

theorem provesR_pos (F : Form) (l : List UInt8) (x i : Nat) (h : provesR F l = .inl (x, i)) : 0 < x := by
  unfold provesR at h
  split at h
  · injection h with h; injection h with h1 h2; omega
  · split at h
    · injection h with h; injection h with h1 h2; omega
    · split at h
      · split at h
        · injection h with h; injection h with h1 h2; omega
        · split at h
          · cases h
          · injection h with h; injection h with h1 h2; omega
      · injection h with h; injection h with h1 h2; omega

set_option maxRecDepth 100000 in
set_option maxHeartbeats 3200000 in
theorem checks_any (bw b1 b2 lo : Nat) (st : RS) (q0 : QS) (text proof : List UInt8) (c4 c5 c6 : Value) (w : World) (hw : WAt w bw text (some ⟨b1, 0, none⟩) (some ⟨b2, 0, none⟩) proof c4 c5 c6)
    (hP : ProgAt lo w b1 (qFinish q0)) (hR : RefAt lo w b2 (finish st)) (hS : Same st q0) (h24 : q0.cl.length ≤ 24) (hN : QNice q0) :
    Calls Tryz.prog 33 #[.pointer (some ⟨bw, 0, none⟩)] w fun e w' => e = .returned (.bool true) ∧ Below w.heap.size w w' := by
  obtain ⟨hFQ, hFO, hFW⟩ := fq_of hS hN h24
  have hQB := qb_of hN h24
  have hce := check_eq hFQ hFO proof
  have hbw : bw < w.heap.size := blk_lt hw
  have k1 : w.cell? ⟨bw, 1, none⟩ = some (.pointer (some ⟨b1, 0, none⟩)) := by rw [blk_cell hw]; rfl
  have k3 : w.cell? ⟨bw, 3, none⟩ = some (S proof) := by rw [blk_cell hw]; rfl
  cases hpr : provesR (finish st) proof with
  | inl xi =>
    obtain ⟨x, i⟩ := xi
    rw [hpr] at hce
    have HCE : Hid (checkQ (qFinish q0) proof = (0, x, i)) := hide hce
    have hx := provesR_pos _ _ _ _ hpr
    have HPR := hide hpr
    clear hce hpr hFQ hFO
    go_enter Tryz.func33, Tryz.ntmps33
    go_wp2_with fail
    go_region_with (go_at_call 17; refine (check_any lo b1 (qFinish q0) proof _ (hP.later (Below.refl _ w).drew) hQB).mono ?_; rintro e w1 ⟨hb1, rfl⟩; rw [unhide HCE]; have hB1 : Below w.heap.size w w1 := (Below.refl _ w).drew.trans hb1; dsimp only)
    all_goals
      have hw1 := hw.later hB1
      have j2 : w1.cell? ⟨bw, 2, none⟩ = some (.pointer (some ⟨b2, 0, none⟩)) := by rw [blk_cell hw1]; rfl
      have j3 : w1.cell? ⟨bw, 3, none⟩ = some (S proof) := by rw [blk_cell hw1]; rfl
      have hbw1 := blk_lt hw1
      have hR1 := hR.later hB1
      go_wp2_with fail
      go_region_with (go_at_call 57; refine (proves_any lo b2 (finish st) proof _ (hR1.later (Below.refl _ w1).drew) hFW).mono ?_; rintro e w2 ⟨hb2, hp⟩; rw [unhide HPR] at hp; have hp2 : e = .returned (.tuple #[.int .i64 0, .int .i64 (x : Int), .int .i64 (i : Int), .int .i64 0]) := hp; subst hp2; clear hp; have hB2 : Below w.heap.size w w2 := hB1.trans (((Below.refl _ w1).drew.trans hb2).mono hB1.size))
      all_goals
        have hxb : ((x : Int) == 0) = false := by rw [beq_eq_false_iff_ne]; omega
        go_wp2_with fail
        go_ret
        exact ⟨rfl, hB2⟩
  | inr tt =>
    obtain ⟨truth, two⟩ := tt
    rw [hpr] at hce
    have hsd := proves_sound hFO proof truth two hpr
    have HSD := hide hsd
    have HPR := hide hpr
    cases truth with
    | true =>
      have HCE : Hid (checkQ (qFinish q0) proof = (2, 0, 0)) := hide hce
      clear hce hpr hFQ hsd
      go_enter Tryz.func33, Tryz.ntmps33
      go_wp2_with fail
      go_region_with (go_at_call 17; refine (check_any lo b1 (qFinish q0) proof _ (hP.later (Below.refl _ w).drew) hQB).mono ?_; rintro e w1 ⟨hb1, rfl⟩; rw [unhide HCE]; have hB1 : Below w.heap.size w w1 := (Below.refl _ w).drew.trans hb1; dsimp only)
      all_goals
        have hw1 := hw.later hB1
        have j2 : w1.cell? ⟨bw, 2, none⟩ = some (.pointer (some ⟨b2, 0, none⟩)) := by rw [blk_cell hw1]; rfl
        have j3 : w1.cell? ⟨bw, 3, none⟩ = some (S proof) := by rw [blk_cell hw1]; rfl
        have hbw1 := blk_lt hw1
        have hR1 := hR.later hB1
        go_wp2_with fail
        go_region_with (go_at_call 57; refine (proves_any lo b2 (finish st) proof _ (hR1.later (Below.refl _ w1).drew) hFW).mono ?_; rintro e w2 ⟨hb2, hp⟩; rw [unhide HPR] at hp; have hp2 : e = .returned (.tuple #[.int .i64 2, .int .i64 0, .int .i64 0, .int .i64 (two : Int)]) := hp; subst hp2; clear hp; have hB2 : Below w.heap.size w w2 := hB1.trans (((Below.refl _ w1).drew.trans hb2).mono hB1.size))
        all_goals
          have hw2 := hw.later hB2
          have i2 : w2.cell? ⟨bw, 2, none⟩ = some (.pointer (some ⟨b2, 0, none⟩)) := by rw [blk_cell hw2]; rfl
          have hbw2 := blk_lt hw2
          go_wp2_with fail
          refine (truth_any lo b2 (finish st) hFW.len hFW.names hFW.all hFW.bits hFW.cl w2 (hR.later hB2)).mono ?_
          rintro e w3 ⟨rfl, hb3⟩
          rw [unhide HSD]
          have hB3 : Below w.heap.size w w3 := hB2.trans (hb3.mono hB2.size)
          go_wp2_with fail
          go_ret
          exact ⟨rfl, hB3⟩
    | false =>
      have HCE : Hid (checkQ (qFinish q0) proof = (1, 0, 0)) := hide hce
      clear hce hpr hFQ hsd
      go_enter Tryz.func33, Tryz.ntmps33
      go_wp2_with fail
      go_region_with (go_at_call 17; refine (check_any lo b1 (qFinish q0) proof _ (hP.later (Below.refl _ w).drew) hQB).mono ?_; rintro e w1 ⟨hb1, rfl⟩; rw [unhide HCE]; have hB1 : Below w.heap.size w w1 := (Below.refl _ w).drew.trans hb1; dsimp only)
      all_goals
        have hw1 := hw.later hB1
        have j2 : w1.cell? ⟨bw, 2, none⟩ = some (.pointer (some ⟨b2, 0, none⟩)) := by rw [blk_cell hw1]; rfl
        have j3 : w1.cell? ⟨bw, 3, none⟩ = some (S proof) := by rw [blk_cell hw1]; rfl
        have hbw1 := blk_lt hw1
        have hR1 := hR.later hB1
        go_wp2_with fail
        go_region_with (go_at_call 57; refine (proves_any lo b2 (finish st) proof _ (hR1.later (Below.refl _ w1).drew) hFW).mono ?_; rintro e w2 ⟨hb2, hp⟩; rw [unhide HPR] at hp; have hp2 : e = .returned (.tuple #[.int .i64 1, .int .i64 0, .int .i64 0, .int .i64 (two : Int)]) := hp; subst hp2; clear hp; have hB2 : Below w.heap.size w w2 := hB1.trans (((Below.refl _ w1).drew.trans hb2).mono hB1.size))
        all_goals
          have hw2 := hw.later hB2
          have i2 : w2.cell? ⟨bw, 2, none⟩ = some (.pointer (some ⟨b2, 0, none⟩)) := by rw [blk_cell hw2]; rfl
          have hbw2 := blk_lt hw2
          go_wp2_with fail
          refine (truth_any lo b2 (finish st) hFW.len hFW.names hFW.all hFW.bits hFW.cl w2 (hR.later hB2)).mono ?_
          rintro e w3 ⟨rfl, hb3⟩
          rw [unhide HSD]
          have hB3 : Below w.heap.size w w3 := hB2.trans (hb3.mono hB2.size)
          go_wp2_with fail
          go_ret
          exact ⟨rfl, hB3⟩
end Go.Proofs.YtgipjjhkhfihpaaGreatDoor
