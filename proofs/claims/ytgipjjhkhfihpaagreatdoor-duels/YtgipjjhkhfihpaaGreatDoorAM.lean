import Derived.Test.YtgipjjhkhfihpaaGreatDoorAL
import Derived.Test.YtgipjjhkhfihpaaGreatDoorAD
import Derived.Test.YtgipjjhkhfihpaaGreatDoorAH
import Derived.Test.YtgipjjhkhfihpaaGreatDoorAC
import Derived.Deep.RegionWith
import Derived.Test.YtgipjjhkhfihpaaGreatDoorAK
namespace Go.Proofs.YtgipjjhkhfihpaaGreatDoor
open Go.RowKit

theorem and_pow_zero (x v : Nat) : (x &&& 2 ^ v == 0) = !x.testBit v := by
  cases h : x.testBit v with
  | false =>
    have : x &&& 2 ^ v = 0 := by
      apply Nat.eq_of_testBit_eq
      intro i
      rw [Nat.testBit_and, Nat.testBit_two_pow, Nat.zero_testBit]
      by_cases e : v = i
      · subst e; rw [h]; rfl
      · simp [e]
    rw [this]; rfl
  | true =>
    have : x &&& 2 ^ v ≠ 0 := fun e => by
      have h2 : (x &&& 2 ^ v).testBit v = true := by rw [Nat.testBit_and, Nat.testBit_two_pow, h]; simp
      rw [e] at h2; simp at h2
    simpa using this
theorem and_bit_eq (a v : Nat) (ha : a < 512) (hv : v ≤ 8) : (bits .and .i64 (a : Int) (wrap64 (2 ^ v)) == 0) = !a.testBit v := by
  have h := shl_one (v : Int) (by omega) (by omega)
  rw [Int.toNat_natCast] at h
  have hp := pow_bd v hv
  rw [h, i64_and _ _ (by omega) (by omega), nat_beq_zero, and_pow_zero]
theorem and_bit_ne (a v : Nat) (ha : a < 512) (hv : v ≤ 8) : (bits .and .i64 (a : Int) (wrap64 (2 ^ v)) != 0) = a.testBit v := by
  have h := and_bit_eq a v ha hv
  rw [bne, h]; simp

set_option maxRecDepth 100000 in
set_option maxHeartbeats 12800000 in
theorem step_r (lo b : Nat) (F : Form) (ss : List (Nat × Nat)) (aS : Option Addr) (cS : Nat) (lS : Nat) (truth : Bool) (hd : List UInt8) (tl : List (List UInt8)) (g off cap : Nat) (w : World) (hIn : StepIn lo b F ss aS cS lS hd tl g off cap w) (hhd : hd = [114]) (hln : tl.length = 3) :
    Calls Tryz.prog 86 #[.pointer (some ⟨b, 0, none⟩), .slice aS ss.length cS, .slice (some ⟨g, off, none⟩) (tl.length + 1) cap, .bool truth] w fun e w' => RStPost (stepR F truth ss hd tl) w e w' := by
  have HLN := hide hln
  have HHD := hide hhd
  clear hln hhd
  obtain ⟨hR, hF, hS, hSB, hSb, hs, hl, hcap, hws⟩ := hIn
  obtain ⟨i0, hi, hz0, hz1, hz2⟩ := info_parts Tryz.info3
  have hR0 := hR
  obtain ⟨_, vO, vE, vC, hfb, _, _, hC⟩ := hR
  obtain ⟨aC, cC, rfl⟩ := own_form hC
  have hbw := blk_lt hfb
  obtain ⟨g', off', cur, he, hg, hcur⟩ := hs (by simp)
  injection he with he
  injection he with e1 e2 e3
  subst e1 e2
  clear e3
  have hgw := blk_lt hg
  have HC0 : Hid (∀ wx : World, Below w.heap.size w wx → wx.cell? ⟨g, off, none⟩ = some (S hd)) := hide (fun wx hx => by
    rw [hx.cell (p := ⟨g, off, none⟩) hgw, blk_cell hg]; exact hcur 0 (by simp))
  have HCJ : Hid (∀ (wx : World) (j : Nat) (hj : j < tl.length), Below w.heap.size w wx → wx.cell? ⟨g, off + (j + 1), none⟩ = some (S tl[j])) := hide (fun wx j hj hx => by
    rw [hx.cell (p := ⟨g, off + (j + 1), none⟩) hgw, blk_cell hg]; exact hcur (j + 1) (by simpa using hj))
  have HST : Hid (∀ (wx : World) (ao : Option Addr), Below w.heap.size w wx → (tl ≠ [] → ao = some ⟨g, off + 1, none⟩) → StrsAt wx ao tl) := hide (fun wx ao hx ho hne => ⟨g, off + 1, cur, ho hne, (hx.block _ hgw).trans hg, fun j hj => by
    have h1 := hcur (1 + j) (by simp; omega)
    rw [← Nat.add_assoc] at h1
    rw [h1]
    simp [show 1 + j = j + 1 from by omega]⟩)
  have HWS := hide hws
  clear hcur hws hs hg
  go_enter Tryz.func86, Tryz.ntmps86
  go_wp2_with fail
  go_loopg [11, 12] tl.length (fun m v i wx => ∃ j : Nat, i = .int .i64 (j + 1) ∧ j + m = tl.length ∧ wx.ownsRow (w.heap.size + 2) 3 1 v j (ints (cnts (tl.take j))) ∧ Below w.heap.size w wx ∧
      wx.heap[w.heap.size]? = some (.cells #[.int .i64 0, .int .i64 0] 121 (0, 0)) ∧ wx.heap[w.heap.size + 1]? = some (.cells #[.int .i64 0, .int .i64 0] 121 (0, 0)))
  case atStart => exact ⟨0, rfl, by omega, World.ownsRow_nil _ _ _ _, ((Below.refl _ _).alloc (Nat.le_refl _) _).alloc (by simp) _, by rw [heap_alloc_old _ _ (by simp)]; exact heap_alloc_new _ _, new_at (by simp)⟩
  case round =>
    obtain ⟨j, rfl, hj, hown, hb, hres, hnon⟩ := hrel
    have hbs := blk_lt hnon
    by_cases hlt : j < tl.length
    · have hcj := unhide HCJ wr j hlt hb
      have hxl := unhide HWS _ (List.getElem_mem hlt)
      have HT := hide (cnts_take tl j hlt)
      have hgw1 : g < wr.heap.size := by omega
      generalize tl[j] = x at *
      go_wp2_with fail
      refine (count_any x 1048576 wr hxl (by omega)).mono ?_
      rintro e w1 ⟨rfl, hw1⟩
      subst hw1
      rw [show cnt x 1048576 = cnt x big from rfl]
      go_wp2_with (at_builtin; refine wpList_append_new rfl _ _ 25 rfl (w.heap.size + 2) i0 (.int .i64 0) 1 8 Tryz.underlying25 hi hz0 hz1 hz2 rfl (by decide) _ _ _ hown rfl rfl rfl (by simp [Value.oneCell']) (by unfold maxLen; omega) (by omega) (by omega) ?_; intro v' w2 hown' hgrow hnn)
      go_roundg (gk - 1)
      case measure => omega
      case rel =>
        have hlto := hown.lt
        refine ⟨j + 1, by go_num, by omega, by rw [unhide HT]; exact hown', below_grown hb hgrow hown (by omega) (by omega), ?_, ?_⟩
        · rw [hgrow.block _ (by omega) (fun e => by have := hlto _ e.symm; omega)]; exact hres
        · rw [hgrow.block _ (by omega) (fun e => by have := hlto _ e.symm; omega)]; exact hnon
    · have hjl : j = tl.length := by omega
      subst hjl
      rw [List.take_length] at hown
      clear hj hlt hi hz0 hz1 hz2 HCJ
      obtain ⟨aK, cK, rfl⟩ := own_form hown
      have hc0 := unhide HC0 wr hb
      have hgw1 : g < wr.heap.size := by omega
      have hbw1 : b < wr.heap.size := by omega
      have hbs0 : w.heap.size < wr.heap.size := by omega
      have r0 : wr.cell? ⟨w.heap.size, 0, none⟩ = some (.int .i64 0) := by rw [blk_cell hres]; rfl
      have r1 : wr.cell? ⟨w.heap.size, 1, none⟩ = some (.int .i64 0) := by rw [blk_cell hres]; rfl
      have zr0 := blk_free hres 0
      have zr1 := blk_free hres 1
      have n0 : wr.cell? ⟨w.heap.size + 1, 0, none⟩ = some (.int .i64 0) := by rw [blk_cell hnon]; rfl
      have n1 : wr.cell? ⟨w.heap.size + 1, 1, none⟩ = some (.int .i64 0) := by rw [blk_cell hnon]; rfl
      have x1 : wr.cell? ⟨b, 1, none⟩ = some (.int .i64 F.all) := by rw [hb.cell (p := ⟨b, 1, none⟩) hbw, blk_cell hfb]; rfl
      have x3 : wr.cell? ⟨b, 3, none⟩ = some (.slice aC F.cl.length cC) := by rw [hb.cell (p := ⟨b, 3, none⟩) hbw, blk_cell hfb]; rfl
      have HK : Hid (∀ (i : Nat) (hi : i < tl.length), ∃ gK, aK = some ⟨gK, 0, none⟩ ∧ gK < wr.heap.size ∧ wr.cell? ⟨gK, i, none⟩ = some (.int .i64 (cnt tl[i] big : Nat)) ∧ tl.length ≤ cK) := hide (fun i hi => by
        obtain ⟨gK, capK, hVe, _, hg', hcap', hcell⟩ := own_pos hown (by omega)
        injection hVe with hVe _ hV2
        subst hVe hV2
        exact ⟨gK, rfl, hg', hcell _ _ (by unfold ints cnts; simp [hi]), hcap'⟩)
      have HBITS := hide hF.bits
      have hc24 := hF.cl
      have hall := hF.all
      have HSB := hide hSb
      have HCELL : Hid (∀ (m : Nat) (hm : m < F.cl.length), ∃ g2, aC = some ⟨g2, 0, none⟩ ∧ g2 < w.heap.size ∧ w.cell? ⟨g2, m * 2, none⟩ = some (.int .i64 (F.cl[m].1 : Int)) ∧ w.cell? ⟨g2, m * 2 + 1, none⟩ = some (.int .i64 (F.cl[m].2 : Int))) := hide (fun m hm => by
        obtain ⟨g2, cap2, hVe, hg2, hg2', _, hcell⟩ := own_pos hC (by omega)
        injection hVe with hVe _ hV2
        subst hVe hV2
        obtain ⟨hpa, hpb⟩ := pairs_at F.cl m hm
        exact ⟨g2, rfl, hg2', hcell _ _ hpa, hcell _ _ hpb⟩)
      have HSEL : Hid (∀ (m : Nat) (hm : m < ss.length), ∃ g2, aS = some ⟨g2, 0, none⟩ ∧ g2 < w.heap.size ∧ w.cell? ⟨g2, m * 2, none⟩ = some (.int .i64 (ss[m].1 : Int)) ∧ w.cell? ⟨g2, m * 2 + 1, none⟩ = some (.int .i64 (ss[m].2 : Int))) := hide (fun m hm => by
        obtain ⟨g2, cap2, hVe, hg2, hg2', _, hcell⟩ := own_pos hS (by omega)
        injection hVe with hVe _ hV2
        subst hVe hV2
        obtain ⟨hpa, hpb⟩ := pairs_at ss m hm
        exact ⟨g2, rfl, hg2', hcell _ _ hpa, hcell _ _ hpb⟩)
      have HFW := hide hF
      clear hSb hown hC hfb hS hF
      have hln := unhide HLN
      have hhd := unhide HHD
      subst hhd
      have hbwr := hb
      have hreswr := hres
      have h01 : 0 < tl.length := by omega
      have h11 : 1 < tl.length := by omega
      have h21 : 2 < tl.length := by omega
      have HSP : Hid (stepR F truth ss [114] tl = resR F truth ss (cnt tl[0] big) (cnt tl[1] big) (cnt tl[2] big)) := hide (by unfold stepR; rw [if_neg (by simp), if_neg (by simp), if_pos ⟨rfl, hln⟩, getD_at' _ _ _ h01, getD_at' _ _ _ h11, getD_at' _ _ _ h21])
      have hlb : ((tl.length : Int) == 3) = true := by rw [beq_iff_eq]; omega
      have hi0 : (0 : Int) < (tl.length : Int) := by omega
      have hi1 : (1 : Int) < (tl.length : Int) := by omega
      have hi2 : (2 : Int) < (tl.length : Int) := by omega
      clear hln
      obtain ⟨gK, rfl, hgK, kc0, hcK⟩ := unhide HK 0 h01
      obtain ⟨gK', hgg, _, kc1, _⟩ := unhide HK 1 h11
      injection hgg with hgg; injection hgg with hgg _ _; subst hgg
      obtain ⟨gK', hgg, _, kc2, _⟩ := unhide HK 2 h21
      injection hgg with hgg; injection hgg with hgg _ _; subst hgg
      generalize cnt tl[0] big = i at *
      generalize cnt tl[1] big = j at *
      generalize cnt tl[2] big = v at *
      have HBAD : Hid (i < 1 ∨ ss.length < i ∨ j < 1 ∨ ss.length < j ∨ v < 1 ∨ 8 < v → stepR F truth ss [114] tl = none) := hide (fun h => by rw [unhide HSP]; unfold resR; rw [if_pos h])
      by_cases hc0 : i < 1
      · have HF : Hid (stepR F truth ss [114] tl = none) := hide (unhide HBAD (Or.inl hc0))
        have hq0 : decide ((i : Int) < 1) = true := by simp; omega
        have hp0 : decide (i < 1) = true := by simp; omega
        clear hc0
        go_wp2_with fail
        have hRq := blk_set (blk_set hreswr 0 (.int .i64 0)) 1 (.int .i64 0)
        have jq0 := blk_cell hRq 0
        have jq1 := blk_cell hRq 1
        go_wp2_with fail
        refine bodyPost_ret (v := .tuple #[.agg #[.int .i64 0, .int .i64 0], .bool false]) (by simp [results, Tryz.results86, go_sem, jq0, jq1]) rfl (RStPost.none_ ?_ (unhide HF) (0, 0) rfl)
        exact (hbwr.setCell (p := ⟨w.heap.size, 0, none⟩) (Nat.le_refl _) _).setCell (p := ⟨w.heap.size, 1, none⟩) (Nat.le_refl _) _
      · have hq0 : decide ((i : Int) < 1) = false := by simp; omega
        have hp0 : decide (i < 1) = false := by simp; omega
        by_cases hc1 : ss.length < i
        · have HF : Hid (stepR F truth ss [114] tl = none) := hide (unhide HBAD (Or.inr (Or.inl hc1)))
          have hq1 : decide ((ss.length : Int) < (i : Int)) = true := by simp; omega
          have hp1 : decide (ss.length < i) = true := by simp; omega
          clear hc1
          go_wp2_with fail
          have hRq := blk_set (blk_set hreswr 0 (.int .i64 0)) 1 (.int .i64 0)
          have jq0 := blk_cell hRq 0
          have jq1 := blk_cell hRq 1
          go_wp2_with fail
          refine bodyPost_ret (v := .tuple #[.agg #[.int .i64 0, .int .i64 0], .bool false]) (by simp [results, Tryz.results86, go_sem, jq0, jq1]) rfl (RStPost.none_ ?_ (unhide HF) (0, 0) rfl)
          exact (hbwr.setCell (p := ⟨w.heap.size, 0, none⟩) (Nat.le_refl _) _).setCell (p := ⟨w.heap.size, 1, none⟩) (Nat.le_refl _) _
        · have hq1 : decide ((ss.length : Int) < (i : Int)) = false := by simp; omega
          have hp1 : decide (ss.length < i) = false := by simp; omega
          by_cases hc2 : j < 1
          · have HF : Hid (stepR F truth ss [114] tl = none) := hide (unhide HBAD (Or.inr (Or.inr (Or.inl hc2))))
            have hq2 : decide ((j : Int) < 1) = true := by simp; omega
            have hp2 : decide (j < 1) = true := by simp; omega
            clear hc2
            go_wp2_with fail
            have hRq := blk_set (blk_set hreswr 0 (.int .i64 0)) 1 (.int .i64 0)
            have jq0 := blk_cell hRq 0
            have jq1 := blk_cell hRq 1
            go_wp2_with fail
            refine bodyPost_ret (v := .tuple #[.agg #[.int .i64 0, .int .i64 0], .bool false]) (by simp [results, Tryz.results86, go_sem, jq0, jq1]) rfl (RStPost.none_ ?_ (unhide HF) (0, 0) rfl)
            exact (hbwr.setCell (p := ⟨w.heap.size, 0, none⟩) (Nat.le_refl _) _).setCell (p := ⟨w.heap.size, 1, none⟩) (Nat.le_refl _) _
          · have hq2 : decide ((j : Int) < 1) = false := by simp; omega
            have hp2 : decide (j < 1) = false := by simp; omega
            by_cases hc3 : ss.length < j
            · have HF : Hid (stepR F truth ss [114] tl = none) := hide (unhide HBAD (Or.inr (Or.inr (Or.inr (Or.inl hc3)))))
              have hq3 : decide ((ss.length : Int) < (j : Int)) = true := by simp; omega
              have hp3 : decide (ss.length < j) = true := by simp; omega
              clear hc3
              go_wp2_with fail
              have hRq := blk_set (blk_set hreswr 0 (.int .i64 0)) 1 (.int .i64 0)
              have jq0 := blk_cell hRq 0
              have jq1 := blk_cell hRq 1
              go_wp2_with fail
              refine bodyPost_ret (v := .tuple #[.agg #[.int .i64 0, .int .i64 0], .bool false]) (by simp [results, Tryz.results86, go_sem, jq0, jq1]) rfl (RStPost.none_ ?_ (unhide HF) (0, 0) rfl)
              exact (hbwr.setCell (p := ⟨w.heap.size, 0, none⟩) (Nat.le_refl _) _).setCell (p := ⟨w.heap.size, 1, none⟩) (Nat.le_refl _) _
            · have hq3 : decide ((ss.length : Int) < (j : Int)) = false := by simp; omega
              have hp3 : decide (ss.length < j) = false := by simp; omega
              by_cases hc4 : v < 1
              · have HF : Hid (stepR F truth ss [114] tl = none) := hide (unhide HBAD (Or.inr (Or.inr (Or.inr (Or.inr (Or.inl hc4))))))
                have hq4 : decide ((v : Int) < 1) = true := by simp; omega
                have hp4 : decide (v < 1) = true := by simp; omega
                clear hc4
                go_wp2_with fail
                have hRq := blk_set (blk_set hreswr 0 (.int .i64 0)) 1 (.int .i64 0)
                have jq0 := blk_cell hRq 0
                have jq1 := blk_cell hRq 1
                go_wp2_with fail
                refine bodyPost_ret (v := .tuple #[.agg #[.int .i64 0, .int .i64 0], .bool false]) (by simp [results, Tryz.results86, go_sem, jq0, jq1]) rfl (RStPost.none_ ?_ (unhide HF) (0, 0) rfl)
                exact (hbwr.setCell (p := ⟨w.heap.size, 0, none⟩) (Nat.le_refl _) _).setCell (p := ⟨w.heap.size, 1, none⟩) (Nat.le_refl _) _
              · have hq4 : decide ((v : Int) < 1) = false := by simp; omega
                have hp4 : decide (v < 1) = false := by simp; omega
                by_cases hc5 : 8 < v
                · have HF : Hid (stepR F truth ss [114] tl = none) := hide (unhide HBAD (Or.inr (Or.inr (Or.inr (Or.inr (Or.inr (hc5)))))))
                  have hq5 : decide ((8 : Int) < (v : Int)) = true := by simp; omega
                  have hp5 : decide (8 < v) = true := by simp; omega
                  clear hc5
                  go_wp2_with fail
                  have hRq := blk_set (blk_set hreswr 0 (.int .i64 0)) 1 (.int .i64 0)
                  have jq0 := blk_cell hRq 0
                  have jq1 := blk_cell hRq 1
                  go_wp2_with fail
                  refine bodyPost_ret (v := .tuple #[.agg #[.int .i64 0, .int .i64 0], .bool false]) (by simp [results, Tryz.results86, go_sem, jq0, jq1]) rfl (RStPost.none_ ?_ (unhide HF) (0, 0) rfl)
                  exact (hbwr.setCell (p := ⟨w.heap.size, 0, none⟩) (Nat.le_refl _) _).setCell (p := ⟨w.heap.size, 1, none⟩) (Nat.le_refl _) _
                · have hq5 : decide ((8 : Int) < (v : Int)) = false := by simp; omega
                  have hp5 : decide (8 < v) = false := by simp; omega
                  obtain ⟨m0, rfl⟩ : ∃ m, i = m + 1 := ⟨i - 1, by omega⟩
                  obtain ⟨m1, rfl⟩ : ∃ m, j = m + 1 := ⟨j - 1, by omega⟩
                  have hm0 : m0 < ss.length := by omega
                  have hm1 : m1 < ss.length := by omega
                  have hv8 : v ≤ 8 := by omega
                  have hv1 : 1 ≤ v := by omega
                  have HAP : Hid (stepR F truth ss [114] tl = if F.all.testBit v ≠ truth ∨ ss[m0].1.testBit v = false ∨ ss[m1].2.testBit v = false then none else apartO (resolve2 ss[m0] ss[m1] v)) := hide (by rw [unhide HSP]; unfold resR; rw [if_neg (by omega), Nat.add_sub_cancel, Nat.add_sub_cancel, getD_at' _ _ _ hm0, getD_at' _ _ _ hm1])
                  clear hq0 hp0 hq1 hp1 hq2 hp2 hq3 hp3 hc0 hc1 hc2 hc3 hc4 hc5
                  have hq0 : decide ((m0 : Int) + 1 < 1) = false := by simp; omega
                  have hq1 : decide ((ss.length : Int) < (m0 : Int) + 1) = false := by simp; omega
                  have hp1 : decide (ss.length < m0 + 1) = false := by simp; omega
                  have hq2 : decide ((m1 : Int) + 1 < 1) = false := by simp; omega
                  have hq3 : decide ((ss.length : Int) < (m1 : Int) + 1) = false := by simp; omega
                  have hp3 : decide (ss.length < m1 + 1) = false := by simp; omega
                  obtain ⟨g2, rfl, hg2', hy0, hy1⟩ := unhide HSEL m0 hm0
                  obtain ⟨g3, hgg, hg3', hy2, hy3⟩ := unhide HSEL m1 hm1
                  injection hgg with hgg; injection hgg with hgg _ _; subst hgg
                  have hx0 : wr.cell? ⟨g2, m0 * 2, none⟩ = some (.int .i64 (ss[m0].1 : Int)) := by rw [hb.cell (p := ⟨g2, m0 * 2, none⟩) hg2']; exact hy0
                  have hx1 : wr.cell? ⟨g2, m0 * 2 + 1, none⟩ = some (.int .i64 (ss[m0].2 : Int)) := by rw [hb.cell (p := ⟨g2, m0 * 2 + 1, none⟩) hg2']; exact hy1
                  have hx2 : wr.cell? ⟨g2, m1 * 2, none⟩ = some (.int .i64 (ss[m1].1 : Int)) := by rw [hb.cell (p := ⟨g2, m1 * 2, none⟩) hg2']; exact hy2
                  have hx3 : wr.cell? ⟨g2, m1 * 2 + 1, none⟩ = some (.int .i64 (ss[m1].2 : Int)) := by rw [hb.cell (p := ⟨g2, m1 * 2 + 1, none⟩) hg2']; exact hy3
                  have hlt0 := unhide HSB _ (List.getElem_mem hm0)
                  have hlt1 := unhide HSB _ (List.getElem_mem hm1)
                  have hg2w : g2 < wr.heap.size := cell_lt hx0
                  clear hy0 hy1 hy2 hy3 HCELL HSEL HK HBITS HSB HST HWS HC0 hR0 HBAD HSP HFW
                  generalize ss[m0] = ca at *
                  generalize ss[m1] = cb at *
                  obtain ⟨p1, n1⟩ := ca
                  obtain ⟨p2, n2⟩ := cb
                  have hp19 : p1 < 512 := hlt0.1
                  have hn19 : n1 < 512 := hlt0.2
                  have hp29 : p2 < 512 := hlt1.1
                  have hn29 : n2 < 512 := hlt1.2
                  clear hlt0 hlt1
                  dsimp only at hx0 hx1 hx2 hx3 HAP
                  have bu := and_bit_ne F.all v hall hv8
                  have ba := and_bit_eq p1 v hp19 hv8
                  have bb := and_bit_eq n2 v hn29 hv8
                  have l1 := less_bit p1 v hp19 hv8
                  have l2 := less_bit n2 v hn29 hv8
                  have lt1 := less_lt p1 (2 ^ v) hp19
                  have lt2 := less_lt n2 (2 ^ v) hn29
                  have o1 : bits .or .i64 ((less p1 (2 ^ v) : Nat) : Int) (p2 : Int) = ((less p1 (2 ^ v) ||| p2 : Nat) : Int) := i64_or _ _ (by omega) (by omega)
                  have o2 : bits .or .i64 (n1 : Int) ((less n2 (2 ^ v) : Nat) : Int) = ((n1 ||| less n2 (2 ^ v) : Nat) : Int) := i64_or _ _ (by omega) (by omega)
                  have HR2 : Hid (resolve2 (p1, n1) (p2, n2) v = (less p1 (2 ^ v) ||| p2, n1 ||| less n2 (2 ^ v))) := hide rfl
                  have hor1 := or_lt _ _ lt1 hp29
                  have hor2 := or_lt _ _ hn19 lt2
                  have hand : (bits .and .i64 ((less p1 (2 ^ v) ||| p2 : Nat) : Int) ((n1 ||| less n2 (2 ^ v) : Nat) : Int) == 0) = ((less p1 (2 ^ v) ||| p2) &&& (n1 ||| less n2 (2 ^ v)) == 0) := by rw [i64_and _ _ (by omega) (by omega), nat_beq_zero]
                  cases hbu : F.all.testBit v with
                  | false =>
                    rw [hbu] at bu HAP
                    cases truth with
                    | false =>
                      cases hba : p1.testBit v with
                      | false =>
                        rw [hba] at ba
                        have HF : Hid (stepR F false ss [114] tl = none) := hide (by rw [unhide HAP, if_pos (Or.inr (Or.inl hba))])
                        clear hba
                        have hRq := blk_set (blk_set hres 0 (.int .i64 0)) 1 (.int .i64 0)
                        have hR1 := (heap_alloc_old _ (.cells #[.int .i64 (p1 : Int), .int .i64 (n1 : Int)] 121) (blk_lt hRq)).trans hRq
                        have hR2 := (heap_alloc_old _ (.cells #[.int .i64 (p2 : Int), .int .i64 (n2 : Int)] 121) (blk_lt hR1)).trans hR1
                        have jq0 := blk_cell hR2 0
                        have jq1 := blk_cell hR2 1
                        go_wp2_with fail
                        refine bodyPost_ret (v := .tuple #[.agg #[.int .i64 0, .int .i64 0], .bool false]) (by simp [results, Tryz.results86, go_sem, jq0, jq1]) rfl (RStPost.none_ ?_ (unhide HF) (0, 0) rfl)
                        exact (((hb.setCell (p := ⟨w.heap.size, 0, none⟩) (Nat.le_refl _) _).setCell (p := ⟨w.heap.size, 1, none⟩) (Nat.le_refl _) _).alloc (by simp [World.setCell]; omega) _).alloc (by simp [World.setCell]; omega) _
                      | true =>
                        rw [hba] at ba
                        cases hbb : n2.testBit v with
                        | false =>
                          rw [hbb] at bb
                          have HF : Hid (stepR F false ss [114] tl = none) := hide (by rw [unhide HAP, if_pos (Or.inr (Or.inr hbb))])
                          clear hba hbb
                          have hRq := blk_set (blk_set hres 0 (.int .i64 0)) 1 (.int .i64 0)
                          have hR1 := (heap_alloc_old _ (.cells #[.int .i64 (p1 : Int), .int .i64 (n1 : Int)] 121) (blk_lt hRq)).trans hRq
                          have hR2 := (heap_alloc_old _ (.cells #[.int .i64 (p2 : Int), .int .i64 (n2 : Int)] 121) (blk_lt hR1)).trans hR1
                          have jq0 := blk_cell hR2 0
                          have jq1 := blk_cell hR2 1
                          go_wp2_with fail
                          refine bodyPost_ret (v := .tuple #[.agg #[.int .i64 0, .int .i64 0], .bool false]) (by simp [results, Tryz.results86, go_sem, jq0, jq1]) rfl (RStPost.none_ ?_ (unhide HF) (0, 0) rfl)
                          exact (((hb.setCell (p := ⟨w.heap.size, 0, none⟩) (Nat.le_refl _) _).setCell (p := ⟨w.heap.size, 1, none⟩) (Nat.le_refl _) _).alloc (by simp [World.setCell]; omega) _).alloc (by simp [World.setCell]; omega) _
                        | true =>
                          rw [hbb] at bb
                          have HAQ : Hid (stepR F false ss [114] tl = apartO (less p1 (2 ^ v) ||| p2, n1 ||| less n2 (2 ^ v))) := hide (by rw [unhide HAP, if_neg (by rw [hba, hbb]; simp), unhide HR2])
                          clear hba hbb
                          generalize less p1 (2 ^ v) ||| p2 = p at *
                          generalize n1 ||| less n2 (2 ^ v) = n at *
                          go_wp2_with fail
                          have hz0 : Below w.heap.size w (((wr.alloc (.cells #[.int .i64 (p1 : Int), .int .i64 (n1 : Int)] 121)).alloc (.cells #[.int .i64 (p2 : Int), .int .i64 (n2 : Int)] 121)).alloc (.cells #[.int .i64 (p : Int), .int .i64 (n : Int)] 121)) := ((hb.alloc (Nat.le_of_lt hbs0) _).alloc (by simp; omega) _).alloc (by simp; omega) _
                          have hz1 : (((wr.alloc (.cells #[.int .i64 (p1 : Int), .int .i64 (n1 : Int)] 121)).alloc (.cells #[.int .i64 (p2 : Int), .int .i64 (n2 : Int)] 121)).alloc (.cells #[.int .i64 (p : Int), .int .i64 (n : Int)] 121)).heap[w.heap.size]? = some (.cells #[.int .i64 0, .int .i64 0] 121 (0, 0)) := by
                            rw [heap_alloc_old _ _ (by simp; omega), heap_alloc_old _ _ (by simp; omega), heap_alloc_old _ _ hbs0]; exact hres
                          have hz2 : (((wr.alloc (.cells #[.int .i64 (p1 : Int), .int .i64 (n1 : Int)] 121)).alloc (.cells #[.int .i64 (p2 : Int), .int .i64 (n2 : Int)] 121)).alloc (.cells #[.int .i64 (p : Int), .int .i64 (n : Int)] 121)).heap[wr.heap.size + 1 + 1]? = some (.cells #[.int .i64 (p : Int), .int .i64 (n : Int)] 121 (0, 0)) := new_at (by simp)
                          generalize (((wr.alloc (.cells #[.int .i64 (p1 : Int), .int .i64 (n1 : Int)] 121)).alloc (.cells #[.int .i64 (p2 : Int), .int .i64 (n2 : Int)] 121)).alloc (.cells #[.int .i64 (p : Int), .int .i64 (n : Int)] 121)) = wz at *
                          have cz0 : wz.cell? ⟨wr.heap.size + 1 + 1, 0, none⟩ = some (.int .i64 p) := by rw [blk_cell hz2]; rfl
                          have cz1 : wz.cell? ⟨wr.heap.size + 1 + 1, 1, none⟩ = some (.int .i64 n) := by rw [blk_cell hz2]; rfl
                          have rz0 : wz.cell? ⟨w.heap.size, 0, none⟩ = some (.int .i64 0) := by rw [blk_cell hz1]; rfl
                          have rz1 : wz.cell? ⟨w.heap.size, 1, none⟩ = some (.int .i64 0) := by rw [blk_cell hz1]; rfl
                          have fz0 := blk_free hz1 0
                          have fz1 := blk_free hz1 1
                          have hczl := blk_lt hz2
                          have hne1 : w.heap.size ≠ wr.heap.size + 1 + 1 := by omega
                          have hne2 : wr.heap.size + 1 + 1 ≠ w.heap.size := by omega
                          clear hx0 hx1 hx2 hx3 kc0 kc1 kc2 r0 r1 zr0 zr1 n0 x1 x3 hq0 hq1 hp1 hq2 hq3 hp3 hq4 hp4 hq5 hp5 ba bb bu l1 l2 o1 o2
                          go_region
                          all_goals go_wp2_with fail
                          all_goals
                            have hRq := blk_set (blk_set hz1 0 (.int .i64 p)) 1 (.int .i64 n)
                            have jq0 := blk_cell hRq 0
                            have jq1 := blk_cell hRq 1
                            refine bodyPost_ret (v := .tuple #[.agg #[.int .i64 p, .int .i64 n], .bool (p &&& n == 0)]) (by simp [results, Tryz.results86, go_sem, jq0, jq1]) rfl ?_
                            have hB : Below w.heap.size w ((wz.setCell ⟨w.heap.size, 0, none⟩ (.int .i64 p)).setCell ⟨w.heap.size, 1, none⟩ (.int .i64 n)).drew := ((hz0.setCell (p := ⟨w.heap.size, 0, none⟩) (Nat.le_refl _) _).setCell (p := ⟨w.heap.size, 1, none⟩) (Nat.le_refl _) _).drew
                            cases hcl : (p &&& n == 0) with
                            | false => exact RStPost.none_ hB (by rw [unhide HAQ]; unfold apartO; rw [if_neg (by simpa using hcl)]) (p, n) rfl
                            | true => exact RStPost.some_ hB (p, n) (by rw [unhide HAQ]; unfold apartO; rw [if_pos (by simpa using hcl)]) rfl
                    | true =>
                      have HF : Hid (stepR F true ss [114] tl = none) := hide (by rw [unhide HAP, if_pos (Or.inl (by simp))])
                      have hRq := blk_set (blk_set hres 0 (.int .i64 0)) 1 (.int .i64 0)
                      have hR1 := (heap_alloc_old _ (.cells #[.int .i64 (p1 : Int), .int .i64 (n1 : Int)] 121) (blk_lt hRq)).trans hRq
                      have hR2 := (heap_alloc_old _ (.cells #[.int .i64 (p2 : Int), .int .i64 (n2 : Int)] 121) (blk_lt hR1)).trans hR1
                      have jq0 := blk_cell hR2 0
                      have jq1 := blk_cell hR2 1
                      go_wp2_with fail
                      refine bodyPost_ret (v := .tuple #[.agg #[.int .i64 0, .int .i64 0], .bool false]) (by simp [results, Tryz.results86, go_sem, jq0, jq1]) rfl (RStPost.none_ ?_ (unhide HF) (0, 0) rfl)
                      exact (((hb.setCell (p := ⟨w.heap.size, 0, none⟩) (Nat.le_refl _) _).setCell (p := ⟨w.heap.size, 1, none⟩) (Nat.le_refl _) _).alloc (by simp [World.setCell]; omega) _).alloc (by simp [World.setCell]; omega) _
                  | true =>
                    rw [hbu] at bu HAP
                    cases truth with
                    | false =>
                      have HF : Hid (stepR F false ss [114] tl = none) := hide (by rw [unhide HAP, if_pos (Or.inl (by simp))])
                      have hRq := blk_set (blk_set hres 0 (.int .i64 0)) 1 (.int .i64 0)
                      have hR1 := (heap_alloc_old _ (.cells #[.int .i64 (p1 : Int), .int .i64 (n1 : Int)] 121) (blk_lt hRq)).trans hRq
                      have hR2 := (heap_alloc_old _ (.cells #[.int .i64 (p2 : Int), .int .i64 (n2 : Int)] 121) (blk_lt hR1)).trans hR1
                      have jq0 := blk_cell hR2 0
                      have jq1 := blk_cell hR2 1
                      go_wp2_with fail
                      refine bodyPost_ret (v := .tuple #[.agg #[.int .i64 0, .int .i64 0], .bool false]) (by simp [results, Tryz.results86, go_sem, jq0, jq1]) rfl (RStPost.none_ ?_ (unhide HF) (0, 0) rfl)
                      exact (((hb.setCell (p := ⟨w.heap.size, 0, none⟩) (Nat.le_refl _) _).setCell (p := ⟨w.heap.size, 1, none⟩) (Nat.le_refl _) _).alloc (by simp [World.setCell]; omega) _).alloc (by simp [World.setCell]; omega) _
                    | true =>
                      cases hba : p1.testBit v with
                      | false =>
                        rw [hba] at ba
                        have HF : Hid (stepR F true ss [114] tl = none) := hide (by rw [unhide HAP, if_pos (Or.inr (Or.inl hba))])
                        clear hba
                        have hRq := blk_set (blk_set hres 0 (.int .i64 0)) 1 (.int .i64 0)
                        have hR1 := (heap_alloc_old _ (.cells #[.int .i64 (p1 : Int), .int .i64 (n1 : Int)] 121) (blk_lt hRq)).trans hRq
                        have hR2 := (heap_alloc_old _ (.cells #[.int .i64 (p2 : Int), .int .i64 (n2 : Int)] 121) (blk_lt hR1)).trans hR1
                        have jq0 := blk_cell hR2 0
                        have jq1 := blk_cell hR2 1
                        go_wp2_with fail
                        refine bodyPost_ret (v := .tuple #[.agg #[.int .i64 0, .int .i64 0], .bool false]) (by simp [results, Tryz.results86, go_sem, jq0, jq1]) rfl (RStPost.none_ ?_ (unhide HF) (0, 0) rfl)
                        exact (((hb.setCell (p := ⟨w.heap.size, 0, none⟩) (Nat.le_refl _) _).setCell (p := ⟨w.heap.size, 1, none⟩) (Nat.le_refl _) _).alloc (by simp [World.setCell]; omega) _).alloc (by simp [World.setCell]; omega) _
                      | true =>
                        rw [hba] at ba
                        cases hbb : n2.testBit v with
                        | false =>
                          rw [hbb] at bb
                          have HF : Hid (stepR F true ss [114] tl = none) := hide (by rw [unhide HAP, if_pos (Or.inr (Or.inr hbb))])
                          clear hba hbb
                          have hRq := blk_set (blk_set hres 0 (.int .i64 0)) 1 (.int .i64 0)
                          have hR1 := (heap_alloc_old _ (.cells #[.int .i64 (p1 : Int), .int .i64 (n1 : Int)] 121) (blk_lt hRq)).trans hRq
                          have hR2 := (heap_alloc_old _ (.cells #[.int .i64 (p2 : Int), .int .i64 (n2 : Int)] 121) (blk_lt hR1)).trans hR1
                          have jq0 := blk_cell hR2 0
                          have jq1 := blk_cell hR2 1
                          go_wp2_with fail
                          refine bodyPost_ret (v := .tuple #[.agg #[.int .i64 0, .int .i64 0], .bool false]) (by simp [results, Tryz.results86, go_sem, jq0, jq1]) rfl (RStPost.none_ ?_ (unhide HF) (0, 0) rfl)
                          exact (((hb.setCell (p := ⟨w.heap.size, 0, none⟩) (Nat.le_refl _) _).setCell (p := ⟨w.heap.size, 1, none⟩) (Nat.le_refl _) _).alloc (by simp [World.setCell]; omega) _).alloc (by simp [World.setCell]; omega) _
                        | true =>
                          rw [hbb] at bb
                          have HAQ : Hid (stepR F true ss [114] tl = apartO (less p1 (2 ^ v) ||| p2, n1 ||| less n2 (2 ^ v))) := hide (by rw [unhide HAP, if_neg (by rw [hba, hbb]; simp), unhide HR2])
                          clear hba hbb
                          generalize less p1 (2 ^ v) ||| p2 = p at *
                          generalize n1 ||| less n2 (2 ^ v) = n at *
                          go_wp2_with fail
                          have hz0 : Below w.heap.size w (((wr.alloc (.cells #[.int .i64 (p1 : Int), .int .i64 (n1 : Int)] 121)).alloc (.cells #[.int .i64 (p2 : Int), .int .i64 (n2 : Int)] 121)).alloc (.cells #[.int .i64 (p : Int), .int .i64 (n : Int)] 121)) := ((hb.alloc (Nat.le_of_lt hbs0) _).alloc (by simp; omega) _).alloc (by simp; omega) _
                          have hz1 : (((wr.alloc (.cells #[.int .i64 (p1 : Int), .int .i64 (n1 : Int)] 121)).alloc (.cells #[.int .i64 (p2 : Int), .int .i64 (n2 : Int)] 121)).alloc (.cells #[.int .i64 (p : Int), .int .i64 (n : Int)] 121)).heap[w.heap.size]? = some (.cells #[.int .i64 0, .int .i64 0] 121 (0, 0)) := by
                            rw [heap_alloc_old _ _ (by simp; omega), heap_alloc_old _ _ (by simp; omega), heap_alloc_old _ _ hbs0]; exact hres
                          have hz2 : (((wr.alloc (.cells #[.int .i64 (p1 : Int), .int .i64 (n1 : Int)] 121)).alloc (.cells #[.int .i64 (p2 : Int), .int .i64 (n2 : Int)] 121)).alloc (.cells #[.int .i64 (p : Int), .int .i64 (n : Int)] 121)).heap[wr.heap.size + 1 + 1]? = some (.cells #[.int .i64 (p : Int), .int .i64 (n : Int)] 121 (0, 0)) := new_at (by simp)
                          generalize (((wr.alloc (.cells #[.int .i64 (p1 : Int), .int .i64 (n1 : Int)] 121)).alloc (.cells #[.int .i64 (p2 : Int), .int .i64 (n2 : Int)] 121)).alloc (.cells #[.int .i64 (p : Int), .int .i64 (n : Int)] 121)) = wz at *
                          have cz0 : wz.cell? ⟨wr.heap.size + 1 + 1, 0, none⟩ = some (.int .i64 p) := by rw [blk_cell hz2]; rfl
                          have cz1 : wz.cell? ⟨wr.heap.size + 1 + 1, 1, none⟩ = some (.int .i64 n) := by rw [blk_cell hz2]; rfl
                          have rz0 : wz.cell? ⟨w.heap.size, 0, none⟩ = some (.int .i64 0) := by rw [blk_cell hz1]; rfl
                          have rz1 : wz.cell? ⟨w.heap.size, 1, none⟩ = some (.int .i64 0) := by rw [blk_cell hz1]; rfl
                          have fz0 := blk_free hz1 0
                          have fz1 := blk_free hz1 1
                          have hczl := blk_lt hz2
                          have hne1 : w.heap.size ≠ wr.heap.size + 1 + 1 := by omega
                          have hne2 : wr.heap.size + 1 + 1 ≠ w.heap.size := by omega
                          clear hx0 hx1 hx2 hx3 kc0 kc1 kc2 r0 r1 zr0 zr1 n0 x1 x3 hq0 hq1 hp1 hq2 hq3 hp3 hq4 hp4 hq5 hp5 ba bb bu l1 l2 o1 o2
                          go_region
                          all_goals go_wp2_with fail
                          all_goals
                            have hRq := blk_set (blk_set hz1 0 (.int .i64 p)) 1 (.int .i64 n)
                            have jq0 := blk_cell hRq 0
                            have jq1 := blk_cell hRq 1
                            refine bodyPost_ret (v := .tuple #[.agg #[.int .i64 p, .int .i64 n], .bool (p &&& n == 0)]) (by simp [results, Tryz.results86, go_sem, jq0, jq1]) rfl ?_
                            have hB : Below w.heap.size w ((wz.setCell ⟨w.heap.size, 0, none⟩ (.int .i64 p)).setCell ⟨w.heap.size, 1, none⟩ (.int .i64 n)).drew := ((hz0.setCell (p := ⟨w.heap.size, 0, none⟩) (Nat.le_refl _) _).setCell (p := ⟨w.heap.size, 1, none⟩) (Nat.le_refl _) _).drew
                            cases hcl : (p &&& n == 0) with
                            | false => exact RStPost.none_ hB (by rw [unhide HAQ]; unfold apartO; rw [if_neg (by simpa using hcl)]) (p, n) rfl
                            | true => exact RStPost.some_ hB (p, n) (by rw [unhide HAQ]; unfold apartO; rw [if_pos (by simpa using hcl)]) rfl
end Go.Proofs.YtgipjjhkhfihpaaGreatDoor

namespace Go.Proofs.YtgipjjhkhfihpaaGreatDoor
open Go.RowKit

theorem step_any (lo b : Nat) (F : Form) (ss : List (Nat × Nat)) (aS : Option Addr) (cS : Nat) (lS : Nat) (truth : Bool) (hd : List UInt8) (tl : List (List UInt8)) (g off cap : Nat) (w : World) (hIn : StepIn lo b F ss aS cS lS hd tl g off cap w) :
    Calls Tryz.prog 86 #[.pointer (some ⟨b, 0, none⟩), .slice aS ss.length cS, .slice (some ⟨g, off, none⟩) (tl.length + 1) cap, .bool truth] w fun e w' => RStPost (stepR F truth ss hd tl) w e w' := by
  by_cases h1 : hd = [97] ∧ truth = false ∧ tl.length = 1
  · exact step_a lo b F ss aS cS lS truth hd tl g off cap w hIn h1.1 h1.2.1 h1.2.2
  · by_cases h2 : hd = [99] ∧ truth = true
    · exact step_c lo b F ss aS cS lS truth hd tl g off cap w hIn h2.1 h2.2
    · by_cases h3 : hd = [114] ∧ tl.length = 3
      · exact step_r lo b F ss aS cS lS truth hd tl g off cap w hIn h3.1 h3.2
      · by_cases h4 : hd = [100] ∧ tl.length = 1
        · exact step_d lo b F ss aS cS lS truth hd tl g off cap w hIn h4.1 h4.2
        · exact step_none lo b F ss aS cS lS truth hd tl g off cap w hIn ⟨h1, h2, h3, h4⟩
end Go.Proofs.YtgipjjhkhfihpaaGreatDoor

namespace Go.Proofs.YtgipjjhkhfihpaaGreatDoor
open Go.RowKit

/-! ### Proves -/
theorem rowsR_append (F : Form) (truth : Bool) (a b : List (List UInt8)) : ∀ (ss : List (Nat × Nat)) (n : Nat), rowsR F truth ss n (a ++ b) = match rowsR F truth ss n a with
    | .inr i => .inr i
    | .inl ss' => rowsR F truth ss' (n + a.length) b := by
  induction a with
  | nil => intro ss n; rfl
  | cons r a ih =>
    intro ss n
    rw [List.cons_append, rowsR, rowsR]
    cases lineR F truth ss r with
    | none => rfl
    | some c =>
      dsimp only
      rw [ih, show n + 1 + a.length = n + (r :: a).length from by simp; omega]
theorem twoR_snoc (rs : List (List UInt8)) (r : List UInt8) : twoR (rs ++ [r]) = twoR rs + (if isTwo r then 1 else 0) := by
  unfold twoR
  rw [List.filter_append, List.length_append]
  congr 1
  cases h : isTwo r <;> simp [h]
/-- What Proves holds behind some lines. -/
def PState (F : Form) (rows : List (List UInt8)) (truth : Bool) (ss : List (Nat × Nat)) (two : Nat) : Prop :=
  (rows = [] ∧ truth = false ∧ ss = [] ∧ two = 0) ∨ ∃ r0 rs, rows = r0 :: rs ∧ (r0 = sTrue ∨ r0 = sFalse) ∧ truth = (r0 == sTrue) ∧ rowsR F truth [] 1 rs = .inl ss ∧ two = twoR rs
theorem twoR_le (rs : List (List UInt8)) : twoR rs ≤ rs.length := List.length_filter_le _ _
theorem PState.two_le {F : Form} {rows : List (List UInt8)} {truth : Bool} {ss : List (Nat × Nat)} {two : Nat} (h : PState F rows truth ss two) : two ≤ rows.length := by
  rcases h with ⟨_, _, _, rfl⟩ | ⟨r0, rs, rfl, _, _, _, rfl⟩
  · omega
  · have := twoR_le rs; simp; omega
/-- The first line is none. -/
theorem proves_first (F : Form) (l : List UInt8) (hl : ¬ 262144 < l.length) (row : List UInt8) (hp : [row] <+: (cutTo 10 l).1) (hr : ¬ (row = sTrue ∨ row = sFalse)) : provesR F l = .inl (5, 1) := by
  obtain ⟨rest, hrest⟩ := hp
  unfold provesR
  rw [if_neg hl, ← hrest]
  show (if row = sTrue ∨ row = sFalse then _ else _) = _
  rw [if_neg hr]
/-- A line further on is none. -/
theorem proves_line (F : Form) (l : List UInt8) (hl : ¬ 262144 < l.length) (r0 row : List UInt8) (rs : List (List UInt8)) (ss : List (Nat × Nat)) (hp : (r0 :: rs ++ [row]) <+: (cutTo 10 l).1) (hr : r0 = sTrue ∨ r0 = sFalse) (hrs : rowsR F (r0 == sTrue) [] 1 rs = .inl ss) (hn : lineR F (r0 == sTrue) ss row = none) : provesR F l = .inl (5, rs.length + 2) := by
  obtain ⟨rest, hrest⟩ := hp
  unfold provesR
  rw [if_neg hl, ← hrest, List.cons_append, List.cons_append]
  dsimp only
  rw [if_pos hr, List.append_assoc, rowsR_append, hrs]
  dsimp only
  rw [List.singleton_append, rowsR, hn]
  dsimp only
  rw [show 1 + rs.length + 1 = rs.length + 2 from by omega]
/-- All lines are steps. -/
theorem proves_end (F : Form) (l : List UInt8) (hl : ¬ 262144 < l.length) (truth : Bool) (ss : List (Nat × Nat)) (two : Nat) (h : PState F (cutTo 10 l).1 truth ss two) : provesR F l = if (cutTo 10 l).2 = [] ∧ emptyLast ss = true then .inr (truth, two) else .inl (5, (cutTo 10 l).1.length + 1) := by
  unfold provesR
  rw [if_neg hl]
  rcases h with ⟨h1, h2, h3, h4⟩ | ⟨r0, rs, h1, h2, h3, h4, h5⟩
  · rw [h1, h3]
    dsimp only
    rw [if_neg (by intro h; cases h.2)]
    rfl
  · rw [h1]
    dsimp only
    rw [if_pos h2, ← h3, h4, h5]
    rfl
theorem PState.step {F : Form} {rows : List (List UInt8)} {truth : Bool} {ss : List (Nat × Nat)} {two : Nat} (h : PState F rows truth ss two) (hne : rows ≠ []) (row : List UInt8) (c : Nat × Nat) (hl : lineR F truth ss row = some c) : PState F (rows ++ [row]) truth (ss ++ [c]) (two + if isTwo row then 1 else 0) := by
  rcases h with ⟨h1, _⟩ | ⟨r0, rs, h1, h2, h3, h4, h5⟩
  · exact absurd h1 hne
  · refine Or.inr ⟨r0, rs ++ [row], by rw [h1]; rfl, h2, h3, ?_, by rw [h5, twoR_snoc]⟩
    rw [rowsR_append, h4]
    dsimp only
    rw [rowsR, hl]
    rfl
theorem step_le {F : Form} {truth : Bool} {ss : List (Nat × Nat)} {row : List UInt8} {c : Nat × Nat} (h : lineR F truth ss row = some c) (hs : ss.length ≤ 9000) : ss.length + 1 ≤ 9000 := by
  unfold lineR at h
  split at h
  · cases h
  · split at h
    · cases h
    · next h9 => omega

def ProvesPost (F : Form) (l : List UInt8) (w : World) (e : Ending) (w' : World) : Prop :=
  Below w.heap.size w w' ∧ match provesR F l with
    | .inl (x, i) => e = .returned (.tuple #[.int .i64 0, .int .i64 (x : Int), .int .i64 (i : Int), .int .i64 0])
    | .inr (truth, two) => e = .returned (.tuple #[.int .i64 (if truth then 2 else 1), .int .i64 0, .int .i64 0, .int .i64 (two : Int)])

attribute [local go_sem] ba_get

set_option maxRecDepth 100000 in
set_option maxHeartbeats 12800000 in
theorem proves_any (lo b : Nat) (F : Form) (l : List UInt8) (w : World) (hR : RefAt lo w b F) (hF : FW F) :
    Calls Tryz.prog 57 #[.pointer (some ⟨b, 0, none⟩), .string ⟨l.toArray⟩] w fun e w' => ProvesPost F l w e w' := by
  by_cases hlong : 262144 < l.length
  · have hd : decide ((262144 : Int) < (l.length : Int)) = true := by simp; omega
    have HF : Hid (provesR F l = .inl (1, 0)) := hide (by unfold provesR; rw [if_pos hlong])
    clear hlong
    go_enter Tryz.func57, Tryz.ntmps57
    go_wp2_with fail
    refine bodyPost_ret (v := .tuple #[.int .i64 0, .int .i64 1, .int .i64 0, .int .i64 0]) (by simp [results, Tryz.results57, go_sem]) rfl ⟨Below.refl _ _, by rw [unhide HF]; rfl⟩
  · have hd : decide ((262144 : Int) < (l.length : Int)) = false := by simp; omega
    have hll : l.length ≤ 262144 := by omega
    have HLG := hide hlong
    clear hlong
    obtain ⟨i0, hi, hz0, hz1, hz2⟩ := info_parts Tryz.info121
    have HFW := hide hF
    have HBIT := hide hF.bits
    clear hF
    go_enter Tryz.func57, Tryz.ntmps57
    go_wp2_with fail
    go_loopg [8, 9, 10, 11, 12, 13] l.length (fun m tr v tw nn t i wx => ∃ (k s : Nat) (truth : Bool) (ss : List (Nat × Nat)) (two : Nat) (tt : List UInt8), i = .int .i64 k ∧ k + m = l.length ∧ tr = .bool truth ∧ tw = .int .i64 two ∧ nn = .int .i64 ((cutTo 10 (l.take k)).1.length : Nat) ∧ t = S tt ∧ tt.length = s ∧ s + (cutTo 10 (l.take k)).2.length = k ∧
      wx.ownsRow w.heap.size 121 2 v ss.length (pairs ss) ∧ Below w.heap.size w wx ∧ PState F (cutTo 10 (l.take k)).1 truth ss two ∧ ss.length ≤ 9000 ∧ (∀ c ∈ ss, Bd c))
    case atStart => exact ⟨0, 0, false, [], 0, [], rfl, by omega, rfl, rfl, rfl, rfl, rfl, rfl, World.ownsRow_nil _ _ _ _, Below.refl _ _, Or.inl ⟨rfl, rfl, rfl, rfl⟩, by simp, by simp⟩
    case round =>
      obtain ⟨k, s, truth, ss, two, tt, rfl, hkm, rfl, rfl, rfl, rfl, hts, hsk, hown, hb, hst, hs9, hbd⟩ := hrel
      have HST := hide hst
      have HBD := hide hbd
      have HSK := hide hsk
      have htl := hst.two_le
      have hcs := cutTo_size 10 (l.take k)
      rw [List.length_take] at hcs
      have hsle : s ≤ k := by omega
      have HP := hide (cut_piece 10 l k s (by omega) hsk)
      clear hst hbd hsk
      have hbs := hb.size
      obtain ⟨aS, cS, rfl⟩ := own_form hown
      by_cases hlt : k < l.length
      · have hdl : decide ((k : Int) < (l.length : Int)) = true := by simp; omega
        by_cases hc : l[k] = 10
        · have hcb : ((l[k].toNat : Int) != 10) = false := by rw [hc]; rfl
          have HCT : Hid (cutTo 10 (l.take (k + 1)) = ((cutTo 10 (l.take k)).1 ++ [(cutTo 10 (l.take k)).2], [])) := hide (by rw [cutTo_take 10 l k hlt]; unfold cutStep; rw [if_pos hc])
          have HPX := hide (cutTo_prefix 10 l (k + 1))
          rw [unhide HCT] at HPX
          have htx : (ByteArray.mk l.toArray).extract 0 (k + 1) = ⟨(l.take (k + 1)).toArray⟩ := by rw [ba_extract]; rfl
          have hrw : (ByteArray.mk l.toArray).extract s k = ⟨((cutTo 10 (l.take k)).2).toArray⟩ := by rw [ba_extract, unhide HP]
          have hrl : (cutTo 10 (l.take k)).2.length ≤ 262144 := by omega
          have hrn : (cutTo 10 (l.take k)).1.length ≤ 262144 := by omega
          clear hc
          generalize (cutTo 10 (l.take k)).2 = row at *
          generalize hrows : (cutTo 10 (l.take k)).1 = rows at *
          clear hrows
          by_cases hr0 : rows.length = 0
          · have hz : rows = [] := List.eq_nil_of_length_eq_zero hr0
            subst hz
            rcases unhide HST with ⟨_, htr, hss, htw⟩ | ⟨r0, rs, h1, _⟩
            · subst htr hss htw
              by_cases ht : row = sTrue
              · have hrt : (row == [112, 114, 111, 111, 102, 32, 116, 114, 117, 101]) = true := by rw [ht]; rfl
                have HST2 : Hid (PState F [row] true [] 0) := hide (Or.inr ⟨row, [], rfl, Or.inl ht, by rw [ht]; rfl, rfl, rfl⟩)
                clear ht
                go_wp2_with fail
                go_roundg (gk - 1)
                case measure => omega
                case rel =>
                  refine ⟨k + 1, k + 1, true, [], 0, l.take (k + 1), by go_num, by omega, rfl, rfl, by rw [unhide HCT]; rfl, rfl, by simp; omega, by rw [unhide HCT]; rfl, hown, hb, ?_, hs9, unhide HBD⟩
                  rw [unhide HCT]; exact unhide HST2
              · have hrt : (row == [112, 114, 111, 111, 102, 32, 116, 114, 117, 101]) = false := by rw [beq_eq_false_iff_ne]; exact ht
                by_cases hf : row = sFalse
                · have hrf : (row == [112, 114, 111, 111, 102, 32, 102, 97, 108, 115, 101]) = true := by rw [hf]; rfl
                  have HST2 : Hid (PState F [row] false [] 0) := hide (Or.inr ⟨row, [], rfl, Or.inr hf, by rw [hf]; rfl, rfl, rfl⟩)
                  clear ht hf
                  go_wp2_with fail
                  go_roundg (gk - 1)
                  case measure => omega
                  case rel =>
                    refine ⟨k + 1, k + 1, false, [], 0, l.take (k + 1), by go_num, by omega, rfl, rfl, by rw [unhide HCT]; rfl, rfl, by simp; omega, by rw [unhide HCT]; rfl, hown, hb, ?_, hs9, unhide HBD⟩
                    rw [unhide HCT]; exact unhide HST2
                · have hrf : (row == [112, 114, 111, 111, 102, 32, 102, 97, 108, 115, 101]) = false := by rw [beq_eq_false_iff_ne]; exact hf
                  have HF : Hid (provesR F l = .inl (5, 1)) := hide (proves_first F l (unhide HLG) row (unhide HPX) (fun h => h.elim ht hf))
                  clear ht hf
                  go_wp2_with fail
                  refine bodyPost_ret (v := .tuple #[.int .i64 0, .int .i64 5, .int .i64 1, .int .i64 0]) (by simp [results, Tryz.results57, go_sem]) rfl ⟨hb, by rw [unhide HF]; rfl⟩
            · cases h1
          · have hn1 : (((rows.length : Nat) : Int) + 1 == 1) = false := by rw [beq_eq_false_iff_ne]; omega
            have HNE : Hid (rows ≠ []) := hide (fun e => hr0 (by rw [e]; rfl))
            clear hr0
            have HNONE : Hid (lineR F truth ss row = none → provesR F l = .inl (5, rows.length + 1)) := hide (fun hn => by
              rcases unhide HST with ⟨h1, _⟩ | ⟨r0, rs, h1, h2, h3, h4, _⟩
              · exact absurd h1 (unhide HNE)
              · have hpx := unhide HPX
                rw [h1] at hpx ⊢
                rw [h3] at h4 hn
                exact proves_line F l (unhide HLG) r0 row rs ss hpx h2 h4 hn)
            go_wp2_with fail
            refine (cut_any row 32 wr (by omega)).mono ?_
            rintro e w1 ⟨v, rfl, hown1, hb1⟩
            have hB1 : Below w.heap.size w w1 := hb.trans (hb1.mono hbs)
            have hwl : (cutAt 32 row).length ≤ 262145 := by have := cutTo_size 32 row; simp [cutAt]; omega
            have hwl2 : ∀ x ∈ cutAt 32 row, x.length ≤ 1048576 := fun x hx => by have := cutAt_len 32 row x hx; omega
            obtain ⟨hd, tl, hws⟩ : ∃ hd tl, cutAt 32 row = hd :: tl := by
              cases h : cutAt 32 row with
              | nil => simp [cutAt] at h
              | cons a b => exact ⟨a, b, rfl⟩
            have HLR := hide (lineR_eq F truth ss row hd tl hws)
            have HTWO : Hid (isTwo row = (hd == [114])) := hide (by unfold isTwo; rw [hws]; rfl)
            rw [hws] at hown1 hwl hwl2
            clear hws
            rcases hown1.2 with ⟨_, h0⟩ | ⟨g, cap, cur, rfl, hbg, hg, hnc, hcm, hcs2, htake⟩
            · simp at h0
            simp only [List.length_cons] at hwl hnc
            have hSTR : StrsAt w1 (some ⟨g, 0, none⟩) (hd :: tl) := fun _ => ⟨g, 0, cur, rfl, hg, fun j hj => by
              have h1 := hown1.cellAt j (by simpa using hj)
              rw [blk_cell hg] at h1
              rw [Nat.zero_add, h1, List.getElem?_map, List.getElem?_eq_getElem hj]; rfl⟩
            have hIn : StepIn lo b F ss aS cS w.heap.size hd tl g 0 cap w1 := ⟨hR.later hB1, unhide HFW, own_below hown hb1, hs9, unhide HBD, hSTR, by omega, by omega, fun x hx => hwl2 x (List.mem_cons_of_mem _ hx)⟩
            have HIN := hide hIn
            have hwc : w1.cell? ⟨g, 0, none⟩ = some (S hd) := by rw [hown1.cellAt 0 (by simp)]; rfl
            have hownw := own_below hown hb1
            have hgw := blk_lt hg
            clear hwl2 htake hcs2 hcm hIn hSTR hown1
            simp only [List.length_cons]
            go_wp2_with fail
            refine (step_any lo b F ss aS cS w.heap.size truth hd tl g 0 cap w1 (unhide HIN)).mono ?_
            rintro e w2 ⟨hb2, c, ok, rfl, hok⟩
            obtain ⟨p, n⟩ := c
            dsimp only
            have hB2 : Below w.heap.size w w2 := hB1.trans (hb2.mono hB1.size)
            have hBz : Below w.heap.size w (w2.alloc (.cells #[.int .i64 (p : Int), .int .i64 (n : Int)] 121)) := hB2.alloc hB2.size _
            have hownz : (w2.alloc (.cells #[.int .i64 (p : Int), .int .i64 (n : Int)] 121)).ownsRow w.heap.size 121 2 (.slice aS ss.length cS) ss.length (pairs ss) := (own_below hownw hb2).alloc _
            have hbsz := hBz.size
            have hwc2 : w2.cell? ⟨g, 0, none⟩ = some (S hd) := by rw [hb2.cell (p := ⟨g, 0, none⟩) hgw]; exact hwc
            have hgw2 : g < w2.heap.size := cell_lt hwc2
            rcases hok with ⟨rfl, hok⟩ | ⟨rfl, hok⟩
            · by_cases h9 : ss.length = 9000
              · have hq9 : ((ss.length : Int) == 9000) = true := by rw [beq_iff_eq]; omega
                have HF : Hid (provesR F l = .inl (5, rows.length + 1)) := hide (unhide HNONE (by rw [unhide HLR, if_pos h9]))
                clear hok h9
                go_wp2_with fail
                refine bodyPost_ret (v := .tuple #[.int .i64 0, .int .i64 5, .int .i64 ((rows.length : Int) + 1), .int .i64 0]) (by simp [results, Tryz.results57, go_sem]) rfl ⟨hBz, ?_⟩
                rw [unhide HF]; exact congrArg (fun m : Int => Ending.returned (.tuple #[.int .i64 0, .int .i64 5, .int .i64 m, .int .i64 0])) (by simp)
              · have hq9 : ((ss.length : Int) == 9000) = false := by rw [beq_eq_false_iff_ne]; omega
                have HLS : Hid (lineR F truth ss row = some (p, n)) := hide (by rw [unhide HLR, if_neg h9]; exact hok)
                have HCB : Hid (Bd (p, n)) := hide (stepR_bd F truth ss hd tl (p, n) (unhide HBIT) (unhide HBD) hok)
                clear hok h9
                by_cases hr : hd = [114]
                · subst hr
                  have HTW : Hid ((if isTwo row then 1 else 0) = 1) := hide (by rw [unhide HTWO]; rfl)
                  go_wp2_with (at_builtin; refine wpList_append_new' rfl _ _ 90 rfl w.heap.size i0 (.agg #[.int .i64 0, .int .i64 0]) 2 16 Tryz.underlying90 hi hz0 hz1 hz2 rfl (by decide) _ _ _ hownz rfl _ rfl (by simp) rfl (by simp [Value.oneCell']) (by unfold maxLen; omega) (by omega) hbsz ?_; intro v' w4 hown4 hgrow hnn)
                  go_roundg (gk - 1)
                  case measure => omega
                  case rel =>
                    refine ⟨k + 1, k + 1, truth, ss ++ [(p, n)], two + 1, l.take (k + 1), by go_num, by omega, rfl, by go_num, by rw [unhide HCT]; exact congrArg (Value.int .i64) (by simp), rfl, by simp; omega, by rw [unhide HCT]; rfl, ?_, below_grown hBz hgrow hownz (Nat.le_refl _) hbsz, ?_, ?_, ?_⟩
                    · rw [pairs_snoc]; simpa using hown4
                    · rw [unhide HCT]
                      have := (unhide HST).step (unhide HNE) row (p, n) (unhide HLS)
                      rw [unhide HTW] at this
                      exact this
                    · have := step_le (unhide HLS) hs9; simpa using this
                    · intro c hc
                      rcases List.mem_append.1 hc with hc | hc
                      · exact unhide HBD c hc
                      · simp at hc; subst hc; exact unhide HCB
                · have hrb : (hd == [114]) = false := by simp [hr]
                  have HTW : Hid ((if isTwo row then 1 else 0) = 0) := hide (by rw [unhide HTWO, hrb]; rfl)
                  clear hr
                  go_wp2_with (at_builtin; refine wpList_append_new' rfl _ _ 90 rfl w.heap.size i0 (.agg #[.int .i64 0, .int .i64 0]) 2 16 Tryz.underlying90 hi hz0 hz1 hz2 rfl (by decide) _ _ _ hownz rfl _ rfl (by simp) rfl (by simp [Value.oneCell']) (by unfold maxLen; omega) (by omega) hbsz ?_; intro v' w4 hown4 hgrow hnn)
                  go_roundg (gk - 1)
                  case measure => omega
                  case rel =>
                    refine ⟨k + 1, k + 1, truth, ss ++ [(p, n)], two, l.take (k + 1), by go_num, by omega, rfl, rfl, by rw [unhide HCT]; exact congrArg (Value.int .i64) (by simp), rfl, by simp; omega, by rw [unhide HCT]; rfl, ?_, below_grown hBz hgrow hownz (Nat.le_refl _) hbsz, ?_, ?_, ?_⟩
                    · rw [pairs_snoc]; simpa using hown4
                    · rw [unhide HCT]
                      have := (unhide HST).step (unhide HNE) row (p, n) (unhide HLS)
                      rw [unhide HTW] at this
                      exact this
                    · have := step_le (unhide HLS) hs9; simpa using this
                    · intro c hc
                      rcases List.mem_append.1 hc with hc | hc
                      · exact unhide HBD c hc
                      · simp at hc; subst hc; exact unhide HCB
            · have HF : Hid (provesR F l = .inl (5, rows.length + 1)) := hide (unhide HNONE (by
                rw [unhide HLR]
                split
                · rfl
                · exact hok))
              clear hok
              go_wp2_with fail
              refine bodyPost_ret (v := .tuple #[.int .i64 0, .int .i64 5, .int .i64 ((rows.length : Int) + 1), .int .i64 0]) (by simp [results, Tryz.results57, go_sem]) rfl ⟨hBz, ?_⟩
              rw [unhide HF]; exact congrArg (fun m : Int => Ending.returned (.tuple #[.int .i64 0, .int .i64 5, .int .i64 m, .int .i64 0])) (by simp)
        · have hcb : ((l[k].toNat : Int) != 10) = true := by
            rw [bne_iff_ne]; intro e; exact hc (by apply UInt8.toNat_inj.1; show _ = 10; omega)
          have HCT : Hid (cutTo 10 (l.take (k + 1)) = ((cutTo 10 (l.take k)).1, (cutTo 10 (l.take k)).2 ++ [l[k]])) := hide (by rw [cutTo_take 10 l k hlt]; unfold cutStep; rw [if_neg hc])
          clear hc
          go_wp2_with fail
          go_roundg (gk - 1)
          case measure => omega
          case rel =>
            refine ⟨k + 1, s, truth, ss, two, tt, by go_num, by omega, rfl, rfl, by rw [unhide HCT], rfl, hts, ?_, hown, hb, ?_, hs9, unhide HBD⟩
            · rw [unhide HCT]; have := unhide HSK; simp; omega
            · rw [unhide HCT]; exact unhide HST
      · have hkl : k = l.length := by omega
        subst hkl
        have HT : Hid (l.take l.length = l) := hide List.take_length
        rw [unhide HT] at HST HSK hcs ⊢
        have hdl : decide ((l.length : Int) < (l.length : Int)) = false := by simp
        have HEND := hide (proves_end F l (unhide HLG) truth ss two (unhide HST))
        have hrn : (cutTo 10 l).1.length ≤ 262144 := by omega
        clear HP
        by_cases htail : (cutTo 10 l).2 = []
        · have hsl : ¬ s < l.length := by have := unhide HSK; rw [htail] at this; simp at this; omega
          have hq1 : decide ((s : Int) < (l.length : Int)) = false := by simp; omega
          have hq2 : decide (s < l.length) = false := by simp; omega
          by_cases hss : ss = []
          · have HF : Hid (provesR F l = .inl (5, (cutTo 10 l).1.length + 1)) := hide (by rw [unhide HEND, hss, if_neg (by intro h; cases h.2)])
            subst hss
            clear htail hsl
            go_wp2_with fail
            go_quiet (fail)
            go_wp2_with fail
            refine bodyPost_ret (v := .tuple #[.int .i64 0, .int .i64 5, .int .i64 (((cutTo 10 l).1.length : Int) + 1), .int .i64 0]) (by simp [results, Tryz.results57, go_sem]) rfl ⟨below_drewN hb nq, ?_⟩
            rw [unhide HF]; exact congrArg (fun m : Int => Ending.returned (.tuple #[.int .i64 0, .int .i64 5, .int .i64 m, .int .i64 0])) (by simp)
          · have hpos : 0 < ss.length := List.length_pos_iff.2 hss
            obtain ⟨m, hm⟩ : ∃ m, ss.length = m + 1 := ⟨ss.length - 1, by omega⟩
            have hml : m < ss.length := by omega
            have HEL : Hid (emptyLast ss = (ss[m].1 ||| ss[m].2 == 0)) := hide (by
              unfold emptyLast
              have : ss.getLast? = some ss[m] := by rw [List.getLast?_eq_getElem?, show ss.length - 1 = m from by omega, List.getElem?_eq_getElem hml]
              rw [this])
            obtain ⟨g, cap, hVe, hg, hg', _, hcell⟩ := own_pos hown (by omega)
            injection hVe with hVe _ hV2
            subst hVe hV2
            obtain ⟨ha, hb'⟩ := pairs_at ss m hml
            have hx0 : wr.cell? ⟨g, m * 2, none⟩ = some (.int .i64 (ss[m].1 : Int)) := hcell _ _ ha
            have hx1 : wr.cell? ⟨g, m * 2 + 1, none⟩ = some (.int .i64 (ss[m].2 : Int)) := hcell _ _ hb'
            have hlt9 := unhide HBD _ (List.getElem_mem hml)
            clear hcell ha hb' hss hpos
            generalize ss[m] = c at *
            obtain ⟨p, n⟩ := c
            have hp9 : p < 512 := hlt9.1
            have hn9 : n < 512 := hlt9.2
            dsimp only at hx0 hx1 HEL
            have hor : bits .or .i64 (p : Int) (n : Int) = ((p ||| n : Nat) : Int) := i64_or _ _ (by omega) (by omega)
            have hne : (((p ||| n : Nat) : Int) != 0) = (p ||| n != 0) := by rw [Bool.eq_iff_iff, bne_iff_ne, bne_iff_ne]; omega
            have hmI : (m : Int) < (ss.length : Int) := by omega
            have hmI2 : (m : Int) < (m : Int) + 1 := by omega
            have hwm : IntKind.i64.wrap (m : Int) = (m : Int) := wrap_i64_nat m (by omega)
            have hm0 : decide ((m : Int) < 0) = false := by simp
            rw [hm]
            rw [hm] at hown
            have HTAIL := hide htail
            cases hz : (p ||| n == 0) with
            | false =>
              have hnz : (p ||| n != 0) = true := by rw [bne, hz]; rfl
              rw [hnz] at hne
              have HF : Hid (provesR F l = .inl (5, (cutTo 10 l).1.length + 1)) := hide (by rw [unhide HEND, if_neg (by rw [unhide HEL, hz]; intro h; cases h.2)])
              clear htail hsl hz hnz
              go_wp2_with fail
              go_quiet (fail)
              go_wp2_with fail
              refine bodyPost_ret (v := .tuple #[.int .i64 0, .int .i64 5, .int .i64 (((cutTo 10 l).1.length : Int) + 1), .int .i64 0]) (by simp [results, Tryz.results57, go_sem]) rfl ⟨below_drewN hb nq, ?_⟩
              rw [unhide HF]; exact congrArg (fun m : Int => Ending.returned (.tuple #[.int .i64 0, .int .i64 5, .int .i64 m, .int .i64 0])) (by simp)
            | true =>
              have hnz : (p ||| n != 0) = false := by rw [bne, hz]; rfl
              rw [hnz] at hne
              have HF : Hid (provesR F l = .inr (truth, two)) := hide (by rw [unhide HEND, if_pos ⟨htail, by rw [unhide HEL, hz]⟩])
              clear htail hsl hz hnz
              cases truth with
              | true =>
                go_wp2_with fail
                go_quiet (fail)
                go_wp2_with fail
                refine bodyPost_ret (v := .tuple #[.int .i64 2, .int .i64 0, .int .i64 0, .int .i64 (two : Int)]) (by simp [results, Tryz.results57, go_sem]) rfl ⟨below_drewN hb nq, ?_⟩
                rw [unhide HF]; rfl
              | false =>
                go_wp2_with fail
                go_quiet (fail)
                go_wp2_with fail
                refine bodyPost_ret (v := .tuple #[.int .i64 1, .int .i64 0, .int .i64 0, .int .i64 (two : Int)]) (by simp [results, Tryz.results57, go_sem]) rfl ⟨below_drewN hb nq, ?_⟩
                rw [unhide HF]; rfl
        · have hsl : s < l.length := by
            have h1 : 0 < (cutTo 10 l).2.length := List.length_pos_iff.2 htail
            have := unhide HSK; omega
          have hq1 : decide ((s : Int) < (l.length : Int)) = true := by simp; omega
          have hq2 : decide (s < l.length) = true := by simp; omega
          have HF : Hid (provesR F l = .inl (5, (cutTo 10 l).1.length + 1)) := hide (by rw [unhide HEND, if_neg (fun h => htail h.1)])
          clear htail hsl
          go_wp2_with fail
          go_quiet (fail)
          go_wp2_with fail
          refine bodyPost_ret (v := .tuple #[.int .i64 0, .int .i64 5, .int .i64 (((cutTo 10 l).1.length : Int) + 1), .int .i64 0]) (by simp [results, Tryz.results57, go_sem]) rfl ⟨below_drewN hb nq, ?_⟩
          rw [unhide HF]; exact congrArg (fun m : Int => Ending.returned (.tuple #[.int .i64 0, .int .i64 5, .int .i64 m, .int .i64 0])) (by simp)
end Go.Proofs.YtgipjjhkhfihpaaGreatDoor

namespace Go.Proofs.YtgipjjhkhfihpaaGreatDoor
open Go.RowKit

/-! ### from, Truth -/
theorem fromL_cons (sat : Nat → Bool) (all v : Nat) (vs : List Nat) (t : Nat) : fromL sat all (v :: vs) t = if fromL sat all vs (t ||| 2 ^ v) != all.testBit v then fromL sat all vs (t ||| 2 ^ v) else fromL sat all vs t := rfl

set_option maxRecDepth 100000 in
set_option maxHeartbeats 1600000 in
theorem from_any (lo b : Nat) (F : Form) (hl : F.order.length ≤ 8) (hnm : ∀ v ∈ F.order, v ≤ 8) (hall : F.all < 512) (hcl : ∀ c ∈ F.cl, c.1 < 512 ∧ c.2 < 512) (hcl2 : F.cl.length ≤ 24) :
    ∀ (d k t : Nat) (w : World), k + d = F.order.length → t < 512 → RefAt lo w b F →
    Calls Tryz.prog 85 #[.pointer (some ⟨b, 0, none⟩), .int .i64 k, .int .i64 t] w fun e w' => e = .returned (.bool (fromL (satB F.cl) F.all (F.order.drop k) t)) ∧ Below w.heap.size w w' := by
  intro d
  induction d with
  | zero =>
    intro k t w hk ht hR
    have hR0 := hR
    obtain ⟨_, vO, vE, vC, hfb, hO, _, _⟩ := hR
    obtain ⟨aO, cO, rfl⟩ := own_form hO
    have k0 : w.cell? ⟨b, 0, none⟩ = some (.slice aO F.order.length cO) := by rw [blk_cell hfb]; rfl
    have HF : Hid (fromL (satB F.cl) F.all (F.order.drop k) t = satB F.cl t) := hide (by rw [show k = F.order.length from by omega, List.drop_length]; rfl)
    have hkb : ((k : Int) == (F.order.length : Int)) = true := by rw [beq_iff_eq]; omega
    have hkb2 : (k == F.order.length) = true := by rw [beq_iff_eq]; omega
    clear hk
    go_enter Tryz.func85, Tryz.ntmps85
    go_wp2_with fail
    refine (satisfied_any lo b t F w hR0 ht hcl (by omega)).mono ?_
    rintro e w1 ⟨rfl, hb1⟩
    go_wp2_with fail
    go_ret
    exact ⟨ret_bool (unhide HF).symm, hb1⟩
  | succ d ih =>
    intro k t w hk ht hR
    have hR0 := hR
    obtain ⟨_, vO, vE, vC, hfb, hO, _, _⟩ := hR
    obtain ⟨aO, cO, rfl⟩ := own_form hO
    have hbw := blk_lt hfb
    have k0 : w.cell? ⟨b, 0, none⟩ = some (.slice aO F.order.length cO) := by rw [blk_cell hfb]; rfl
    have hkl : k < F.order.length := by omega
    obtain ⟨g, cap, hV, hg, hg', _, hcell⟩ := own_pos hO (by omega)
    injection hV with hV _ hV2
    subst hV hV2
    have hx : w.cell? ⟨g, k, none⟩ = some (.int .i64 (F.order[k] : Int)) := hcell _ _ (ints_at _ _ hkl)
    have hv8 := hnm _ (List.getElem_mem hkl)
    have HF : Hid (fromL (satB F.cl) F.all (F.order.drop k) t = if fromL (satB F.cl) F.all (F.order.drop (k + 1)) (t ||| 2 ^ F.order[k]) != F.all.testBit F.order[k] then fromL (satB F.cl) F.all (F.order.drop (k + 1)) (t ||| 2 ^ F.order[k]) else fromL (satB F.cl) F.all (F.order.drop (k + 1)) t) := hide (by rw [List.drop_eq_getElem_cons hkl]; rfl)
    have hkb : ((k : Int) == (F.order.length : Int)) = false := by rw [beq_eq_false_iff_ne]; omega
    have hkb2 : (k == F.order.length) = false := by rw [beq_eq_false_iff_ne]; omega
    have hkI : (k : Int) < (F.order.length : Int) := by omega
    have HK := hide hk
    have HNM := hide hnm
    have HCL := hide hcl
    clear hcell hk hnm hcl
    generalize F.order[k] = v at *
    have hor := or_bit t ht (v : Int) (by omega) (by omega)
    rw [Int.toNat_natCast] at hor
    have hp2 : 2 ^ v < 512 := by have := pow_bd v hv8; omega
    have hto := or_lt t (2 ^ v) ht hp2
    have HIH1 := hide (fun wx hx => ih (k + 1) (t ||| 2 ^ v) wx (by have := unhide HK; omega) hto hx)
    have HIH2 := hide (fun wx hx => ih (k + 1) t wx (by have := unhide HK; omega) ht hx)
    have hk1 : ((k : Int) + 1) = ((k + 1 : Nat) : Int) := by omega
    have HK1 := hide hk1
    clear ih hk1
    go_enter Tryz.func85, Tryz.ntmps85
    go_wp2_with fail
    rw [unhide HK1]
    refine (unhide HIH1 w hR0).mono ?_
    rintro e w1 ⟨rfl, hb1⟩
    have hR1 := hR0.later hb1
    have y1 : w1.cell? ⟨b, 1, none⟩ = some (.int .i64 F.all) := by rw [hb1.cell (p := ⟨b, 1, none⟩) hbw, blk_cell hfb]; rfl
    generalize fromL (satB F.cl) F.all (F.order.drop (k + 1)) (t ||| 2 ^ v) = a at *
    go_wp2_with fail
    refine (universal_any b F.all v w1 hall hv8 y1).mono ?_
    rintro e w2 ⟨rfl, hw2⟩
    subst hw2
    generalize F.all.testBit v = u at *
    cases a with
    | false =>
      cases u with
      | false =>
        have HG : Hid (fromL (satB F.cl) F.all (F.order.drop k) t = fromL (satB F.cl) F.all (F.order.drop (k + 1)) t) := hide (by rw [unhide HF]; rfl)
        go_wp2_with fail
        try rw [unhide HK1]
        refine (unhide HIH2 w2 hR1).mono ?_
        rintro e w3 ⟨rfl, hb3⟩
        have hb13 := below_trans hb1 hb3
        go_wp2_with fail
        go_ret
        exact ⟨ret_bool (unhide HG).symm, hb13⟩
      | true =>
        have HG : Hid (fromL (satB F.cl) F.all (F.order.drop k) t = false) := hide (by rw [unhide HF]; rfl)
        go_wp2_with fail
        go_ret
        exact ⟨ret_bool (unhide HG).symm, hb1⟩
    | true =>
      cases u with
      | false =>
        have HG : Hid (fromL (satB F.cl) F.all (F.order.drop k) t = true) := hide (by rw [unhide HF]; rfl)
        go_wp2_with fail
        go_ret
        exact ⟨ret_bool (unhide HG).symm, hb1⟩
      | true =>
        have HG : Hid (fromL (satB F.cl) F.all (F.order.drop k) t = fromL (satB F.cl) F.all (F.order.drop (k + 1)) t) := hide (by rw [unhide HF]; rfl)
        go_wp2_with fail
        try rw [unhide HK1]
        refine (unhide HIH2 w2 hR1).mono ?_
        rintro e w3 ⟨rfl, hb3⟩
        have hb13 := below_trans hb1 hb3
        go_wp2_with fail
        go_ret
        exact ⟨ret_bool (unhide HG).symm, hb13⟩

set_option maxRecDepth 100000 in
set_option maxHeartbeats 400000 in
theorem truth_any (lo b : Nat) (F : Form) (hl : F.order.length ≤ 8) (hnm : ∀ v ∈ F.order, v ≤ 8) (hall : F.all < 512) (hcl : ∀ c ∈ F.cl, c.1 < 512 ∧ c.2 < 512) (hcl2 : F.cl.length ≤ 24) (w : World) (hR : RefAt lo w b F) :
    Calls Tryz.prog 56 #[.pointer (some ⟨b, 0, none⟩)] w fun e w' => e = .returned (.bool (fromL (satB F.cl) F.all F.order 0)) ∧ Below w.heap.size w w' := by
  have HC : Hid (Calls Tryz.prog 85 #[.pointer (some ⟨b, 0, none⟩), .int .i64 0, .int .i64 0] w fun e w' => e = .returned (.bool (fromL (satB F.cl) F.all F.order 0)) ∧ Below w.heap.size w w') := hide (from_any lo b F hl hnm hall hcl hcl2 F.order.length 0 0 w (by omega) (by omega) hR)
  go_enter Tryz.func56, Tryz.ntmps56
  go_wp2_with fail
  refine (unhide HC).mono ?_
  rintro e w1 ⟨rfl, hb1⟩
  go_wp2_with fail
  go_ret
  exact ⟨rfl, hb1⟩
end Go.Proofs.YtgipjjhkhfihpaaGreatDoor

namespace Go.Proofs.YtgipjjhkhfihpaaGreatDoor
open Go.RowKit

theorem provesR_pos (F : Form) (l : List UInt8) (x i : Nat) (h : provesR F l = .inl (x, i)) : 0 < x := by
  unfold provesR at h
  split at h
  · injection h with h; injection h with h1 h2; omega
  · split at h
    · injection h with h; injection h with h1 h2; omega
    · split at h
      · split at h
        · injection h with h; injection h with h1 h2; omega
        · split at h
          · cases h
          · injection h with h; injection h with h1 h2; omega
      · injection h with h; injection h with h1 h2; omega

set_option maxRecDepth 100000 in
set_option maxHeartbeats 3200000 in
theorem checks_any (bw b1 b2 lo : Nat) (st : RS) (q0 : QS) (text proof : List UInt8) (c4 c5 c6 : Value) (w : World) (hw : WAt w bw text (some ⟨b1, 0, none⟩) (some ⟨b2, 0, none⟩) proof c4 c5 c6)
    (hP : ProgAt lo w b1 (qFinish q0)) (hR : RefAt lo w b2 (finish st)) (hS : Same st q0) (h24 : q0.cl.length ≤ 24) (hN : QNice q0) :
    Calls Tryz.prog 33 #[.pointer (some ⟨bw, 0, none⟩)] w fun e w' => e = .returned (.bool true) ∧ Below w.heap.size w w' := by
  obtain ⟨hFQ, hFO, hFW⟩ := fq_of hS hN h24
  have hQB := qb_of hN h24
  have hce := check_eq hFQ hFO proof
  have hbw : bw < w.heap.size := blk_lt hw
  have k1 : w.cell? ⟨bw, 1, none⟩ = some (.pointer (some ⟨b1, 0, none⟩)) := by rw [blk_cell hw]; rfl
  have k3 : w.cell? ⟨bw, 3, none⟩ = some (S proof) := by rw [blk_cell hw]; rfl
  cases hpr : provesR (finish st) proof with
  | inl xi =>
    obtain ⟨x, i⟩ := xi
    rw [hpr] at hce
    have HCE : Hid (checkQ (qFinish q0) proof = (0, x, i)) := hide hce
    have hx := provesR_pos _ _ _ _ hpr
    have HPR := hide hpr
    clear hce hpr hFQ hFO
    go_enter Tryz.func33, Tryz.ntmps33
    go_wp2_with fail
    go_region_with (go_at_call 17; refine (check_any lo b1 (qFinish q0) proof _ (hP.later (Below.refl _ w).drew) hQB).mono ?_; rintro e w1 ⟨hb1, rfl⟩; rw [unhide HCE]; have hB1 : Below w.heap.size w w1 := (Below.refl _ w).drew.trans hb1; dsimp only)
    all_goals
      have hw1 := hw.later hB1
      have j2 : w1.cell? ⟨bw, 2, none⟩ = some (.pointer (some ⟨b2, 0, none⟩)) := by rw [blk_cell hw1]; rfl
      have j3 : w1.cell? ⟨bw, 3, none⟩ = some (S proof) := by rw [blk_cell hw1]; rfl
      have hbw1 := blk_lt hw1
      have hR1 := hR.later hB1
      go_wp2_with fail
      go_region_with (go_at_call 57; refine (proves_any lo b2 (finish st) proof _ (hR1.later (Below.refl _ w1).drew) hFW).mono ?_; rintro e w2 ⟨hb2, hp⟩; rw [unhide HPR] at hp; have hp2 : e = .returned (.tuple #[.int .i64 0, .int .i64 (x : Int), .int .i64 (i : Int), .int .i64 0]) := hp; subst hp2; clear hp; have hB2 : Below w.heap.size w w2 := hB1.trans (((Below.refl _ w1).drew.trans hb2).mono hB1.size))
      all_goals
        have hxb : ((x : Int) == 0) = false := by rw [beq_eq_false_iff_ne]; omega
        go_wp2_with fail
        go_ret
        exact ⟨rfl, hB2⟩
  | inr tt =>
    obtain ⟨truth, two⟩ := tt
    rw [hpr] at hce
    have hsd := proves_sound hFO proof truth two hpr
    have HSD := hide hsd
    have HPR := hide hpr
    cases truth with
    | true =>
      have HCE : Hid (checkQ (qFinish q0) proof = (2, 0, 0)) := hide hce
      clear hce hpr hFQ hsd
      go_enter Tryz.func33, Tryz.ntmps33
      go_wp2_with fail
      go_region_with (go_at_call 17; refine (check_any lo b1 (qFinish q0) proof _ (hP.later (Below.refl _ w).drew) hQB).mono ?_; rintro e w1 ⟨hb1, rfl⟩; rw [unhide HCE]; have hB1 : Below w.heap.size w w1 := (Below.refl _ w).drew.trans hb1; dsimp only)
      all_goals
        have hw1 := hw.later hB1
        have j2 : w1.cell? ⟨bw, 2, none⟩ = some (.pointer (some ⟨b2, 0, none⟩)) := by rw [blk_cell hw1]; rfl
        have j3 : w1.cell? ⟨bw, 3, none⟩ = some (S proof) := by rw [blk_cell hw1]; rfl
        have hbw1 := blk_lt hw1
        have hR1 := hR.later hB1
        go_wp2_with fail
        go_region_with (go_at_call 57; refine (proves_any lo b2 (finish st) proof _ (hR1.later (Below.refl _ w1).drew) hFW).mono ?_; rintro e w2 ⟨hb2, hp⟩; rw [unhide HPR] at hp; have hp2 : e = .returned (.tuple #[.int .i64 2, .int .i64 0, .int .i64 0, .int .i64 (two : Int)]) := hp; subst hp2; clear hp; have hB2 : Below w.heap.size w w2 := hB1.trans (((Below.refl _ w1).drew.trans hb2).mono hB1.size))
        all_goals
          have hw2 := hw.later hB2
          have i2 : w2.cell? ⟨bw, 2, none⟩ = some (.pointer (some ⟨b2, 0, none⟩)) := by rw [blk_cell hw2]; rfl
          have hbw2 := blk_lt hw2
          go_wp2_with fail
          refine (truth_any lo b2 (finish st) hFW.len hFW.names hFW.all hFW.bits hFW.cl w2 (hR.later hB2)).mono ?_
          rintro e w3 ⟨rfl, hb3⟩
          rw [unhide HSD]
          have hB3 : Below w.heap.size w w3 := hB2.trans (hb3.mono hB2.size)
          go_wp2_with fail
          go_ret
          exact ⟨rfl, hB3⟩
    | false =>
      have HCE : Hid (checkQ (qFinish q0) proof = (1, 0, 0)) := hide hce
      clear hce hpr hFQ hsd
      go_enter Tryz.func33, Tryz.ntmps33
      go_wp2_with fail
      go_region_with (go_at_call 17; refine (check_any lo b1 (qFinish q0) proof _ (hP.later (Below.refl _ w).drew) hQB).mono ?_; rintro e w1 ⟨hb1, rfl⟩; rw [unhide HCE]; have hB1 : Below w.heap.size w w1 := (Below.refl _ w).drew.trans hb1; dsimp only)
      all_goals
        have hw1 := hw.later hB1
        have j2 : w1.cell? ⟨bw, 2, none⟩ = some (.pointer (some ⟨b2, 0, none⟩)) := by rw [blk_cell hw1]; rfl
        have j3 : w1.cell? ⟨bw, 3, none⟩ = some (S proof) := by rw [blk_cell hw1]; rfl
        have hbw1 := blk_lt hw1
        have hR1 := hR.later hB1
        go_wp2_with fail
        go_region_with (go_at_call 57; refine (proves_any lo b2 (finish st) proof _ (hR1.later (Below.refl _ w1).drew) hFW).mono ?_; rintro e w2 ⟨hb2, hp⟩; rw [unhide HPR] at hp; have hp2 : e = .returned (.tuple #[.int .i64 1, .int .i64 0, .int .i64 0, .int .i64 (two : Int)]) := hp; subst hp2; clear hp; have hB2 : Below w.heap.size w w2 := hB1.trans (((Below.refl _ w1).drew.trans hb2).mono hB1.size))
        all_goals
          have hw2 := hw.later hB2
          have i2 : w2.cell? ⟨bw, 2, none⟩ = some (.pointer (some ⟨b2, 0, none⟩)) := by rw [blk_cell hw2]; rfl
          have hbw2 := blk_lt hw2
          go_wp2_with fail
          refine (truth_any lo b2 (finish st) hFW.len hFW.names hFW.all hFW.bits hFW.cl w2 (hR.later hB2)).mono ?_
          rintro e w3 ⟨rfl, hb3⟩
          rw [unhide HSD]
          have hB3 : Below w.heap.size w w3 := hB2.trans (hb3.mono hB2.size)
          go_wp2_with fail
          go_ret
          exact ⟨rfl, hB3⟩
end Go.Proofs.YtgipjjhkhfihpaaGreatDoor

namespace Go.Proofs.YtgipjjhkhfihpaaGreatDoor
open Go.RowKit

/-! ### A game is opened -/
theorem readQ_inl {q : QS} {l : List UInt8} {x i : Nat} (h : checkQ q l = (0, x, i)) (hx : 0 < x) : readQ q l = .inl (x, i) := by
  unfold checkQ at h
  cases hr : readQ q l with
  | inl y =>
    obtain ⟨y1, y2⟩ := y
    rw [hr] at h
    injection h with _ h
    injection h with h1 h2
    subst h1 h2
    rfl
  | inr y =>
    obtain ⟨k, ls⟩ := y
    rw [hr] at h
    injection h with _ h
    injection h with h1 h2
    omega
theorem readQ_inr {q : QS} {l : List UInt8} {k : Nat} (h : checkQ q l = (k, 0, 0)) (hk : 0 < k) : ∃ ls, readQ q l = .inr (k, ls) := by
  unfold checkQ at h
  cases hr : readQ q l with
  | inl y =>
    obtain ⟨y1, y2⟩ := y
    rw [hr] at h
    injection h with h1 _
    omega
  | inr y =>
    obtain ⟨k', ls⟩ := y
    rw [hr] at h
    injection h with h1 _
    subst h1
    exact ⟨ls, rfl⟩
theorem infoGame : (Tryz.prog.info? 51).map (fun i => (i.zero, i.size, i.bytes)) = some (some (.pointer none), 1, 8) := by kernel_rfl
def vals0 : List Int := [0, 0, 0, 0, 0, 0, 0, 0]
/-- A new game, apart from memory. -/
theorem open_pure {st : RS} {q0 : QS} (hP : Pair st q0) {proof : List UInt8} {kind : Nat} {ss : List Stp} (hr : readQ (qFinish q0) proof = .inr (kind, litsL ss)) (ht : Tagged (qFinish q0) kind proof ss) (hs : SBs ss) (gb db b1 b2 vb : Nat) (gv : GV) :
    ∃ bs, GPure ⟨gb, db, b1, b2, st, q0, proof, kind, ss, [], bs, openW (qFinish q0) kind ss, gv, .slice none 0 0, vb, vals0⟩ ∧ nextP (qFinish q0) kind 0 = (openW (qFinish q0) kind ss).turn := by
  have hk := readQ_kind hr
  obtain ⟨bs, r1, r2, r3⟩ := open_run hP.qg hk ss
  refine ⟨bs, ⟨hP.same, hP.cl, hP.nice, hr, ht, hs, rfl, fun i hi => by simp at hi, r1, r2, by simp, rfl, fun v h1 h8 => Or.inl ?_⟩, ?_⟩
  · show vals0.getD (v - 1) 0 = 0
    have : ∀ k : Fin 8, vals0.getD k.val 0 = 0 := by decide
    exact this ⟨v - 1, by omega⟩
  · exact nextP_eq _ kind 0 _ (Nat.zero_le _) r2.le (fun j hj _ h => r3 j hj h) r2.lose
/-- What a game's rows rest on. -/
def GZ (gv : GV) (k : Nat) : Prop := gv.vB.ownBlock = some k ∨ gv.vR.ownBlock = some k ∨ ∃ j, ∃ hj : j < gv.hdrs.length, gv.hdrs[j].ownBlock = some k

/-- What lies behind Open, memory alone. -/
theorem opens_tail {bw b1 b2 : Nat} {st : RS} {q0 : QS} {D : DW} {w w2 wc w4 : World} {kind : Nat} {ss : List Stp} {gv : GV} {db gb vb : Nat} {v' : Value} {bs : List Bool} (hD : DInv bw w D) (hF : Firm D.Z (fun w => ProgAt (bw + 1) w b1 (qFinish q0) ∧ RefAt (bw + 1) w b2 (finish st)) w)
    (hB2 : Below w.heap.size w w2) (hGA : GameAt w2 db 79 (blW (qFinish q0) kind) (rulesW kind ss) (openW (qFinish q0) kind ss) gv) (hdb : w.heap.size ≤ db) (hfr : GFresh w.heap.size gv) (hb3 : Below w2.heap.size w2 wc) (hgb : w2.heap.size ≤ gb) (hvb : w2.heap.size ≤ vb)
    (hgB : wc.heap[gb]? = some (.cells #[.pointer (some ⟨db, 0, none⟩), .pointer (some ⟨b1, 0, none⟩), .pointer (some ⟨b2, 0, none⟩), S D.proof, .int .i64 (kind : Int), .slice none 0 0, .int .i64 0, .slice (some ⟨vb, 0, none⟩) 8 8] 87 (0, 0)))
    (hvB : wc.heap[vb]? = some (.cells #[.int .i64 0, .int .i64 0, .int .i64 0, .int .i64 0, .int .i64 0, .int .i64 0, .int .i64 0, .int .i64 0] 3 (0, 0)))
    (hown4 : w4.ownsRow (bw + 1) 51 1 v' (D.gs.length + 1) (D.gs.map gptr ++ [.pointer (some ⟨gb, 0, none⟩)])) (hgrow : wc.grownBy w4 D.v4.ownBlock) (hat : v'.ownBlock = D.v4.ownBlock ∨ ∃ k, v'.ownBlock = some k ∧ wc.heap.size ≤ k)
    (hpure : GPure ⟨gb, db, b1, b2, st, q0, D.proof, kind, ss, [], bs, openW (qFinish q0) kind ss, gv, .slice none 0 0, vb, vals0⟩) :
    (w4.setCell ⟨bw, 4, none⟩ v').heap[gb]? = some (.cells #[.pointer (some ⟨db, 0, none⟩), .pointer (some ⟨b1, 0, none⟩), .pointer (some ⟨b2, 0, none⟩), S D.proof, .int .i64 (kind : Int), .slice none 0 0, .int .i64 0, .slice (some ⟨vb, 0, none⟩) 8 8] 87 (0, 0)) ∧ RefAt 0 (w4.setCell ⟨bw, 4, none⟩ v') b2 (finish st) ∧
    ∀ w7, Below (w4.setCell ⟨bw, 4, none⟩ v').heap.size (w4.setCell ⟨bw, 4, none⟩ v') w7 →
      DInv bw (w7.setCell ⟨gb, 6, none⟩ (.int .i64 ((openW (qFinish q0) kind ss).turn : Int))) { D with v4 := v', gs := D.gs ++ [⟨gb, db, b1, b2, st, q0, D.proof, kind, ss, [], bs, openW (qFinish q0) kind ss, gv, .slice none 0 0, vb, vals0⟩], Z := fun k => D.Z k ∨ GZ gv k } ∧ Below bw w (w7.setCell ⟨gb, 6, none⟩ (.int .i64 ((openW (qFinish q0) kind ss).turn : Int))) := by
  have hw := hD.wat
  unfold WAt at hw
  have hbw := blk_lt hw
  have s2 := hB2.size
  have s3 := hb3.size
  have hBc : Below w.heap.size w wc := hB2.trans (hb3.mono hB2.size)
  have hwc := (hBc.block _ hbw).trans hw
  have h4lt : ∀ k, D.v4.ownBlock = some k → bw < k ∧ k < w.heap.size := fun k hk => by have := hD.o4.lt k hk; omega
  have h4ty : ∀ k, D.v4.ownBlock = some k → ∃ c, wc.heap[k]? = some (.cells c 51 (0, 0)) := fun k hk => by
    obtain ⟨c, hc⟩ := own_bk hD.o4 k hk
    exact ⟨c, (hBc.block k (blk_lt hc)).trans hc⟩
  have hdbc := (hb3.block _ (blk_lt hGA.fb)).trans hGA.fb
  have hne4 : ∀ k c t, wc.heap[k]? = some (.cells c t (0, 0)) → t ≠ 51 → D.v4.ownBlock ≠ some k := fun k c t hk ht e => by
    obtain ⟨c', hc'⟩ := h4ty k e
    exact ht (blk_type hk hc')
  have keep5 : ∀ k c t, wc.heap[k]? = some (.cells c t (0, 0)) → t ≠ 51 → k ≠ bw → (w4.setCell ⟨bw, 4, none⟩ v').heap[k]? = some (.cells c t (0, 0)) := fun k c t hk ht hb => by
    rw [Below.heap_setCell _ _ _ _ hb]
    exact (hgrow.block k (blk_lt hk) (fun e => hne4 k c t hk ht e.symm)).trans hk
  have hgb5 := keep5 gb _ _ hgB (by decide) (by omega)
  have hdb5 := keep5 db _ _ hdbc (by decide) (by omega)
  have hvb5 := keep5 vb _ _ hvB (by decide) (by omega)
  have hO5 : Only (fun k => k = bw ∨ D.v4.ownBlock = some k) w (w4.setCell ⟨bw, 4, none⟩ v') := by
    have hx : Only (fun k => k = bw ∨ D.v4.ownBlock = some k) w w4 := (Only.of_below hBc).grown hgrow (fun k hk => Or.inl (Or.inr hk))
    exact hx.setCell (p := ⟨bw, 4, none⟩) (Or.inl (Or.inl rfl)) v'
  have hgs := hgrow.size
  have hs45 : (w4.setCell ⟨bw, 4, none⟩ v').heap.size = w4.heap.size := by simp [World.setCell]
  have hZT : ∀ k, D.Z k → ¬ (k = bw ∨ D.v4.ownBlock = some k) := fun k hk h => by
    rcases h with h | h
    · have := (hD.zin k hk).1; omega
    · exact hD.n4 k h hk
  have s5 := hO5.size
  have hF5 := hF.step hO5 hZT
  refine ⟨hgb5, hF5.now.2.lo (Nat.zero_le _), fun w7 hb7 => ?_⟩
  have s7 := hb7.size
  -- the game's turn is told
  generalize hu : (Value.int .i64 ((openW (qFinish q0) kind ss).turn : Int)) = u
  have hO8 : Only (fun k => k = bw ∨ D.v4.ownBlock = some k) w (w7.setCell ⟨gb, 6, none⟩ u) := (hO5.trans (Only.of_below hb7)).setCell (p := ⟨gb, 6, none⟩) (Or.inr (by show w.heap.size ≤ gb; omega)) u
  have keep8 : ∀ k o, k ≠ gb → (w4.setCell ⟨bw, 4, none⟩ v').heap[k]? = some o → (w7.setCell ⟨gb, 6, none⟩ u).heap[k]? = some o := fun k o hk ho => (Below.heap_setCell _ _ _ _ hk).trans ((hb7.block _ (blk_lt ho)).trans ho)
  have hdg : db ≠ gb := fun e => by rw [e] at hdb5; exact absurd (blk_type hdb5 hgb5) (by decide)
  have hvg : vb ≠ gb := fun e => by rw [e] at hvb5; exact absurd (blk_type hvb5 hgb5) (by decide)
  have hbg : bw ≠ gb := by omega
  have hgb8 : (w7.setCell ⟨gb, 6, none⟩ u).heap[gb]? = some (.cells #[.pointer (some ⟨db, 0, none⟩), .pointer (some ⟨b1, 0, none⟩), .pointer (some ⟨b2, 0, none⟩), S D.proof, .int .i64 (kind : Int), .slice none 0 0, u, .slice (some ⟨vb, 0, none⟩) 8 8] 87 (0, 0)) := blk_set ((hb7.block _ (blk_lt hgb5)).trans hgb5) 6 u
  have hdb8 := keep8 db _ hdg hdb5
  have hvb8 := keep8 vb _ hvg hvb5
  have hv'bw : v'.ownBlock ≠ some bw := fun e => by have := (hown4.lt _ e).1; omega
  have hv'gb : v'.ownBlock ≠ some gb := fun e => by
    obtain ⟨c, hc⟩ := own_bk (own_set_ne hown4 (p := ⟨bw, 4, none⟩) hv'bw v') _ e
    exact absurd (blk_type hc hgb5) (by decide)
  have h48 := own_set_ne (own_below (own_set_ne hown4 (p := ⟨bw, 4, none⟩) hv'bw v') hb7) (p := ⟨gb, 6, none⟩) hv'gb u
  have hbw4 : D.v4.ownBlock ≠ some bw := fun e => by have := h4lt _ e; omega
  have hw5 : (w4.setCell ⟨bw, 4, none⟩ v').heap[bw]? = _ := blk_set ((hgrow.block bw (blk_lt hwc) (fun e => hbw4 e.symm)).trans hwc) 4 v'
  have hw8 := keep8 bw _ hbg hw5
  -- the rows of the new game
  have hrows := hGA.rows
  have hgz2 : ∀ k, GZ gv k → w.heap.size ≤ k ∧ k < w2.heap.size ∧ ∃ c t, w2.heap[k]? = some (.cells c t (0, 0)) ∧ (t = 111 ∨ t = 149 ∨ t = 3) := fun k hk => by
    rcases hk with h | h | ⟨j, hj, h⟩
    · obtain ⟨c, hc⟩ := own_bk hrows.oB k h
      exact ⟨hfr.1 k h, blk_lt hc, c, _, hc, Or.inl rfl⟩
    · obtain ⟨c, hc⟩ := own_bk hrows.oR k h
      exact ⟨hfr.2.1 k h, blk_lt hc, c, _, hc, Or.inr (Or.inl rfl)⟩
    · obtain ⟨c, hc⟩ := own_bk (hrows.row j (by have := hrows.len; omega)) k h
      exact ⟨hfr.2.2 j hj k h, blk_lt hc, c, _, hc, Or.inr (Or.inr rfl)⟩
  have hgzc : ∀ k, GZ gv k → ¬ (k = bw ∨ D.v4.ownBlock = some k) := fun k hk h => by
    have h1 := hgz2 k hk
    rcases h with h | h
    · omega
    · have := h4lt k h; omega
  have hO28 : Only (fun k => k = bw ∨ D.v4.ownBlock = some k) w2 (w7.setCell ⟨gb, 6, none⟩ u) := by
    have hx : Only (fun k => k = bw ∨ D.v4.ownBlock = some k) w2 w4 := (Only.of_below hb3).grown hgrow (fun k hk => Or.inl (Or.inr hk))
    exact ((hx.setCell (p := ⟨bw, 4, none⟩) (Or.inl (Or.inl rfl)) v').trans (Only.of_below hb7)).setCell (p := ⟨gb, 6, none⟩) (Or.inr hgb) u
  have hR8 : GRows (w7.setCell ⟨gb, 6, none⟩ u) (blW (qFinish q0) kind) (rulesW kind ss) gv := by
    have hl := hrows.len
    exact ⟨own_keep hrows.oB hO28 (fun k hk => hgzc k (Or.inl hk)), own_keep hrows.oR hO28 (fun k hk => hgzc k (Or.inr (Or.inl hk))), hrows.len, fun j hj => own_keep (hrows.row j hj) hO28 (fun k hk => hgzc k (Or.inr (Or.inr ⟨j, by omega, hk⟩)))⟩
  have hR8f : Firm (fun k => D.Z k ∨ GZ gv k) (fun w => GRows w (blW (qFinish q0) kind) (rulesW kind ss) gv) (w7.setCell ⟨gb, 6, none⟩ u) := firm_rows hR8 (fun k hk => Or.inr (Or.inl hk)) (fun k hk => Or.inr (Or.inr (Or.inl hk))) (fun j hj k hk => Or.inr (Or.inr (Or.inr ⟨j, hj, hk⟩)))
  have hF8 := (hF.step hO8 hZT).grow (Z' := fun k => D.Z k ∨ GZ gv k) (fun k hk => Or.inl hk)
  refine ⟨hD.push ⟨gb, db, b1, b2, st, q0, D.proof, kind, ss, [], bs, openW (qFinish q0) kind ss, gv, .slice none 0 0, vb, vals0⟩ v' (fun k => D.Z k ∨ GZ gv k) _ hO8 (fun k _ h => h) hw8 h48 (fun k hk => Or.inl hk) (fun k hk => ?_) (fun k hk h => ?_) ?_ (fun k hk => ?_), hO8.below (Nat.le_of_lt hbw) (fun k hk h => ?_)⟩
  · rcases hk with h | h
    · exact Or.inl h
    · have := hgz2 k h
      have : (w7.setCell ⟨gb, 6, none⟩ u).heap.size = w7.heap.size := by simp [World.setCell]
      exact Or.inr ⟨by omega, by omega⟩
  · rcases h with h | h
    · rcases hat with e | ⟨j, e, hj⟩
      · rw [e] at hk; exact hD.n4 k hk h
      · rw [e] at hk; injection hk with hk; subst hk
        have := (hD.zin _ h).2; omega
    · have h1 := hgz2 k h
      rcases hat with e | ⟨j, e, hj⟩
      · rw [e] at hk; have := h4lt k hk; omega
      · rw [e] at hk; injection hk with hk; subst hk; omega
  · refine ⟨?_, hdb8, fun T w' ho hT => ⟨(hF8 T w' ho hT).1.lo (Nat.zero_le _), (hF8 T w' ho hT).2.lo (Nat.zero_le _), hR8f T w' ho hT⟩, World.ownsRow_nil _ _ _ _, hvb8, fun e => (by cases e), hpure⟩
    rw [hgb8, ← hu]
  · have hk' : k = gb ∨ k = db ∨ k = vb ∨ (Value.slice none 0 0).ownBlock = some k := hk
    have hnz : ∀ k, w.heap.size ≤ k → ¬ GZ gv k → ¬ (D.Z k ∨ GZ gv k) := fun k h1 h2 h => by
      rcases h with h | h
      · have := (hD.zin k h).2; omega
      · exact h2 h
    rcases hk' with rfl | rfl | rfl | h
    · exact ⟨by omega, hnz k (by omega) (fun h => by have := hgz2 k h; omega)⟩
    · refine ⟨hdb, hnz k hdb (fun h => ?_)⟩
      obtain ⟨_, _, c, t', hc, ht⟩ := hgz2 k h
      have e := blk_type hc hGA.fb
      rcases ht with h1 | h1 | h1 <;> (rw [h1] at e; exact absurd e (by decide))
    · exact ⟨by omega, hnz k (by omega) (fun h => by have := hgz2 k h; omega)⟩
    · cases h
  · rcases h with h | h
    · omega
    · have := h4lt k h; omega
set_option maxRecDepth 100000 in
set_option maxHeartbeats 3200000 in
theorem opens_none (bw b1 b2 : Nat) (st : RS) (q0 : QS) (D : DW) (ask : Bool) (x i : Nat) (w : World) (hD : DInv bw w D) (hpx : D.px = some ⟨b1, 0, none⟩) (hpf : D.pf = some ⟨b2, 0, none⟩) (hPr : Pair st q0) (hP : ProgAt (bw + 1) w b1 (qFinish q0)) (hR : RefAt (bw + 1) w b2 (finish st)) (hpr : provesR (finish st) D.proof = .inl (x, i)) :
    Calls Tryz.prog 34 #[.pointer (some ⟨bw, 0, none⟩), .bool ask] w fun e w' => StepD bw D 0 w e w' := by
  have hce := check_eq hPr.fq hPr.fo D.proof
  rw [hpr] at hce
  have hx := provesR_pos _ _ _ _ hpr
  have HRQ : Hid (readQ (qFinish q0) D.proof = .inl (x, i)) := hide (readQ_inl hce hx)
  have HPR := hide hpr
  have hw := hD.wat
  rw [hpx, hpf] at hw
  have hbw : bw < w.heap.size := blk_lt hw
  have k1 : w.cell? ⟨bw, 1, none⟩ = some (.pointer (some ⟨b1, 0, none⟩)) := by rw [blk_cell hw]; rfl
  have k3 : w.cell? ⟨bw, 3, none⟩ = some (S D.proof) := by rw [blk_cell hw]; rfl
  have HD : Hid (∀ w', Below w.heap.size w w' → StepD bw D 0 w (.returned (.bool true)) w') := hide (fun w' h => StepD.quiet (h.mono (Nat.le_of_lt hbw)) (hD.later h) rfl rfl (by omega) rfl rfl)
  clear hce hpr
  go_enter Tryz.func34, Tryz.ntmps34
  go_wp2_with fail
  go_region_with (go_at_call 18; refine (dopen_any (bw + 1) b1 (qFinish q0) D.proof _ (hP.later (Below.refl _ w).drew) hPr.qb).mono ?_; rintro e w1 ⟨hb1, hp⟩; rw [unhide HRQ] at hp; have hp1 : e = .returned (.tuple #[.pointer none, .int .i64 (x : Int), .int .i64 (i : Int)]) := hp; subst hp1; clear hp; have hB1 : Below w.heap.size w w1 := (Below.refl _ w).drew.trans hb1)
  all_goals
    have hw1 := hw.later hB1
    have j2 : w1.cell? ⟨bw, 2, none⟩ = some (.pointer (some ⟨b2, 0, none⟩)) := by rw [blk_cell hw1]; rfl
    have j3 : w1.cell? ⟨bw, 3, none⟩ = some (S D.proof) := by rw [blk_cell hw1]; rfl
    have hbw1 := blk_lt hw1
    have hR1 := hR.later hB1
    go_wp2_with fail
    go_region_with (go_at_call 57; refine (proves_any (bw + 1) b2 (finish st) D.proof _ (hR1.later (Below.refl _ w1).drew) hPr.fw).mono ?_; rintro e w2 ⟨hb2, hp⟩; rw [unhide HPR] at hp; have hp2 : e = .returned (.tuple #[.int .i64 0, .int .i64 (x : Int), .int .i64 (i : Int), .int .i64 0]) := hp; subst hp2; clear hp; have hB2 : Below w.heap.size w w2 := hB1.trans (((Below.refl _ w1).drew.trans hb2).mono hB1.size))
    all_goals
      have hxb : ((x : Int) != 0) = true := by rw [bne_iff_ne]; omega
      have hx1 : ((x : Int) != (x : Int)) = false := by simp
      have hi1 : ((i : Int) != (i : Int)) = false := by simp
      go_wp2_with fail
      go_ret
      exact unhide HD w2 hB2

end Go.Proofs.YtgipjjhkhfihpaaGreatDoor
