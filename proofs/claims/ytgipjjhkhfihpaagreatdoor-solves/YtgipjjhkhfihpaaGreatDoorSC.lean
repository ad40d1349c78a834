import Derived.Test.YtgipjjhkhfihpaaGreatDoorSA
import Derived.Test.YtgipjjhkhfihpaaGreatDoorSB
namespace Go.Proofs.YtgipjjhkhfihpaaGreatDoor
open Go.RowKit

theorem and_pow_zero (x v : Nat) : (x &&& 2 ^ v == 0) = !x.testBit v := by
  cases h : x.testBit v with
  | false =>
    have : x &&& 2 ^ v = 0 := by
      apply Nat.eq_of_testBit_eq
      intro i
      rw [Nat.testBit_and, Nat.testBit_two_pow, Nat.zero_testBit]
      by_cases e : v = i
      · subst e; rw [h]; rfl
      · simp [e]
    rw [this]; rfl
  | true =>
    have : x &&& 2 ^ v ≠ 0 := fun e => by
      have h2 : (x &&& 2 ^ v).testBit v = true := by rw [Nat.testBit_and, Nat.testBit_two_pow, h]; simp
      rw [e] at h2; simp at h2
    simpa using this
theorem and_bit_eq (a v : Nat) (ha : a < 512) (hv : v ≤ 8) : (bits .and .i64 (a : Int) (wrap64 (2 ^ v)) == 0) = !a.testBit v := by
  have h := shl_one (v : Int) (by omega) (by omega)
  rw [Int.toNat_natCast] at h
  have hp := pow_bd v hv
  rw [h, i64_and _ _ (by omega) (by omega), nat_beq_zero, and_pow_zero]
theorem and_bit_ne (a v : Nat) (ha : a < 512) (hv : v ≤ 8) : (bits .and .i64 (a : Int) (wrap64 (2 ^ v)) != 0) = a.testBit v := by
  have h := and_bit_eq a v ha hv
  rw [bne, h]; simp

set_option maxRecDepth 100000 in
set_option maxHeartbeats 12800000 in
theorem step_r (lo b : Nat) (F : Form) (ss : List (Nat × Nat)) (aS : Option Addr) (cS : Nat) (lS : Nat) (truth : Bool) (hd : List UInt8) (tl : List (List UInt8)) (g off cap : Nat) (w : World) (hIn : StepIn lo b F ss aS cS lS hd tl g off cap w) (hhd : hd = [114]) (hln : tl.length = 3) :
    Calls Tryz.prog 86 #[.pointer (some ⟨b, 0, none⟩), .slice aS ss.length cS, .slice (some ⟨g, off, none⟩) (tl.length + 1) cap, .bool truth] w fun e w' => RStPost (stepR F truth ss hd tl) w e w' := by
  have HLN := hide hln
  have HHD := hide hhd
  clear hln hhd
  obtain ⟨hR, hF, hS, hSB, hSb, hs, hl, hcap, hws⟩ := hIn
  obtain ⟨i0, hi, hz0, hz1, hz2⟩ := info_parts Tryz.info3
  have hR0 := hR
  obtain ⟨_, vO, vE, vC, hfb, _, _, hC⟩ := hR
  obtain ⟨aC, cC, rfl⟩ := own_form hC
  have hbw := blk_lt hfb
  obtain ⟨g', off', cur, he, hg, hcur⟩ := hs (by simp)
  injection he with he
  injection he with e1 e2 e3
  subst e1 e2
  clear e3
  have hgw := blk_lt hg
  have HC0 : Hid (∀ wx : World, Below w.heap.size w wx → wx.cell? ⟨g, off, none⟩ = some (S hd)) := hide (fun wx hx => by
    rw [hx.cell (p := ⟨g, off, none⟩) hgw, blk_cell hg]; exact hcur 0 (by simp))
  have HCJ : Hid (∀ (wx : World) (j : Nat) (hj : j < tl.length), Below w.heap.size w wx → wx.cell? ⟨g, off + (j + 1), none⟩ = some (S tl[j])) := hide (fun wx j hj hx => by
    rw [hx.cell (p := ⟨g, off + (j + 1), none⟩) hgw, blk_cell hg]; exact hcur (j + 1) (by simpa using hj))
  have HST : Hid (∀ (wx : World) (ao : Option Addr), Below w.heap.size w wx → (tl ≠ [] → ao = some ⟨g, off + 1, none⟩) → StrsAt wx ao tl) := hide (fun wx ao hx ho hne => ⟨g, off + 1, cur, ho hne, (hx.block _ hgw).trans hg, fun j hj => by
    have h1 := hcur (1 + j) (by simp; omega)
    rw [← Nat.add_assoc] at h1
    rw [h1]
    simp [show 1 + j = j + 1 from by omega]⟩)
  have HWS := hide hws
  clear hcur hws hs hg
  go_enter Tryz.func86, Tryz.ntmps86
  go_wp2_with fail
  go_loopg [11, 12] tl.length (fun m v i wx => ∃ j : Nat, i = .int .i64 (j + 1) ∧ j + m = tl.length ∧ wx.ownsRow (w.heap.size + 2) 3 1 v j (ints (cnts (tl.take j))) ∧ Below w.heap.size w wx ∧
      wx.heap[w.heap.size]? = some (.cells #[.int .i64 0, .int .i64 0] 121 (0, 0)) ∧ wx.heap[w.heap.size + 1]? = some (.cells #[.int .i64 0, .int .i64 0] 121 (0, 0)))
  case atStart => exact ⟨0, rfl, by omega, World.ownsRow_nil _ _ _ _, ((Below.refl _ _).alloc (Nat.le_refl _) _).alloc (by simp) _, by rw [heap_alloc_old _ _ (by simp)]; exact heap_alloc_new _ _, new_at (by simp)⟩
  case round =>
    obtain ⟨j, rfl, hj, hown, hb, hres, hnon⟩ := hrel
    have hbs := blk_lt hnon
    by_cases hlt : j < tl.length
    · have hcj := unhide HCJ wr j hlt hb
      have hxl := unhide HWS _ (List.getElem_mem hlt)
      have HT := hide (cnts_take tl j hlt)
      have hgw1 : g < wr.heap.size := by omega
      generalize tl[j] = x at *
      go_wp2_with fail
      refine (count_any x 1048576 wr hxl (by omega)).mono ?_
      rintro e w1 ⟨rfl, hw1⟩
      subst hw1
      rw [show cnt x 1048576 = cnt x big from rfl]
      go_wp2_with (at_builtin; refine wpList_append_new rfl _ _ 25 rfl (w.heap.size + 2) i0 (.int .i64 0) 1 8 Tryz.underlying25 hi hz0 hz1 hz2 rfl (by decide) _ _ _ hown rfl rfl rfl (by simp [Value.oneCell']) (by unfold maxLen; omega) (by omega) (by omega) ?_; intro v' w2 hown' hgrow hnn)
      go_roundg (gk - 1)
      case measure => omega
      case rel =>
        have hlto := hown.lt
        refine ⟨j + 1, by go_num, by omega, by rw [unhide HT]; exact hown', below_grown hb hgrow hown (by omega) (by omega), ?_, ?_⟩
        · rw [hgrow.block _ (by omega) (fun e => by have := hlto _ e.symm; omega)]; exact hres
        · rw [hgrow.block _ (by omega) (fun e => by have := hlto _ e.symm; omega)]; exact hnon
    · have hjl : j = tl.length := by omega
      subst hjl
      rw [List.take_length] at hown
      clear hj hlt hi hz0 hz1 hz2 HCJ
      obtain ⟨aK, cK, rfl⟩ := own_form hown
      have hc0 := unhide HC0 wr hb
      have hgw1 : g < wr.heap.size := by omega
      have hbw1 : b < wr.heap.size := by omega
      have hbs0 : w.heap.size < wr.heap.size := by omega
      have r0 : wr.cell? ⟨w.heap.size, 0, none⟩ = some (.int .i64 0) := by rw [blk_cell hres]; rfl
      have r1 : wr.cell? ⟨w.heap.size, 1, none⟩ = some (.int .i64 0) := by rw [blk_cell hres]; rfl
      have zr0 := blk_free hres 0
      have zr1 := blk_free hres 1
      have n0 : wr.cell? ⟨w.heap.size + 1, 0, none⟩ = some (.int .i64 0) := by rw [blk_cell hnon]; rfl
      have n1 : wr.cell? ⟨w.heap.size + 1, 1, none⟩ = some (.int .i64 0) := by rw [blk_cell hnon]; rfl
      have x1 : wr.cell? ⟨b, 1, none⟩ = some (.int .i64 F.all) := by rw [hb.cell (p := ⟨b, 1, none⟩) hbw, blk_cell hfb]; rfl
      have x3 : wr.cell? ⟨b, 3, none⟩ = some (.slice aC F.cl.length cC) := by rw [hb.cell (p := ⟨b, 3, none⟩) hbw, blk_cell hfb]; rfl
      have HK : Hid (∀ (i : Nat) (hi : i < tl.length), ∃ gK, aK = some ⟨gK, 0, none⟩ ∧ gK < wr.heap.size ∧ wr.cell? ⟨gK, i, none⟩ = some (.int .i64 (cnt tl[i] big : Nat)) ∧ tl.length ≤ cK) := hide (fun i hi => by
        obtain ⟨gK, capK, hVe, _, hg', hcap', hcell⟩ := own_pos hown (by omega)
        injection hVe with hVe _ hV2
        subst hVe hV2
        exact ⟨gK, rfl, hg', hcell _ _ (by unfold ints cnts; simp [hi]), hcap'⟩)
      have HBITS := hide hF.bits
      have hc24 := hF.cl
      have hall := hF.all
      have HSB := hide hSb
      have HCELL : Hid (∀ (m : Nat) (hm : m < F.cl.length), ∃ g2, aC = some ⟨g2, 0, none⟩ ∧ g2 < w.heap.size ∧ w.cell? ⟨g2, m * 2, none⟩ = some (.int .i64 (F.cl[m].1 : Int)) ∧ w.cell? ⟨g2, m * 2 + 1, none⟩ = some (.int .i64 (F.cl[m].2 : Int))) := hide (fun m hm => by
        obtain ⟨g2, cap2, hVe, hg2, hg2', _, hcell⟩ := own_pos hC (by omega)
        injection hVe with hVe _ hV2
        subst hVe hV2
        obtain ⟨hpa, hpb⟩ := pairs_at F.cl m hm
        exact ⟨g2, rfl, hg2', hcell _ _ hpa, hcell _ _ hpb⟩)
      have HSEL : Hid (∀ (m : Nat) (hm : m < ss.length), ∃ g2, aS = some ⟨g2, 0, none⟩ ∧ g2 < w.heap.size ∧ w.cell? ⟨g2, m * 2, none⟩ = some (.int .i64 (ss[m].1 : Int)) ∧ w.cell? ⟨g2, m * 2 + 1, none⟩ = some (.int .i64 (ss[m].2 : Int))) := hide (fun m hm => by
        obtain ⟨g2, cap2, hVe, hg2, hg2', _, hcell⟩ := own_pos hS (by omega)
        injection hVe with hVe _ hV2
        subst hVe hV2
        obtain ⟨hpa, hpb⟩ := pairs_at ss m hm
        exact ⟨g2, rfl, hg2', hcell _ _ hpa, hcell _ _ hpb⟩)
      have HFW := hide hF
      clear hSb hown hC hfb hS hF
      have hln := unhide HLN
      have hhd := unhide HHD
      subst hhd
      have hbwr := hb
      have hreswr := hres
      have h01 : 0 < tl.length := by omega
      have h11 : 1 < tl.length := by omega
      have h21 : 2 < tl.length := by omega
      have HSP : Hid (stepR F truth ss [114] tl = resR F truth ss (cnt tl[0] big) (cnt tl[1] big) (cnt tl[2] big)) := hide (by unfold stepR; rw [if_neg (by simp), if_neg (by simp), if_pos ⟨rfl, hln⟩, getD_at' _ _ _ h01, getD_at' _ _ _ h11, getD_at' _ _ _ h21])
      have hlb : ((tl.length : Int) == 3) = true := by rw [beq_iff_eq]; omega
      have hi0 : (0 : Int) < (tl.length : Int) := by omega
      have hi1 : (1 : Int) < (tl.length : Int) := by omega
      have hi2 : (2 : Int) < (tl.length : Int) := by omega
      clear hln
      obtain ⟨gK, rfl, hgK, kc0, hcK⟩ := unhide HK 0 h01
      obtain ⟨gK', hgg, _, kc1, _⟩ := unhide HK 1 h11
      injection hgg with hgg; injection hgg with hgg _ _; subst hgg
      obtain ⟨gK', hgg, _, kc2, _⟩ := unhide HK 2 h21
      injection hgg with hgg; injection hgg with hgg _ _; subst hgg
      generalize cnt tl[0] big = i at *
      generalize cnt tl[1] big = j at *
      generalize cnt tl[2] big = v at *
      have HBAD : Hid (i < 1 ∨ ss.length < i ∨ j < 1 ∨ ss.length < j ∨ v < 1 ∨ 8 < v → stepR F truth ss [114] tl = none) := hide (fun h => by rw [unhide HSP]; unfold resR; rw [if_pos h])
      by_cases hc0 : i < 1
      · have HF : Hid (stepR F truth ss [114] tl = none) := hide (unhide HBAD (Or.inl hc0))
        have hq0 : decide ((i : Int) < 1) = true := by simp; omega
        have hp0 : decide (i < 1) = true := by simp; omega
        clear hc0
        go_wp2_with fail
        have hRq := blk_set (blk_set hreswr 0 (.int .i64 0)) 1 (.int .i64 0)
        have jq0 := blk_cell hRq 0
        have jq1 := blk_cell hRq 1
        go_wp2_with fail
        refine bodyPost_ret (v := .tuple #[.agg #[.int .i64 0, .int .i64 0], .bool false]) (by simp [results, Tryz.results86, go_sem, jq0, jq1]) rfl (RStPost.none_ ?_ (unhide HF) (0, 0) rfl)
        exact (hbwr.setCell (p := ⟨w.heap.size, 0, none⟩) (Nat.le_refl _) _).setCell (p := ⟨w.heap.size, 1, none⟩) (Nat.le_refl _) _
      · have hq0 : decide ((i : Int) < 1) = false := by simp; omega
        have hp0 : decide (i < 1) = false := by simp; omega
        by_cases hc1 : ss.length < i
        · have HF : Hid (stepR F truth ss [114] tl = none) := hide (unhide HBAD (Or.inr (Or.inl hc1)))
          have hq1 : decide ((ss.length : Int) < (i : Int)) = true := by simp; omega
          have hp1 : decide (ss.length < i) = true := by simp; omega
          clear hc1
          go_wp2_with fail
          have hRq := blk_set (blk_set hreswr 0 (.int .i64 0)) 1 (.int .i64 0)
          have jq0 := blk_cell hRq 0
          have jq1 := blk_cell hRq 1
          go_wp2_with fail
          refine bodyPost_ret (v := .tuple #[.agg #[.int .i64 0, .int .i64 0], .bool false]) (by simp [results, Tryz.results86, go_sem, jq0, jq1]) rfl (RStPost.none_ ?_ (unhide HF) (0, 0) rfl)
          exact (hbwr.setCell (p := ⟨w.heap.size, 0, none⟩) (Nat.le_refl _) _).setCell (p := ⟨w.heap.size, 1, none⟩) (Nat.le_refl _) _
        · have hq1 : decide ((ss.length : Int) < (i : Int)) = false := by simp; omega
          have hp1 : decide (ss.length < i) = false := by simp; omega
          by_cases hc2 : j < 1
          · have HF : Hid (stepR F truth ss [114] tl = none) := hide (unhide HBAD (Or.inr (Or.inr (Or.inl hc2))))
            have hq2 : decide ((j : Int) < 1) = true := by simp; omega
            have hp2 : decide (j < 1) = true := by simp; omega
            clear hc2
            go_wp2_with fail
            have hRq := blk_set (blk_set hreswr 0 (.int .i64 0)) 1 (.int .i64 0)
            have jq0 := blk_cell hRq 0
            have jq1 := blk_cell hRq 1
            go_wp2_with fail
            refine bodyPost_ret (v := .tuple #[.agg #[.int .i64 0, .int .i64 0], .bool false]) (by simp [results, Tryz.results86, go_sem, jq0, jq1]) rfl (RStPost.none_ ?_ (unhide HF) (0, 0) rfl)
            exact (hbwr.setCell (p := ⟨w.heap.size, 0, none⟩) (Nat.le_refl _) _).setCell (p := ⟨w.heap.size, 1, none⟩) (Nat.le_refl _) _
          · have hq2 : decide ((j : Int) < 1) = false := by simp; omega
            have hp2 : decide (j < 1) = false := by simp; omega
            by_cases hc3 : ss.length < j
            · have HF : Hid (stepR F truth ss [114] tl = none) := hide (unhide HBAD (Or.inr (Or.inr (Or.inr (Or.inl hc3)))))
              have hq3 : decide ((ss.length : Int) < (j : Int)) = true := by simp; omega
              have hp3 : decide (ss.length < j) = true := by simp; omega
              clear hc3
              go_wp2_with fail
              have hRq := blk_set (blk_set hreswr 0 (.int .i64 0)) 1 (.int .i64 0)
              have jq0 := blk_cell hRq 0
              have jq1 := blk_cell hRq 1
              go_wp2_with fail
              refine bodyPost_ret (v := .tuple #[.agg #[.int .i64 0, .int .i64 0], .bool false]) (by simp [results, Tryz.results86, go_sem, jq0, jq1]) rfl (RStPost.none_ ?_ (unhide HF) (0, 0) rfl)
              exact (hbwr.setCell (p := ⟨w.heap.size, 0, none⟩) (Nat.le_refl _) _).setCell (p := ⟨w.heap.size, 1, none⟩) (Nat.le_refl _) _
            · have hq3 : decide ((ss.length : Int) < (j : Int)) = false := by simp; omega
              have hp3 : decide (ss.length < j) = false := by simp; omega
              by_cases hc4 : v < 1
              · have HF : Hid (stepR F truth ss [114] tl = none) := hide (unhide HBAD (Or.inr (Or.inr (Or.inr (Or.inr (Or.inl hc4))))))
                have hq4 : decide ((v : Int) < 1) = true := by simp; omega
                have hp4 : decide (v < 1) = true := by simp; omega
                clear hc4
                go_wp2_with fail
                have hRq := blk_set (blk_set hreswr 0 (.int .i64 0)) 1 (.int .i64 0)
                have jq0 := blk_cell hRq 0
                have jq1 := blk_cell hRq 1
                go_wp2_with fail
                refine bodyPost_ret (v := .tuple #[.agg #[.int .i64 0, .int .i64 0], .bool false]) (by simp [results, Tryz.results86, go_sem, jq0, jq1]) rfl (RStPost.none_ ?_ (unhide HF) (0, 0) rfl)
                exact (hbwr.setCell (p := ⟨w.heap.size, 0, none⟩) (Nat.le_refl _) _).setCell (p := ⟨w.heap.size, 1, none⟩) (Nat.le_refl _) _
              · have hq4 : decide ((v : Int) < 1) = false := by simp; omega
                have hp4 : decide (v < 1) = false := by simp; omega
                by_cases hc5 : 8 < v
                · have HF : Hid (stepR F truth ss [114] tl = none) := hide (unhide HBAD (Or.inr (Or.inr (Or.inr (Or.inr (Or.inr (hc5)))))))
                  have hq5 : decide ((8 : Int) < (v : Int)) = true := by simp; omega
                  have hp5 : decide (8 < v) = true := by simp; omega
                  clear hc5
                  go_wp2_with fail
                  have hRq := blk_set (blk_set hreswr 0 (.int .i64 0)) 1 (.int .i64 0)
                  have jq0 := blk_cell hRq 0
                  have jq1 := blk_cell hRq 1
                  go_wp2_with fail
                  refine bodyPost_ret (v := .tuple #[.agg #[.int .i64 0, .int .i64 0], .bool false]) (by simp [results, Tryz.results86, go_sem, jq0, jq1]) rfl (RStPost.none_ ?_ (unhide HF) (0, 0) rfl)
                  exact (hbwr.setCell (p := ⟨w.heap.size, 0, none⟩) (Nat.le_refl _) _).setCell (p := ⟨w.heap.size, 1, none⟩) (Nat.le_refl _) _
                · have hq5 : decide ((8 : Int) < (v : Int)) = false := by simp; omega
                  have hp5 : decide (8 < v) = false := by simp; omega
                  obtain ⟨m0, rfl⟩ : ∃ m, i = m + 1 := ⟨i - 1, by omega⟩
                  obtain ⟨m1, rfl⟩ : ∃ m, j = m + 1 := ⟨j - 1, by omega⟩
                  have hm0 : m0 < ss.length := by omega
                  have hm1 : m1 < ss.length := by omega
                  have hv8 : v ≤ 8 := by omega
                  have hv1 : 1 ≤ v := by omega
                  have HAP : Hid (stepR F truth ss [114] tl = if F.all.testBit v ≠ truth ∨ ss[m0].1.testBit v = false ∨ ss[m1].2.testBit v = false then none else apartO (resolve2 ss[m0] ss[m1] v)) := hide (by rw [unhide HSP]; unfold resR; rw [if_neg (by omega), Nat.add_sub_cancel, Nat.add_sub_cancel, getD_at' _ _ _ hm0, getD_at' _ _ _ hm1])
                  clear hq0 hp0 hq1 hp1 hq2 hp2 hq3 hp3 hc0 hc1 hc2 hc3 hc4 hc5
                  have hq0 : decide ((m0 : Int) + 1 < 1) = false := by simp; omega
                  have hq1 : decide ((ss.length : Int) < (m0 : Int) + 1) = false := by simp; omega
                  have hp1 : decide (ss.length < m0 + 1) = false := by simp; omega
                  have hq2 : decide ((m1 : Int) + 1 < 1) = false := by simp; omega
                  have hq3 : decide ((ss.length : Int) < (m1 : Int) + 1) = false := by simp; omega
                  have hp3 : decide (ss.length < m1 + 1) = false := by simp; omega
                  obtain ⟨g2, rfl, hg2', hy0, hy1⟩ := unhide HSEL m0 hm0
                  obtain ⟨g3, hgg, hg3', hy2, hy3⟩ := unhide HSEL m1 hm1
                  injection hgg with hgg; injection hgg with hgg _ _; subst hgg
                  have hx0 : wr.cell? ⟨g2, m0 * 2, none⟩ = some (.int .i64 (ss[m0].1 : Int)) := by rw [hb.cell (p := ⟨g2, m0 * 2, none⟩) hg2']; exact hy0
                  have hx1 : wr.cell? ⟨g2, m0 * 2 + 1, none⟩ = some (.int .i64 (ss[m0].2 : Int)) := by rw [hb.cell (p := ⟨g2, m0 * 2 + 1, none⟩) hg2']; exact hy1
                  have hx2 : wr.cell? ⟨g2, m1 * 2, none⟩ = some (.int .i64 (ss[m1].1 : Int)) := by rw [hb.cell (p := ⟨g2, m1 * 2, none⟩) hg2']; exact hy2
                  have hx3 : wr.cell? ⟨g2, m1 * 2 + 1, none⟩ = some (.int .i64 (ss[m1].2 : Int)) := by rw [hb.cell (p := ⟨g2, m1 * 2 + 1, none⟩) hg2']; exact hy3
                  have hlt0 := unhide HSB _ (List.getElem_mem hm0)
                  have hlt1 := unhide HSB _ (List.getElem_mem hm1)
                  have hg2w : g2 < wr.heap.size := cell_lt hx0
                  clear hy0 hy1 hy2 hy3 HCELL HSEL HK HBITS HSB HST HWS HC0 hR0 HBAD HSP HFW
                  generalize ss[m0] = ca at *
                  generalize ss[m1] = cb at *
                  obtain ⟨p1, n1⟩ := ca
                  obtain ⟨p2, n2⟩ := cb
                  have hp19 : p1 < 512 := hlt0.1
                  have hn19 : n1 < 512 := hlt0.2
                  have hp29 : p2 < 512 := hlt1.1
                  have hn29 : n2 < 512 := hlt1.2
                  clear hlt0 hlt1
                  dsimp only at hx0 hx1 hx2 hx3 HAP
                  have bu := and_bit_ne F.all v hall hv8
                  have ba := and_bit_eq p1 v hp19 hv8
                  have bb := and_bit_eq n2 v hn29 hv8
                  have l1 := less_bit p1 v hp19 hv8
                  have l2 := less_bit n2 v hn29 hv8
                  have lt1 := less_lt p1 (2 ^ v) hp19
                  have lt2 := less_lt n2 (2 ^ v) hn29
                  have o1 : bits .or .i64 ((less p1 (2 ^ v) : Nat) : Int) (p2 : Int) = ((less p1 (2 ^ v) ||| p2 : Nat) : Int) := i64_or _ _ (by omega) (by omega)
                  have o2 : bits .or .i64 (n1 : Int) ((less n2 (2 ^ v) : Nat) : Int) = ((n1 ||| less n2 (2 ^ v) : Nat) : Int) := i64_or _ _ (by omega) (by omega)
                  have HR2 : Hid (resolve2 (p1, n1) (p2, n2) v = (less p1 (2 ^ v) ||| p2, n1 ||| less n2 (2 ^ v))) := hide rfl
                  have hor1 := or_lt _ _ lt1 hp29
                  have hor2 := or_lt _ _ hn19 lt2
                  have hand : (bits .and .i64 ((less p1 (2 ^ v) ||| p2 : Nat) : Int) ((n1 ||| less n2 (2 ^ v) : Nat) : Int) == 0) = ((less p1 (2 ^ v) ||| p2) &&& (n1 ||| less n2 (2 ^ v)) == 0) := by rw [i64_and _ _ (by omega) (by omega), nat_beq_zero]
                  cases hbu : F.all.testBit v with
                  | false =>
                    rw [hbu] at bu HAP
                    cases truth with
                    | false =>
                      cases hba : p1.testBit v with
                      | false =>
                        rw [hba] at ba
                        have HF : Hid (stepR F false ss [114] tl = none) := hide (by rw [unhide HAP, if_pos (Or.inr (Or.inl hba))])
                        clear hba
                        have hRq := blk_set (blk_set hres 0 (.int .i64 0)) 1 (.int .i64 0)
                        have hR1 := (heap_alloc_old _ (.cells #[.int .i64 (p1 : Int), .int .i64 (n1 : Int)] 121) (blk_lt hRq)).trans hRq
                        have hR2 := (heap_alloc_old _ (.cells #[.int .i64 (p2 : Int), .int .i64 (n2 : Int)] 121) (blk_lt hR1)).trans hR1
                        have jq0 := blk_cell hR2 0
                        have jq1 := blk_cell hR2 1
                        go_wp2_with fail
                        refine bodyPost_ret (v := .tuple #[.agg #[.int .i64 0, .int .i64 0], .bool false]) (by simp [results, Tryz.results86, go_sem, jq0, jq1]) rfl (RStPost.none_ ?_ (unhide HF) (0, 0) rfl)
                        exact (((hb.setCell (p := ⟨w.heap.size, 0, none⟩) (Nat.le_refl _) _).setCell (p := ⟨w.heap.size, 1, none⟩) (Nat.le_refl _) _).alloc (by simp [World.setCell]; omega) _).alloc (by simp [World.setCell]; omega) _
                      | true =>
                        rw [hba] at ba
                        cases hbb : n2.testBit v with
                        | false =>
                          rw [hbb] at bb
                          have HF : Hid (stepR F false ss [114] tl = none) := hide (by rw [unhide HAP, if_pos (Or.inr (Or.inr hbb))])
                          clear hba hbb
                          have hRq := blk_set (blk_set hres 0 (.int .i64 0)) 1 (.int .i64 0)
                          have hR1 := (heap_alloc_old _ (.cells #[.int .i64 (p1 : Int), .int .i64 (n1 : Int)] 121) (blk_lt hRq)).trans hRq
                          have hR2 := (heap_alloc_old _ (.cells #[.int .i64 (p2 : Int), .int .i64 (n2 : Int)] 121) (blk_lt hR1)).trans hR1
                          have jq0 := blk_cell hR2 0
                          have jq1 := blk_cell hR2 1
                          go_wp2_with fail
                          refine bodyPost_ret (v := .tuple #[.agg #[.int .i64 0, .int .i64 0], .bool false]) (by simp [results, Tryz.results86, go_sem, jq0, jq1]) rfl (RStPost.none_ ?_ (unhide HF) (0, 0) rfl)
                          exact (((hb.setCell (p := ⟨w.heap.size, 0, none⟩) (Nat.le_refl _) _).setCell (p := ⟨w.heap.size, 1, none⟩) (Nat.le_refl _) _).alloc (by simp [World.setCell]; omega) _).alloc (by simp [World.setCell]; omega) _
                        | true =>
                          rw [hbb] at bb
                          have HAQ : Hid (stepR F false ss [114] tl = apartO (less p1 (2 ^ v) ||| p2, n1 ||| less n2 (2 ^ v))) := hide (by rw [unhide HAP, if_neg (by rw [hba, hbb]; simp), unhide HR2])
                          clear hba hbb
                          generalize less p1 (2 ^ v) ||| p2 = p at *
                          generalize n1 ||| less n2 (2 ^ v) = n at *
                          go_wp2_with fail
                          have hz0 : Below w.heap.size w (((wr.alloc (.cells #[.int .i64 (p1 : Int), .int .i64 (n1 : Int)] 121)).alloc (.cells #[.int .i64 (p2 : Int), .int .i64 (n2 : Int)] 121)).alloc (.cells #[.int .i64 (p : Int), .int .i64 (n : Int)] 121)) := ((hb.alloc (Nat.le_of_lt hbs0) _).alloc (by simp; omega) _).alloc (by simp; omega) _
                          have hz1 : (((wr.alloc (.cells #[.int .i64 (p1 : Int), .int .i64 (n1 : Int)] 121)).alloc (.cells #[.int .i64 (p2 : Int), .int .i64 (n2 : Int)] 121)).alloc (.cells #[.int .i64 (p : Int), .int .i64 (n : Int)] 121)).heap[w.heap.size]? = some (.cells #[.int .i64 0, .int .i64 0] 121 (0, 0)) := by
                            rw [heap_alloc_old _ _ (by simp; omega), heap_alloc_old _ _ (by simp; omega), heap_alloc_old _ _ hbs0]; exact hres
                          have hz2 : (((wr.alloc (.cells #[.int .i64 (p1 : Int), .int .i64 (n1 : Int)] 121)).alloc (.cells #[.int .i64 (p2 : Int), .int .i64 (n2 : Int)] 121)).alloc (.cells #[.int .i64 (p : Int), .int .i64 (n : Int)] 121)).heap[wr.heap.size + 1 + 1]? = some (.cells #[.int .i64 (p : Int), .int .i64 (n : Int)] 121 (0, 0)) := new_at (by simp)
                          generalize (((wr.alloc (.cells #[.int .i64 (p1 : Int), .int .i64 (n1 : Int)] 121)).alloc (.cells #[.int .i64 (p2 : Int), .int .i64 (n2 : Int)] 121)).alloc (.cells #[.int .i64 (p : Int), .int .i64 (n : Int)] 121)) = wz at *
                          have cz0 : wz.cell? ⟨wr.heap.size + 1 + 1, 0, none⟩ = some (.int .i64 p) := by rw [blk_cell hz2]; rfl
                          have cz1 : wz.cell? ⟨wr.heap.size + 1 + 1, 1, none⟩ = some (.int .i64 n) := by rw [blk_cell hz2]; rfl
                          have rz0 : wz.cell? ⟨w.heap.size, 0, none⟩ = some (.int .i64 0) := by rw [blk_cell hz1]; rfl
                          have rz1 : wz.cell? ⟨w.heap.size, 1, none⟩ = some (.int .i64 0) := by rw [blk_cell hz1]; rfl
                          have fz0 := blk_free hz1 0
                          have fz1 := blk_free hz1 1
                          have hczl := blk_lt hz2
                          have hne1 : w.heap.size ≠ wr.heap.size + 1 + 1 := by omega
                          have hne2 : wr.heap.size + 1 + 1 ≠ w.heap.size := by omega
                          clear hx0 hx1 hx2 hx3 kc0 kc1 kc2 r0 r1 zr0 zr1 n0 x1 x3 hq0 hq1 hp1 hq2 hq3 hp3 hq4 hp4 hq5 hp5 ba bb bu l1 l2 o1 o2
                          go_region
                          all_goals go_wp2_with fail
                          all_goals
                            have hRq := blk_set (blk_set hz1 0 (.int .i64 p)) 1 (.int .i64 n)
                            have jq0 := blk_cell hRq 0
                            have jq1 := blk_cell hRq 1
                            refine bodyPost_ret (v := .tuple #[.agg #[.int .i64 p, .int .i64 n], .bool (p &&& n == 0)]) (by simp [results, Tryz.results86, go_sem, jq0, jq1]) rfl ?_
                            have hB : Below w.heap.size w ((wz.setCell ⟨w.heap.size, 0, none⟩ (.int .i64 p)).setCell ⟨w.heap.size, 1, none⟩ (.int .i64 n)).drew := ((hz0.setCell (p := ⟨w.heap.size, 0, none⟩) (Nat.le_refl _) _).setCell (p := ⟨w.heap.size, 1, none⟩) (Nat.le_refl _) _).drew
                            cases hcl : (p &&& n == 0) with
                            | false => exact RStPost.none_ hB (by rw [unhide HAQ]; unfold apartO; rw [if_neg (by simpa using hcl)]) (p, n) rfl
                            | true => exact RStPost.some_ hB (p, n) (by rw [unhide HAQ]; unfold apartO; rw [if_pos (by simpa using hcl)]) rfl
                    | true =>
                      have HF : Hid (stepR F true ss [114] tl = none) := hide (by rw [unhide HAP, if_pos (Or.inl (by simp))])
                      have hRq := blk_set (blk_set hres 0 (.int .i64 0)) 1 (.int .i64 0)
                      have hR1 := (heap_alloc_old _ (.cells #[.int .i64 (p1 : Int), .int .i64 (n1 : Int)] 121) (blk_lt hRq)).trans hRq
                      have hR2 := (heap_alloc_old _ (.cells #[.int .i64 (p2 : Int), .int .i64 (n2 : Int)] 121) (blk_lt hR1)).trans hR1
                      have jq0 := blk_cell hR2 0
                      have jq1 := blk_cell hR2 1
                      go_wp2_with fail
                      refine bodyPost_ret (v := .tuple #[.agg #[.int .i64 0, .int .i64 0], .bool false]) (by simp [results, Tryz.results86, go_sem, jq0, jq1]) rfl (RStPost.none_ ?_ (unhide HF) (0, 0) rfl)
                      exact (((hb.setCell (p := ⟨w.heap.size, 0, none⟩) (Nat.le_refl _) _).setCell (p := ⟨w.heap.size, 1, none⟩) (Nat.le_refl _) _).alloc (by simp [World.setCell]; omega) _).alloc (by simp [World.setCell]; omega) _
                  | true =>
                    rw [hbu] at bu HAP
                    cases truth with
                    | false =>
                      have HF : Hid (stepR F false ss [114] tl = none) := hide (by rw [unhide HAP, if_pos (Or.inl (by simp))])
                      have hRq := blk_set (blk_set hres 0 (.int .i64 0)) 1 (.int .i64 0)
                      have hR1 := (heap_alloc_old _ (.cells #[.int .i64 (p1 : Int), .int .i64 (n1 : Int)] 121) (blk_lt hRq)).trans hRq
                      have hR2 := (heap_alloc_old _ (.cells #[.int .i64 (p2 : Int), .int .i64 (n2 : Int)] 121) (blk_lt hR1)).trans hR1
                      have jq0 := blk_cell hR2 0
                      have jq1 := blk_cell hR2 1
                      go_wp2_with fail
                      refine bodyPost_ret (v := .tuple #[.agg #[.int .i64 0, .int .i64 0], .bool false]) (by simp [results, Tryz.results86, go_sem, jq0, jq1]) rfl (RStPost.none_ ?_ (unhide HF) (0, 0) rfl)
                      exact (((hb.setCell (p := ⟨w.heap.size, 0, none⟩) (Nat.le_refl _) _).setCell (p := ⟨w.heap.size, 1, none⟩) (Nat.le_refl _) _).alloc (by simp [World.setCell]; omega) _).alloc (by simp [World.setCell]; omega) _
                    | true =>
                      cases hba : p1.testBit v with
                      | false =>
                        rw [hba] at ba
                        have HF : Hid (stepR F true ss [114] tl = none) := hide (by rw [unhide HAP, if_pos (Or.inr (Or.inl hba))])
                        clear hba
                        have hRq := blk_set (blk_set hres 0 (.int .i64 0)) 1 (.int .i64 0)
                        have hR1 := (heap_alloc_old _ (.cells #[.int .i64 (p1 : Int), .int .i64 (n1 : Int)] 121) (blk_lt hRq)).trans hRq
                        have hR2 := (heap_alloc_old _ (.cells #[.int .i64 (p2 : Int), .int .i64 (n2 : Int)] 121) (blk_lt hR1)).trans hR1
                        have jq0 := blk_cell hR2 0
                        have jq1 := blk_cell hR2 1
                        go_wp2_with fail
                        refine bodyPost_ret (v := .tuple #[.agg #[.int .i64 0, .int .i64 0], .bool false]) (by simp [results, Tryz.results86, go_sem, jq0, jq1]) rfl (RStPost.none_ ?_ (unhide HF) (0, 0) rfl)
                        exact (((hb.setCell (p := ⟨w.heap.size, 0, none⟩) (Nat.le_refl _) _).setCell (p := ⟨w.heap.size, 1, none⟩) (Nat.le_refl _) _).alloc (by simp [World.setCell]; omega) _).alloc (by simp [World.setCell]; omega) _
                      | true =>
                        rw [hba] at ba
                        cases hbb : n2.testBit v with
                        | false =>
                          rw [hbb] at bb
                          have HF : Hid (stepR F true ss [114] tl = none) := hide (by rw [unhide HAP, if_pos (Or.inr (Or.inr hbb))])
                          clear hba hbb
                          have hRq := blk_set (blk_set hres 0 (.int .i64 0)) 1 (.int .i64 0)
                          have hR1 := (heap_alloc_old _ (.cells #[.int .i64 (p1 : Int), .int .i64 (n1 : Int)] 121) (blk_lt hRq)).trans hRq
                          have hR2 := (heap_alloc_old _ (.cells #[.int .i64 (p2 : Int), .int .i64 (n2 : Int)] 121) (blk_lt hR1)).trans hR1
                          have jq0 := blk_cell hR2 0
                          have jq1 := blk_cell hR2 1
                          go_wp2_with fail
                          refine bodyPost_ret (v := .tuple #[.agg #[.int .i64 0, .int .i64 0], .bool false]) (by simp [results, Tryz.results86, go_sem, jq0, jq1]) rfl (RStPost.none_ ?_ (unhide HF) (0, 0) rfl)
                          exact (((hb.setCell (p := ⟨w.heap.size, 0, none⟩) (Nat.le_refl _) _).setCell (p := ⟨w.heap.size, 1, none⟩) (Nat.le_refl _) _).alloc (by simp [World.setCell]; omega) _).alloc (by simp [World.setCell]; omega) _
                        | true =>
                          rw [hbb] at bb
                          have HAQ : Hid (stepR F true ss [114] tl = apartO (less p1 (2 ^ v) ||| p2, n1 ||| less n2 (2 ^ v))) := hide (by rw [unhide HAP, if_neg (by rw [hba, hbb]; simp), unhide HR2])
                          clear hba hbb
                          generalize less p1 (2 ^ v) ||| p2 = p at *
                          generalize n1 ||| less n2 (2 ^ v) = n at *
                          go_wp2_with fail
                          have hz0 : Below w.heap.size w (((wr.alloc (.cells #[.int .i64 (p1 : Int), .int .i64 (n1 : Int)] 121)).alloc (.cells #[.int .i64 (p2 : Int), .int .i64 (n2 : Int)] 121)).alloc (.cells #[.int .i64 (p : Int), .int .i64 (n : Int)] 121)) := ((hb.alloc (Nat.le_of_lt hbs0) _).alloc (by simp; omega) _).alloc (by simp; omega) _
                          have hz1 : (((wr.alloc (.cells #[.int .i64 (p1 : Int), .int .i64 (n1 : Int)] 121)).alloc (.cells #[.int .i64 (p2 : Int), .int .i64 (n2 : Int)] 121)).alloc (.cells #[.int .i64 (p : Int), .int .i64 (n : Int)] 121)).heap[w.heap.size]? = some (.cells #[.int .i64 0, .int .i64 0] 121 (0, 0)) := by
                            rw [heap_alloc_old _ _ (by simp; omega), heap_alloc_old _ _ (by simp; omega), heap_alloc_old _ _ hbs0]; exact hres
                          have hz2 : (((wr.alloc (.cells #[.int .i64 (p1 : Int), .int .i64 (n1 : Int)] 121)).alloc (.cells #[.int .i64 (p2 : Int), .int .i64 (n2 : Int)] 121)).alloc (.cells #[.int .i64 (p : Int), .int .i64 (n : Int)] 121)).heap[wr.heap.size + 1 + 1]? = some (.cells #[.int .i64 (p : Int), .int .i64 (n : Int)] 121 (0, 0)) := new_at (by simp)
                          generalize (((wr.alloc (.cells #[.int .i64 (p1 : Int), .int .i64 (n1 : Int)] 121)).alloc (.cells #[.int .i64 (p2 : Int), .int .i64 (n2 : Int)] 121)).alloc (.cells #[.int .i64 (p : Int), .int .i64 (n : Int)] 121)) = wz at *
                          have cz0 : wz.cell? ⟨wr.heap.size + 1 + 1, 0, none⟩ = some (.int .i64 p) := by rw [blk_cell hz2]; rfl
                          have cz1 : wz.cell? ⟨wr.heap.size + 1 + 1, 1, none⟩ = some (.int .i64 n) := by rw [blk_cell hz2]; rfl
                          have rz0 : wz.cell? ⟨w.heap.size, 0, none⟩ = some (.int .i64 0) := by rw [blk_cell hz1]; rfl
                          have rz1 : wz.cell? ⟨w.heap.size, 1, none⟩ = some (.int .i64 0) := by rw [blk_cell hz1]; rfl
                          have fz0 := blk_free hz1 0
                          have fz1 := blk_free hz1 1
                          have hczl := blk_lt hz2
                          have hne1 : w.heap.size ≠ wr.heap.size + 1 + 1 := by omega
                          have hne2 : wr.heap.size + 1 + 1 ≠ w.heap.size := by omega
                          clear hx0 hx1 hx2 hx3 kc0 kc1 kc2 r0 r1 zr0 zr1 n0 x1 x3 hq0 hq1 hp1 hq2 hq3 hp3 hq4 hp4 hq5 hp5 ba bb bu l1 l2 o1 o2
                          go_region
                          all_goals go_wp2_with fail
                          all_goals
                            have hRq := blk_set (blk_set hz1 0 (.int .i64 p)) 1 (.int .i64 n)
                            have jq0 := blk_cell hRq 0
                            have jq1 := blk_cell hRq 1
                            refine bodyPost_ret (v := .tuple #[.agg #[.int .i64 p, .int .i64 n], .bool (p &&& n == 0)]) (by simp [results, Tryz.results86, go_sem, jq0, jq1]) rfl ?_
                            have hB : Below w.heap.size w ((wz.setCell ⟨w.heap.size, 0, none⟩ (.int .i64 p)).setCell ⟨w.heap.size, 1, none⟩ (.int .i64 n)).drew := ((hz0.setCell (p := ⟨w.heap.size, 0, none⟩) (Nat.le_refl _) _).setCell (p := ⟨w.heap.size, 1, none⟩) (Nat.le_refl _) _).drew
                            cases hcl : (p &&& n == 0) with
                            | false => exact RStPost.none_ hB (by rw [unhide HAQ]; unfold apartO; rw [if_neg (by simpa using hcl)]) (p, n) rfl
                            | true => exact RStPost.some_ hB (p, n) (by rw [unhide HAQ]; unfold apartO; rw [if_pos (by simpa using hcl)]) rfl
end Go.Proofs.YtgipjjhkhfihpaaGreatDoor

namespace Go.Proofs.YtgipjjhkhfihpaaGreatDoor
open Go.RowKit

theorem step_any (lo b : Nat) (F : Form) (ss : List (Nat × Nat)) (aS : Option Addr) (cS : Nat) (lS : Nat) (truth : Bool) (hd : List UInt8) (tl : List (List UInt8)) (g off cap : Nat) (w : World) (hIn : StepIn lo b F ss aS cS lS hd tl g off cap w) :
    Calls Tryz.prog 86 #[.pointer (some ⟨b, 0, none⟩), .slice aS ss.length cS, .slice (some ⟨g, off, none⟩) (tl.length + 1) cap, .bool truth] w fun e w' => RStPost (stepR F truth ss hd tl) w e w' := by
  by_cases h1 : hd = [97] ∧ truth = false ∧ tl.length = 1
  · exact step_a lo b F ss aS cS lS truth hd tl g off cap w hIn h1.1 h1.2.1 h1.2.2
  · by_cases h2 : hd = [99] ∧ truth = true
    · exact step_c lo b F ss aS cS lS truth hd tl g off cap w hIn h2.1 h2.2
    · by_cases h3 : hd = [114] ∧ tl.length = 3
      · exact step_r lo b F ss aS cS lS truth hd tl g off cap w hIn h3.1 h3.2
      · by_cases h4 : hd = [100] ∧ tl.length = 1
        · exact step_d lo b F ss aS cS lS truth hd tl g off cap w hIn h4.1 h4.2
        · exact step_none lo b F ss aS cS lS truth hd tl g off cap w hIn ⟨h1, h2, h3, h4⟩
end Go.Proofs.YtgipjjhkhfihpaaGreatDoor
