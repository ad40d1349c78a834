import Derived.Test.YtgipjjhkhfihpaaGreatDoorSA
namespace Go.Proofs.YtgipjjhkhfihpaaGreatDoor
open Go.RowKit

set_option maxRecDepth 100000 in
set_option maxHeartbeats 12800000 in
theorem step_d (lo b : Nat) (F : Form) (ss : List (Nat × Nat)) (aS : Option Addr) (cS : Nat) (lS : Nat) (truth : Bool) (hd : List UInt8) (tl : List (List UInt8)) (g off cap : Nat) (w : World) (hIn : StepIn lo b F ss aS cS lS hd tl g off cap w) (hhd : hd = [100]) (hln : tl.length = 1) :
    Calls Tryz.prog 86 #[.pointer (some ⟨b, 0, none⟩), .slice aS ss.length cS, .slice (some ⟨g, off, none⟩) (tl.length + 1) cap, .bool truth] w fun e w' => RStPost (stepR F truth ss hd tl) w e w' := by
  have HLN := hide hln
  have HHD := hide hhd
  clear hln hhd
  obtain ⟨hR, hF, hS, hSB, hSb, hs, hl, hcap, hws⟩ := hIn
  obtain ⟨i0, hi, hz0, hz1, hz2⟩ := info_parts Tryz.info3
  have hR0 := hR
  obtain ⟨_, vO, vE, vC, hfb, _, _, hC⟩ := hR
  obtain ⟨aC, cC, rfl⟩ := own_form hC
  have hbw := blk_lt hfb
  obtain ⟨g', off', cur, he, hg, hcur⟩ := hs (by simp)
  injection he with he
  injection he with e1 e2 e3
  subst e1 e2
  clear e3
  have hgw := blk_lt hg
  have HC0 : Hid (∀ wx : World, Below w.heap.size w wx → wx.cell? ⟨g, off, none⟩ = some (S hd)) := hide (fun wx hx => by
    rw [hx.cell (p := ⟨g, off, none⟩) hgw, blk_cell hg]; exact hcur 0 (by simp))
  have HCJ : Hid (∀ (wx : World) (j : Nat) (hj : j < tl.length), Below w.heap.size w wx → wx.cell? ⟨g, off + (j + 1), none⟩ = some (S tl[j])) := hide (fun wx j hj hx => by
    rw [hx.cell (p := ⟨g, off + (j + 1), none⟩) hgw, blk_cell hg]; exact hcur (j + 1) (by simpa using hj))
  have HST : Hid (∀ (wx : World) (ao : Option Addr), Below w.heap.size w wx → (tl ≠ [] → ao = some ⟨g, off + 1, none⟩) → StrsAt wx ao tl) := hide (fun wx ao hx ho hne => ⟨g, off + 1, cur, ho hne, (hx.block _ hgw).trans hg, fun j hj => by
    have h1 := hcur (1 + j) (by simp; omega)
    rw [← Nat.add_assoc] at h1
    rw [h1]
    simp [show 1 + j = j + 1 from by omega]⟩)
  have HWS := hide hws
  clear hcur hws hs hg
  go_enter Tryz.func86, Tryz.ntmps86
  go_wp2_with fail
  go_loopg [11, 12] tl.length (fun m v i wx => ∃ j : Nat, i = .int .i64 (j + 1) ∧ j + m = tl.length ∧ wx.ownsRow (w.heap.size + 2) 3 1 v j (ints (cnts (tl.take j))) ∧ Below w.heap.size w wx ∧
      wx.heap[w.heap.size]? = some (.cells #[.int .i64 0, .int .i64 0] 121 (0, 0)) ∧ wx.heap[w.heap.size + 1]? = some (.cells #[.int .i64 0, .int .i64 0] 121 (0, 0)))
  case atStart => exact ⟨0, rfl, by omega, World.ownsRow_nil _ _ _ _, ((Below.refl _ _).alloc (Nat.le_refl _) _).alloc (by simp) _, by rw [heap_alloc_old _ _ (by simp)]; exact heap_alloc_new _ _, new_at (by simp)⟩
  case round =>
    obtain ⟨j, rfl, hj, hown, hb, hres, hnon⟩ := hrel
    have hbs := blk_lt hnon
    by_cases hlt : j < tl.length
    · have hcj := unhide HCJ wr j hlt hb
      have hxl := unhide HWS _ (List.getElem_mem hlt)
      have HT := hide (cnts_take tl j hlt)
      have hgw1 : g < wr.heap.size := by omega
      generalize tl[j] = x at *
      go_wp2_with fail
      refine (count_any x 1048576 wr hxl (by omega)).mono ?_
      rintro e w1 ⟨rfl, hw1⟩
      subst hw1
      rw [show cnt x 1048576 = cnt x big from rfl]
      go_wp2_with (at_builtin; refine wpList_append_new rfl _ _ 25 rfl (w.heap.size + 2) i0 (.int .i64 0) 1 8 Tryz.underlying25 hi hz0 hz1 hz2 rfl (by decide) _ _ _ hown rfl rfl rfl (by simp [Value.oneCell']) (by unfold maxLen; omega) (by omega) (by omega) ?_; intro v' w2 hown' hgrow hnn)
      go_roundg (gk - 1)
      case measure => omega
      case rel =>
        have hlto := hown.lt
        refine ⟨j + 1, by go_num, by omega, by rw [unhide HT]; exact hown', below_grown hb hgrow hown (by omega) (by omega), ?_, ?_⟩
        · rw [hgrow.block _ (by omega) (fun e => by have := hlto _ e.symm; omega)]; exact hres
        · rw [hgrow.block _ (by omega) (fun e => by have := hlto _ e.symm; omega)]; exact hnon
    · have hjl : j = tl.length := by omega
      subst hjl
      rw [List.take_length] at hown
      clear hj hlt hi hz0 hz1 hz2 HCJ
      obtain ⟨aK, cK, rfl⟩ := own_form hown
      have hc0 := unhide HC0 wr hb
      have hgw1 : g < wr.heap.size := by omega
      have hbw1 : b < wr.heap.size := by omega
      have hbs0 : w.heap.size < wr.heap.size := by omega
      have r0 : wr.cell? ⟨w.heap.size, 0, none⟩ = some (.int .i64 0) := by rw [blk_cell hres]; rfl
      have r1 : wr.cell? ⟨w.heap.size, 1, none⟩ = some (.int .i64 0) := by rw [blk_cell hres]; rfl
      have zr0 := blk_free hres 0
      have zr1 := blk_free hres 1
      have n0 : wr.cell? ⟨w.heap.size + 1, 0, none⟩ = some (.int .i64 0) := by rw [blk_cell hnon]; rfl
      have n1 : wr.cell? ⟨w.heap.size + 1, 1, none⟩ = some (.int .i64 0) := by rw [blk_cell hnon]; rfl
      have x1 : wr.cell? ⟨b, 1, none⟩ = some (.int .i64 F.all) := by rw [hb.cell (p := ⟨b, 1, none⟩) hbw, blk_cell hfb]; rfl
      have x3 : wr.cell? ⟨b, 3, none⟩ = some (.slice aC F.cl.length cC) := by rw [hb.cell (p := ⟨b, 3, none⟩) hbw, blk_cell hfb]; rfl
      have HK : Hid (∀ (i : Nat) (hi : i < tl.length), ∃ gK, aK = some ⟨gK, 0, none⟩ ∧ gK < wr.heap.size ∧ wr.cell? ⟨gK, i, none⟩ = some (.int .i64 (cnt tl[i] big : Nat)) ∧ tl.length ≤ cK) := hide (fun i hi => by
        obtain ⟨gK, capK, hVe, _, hg', hcap', hcell⟩ := own_pos hown (by omega)
        injection hVe with hVe _ hV2
        subst hVe hV2
        exact ⟨gK, rfl, hg', hcell _ _ (by unfold ints cnts; simp [hi]), hcap'⟩)
      have HBITS := hide hF.bits
      have hc24 := hF.cl
      have hall := hF.all
      have HSB := hide hSb
      have HCELL : Hid (∀ (m : Nat) (hm : m < F.cl.length), ∃ g2, aC = some ⟨g2, 0, none⟩ ∧ g2 < w.heap.size ∧ w.cell? ⟨g2, m * 2, none⟩ = some (.int .i64 (F.cl[m].1 : Int)) ∧ w.cell? ⟨g2, m * 2 + 1, none⟩ = some (.int .i64 (F.cl[m].2 : Int))) := hide (fun m hm => by
        obtain ⟨g2, cap2, hVe, hg2, hg2', _, hcell⟩ := own_pos hC (by omega)
        injection hVe with hVe _ hV2
        subst hVe hV2
        obtain ⟨hpa, hpb⟩ := pairs_at F.cl m hm
        exact ⟨g2, rfl, hg2', hcell _ _ hpa, hcell _ _ hpb⟩)
      have HSEL : Hid (∀ (m : Nat) (hm : m < ss.length), ∃ g2, aS = some ⟨g2, 0, none⟩ ∧ g2 < w.heap.size ∧ w.cell? ⟨g2, m * 2, none⟩ = some (.int .i64 (ss[m].1 : Int)) ∧ w.cell? ⟨g2, m * 2 + 1, none⟩ = some (.int .i64 (ss[m].2 : Int))) := hide (fun m hm => by
        obtain ⟨g2, cap2, hVe, hg2, hg2', _, hcell⟩ := own_pos hS (by omega)
        injection hVe with hVe _ hV2
        subst hVe hV2
        obtain ⟨hpa, hpb⟩ := pairs_at ss m hm
        exact ⟨g2, rfl, hg2', hcell _ _ hpa, hcell _ _ hpb⟩)
      have HFW := hide hF
      clear hSb hown hC hfb hS hF
      have hln := unhide HLN
      have hhd := unhide HHD
      subst hhd
      have hbwr := hb
      have hreswr := hres
      have h01 : 0 < tl.length := by omega
      have HSP : Hid (stepR F truth ss [100] tl = reductR F truth ss (cnt tl[0] big)) := hide (by unfold stepR; rw [if_neg (by simp), if_neg (by simp), if_neg (by simp), if_pos ⟨rfl, hln⟩, getD_at' _ _ _ h01])
      have hlb : ((tl.length : Int) == 1) = true := by rw [beq_iff_eq]; omega
      have hi0 : (0 : Int) < (tl.length : Int) := by omega
      clear hln
      obtain ⟨gK, rfl, hgK, kc0, hcK⟩ := unhide HK 0 h01
      generalize cnt tl[0] big = c at *
      by_cases hc1 : c < 1
      · have HF : Hid (stepR F truth ss [100] tl = none) := hide (by rw [unhide HSP]; unfold reductR; rw [if_pos (Or.inl hc1)])
        have hq1 : decide ((c : Int) < 1) = true := by simp; omega
        clear hc1
        have hRq := blk_set (blk_set hreswr 0 (.int .i64 0)) 1 (.int .i64 0)
        have jq0 := blk_cell hRq 0
        have jq1 := blk_cell hRq 1
        go_wp2_with fail
        refine bodyPost_ret (v := .tuple #[.agg #[.int .i64 0, .int .i64 0], .bool false]) (by simp [results, Tryz.results86, go_sem, jq0, jq1]) rfl (RStPost.none_ ?_ (unhide HF) (0, 0) rfl)
        exact (hbwr.setCell (p := ⟨w.heap.size, 0, none⟩) (Nat.le_refl _) _).setCell (p := ⟨w.heap.size, 1, none⟩) (Nat.le_refl _) _
      · have hq1 : decide ((c : Int) < 1) = false := by simp; omega
        by_cases hc2 : ss.length < c
        · have HF : Hid (stepR F truth ss [100] tl = none) := hide (by rw [unhide HSP]; unfold reductR; rw [if_pos (Or.inr hc2)])
          have hq2 : decide (ss.length < c) = true := by simp; omega
          have hq2' : decide ((ss.length : Int) < (c : Int)) = true := by simp; omega
          clear hc1 hc2
          have hRq := blk_set (blk_set hreswr 0 (.int .i64 0)) 1 (.int .i64 0)
          have jq0 := blk_cell hRq 0
          have jq1 := blk_cell hRq 1
          go_wp2_with fail
          refine bodyPost_ret (v := .tuple #[.agg #[.int .i64 0, .int .i64 0], .bool false]) (by simp [results, Tryz.results86, go_sem, jq0, jq1]) rfl (RStPost.none_ ?_ (unhide HF) (0, 0) rfl)
          exact (hbwr.setCell (p := ⟨w.heap.size, 0, none⟩) (Nat.le_refl _) _).setCell (p := ⟨w.heap.size, 1, none⟩) (Nat.le_refl _) _
        · obtain ⟨m, rfl⟩ : ∃ m, c = m + 1 := ⟨c - 1, by omega⟩
          have hm : m < ss.length := by omega
          have hq2 : decide (ss.length < m + 1) = false := by simp; omega
          have hq2' : decide ((ss.length : Int) < (m : Int) + 1) = false := by simp; omega
          have hq3 : decide ((m : Int) + 1 < 1) = false := by simp; omega
          have HAP : Hid (stepR F truth ss [100] tl = some (redR F.order (kindR F truth) ss[m])) := hide (by rw [unhide HSP]; unfold reductR; rw [if_neg (by omega), Nat.add_sub_cancel, getD_at' _ _ _ hm])
          obtain ⟨g2, rfl, hg2', hy0, hy1⟩ := unhide HSEL m hm
          have hx0 : wr.cell? ⟨g2, m * 2, none⟩ = some (.int .i64 (ss[m].1 : Int)) := by rw [hb.cell (p := ⟨g2, m * 2, none⟩) hg2']; exact hy0
          have hx1 : wr.cell? ⟨g2, m * 2 + 1, none⟩ = some (.int .i64 (ss[m].2 : Int)) := by rw [hb.cell (p := ⟨g2, m * 2 + 1, none⟩) hg2']; exact hy1
          have hlt9 := unhide HSB _ (List.getElem_mem hm)
          have hg2w : g2 < wr.heap.size := cell_lt hx0
          have hRq0 := hR0.later hb
          have hFl := (unhide HFW).len
          have hFn := (unhide HFW).names
          have HFN := hide hFn
          clear hc1 hc2 hy0 hy1 HCELL HSEL HK HBITS HSB HST HWS HC0 hR0 hFn
          generalize ss[m] = c at *
          obtain ⟨p, n⟩ := c
          have hp9 : p < 512 := hlt9.1
          have hn9 : n < 512 := hlt9.2
          dsimp only at hx0 hx1
          have hkd : bits .andNot .i64 510 (F.all : Int) = ((less 510 F.all : Nat) : Int) := i64_andNot 510 F.all (by omega) (by omega)
          have hk9 : less 510 F.all < 512 := less_lt 510 F.all (by omega)
          cases truth with
          | false =>
            have HKR : Hid (kindR F false = F.all) := hide rfl
            go_wp2_with fail
            refine (reduced_any lo b p n F.all F wr hRq0 hFl (unhide HFN) hall hp9 hn9).mono ?_
            rintro e w1 ⟨rfl, hb1⟩
            have hr1 := (hb1.block _ hbs0).trans hres
            have hB1 : Below w.heap.size w w1 := hb.trans (hb1.mono hb.size)
            rw [unhide HKR] at HAP
            generalize redR F.order F.all (p, n) = c at *
            obtain ⟨p', n'⟩ := c
            have q0 : w1.cell? ⟨w.heap.size, 0, none⟩ = some (.int .i64 0) := by rw [blk_cell hr1]; rfl
            have q1 : w1.cell? ⟨w.heap.size, 1, none⟩ = some (.int .i64 0) := by rw [blk_cell hr1]; rfl
            have y0 := blk_free hr1 0
            have y1 := blk_free hr1 1
            have hlw1 := blk_lt hr1
            have hRq := blk_set (blk_set hr1 0 (.int .i64 p')) 1 (.int .i64 n')
            have hRq' := (heap_alloc_old _ (.cells #[.int .i64 (p' : Int), .int .i64 (n' : Int)] 121) (blk_lt hRq)).trans hRq
            have jq0 := blk_cell hRq' 0
            have jq1 := blk_cell hRq' 1
            dsimp only
            go_wp2_with fail
            refine bodyPost_ret (v := .tuple #[.agg #[.int .i64 p', .int .i64 n'], .bool true]) (by simp [results, Tryz.results86, go_sem, jq0, jq1]) rfl (RStPost.some_ ?_ (p', n') (unhide HAP) rfl)
            exact ((hB1.setCell (p := ⟨w.heap.size, 0, none⟩) (Nat.le_refl _) _).setCell (p := ⟨w.heap.size, 1, none⟩) (Nat.le_refl _) _).alloc (by simp [World.setCell]; omega) _
          | true =>
            have HKR : Hid (kindR F true = less 510 F.all) := hide rfl
            go_wp2_with fail
            refine (reduced_any lo b p n (less 510 F.all) F wr hRq0 hFl (unhide HFN) hk9 hp9 hn9).mono ?_
            rintro e w1 ⟨rfl, hb1⟩
            have hr1 := (hb1.block _ hbs0).trans hres
            have hB1 : Below w.heap.size w w1 := hb.trans (hb1.mono hb.size)
            rw [unhide HKR] at HAP
            generalize redR F.order (less 510 F.all) (p, n) = c at *
            obtain ⟨p', n'⟩ := c
            have q0 : w1.cell? ⟨w.heap.size, 0, none⟩ = some (.int .i64 0) := by rw [blk_cell hr1]; rfl
            have q1 : w1.cell? ⟨w.heap.size, 1, none⟩ = some (.int .i64 0) := by rw [blk_cell hr1]; rfl
            have y0 := blk_free hr1 0
            have y1 := blk_free hr1 1
            have hlw1 := blk_lt hr1
            have hRq := blk_set (blk_set hr1 0 (.int .i64 p')) 1 (.int .i64 n')
            have hRq' := (heap_alloc_old _ (.cells #[.int .i64 (p' : Int), .int .i64 (n' : Int)] 121) (blk_lt hRq)).trans hRq
            have jq0 := blk_cell hRq' 0
            have jq1 := blk_cell hRq' 1
            dsimp only
            go_wp2_with fail
            refine bodyPost_ret (v := .tuple #[.agg #[.int .i64 p', .int .i64 n'], .bool true]) (by simp [results, Tryz.results86, go_sem, jq0, jq1]) rfl (RStPost.some_ ?_ (p', n') (unhide HAP) rfl)
            exact ((hB1.setCell (p := ⟨w.heap.size, 0, none⟩) (Nat.le_refl _) _).setCell (p := ⟨w.heap.size, 1, none⟩) (Nat.le_refl _) _).alloc (by simp [World.setCell]; omega) _
end Go.Proofs.YtgipjjhkhfihpaaGreatDoor

namespace Go.Proofs.YtgipjjhkhfihpaaGreatDoor
open Go.RowKit

set_option maxRecDepth 100000 in
set_option maxHeartbeats 12800000 in
theorem step_none (lo b : Nat) (F : Form) (ss : List (Nat × Nat)) (aS : Option Addr) (cS : Nat) (lS : Nat) (truth : Bool) (hd : List UInt8) (tl : List (List UInt8)) (g off cap : Nat) (w : World) (hIn : StepIn lo b F ss aS cS lS hd tl g off cap w) (hno : ¬ (hd = [97] ∧ truth = false ∧ tl.length = 1) ∧ ¬ (hd = [99] ∧ truth = true) ∧ ¬ (hd = [114] ∧ tl.length = 3) ∧ ¬ (hd = [100] ∧ tl.length = 1)) :
    Calls Tryz.prog 86 #[.pointer (some ⟨b, 0, none⟩), .slice aS ss.length cS, .slice (some ⟨g, off, none⟩) (tl.length + 1) cap, .bool truth] w fun e w' => RStPost (stepR F truth ss hd tl) w e w' := by
  have HNOO := hide hno
  clear hno
  obtain ⟨hR, hF, hS, hSB, hSb, hs, hl, hcap, hws⟩ := hIn
  obtain ⟨i0, hi, hz0, hz1, hz2⟩ := info_parts Tryz.info3
  have hR0 := hR
  obtain ⟨_, vO, vE, vC, hfb, _, _, hC⟩ := hR
  obtain ⟨aC, cC, rfl⟩ := own_form hC
  have hbw := blk_lt hfb
  obtain ⟨g', off', cur, he, hg, hcur⟩ := hs (by simp)
  injection he with he
  injection he with e1 e2 e3
  subst e1 e2
  clear e3
  have hgw := blk_lt hg
  have HC0 : Hid (∀ wx : World, Below w.heap.size w wx → wx.cell? ⟨g, off, none⟩ = some (S hd)) := hide (fun wx hx => by
    rw [hx.cell (p := ⟨g, off, none⟩) hgw, blk_cell hg]; exact hcur 0 (by simp))
  have HCJ : Hid (∀ (wx : World) (j : Nat) (hj : j < tl.length), Below w.heap.size w wx → wx.cell? ⟨g, off + (j + 1), none⟩ = some (S tl[j])) := hide (fun wx j hj hx => by
    rw [hx.cell (p := ⟨g, off + (j + 1), none⟩) hgw, blk_cell hg]; exact hcur (j + 1) (by simpa using hj))
  have HST : Hid (∀ (wx : World) (ao : Option Addr), Below w.heap.size w wx → (tl ≠ [] → ao = some ⟨g, off + 1, none⟩) → StrsAt wx ao tl) := hide (fun wx ao hx ho hne => ⟨g, off + 1, cur, ho hne, (hx.block _ hgw).trans hg, fun j hj => by
    have h1 := hcur (1 + j) (by simp; omega)
    rw [← Nat.add_assoc] at h1
    rw [h1]
    simp [show 1 + j = j + 1 from by omega]⟩)
  have HWS := hide hws
  clear hcur hws hs hg
  go_enter Tryz.func86, Tryz.ntmps86
  go_wp2_with fail
  go_loopg [11, 12] tl.length (fun m v i wx => ∃ j : Nat, i = .int .i64 (j + 1) ∧ j + m = tl.length ∧ wx.ownsRow (w.heap.size + 2) 3 1 v j (ints (cnts (tl.take j))) ∧ Below w.heap.size w wx ∧
      wx.heap[w.heap.size]? = some (.cells #[.int .i64 0, .int .i64 0] 121 (0, 0)) ∧ wx.heap[w.heap.size + 1]? = some (.cells #[.int .i64 0, .int .i64 0] 121 (0, 0)))
  case atStart => exact ⟨0, rfl, by omega, World.ownsRow_nil _ _ _ _, ((Below.refl _ _).alloc (Nat.le_refl _) _).alloc (by simp) _, by rw [heap_alloc_old _ _ (by simp)]; exact heap_alloc_new _ _, new_at (by simp)⟩
  case round =>
    obtain ⟨j, rfl, hj, hown, hb, hres, hnon⟩ := hrel
    have hbs := blk_lt hnon
    by_cases hlt : j < tl.length
    · have hcj := unhide HCJ wr j hlt hb
      have hxl := unhide HWS _ (List.getElem_mem hlt)
      have HT := hide (cnts_take tl j hlt)
      have hgw1 : g < wr.heap.size := by omega
      generalize tl[j] = x at *
      go_wp2_with fail
      refine (count_any x 1048576 wr hxl (by omega)).mono ?_
      rintro e w1 ⟨rfl, hw1⟩
      subst hw1
      rw [show cnt x 1048576 = cnt x big from rfl]
      go_wp2_with (at_builtin; refine wpList_append_new rfl _ _ 25 rfl (w.heap.size + 2) i0 (.int .i64 0) 1 8 Tryz.underlying25 hi hz0 hz1 hz2 rfl (by decide) _ _ _ hown rfl rfl rfl (by simp [Value.oneCell']) (by unfold maxLen; omega) (by omega) (by omega) ?_; intro v' w2 hown' hgrow hnn)
      go_roundg (gk - 1)
      case measure => omega
      case rel =>
        have hlto := hown.lt
        refine ⟨j + 1, by go_num, by omega, by rw [unhide HT]; exact hown', below_grown hb hgrow hown (by omega) (by omega), ?_, ?_⟩
        · rw [hgrow.block _ (by omega) (fun e => by have := hlto _ e.symm; omega)]; exact hres
        · rw [hgrow.block _ (by omega) (fun e => by have := hlto _ e.symm; omega)]; exact hnon
    · have hjl : j = tl.length := by omega
      subst hjl
      rw [List.take_length] at hown
      clear hj hlt hi hz0 hz1 hz2 HCJ
      obtain ⟨aK, cK, rfl⟩ := own_form hown
      have hc0 := unhide HC0 wr hb
      have hgw1 : g < wr.heap.size := by omega
      have hbw1 : b < wr.heap.size := by omega
      have hbs0 : w.heap.size < wr.heap.size := by omega
      have r0 : wr.cell? ⟨w.heap.size, 0, none⟩ = some (.int .i64 0) := by rw [blk_cell hres]; rfl
      have r1 : wr.cell? ⟨w.heap.size, 1, none⟩ = some (.int .i64 0) := by rw [blk_cell hres]; rfl
      have zr0 := blk_free hres 0
      have zr1 := blk_free hres 1
      have n0 : wr.cell? ⟨w.heap.size + 1, 0, none⟩ = some (.int .i64 0) := by rw [blk_cell hnon]; rfl
      have n1 : wr.cell? ⟨w.heap.size + 1, 1, none⟩ = some (.int .i64 0) := by rw [blk_cell hnon]; rfl
      have x1 : wr.cell? ⟨b, 1, none⟩ = some (.int .i64 F.all) := by rw [hb.cell (p := ⟨b, 1, none⟩) hbw, blk_cell hfb]; rfl
      have x3 : wr.cell? ⟨b, 3, none⟩ = some (.slice aC F.cl.length cC) := by rw [hb.cell (p := ⟨b, 3, none⟩) hbw, blk_cell hfb]; rfl
      have HK : Hid (∀ (i : Nat) (hi : i < tl.length), ∃ gK, aK = some ⟨gK, 0, none⟩ ∧ gK < wr.heap.size ∧ wr.cell? ⟨gK, i, none⟩ = some (.int .i64 (cnt tl[i] big : Nat)) ∧ tl.length ≤ cK) := hide (fun i hi => by
        obtain ⟨gK, capK, hVe, _, hg', hcap', hcell⟩ := own_pos hown (by omega)
        injection hVe with hVe _ hV2
        subst hVe hV2
        exact ⟨gK, rfl, hg', hcell _ _ (by unfold ints cnts; simp [hi]), hcap'⟩)
      have HBITS := hide hF.bits
      have hc24 := hF.cl
      have hall := hF.all
      have HSB := hide hSb
      have HCELL : Hid (∀ (m : Nat) (hm : m < F.cl.length), ∃ g2, aC = some ⟨g2, 0, none⟩ ∧ g2 < w.heap.size ∧ w.cell? ⟨g2, m * 2, none⟩ = some (.int .i64 (F.cl[m].1 : Int)) ∧ w.cell? ⟨g2, m * 2 + 1, none⟩ = some (.int .i64 (F.cl[m].2 : Int))) := hide (fun m hm => by
        obtain ⟨g2, cap2, hVe, hg2, hg2', _, hcell⟩ := own_pos hC (by omega)
        injection hVe with hVe _ hV2
        subst hVe hV2
        obtain ⟨hpa, hpb⟩ := pairs_at F.cl m hm
        exact ⟨g2, rfl, hg2', hcell _ _ hpa, hcell _ _ hpb⟩)
      have HSEL : Hid (∀ (m : Nat) (hm : m < ss.length), ∃ g2, aS = some ⟨g2, 0, none⟩ ∧ g2 < w.heap.size ∧ w.cell? ⟨g2, m * 2, none⟩ = some (.int .i64 (ss[m].1 : Int)) ∧ w.cell? ⟨g2, m * 2 + 1, none⟩ = some (.int .i64 (ss[m].2 : Int))) := hide (fun m hm => by
        obtain ⟨g2, cap2, hVe, hg2, hg2', _, hcell⟩ := own_pos hS (by omega)
        injection hVe with hVe _ hV2
        subst hVe hV2
        obtain ⟨hpa, hpb⟩ := pairs_at ss m hm
        exact ⟨g2, rfl, hg2', hcell _ _ hpa, hcell _ _ hpb⟩)
      have HFW := hide hF
      clear hSb hown hC hfb hS hF
      have hno := unhide HNOO
      have HF : Hid (stepR F truth ss hd tl = none) := hide (by unfold stepR; rw [if_neg hno.1, if_neg hno.2.1, if_neg hno.2.2.1, if_neg hno.2.2.2])
      have hbwr := hb
      have hreswr := hres
      by_cases ha : hd = [97]
      · subst ha
        cases truth with
        | true =>
          clear hno
          have hRq := blk_set (blk_set hreswr 0 (.int .i64 0)) 1 (.int .i64 0)
          have jq0 := blk_cell hRq 0
          have jq1 := blk_cell hRq 1
          go_wp2_with fail
          refine bodyPost_ret (v := .tuple #[.agg #[.int .i64 0, .int .i64 0], .bool false]) (by simp [results, Tryz.results86, go_sem, jq0, jq1]) rfl (RStPost.none_ ?_ (unhide HF) (0, 0) rfl)
          exact (hbwr.setCell (p := ⟨w.heap.size, 0, none⟩) (Nat.le_refl _) _).setCell (p := ⟨w.heap.size, 1, none⟩) (Nat.le_refl _) _
        | false =>
          have h1 : tl.length ≠ 1 := fun h => hno.1 ⟨rfl, rfl, h⟩
          have hlb : ((tl.length : Int) == 1) = false := by rw [beq_eq_false_iff_ne]; omega
          clear hno h1
          have hRq := blk_set (blk_set hreswr 0 (.int .i64 0)) 1 (.int .i64 0)
          have jq0 := blk_cell hRq 0
          have jq1 := blk_cell hRq 1
          go_wp2_with fail
          refine bodyPost_ret (v := .tuple #[.agg #[.int .i64 0, .int .i64 0], .bool false]) (by simp [results, Tryz.results86, go_sem, jq0, jq1]) rfl (RStPost.none_ ?_ (unhide HF) (0, 0) rfl)
          exact (hbwr.setCell (p := ⟨w.heap.size, 0, none⟩) (Nat.le_refl _) _).setCell (p := ⟨w.heap.size, 1, none⟩) (Nat.le_refl _) _
      · have hab : (hd == [97]) = false := by simp [ha]
        by_cases hc : hd = [99]
        · subst hc
          have ht : truth = false := by
            cases truth with
            | false => rfl
            | true => exact absurd ⟨rfl, rfl⟩ hno.2.1
          subst ht
          clear hno ha hab
          have hRq := blk_set (blk_set hreswr 0 (.int .i64 0)) 1 (.int .i64 0)
          have jq0 := blk_cell hRq 0
          have jq1 := blk_cell hRq 1
          go_wp2_with fail
          refine bodyPost_ret (v := .tuple #[.agg #[.int .i64 0, .int .i64 0], .bool false]) (by simp [results, Tryz.results86, go_sem, jq0, jq1]) rfl (RStPost.none_ ?_ (unhide HF) (0, 0) rfl)
          exact (hbwr.setCell (p := ⟨w.heap.size, 0, none⟩) (Nat.le_refl _) _).setCell (p := ⟨w.heap.size, 1, none⟩) (Nat.le_refl _) _
        · have hcb : (hd == [99]) = false := by simp [hc]
          by_cases hr : hd = [114]
          · subst hr
            have h1 : tl.length ≠ 3 := fun h => hno.2.2.1 ⟨rfl, h⟩
            have hlb : ((tl.length : Int) == 3) = false := by rw [beq_eq_false_iff_ne]; omega
            clear hno h1 ha hab hc hcb
            have hRq := blk_set (blk_set hreswr 0 (.int .i64 0)) 1 (.int .i64 0)
            have jq0 := blk_cell hRq 0
            have jq1 := blk_cell hRq 1
            go_wp2_with fail
            refine bodyPost_ret (v := .tuple #[.agg #[.int .i64 0, .int .i64 0], .bool false]) (by simp [results, Tryz.results86, go_sem, jq0, jq1]) rfl (RStPost.none_ ?_ (unhide HF) (0, 0) rfl)
            exact (hbwr.setCell (p := ⟨w.heap.size, 0, none⟩) (Nat.le_refl _) _).setCell (p := ⟨w.heap.size, 1, none⟩) (Nat.le_refl _) _
          · have hrb : (hd == [114]) = false := by simp [hr]
            by_cases hdd : hd = [100]
            · subst hdd
              have h1 : tl.length ≠ 1 := fun h => hno.2.2.2 ⟨rfl, h⟩
              have hlb : ((tl.length : Int) == 1) = false := by rw [beq_eq_false_iff_ne]; omega
              clear hno h1 ha hab hc hcb hr hrb
              have hRq := blk_set (blk_set hreswr 0 (.int .i64 0)) 1 (.int .i64 0)
              have jq0 := blk_cell hRq 0
              have jq1 := blk_cell hRq 1
              go_wp2_with fail
              refine bodyPost_ret (v := .tuple #[.agg #[.int .i64 0, .int .i64 0], .bool false]) (by simp [results, Tryz.results86, go_sem, jq0, jq1]) rfl (RStPost.none_ ?_ (unhide HF) (0, 0) rfl)
              exact (hbwr.setCell (p := ⟨w.heap.size, 0, none⟩) (Nat.le_refl _) _).setCell (p := ⟨w.heap.size, 1, none⟩) (Nat.le_refl _) _
            · have hdb : (hd == [100]) = false := by simp [hdd]
              clear hno ha hc hr hdd
              have hRq := blk_set (blk_set hreswr 0 (.int .i64 0)) 1 (.int .i64 0)
              have jq0 := blk_cell hRq 0
              have jq1 := blk_cell hRq 1
              go_wp2_with fail
              refine bodyPost_ret (v := .tuple #[.agg #[.int .i64 0, .int .i64 0], .bool false]) (by simp [results, Tryz.results86, go_sem, jq0, jq1]) rfl (RStPost.none_ ?_ (unhide HF) (0, 0) rfl)
              exact (hbwr.setCell (p := ⟨w.heap.size, 0, none⟩) (Nat.le_refl _) _).setCell (p := ⟨w.heap.size, 1, none⟩) (Nat.le_refl _) _
end Go.Proofs.YtgipjjhkhfihpaaGreatDoor
