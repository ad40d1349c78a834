import Derived.Test.YtgipjjhkhfihpaaGreatDoorAT
import Derived.Test.YtgipjjhkhfihpaaGreatDoorAC
import Derived.Test.YtgipjjhkhfihpaaGreatDoorAM
namespace Go.Proofs.YtgipjjhkhfihpaaGreatDoor
open Go.RowKit

/-! ### cube -/
theorem satR_take (cl : List (Nat × Nat)) (c : Nat × Nat) (k : Nat) (h : k < cl.length) : satR (cl.take (k + 1)) c = (satR (cl.take k) c && !missed cl[k] c) := by
  unfold satR; rw [List.take_succ_eq_append_getElem h, List.all_append]; simp
theorem satR_of (cl : List (Nat × Nat)) (c : Nat × Nat) (k : Nat) (h : k < cl.length) (hc : missed cl[k] c = true) : satR cl c = false := by
  unfold satR; rw [List.all_eq_false]; exact ⟨cl[k], List.getElem_mem h, by rw [hc]; decide⟩
/-- A clause, or that it is none; c is whatever. -/
def RStPost (res : Option (Nat × Nat)) (w : World) (e : Ending) (w' : World) : Prop :=
  Below w.heap.size w w' ∧ ∃ (c : Nat × Nat) (ok : Bool), e = .returned (.tuple #[.agg #[.int .i64 (c.1 : Int), .int .i64 (c.2 : Int)], .bool ok]) ∧ ((ok = true ∧ res = some c) ∨ (ok = false ∧ res = none))
theorem RStPost.none_ {res : Option (Nat × Nat)} {w w' : World} {e : Ending} (hb : Below w.heap.size w w') (h : res = none) (c : Nat × Nat) (he : e = .returned (.tuple #[.agg #[.int .i64 (c.1 : Int), .int .i64 (c.2 : Int)], .bool false])) : RStPost res w e w' :=
  ⟨hb, c, false, he, Or.inr ⟨rfl, h⟩⟩
theorem RStPost.some_ {res : Option (Nat × Nat)} {w w' : World} {e : Ending} (hb : Below w.heap.size w w') (c : Nat × Nat) (h : res = some c) (he : e = .returned (.tuple #[.agg #[.int .i64 (c.1 : Int), .int .i64 (c.2 : Int)], .bool true])) : RStPost res w e w' :=
  ⟨hb, c, true, he, Or.inl ⟨rfl, h⟩⟩
/-- What holds of a formula that was read, for the walks. -/
structure FW (F : Form) : Prop where
  len : F.order.length ≤ 8
  names : ∀ v ∈ F.order, v ≤ 8
  cl : F.cl.length ≤ 24
  bits : ∀ c ∈ F.cl, c.1 < 512 ∧ c.2 < 512
  all : F.all < 512

theorem lit_var (c : Nat × Nat) (x : List UInt8) : (litInto c x).2 = true → litVar x = if dig x = 0 then (dig x.tail).toNat else (dig x).toNat := fun _ => rfl
theorem dig_tail (c : Nat × Nat) (x : List UInt8) : (litInto c x).2 = true → dig x = 0 → ∃ r, x = 45 :: r ∧ 0 < dig r := by
  intro h h0
  unfold litInto at h
  split at h
  · next r => exact ⟨r, rfl, of_decide_eq_true h⟩
  · have : 0 < dig x := of_decide_eq_true h
    omega

set_option maxRecDepth 100000 in
set_option maxHeartbeats 3200000 in
theorem cube_any (lo b : Nat) (F : Form) (ws : List (List UInt8)) (ao : Option Addr) (cap : Nat) (w : World) (hR : RefAt lo w b F) (hF : FW F) (hs : StrsAt w ao ws) (hl : ws.length ≤ 1048576) (hws : ∀ x ∈ ws, x.length ≤ 1048576) :
    Calls Tryz.prog 106 #[.pointer (some ⟨b, 0, none⟩), .slice ao ws.length cap] w fun e w' => RStPost (cubeR F ws) w e w' := by
  have hR0 := hR
  obtain ⟨_, vO, vE, vC, hfb, _, _, hC⟩ := hR
  obtain ⟨aC, cC, rfl⟩ := own_form hC
  have hbw := blk_lt hfb
  have k3 : w.cell? ⟨b, 3, none⟩ = some (.slice aC F.cl.length cC) := by rw [blk_cell hfb]; rfl
  have HWS := hide hws; clear hws
  have HSP : Hid (cubeR F ws = (cubeTo F.order (0, 0) 0 ws).bind (fun c => if satR F.cl c then some c else none)) := hide rfl
  go_enter Tryz.func106, Tryz.ntmps106
  go_wp2_with fail
  go_loopg [7, 8] ws.length (fun m la i wx => ∃ (j p n last : Nat), i = .int .i64 j ∧ la = .int .i64 last ∧ j + m = ws.length ∧ p < 512 ∧ n < 512 ∧ last ≤ 8 ∧ cubeTo F.order (0, 0) 0 ws = cubeTo F.order (p, n) last (ws.drop j) ∧ Below w.heap.size w wx ∧
      wx.heap[w.heap.size]? = some (.cells #[.int .i64 0, .int .i64 0] 121 (0, 0)) ∧ wx.heap[w.heap.size + 1]? = some (.cells #[.int .i64 p, .int .i64 n] 121 (0, 0)))
  case atStart => exact ⟨0, 0, 0, 0, rfl, rfl, by omega, by omega, by omega, by omega, rfl, ((Below.refl _ _).alloc (Nat.le_refl _) _).alloc (by simp) _, by rw [heap_alloc_old _ _ (by simp)]; exact heap_alloc_new _ _, new_at (by simp)⟩
  case round =>
    obtain ⟨j, p, n, last, rfl, rfl, hj, hp, hn, hla, hto, hb, hres, hcub⟩ := hrel
    have hbs := blk_lt hcub
    have hbs0 : w.heap.size < wr.heap.size := by omega
    have hbw1 : b < wr.heap.size := by omega
    have r0 : wr.cell? ⟨w.heap.size, 0, none⟩ = some (.int .i64 0) := by rw [blk_cell hres]; rfl
    have r1 : wr.cell? ⟨w.heap.size, 1, none⟩ = some (.int .i64 0) := by rw [blk_cell hres]; rfl
    have z0 := blk_free hres 0
    have z1 := blk_free hres 1
    have c0 : wr.cell? ⟨w.heap.size + 1, 0, none⟩ = some (.int .i64 p) := by rw [blk_cell hcub]; rfl
    have c1 : wr.cell? ⟨w.heap.size + 1, 1, none⟩ = some (.int .i64 n) := by rw [blk_cell hcub]; rfl
    by_cases hlt : j < ws.length
    · obtain ⟨g, off, cur, rfl, hg, hcur⟩ := hs (by intro e; subst e; simp at hlt)
      have hgw := blk_lt hg
      have hgw1 : g < wr.heap.size := by omega
      have hcj : wr.cell? ⟨g, off + j, none⟩ = some (S ws[j]) := by
        rw [hb.cell (p := ⟨g, off + j, none⟩) hgw, blk_cell hg]; exact hcur j hlt
      have HCJ : Hid (∀ wx : World, Below w.heap.size w wx → wx.cell? ⟨g, off + j, none⟩ = some (S ws[j])) := hide (fun wx hx => by
        rw [hx.cell (p := ⟨g, off + j, none⟩) hgw, blk_cell hg]; exact hcur j hlt)
      have hwl := unhide HWS _ (List.getElem_mem hlt)
      rw [List.drop_eq_getElem_cons hlt, cubeTo] at hto
      have HTO := hide hto; clear hto hcur
      generalize ws[j] = x at *
      go_wp2_with fail
      refine (literal_any x (w.heap.size + 1) p n wr hcub hp hn).mono ?_
      rintro e w1 ⟨rfl, hcub1, ho1⟩
      have hlt2 := litInto_lt (p, n) x hp hn
      have HFO := hide (lit_var (p, n) x)
      have HDT := hide (dig_tail (p, n) x)
      have hB1 : Below w.heap.size w w1 := hb.trans (ho1.below hb.size (fun k hk h => by omega))
      have hres1 : w1.heap[w.heap.size]? = some (.cells #[.int .i64 0, .int .i64 0] 121 (0, 0)) := (ho1.block _ hbs0 (by omega)).trans hres
      have HX1 := hide (unhide HCJ w1 hB1)
      have hx1 := unhide HX1
      generalize (litInto (p, n) x).1 = c' at *
      obtain ⟨p', n'⟩ := c'
      dsimp only at *
      go_wp2_with fail
      refine (digit_any x w1).mono ?_
      rintro e w2 ⟨rfl, hb2⟩
      have hB2 : Below w.heap.size w w2 := hB1.trans (hb2.mono hB1.size)
      have hres2 := (hb2.block _ (blk_lt hres1)).trans hres1
      have hcub2 := (hb2.block _ (blk_lt hcub1)).trans hcub1
      have hx2 := unhide HCJ w2 hB2
      have r20 : w2.cell? ⟨w.heap.size, 0, none⟩ = some (.int .i64 0) := by rw [blk_cell hres2]; rfl
      have r21 : w2.cell? ⟨w.heap.size, 1, none⟩ = some (.int .i64 0) := by rw [blk_cell hres2]; rfl
      have z20 := blk_free hres2 0
      have z21 := blk_free hres2 1
      have c20 : w2.cell? ⟨w.heap.size + 1, 0, none⟩ = some (.int .i64 p') := by rw [blk_cell hcub2]; rfl
      have c21 : w2.cell? ⟨w.heap.size + 1, 1, none⟩ = some (.int .i64 n') := by rw [blk_cell hcub2]; rfl
      obtain ⟨d0, d1⟩ := dig_bd x
      obtain ⟨dn, hdn⟩ := Int.eq_ofNat_of_zero_le d0
      rw [hdn]
      have hdn8 : dn ≤ 8 := by omega
      have HDN := hide hdn
      clear hdn d0 d1
      cases hok : (litInto (p, n) x).2 with
      | false =>
        have HF : Hid (cubeR F ws = none) := hide (by rw [unhide HSP, unhide HTO, if_neg (fun h => by rw [hok] at h; cases h.1)]; rfl)
        go_wp2_with fail
        refine (place_any lo b dn F w2 (hR0.later hB2) hF.len).mono ?_
        rintro e w4 ⟨⟨pl, rfl, _⟩, hw4⟩
        subst hw4
        have hRm := blk_set (blk_set hres2 0 (.int .i64 p')) 1 (.int .i64 n')
        have jm0 := blk_cell hRm 0
        have jm1 := blk_cell hRm 1
        go_wp2_with fail
        refine bodyPost_ret (v := .tuple #[.agg #[.int .i64 p', .int .i64 n'], .bool false]) (by simp [results, Tryz.results106, go_sem, jm0, jm1]) rfl (RStPost.none_ ?_ (unhide HF) (p', n') rfl)
        exact (hB2.setCell (p := ⟨w.heap.size, 0, none⟩) (Nat.le_refl _) _).setCell (p := ⟨w.heap.size, 1, none⟩) (Nat.le_refl _) _
      | true =>
        have HOK := hide hok
        by_cases hdz : dn = 0
        · have hdb : ((dn : Int) == 0) = true := by rw [beq_iff_eq]; omega
          obtain ⟨r, hxr, hdr⟩ := unhide HDT hok (by rw [unhide HDN]; omega)
          have hxr2 : 1 ≤ x.length := by rw [hxr]; simp
          obtain ⟨f0, f1⟩ := dig_bd r
          obtain ⟨vn, hvn⟩ := Int.eq_ofNat_of_zero_le f0
          have hvn8 : vn ≤ 8 := by omega
          have HLV : Hid (litVar x = vn) := hide (by rw [unhide HFO hok, unhide HDN, if_pos (by omega), hxr]; show (dig r).toNat = vn; rw [hvn]; rfl)
          have HEX : Hid (List.take (x.length - 1) (List.drop 1 x) = r) := hide (by rw [hxr]; simp)
          have HVN := hide hvn
          clear hxr hdr hvn f0 f1 hok hdz
          go_wp2_with fail
          rw [ba_extract, unhide HEX]
          refine (digit_any r w2).mono ?_
          rintro e w3 ⟨rfl, hb3⟩
          rw [unhide HVN]
          have hB3 : Below w.heap.size w w3 := hB2.trans (hb3.mono hB2.size)
          have hres3 := (hb3.block _ (blk_lt hres2)).trans hres2
          have hcub3 := (hb3.block _ (blk_lt hcub2)).trans hcub2
          have r30 : w3.cell? ⟨w.heap.size, 0, none⟩ = some (.int .i64 0) := by rw [blk_cell hres3]; rfl
          have r31 : w3.cell? ⟨w.heap.size, 1, none⟩ = some (.int .i64 0) := by rw [blk_cell hres3]; rfl
          have z30 := blk_free hres3 0
          have z31 := blk_free hres3 1
          have c30 : w3.cell? ⟨w.heap.size + 1, 0, none⟩ = some (.int .i64 p') := by rw [blk_cell hcub3]; rfl
          have c31 : w3.cell? ⟨w.heap.size + 1, 1, none⟩ = some (.int .i64 n') := by rw [blk_cell hcub3]; rfl
          have HIF : Hid (cubeTo F.order (0, 0) 0 ws = if last < vn ∧ vn ∈ F.order then cubeTo F.order (p', n') vn (ws.drop (j + 1)) else none) := hide (by
            rw [unhide HTO, unhide HLV]
            by_cases hcnd : last < vn ∧ vn ∈ F.order
            · rw [if_pos ⟨unhide HOK, hcnd.1, hcnd.2⟩, if_pos hcnd]
            · rw [if_neg (fun h => hcnd h.2), if_neg hcnd])
          go_wp2_with fail
          refine (place_any lo b vn F w3 (hR0.later hB3) hF.len).mono ?_
          rintro e w4 ⟨⟨pl, rfl, hpl⟩, hw4⟩
          subst hw4
          by_cases hle : vn ≤ last
          · have hdl : decide (vn ≤ last) = true := by simp; omega
            have HF : Hid (cubeR F ws = none) := hide (by rw [unhide HSP, unhide HIF, if_neg (by omega)]; rfl)
            clear hle
            have hRm := blk_set (blk_set hres3 0 (.int .i64 p')) 1 (.int .i64 n')
            have jm0 := blk_cell hRm 0
            have jm1 := blk_cell hRm 1
            go_wp2_with fail
            refine bodyPost_ret (v := .tuple #[.agg #[.int .i64 p', .int .i64 n'], .bool false]) (by simp [results, Tryz.results106, go_sem, jm0, jm1]) rfl (RStPost.none_ ?_ (unhide HF) (p', n') rfl)
            exact (hB3.setCell (p := ⟨w.heap.size, 0, none⟩) (Nat.le_refl _) _).setCell (p := ⟨w.heap.size, 1, none⟩) (Nat.le_refl _) _
          · have hdl : decide (vn ≤ last) = false := by simp; omega
            by_cases hmem : vn ∈ F.order
            · have hpl2 : decide (pl < 0) = false := by rw [hpl]; simp [hmem]
              have HF : Hid (cubeTo F.order (0, 0) 0 ws = cubeTo F.order (p', n') vn (ws.drop (j + 1))) := hide (by rw [unhide HIF, if_pos ⟨by omega, hmem⟩])
              clear hle hmem hpl
              go_wp2_with fail
              go_roundg (gk - 1)
              case measure => omega
              case rel => exact ⟨j + 1, p', n', vn, by go_num, rfl, by omega, hlt2.1, hlt2.2, by omega, unhide HF, hB3, hres3, hcub3⟩
            · have hpl2 : decide (pl < 0) = true := by rw [hpl]; simp [hmem]
              have HF : Hid (cubeR F ws = none) := hide (by rw [unhide HSP, unhide HIF, if_neg (fun h => hmem h.2)]; rfl)
              clear hle hmem hpl
              have hRm := blk_set (blk_set hres3 0 (.int .i64 p')) 1 (.int .i64 n')
              have jm0 := blk_cell hRm 0
              have jm1 := blk_cell hRm 1
              go_wp2_with fail
              refine bodyPost_ret (v := .tuple #[.agg #[.int .i64 p', .int .i64 n'], .bool false]) (by simp [results, Tryz.results106, go_sem, jm0, jm1]) rfl (RStPost.none_ ?_ (unhide HF) (p', n') rfl)
              exact (hB3.setCell (p := ⟨w.heap.size, 0, none⟩) (Nat.le_refl _) _).setCell (p := ⟨w.heap.size, 1, none⟩) (Nat.le_refl _) _
        · have hdb : ((dn : Int) == 0) = false := by rw [beq_eq_false_iff_ne]; omega
          have HLV : Hid (litVar x = dn) := hide (by rw [unhide HFO hok, unhide HDN, if_neg (by omega)]; rfl)
          clear hok hdz
          have HIF : Hid (cubeTo F.order (0, 0) 0 ws = if last < dn ∧ dn ∈ F.order then cubeTo F.order (p', n') dn (ws.drop (j + 1)) else none) := hide (by
            rw [unhide HTO, unhide HLV]
            by_cases hcnd : last < dn ∧ dn ∈ F.order
            · rw [if_pos ⟨unhide HOK, hcnd.1, hcnd.2⟩, if_pos hcnd]
            · rw [if_neg (fun h => hcnd h.2), if_neg hcnd])
          go_wp2_with fail
          refine (place_any lo b dn F w2 (hR0.later hB2) hF.len).mono ?_
          rintro e w4 ⟨⟨pl, rfl, hpl⟩, hw4⟩
          subst hw4
          by_cases hle : dn ≤ last
          · have hdl : decide (dn ≤ last) = true := by simp; omega
            have HF : Hid (cubeR F ws = none) := hide (by rw [unhide HSP, unhide HIF, if_neg (by omega)]; rfl)
            clear hle
            have hRm := blk_set (blk_set hres2 0 (.int .i64 p')) 1 (.int .i64 n')
            have jm0 := blk_cell hRm 0
            have jm1 := blk_cell hRm 1
            go_wp2_with fail
            refine bodyPost_ret (v := .tuple #[.agg #[.int .i64 p', .int .i64 n'], .bool false]) (by simp [results, Tryz.results106, go_sem, jm0, jm1]) rfl (RStPost.none_ ?_ (unhide HF) (p', n') rfl)
            exact (hB2.setCell (p := ⟨w.heap.size, 0, none⟩) (Nat.le_refl _) _).setCell (p := ⟨w.heap.size, 1, none⟩) (Nat.le_refl _) _
          · have hdl : decide (dn ≤ last) = false := by simp; omega
            by_cases hmem : dn ∈ F.order
            · have hpl2 : decide (pl < 0) = false := by rw [hpl]; simp [hmem]
              have HF : Hid (cubeTo F.order (0, 0) 0 ws = cubeTo F.order (p', n') dn (ws.drop (j + 1))) := hide (by rw [unhide HIF, if_pos ⟨by omega, hmem⟩])
              clear hle hmem hpl
              go_wp2_with fail
              go_roundg (gk - 1)
              case measure => omega
              case rel => exact ⟨j + 1, p', n', dn, by go_num, rfl, by omega, hlt2.1, hlt2.2, by omega, unhide HF, hB2, hres2, hcub2⟩
            · have hpl2 : decide (pl < 0) = true := by rw [hpl]; simp [hmem]
              have HF : Hid (cubeR F ws = none) := hide (by rw [unhide HSP, unhide HIF, if_neg (fun h => hmem h.2)]; rfl)
              clear hle hmem hpl
              have hRm := blk_set (blk_set hres2 0 (.int .i64 p')) 1 (.int .i64 n')
              have jm0 := blk_cell hRm 0
              have jm1 := blk_cell hRm 1
              go_wp2_with fail
              refine bodyPost_ret (v := .tuple #[.agg #[.int .i64 p', .int .i64 n'], .bool false]) (by simp [results, Tryz.results106, go_sem, jm0, jm1]) rfl (RStPost.none_ ?_ (unhide HF) (p', n') rfl)
              exact (hB2.setCell (p := ⟨w.heap.size, 0, none⟩) (Nat.le_refl _) _).setCell (p := ⟨w.heap.size, 1, none⟩) (Nat.le_refl _) _
    · have hjl : j = ws.length := by omega
      subst hjl
      rw [List.drop_length] at hto
      have HTO : Hid (cubeR F ws = if satR F.cl (p, n) then some (p, n) else none) := hide (by rw [unhide HSP, hto]; rfl)
      clear hto
      have HBITS := hide hF.bits
      have hcl24 := hF.cl
      have x3 : wr.cell? ⟨b, 3, none⟩ = some (.slice aC F.cl.length cC) := by rw [hb.cell (p := ⟨b, 3, none⟩) hbw]; exact k3
      obtain ⟨wo, rfl⟩ : ∃ wo, wo = wr := ⟨_, rfl⟩
      go_wp2_with fail
      go_loopg [12] F.cl.length (fun q i wx => ∃ k : Nat, i = .int .i64 k ∧ k + q = F.cl.length ∧ satR (F.cl.take k) (p, n) = true ∧ Below w.heap.size w wx ∧
        wx.heap[w.heap.size]? = some (.cells #[.int .i64 0, .int .i64 0] 121 (0, 0)) ∧ wx.heap[w.heap.size + 1]? = some (.cells #[.int .i64 p, .int .i64 n] 121 (0, 0)))
      case atStart => exact ⟨0, rfl, by omega, rfl, hb, hres, hcub⟩
      case round =>
        obtain ⟨k, rfl, hk, hsat, hb2, hres2, hcub2⟩ := hrel
        have HSAT := hide hsat; clear hsat
        have hbs2 := blk_lt hcub2
        have hbs20 : w.heap.size < wr.heap.size := by omega
        have hbw2 : b < wr.heap.size := by omega
        have y3 : wr.cell? ⟨b, 3, none⟩ = some (.slice aC F.cl.length cC) := by rw [hb2.cell (p := ⟨b, 3, none⟩) hbw]; exact k3
        have r20 : wr.cell? ⟨w.heap.size, 0, none⟩ = some (.int .i64 0) := by rw [blk_cell hres2]; rfl
        have r21 : wr.cell? ⟨w.heap.size, 1, none⟩ = some (.int .i64 0) := by rw [blk_cell hres2]; rfl
        have z20 := blk_free hres2 0
        have z21 := blk_free hres2 1
        have c20 : wr.cell? ⟨w.heap.size + 1, 0, none⟩ = some (.int .i64 p) := by rw [blk_cell hcub2]; rfl
        have c21 : wr.cell? ⟨w.heap.size + 1, 1, none⟩ = some (.int .i64 n) := by rw [blk_cell hcub2]; rfl
        by_cases hlt2 : k < F.cl.length
        · obtain ⟨g, cap2, hV, hg, hg', _, hcell⟩ := own_pos hC (by omega)
          injection hV with hV _ hV2
          subst hV hV2
          have hgw : g < wr.heap.size := by omega
          obtain ⟨ha, hb'⟩ := pairs_at F.cl k hlt2
          have hx0 : wr.cell? ⟨g, k * 2, none⟩ = some (.int .i64 (F.cl[k].1 : Int)) := by rw [hb2.cell (p := ⟨g, k * 2, none⟩) hg']; exact hcell _ _ ha
          have hx1 : wr.cell? ⟨g, k * 2 + 1, none⟩ = some (.int .i64 (F.cl[k].2 : Int)) := by rw [hb2.cell (p := ⟨g, k * 2 + 1, none⟩) hg']; exact hcell _ _ hb'
          have HT := hide (satR_take F.cl (p, n) k hlt2)
          have HO := hide (satR_of F.cl (p, n) k hlt2)
          obtain ⟨hb1, hb2x⟩ := unhide HBITS _ (List.getElem_mem hlt2)
          clear hcell ha hb'
          generalize F.cl[k] = c at *
          obtain ⟨xp, xn⟩ := c
          dsimp only at hx0 hx1 hb1 hb2x
          have h1 : (bits .and .i64 (xp : Int) (xn : Int) == 0) = (xp &&& xn == 0) := by rw [i64_and _ _ (by omega) (by omega), nat_beq_zero]
          have h2 : (bits .and .i64 (xp : Int) (p : Int) == 0) = (xp &&& p == 0) := by rw [i64_and _ _ (by omega) (by omega), nat_beq_zero]
          have h3 : (bits .and .i64 (xn : Int) (n : Int) == 0) = (xn &&& n == 0) := by rw [i64_and _ _ (by omega) (by omega), nat_beq_zero]
          have HM : Hid (missed (xp, xn) (p, n) = ((xp &&& xn == 0) && ((xp &&& p == 0) && (xn &&& n == 0)))) := hide rfl
          have hA := hb2.alloc (Nat.le_of_lt hbs20) (.cells #[.int .i64 (xp : Int), .int .i64 (xn : Int)] 121)
          have hres3 := (heap_alloc_old wr (.cells #[.int .i64 (xp : Int), .int .i64 (xn : Int)] 121) hbs20).trans hres2
          have hcub3 := (heap_alloc_old wr (.cells #[.int .i64 (xp : Int), .int .i64 (xn : Int)] 121) hbs2).trans hcub2
          cases e1 : (xp &&& xn == 0) with
          | false =>
            rw [e1] at h1
            have HM1 : Hid (missed (xp, xn) (p, n) = false) := hide (by rw [unhide HM, e1]; rfl)
            clear e1
            go_wp2_with fail
            go_roundg (gk - 1)
            case measure => omega
            case rel => exact ⟨k + 1, by go_num, by omega, by rw [unhide HT, unhide HSAT, unhide HM1]; rfl, hA, hres3, hcub3⟩
          | true =>
            rw [e1] at h1
            cases e2 : (xp &&& p == 0) with
            | false =>
              rw [e2] at h2
              have HM1 : Hid (missed (xp, xn) (p, n) = false) := hide (by rw [unhide HM, e1, e2]; rfl)
              clear e1 e2
              go_wp2_with fail
              go_roundg (gk - 1)
              case measure => omega
              case rel => exact ⟨k + 1, by go_num, by omega, by rw [unhide HT, unhide HSAT, unhide HM1]; rfl, hA, hres3, hcub3⟩
            | true =>
              rw [e2] at h2
              cases e3 : (xn &&& n == 0) with
              | false =>
                rw [e3] at h3
                have HM1 : Hid (missed (xp, xn) (p, n) = false) := hide (by rw [unhide HM, e1, e2, e3]; rfl)
                clear e1 e2 e3
                go_wp2_with fail
                go_roundg (gk - 1)
                case measure => omega
                case rel => exact ⟨k + 1, by go_num, by omega, by rw [unhide HT, unhide HSAT, unhide HM1]; rfl, hA, hres3, hcub3⟩
              | true =>
                rw [e3] at h3
                have HF : Hid (cubeR F ws = none) := hide (by rw [unhide HTO, unhide HO (by rw [unhide HM, e1, e2, e3]; rfl)]; rfl)
                clear e1 e2 e3
                have hR := blk_set (blk_set hres2 0 (.int .i64 p)) 1 (.int .i64 n)
                have hR' := (heap_alloc_old _ (.cells #[.int .i64 (xp : Int), .int .i64 (xn : Int)] 121) (blk_lt hR)).trans hR
                have j0 := blk_cell hR' 0
                have j1 := blk_cell hR' 1
                go_wp2_with fail
                refine bodyPost_ret (v := .tuple #[.agg #[.int .i64 p, .int .i64 n], .bool false]) (by simp [results, Tryz.results106, go_sem, j0, j1]) rfl (RStPost.none_ ?_ (unhide HF) (p, n) rfl)
                exact ((hb2.setCell (p := ⟨w.heap.size, 0, none⟩) (Nat.le_refl _) _).setCell (p := ⟨w.heap.size, 1, none⟩) (Nat.le_refl _) _).alloc (by simp [World.setCell]; omega) _
        · have hkl : k = F.cl.length := by omega
          have HF : Hid (cubeR F ws = some (p, n)) := hide (by
            have := unhide HSAT
            rw [hkl, List.take_length] at this
            rw [unhide HTO, this]; rfl)
          have hR := blk_set (blk_set hres2 0 (.int .i64 p)) 1 (.int .i64 n)
          have j0 := blk_cell hR 0
          have j1 := blk_cell hR 1
          go_wp2_with fail
          refine bodyPost_ret (v := .tuple #[.agg #[.int .i64 p, .int .i64 n], .bool true]) (by simp [results, Tryz.results106, go_sem, j0, j1]) rfl (RStPost.some_ ?_ (p, n) (unhide HF) rfl)
          exact (hb2.setCell (p := ⟨w.heap.size, 0, none⟩) (Nat.le_refl _) _).setCell (p := ⟨w.heap.size, 1, none⟩) (Nat.le_refl _) _
end Go.Proofs.YtgipjjhkhfihpaaGreatDoor

namespace Go.Proofs.YtgipjjhkhfihpaaGreatDoor
open Go.RowKit

theorem okC_eq (x c : Nat × Nat) : okC x c = !missed x c := by
  unfold okC missed
  have e : ((x.1 &&& c.1) ||| (x.2 &&& c.2) != 0) = !((x.1 &&& c.1 == 0) && (x.2 &&& c.2 == 0)) := by
    have : (x.1 &&& c.1) ||| (x.2 &&& c.2) = 0 ↔ (x.1 &&& c.1 = 0 ∧ x.2 &&& c.2 = 0) := by
      constructor
      · intro h
        constructor
        · apply Nat.eq_of_testBit_eq; intro i
          have : ((x.1 &&& c.1) ||| (x.2 &&& c.2)).testBit i = false := by rw [h]; simp
          rw [Nat.testBit_or, Bool.or_eq_false_iff] at this
          rw [this.1]; simp
        · apply Nat.eq_of_testBit_eq; intro i
          have : ((x.1 &&& c.1) ||| (x.2 &&& c.2)).testBit i = false := by rw [h]; simp
          rw [Nat.testBit_or, Bool.or_eq_false_iff] at this
          rw [this.2]; simp
      · rintro ⟨h1, h2⟩; rw [h1, h2]; rfl
    rw [Bool.eq_iff_iff, bne_iff_ne, Bool.not_eq_true', Bool.and_eq_false_iff, beq_eq_false_iff_ne, beq_eq_false_iff_ne, ne_eq, this, Classical.not_and_iff_not_or_not]
  rw [e]
  cases h1 : (x.1 &&& x.2 == 0) <;> cases h2 : (x.1 &&& c.1 == 0) <;> cases h3 : (x.2 &&& c.2 == 0) <;> simp [bne, h1]
/-! ### Of formulas that were read -/
theorem allTo_small (st : RS) (h : ∀ v ∈ st.told, v ≤ 8) (k : Nat) : allTo st k < 512 := by
  unfold allTo
  have hz : ∀ x ∈ ((st.told.zip st.kinds).take k), x.1 ≤ 8 := fun x hx => h _ (List.of_mem_zip (List.mem_of_mem_take hx)).1
  suffices hh : ∀ (l : List (Nat × Bool)) (a : Nat), a < 512 → (∀ x ∈ l, x.1 ≤ 8) → l.foldl (fun a x => if x.2 then a ||| 2 ^ x.1 else a) a < 512 from hh _ 0 (by omega) hz
  intro l
  induction l with
  | nil => intro a ha _; exact ha
  | cons x l ih =>
    intro a ha hx
    rw [List.foldl_cons]
    apply ih
    · split
      · have := pow_bd x.1 (hx x (by simp))
        exact or_lt _ _ ha (by omega)
      · exact ha
    · exact fun y hy => hx y (by simp [hy])
theorem big_bit (a v : Nat) (h : a < 512) (hv : a.testBit v = true) : v ≤ 8 := by
  apply Classical.byContradiction
  intro hn
  have : a.testBit v = false := Nat.testBit_lt_two_pow (Nat.lt_of_lt_of_le (show a < 2 ^ 9 from h) (Nat.pow_le_pow_right (by omega) (by omega)))
  rw [this] at hv; cases hv
theorem fq_of {st : RS} {q0 : QS} (hs : Same st q0) (hn : QNice q0) (hc : q0.cl.length ≤ 24) : FQ (finish st) (qFinish q0) ∧ FOk (finish st) ∧ FW (finish st) := by
  have ho := order_eq hs
  have hna := names_all hn
  have hk := kinds_eq hs hn
  have hcl : (finish st).cl = q0.cl := hs.cl
  have hbits : ∀ c ∈ q0.cl, Bd c := hn.bits
  have hlen := vars_le hn
  have hv : ∀ c ∈ q0.cl, ∀ v, c.1.testBit v = true ∨ c.2.testBit v = true → v ∈ (finish st).order := by
    intro c hcm v hb
    have h8 : v ≤ 8 := by
      rcases hb with hb | hb
      · exact big_bit _ _ (hn.bits c hcm).1 hb
      · exact big_bit _ _ (hn.bits c hcm).2 hb
    have h1 : 1 ≤ v := by
      rcases Nat.eq_zero_or_pos v with e | e
      · subst e
        have := hn.bit0 c hcm
        rcases hb with hb | hb
        · rw [this.1] at hb; cases hb
        · rw [this.2] at hb; cases hb
      · exact e
    show v ∈ freeTo st 8 ++ st.told
    rw [List.mem_append]
    by_cases hsv : hasV q0.vars v = true
    · right
      rw [hs.told, List.mem_map]
      unfold hasV at hsv
      rw [List.any_eq_true] at hsv
      obtain ⟨x, hx, he⟩ := hsv
      exact ⟨x, hx, by simpa using he⟩
    · left
      rw [free_eq hs]
      unfold freeQ
      rw [List.mem_filter]
      refine ⟨List.mem_map.2 ⟨v - 1, by simp; omega, by omega⟩, ?_⟩
      rw [Bool.and_eq_true]
      refine ⟨by simpa using hsv, ?_⟩
      unfold inC
      rw [List.any_eq_true]
      refine ⟨c, hcm, ?_⟩
      rw [bitOf_nat v h1 h8, and_pow_ne, Nat.testBit_or, Bool.or_eq_true]
      exact hb
  have hnm : ∀ v ∈ (finish st).order, 1 ≤ v ∧ v ≤ 8 := by
    intro v hvv
    rw [ho, List.mem_map] at hvv
    obtain ⟨x, hx, rfl⟩ := hvv
    exact hna.2 x hx
  have htold : ∀ v ∈ st.told, v ≤ 8 := by
    intro v hvv
    rw [hs.told, List.mem_map] at hvv
    obtain ⟨x, hx, rfl⟩ := hvv
    exact (hn.names x hx).2
  refine ⟨⟨ho, hk, hna.1, hna.2, hcl, hc, hbits, hv⟩, ⟨by rw [ho]; exact hna.1, hnm, by rw [hcl]; exact hbits, by rw [hcl]; exact hv⟩, ⟨by rw [ho]; simpa using hlen, fun v h => (hnm v h).2, by rw [hcl]; exact hc, by rw [hcl]; exact hn.bits, allTo_small st htold _⟩⟩
theorem qb_of {q0 : QS} (hn : QNice q0) (hc : q0.cl.length ≤ 24) : QB (qFinish q0) := ⟨vars_le hn, hc, hn.bits, (names_all hn).2⟩
end Go.Proofs.YtgipjjhkhfihpaaGreatDoor

namespace Go.Proofs.YtgipjjhkhfihpaaGreatDoor
open Go.RowKit

def lineP (s : Stp) : List UInt8 := joinW (wordsP s)
def headP (truth : Bool) : List UInt8 := if truth then sTrue else sFalse
def textP (truth : Bool) (p : List Stp) : List UInt8 := joinN (headP truth :: p.map lineP)
theorem kd_cases (truth : Bool) : (truth = false ∧ kd truth = 1) ∨ (truth = true ∧ kd truth = 2) := by cases truth <;> simp [kd]
theorem getD_lits (p : List Stp) (n : Nat) (h1 : 1 ≤ n) (hn : n ≤ p.length) : (p.map (·.lits)).getD (n - 1) (0, 0) = litsAt p n := by
  obtain ⟨m, rfl⟩ : ∃ m, n = m + 1 := ⟨n - 1, by omega⟩
  rw [litsAt_in p m (by omega), List.getD, Nat.add_sub_cancel, List.getElem?_map, List.getElem?_eq_getElem (by omega)]; rfl
theorem and_zero_of_free {c : Nat × Nat} (h : Free c) : c.1 &&& c.2 = 0 := apart_bits (fun v a b => h v a b)
theorem cube_words {q : QS} (_hq : QGood q) {F : Form} (hF : FQ F q) {c : Nat × Nat} (hc : LOk q c) (hf : Free c) : ∀ (k v : Nat) (acc : Nat × Nat) (last : Nat), v + k = 9 → 1 ≤ v → last < v → (∀ s u, u < v → L acc s u = L c s u) → (∀ s u, v ≤ u → L acc s u = false) → cubeTo F.order acc last ((listFrom c k v).map Lib.itoa) = some c := by
  intro k
  induction k with
  | zero =>
    intro v acc last hv h1 _ ha hb
    simp only [listFrom, List.map_nil, cubeTo]
    congr 1
    apply L_ext
    intro s u
    rcases Nat.lt_or_ge u v with h | h
    · exact ha s u h
    · rw [hb s u h]
      cases hh : L c s u with
      | false => rfl
      | true => have := L_le8 hc.bd hh; omega
  | succ k ih =>
    intro v acc last hv h1 hla ha hb
    have h8 : v ≤ 8 := by omega
    have hp : hasLit c (v : Int) = L c true v := hasLit_L c v true h1 h8
    have hn : hasLit c (-(v : Int)) = L c false v := hasLit_L c v false h1 h8
    have one : ∀ s, L c s v = true → cubeTo F.order acc last (Lib.itoa (litI v s) :: (listFrom c k (v + 1)).map Lib.itoa) = some c := by
      intro s hs
      obtain ⟨w1, w2⟩ := litInto_word acc v s h1 h8
      have hm : v ∈ F.order := by rw [hF.order]; exact hc.vars s v hs
      rw [cubeTo, w1, w2, if_pos ⟨rfl, hla, hm⟩]
      have hno := hf.not hs
      refine ih (v + 1) _ v (by omega) (by omega) (by omega) (fun t u hu => ?_) (fun t u hu => ?_)
      · rw [L_with _ _ _ h1 h8]
        by_cases e : u = v
        · subst e
          rw [hb t u (Nat.le_refl _)]
          cases s <;> cases t <;> simp_all
        · rw [ha t u (by omega)]; simp [e]
      · rw [L_with _ _ _ h1 h8, hb t u (by omega)]
        have : u ≠ v := by omega
        simp [this]
    rw [listFrom, hp, hn]
    cases e1 : L c true v with
    | true =>
      have e2 := hf.not e1
      simp only [Bool.not_true] at e2
      rw [e2]
      simpa [litI] using one true e1
    | false =>
      cases e2 : L c false v with
      | true => simpa [litI] using one false e2
      | false =>
        simp only [Bool.false_eq_true, if_false, List.nil_append]
        refine ih (v + 1) acc last (by omega) (by omega) (by omega) (fun t u hu => ?_) (fun t u hu => hb t u (by omega))
        by_cases e : u = v
        · subst e
          rw [hb t u (Nat.le_refl _)]
          cases t
          · exact e2.symm
          · exact e1.symm
        · exact ha t u (by omega)
theorem step_words {q : QS} (hq : QGood q) {F : Form} (hF : FQ F q) (hO : FOk F) {truth : Bool} {p : List Stp} (hl : p.length ≤ 9000) {s : Stp} (hs : StOk q (kd truth) p s) (hf : Free s.lits) :
    ∃ hd tl, wordsP s = hd :: tl ∧ stepR F truth (p.map (·.lits)) hd tl = some s.lits ∧ (hd = [114] ↔ s.rule = 3) ∧ ∀ w ∈ wordsP s, (32 : UInt8) ∉ w ∧ (10 : UInt8) ∉ w := by
  have nd : ∀ u, (32 : UInt8) ∉ Lib.decDigits u ∧ (10 : UInt8) ∉ Lib.decDigits u := fun u => ⟨digits_no u 32 (by decide), digits_no u 10 (by decide)⟩
  obtain ⟨hlok, hst⟩ := hs
  rcases hst with ⟨r1, r2, r3, r4, _, r6⟩ | ⟨r1, r2, _, _, _, r6⟩ | ⟨r1, r2, r3, ⟨x, hx, hxe, hxp⟩, r5, r6, r7, r8, r9, r10⟩ | ⟨r1, r2, _, r4, r5⟩
  · have ht : truth = false := (kd_cases truth).elim (fun h => h.1) (fun h => by omega)
    subst ht
    have hclen := hF.clen
    have hw : wordsP s = [[97], Lib.decDigits s.first] := by unfold wordsP; rw [if_pos r1]
    refine ⟨[97], [Lib.decDigits s.first], hw, ?_, ⟨fun h => by simp at h, fun h => by omega⟩, fun w hm => ?_⟩
    · unfold stepR
      rw [if_pos ⟨rfl, rfl, rfl⟩]
      show axR F (cnt (Lib.decDigits s.first) big) = _
      rw [cnt_digits s.first r3 (by omega)]
      unfold axR
      rw [hF.cl, if_neg (by omega), ← r6]
      unfold apartO
      rw [if_pos (and_zero_of_free hf)]
    · rw [hw] at hm
      rcases List.mem_cons.1 hm with rfl | hm
      · decide
      · simp at hm; subst hm; exact nd _
  · have ht : truth = true := (kd_cases truth).elim (fun h => by omega) (fun h => h.1)
    subst ht
    have hw : wordsP s = [99] :: (listOf s.lits).map Lib.itoa := by unfold wordsP; rw [if_neg (by omega), if_pos r1]
    refine ⟨[99], (listOf s.lits).map Lib.itoa, hw, ?_, ⟨fun h => by simp at h, fun h => by omega⟩, fun w hm => ?_⟩
    · unfold stepR
      rw [if_neg (by simp), if_pos ⟨rfl, rfl⟩]
      unfold cubeR
      rw [show listOf s.lits = listFrom s.lits 8 1 from rfl, cube_words hq hF hlok hf 8 1 (0, 0) 0 rfl (Nat.le_refl _) (by omega) (fun t u hu => by
        have : u = 0 := by omega
        subst this
        rw [L_zero]
        cases hh : L s.lits t 0 with
        | false => rfl
        | true => have := hq.name (hlok.vars t 0 hh); omega) (fun t u _ => L_zero t u)]
      show (if satR F.cl s.lits then some s.lits else none) = _
      have : satR F.cl s.lits = true := by
        rw [hF.cl]
        unfold satR
        unfold satQ at r6
        rw [← r6]
        congr 1
        funext y
        rw [okC_eq]
      rw [if_pos this]
    · rw [hw] at hm
      rcases List.mem_cons.1 hm with rfl | hm
      · decide
      · obtain ⟨z, hz, rfl⟩ := List.mem_map.1 hm
        obtain ⟨u, t, h1, h8, rfl, _⟩ := (listOf_mem _ _).1 hz
        cases t with
        | true => rw [itoa_pos]; exact nd u
        | false =>
          rw [itoa_neg' u h1]
          have := nd u
          simp [this.1, this.2]
  · have hv := hq.qb.names x hx
    rw [hxe] at hv
    have hw : wordsP s = [[114], Lib.decDigits s.first, Lib.decDigits s.second, Lib.decDigits s.var] := by unfold wordsP; rw [if_neg (by omega), if_neg (by omega), if_pos r1]
    refine ⟨[114], [Lib.decDigits s.first, Lib.decDigits s.second, Lib.decDigits s.var], hw, ?_, ⟨fun _ => r1, fun _ => rfl⟩, fun w hm => ?_⟩
    · unfold stepR
      rw [if_neg (by simp), if_neg (by simp), if_pos ⟨rfl, rfl⟩]
      show resR F truth (p.map (·.lits)) (cnt (Lib.decDigits s.first) big) (cnt (Lib.decDigits s.second) big) (cnt (Lib.decDigits s.var) big) = _
      rw [cnt_digits s.first r2.1 (by omega), cnt_digits s.second r3.1 (by omega), cnt_digits s.var hv.1 (by omega)]
      unfold resR
      rw [List.length_map, if_neg (by omega), getD_lits p _ r2.1 r2.2, getD_lits p _ r3.1 r3.2]
      have hk : F.all.testBit s.var = truth := by
        rw [← hxe, hF.kinds x hx]
        revert hxp
        unfold pivotB kd
        cases truth <;> cases x.2 <;> simp
      have e1 : (litsAt p s.first).1.testBit s.var = true := r5
      have e2 : (litsAt p s.second).2.testBit s.var = true := r6
      rw [if_neg (by rw [hk, e1, e2]; simp)]
      have hr : resolve2 (litsAt p s.first) (litsAt p s.second) s.var = s.lits := by
        rw [r10]
        have n1 := r7.not r5
        have n2 := r8.not r6
        simp only [Bool.not_true, Bool.not_false] at n1 n2
        apply L_ext
        intro t u
        rw [L_without2 _ _ _ hv.1 hv.2]
        unfold resolve2
        by_cases e : u = s.var
        · subst e
          cases t
          · have n1' : (litsAt p s.first).2.testBit s.var = false := n1
            simp [L, testBit_less, n1']
          · have n2' : (litsAt p s.second).1.testBit s.var = false := n2
            simp [L, testBit_less, n2']
        · have e' : s.var ≠ u := Ne.symm e
          cases t <;> simp [L, testBit_less, e, e']
      rw [hr]
      unfold apartO
      rw [if_pos (and_zero_of_free hf)]
    · rw [hw] at hm
      rcases List.mem_cons.1 hm with rfl | hm
      · decide
      · simp at hm
        rcases hm with rfl | rfl | rfl <;> exact nd _
  · have hw : wordsP s = [[100], Lib.decDigits s.first] := by unfold wordsP; rw [if_neg (by omega), if_neg (by omega), if_neg (by omega)]
    refine ⟨[100], [Lib.decDigits s.first], hw, ?_, ⟨fun h => by simp at h, fun h => by omega⟩, fun w hm => ?_⟩
    · unfold stepR
      rw [if_neg (by simp), if_neg (by simp), if_neg (by simp), if_pos ⟨rfl, rfl⟩]
      show reductR F truth (p.map (·.lits)) (cnt (Lib.decDigits s.first) big) = _
      rw [cnt_digits s.first r2.1 (by omega)]
      unfold reductR
      rw [List.length_map, if_neg (by omega), getD_lits p _ r2.1 r2.2, ← redQ_eq hF hO truth, ← r5]
    · rw [hw] at hm
      rcases List.mem_cons.1 hm with rfl | hm
      · decide
      · simp at hm; subst hm; exact nd _
end Go.Proofs.YtgipjjhkhfihpaaGreatDoor

namespace Go.Proofs.YtgipjjhkhfihpaaGreatDoor
open Go.RowKit

theorem joinW_len (ws : List (List UInt8)) (k : Nat) (h : ∀ w ∈ ws, w.length ≤ k) : (joinW ws).length ≤ (k + 1) * ws.length := by
  induction ws with
  | nil => simp [joinW]
  | cons w ws ih =>
    have h1 := h w (by simp)
    have h2 := ih (fun x hx => h x (by simp [hx]))
    cases ws with
    | nil => simp [joinW]; omega
    | cons x ws =>
      show (w ++ 32 :: joinW (x :: ws)).length ≤ _
      simp only [List.length_append, List.length_cons] at h2 ⊢
      rw [Nat.mul_add (k + 1) (ws.length + 1) 1]
      omega
theorem listFrom_free {c : Nat × Nat} (hf : Free c) : ∀ k v, 1 ≤ v → v + k ≤ 9 → (listFrom c k v).length ≤ k := by
  intro k
  induction k with
  | zero => intro v _ _; simp [listFrom]
  | succ k ih =>
    intro v h1 h9
    have hp : hasLit c (v : Int) = L c true v := hasLit_L c v true h1 (by omega)
    have hn : hasLit c (-(v : Int)) = L c false v := hasLit_L c v false h1 (by omega)
    have := ih (v + 1) (by omega) (by omega)
    rw [listFrom, hp, hn]
    cases e1 : L c true v with
    | true =>
      have e2 := hf.not e1
      simp only [Bool.not_true] at e2
      rw [e2]; simp; omega
    | false =>
      cases e2 : L c false v with
      | true => simp; omega
      | false => simp; omega
theorem lineP_len {s : Stp} (hf : Free s.lits) (h1 : s.rule ≠ 2 → s.first < 1000000) (h2 : s.rule = 3 → s.second < 1000000 ∧ s.var < 1000000) : (lineP s).length ≤ 28 := by
  unfold lineP wordsP
  split
  · have d1 := decDigits_len _ (h1 (by omega))
    have := joinW_len [[97], Lib.decDigits s.first] 6 (by simp; exact d1)
    simp at this; omega
  · split
    · have hl := listFrom_free hf 8 1 (by omega) (by omega)
      have := joinW_len ([99] :: (listOf s.lits).map Lib.itoa) 2 (by
        intro w hw
        rcases List.mem_cons.1 hw with rfl | hw
        · simp
        · obtain ⟨z, hz, rfl⟩ := List.mem_map.1 hw
          obtain ⟨u, t, hu1, hu8, rfl, _⟩ := (listOf_mem _ _).1 hz
          have hd := decDigits_small u (by omega)
          cases t with
          | true => rw [itoa_pos, hd]; simp
          | false => rw [itoa_neg' u hu1, hd]; simp)
      have e : (listOf s.lits).length ≤ 8 := hl
      simp only [List.length_cons, List.length_map] at this
      omega
    · have d1 := decDigits_len _ (h1 (by assumption))
      split
      · next h3 =>
        have d2 := decDigits_len _ (h2 h3).1
        have d3 := decDigits_len _ (h2 h3).2
        have := joinW_len [[114], Lib.decDigits s.first, Lib.decDigits s.second, Lib.decDigits s.var] 6 (by simp; exact ⟨d1, d2, d3⟩)
        simp at this; omega
      · have := joinW_len [[100], Lib.decDigits s.first] 6 (by simp; exact d1)
        simp at this; omega
theorem joinN_len (m : List (List UInt8)) (k : Nat) (h : ∀ r ∈ m, r.length ≤ k) : (joinN m).length ≤ (k + 1) * m.length := by
  induction m with
  | nil => simp [joinN]
  | cons r m ih =>
    have h1 := h r (by simp)
    have h2 := ih (fun x hx => h x (by simp [hx]))
    simp only [joinN, List.flatMap_cons, List.length_append, List.length_cons, List.length_nil] at h2 ⊢
    rw [Nat.mul_add]
    omega
theorem joinW_mem (ws : List (List UInt8)) (x : UInt8) (hx : x ≠ 32) (h : ∀ w ∈ ws, x ∉ w) : x ∉ joinW ws := by
  induction ws with
  | nil => simp [joinW]
  | cons w ws ih =>
    have h1 := h w (by simp)
    have h2 := ih (fun y hy => h y (by simp [hy]))
    cases ws with
    | nil => exact h1
    | cons y ws =>
      show x ∉ w ++ 32 :: joinW (y :: ws)
      rw [List.mem_append, List.mem_cons]
      rintro (h3 | h3 | h3)
      · exact h1 h3
      · exact hx h3
      · exact h2 h3
theorem line_ok {q : QS} (hq : QGood q) {F : Form} (hF : FQ F q) (hO : FOk F) {truth : Bool} {p : List Stp} (hp : POk q (kd truth) p) (hf : ∀ s ∈ p, Free s.lits) (hl : p.length ≤ 9000) (i : Nat) (hi : i < p.length) : lineR F truth ((p.take i).map (·.lits)) (lineP p[i]) = some p[i].lits ∧ isTwo (lineP p[i]) = (p[i].rule == 3) ∧ (10 : UInt8) ∉ lineP p[i] := by
  obtain ⟨hd, tl, h1, h2, h3, h4⟩ := step_words hq hF hO (p := p.take i) (by simp; omega) (hp i hi) (hf _ (List.getElem_mem hi))
  have hc : cutAt 32 (lineP p[i]) = hd :: tl := by
    unfold lineP
    rw [cut_words _ (by rw [h1]; simp) (fun w hw => (h4 w hw).1), h1]
  refine ⟨?_, ?_, joinW_mem _ _ (by decide) (fun w hw => (h4 w hw).2)⟩
  · rw [lineR_eq F truth _ _ hd tl hc, if_neg (by simp; omega)]
    exact h2
  · unfold isTwo
    rw [hc]
    by_cases e : p[i].rule = 3
    · rw [h3.2 e, e]; rfl
    · have : hd ≠ [114] := fun h => e (h3.1 h)
      rw [show (p[i].rule == 3) = false from by simpa using e]
      simpa using this
theorem rows_ok {q : QS} (hq : QGood q) {F : Form} (hF : FQ F q) (hO : FOk F) {truth : Bool} {p : List Stp} (hp : POk q (kd truth) p) (hf : ∀ s ∈ p, Free s.lits) (hl : p.length ≤ 9000) : ∀ (m i n : Nat), i + m = p.length → rowsR F truth ((p.take i).map (·.lits)) n ((p.drop i).map lineP) = .inl (p.map (·.lits)) := by
  intro m
  induction m with
  | zero =>
    intro i n h
    rw [List.drop_eq_nil_of_le (by omega), List.take_of_length_le (by omega)]
    rfl
  | succ m ih =>
    intro i n h
    have hi : i < p.length := by omega
    rw [List.drop_eq_getElem_cons hi, List.map_cons, rowsR, (line_ok hq hF hO hp hf hl i hi).1]
    have := ih (i + 1) (n + 1) (by omega)
    rw [List.take_succ_eq_append_getElem hi, List.map_append] at this
    exact this
theorem two_ok {q : QS} (hq : QGood q) {F : Form} (hF : FQ F q) (hO : FOk F) {truth : Bool} {p : List Stp} (hp : POk q (kd truth) p) (hf : ∀ s ∈ p, Free s.lits) (hl : p.length ≤ 9000) : twoR (p.map lineP) = twos p := by
  unfold twoR twos
  rw [List.filter_map, List.length_map]
  congr 1
  apply List.filter_congr
  intro s hs
  obtain ⟨i, hi, rfl⟩ := List.mem_iff_getElem.1 hs
  exact (line_ok hq hF hO hp hf hl i hi).2.1
theorem proves_text {q : QS} (hq : QGood q) {F : Form} (hF : FQ F q) (hO : FOk F) {truth : Bool} {p : List Stp} (hp : POk q (kd truth) p) (hf : ∀ s ∈ p, Free s.lits) (hl : p.length ≤ 9000) (hlast : ∃ s, p.getLast? = some s ∧ s.lits = (0, 0)) : provesR F (textP truth p) = .inr (truth, twos p) := by
  have hno : ∀ r ∈ headP truth :: p.map lineP, (10 : UInt8) ∉ r := by
    intro r hr
    rcases List.mem_cons.1 hr with rfl | hr
    · cases truth <;> decide
    · obtain ⟨s, hs, rfl⟩ := List.mem_map.1 hr
      obtain ⟨i, hi, rfl⟩ := List.mem_iff_getElem.1 hs
      exact (line_ok hq hF hO hp hf hl i hi).2.2
  have hcut : cutTo 10 (textP truth p) = (headP truth :: p.map lineP, []) := by
    unfold cutTo textP
    rw [cut_join _ hno []]; rfl
  have hlen : ∀ r ∈ headP truth :: p.map lineP, r.length ≤ 28 := by
    intro r hr
    rcases List.mem_cons.1 hr with rfl | hr
    · cases truth <;> decide
    · obtain ⟨s, hs, rfl⟩ := List.mem_map.1 hr
      obtain ⟨i, hi, rfl⟩ := List.mem_iff_getElem.1 hs
      have htl : (p.take i).length ≤ 9000 := by simp; omega
      have hclen := hF.clen
      rcases (hp i hi).2 with ⟨h1, _, _, h4, _⟩ | ⟨h1, _⟩ | ⟨_, h2, h3, ⟨x, hx, hxe, _⟩, _⟩ | ⟨h1, h2, _⟩
      · exact lineP_len (hf _ hs) (fun _ => by omega) (fun h => by omega)
      · exact lineP_len (hf _ hs) (fun h => absurd h1 h) (fun h => by omega)
      · have hv := hq.qb.names x hx
        exact lineP_len (hf _ hs) (fun _ => by omega) (fun _ => ⟨by omega, by omega⟩)
      · exact lineP_len (hf _ hs) (fun _ => by omega) (fun h => by omega)
  have hlong : ¬ 262144 < (textP truth p).length := by
    have := joinN_len _ 28 hlen
    simp only [List.length_cons, List.length_map] at this
    unfold textP
    omega
  unfold provesR
  rw [if_neg hlong, hcut]
  dsimp only
  have hh : headP truth = sTrue ∨ headP truth = sFalse := by cases truth <;> simp [headP]
  have hb : (headP truth == sTrue) = truth := by cases truth <;> decide
  rw [if_pos hh, hb]
  have hr := rows_ok hq hF hO hp hf hl p.length 0 1 (by omega)
  simp only [List.take_zero, List.map_nil, List.drop_zero] at hr
  rw [hr]
  dsimp only
  have he : emptyLast (p.map (·.lits)) = true := by
    obtain ⟨s, h1, h2⟩ := hlast
    unfold emptyLast
    rw [List.getLast?_map, h1]
    show (s.lits.1 ||| s.lits.2 == 0) = true
    rw [h2]; rfl
  rw [if_pos ⟨rfl, he⟩, two_ok hq hF hO hp hf hl]
end Go.Proofs.YtgipjjhkhfihpaaGreatDoor

namespace Go.Proofs.YtgipjjhkhfihpaaGreatDoor
open Go.RowKit

/-! ### The whole search -/
theorem axioms_len (cl : List (Nat × Nat)) : (axioms cl).length = cl.length := by simp [axioms]
theorem axioms_at (cl : List (Nat × Nat)) (i : Nat) (h : i < cl.length) : (axioms cl)[i]'(by rw [axioms_len]; exact h) = ⟨1, i + 1, 0, 0, cl[i]⟩ := by
  simp [axioms]
theorem axioms_ok {q : QS} (hq : QGood q) : POk q 1 (axioms q.cl) := by
  intro i hi
  have h : i < q.cl.length := by rw [axioms_len] at hi; exact hi
  rw [axioms_at q.cl i h]
  have hm := List.getElem_mem h
  refine ⟨⟨hq.qb.bits _ hm, fun s v hv => hq.vars _ hm s v hv⟩, Or.inl ⟨rfl, rfl, by show 1 ≤ i + 1; omega, by show i + 1 ≤ _; omega, rfl, ?_⟩⟩
  show q.cl[i] = q.cl.getD (i + 1 - 1) (0, 0)
  rw [Nat.add_sub_cancel, List.getD, List.getElem?_eq_getElem h]; rfl
theorem begin_inv {q : QS} (hq : QGood q) (budget room : Nat) : SInv (beginC q budget room) (beginS q) := by
  refine ⟨axioms_ok hq, by show q.cl.length ≤ (axioms q.cl).length; rw [axioms_len]; exact Nat.le_refl _, fun i hi => ?_, pok_nil _ _, fun f hf => (by cases hf), Nat.zero_le _, Nat.zero_le _⟩
  have h : i < q.cl.length := hi
  show litsAt (axioms q.cl) (i + 1) = q.cl[i]
  rw [litsAt_in _ i (by rw [axioms_len]; exact h), axioms_at q.cl i h]
theorem uni_ok {q : QS} (hq : QGood q) : UniOk q (uniTo q.vars (0, 0)) := by
  have key : ∀ (vs : List (Nat × Bool)) (u : Nat × Nat), (∀ x ∈ vs, 1 ≤ x.1 ∧ x.1 ≤ 8) → ∀ s v, L (uniTo vs u) s v = true ↔ (L u s v = true ∨ ∃ x ∈ vs, x.1 = v ∧ x.2 = true) := by
    intro vs
    induction vs with
    | nil => intro u _ s v; simp [uniTo]
    | cons y vs ih =>
      intro u hn s v
      have hy := hn y (by simp)
      show L (uniTo vs (if y.2 then withLit (withLit u y.1) (-(y.1 : Int)) else u)) s v = true ↔ _
      rw [ih _ (fun x hx => hn x (by simp [hx]))]
      cases hu : y.2 with
      | false =>
        simp only [Bool.false_eq_true, if_false]
        constructor
        · rintro (h | ⟨x, hx, h1, h2⟩)
          · exact Or.inl h
          · exact Or.inr ⟨x, by simp [hx], h1, h2⟩
        · rintro (h | ⟨x, hx, h1, h2⟩)
          · exact Or.inl h
          · rcases List.mem_cons.1 hx with rfl | hx
            · rw [hu] at h2; cases h2
            · exact Or.inr ⟨x, hx, h1, h2⟩
      | true =>
        simp only [if_true]
        have e1 : ((y.1 : Nat) : Int) = litI y.1 true := rfl
        have e2 : -((y.1 : Nat) : Int) = litI y.1 false := rfl
        rw [e2, L_with _ _ _ hy.1 hy.2, e1, L_with _ _ _ hy.1 hy.2]
        constructor
        · rintro (h | ⟨x, hx, h1, h2⟩)
          · simp only [Bool.or_eq_true, Bool.and_eq_true, decide_eq_true_eq] at h
            rcases h with (h | h) | h
            · exact Or.inl h
            · exact Or.inr ⟨y, by simp, h.2.symm, hu⟩
            · exact Or.inr ⟨y, by simp, h.2.symm, hu⟩
          · exact Or.inr ⟨x, by simp [hx], h1, h2⟩
        · rintro (h | ⟨x, hx, h1, h2⟩)
          · exact Or.inl (by rw [h]; rfl)
          · rcases List.mem_cons.1 hx with rfl | hx
            · left
              subst h1
              cases s <;> simp
            · exact Or.inr ⟨x, hx, h1, h2⟩
  intro s v
  rw [key q.vars (0, 0) hq.qb.names s v, L_zero]
  simp
/-- What is told of a formula. -/
structure Told (F : Form) (q : QS) (budget room : Nat) (r : SS × (Nat × Nat)) : Prop where
  kind : r.2.1 = 0 ∨ r.2.1 = 1 ∨ r.2.1 = 2
  unknown : r.2.1 = 0 → 0 < budget ∧ r.1.nodes = budget
  one : 1 ≤ r.1.nodes
  most : r.1.nodes + 1 ≤ 2 ^ (q.vars.length + 1)
  upto : 0 < budget → r.1.nodes ≤ budget
  lemmas : r.1.most ≤ room
  inv : SInv (beginC q budget room) r.1
  size : sizeS r.1 ≤ 24 + 12 * r.1.nodes
  proof : r.2.1 ≠ 0 → 1 ≤ r.2.2 ∧ r.2.2 ≤ (r.1.proof r.2.1).length ∧ provesR F (textP (r.2.1 == 2) (shortOf (r.1.proof r.2.1) r.2.2)) = .inr (r.2.1 == 2, twos (shortOf (r.1.proof r.2.1) r.2.2)) ∧ twos (shortOf (r.1.proof r.2.1) r.2.2) ≤ twos (r.1.proof r.2.1)
theorem solve_ok {F : Form} {q : QS} (hq : QGood q) (hF : FQ F q) (hO : FOk F) (budget room : Nat) : Told F q budget room (solveM q budget room) := by
  have hl := look_ok (C := beginC q budget room) hq (uni_ok hq) q.vars.length 0 (0, 0) (beginS q) (begin_inv hq budget room) (path_zero q) (by simp; rfl)
  unfold solveM
  generalize lookM (beginC q budget room) q.vars.length (0, 0) 0 (beginS q) = r at *
  have h0 : (beginS q).nodes = 0 := rfl
  have hsz : sizeS (beginS q) ≤ 24 := by
    show (axioms q.cl).length + 0 ≤ 24
    rw [axioms_len]
    have := hq.qb.cl
    omega
  have hvl := hq.qb.vl
  have hone : 1 ≤ r.1.nodes := by
    have := hl.some (by rintro ⟨h1, h2⟩; rw [h0] at h2; have : (beginC q budget room).budget = budget := rfl; omega)
    rw [h0] at this; omega
  have hmost := hl.most
  rw [h0] at hmost
  have hsize := hl.size
  rw [h0] at hsize
  have hp512 : 2 ^ (q.vars.length + 1) ≤ 512 := by
    have : 2 ^ (q.vars.length + 1) ≤ 2 ^ 9 := Nat.pow_le_pow_right (by decide) (by omega)
    simpa using this
  have hkind : r.2.1 = 0 ∨ r.2.1 = 1 ∨ r.2.1 = 2 := by
    by_cases h : r.2.1 = 0
    · exact Or.inl h
    · exact Or.inr (hl.fact h).inn.kind
  refine ⟨hkind, fun h => ?_, hone, by omega, fun h => hl.budget h (by rw [h0]; omega), hl.inv.most, hl.inv, by omega, fun h => ?_⟩
  · have h1 := hl.unknown h
    have h2 := hl.budget h1.1 (by rw [h0]; exact Nat.zero_le _)
    exact ⟨h1.1, Nat.le_antisymm h2 h1.2⟩
  · have hf := hl.fact h
    have hlits : r.1.lits r.2 = (0, 0) := by
      apply L_ext
      intro s v
      rw [L_zero]
      cases hh : L (r.1.lits r.2) s v with
      | false => rfl
      | true => have := hf.on s v hh; rw [L_zero] at this; cases this
    have hk : r.2.1 = kd (r.2.1 == 2) := by
      rcases hf.inn.kind with e | e <;> rw [e] <;> rfl
    have hpok : POk q (kd (r.2.1 == 2)) (r.1.proof r.2.1) := by
      have := hl.inv.pok hf.inn.kind
      rw [← hk]; exact this
    obtain ⟨s1, s2, s3, s4, s, s5, s6⟩ := short_ok hpok hf.inn.lo hf.inn.hi hf.inn.free
    have hplen : (r.1.proof r.2.1).length ≤ 9000 := by
      have : (r.1.proof r.2.1).length ≤ sizeS r.1 := by
        unfold SS.proof sizeS
        split <;> omega
      omega
    refine ⟨hf.inn.lo, hf.inn.hi, proves_text hq hF hO s1 s2 (by omega) ⟨s, s5, s6.trans hlits⟩, s4⟩
end Go.Proofs.YtgipjjhkhfihpaaGreatDoor
