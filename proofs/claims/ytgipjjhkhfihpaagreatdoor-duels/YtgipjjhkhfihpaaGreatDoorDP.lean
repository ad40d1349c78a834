import Derived.Test.YtgipjjhkhfihpaaGreatDoorDO
import Derived.Test.YtgipjjhkhfihpaaGreatDoorDC
import Derived.Test.YtgipjjhkhfihpaaGreatDoorDH
import Derived.Test.YtgipjjhkhfihpaaGreatDoorDM
namespace Go.Proofs.YtgipjjhkhfihpaaGreatDoor
open Go.RowKit

/-! ### cube -/
theorem satR_take (cl : List (Nat × Nat)) (c : Nat × Nat) (k : Nat) (h : k < cl.length) : satR (cl.take (k + 1)) c = (satR (cl.take k) c && !missed cl[k] c) := by
  unfold satR; rw [List.take_succ_eq_append_getElem h, List.all_append]; simp
theorem satR_of (cl : List (Nat × Nat)) (c : Nat × Nat) (k : Nat) (h : k < cl.length) (hc : missed cl[k] c = true) : satR cl c = false := by
  unfold satR; rw [List.all_eq_false]; exact ⟨cl[k], List.getElem_mem h, by rw [hc]; decide⟩
/-- A clause, or that it is none; c is whatever. -/
def RStPost (res : Option (Nat × Nat)) (w : World) (e : Ending) (w' : World) : Prop :=
  Below w.heap.size w w' ∧ ∃ (c : Nat × Nat) (ok : Bool), e = .returned (.tuple #[.agg #[.int .i64 (c.1 : Int), .int .i64 (c.2 : Int)], .bool ok]) ∧ ((ok = true ∧ res = some c) ∨ (ok = false ∧ res = none))
theorem RStPost.none_ {res : Option (Nat × Nat)} {w w' : World} {e : Ending} (hb : Below w.heap.size w w') (h : res = none) (c : Nat × Nat) (he : e = .returned (.tuple #[.agg #[.int .i64 (c.1 : Int), .int .i64 (c.2 : Int)], .bool false])) : RStPost res w e w' :=
  ⟨hb, c, false, he, Or.inr ⟨rfl, h⟩⟩
theorem RStPost.some_ {res : Option (Nat × Nat)} {w w' : World} {e : Ending} (hb : Below w.heap.size w w') (c : Nat × Nat) (h : res = some c) (he : e = .returned (.tuple #[.agg #[.int .i64 (c.1 : Int), .int .i64 (c.2 : Int)], .bool true])) : RStPost res w e w' :=
  ⟨hb, c, true, he, Or.inl ⟨rfl, h⟩⟩
/-- What holds of a formula that was read, for the walks. -/
structure FW (F : Form) : Prop where
  len : F.order.length ≤ 8
  names : ∀ v ∈ F.order, v ≤ 8
  cl : F.cl.length ≤ 24
  bits : ∀ c ∈ F.cl, c.1 < 512 ∧ c.2 < 512
  all : F.all < 512

theorem lit_var (c : Nat × Nat) (x : List UInt8) : (litInto c x).2 = true → litVar x = if dig x = 0 then (dig x.tail).toNat else (dig x).toNat := fun _ => rfl
theorem dig_tail (c : Nat × Nat) (x : List UInt8) : (litInto c x).2 = true → dig x = 0 → ∃ r, x = 45 :: r ∧ 0 < dig r := by
  intro h h0
  unfold litInto at h
  split at h
  · next r => exact ⟨r, rfl, of_decide_eq_true h⟩
  · have : 0 < dig x := of_decide_eq_true h
    omega

set_option maxRecDepth 100000 in
set_option maxHeartbeats 3200000 in
theorem cube_any (lo b : Nat) (F : Form) (ws : List (List UInt8)) (ao : Option Addr) (cap : Nat) (w : World) (hR : RefAt lo w b F) (hF : FW F) (hs : StrsAt w ao ws) (hl : ws.length ≤ 1048576) (hws : ∀ x ∈ ws, x.length ≤ 1048576) :
    Calls Tryz.prog 106 #[.pointer (some ⟨b, 0, none⟩), .slice ao ws.length cap] w fun e w' => RStPost (cubeR F ws) w e w' := by
  have hR0 := hR
  obtain ⟨_, vO, vE, vC, hfb, _, _, hC⟩ := hR
  obtain ⟨aC, cC, rfl⟩ := own_form hC
  have hbw := blk_lt hfb
  have k3 : w.cell? ⟨b, 3, none⟩ = some (.slice aC F.cl.length cC) := by rw [blk_cell hfb]; rfl
  have HWS := hide hws; clear hws
  have HSP : Hid (cubeR F ws = (cubeTo F.order (0, 0) 0 ws).bind (fun c => if satR F.cl c then some c else none)) := hide rfl
  go_enter Tryz.func106, Tryz.ntmps106
  go_wp2_with fail
  go_loopg [7, 8] ws.length (fun m la i wx => ∃ (j p n last : Nat), i = .int .i64 j ∧ la = .int .i64 last ∧ j + m = ws.length ∧ p < 512 ∧ n < 512 ∧ last ≤ 8 ∧ cubeTo F.order (0, 0) 0 ws = cubeTo F.order (p, n) last (ws.drop j) ∧ Below w.heap.size w wx ∧
      wx.heap[w.heap.size]? = some (.cells #[.int .i64 0, .int .i64 0] 121 (0, 0)) ∧ wx.heap[w.heap.size + 1]? = some (.cells #[.int .i64 p, .int .i64 n] 121 (0, 0)))
  case atStart => exact ⟨0, 0, 0, 0, rfl, rfl, by omega, by omega, by omega, by omega, rfl, ((Below.refl _ _).alloc (Nat.le_refl _) _).alloc (by simp) _, by rw [heap_alloc_old _ _ (by simp)]; exact heap_alloc_new _ _, new_at (by simp)⟩
  case round =>
    obtain ⟨j, p, n, last, rfl, rfl, hj, hp, hn, hla, hto, hb, hres, hcub⟩ := hrel
    have hbs := blk_lt hcub
    have hbs0 : w.heap.size < wr.heap.size := by omega
    have hbw1 : b < wr.heap.size := by omega
    have r0 : wr.cell? ⟨w.heap.size, 0, none⟩ = some (.int .i64 0) := by rw [blk_cell hres]; rfl
    have r1 : wr.cell? ⟨w.heap.size, 1, none⟩ = some (.int .i64 0) := by rw [blk_cell hres]; rfl
    have z0 := blk_free hres 0
    have z1 := blk_free hres 1
    have c0 : wr.cell? ⟨w.heap.size + 1, 0, none⟩ = some (.int .i64 p) := by rw [blk_cell hcub]; rfl
    have c1 : wr.cell? ⟨w.heap.size + 1, 1, none⟩ = some (.int .i64 n) := by rw [blk_cell hcub]; rfl
    by_cases hlt : j < ws.length
    · obtain ⟨g, off, cur, rfl, hg, hcur⟩ := hs (by intro e; subst e; simp at hlt)
      have hgw := blk_lt hg
      have hgw1 : g < wr.heap.size := by omega
      have hcj : wr.cell? ⟨g, off + j, none⟩ = some (S ws[j]) := by
        rw [hb.cell (p := ⟨g, off + j, none⟩) hgw, blk_cell hg]; exact hcur j hlt
      have HCJ : Hid (∀ wx : World, Below w.heap.size w wx → wx.cell? ⟨g, off + j, none⟩ = some (S ws[j])) := hide (fun wx hx => by
        rw [hx.cell (p := ⟨g, off + j, none⟩) hgw, blk_cell hg]; exact hcur j hlt)
      have hwl := unhide HWS _ (List.getElem_mem hlt)
      rw [List.drop_eq_getElem_cons hlt, cubeTo] at hto
      have HTO := hide hto; clear hto hcur
      generalize ws[j] = x at *
      go_wp2_with fail
      refine (literal_any x (w.heap.size + 1) p n wr hcub hp hn).mono ?_
      rintro e w1 ⟨rfl, hcub1, ho1⟩
      have hlt2 := litInto_lt (p, n) x hp hn
      have HFO := hide (lit_var (p, n) x)
      have HDT := hide (dig_tail (p, n) x)
      have hB1 : Below w.heap.size w w1 := hb.trans (ho1.below hb.size (fun k hk h => by omega))
      have hres1 : w1.heap[w.heap.size]? = some (.cells #[.int .i64 0, .int .i64 0] 121 (0, 0)) := (ho1.block _ hbs0 (by omega)).trans hres
      have HX1 := hide (unhide HCJ w1 hB1)
      have hx1 := unhide HX1
      generalize (litInto (p, n) x).1 = c' at *
      obtain ⟨p', n'⟩ := c'
      dsimp only at *
      go_wp2_with fail
      refine (digit_any x w1).mono ?_
      rintro e w2 ⟨rfl, hb2⟩
      have hB2 : Below w.heap.size w w2 := hB1.trans (hb2.mono hB1.size)
      have hres2 := (hb2.block _ (blk_lt hres1)).trans hres1
      have hcub2 := (hb2.block _ (blk_lt hcub1)).trans hcub1
      have hx2 := unhide HCJ w2 hB2
      have r20 : w2.cell? ⟨w.heap.size, 0, none⟩ = some (.int .i64 0) := by rw [blk_cell hres2]; rfl
      have r21 : w2.cell? ⟨w.heap.size, 1, none⟩ = some (.int .i64 0) := by rw [blk_cell hres2]; rfl
      have z20 := blk_free hres2 0
      have z21 := blk_free hres2 1
      have c20 : w2.cell? ⟨w.heap.size + 1, 0, none⟩ = some (.int .i64 p') := by rw [blk_cell hcub2]; rfl
      have c21 : w2.cell? ⟨w.heap.size + 1, 1, none⟩ = some (.int .i64 n') := by rw [blk_cell hcub2]; rfl
      obtain ⟨d0, d1⟩ := dig_bd x
      obtain ⟨dn, hdn⟩ := Int.eq_ofNat_of_zero_le d0
      rw [hdn]
      have hdn8 : dn ≤ 8 := by omega
      have HDN := hide hdn
      clear hdn d0 d1
      cases hok : (litInto (p, n) x).2 with
      | false =>
        have HF : Hid (cubeR F ws = none) := hide (by rw [unhide HSP, unhide HTO, if_neg (fun h => by rw [hok] at h; cases h.1)]; rfl)
        go_wp2_with fail
        refine (place_any lo b dn F w2 (hR0.later hB2) hF.len).mono ?_
        rintro e w4 ⟨⟨pl, rfl, _⟩, hw4⟩
        subst hw4
        have hRm := blk_set (blk_set hres2 0 (.int .i64 p')) 1 (.int .i64 n')
        have jm0 := blk_cell hRm 0
        have jm1 := blk_cell hRm 1
        go_wp2_with fail
        refine bodyPost_ret (v := .tuple #[.agg #[.int .i64 p', .int .i64 n'], .bool false]) (by simp [results, Tryz.results106, go_sem, jm0, jm1]) rfl (RStPost.none_ ?_ (unhide HF) (p', n') rfl)
        exact (hB2.setCell (p := ⟨w.heap.size, 0, none⟩) (Nat.le_refl _) _).setCell (p := ⟨w.heap.size, 1, none⟩) (Nat.le_refl _) _
      | true =>
        have HOK := hide hok
        by_cases hdz : dn = 0
        · have hdb : ((dn : Int) == 0) = true := by rw [beq_iff_eq]; omega
          obtain ⟨r, hxr, hdr⟩ := unhide HDT hok (by rw [unhide HDN]; omega)
          have hxr2 : 1 ≤ x.length := by rw [hxr]; simp
          obtain ⟨f0, f1⟩ := dig_bd r
          obtain ⟨vn, hvn⟩ := Int.eq_ofNat_of_zero_le f0
          have hvn8 : vn ≤ 8 := by omega
          have HLV : Hid (litVar x = vn) := hide (by rw [unhide HFO hok, unhide HDN, if_pos (by omega), hxr]; show (dig r).toNat = vn; rw [hvn]; rfl)
          have HEX : Hid (List.take (x.length - 1) (List.drop 1 x) = r) := hide (by rw [hxr]; simp)
          have HVN := hide hvn
          clear hxr hdr hvn f0 f1 hok hdz
          go_wp2_with fail
          rw [ba_extract, unhide HEX]
          refine (digit_any r w2).mono ?_
          rintro e w3 ⟨rfl, hb3⟩
          rw [unhide HVN]
          have hB3 : Below w.heap.size w w3 := hB2.trans (hb3.mono hB2.size)
          have hres3 := (hb3.block _ (blk_lt hres2)).trans hres2
          have hcub3 := (hb3.block _ (blk_lt hcub2)).trans hcub2
          have r30 : w3.cell? ⟨w.heap.size, 0, none⟩ = some (.int .i64 0) := by rw [blk_cell hres3]; rfl
          have r31 : w3.cell? ⟨w.heap.size, 1, none⟩ = some (.int .i64 0) := by rw [blk_cell hres3]; rfl
          have z30 := blk_free hres3 0
          have z31 := blk_free hres3 1
          have c30 : w3.cell? ⟨w.heap.size + 1, 0, none⟩ = some (.int .i64 p') := by rw [blk_cell hcub3]; rfl
          have c31 : w3.cell? ⟨w.heap.size + 1, 1, none⟩ = some (.int .i64 n') := by rw [blk_cell hcub3]; rfl
          have HIF : Hid (cubeTo F.order (0, 0) 0 ws = if last < vn ∧ vn ∈ F.order then cubeTo F.order (p', n') vn (ws.drop (j + 1)) else none) := hide (by
            rw [unhide HTO, unhide HLV]
            by_cases hcnd : last < vn ∧ vn ∈ F.order
            · rw [if_pos ⟨unhide HOK, hcnd.1, hcnd.2⟩, if_pos hcnd]
            · rw [if_neg (fun h => hcnd h.2), if_neg hcnd])
          go_wp2_with fail
          refine (place_any lo b vn F w3 (hR0.later hB3) hF.len).mono ?_
          rintro e w4 ⟨⟨pl, rfl, hpl⟩, hw4⟩
          subst hw4
          by_cases hle : vn ≤ last
          · have hdl : decide (vn ≤ last) = true := by simp; omega
            have HF : Hid (cubeR F ws = none) := hide (by rw [unhide HSP, unhide HIF, if_neg (by omega)]; rfl)
            clear hle
            have hRm := blk_set (blk_set hres3 0 (.int .i64 p')) 1 (.int .i64 n')
            have jm0 := blk_cell hRm 0
            have jm1 := blk_cell hRm 1
            go_wp2_with fail
            refine bodyPost_ret (v := .tuple #[.agg #[.int .i64 p', .int .i64 n'], .bool false]) (by simp [results, Tryz.results106, go_sem, jm0, jm1]) rfl (RStPost.none_ ?_ (unhide HF) (p', n') rfl)
            exact (hB3.setCell (p := ⟨w.heap.size, 0, none⟩) (Nat.le_refl _) _).setCell (p := ⟨w.heap.size, 1, none⟩) (Nat.le_refl _) _
          · have hdl : decide (vn ≤ last) = false := by simp; omega
            by_cases hmem : vn ∈ F.order
            · have hpl2 : decide (pl < 0) = false := by rw [hpl]; simp [hmem]
              have HF : Hid (cubeTo F.order (0, 0) 0 ws = cubeTo F.order (p', n') vn (ws.drop (j + 1))) := hide (by rw [unhide HIF, if_pos ⟨by omega, hmem⟩])
              clear hle hmem hpl
              go_wp2_with fail
              go_roundg (gk - 1)
              case measure => omega
              case rel => exact ⟨j + 1, p', n', vn, by go_num, rfl, by omega, hlt2.1, hlt2.2, by omega, unhide HF, hB3, hres3, hcub3⟩
            · have hpl2 : decide (pl < 0) = true := by rw [hpl]; simp [hmem]
              have HF : Hid (cubeR F ws = none) := hide (by rw [unhide HSP, unhide HIF, if_neg (fun h => hmem h.2)]; rfl)
              clear hle hmem hpl
              have hRm := blk_set (blk_set hres3 0 (.int .i64 p')) 1 (.int .i64 n')
              have jm0 := blk_cell hRm 0
              have jm1 := blk_cell hRm 1
              go_wp2_with fail
              refine bodyPost_ret (v := .tuple #[.agg #[.int .i64 p', .int .i64 n'], .bool false]) (by simp [results, Tryz.results106, go_sem, jm0, jm1]) rfl (RStPost.none_ ?_ (unhide HF) (p', n') rfl)
              exact (hB3.setCell (p := ⟨w.heap.size, 0, none⟩) (Nat.le_refl _) _).setCell (p := ⟨w.heap.size, 1, none⟩) (Nat.le_refl _) _
        · have hdb : ((dn : Int) == 0) = false := by rw [beq_eq_false_iff_ne]; omega
          have HLV : Hid (litVar x = dn) := hide (by rw [unhide HFO hok, unhide HDN, if_neg (by omega)]; rfl)
          clear hok hdz
          have HIF : Hid (cubeTo F.order (0, 0) 0 ws = if last < dn ∧ dn ∈ F.order then cubeTo F.order (p', n') dn (ws.drop (j + 1)) else none) := hide (by
            rw [unhide HTO, unhide HLV]
            by_cases hcnd : last < dn ∧ dn ∈ F.order
            · rw [if_pos ⟨unhide HOK, hcnd.1, hcnd.2⟩, if_pos hcnd]
            · rw [if_neg (fun h => hcnd h.2), if_neg hcnd])
          go_wp2_with fail
          refine (place_any lo b dn F w2 (hR0.later hB2) hF.len).mono ?_
          rintro e w4 ⟨⟨pl, rfl, hpl⟩, hw4⟩
          subst hw4
          by_cases hle : dn ≤ last
          · have hdl : decide (dn ≤ last) = true := by simp; omega
            have HF : Hid (cubeR F ws = none) := hide (by rw [unhide HSP, unhide HIF, if_neg (by omega)]; rfl)
            clear hle
            have hRm := blk_set (blk_set hres2 0 (.int .i64 p')) 1 (.int .i64 n')
            have jm0 := blk_cell hRm 0
            have jm1 := blk_cell hRm 1
            go_wp2_with fail
            refine bodyPost_ret (v := .tuple #[.agg #[.int .i64 p', .int .i64 n'], .bool false]) (by simp [results, Tryz.results106, go_sem, jm0, jm1]) rfl (RStPost.none_ ?_ (unhide HF) (p', n') rfl)
            exact (hB2.setCell (p := ⟨w.heap.size, 0, none⟩) (Nat.le_refl _) _).setCell (p := ⟨w.heap.size, 1, none⟩) (Nat.le_refl _) _
          · have hdl : decide (dn ≤ last) = false := by simp; omega
            by_cases hmem : dn ∈ F.order
            · have hpl2 : decide (pl < 0) = false := by rw [hpl]; simp [hmem]
              have HF : Hid (cubeTo F.order (0, 0) 0 ws = cubeTo F.order (p', n') dn (ws.drop (j + 1))) := hide (by rw [unhide HIF, if_pos ⟨by omega, hmem⟩])
              clear hle hmem hpl
              go_wp2_with fail
              go_roundg (gk - 1)
              case measure => omega
              case rel => exact ⟨j + 1, p', n', dn, by go_num, rfl, by omega, hlt2.1, hlt2.2, by omega, unhide HF, hB2, hres2, hcub2⟩
            · have hpl2 : decide (pl < 0) = true := by rw [hpl]; simp [hmem]
              have HF : Hid (cubeR F ws = none) := hide (by rw [unhide HSP, unhide HIF, if_neg (fun h => hmem h.2)]; rfl)
              clear hle hmem hpl
              have hRm := blk_set (blk_set hres2 0 (.int .i64 p')) 1 (.int .i64 n')
              have jm0 := blk_cell hRm 0
              have jm1 := blk_cell hRm 1
              go_wp2_with fail
              refine bodyPost_ret (v := .tuple #[.agg #[.int .i64 p', .int .i64 n'], .bool false]) (by simp [results, Tryz.results106, go_sem, jm0, jm1]) rfl (RStPost.none_ ?_ (unhide HF) (p', n') rfl)
              exact (hB2.setCell (p := ⟨w.heap.size, 0, none⟩) (Nat.le_refl _) _).setCell (p := ⟨w.heap.size, 1, none⟩) (Nat.le_refl _) _
    · have hjl : j = ws.length := by omega
      subst hjl
      rw [List.drop_length] at hto
      have HTO : Hid (cubeR F ws = if satR F.cl (p, n) then some (p, n) else none) := hide (by rw [unhide HSP, hto]; rfl)
      clear hto
      have HBITS := hide hF.bits
      have hcl24 := hF.cl
      have x3 : wr.cell? ⟨b, 3, none⟩ = some (.slice aC F.cl.length cC) := by rw [hb.cell (p := ⟨b, 3, none⟩) hbw]; exact k3
      obtain ⟨wo, rfl⟩ : ∃ wo, wo = wr := ⟨_, rfl⟩
      go_wp2_with fail
      go_loopg [12] F.cl.length (fun q i wx => ∃ k : Nat, i = .int .i64 k ∧ k + q = F.cl.length ∧ satR (F.cl.take k) (p, n) = true ∧ Below w.heap.size w wx ∧
        wx.heap[w.heap.size]? = some (.cells #[.int .i64 0, .int .i64 0] 121 (0, 0)) ∧ wx.heap[w.heap.size + 1]? = some (.cells #[.int .i64 p, .int .i64 n] 121 (0, 0)))
      case atStart => exact ⟨0, rfl, by omega, rfl, hb, hres, hcub⟩
      case round =>
        obtain ⟨k, rfl, hk, hsat, hb2, hres2, hcub2⟩ := hrel
        have HSAT := hide hsat; clear hsat
        have hbs2 := blk_lt hcub2
        have hbs20 : w.heap.size < wr.heap.size := by omega
        have hbw2 : b < wr.heap.size := by omega
        have y3 : wr.cell? ⟨b, 3, none⟩ = some (.slice aC F.cl.length cC) := by rw [hb2.cell (p := ⟨b, 3, none⟩) hbw]; exact k3
        have r20 : wr.cell? ⟨w.heap.size, 0, none⟩ = some (.int .i64 0) := by rw [blk_cell hres2]; rfl
        have r21 : wr.cell? ⟨w.heap.size, 1, none⟩ = some (.int .i64 0) := by rw [blk_cell hres2]; rfl
        have z20 := blk_free hres2 0
        have z21 := blk_free hres2 1
        have c20 : wr.cell? ⟨w.heap.size + 1, 0, none⟩ = some (.int .i64 p) := by rw [blk_cell hcub2]; rfl
        have c21 : wr.cell? ⟨w.heap.size + 1, 1, none⟩ = some (.int .i64 n) := by rw [blk_cell hcub2]; rfl
        by_cases hlt2 : k < F.cl.length
        · obtain ⟨g, cap2, hV, hg, hg', _, hcell⟩ := own_pos hC (by omega)
          injection hV with hV _ hV2
          subst hV hV2
          have hgw : g < wr.heap.size := by omega
          obtain ⟨ha, hb'⟩ := pairs_at F.cl k hlt2
          have hx0 : wr.cell? ⟨g, k * 2, none⟩ = some (.int .i64 (F.cl[k].1 : Int)) := by rw [hb2.cell (p := ⟨g, k * 2, none⟩) hg']; exact hcell _ _ ha
          have hx1 : wr.cell? ⟨g, k * 2 + 1, none⟩ = some (.int .i64 (F.cl[k].2 : Int)) := by rw [hb2.cell (p := ⟨g, k * 2 + 1, none⟩) hg']; exact hcell _ _ hb'
          have HT := hide (satR_take F.cl (p, n) k hlt2)
          have HO := hide (satR_of F.cl (p, n) k hlt2)
          obtain ⟨hb1, hb2x⟩ := unhide HBITS _ (List.getElem_mem hlt2)
          clear hcell ha hb'
          generalize F.cl[k] = c at *
          obtain ⟨xp, xn⟩ := c
          dsimp only at hx0 hx1 hb1 hb2x
          have h1 : (bits .and .i64 (xp : Int) (xn : Int) == 0) = (xp &&& xn == 0) := by rw [i64_and _ _ (by omega) (by omega), nat_beq_zero]
          have h2 : (bits .and .i64 (xp : Int) (p : Int) == 0) = (xp &&& p == 0) := by rw [i64_and _ _ (by omega) (by omega), nat_beq_zero]
          have h3 : (bits .and .i64 (xn : Int) (n : Int) == 0) = (xn &&& n == 0) := by rw [i64_and _ _ (by omega) (by omega), nat_beq_zero]
          have HM : Hid (missed (xp, xn) (p, n) = ((xp &&& xn == 0) && ((xp &&& p == 0) && (xn &&& n == 0)))) := hide rfl
          have hA := hb2.alloc (Nat.le_of_lt hbs20) (.cells #[.int .i64 (xp : Int), .int .i64 (xn : Int)] 121)
          have hres3 := (heap_alloc_old wr (.cells #[.int .i64 (xp : Int), .int .i64 (xn : Int)] 121) hbs20).trans hres2
          have hcub3 := (heap_alloc_old wr (.cells #[.int .i64 (xp : Int), .int .i64 (xn : Int)] 121) hbs2).trans hcub2
          cases e1 : (xp &&& xn == 0) with
          | false =>
            rw [e1] at h1
            have HM1 : Hid (missed (xp, xn) (p, n) = false) := hide (by rw [unhide HM, e1]; rfl)
            clear e1
            go_wp2_with fail
            go_roundg (gk - 1)
            case measure => omega
            case rel => exact ⟨k + 1, by go_num, by omega, by rw [unhide HT, unhide HSAT, unhide HM1]; rfl, hA, hres3, hcub3⟩
          | true =>
            rw [e1] at h1
            cases e2 : (xp &&& p == 0) with
            | false =>
              rw [e2] at h2
              have HM1 : Hid (missed (xp, xn) (p, n) = false) := hide (by rw [unhide HM, e1, e2]; rfl)
              clear e1 e2
              go_wp2_with fail
              go_roundg (gk - 1)
              case measure => omega
              case rel => exact ⟨k + 1, by go_num, by omega, by rw [unhide HT, unhide HSAT, unhide HM1]; rfl, hA, hres3, hcub3⟩
            | true =>
              rw [e2] at h2
              cases e3 : (xn &&& n == 0) with
              | false =>
                rw [e3] at h3
                have HM1 : Hid (missed (xp, xn) (p, n) = false) := hide (by rw [unhide HM, e1, e2, e3]; rfl)
                clear e1 e2 e3
                go_wp2_with fail
                go_roundg (gk - 1)
                case measure => omega
                case rel => exact ⟨k + 1, by go_num, by omega, by rw [unhide HT, unhide HSAT, unhide HM1]; rfl, hA, hres3, hcub3⟩
              | true =>
                rw [e3] at h3
                have HF : Hid (cubeR F ws = none) := hide (by rw [unhide HTO, unhide HO (by rw [unhide HM, e1, e2, e3]; rfl)]; rfl)
                clear e1 e2 e3
                have hR := blk_set (blk_set hres2 0 (.int .i64 p)) 1 (.int .i64 n)
                have hR' := (heap_alloc_old _ (.cells #[.int .i64 (xp : Int), .int .i64 (xn : Int)] 121) (blk_lt hR)).trans hR
                have j0 := blk_cell hR' 0
                have j1 := blk_cell hR' 1
                go_wp2_with fail
                refine bodyPost_ret (v := .tuple #[.agg #[.int .i64 p, .int .i64 n], .bool false]) (by simp [results, Tryz.results106, go_sem, j0, j1]) rfl (RStPost.none_ ?_ (unhide HF) (p, n) rfl)
                exact ((hb2.setCell (p := ⟨w.heap.size, 0, none⟩) (Nat.le_refl _) _).setCell (p := ⟨w.heap.size, 1, none⟩) (Nat.le_refl _) _).alloc (by simp [World.setCell]; omega) _
        · have hkl : k = F.cl.length := by omega
          have HF : Hid (cubeR F ws = some (p, n)) := hide (by
            have := unhide HSAT
            rw [hkl, List.take_length] at this
            rw [unhide HTO, this]; rfl)
          have hR := blk_set (blk_set hres2 0 (.int .i64 p)) 1 (.int .i64 n)
          have j0 := blk_cell hR 0
          have j1 := blk_cell hR 1
          go_wp2_with fail
          refine bodyPost_ret (v := .tuple #[.agg #[.int .i64 p, .int .i64 n], .bool true]) (by simp [results, Tryz.results106, go_sem, j0, j1]) rfl (RStPost.some_ ?_ (p, n) (unhide HF) rfl)
          exact (hb2.setCell (p := ⟨w.heap.size, 0, none⟩) (Nat.le_refl _) _).setCell (p := ⟨w.heap.size, 1, none⟩) (Nat.le_refl _) _
end Go.Proofs.YtgipjjhkhfihpaaGreatDoor

namespace Go.Proofs.YtgipjjhkhfihpaaGreatDoor
open Go.RowKit

theorem okC_eq (x c : Nat × Nat) : okC x c = !missed x c := by
  unfold okC missed
  have e : ((x.1 &&& c.1) ||| (x.2 &&& c.2) != 0) = !((x.1 &&& c.1 == 0) && (x.2 &&& c.2 == 0)) := by
    have : (x.1 &&& c.1) ||| (x.2 &&& c.2) = 0 ↔ (x.1 &&& c.1 = 0 ∧ x.2 &&& c.2 = 0) := by
      constructor
      · intro h
        constructor
        · apply Nat.eq_of_testBit_eq; intro i
          have : ((x.1 &&& c.1) ||| (x.2 &&& c.2)).testBit i = false := by rw [h]; simp
          rw [Nat.testBit_or, Bool.or_eq_false_iff] at this
          rw [this.1]; simp
        · apply Nat.eq_of_testBit_eq; intro i
          have : ((x.1 &&& c.1) ||| (x.2 &&& c.2)).testBit i = false := by rw [h]; simp
          rw [Nat.testBit_or, Bool.or_eq_false_iff] at this
          rw [this.2]; simp
      · rintro ⟨h1, h2⟩; rw [h1, h2]; rfl
    rw [Bool.eq_iff_iff, bne_iff_ne, Bool.not_eq_true', Bool.and_eq_false_iff, beq_eq_false_iff_ne, beq_eq_false_iff_ne, ne_eq, this, Classical.not_and_iff_not_or_not]
  rw [e]
  cases h1 : (x.1 &&& x.2 == 0) <;> cases h2 : (x.1 &&& c.1 == 0) <;> cases h3 : (x.2 &&& c.2 == 0) <;> simp [bne, h1]
/-! ### Of formulas that were read -/
theorem allTo_small (st : RS) (h : ∀ v ∈ st.told, v ≤ 8) (k : Nat) : allTo st k < 512 := by
  unfold allTo
  have hz : ∀ x ∈ ((st.told.zip st.kinds).take k), x.1 ≤ 8 := fun x hx => h _ (List.of_mem_zip (List.mem_of_mem_take hx)).1
  suffices hh : ∀ (l : List (Nat × Bool)) (a : Nat), a < 512 → (∀ x ∈ l, x.1 ≤ 8) → l.foldl (fun a x => if x.2 then a ||| 2 ^ x.1 else a) a < 512 from hh _ 0 (by omega) hz
  intro l
  induction l with
  | nil => intro a ha _; exact ha
  | cons x l ih =>
    intro a ha hx
    rw [List.foldl_cons]
    apply ih
    · split
      · have := pow_bd x.1 (hx x (by simp))
        exact or_lt _ _ ha (by omega)
      · exact ha
    · exact fun y hy => hx y (by simp [hy])
theorem big_bit (a v : Nat) (h : a < 512) (hv : a.testBit v = true) : v ≤ 8 := by
  apply Classical.byContradiction
  intro hn
  have : a.testBit v = false := Nat.testBit_lt_two_pow (Nat.lt_of_lt_of_le (show a < 2 ^ 9 from h) (Nat.pow_le_pow_right (by omega) (by omega)))
  rw [this] at hv; cases hv
theorem fq_of {st : RS} {q0 : QS} (hs : Same st q0) (hn : QNice q0) (hc : q0.cl.length ≤ 24) : FQ (finish st) (qFinish q0) ∧ FOk (finish st) ∧ FW (finish st) := by
  have ho := order_eq hs
  have hna := names_all hn
  have hk := kinds_eq hs hn
  have hcl : (finish st).cl = q0.cl := hs.cl
  have hbits : ∀ c ∈ q0.cl, Bd c := hn.bits
  have hlen := vars_le hn
  have hv : ∀ c ∈ q0.cl, ∀ v, c.1.testBit v = true ∨ c.2.testBit v = true → v ∈ (finish st).order := by
    intro c hcm v hb
    have h8 : v ≤ 8 := by
      rcases hb with hb | hb
      · exact big_bit _ _ (hn.bits c hcm).1 hb
      · exact big_bit _ _ (hn.bits c hcm).2 hb
    have h1 : 1 ≤ v := by
      rcases Nat.eq_zero_or_pos v with e | e
      · subst e
        have := hn.bit0 c hcm
        rcases hb with hb | hb
        · rw [this.1] at hb; cases hb
        · rw [this.2] at hb; cases hb
      · exact e
    show v ∈ freeTo st 8 ++ st.told
    rw [List.mem_append]
    by_cases hsv : hasV q0.vars v = true
    · right
      rw [hs.told, List.mem_map]
      unfold hasV at hsv
      rw [List.any_eq_true] at hsv
      obtain ⟨x, hx, he⟩ := hsv
      exact ⟨x, hx, by simpa using he⟩
    · left
      rw [free_eq hs]
      unfold freeQ
      rw [List.mem_filter]
      refine ⟨List.mem_map.2 ⟨v - 1, by simp; omega, by omega⟩, ?_⟩
      rw [Bool.and_eq_true]
      refine ⟨by simpa using hsv, ?_⟩
      unfold inC
      rw [List.any_eq_true]
      refine ⟨c, hcm, ?_⟩
      rw [bitOf_nat v h1 h8, and_pow_ne, Nat.testBit_or, Bool.or_eq_true]
      exact hb
  have hnm : ∀ v ∈ (finish st).order, 1 ≤ v ∧ v ≤ 8 := by
    intro v hvv
    rw [ho, List.mem_map] at hvv
    obtain ⟨x, hx, rfl⟩ := hvv
    exact hna.2 x hx
  have htold : ∀ v ∈ st.told, v ≤ 8 := by
    intro v hvv
    rw [hs.told, List.mem_map] at hvv
    obtain ⟨x, hx, rfl⟩ := hvv
    exact (hn.names x hx).2
  refine ⟨⟨ho, hk, hna.1, hna.2, hcl, hc, hbits, hv⟩, ⟨by rw [ho]; exact hna.1, hnm, by rw [hcl]; exact hbits, by rw [hcl]; exact hv⟩, ⟨by rw [ho]; simpa using hlen, fun v h => (hnm v h).2, by rw [hcl]; exact hc, by rw [hcl]; exact hn.bits, allTo_small st htold _⟩⟩
theorem qb_of {q0 : QS} (hn : QNice q0) (hc : q0.cl.length ≤ 24) : QB (qFinish q0) := ⟨vars_le hn, hc, hn.bits, (names_all hn).2⟩
end Go.Proofs.YtgipjjhkhfihpaaGreatDoor

namespace Go.Proofs.YtgipjjhkhfihpaaGreatDoor
open Go.RowKit

/-! Steps -/
theorem ahead_eq (ss : List (Nat × Nat)) (w : List UInt8) (hs : ss.length ≤ 9000) : aheadQ ss w = if cnt w big < 1 ∨ ss.length < cnt w big then none else some (ss.getD (cnt w big - 1) (0, 0)) := by
  unfold aheadQ
  rw [num_cnt w ss.length (by omega)]
  by_cases h : cnt w big < 1 ∨ ss.length < cnt w big
  · rw [if_pos h, if_neg (by omega)]; rfl
  · rw [if_neg h, if_pos (by omega)]
    have hlt : cnt w big - 1 < ss.length := by omega
    simp only [Option.bind_some]
    rw [List.getElem?_eq_getElem hlt, getD_at _ _ _ hlt]
theorem axiom_eq {F : Form} {q : QS} (h : FQ F q) (x : List UInt8) : axiomQ q 1 [x] = axR F (cnt x big) := by
  unfold axiomQ axR
  rw [if_pos rfl, h.cl]
  dsimp only
  rw [num_cnt x q.cl.length (by have := h.clen; omega)]
  by_cases hb : cnt x big < 1 ∨ q.cl.length < cnt x big
  · rw [if_pos hb, if_neg (by omega)]; rfl
  · rw [if_neg hb, if_pos (by omega)]
    have hlt : cnt x big - 1 < q.cl.length := by omega
    simp only [Option.bind_some]
    rw [List.getElem?_eq_getElem hlt, getD_at _ _ _ hlt]
    simp only [Option.bind_some]
    unfold apartO
    by_cases hz : q.cl[cnt x big - 1].1 &&& q.cl[cnt x big - 1].2 = 0
    · rw [if_pos hz, if_neg (by simp [hz])]
    · rw [if_neg hz, if_pos (by simpa using hz)]
theorem reduct_eq {F : Form} {q : QS} (h : FQ F q) (hF : FOk F) (truth : Bool) (ss : List (Nat × Nat)) (hs : ss.length ≤ 9000) (x : List UInt8) : reductQ q (kd truth) ss [x] = reductR F truth ss (cnt x big) := by
  unfold reductQ reductR
  dsimp only
  rw [ahead_eq ss x hs]
  by_cases hb : cnt x big < 1 ∨ ss.length < cnt x big
  · rw [if_pos hb, if_pos hb]; rfl
  · rw [if_neg hb, if_neg hb]
    simp only [Option.map_some]
    rw [redQ_eq h hF truth]
theorem piv_eq {F : Form} {q : QS} (h : FQ F q) (truth : Bool) (z : List UInt8) : pivQ q (kd truth) z = if 1 ≤ cnt z big ∧ cnt z big ≤ 8 ∧ cnt z big ∈ F.order ∧ F.all.testBit (cnt z big) = truth then some (cnt z big) else none := by
  have hd := dig_num z
  rw [num_cnt z 8 (by omega)] at hd
  unfold pivQ
  have hbd := dig_bd z
  by_cases h0 : dig z = 0
  · rw [if_pos h0] at hd
    rw [if_neg (by omega), if_neg]
    rintro ⟨h1, h2, _⟩
    rw [if_pos ⟨h1, h2⟩] at hd; cases hd
  · rw [if_neg h0] at hd
    have hc : 1 ≤ cnt z big ∧ cnt z big ≤ 8 := by
      apply Classical.byContradiction
      intro hn
      rw [if_neg hn] at hd; cases hd
    rw [if_pos hc] at hd
    have he : cnt z big = (dig z).toNat := Option.some.inj hd
    rw [if_pos (by omega), ← he]
    rcases find_mem h (cnt z big) with ⟨x, h1, h2, h3, h4⟩ | ⟨h1, h2⟩
    · rw [h1]
      simp only [Option.bind_some]
      have hk := h.kinds x h3
      rw [h2] at hk
      have hp : pivotB (kd truth) x.2 = (F.all.testBit (cnt z big) == truth) := by
        rw [hk]; unfold pivotB kd; cases truth <;> cases x.2 <;> rfl
      rw [hp]
      by_cases hb : F.all.testBit (cnt z big) = truth
      · rw [if_pos (by simpa using hb), if_pos ⟨hc.1, hc.2, h4, hb⟩]
      · rw [if_neg (by simpa using hb), if_neg (fun hh => hb hh.2.2.2)]
    · rw [h1, if_neg (fun hh => h2 hh.2.2.1)]; rfl
theorem resQ2_eq {F : Form} (a b : Nat × Nat) (v : Nat) (h1 : 1 ≤ v) (h8 : v ≤ 8) (sa : SI F a) (sb : SI F b) : resQ2 a b v = if a.1.testBit v = false ∨ b.2.testBit v = false then none else apartO (resolve2 a b v) := by
  by_cases ha : a.1.testBit v = true
  · by_cases hb : b.2.testBit v = true
    · have e : without2 a b v = resolve2 a b v := by
        have na : a.2.testBit v = false := by
          cases hh : a.2.testBit v with
          | false => rfl
          | true => exact (bits_apart sa.apart v ha hh).elim
        have nb : b.1.testBit v = false := by
          cases hh : b.1.testBit v with
          | false => rfl
          | true => exact (bits_apart sb.apart v hh hb).elim
        unfold without2 without resolve2
        rw [bitOf_nat v h1 h8]
        apply pair_ext
        · intro u
          show (less (a.1 ||| b.1) (2 ^ v)).testBit u = (less a.1 (2 ^ v) ||| b.1).testBit u
          rw [testBit_less, Nat.testBit_or, Nat.testBit_or, testBit_less, Nat.testBit_two_pow]
          by_cases e : v = u
          · subst e; simp [nb]
          · simp [e]
        · intro u
          show (less (a.2 ||| b.2) (2 ^ v)).testBit u = (a.2 ||| less b.2 (2 ^ v)).testBit u
          rw [testBit_less, Nat.testBit_or, Nat.testBit_or, testBit_less, Nat.testBit_two_pow]
          by_cases e : v = u
          · subst e; simp [na]
          · simp [e]
      have e1 : resQ2 a b v = (if (without2 a b v).1 &&& (without2 a b v).2 != 0 then none else some (without2 a b v)) := by
        unfold resQ2; rw [hasLit_pos a v h1 h8, hasLit_neg b v h1 h8, if_pos ⟨ha, hb⟩]
      rw [e1, e, if_neg (show ¬ (a.1.testBit v = false ∨ b.2.testBit v = false) by rw [ha, hb]; simp)]
      unfold apartO
      by_cases hz2 : (resolve2 a b v).1 &&& (resolve2 a b v).2 = 0
      · rw [if_pos hz2, if_neg (by simp [hz2])]
      · rw [if_neg hz2, if_pos (by simpa using hz2)]
    · have hb' : b.2.testBit v = false := by simpa using hb
      rw [if_pos (Or.inr hb')]
      unfold resQ2; rw [hasLit_neg b v h1 h8, if_neg (fun hh => hb hh.2)]
  · have ha' : a.1.testBit v = false := by simpa using ha
    rw [if_pos (Or.inl ha')]
    unfold resQ2; rw [hasLit_pos a v h1 h8, if_neg (fun hh => ha hh.1)]
theorem res_eq {F : Form} {q : QS} (h : FQ F q) (truth : Bool) (ss : List (Nat × Nat)) (hs : ss.length ≤ 9000) (hSI : ∀ c ∈ ss, SI F c) (x y z : List UInt8) : resQ q (kd truth) ss [x, y, z] = resR F truth ss (cnt x big) (cnt y big) (cnt z big) := by
  have LQ : resQ q (kd truth) ss [x, y, z] = (aheadQ ss x).bind fun a => (aheadQ ss y).bind fun b => (pivQ q (kd truth) z).bind fun v => resQ2 a b v := rfl
  have RN : (cnt x big < 1 ∨ ss.length < cnt x big ∨ cnt y big < 1 ∨ ss.length < cnt y big ∨ cnt z big < 1 ∨ 8 < cnt z big) → resR F truth ss (cnt x big) (cnt y big) (cnt z big) = none := fun hh => by unfold resR; rw [if_pos hh]
  rw [LQ]
  by_cases hx : cnt x big < 1 ∨ ss.length < cnt x big
  · rw [ahead_eq ss x hs, if_pos hx, RN (by omega)]; rfl
  · rw [ahead_eq ss x hs, if_neg hx, Option.bind_some]
    by_cases hy : cnt y big < 1 ∨ ss.length < cnt y big
    · rw [ahead_eq ss y hs, if_pos hy, RN (by omega)]; rfl
    · rw [ahead_eq ss y hs, if_neg hy, Option.bind_some]
      by_cases hz : cnt z big < 1 ∨ 8 < cnt z big
      · rw [piv_eq h truth z, if_neg (by omega), RN (by omega)]; rfl
      · have h1 : 1 ≤ cnt z big := by omega
        have h8 : cnt z big ≤ 8 := by omega
        have ia : cnt x big - 1 < ss.length := by omega
        have ib : cnt y big - 1 < ss.length := by omega
        have hR : resR F truth ss (cnt x big) (cnt y big) (cnt z big) = if F.all.testBit (cnt z big) ≠ truth ∨ ss[cnt x big - 1].1.testBit (cnt z big) = false ∨ ss[cnt y big - 1].2.testBit (cnt z big) = false then none else apartO (resolve2 ss[cnt x big - 1] ss[cnt y big - 1] (cnt z big)) := by
          unfold resR
          rw [if_neg (by omega), getD_at _ _ _ ia, getD_at _ _ _ ib]
        rw [hR, getD_at _ _ _ ia, getD_at _ _ _ ib, piv_eq h truth z]
        have sa := hSI _ (List.getElem_mem ia)
        have sb := hSI _ (List.getElem_mem ib)
        clear RN LQ hR
        generalize ss[cnt x big - 1] = a at *
        generalize ss[cnt y big - 1] = b at *
        generalize cnt z big = v at *
        by_cases hk : F.all.testBit v = truth
        · by_cases hm : v ∈ F.order
          · have hc : (1 ≤ v ∧ v ≤ 8 ∧ v ∈ F.order ∧ F.all.testBit v = truth) := ⟨h1, h8, hm, hk⟩
            rw [if_pos hc, Option.bind_some, resQ2_eq a b v h1 h8 sa sb]
            by_cases hh : a.1.testBit v = false ∨ b.2.testBit v = false
            · rw [if_pos hh, if_pos (Or.inr hh)]
            · rw [if_neg hh, if_neg (by rintro (h' | h'); exact h' hk; exact hh h')]
          · have hc : ¬ (1 ≤ v ∧ v ≤ 8 ∧ v ∈ F.order ∧ F.all.testBit v = truth) := fun hh => hm hh.2.2.1
            have ha : a.1.testBit v = false := by
              cases hh : a.1.testBit v with
              | false => rfl
              | true => exact absurd (sa.vars v (Or.inl hh)) hm
            rw [if_neg hc, if_pos (Or.inr (Or.inl ha))]; rfl
        · have hc : ¬ (1 ≤ v ∧ v ≤ 8 ∧ v ∈ F.order ∧ F.all.testBit v = truth) := fun hh => hk hh.2.2.2
          rw [if_neg hc, if_pos (Or.inl hk)]; rfl

/-! Cubes -/
theorem lit_eq (c : Nat × Nat) (w : List UInt8) : (litInto c w).2 = litGood w ∧ (litGood w = true → (litInto c w).1 = withLit c (litNum w) ∧ (litNum w).natAbs = litVar w) := by
  obtain ⟨h1, h2⟩ := litInto_good c w
  refine ⟨h1, fun hg => ⟨h2 hg, ?_⟩⟩
  unfold litGood at hg
  unfold litNum litVar
  by_cases hh : w.head? = some 45
  · rw [if_pos hh] at hg ⊢
    have hd : 0 < dig w.tail := of_decide_eq_true hg
    have h0 : dig w = 0 := by
      cases w with
      | nil => simp at hh
      | cons a r =>
        simp at hh; subst hh
        cases r with
        | nil => rfl
        | cons b r => rfl
    rw [if_pos h0]; omega
  · rw [if_neg hh] at hg ⊢
    have hd : 0 < dig w := of_decide_eq_true hg
    rw [if_neg (by omega)]; omega
theorem cube_eq {F : Form} {q : QS} (h : FQ F q) (ws : List (List UInt8)) : ∀ (c : Nat × Nat) (last : Nat), cubeQ q.vars c last ws = cubeTo F.order c last ws := by
  induction ws with
  | nil => intro c last; rfl
  | cons w ws ih =>
    intro c last
    obtain ⟨h1, h2⟩ := lit_eq c w
    rw [cubeQ, cubeTo, h1]
    cases hg : litGood w with
    | false => rw [if_neg (by decide), if_neg (fun hh => by cases hh.1)]
    | true =>
      obtain ⟨h3, h4⟩ := h2 hg
      rw [if_pos rfl, h4, h3]
      rcases find_mem h (litVar w) with ⟨x, f1, f2, f3, f4⟩ | ⟨f1, f2⟩
      · rw [f1]
        dsimp only
        rw [f2]
        by_cases hle : litVar w ≤ last
        · rw [if_pos hle, if_neg (fun hh => by have := hh.2.1; omega)]
        · rw [if_neg hle, if_pos ⟨rfl, by omega, f4⟩, ih]
      · rw [f1]
        dsimp only
        rw [if_neg (fun hh => f2 hh.2.2)]
theorem cubeStep_eq {F : Form} {q : QS} (h : FQ F q) (ws : List (List UInt8)) : cubeStepQ q 2 ws = cubeR F ws := by
  unfold cubeStepQ cubeR
  rw [if_pos rfl, cube_eq h, h.cl]
  congr 1
  funext c
  have : satQ q.cl c = satR q.cl c := by
    unfold satQ satR
    congr 1
    funext x
    exact okC_eq x c
  rw [this]

/-! Lines -/
theorem step_eq {F : Form} {q : QS} (h : FQ F q) (hF : FOk F) (truth : Bool) (ss : List (Nat × Nat)) (hs : ss.length ≤ 9000) (hSI : ∀ c ∈ ss, SI F c) (hd : List UInt8) (tl : List (List UInt8)) : stepQ q (kd truth) ss hd tl = stepR F truth ss hd tl := by
  unfold stepQ
  by_cases ha : hd = [97]
  · subst ha
    rw [if_pos rfl]
    cases truth with
    | true =>
      have e1 : stepR F true ss [97] tl = none := rfl
      rw [e1]; rfl
    | false =>
      by_cases hl : tl.length = 1
      · obtain ⟨x, rfl⟩ := List.length_eq_one_iff.1 hl
        exact axiom_eq h x
      · have e1 : stepR F false ss [97] tl = none := by unfold stepR; rw [if_neg (fun h => hl h.2.2), if_neg (by simp), if_neg (by simp), if_neg (by simp)]
        rw [e1]
        unfold axiomQ
        split
        · split
          · simp at hl
          · rfl
        · rfl
  · rw [if_neg ha]
    by_cases hc : hd = [99]
    · subst hc
      rw [if_pos rfl]
      cases truth with
      | false =>
        have e1 : stepR F false ss [99] tl = none := rfl
        rw [e1]; rfl
      | true =>
        have e1 : stepR F true ss [99] tl = cubeR F tl := rfl
        rw [e1]; exact cubeStep_eq h tl
    · rw [if_neg hc]
      by_cases hr : hd = [114]
      · subst hr
        rw [if_pos rfl]
        by_cases hl : tl.length = 3
        · obtain ⟨x, y, z, rfl⟩ := len_three hl
          rw [res_eq h truth ss hs hSI]
          unfold stepR; rw [if_neg (by simp), if_neg (by simp), if_pos ⟨rfl, rfl⟩]; rfl
        · have e1 : stepR F truth ss [114] tl = none := by unfold stepR; rw [if_neg (by simp), if_neg (by simp), if_neg (fun h => hl h.2), if_neg (by simp)]
          rw [e1]
          unfold resQ
          split
          · simp at hl
          · rfl
      · rw [if_neg hr]
        by_cases hdd : hd = [100]
        · subst hdd
          rw [if_pos rfl]
          by_cases hl : tl.length = 1
          · obtain ⟨x, rfl⟩ := List.length_eq_one_iff.1 hl
            rw [reduct_eq h hF truth ss hs]
            unfold stepR; rw [if_neg (by simp), if_neg (by simp), if_neg (by simp), if_pos ⟨rfl, rfl⟩]; rfl
          · have e1 : stepR F truth ss [100] tl = none := by unfold stepR; rw [if_neg (by simp), if_neg (by simp), if_neg (by simp), if_neg (fun h => hl h.2)]
            rw [e1]
            unfold reductQ
            split
            · simp at hl
            · rfl
        · rw [if_neg hdd]
          unfold stepR; rw [if_neg (fun h => ha h.1), if_neg (fun h => hc h.1), if_neg (fun h => hr h.1), if_neg (fun h => hdd h.1)]
end Go.Proofs.YtgipjjhkhfihpaaGreatDoor

namespace Go.Proofs.YtgipjjhkhfihpaaGreatDoor
open Go.RowKit

theorem cnt_nil : cnt [] big = 0 := rfl
theorem cubeTo_bad (order : List Nat) (ws : List (List UInt8)) (h : [] ∈ ws) : ∀ c last, cubeTo order c last ws = none := by
  induction ws with
  | nil => simp at h
  | cons w ws ih =>
    intro c last
    rw [cubeTo]
    rcases List.mem_cons.1 h with h | h
    · subst h; rw [if_neg]; rintro ⟨h1, _⟩; cases h1
    · split
      · exact ih h _ _
      · rfl
theorem step_bad (F : Form) (truth : Bool) (ss : List (Nat × Nat)) (hd : List UInt8) (tl : List (List UInt8)) (h : hd = [] ∨ [] ∈ tl) : stepR F truth ss hd tl = none := by
  rcases h with h | h
  · subst h
    unfold stepR; rw [if_neg (by simp), if_neg (by simp), if_neg (by simp), if_neg (by simp)]
  · unfold stepR
    split
    · next hc =>
      obtain ⟨x, rfl⟩ := List.length_eq_one_iff.1 hc.2.2
      have hx : x = [] := by simpa using h
      subst hx
      show axR F (cnt [] big) = none
      rw [cnt_nil]; rfl
    · split
      · unfold cubeR; rw [cubeTo_bad _ _ h]; rfl
      · split
        · next hc =>
          obtain ⟨x, y, z, rfl⟩ := len_three hc.2
          show resR F truth ss (cnt x big) (cnt y big) (cnt z big) = none
          unfold resR
          rw [if_pos]
          simp at h
          rcases h with h | h | h
          · left; rw [h, cnt_nil]; omega
          · right; right; left; rw [h, cnt_nil]; omega
          · right; right; right; right; left; rw [h, cnt_nil]; omega
        · split
          · next hc =>
            obtain ⟨x, rfl⟩ := List.length_eq_one_iff.1 hc.2
            have hx : x = [] := by simpa using h
            subst hx
            show reductR F truth ss (cnt [] big) = none
            rw [cnt_nil]; rfl
          · rfl
theorem line_eq {F : Form} {q : QS} (h : FQ F q) (hF : FOk F) (truth : Bool) (ss : List (Nat × Nat)) (hs : ss.length ≤ 9000) (hSI : ∀ c ∈ ss, SI F c) (row : List UInt8) : lineQ q (kd truth) ss row = lineR F truth ss row := by
  obtain ⟨hd, tl, hws⟩ : ∃ hd tl, cutAt 32 row = hd :: tl := by
    cases h : cutAt 32 row with
    | nil => simp [cutAt] at h
    | cons a b => exact ⟨a, b, rfl⟩
  rw [lineR_eq F truth ss row hd tl hws]
  by_cases h9 : 9000 ≤ ss.length
  · rw [if_pos (by omega)]
    unfold lineQ; rw [if_pos h9]
  · rw [if_neg (by omega)]
    cases hsp : splitOk row with
    | true => rw [lineQ_eq q (kd truth) ss row hd tl h9 hsp hws, step_eq h hF truth ss hs hSI]
    | false =>
      rw [step_bad F truth ss hd tl (split_words row hd tl hws hsp)]
      unfold lineQ; rw [if_neg h9, hsp]; rfl
theorem si_of {F : Form} {truth : Bool} {c : Nat × Nat} (hg : Good (satB F.cl) F.all (!truth) F.order c) (hb : Bd c) : SI F c := ⟨hb, apart_bits hg.apart, hg.vars⟩
theorem lineR_good {F : Form} (hF : FOk F) (truth : Bool) (ss : List (Nat × Nat)) (hg : ∀ c ∈ ss, Good (satB F.cl) F.all (!truth) F.order c) (hb : ∀ c ∈ ss, Bd c) (row : List UInt8) (c : Nat × Nat) (h : lineR F truth ss row = some c) : Good (satB F.cl) F.all (!truth) F.order c ∧ Bd c ∧ ss.length < 9000 ∨ 9000 < ss.length := by
  unfold lineR at h
  split at h
  · cases h
  · split at h
    · cases h
    · next h9 =>
      by_cases hh : 9000 < ss.length
      · exact Or.inr hh
      · exact Or.inl ⟨good_stepR hF truth ss _ _ _ hg h, stepR_bd F truth ss _ _ c hF.bits hb h, by omega⟩
theorem rowsQ_eq {F : Form} {q : QS} (h : FQ F q) (hF : FOk F) (truth : Bool) (rs : List (List UInt8)) : ∀ (ss : List (Nat × Nat)) (n : Nat), ss.length ≤ 9000 → (∀ c ∈ ss, Good (satB F.cl) F.all (!truth) F.order c) → (∀ c ∈ ss, Bd c) → rowsQ q (kd truth) ss n rs = rowsR F truth ss n rs := by
  induction rs with
  | nil => intro ss n _ _ _; rfl
  | cons r rs ih =>
    intro ss n hs hg hb
    rw [rowsQ, rowsR, line_eq h hF truth ss hs (fun c hc => si_of (hg c hc) (hb c hc)) r]
    cases hl : lineR F truth ss r with
    | none => rfl
    | some c =>
      dsimp only
      rcases lineR_good hF truth ss hg hb r c hl with ⟨h1, h2, h3⟩ | h9
      · apply ih
        · simp; omega
        · intro c' hc'
          rcases List.mem_append.1 hc' with hc' | hc'
          · exact hg c' hc'
          · simp at hc'; subst hc'; exact h1
        · intro c' hc'
          rcases List.mem_append.1 hc' with hc' | hc'
          · exact hb c' hc'
          · simp at hc'; subst hc'; exact h2
      · omega
theorem check_eq {F : Form} {q : QS} (h : FQ F q) (hF : FOk F) (l : List UInt8) : checkQ q l = match provesR F l with
    | .inl (x, i) => (0, x, i)
    | .inr (truth, _) => (kd truth, 0, 0) := by
  unfold checkQ readQ provesR
  by_cases hl : 262144 < l.length
  · rw [if_pos hl, if_pos hl]
  · rw [if_neg hl, if_neg hl]
    cases hrows : (cutTo 10 l).1 with
    | nil => rfl
    | cons r0 rs =>
      unfold firstQ
      dsimp only
      by_cases hr : r0 = sTrue ∨ r0 = sFalse
      · rw [if_pos hr, if_pos hr]
        have hk : kindOf r0 = kd (r0 == sTrue) := by
          unfold kindOf kd
          by_cases e : r0 = sTrue
          · rw [if_pos e, if_pos (by simpa using e)]
          · rw [if_neg e, if_neg (by simpa using e)]
        unfold goQ
        rw [hk, rowsQ_eq h hF (r0 == sTrue) rs [] 1 (by simp) (by simp) (by simp)]
        cases rowsR F (r0 == sTrue) [] 1 rs with
        | inr i => rfl
        | inl ss =>
          dsimp only
          have he : closedQ ss = emptyLast ss := rfl
          rw [he]
          by_cases hc : (cutTo 10 l).2 = [] ∧ emptyLast ss = true
          · rw [if_pos hc, if_pos ⟨by simpa using hc.1, hc.2⟩]
          · rw [if_neg hc, if_neg (fun hh => hc ⟨by simpa using hh.1, hh.2⟩)]
      · rw [if_neg hr, if_neg hr]

end Go.Proofs.YtgipjjhkhfihpaaGreatDoor

namespace Go.Proofs.YtgipjjhkhfihpaaGreatDoor
open Go.RowKit

/-! ### The values of a game -/
def valV (c : Nat × Nat) (v : Nat) : Int := if L c false v then -1 else if L c true v then 1 else 0
theorem run_L {q : QS} (hq : QGood q) {kind : Nat} {rs : List RuleP} {g : GS} {bs : List Bool} (h : Run q kind rs g bs) (s : Bool) (v : Nat) : L g.vals s v = true ↔ ∃ j, ∃ hj : j < q.vars.length, j < bs.length ∧ q.vars[j].1 = v ∧ bs.reverse.getD j false = s := by
  have hle : bs.length ≤ q.vars.length := by
    rw [h.len]; have := offs_le (progBlocks q.vars) g.turn; rw [progBlocks_flat, List.length_map] at this; exact this
  rw [h.vals, valsTo_L _ (fun v hv => hq.name hv) bs (by simpa using hle)]
  constructor
  · rintro ⟨j, h1, h2, h3⟩
    have hj : j < q.vars.length := by omega
    exact ⟨j, hj, h1, by rw [← name_at j hj]; exact h2, h3⟩
  · rintro ⟨j, hj, h1, h2, h3⟩
    exact ⟨j, h1, by rw [name_at j hj]; exact h2, h3⟩
theorem vars_inj {q : QS} (hq : QGood q) {i j : Nat} (hi : i < q.vars.length) (hj : j < q.vars.length) (e : q.vars[i].1 = q.vars[j].1) : i = j := index_inj hq hi hj e
/-- The value of the variable at a place. -/
theorem run_val {q : QS} (hq : QGood q) {kind : Nat} {rs : List RuleP} {g : GS} {bs : List Bool} (h : Run q kind rs g bs) {j : Nat} (hj : j < q.vars.length) (hb : j < bs.length) : valV g.vals q.vars[j].1 = if bs.reverse.getD j false then 1 else -1 := by
  have hone : ∀ s, L g.vals s q.vars[j].1 = true ↔ bs.reverse.getD j false = s := fun s => by
    rw [run_L hq h]
    constructor
    · rintro ⟨i, hi, _, h2, h3⟩
      rw [vars_inj hq hi hj h2] at h3; exact h3
    · intro e; exact ⟨j, hj, hb, rfl, e⟩
  unfold valV
  cases e : bs.reverse.getD j false with
  | true =>
    have h1 := (hone true).2 e
    have h0 : L g.vals false q.vars[j].1 = false := by
      cases hc : L g.vals false q.vars[j].1 with
      | false => rfl
      | true => have := (hone false).1 hc; rw [e] at this; cases this
    rw [h0, h1]; rfl
  | false =>
    have h1 := (hone false).2 e
    rw [h1]; rfl
theorem run_none {q : QS} (hq : QGood q) {kind : Nat} {rs : List RuleP} {g : GS} {bs : List Bool} (h : Run q kind rs g bs) {v : Nat} (hv : ∀ j (hj : j < q.vars.length), j < bs.length → q.vars[j].1 ≠ v) : valV g.vals v = 0 := by
  have : ∀ s, L g.vals s v = false := fun s => by
    cases hc : L g.vals s v with
    | false => rfl
    | true =>
      obtain ⟨j, hj, h1, h2, _⟩ := (run_L hq h s v).1 hc
      exact absurd h2 (hv j hj h1)
  unfold valV; rw [this, this]; rfl
/-- A value that was told stays. -/
theorem run_stay {q : QS} (hq : QGood q) {kind : Nat} {rs : List RuleP} {g g' : GS} {bs b2 : List Bool} (h : Run q kind rs g bs) (h' : Run q kind rs g' (b2 ++ bs)) (v : Nat) : valV g.vals v = 0 ∨ valV g'.vals v = valV g.vals v := by
  by_cases e : ∃ j, ∃ hj : j < q.vars.length, j < bs.length ∧ q.vars[j].1 = v
  · obtain ⟨j, hj, h1, rfl⟩ := e
    refine Or.inr ?_
    rw [run_val hq h hj h1, run_val hq h' hj (by simp; omega), List.reverse_append, List.getD, List.getD, List.getElem?_append_left (by simpa using h1)]
  · exact Or.inl (run_none hq h (fun j hj h1 h2 => e ⟨j, hj, h1, h2⟩))
theorem move_run {q : QS} (hq : QGood q) {kind : Nat} (hk : kind = 1 ∨ kind = 2) {rs : List RuleP} {g : GS} {bs : List Bool} (h : Run q kind rs g bs) (hs : Stands q kind g) (ht : g.turn < (progBlocks q.vars).length) (bits : Nat) :
    ∃ b2, Run q kind rs (moveW rs (blW q kind) g bits) (b2 ++ bs) ∧ Stands q kind (moveW rs (blW q kind) g bits) ∧ g.turn + 1 ≤ (moveW rs (blW q kind) g bits).turn ∧
      (∀ j (hj : j < (progBlocks q.vars).length), g.turn + 1 ≤ j → j < (moveW rs (blW q kind) g bits).turn → winsW q kind (progBlocks q.vars)[j] = true) ∧
      ∀ i (hi : i < (progBlocks q.vars)[g.turn].length), valV (moveW rs (blW q kind) g bits).vals (progBlocks q.vars)[g.turn][i] = if bits.testBit i then 1 else -1 := by
  obtain ⟨b1, h1, h2, h3⟩ := move_part hq hk ht (hs.lose ht) bits (progBlocks q.vars)[g.turn].length 0 g.vals bs (by omega) h.part
  rw [List.drop_zero] at h1
  obtain ⟨b2, r1, r2, r3, r4⟩ := ans_run hq hk ((blW q kind).length - (g.turn + 1)) ⟨g.turn + 1, _⟩ _ (by show g.turn + 1 + _ = _; rw [blW_length]; omega) (h1.done ht)
  have e : moveW rs (blW q kind) g bits = ansGo rs (blW q kind) ((blW q kind).length - (g.turn + 1)) ⟨g.turn + 1, moveBlk (progBlocks q.vars)[g.turn] bits 0 g.vals⟩ := by
    unfold moveW ansW; rw [blW_at q kind _ ht]
  rw [e]
  refine ⟨b2 ++ b1, by rw [List.append_assoc]; exact r1, r2, r3, r4, fun i hi => ?_⟩
  have hlt := offs_lt g.turn i ht hi
  have hx : (q.vars[offs (progBlocks q.vars) g.turn + i]'hlt).1 = (progBlocks q.vars)[g.turn][i] := by rw [← name_at _ hlt]; exact names_at g.turn i ht hi
  have hl := h.len
  rw [← hx, run_val hq r1 hlt (by simp; omega)]
  rw [← List.append_assoc, List.reverse_append, List.getD, List.getElem?_append_right (by simp; omega)]
  have h4 := h3 i hi
  rw [Nat.zero_add] at h4
  rw [← h4, List.getD, show offs (progBlocks q.vars) g.turn + i - bs.reverse.length = i from by simp; omega, List.reverse_append, List.getElem?_append_left (by simp; omega)]
theorem open_run {q : QS} (hq : QGood q) {kind : Nat} (hk : kind = 1 ∨ kind = 2) (ss : List Stp) :
    ∃ bs, Run q kind (rulesW kind ss) (openW q kind ss) bs ∧ Stands q kind (openW q kind ss) ∧ ∀ j (hj : j < (progBlocks q.vars).length), j < (openW q kind ss).turn → winsW q kind (progBlocks q.vars)[j] = true := by
  obtain ⟨b2, r1, r2, _, r4⟩ := ans_run hq hk (rs := rulesW kind ss) (blW q kind).length ⟨0, (0, 0)⟩ [] (by show 0 + _ = _; rw [blW_length]; omega) (run_zero q kind _)
  exact ⟨b2 ++ [], r1, r2, fun j hj h => r4 j hj (Nat.zero_le _) h⟩

/-! ### At the end the side that wins has won -/
theorem emptyLast_hits {ss : List Stp} (h : closedQ (litsL ss) = true) (kind : Nat) (V : Nat × Nat) : ∃ i, ∃ hi : i < ss.length, Hits kind V ss[i].lits := by
  rw [closed_lits, Bool.and_eq_true] at h
  obtain ⟨h1, h2⟩ := h
  have hp : 0 < ss.length := by simpa using h1
  obtain ⟨m, hm⟩ : ∃ m, ss.length = m + 1 := ⟨ss.length - 1, by omega⟩
  have e1 : litsAt ss ss.length = (ss[m]'(by omega)).lits := by have h5 := litsAt_in ss m (by omega); rwa [← hm] at h5
  rw [e1] at h2
  refine ⟨m, by omega, fun s v hl => ?_⟩
  have he : emptyB (ss[m]'(by omega)).lits = true := h2
  rw [(empty_iff _).1 he s v] at hl
  cases hl
theorem won_end {q : QS} (hq : QGood q) {kind : Nat} (hk : kind = 1 ∨ kind = 2) {ss : List Stp} (hs : Steps2 q kind ss) (hc : closedQ (litsL ss) = true) {g : GS} {bs : List Bool} (h : Run q kind (rulesW kind ss) g bs) (ht : g.turn = (progBlocks q.vars).length) : WonBy q kind g.vals := by
  have hl : bs.length = q.vars.length := by rw [h.len, ht, offs_all, progBlocks_flat, List.length_map]
  obtain ⟨i, hi, hh⟩ := emptyLast_hits hc kind g.vals
  rw [h.vals] at hh ⊢
  exact won_step hq hk hs hl h.keeps i hi hh
theorem run_uniq {q : QS} (hq : QGood q) {kind : Nat} {rs : List RuleP} {g : GS} {bs : List Bool} (h : Run q kind rs g bs) {v : Nat} (h0 : L g.vals false v = true) : L g.vals true v = false := by
  cases hc : L g.vals true v with
  | false => rfl
  | true =>
    obtain ⟨i, hi, _, i2, i3⟩ := (run_L hq h _ _).1 h0
    obtain ⟨j, hj, _, j2, j3⟩ := (run_L hq h _ _).1 hc
    rw [vars_inj hq hi hj (i2.trans j2.symm), j3] at i3
    cases i3
theorem won_sat {q : QS} (hq : QGood q) {kind : Nat} {rs : List RuleP} {g : GS} {bs : List Bool} (h : Run q kind rs g bs) (hw : WonBy q kind g.vals) : satB q.cl g.vals.1 = (kind == 2) := by
  rcases hw with ⟨rfl, c, hc, _, hh⟩ | ⟨rfl, c, hc, hh⟩
  · show satB q.cl g.vals.1 = false
    cases hs : satB q.cl g.vals.1 with
    | false => rfl
    | true =>
      obtain ⟨v, ⟨h1, h2⟩ | ⟨h1, h2⟩⟩ := (satC_iff _ _).1 ((satB_iff _ _).1 hs c hc)
      · have := run_uniq hq h (hh true v h1)
        rw [show L g.vals true v = g.vals.1.testBit v from rfl, h2] at this; cases this
      · have : g.vals.1.testBit v = true := hh false v h1
        rw [h2] at this; cases this
  · show satB q.cl g.vals.1 = true
    rw [satB_iff]
    intro x hx
    unfold satQ at hc
    have ho := List.all_eq_true.1 hc x hx
    unfold okC at ho
    rw [Bool.or_eq_true] at ho
    rw [satC_iff]
    rcases ho with ho | ho
    · obtain ⟨s, v, h1, h2⟩ := (meets_iff x c).1 ho
      have h3 : L g.vals s v = true := hh s v h2
      cases s with
      | true => exact ⟨v, Or.inl ⟨h1, h3⟩⟩
      | false => exact ⟨v, Or.inr ⟨h1, run_uniq hq h h3⟩⟩
    · obtain ⟨v, h1, h2⟩ := (clash_iff x).1 ho
      cases hb : g.vals.1.testBit v with
      | true => exact ⟨v, Or.inl ⟨h1, hb⟩⟩
      | false => exact ⟨v, Or.inr ⟨h2, hb⟩⟩

/-! ### Of proofs that were read -/
theorem qgood_of {F : Form} {q : QS} (h : FQ F q) (hb : QB q) : QGood q :=
  ⟨hb, h.nodup, fun c hc s v hl => by
    rw [← h.order]
    refine h.vars c hc v ?_
    cases s with
    | true => exact Or.inl hl
    | false => exact Or.inr hl⟩
theorem steps_of {F : Form} {q : QS} (h : FQ F q) (hF : FOk F) {l : List UInt8} {kind : Nat} {ss : List Stp} (hr : readQ q l = .inr (kind, litsL ss)) (ht : Tags q kind ss) (hb : SBs ss) :
    Steps2 q kind ss ∧ closedQ (litsL ss) = true ∧ ∃ truth two, provesR F l = .inr (truth, two) ∧ kind = kd truth := by
  unfold readQ at hr
  by_cases hl : 262144 < l.length
  · rw [if_pos hl] at hr; cases hr
  · rw [if_neg hl] at hr
    cases hrows : (cutTo 10 l).1 with
    | nil => rw [hrows] at hr; cases hr
    | cons r0 rs =>
      rw [hrows] at hr
      unfold firstQ at hr
      dsimp only at hr
      by_cases hr0 : r0 = sTrue ∨ r0 = sFalse
      · rw [if_pos hr0] at hr
        have hk : kindOf r0 = kd (r0 == sTrue) := by
          unfold kindOf kd
          by_cases e : r0 = sTrue
          · rw [if_pos e, if_pos (by simpa using e)]
          · rw [if_neg e, if_neg (by simpa using e)]
        unfold goQ at hr
        rw [hk, rowsQ_eq h hF (r0 == sTrue) rs [] 1 (by simp) (by simp) (by simp)] at hr
        cases hrr : rowsR F (r0 == sTrue) [] 1 rs with
        | inr i => rw [hrr] at hr; cases hr
        | inl s2 =>
          rw [hrr] at hr
          dsimp only at hr
          split at hr
          · next hc =>
            injection hr with hr
            injection hr with e1 e2
            subst e2
            have hg := good_rows hF (r0 == sTrue) rs [] 1 _ (by simp) hrr
            have hmem : ∀ s ∈ ss, s.lits ∈ litsL ss := fun s hs => List.mem_map_of_mem hs
            refine ⟨⟨ht, fun s hs => ⟨hb.bits s hs, fun t v hv => ?_⟩, fun s hs v a b => (hg _ (hmem s hs)).apart v a b⟩, hc.2, r0 == sTrue, twoR rs, ?_, e1.symm⟩
            · rw [← h.order]
              refine (hg _ (hmem s hs)).vars v ?_
              cases t with
              | true => exact Or.inl hv
              | false => exact Or.inr hv
            · unfold provesR
              rw [if_neg hl, hrows]
              dsimp only
              rw [if_pos hr0, hrr]
              dsimp only
              rw [if_pos ⟨by simpa using hc.1, hc.2⟩]
          · cases hr
      · rw [if_neg hr0] at hr; cases hr
end Go.Proofs.YtgipjjhkhfihpaaGreatDoor
