import Derived.Test.YtgipjjhkhfihpaaGreatDoorAD
import Derived.Test.YtgipjjhkhfihpaaGreatDoorAB
import Derived.Test.YtgipjjhkhfihpaaGreatDoorAC
namespace Go.Proofs.YtgipjjhkhfihpaaGreatDoor
open Go.RowKit

/-! ### reduced -/
theorem shr_bit_zero (a v : Nat) (ha : a < 512) (hv : v ≤ 8) : (bits .and .i64 ((a : Int) / 2 ^ v) 1 == 0) = !a.testBit v := by
  rw [shr_bit a v ha hv]; cases a.testBit v <;> rfl
theorem new_at {w : World} {o : Obj} {n : Nat} (h : n = w.heap.size) : (w.alloc o).heap[n]? = some o := by subst h; exact heap_alloc_new w o
theorem less_bit (a v : Nat) (ha : a < 512) (hv : v ≤ 8) : bits .andNot .i64 (a : Int) (wrap64 (2 ^ v)) = ((less a (2 ^ v) : Nat) : Int) := by
  have h := shl_one (v : Int) (by omega) (by omega)
  rw [Int.toNat_natCast] at h
  have hp := pow_bd v hv
  rw [h]
  exact i64_andNot _ _ (by omega) (by omega)
theorem lastTo_succ (order : List Nat) (kind : Nat) (c : Nat × Nat) (k v : Nat) (h : k < order.length) (hv : order[k] = v) : lastTo order kind c (k + 1) = if hasB c v && !kind.testBit v then k + 1 else lastTo order kind c k := by
  rw [lastTo]
  have : order.getD k 0 = v := by rw [List.getD, List.getElem?_eq_getElem h, hv]; rfl
  rw [this]
theorem lastTo_bound (order : List Nat) (kind : Nat) (c : Nat × Nat) (k : Nat) : lastTo order kind c k ≤ k := by
  induction k with
  | zero => exact Nat.le_refl _
  | succ k ih => rw [lastTo]; split <;> omega
def redTo (order : List Nat) (kind m : Nat) (c : Nat × Nat) (j : Nat) : Nat × Nat := ((order.drop m).take j).foldl (clr kind) c
theorem redTo_succ (order : List Nat) (kind m : Nat) (c : Nat × Nat) (j v : Nat) (h : m + j < order.length) (hv : order[m + j] = v) : redTo order kind m c (j + 1) = clr kind (redTo order kind m c j) v := by
  unfold redTo
  have hj : j < (order.drop m).length := by simp; omega
  rw [List.take_succ_eq_append_getElem hj, List.foldl_append, List.getElem_drop, hv]; rfl
theorem redTo_bd (order : List Nat) (kind m : Nat) (c : Nat × Nat) (j : Nat) (h : Bd c) : Bd (redTo order kind m c j) := clrs_bd kind _ c h
theorem redTo_end (order : List Nat) (kind : Nat) (c : Nat × Nat) (j : Nat) (h : lastTo order kind c order.length + j = order.length) : redTo order kind (lastTo order kind c order.length) c j = redR order kind c := by
  unfold redTo redR
  rw [List.take_of_length_le (by simp; omega)]

set_option maxRecDepth 100000 in
set_option maxHeartbeats 3200000 in
theorem reduced_any (lo b p0 n0 kind : Nat) (F : Form) (w : World) (hR : RefAt lo w b F) (hl : F.order.length ≤ 8) (hnm : ∀ v ∈ F.order, v ≤ 8) (hk : kind < 512) (hp0 : p0 < 512) (hn0 : n0 < 512) :
    Calls Tryz.prog 107 #[.pointer (some ⟨b, 0, none⟩), .agg #[.int .i64 (p0 : Int), .int .i64 (n0 : Int)], .int .i64 kind] w fun e w' =>
      e = .returned (.agg #[.int .i64 ((redR F.order kind (p0, n0)).1 : Int), .int .i64 ((redR F.order kind (p0, n0)).2 : Int)]) ∧ Below w.heap.size w w' := by
  obtain ⟨_, vO, vE, vC, hfb, hO, _, _⟩ := hR
  obtain ⟨aO, cO, rfl⟩ := own_form hO
  have hbw := blk_lt hfb
  have k0 : w.cell? ⟨b, 0, none⟩ = some (.slice aO F.order.length cO) := by rw [blk_cell hfb]; rfl
  have HNM := hide hnm; clear hnm
  have hor : bits .or .i64 (p0 : Int) (n0 : Int) = ((p0 ||| n0 : Nat) : Int) := i64_or _ _ (by omega) (by omega)
  have hol := or_lt p0 n0 hp0 hn0
  go_enter Tryz.func107, Tryz.ntmps107
  go_wp2_with fail
  go_loopg [7, 8] F.order.length (fun m la i wx => ∃ k : Nat, i = .int .i64 k ∧ la = .int .i64 ((lastTo F.order kind (p0, n0) k : Int) - 1) ∧ k + m = F.order.length ∧ Below w.heap.size w wx ∧ wx.heap[w.heap.size]? = some (.cells #[.int .i64 p0, .int .i64 n0] 121 (0, 0)) ∧ wx.heap[w.heap.size + 1]? = some (.cells #[.int .i64 0, .int .i64 0] 121 (0, 0)))
  case atStart => exact ⟨0, rfl, rfl, by omega, ((Below.refl _ _).alloc (Nat.le_refl _) _).alloc (by simp) _, by rw [heap_alloc_old _ _ (by simp)]; exact heap_alloc_new _ _, new_at (by simp)⟩
  case round =>
    obtain ⟨k, rfl, rfl, hkm, hb, hc, hr⟩ := hrel
    have hbs := blk_lt hr
    have c0 : wr.cell? ⟨w.heap.size, 0, none⟩ = some (.int .i64 p0) := by rw [blk_cell hc]; rfl
    have c1 : wr.cell? ⟨w.heap.size, 1, none⟩ = some (.int .i64 n0) := by rw [blk_cell hc]; rfl
    have x0 : wr.cell? ⟨b, 0, none⟩ = some (.slice aO F.order.length cO) := by rw [hb.cell (p := ⟨b, 0, none⟩) hbw]; exact k0
    have hlb := lastTo_bound F.order kind (p0, n0) k
    by_cases hlt : k < F.order.length
    · obtain ⟨g, cap, hV, hg, hg', _, hcell⟩ := own_pos hO (by omega)
      injection hV with hV _ hV2
      subst hV hV2
      have hx : wr.cell? ⟨g, k, none⟩ = some (.int .i64 (F.order[k] : Int)) := by rw [hb.cell (p := ⟨g, k, none⟩) hg']; exact hcell _ _ (ints_at _ _ hlt)
      have hv8 := unhide HNM _ (List.getElem_mem hlt)
      have HS := hide (lastTo_succ F.order kind (p0, n0) k F.order[k] hlt rfl)
      clear hcell
      generalize F.order[k] = v at *
      generalize lastTo F.order kind (p0, n0) k = la at *
      have e1 := shr_bit_eq (p0 ||| n0) v hol hv8
      have e2 := shr_bit_zero kind v hk hv8
      have HB : Hid (hasB (p0, n0) v = (p0 ||| n0).testBit v) := hide rfl
      cases h1 : (p0 ||| n0).testBit v with
      | false =>
        rw [h1] at e1
        have HL : Hid (lastTo F.order kind (p0, n0) (k + 1) = la) := hide (by rw [unhide HS, unhide HB, h1]; rfl)
        go_wp2_with fail
        go_roundg (gk - 1)
        case measure => omega
        case rel => exact ⟨k + 1, by go_num, by rw [unhide HL], by omega, hb, hc, hr⟩
      | true =>
        rw [h1] at e1
        cases h2 : kind.testBit v with
        | false =>
          rw [h2] at e2
          have HL : Hid (lastTo F.order kind (p0, n0) (k + 1) = k + 1) := hide (by rw [unhide HS, unhide HB, h1, h2]; rfl)
          go_wp2_with fail
          go_roundg (gk - 1)
          case measure => omega
          case rel => exact ⟨k + 1, by go_num, by rw [unhide HL]; exact congrArg (Value.int .i64) (by omega), by omega, hb, hc, hr⟩
        | true =>
          rw [h2] at e2
          have HL : Hid (lastTo F.order kind (p0, n0) (k + 1) = la) := hide (by rw [unhide HS, unhide HB, h1, h2]; rfl)
          go_wp2_with fail
          go_roundg (gk - 1)
          case measure => omega
          case rel => exact ⟨k + 1, by go_num, by rw [unhide HL], by omega, hb, hc, hr⟩
    · have hkl : k = F.order.length := by omega
      subst hkl
      have HE := hide (redTo_end F.order kind (p0, n0))
      have HT := hide (redTo_succ F.order kind (lastTo F.order kind (p0, n0) F.order.length) (p0, n0))
      have HBD := hide (fun j => redTo_bd F.order kind (lastTo F.order kind (p0, n0) F.order.length) (p0, n0) j ⟨hp0, hn0⟩)
      have HR0 : Hid (redTo F.order kind (lastTo F.order kind (p0, n0) F.order.length) (p0, n0) 0 = (p0, n0)) := hide rfl
      generalize lastTo F.order kind (p0, n0) F.order.length = m at *
      obtain ⟨wo, rfl⟩ : ∃ wo, wo = wr := ⟨_, rfl⟩
      go_wp2_with fail
      go_loopg [10] F.order.length (fun q i wx => ∃ (j p n : Nat), i = .int .i64 ((m + j : Nat) : Int) ∧ m + j + q = F.order.length + m ∧ m + j ≤ F.order.length ∧ redTo F.order kind m (p0, n0) j = (p, n) ∧ Below w.heap.size w wx ∧ wx.heap[w.heap.size]? = some (.cells #[.int .i64 p, .int .i64 n] 121 (0, 0)) ∧ wx.heap[w.heap.size + 1]? = some (.cells #[.int .i64 0, .int .i64 0] 121 (0, 0)))
      case atStart => exact ⟨0, p0, n0, by go_num, by omega, by omega, unhide HR0, hb, hc, hr⟩
      case round =>
        obtain ⟨j, p, n, rfl, hjq, hjl, hred, hb2, hc2, hr2⟩ := hrel
        have hbd := unhide HBD j
        rw [hred] at hbd
        have HRED := hide hred
        clear hred
        have hbs2 := blk_lt hr2
        have hbs3 : w.heap.size < wr.heap.size := by omega
        have c20 : wr.cell? ⟨w.heap.size, 0, none⟩ = some (.int .i64 p) := by rw [blk_cell hc2]; rfl
        have c21 : wr.cell? ⟨w.heap.size, 1, none⟩ = some (.int .i64 n) := by rw [blk_cell hc2]; rfl
        have r20 : wr.cell? ⟨w.heap.size + 1, 0, none⟩ = some (.int .i64 0) := by rw [blk_cell hr2]; rfl
        have r21 : wr.cell? ⟨w.heap.size + 1, 1, none⟩ = some (.int .i64 0) := by rw [blk_cell hr2]; rfl
        have z0 := blk_free hc2 0
        have z1 := blk_free hc2 1
        have y0 := blk_free hr2 0
        have y1 := blk_free hr2 1
        have x20 : wr.cell? ⟨b, 0, none⟩ = some (.slice aO F.order.length cO) := by rw [hb2.cell (p := ⟨b, 0, none⟩) hbw]; exact k0
        have hp9 : p < 512 := hbd.1
        have hn9 : n < 512 := hbd.2
        clear hbd
        by_cases hlt2 : m + j < F.order.length
        · obtain ⟨g, cap, hV, hg, hg', _, hcell⟩ := own_pos hO (by omega)
          injection hV with hV _ hV2
          subst hV hV2
          have hx : wr.cell? ⟨g, m + j, none⟩ = some (.int .i64 (F.order[m + j] : Int)) := by rw [hb2.cell (p := ⟨g, m + j, none⟩) hg']; exact hcell _ _ (ints_at _ _ hlt2)
          have hv8 := unhide HNM _ (List.getElem_mem hlt2)
          have HS := hide (unhide HT j F.order[m + j] hlt2 rfl)
          clear hcell
          generalize F.order[m + j] = v at *
          have e2 := shr_bit_eq kind v hk hv8
          have l1 := less_bit p v hp9 hv8
          have l2 := less_bit n v hn9 hv8
          cases h2 : kind.testBit v with
          | false =>
            rw [h2] at e2
            have HL : Hid (redTo F.order kind m (p0, n0) (j + 1) = (p, n)) := hide (by rw [unhide HS, unhide HRED]; unfold clr; rw [h2]; rfl)
            go_wp2_with fail
            go_roundg (gk - 1)
            case measure => omega
            case rel => exact ⟨j + 1, p, n, by go_num, by omega, by omega, unhide HL, hb2, hc2, hr2⟩
          | true =>
            rw [h2] at e2
            have HL : Hid (redTo F.order kind m (p0, n0) (j + 1) = (less p (2 ^ v), less n (2 ^ v))) := hide (by rw [unhide HS, unhide HRED]; unfold clr; rw [h2]; rfl)
            go_wp2_with fail
            go_region
            all_goals go_wp2_with fail
            all_goals go_region
            all_goals go_wp2_with fail
            go_roundg (gk - 1)
            case measure => omega
            case rel =>
              refine ⟨j + 1, less p (2 ^ v), less n (2 ^ v), by go_num, by omega, by omega, unhide HL, (((hb2.setCell (p := ⟨w.heap.size, 0, none⟩) (Nat.le_refl _) _).setCell (p := ⟨w.heap.size, 1, none⟩) (Nat.le_refl _) _).drew).drew, blk_set (blk_set hc2 0 _) 1 _, ?_⟩
              show ((wr.setCell ⟨w.heap.size, 0, none⟩ (.int .i64 (less p (2 ^ v) : Nat))).setCell ⟨w.heap.size, 1, none⟩ (.int .i64 (less n (2 ^ v) : Nat))).heap[w.heap.size + 1]? = _
              rw [Below.heap_setCell _ _ _ _ (by simp), Below.heap_setCell _ _ _ _ (by simp)]
              exact hr2
        · have HF : Hid (redR F.order kind (p0, n0) = (p, n)) := hide (by rw [← unhide HE j (by omega)]; exact unhide HRED)
          have hR := blk_set (blk_set hr2 0 (.int .i64 p)) 1 (.int .i64 n)
          have j0 := blk_cell hR 0
          have j1 := blk_cell hR 1
          go_wp2_with fail
          refine bodyPost_ret (v := .agg #[.int .i64 p, .int .i64 n]) (by simp [results, Tryz.results107, go_sem, j0, j1]) rfl ⟨by rw [unhide HF], ?_⟩
          exact (hb2.setCell (p := ⟨w.heap.size + 1, 0, none⟩) (Nat.le_succ _) _).setCell (p := ⟨w.heap.size + 1, 1, none⟩) (Nat.le_succ _) _
end Go.Proofs.YtgipjjhkhfihpaaGreatDoor

namespace Go.Proofs.YtgipjjhkhfihpaaGreatDoor
open Go.RowKit

/-! ### cube -/
theorem satR_take (cl : List (Nat × Nat)) (c : Nat × Nat) (k : Nat) (h : k < cl.length) : satR (cl.take (k + 1)) c = (satR (cl.take k) c && !missed cl[k] c) := by
  unfold satR; rw [List.take_succ_eq_append_getElem h, List.all_append]; simp
theorem satR_of (cl : List (Nat × Nat)) (c : Nat × Nat) (k : Nat) (h : k < cl.length) (hc : missed cl[k] c = true) : satR cl c = false := by
  unfold satR; rw [List.all_eq_false]; exact ⟨cl[k], List.getElem_mem h, by rw [hc]; decide⟩
/-- A clause, or that it is none; c is whatever. -/
def RStPost (res : Option (Nat × Nat)) (w : World) (e : Ending) (w' : World) : Prop :=
  Below w.heap.size w w' ∧ ∃ (c : Nat × Nat) (ok : Bool), e = .returned (.tuple #[.agg #[.int .i64 (c.1 : Int), .int .i64 (c.2 : Int)], .bool ok]) ∧ ((ok = true ∧ res = some c) ∨ (ok = false ∧ res = none))
theorem RStPost.none_ {res : Option (Nat × Nat)} {w w' : World} {e : Ending} (hb : Below w.heap.size w w') (h : res = none) (c : Nat × Nat) (he : e = .returned (.tuple #[.agg #[.int .i64 (c.1 : Int), .int .i64 (c.2 : Int)], .bool false])) : RStPost res w e w' :=
  ⟨hb, c, false, he, Or.inr ⟨rfl, h⟩⟩
theorem RStPost.some_ {res : Option (Nat × Nat)} {w w' : World} {e : Ending} (hb : Below w.heap.size w w') (c : Nat × Nat) (h : res = some c) (he : e = .returned (.tuple #[.agg #[.int .i64 (c.1 : Int), .int .i64 (c.2 : Int)], .bool true])) : RStPost res w e w' :=
  ⟨hb, c, true, he, Or.inl ⟨rfl, h⟩⟩
/-- What holds of a formula that was read, for the walks. -/
structure FW (F : Form) : Prop where
  len : F.order.length ≤ 8
  names : ∀ v ∈ F.order, v ≤ 8
  cl : F.cl.length ≤ 24
  bits : ∀ c ∈ F.cl, c.1 < 512 ∧ c.2 < 512
  all : F.all < 512

theorem lit_var (c : Nat × Nat) (x : List UInt8) : (litInto c x).2 = true → litVar x = if dig x = 0 then (dig x.tail).toNat else (dig x).toNat := fun _ => rfl
theorem dig_tail (c : Nat × Nat) (x : List UInt8) : (litInto c x).2 = true → dig x = 0 → ∃ r, x = 45 :: r ∧ 0 < dig r := by
  intro h h0
  unfold litInto at h
  split at h
  · next r => exact ⟨r, rfl, of_decide_eq_true h⟩
  · have : 0 < dig x := of_decide_eq_true h
    omega

set_option maxRecDepth 100000 in
set_option maxHeartbeats 3200000 in
theorem cube_any (lo b : Nat) (F : Form) (ws : List (List UInt8)) (ao : Option Addr) (cap : Nat) (w : World) (hR : RefAt lo w b F) (hF : FW F) (hs : StrsAt w ao ws) (hl : ws.length ≤ 1048576) (hws : ∀ x ∈ ws, x.length ≤ 1048576) :
    Calls Tryz.prog 106 #[.pointer (some ⟨b, 0, none⟩), .slice ao ws.length cap] w fun e w' => RStPost (cubeR F ws) w e w' := by
  have hR0 := hR
  obtain ⟨_, vO, vE, vC, hfb, _, _, hC⟩ := hR
  obtain ⟨aC, cC, rfl⟩ := own_form hC
  have hbw := blk_lt hfb
  have k3 : w.cell? ⟨b, 3, none⟩ = some (.slice aC F.cl.length cC) := by rw [blk_cell hfb]; rfl
  have HWS := hide hws; clear hws
  have HSP : Hid (cubeR F ws = (cubeTo F.order (0, 0) 0 ws).bind (fun c => if satR F.cl c then some c else none)) := hide rfl
  go_enter Tryz.func106, Tryz.ntmps106
  go_wp2_with fail
  go_loopg [7, 8] ws.length (fun m la i wx => ∃ (j p n last : Nat), i = .int .i64 j ∧ la = .int .i64 last ∧ j + m = ws.length ∧ p < 512 ∧ n < 512 ∧ last ≤ 8 ∧ cubeTo F.order (0, 0) 0 ws = cubeTo F.order (p, n) last (ws.drop j) ∧ Below w.heap.size w wx ∧
      wx.heap[w.heap.size]? = some (.cells #[.int .i64 0, .int .i64 0] 121 (0, 0)) ∧ wx.heap[w.heap.size + 1]? = some (.cells #[.int .i64 p, .int .i64 n] 121 (0, 0)))
  case atStart => exact ⟨0, 0, 0, 0, rfl, rfl, by omega, by omega, by omega, by omega, rfl, ((Below.refl _ _).alloc (Nat.le_refl _) _).alloc (by simp) _, by rw [heap_alloc_old _ _ (by simp)]; exact heap_alloc_new _ _, new_at (by simp)⟩
  case round =>
    obtain ⟨j, p, n, last, rfl, rfl, hj, hp, hn, hla, hto, hb, hres, hcub⟩ := hrel
    have hbs := blk_lt hcub
    have hbs0 : w.heap.size < wr.heap.size := by omega
    have hbw1 : b < wr.heap.size := by omega
    have r0 : wr.cell? ⟨w.heap.size, 0, none⟩ = some (.int .i64 0) := by rw [blk_cell hres]; rfl
    have r1 : wr.cell? ⟨w.heap.size, 1, none⟩ = some (.int .i64 0) := by rw [blk_cell hres]; rfl
    have z0 := blk_free hres 0
    have z1 := blk_free hres 1
    have c0 : wr.cell? ⟨w.heap.size + 1, 0, none⟩ = some (.int .i64 p) := by rw [blk_cell hcub]; rfl
    have c1 : wr.cell? ⟨w.heap.size + 1, 1, none⟩ = some (.int .i64 n) := by rw [blk_cell hcub]; rfl
    by_cases hlt : j < ws.length
    · obtain ⟨g, off, cur, rfl, hg, hcur⟩ := hs (by intro e; subst e; simp at hlt)
      have hgw := blk_lt hg
      have hgw1 : g < wr.heap.size := by omega
      have hcj : wr.cell? ⟨g, off + j, none⟩ = some (S ws[j]) := by
        rw [hb.cell (p := ⟨g, off + j, none⟩) hgw, blk_cell hg]; exact hcur j hlt
      have HCJ : Hid (∀ wx : World, Below w.heap.size w wx → wx.cell? ⟨g, off + j, none⟩ = some (S ws[j])) := hide (fun wx hx => by
        rw [hx.cell (p := ⟨g, off + j, none⟩) hgw, blk_cell hg]; exact hcur j hlt)
      have hwl := unhide HWS _ (List.getElem_mem hlt)
      rw [List.drop_eq_getElem_cons hlt, cubeTo] at hto
      have HTO := hide hto; clear hto hcur
      generalize ws[j] = x at *
      go_wp2_with fail
      refine (literal_any x (w.heap.size + 1) p n wr hcub hp hn).mono ?_
      rintro e w1 ⟨rfl, hcub1, ho1⟩
      have hlt2 := litInto_lt (p, n) x hp hn
      have HFO := hide (lit_var (p, n) x)
      have HDT := hide (dig_tail (p, n) x)
      have hB1 : Below w.heap.size w w1 := hb.trans (ho1.below hb.size (fun k hk h => by omega))
      have hres1 : w1.heap[w.heap.size]? = some (.cells #[.int .i64 0, .int .i64 0] 121 (0, 0)) := (ho1.block _ hbs0 (by omega)).trans hres
      have HX1 := hide (unhide HCJ w1 hB1)
      have hx1 := unhide HX1
      generalize (litInto (p, n) x).1 = c' at *
      obtain ⟨p', n'⟩ := c'
      dsimp only at *
      go_wp2_with fail
      refine (digit_any x w1).mono ?_
      rintro e w2 ⟨rfl, hb2⟩
      have hB2 : Below w.heap.size w w2 := hB1.trans (hb2.mono hB1.size)
      have hres2 := (hb2.block _ (blk_lt hres1)).trans hres1
      have hcub2 := (hb2.block _ (blk_lt hcub1)).trans hcub1
      have hx2 := unhide HCJ w2 hB2
      have r20 : w2.cell? ⟨w.heap.size, 0, none⟩ = some (.int .i64 0) := by rw [blk_cell hres2]; rfl
      have r21 : w2.cell? ⟨w.heap.size, 1, none⟩ = some (.int .i64 0) := by rw [blk_cell hres2]; rfl
      have z20 := blk_free hres2 0
      have z21 := blk_free hres2 1
      have c20 : w2.cell? ⟨w.heap.size + 1, 0, none⟩ = some (.int .i64 p') := by rw [blk_cell hcub2]; rfl
      have c21 : w2.cell? ⟨w.heap.size + 1, 1, none⟩ = some (.int .i64 n') := by rw [blk_cell hcub2]; rfl
      obtain ⟨d0, d1⟩ := dig_bd x
      obtain ⟨dn, hdn⟩ := Int.eq_ofNat_of_zero_le d0
      rw [hdn]
      have hdn8 : dn ≤ 8 := by omega
      have HDN := hide hdn
      clear hdn d0 d1
      cases hok : (litInto (p, n) x).2 with
      | false =>
        have HF : Hid (cubeR F ws = none) := hide (by rw [unhide HSP, unhide HTO, if_neg (fun h => by rw [hok] at h; cases h.1)]; rfl)
        go_wp2_with fail
        refine (place_any lo b dn F w2 (hR0.later hB2) hF.len).mono ?_
        rintro e w4 ⟨⟨pl, rfl, _⟩, hw4⟩
        subst hw4
        have hRm := blk_set (blk_set hres2 0 (.int .i64 p')) 1 (.int .i64 n')
        have jm0 := blk_cell hRm 0
        have jm1 := blk_cell hRm 1
        go_wp2_with fail
        refine bodyPost_ret (v := .tuple #[.agg #[.int .i64 p', .int .i64 n'], .bool false]) (by simp [results, Tryz.results106, go_sem, jm0, jm1]) rfl (RStPost.none_ ?_ (unhide HF) (p', n') rfl)
        exact (hB2.setCell (p := ⟨w.heap.size, 0, none⟩) (Nat.le_refl _) _).setCell (p := ⟨w.heap.size, 1, none⟩) (Nat.le_refl _) _
      | true =>
        have HOK := hide hok
        by_cases hdz : dn = 0
        · have hdb : ((dn : Int) == 0) = true := by rw [beq_iff_eq]; omega
          obtain ⟨r, hxr, hdr⟩ := unhide HDT hok (by rw [unhide HDN]; omega)
          have hxr2 : 1 ≤ x.length := by rw [hxr]; simp
          obtain ⟨f0, f1⟩ := dig_bd r
          obtain ⟨vn, hvn⟩ := Int.eq_ofNat_of_zero_le f0
          have hvn8 : vn ≤ 8 := by omega
          have HLV : Hid (litVar x = vn) := hide (by rw [unhide HFO hok, unhide HDN, if_pos (by omega), hxr]; show (dig r).toNat = vn; rw [hvn]; rfl)
          have HEX : Hid (List.take (x.length - 1) (List.drop 1 x) = r) := hide (by rw [hxr]; simp)
          have HVN := hide hvn
          clear hxr hdr hvn f0 f1 hok hdz
          go_wp2_with fail
          rw [ba_extract, unhide HEX]
          refine (digit_any r w2).mono ?_
          rintro e w3 ⟨rfl, hb3⟩
          rw [unhide HVN]
          have hB3 : Below w.heap.size w w3 := hB2.trans (hb3.mono hB2.size)
          have hres3 := (hb3.block _ (blk_lt hres2)).trans hres2
          have hcub3 := (hb3.block _ (blk_lt hcub2)).trans hcub2
          have r30 : w3.cell? ⟨w.heap.size, 0, none⟩ = some (.int .i64 0) := by rw [blk_cell hres3]; rfl
          have r31 : w3.cell? ⟨w.heap.size, 1, none⟩ = some (.int .i64 0) := by rw [blk_cell hres3]; rfl
          have z30 := blk_free hres3 0
          have z31 := blk_free hres3 1
          have c30 : w3.cell? ⟨w.heap.size + 1, 0, none⟩ = some (.int .i64 p') := by rw [blk_cell hcub3]; rfl
          have c31 : w3.cell? ⟨w.heap.size + 1, 1, none⟩ = some (.int .i64 n') := by rw [blk_cell hcub3]; rfl
          have HIF : Hid (cubeTo F.order (0, 0) 0 ws = if last < vn ∧ vn ∈ F.order then cubeTo F.order (p', n') vn (ws.drop (j + 1)) else none) := hide (by
            rw [unhide HTO, unhide HLV]
            by_cases hcnd : last < vn ∧ vn ∈ F.order
            · rw [if_pos ⟨unhide HOK, hcnd.1, hcnd.2⟩, if_pos hcnd]
            · rw [if_neg (fun h => hcnd h.2), if_neg hcnd])
          go_wp2_with fail
          refine (place_any lo b vn F w3 (hR0.later hB3) hF.len).mono ?_
          rintro e w4 ⟨⟨pl, rfl, hpl⟩, hw4⟩
          subst hw4
          by_cases hle : vn ≤ last
          · have hdl : decide (vn ≤ last) = true := by simp; omega
            have HF : Hid (cubeR F ws = none) := hide (by rw [unhide HSP, unhide HIF, if_neg (by omega)]; rfl)
            clear hle
            have hRm := blk_set (blk_set hres3 0 (.int .i64 p')) 1 (.int .i64 n')
            have jm0 := blk_cell hRm 0
            have jm1 := blk_cell hRm 1
            go_wp2_with fail
            refine bodyPost_ret (v := .tuple #[.agg #[.int .i64 p', .int .i64 n'], .bool false]) (by simp [results, Tryz.results106, go_sem, jm0, jm1]) rfl (RStPost.none_ ?_ (unhide HF) (p', n') rfl)
            exact (hB3.setCell (p := ⟨w.heap.size, 0, none⟩) (Nat.le_refl _) _).setCell (p := ⟨w.heap.size, 1, none⟩) (Nat.le_refl _) _
          · have hdl : decide (vn ≤ last) = false := by simp; omega
            by_cases hmem : vn ∈ F.order
            · have hpl2 : decide (pl < 0) = false := by rw [hpl]; simp [hmem]
              have HF : Hid (cubeTo F.order (0, 0) 0 ws = cubeTo F.order (p', n') vn (ws.drop (j + 1))) := hide (by rw [unhide HIF, if_pos ⟨by omega, hmem⟩])
              clear hle hmem hpl
              go_wp2_with fail
              go_roundg (gk - 1)
              case measure => omega
              case rel => exact ⟨j + 1, p', n', vn, by go_num, rfl, by omega, hlt2.1, hlt2.2, by omega, unhide HF, hB3, hres3, hcub3⟩
            · have hpl2 : decide (pl < 0) = true := by rw [hpl]; simp [hmem]
              have HF : Hid (cubeR F ws = none) := hide (by rw [unhide HSP, unhide HIF, if_neg (fun h => hmem h.2)]; rfl)
              clear hle hmem hpl
              have hRm := blk_set (blk_set hres3 0 (.int .i64 p')) 1 (.int .i64 n')
              have jm0 := blk_cell hRm 0
              have jm1 := blk_cell hRm 1
              go_wp2_with fail
              refine bodyPost_ret (v := .tuple #[.agg #[.int .i64 p', .int .i64 n'], .bool false]) (by simp [results, Tryz.results106, go_sem, jm0, jm1]) rfl (RStPost.none_ ?_ (unhide HF) (p', n') rfl)
              exact (hB3.setCell (p := ⟨w.heap.size, 0, none⟩) (Nat.le_refl _) _).setCell (p := ⟨w.heap.size, 1, none⟩) (Nat.le_refl _) _
        · have hdb : ((dn : Int) == 0) = false := by rw [beq_eq_false_iff_ne]; omega
          have HLV : Hid (litVar x = dn) := hide (by rw [unhide HFO hok, unhide HDN, if_neg (by omega)]; rfl)
          clear hok hdz
          have HIF : Hid (cubeTo F.order (0, 0) 0 ws = if last < dn ∧ dn ∈ F.order then cubeTo F.order (p', n') dn (ws.drop (j + 1)) else none) := hide (by
            rw [unhide HTO, unhide HLV]
            by_cases hcnd : last < dn ∧ dn ∈ F.order
            · rw [if_pos ⟨unhide HOK, hcnd.1, hcnd.2⟩, if_pos hcnd]
            · rw [if_neg (fun h => hcnd h.2), if_neg hcnd])
          go_wp2_with fail
          refine (place_any lo b dn F w2 (hR0.later hB2) hF.len).mono ?_
          rintro e w4 ⟨⟨pl, rfl, hpl⟩, hw4⟩
          subst hw4
          by_cases hle : dn ≤ last
          · have hdl : decide (dn ≤ last) = true := by simp; omega
            have HF : Hid (cubeR F ws = none) := hide (by rw [unhide HSP, unhide HIF, if_neg (by omega)]; rfl)
            clear hle
            have hRm := blk_set (blk_set hres2 0 (.int .i64 p')) 1 (.int .i64 n')
            have jm0 := blk_cell hRm 0
            have jm1 := blk_cell hRm 1
            go_wp2_with fail
            refine bodyPost_ret (v := .tuple #[.agg #[.int .i64 p', .int .i64 n'], .bool false]) (by simp [results, Tryz.results106, go_sem, jm0, jm1]) rfl (RStPost.none_ ?_ (unhide HF) (p', n') rfl)
            exact (hB2.setCell (p := ⟨w.heap.size, 0, none⟩) (Nat.le_refl _) _).setCell (p := ⟨w.heap.size, 1, none⟩) (Nat.le_refl _) _
          · have hdl : decide (dn ≤ last) = false := by simp; omega
            by_cases hmem : dn ∈ F.order
            · have hpl2 : decide (pl < 0) = false := by rw [hpl]; simp [hmem]
              have HF : Hid (cubeTo F.order (0, 0) 0 ws = cubeTo F.order (p', n') dn (ws.drop (j + 1))) := hide (by rw [unhide HIF, if_pos ⟨by omega, hmem⟩])
              clear hle hmem hpl
              go_wp2_with fail
              go_roundg (gk - 1)
              case measure => omega
              case rel => exact ⟨j + 1, p', n', dn, by go_num, rfl, by omega, hlt2.1, hlt2.2, by omega, unhide HF, hB2, hres2, hcub2⟩
            · have hpl2 : decide (pl < 0) = true := by rw [hpl]; simp [hmem]
              have HF : Hid (cubeR F ws = none) := hide (by rw [unhide HSP, unhide HIF, if_neg (fun h => hmem h.2)]; rfl)
              clear hle hmem hpl
              have hRm := blk_set (blk_set hres2 0 (.int .i64 p')) 1 (.int .i64 n')
              have jm0 := blk_cell hRm 0
              have jm1 := blk_cell hRm 1
              go_wp2_with fail
              refine bodyPost_ret (v := .tuple #[.agg #[.int .i64 p', .int .i64 n'], .bool false]) (by simp [results, Tryz.results106, go_sem, jm0, jm1]) rfl (RStPost.none_ ?_ (unhide HF) (p', n') rfl)
              exact (hB2.setCell (p := ⟨w.heap.size, 0, none⟩) (Nat.le_refl _) _).setCell (p := ⟨w.heap.size, 1, none⟩) (Nat.le_refl _) _
    · have hjl : j = ws.length := by omega
      subst hjl
      rw [List.drop_length] at hto
      have HTO : Hid (cubeR F ws = if satR F.cl (p, n) then some (p, n) else none) := hide (by rw [unhide HSP, hto]; rfl)
      clear hto
      have HBITS := hide hF.bits
      have hcl24 := hF.cl
      have x3 : wr.cell? ⟨b, 3, none⟩ = some (.slice aC F.cl.length cC) := by rw [hb.cell (p := ⟨b, 3, none⟩) hbw]; exact k3
      obtain ⟨wo, rfl⟩ : ∃ wo, wo = wr := ⟨_, rfl⟩
      go_wp2_with fail
      go_loopg [12] F.cl.length (fun q i wx => ∃ k : Nat, i = .int .i64 k ∧ k + q = F.cl.length ∧ satR (F.cl.take k) (p, n) = true ∧ Below w.heap.size w wx ∧
        wx.heap[w.heap.size]? = some (.cells #[.int .i64 0, .int .i64 0] 121 (0, 0)) ∧ wx.heap[w.heap.size + 1]? = some (.cells #[.int .i64 p, .int .i64 n] 121 (0, 0)))
      case atStart => exact ⟨0, rfl, by omega, rfl, hb, hres, hcub⟩
      case round =>
        obtain ⟨k, rfl, hk, hsat, hb2, hres2, hcub2⟩ := hrel
        have HSAT := hide hsat; clear hsat
        have hbs2 := blk_lt hcub2
        have hbs20 : w.heap.size < wr.heap.size := by omega
        have hbw2 : b < wr.heap.size := by omega
        have y3 : wr.cell? ⟨b, 3, none⟩ = some (.slice aC F.cl.length cC) := by rw [hb2.cell (p := ⟨b, 3, none⟩) hbw]; exact k3
        have r20 : wr.cell? ⟨w.heap.size, 0, none⟩ = some (.int .i64 0) := by rw [blk_cell hres2]; rfl
        have r21 : wr.cell? ⟨w.heap.size, 1, none⟩ = some (.int .i64 0) := by rw [blk_cell hres2]; rfl
        have z20 := blk_free hres2 0
        have z21 := blk_free hres2 1
        have c20 : wr.cell? ⟨w.heap.size + 1, 0, none⟩ = some (.int .i64 p) := by rw [blk_cell hcub2]; rfl
        have c21 : wr.cell? ⟨w.heap.size + 1, 1, none⟩ = some (.int .i64 n) := by rw [blk_cell hcub2]; rfl
        by_cases hlt2 : k < F.cl.length
        · obtain ⟨g, cap2, hV, hg, hg', _, hcell⟩ := own_pos hC (by omega)
          injection hV with hV _ hV2
          subst hV hV2
          have hgw : g < wr.heap.size := by omega
          obtain ⟨ha, hb'⟩ := pairs_at F.cl k hlt2
          have hx0 : wr.cell? ⟨g, k * 2, none⟩ = some (.int .i64 (F.cl[k].1 : Int)) := by rw [hb2.cell (p := ⟨g, k * 2, none⟩) hg']; exact hcell _ _ ha
          have hx1 : wr.cell? ⟨g, k * 2 + 1, none⟩ = some (.int .i64 (F.cl[k].2 : Int)) := by rw [hb2.cell (p := ⟨g, k * 2 + 1, none⟩) hg']; exact hcell _ _ hb'
          have HT := hide (satR_take F.cl (p, n) k hlt2)
          have HO := hide (satR_of F.cl (p, n) k hlt2)
          obtain ⟨hb1, hb2x⟩ := unhide HBITS _ (List.getElem_mem hlt2)
          clear hcell ha hb'
          generalize F.cl[k] = c at *
          obtain ⟨xp, xn⟩ := c
          dsimp only at hx0 hx1 hb1 hb2x
          have h1 : (bits .and .i64 (xp : Int) (xn : Int) == 0) = (xp &&& xn == 0) := by rw [i64_and _ _ (by omega) (by omega), nat_beq_zero]
          have h2 : (bits .and .i64 (xp : Int) (p : Int) == 0) = (xp &&& p == 0) := by rw [i64_and _ _ (by omega) (by omega), nat_beq_zero]
          have h3 : (bits .and .i64 (xn : Int) (n : Int) == 0) = (xn &&& n == 0) := by rw [i64_and _ _ (by omega) (by omega), nat_beq_zero]
          have HM : Hid (missed (xp, xn) (p, n) = ((xp &&& xn == 0) && ((xp &&& p == 0) && (xn &&& n == 0)))) := hide rfl
          have hA := hb2.alloc (Nat.le_of_lt hbs20) (.cells #[.int .i64 (xp : Int), .int .i64 (xn : Int)] 121)
          have hres3 := (heap_alloc_old wr (.cells #[.int .i64 (xp : Int), .int .i64 (xn : Int)] 121) hbs20).trans hres2
          have hcub3 := (heap_alloc_old wr (.cells #[.int .i64 (xp : Int), .int .i64 (xn : Int)] 121) hbs2).trans hcub2
          cases e1 : (xp &&& xn == 0) with
          | false =>
            rw [e1] at h1
            have HM1 : Hid (missed (xp, xn) (p, n) = false) := hide (by rw [unhide HM, e1]; rfl)
            clear e1
            go_wp2_with fail
            go_roundg (gk - 1)
            case measure => omega
            case rel => exact ⟨k + 1, by go_num, by omega, by rw [unhide HT, unhide HSAT, unhide HM1]; rfl, hA, hres3, hcub3⟩
          | true =>
            rw [e1] at h1
            cases e2 : (xp &&& p == 0) with
            | false =>
              rw [e2] at h2
              have HM1 : Hid (missed (xp, xn) (p, n) = false) := hide (by rw [unhide HM, e1, e2]; rfl)
              clear e1 e2
              go_wp2_with fail
              go_roundg (gk - 1)
              case measure => omega
              case rel => exact ⟨k + 1, by go_num, by omega, by rw [unhide HT, unhide HSAT, unhide HM1]; rfl, hA, hres3, hcub3⟩
            | true =>
              rw [e2] at h2
              cases e3 : (xn &&& n == 0) with
              | false =>
                rw [e3] at h3
                have HM1 : Hid (missed (xp, xn) (p, n) = false) := hide (by rw [unhide HM, e1, e2, e3]; rfl)
                clear e1 e2 e3
                go_wp2_with fail
                go_roundg (gk - 1)
                case measure => omega
                case rel => exact ⟨k + 1, by go_num, by omega, by rw [unhide HT, unhide HSAT, unhide HM1]; rfl, hA, hres3, hcub3⟩
              | true =>
                rw [e3] at h3
                have HF : Hid (cubeR F ws = none) := hide (by rw [unhide HTO, unhide HO (by rw [unhide HM, e1, e2, e3]; rfl)]; rfl)
                clear e1 e2 e3
                have hR := blk_set (blk_set hres2 0 (.int .i64 p)) 1 (.int .i64 n)
                have hR' := (heap_alloc_old _ (.cells #[.int .i64 (xp : Int), .int .i64 (xn : Int)] 121) (blk_lt hR)).trans hR
                have j0 := blk_cell hR' 0
                have j1 := blk_cell hR' 1
                go_wp2_with fail
                refine bodyPost_ret (v := .tuple #[.agg #[.int .i64 p, .int .i64 n], .bool false]) (by simp [results, Tryz.results106, go_sem, j0, j1]) rfl (RStPost.none_ ?_ (unhide HF) (p, n) rfl)
                exact ((hb2.setCell (p := ⟨w.heap.size, 0, none⟩) (Nat.le_refl _) _).setCell (p := ⟨w.heap.size, 1, none⟩) (Nat.le_refl _) _).alloc (by simp [World.setCell]; omega) _
        · have hkl : k = F.cl.length := by omega
          have HF : Hid (cubeR F ws = some (p, n)) := hide (by
            have := unhide HSAT
            rw [hkl, List.take_length] at this
            rw [unhide HTO, this]; rfl)
          have hR := blk_set (blk_set hres2 0 (.int .i64 p)) 1 (.int .i64 n)
          have j0 := blk_cell hR 0
          have j1 := blk_cell hR 1
          go_wp2_with fail
          refine bodyPost_ret (v := .tuple #[.agg #[.int .i64 p, .int .i64 n], .bool true]) (by simp [results, Tryz.results106, go_sem, j0, j1]) rfl (RStPost.some_ ?_ (p, n) (unhide HF) rfl)
          exact (hb2.setCell (p := ⟨w.heap.size, 0, none⟩) (Nat.le_refl _) _).setCell (p := ⟨w.heap.size, 1, none⟩) (Nat.le_refl _) _
end Go.Proofs.YtgipjjhkhfihpaaGreatDoor

namespace Go.Proofs.YtgipjjhkhfihpaaGreatDoor
open Go.RowKit

theorem okC_eq (x c : Nat × Nat) : okC x c = !missed x c := by
  unfold okC missed
  have e : ((x.1 &&& c.1) ||| (x.2 &&& c.2) != 0) = !((x.1 &&& c.1 == 0) && (x.2 &&& c.2 == 0)) := by
    have : (x.1 &&& c.1) ||| (x.2 &&& c.2) = 0 ↔ (x.1 &&& c.1 = 0 ∧ x.2 &&& c.2 = 0) := by
      constructor
      · intro h
        constructor
        · apply Nat.eq_of_testBit_eq; intro i
          have : ((x.1 &&& c.1) ||| (x.2 &&& c.2)).testBit i = false := by rw [h]; simp
          rw [Nat.testBit_or, Bool.or_eq_false_iff] at this
          rw [this.1]; simp
        · apply Nat.eq_of_testBit_eq; intro i
          have : ((x.1 &&& c.1) ||| (x.2 &&& c.2)).testBit i = false := by rw [h]; simp
          rw [Nat.testBit_or, Bool.or_eq_false_iff] at this
          rw [this.2]; simp
      · rintro ⟨h1, h2⟩; rw [h1, h2]; rfl
    rw [Bool.eq_iff_iff, bne_iff_ne, Bool.not_eq_true', Bool.and_eq_false_iff, beq_eq_false_iff_ne, beq_eq_false_iff_ne, ne_eq, this, Classical.not_and_iff_not_or_not]
  rw [e]
  cases h1 : (x.1 &&& x.2 == 0) <;> cases h2 : (x.1 &&& c.1 == 0) <;> cases h3 : (x.2 &&& c.2 == 0) <;> simp [bne, h1]
/-! ### Of formulas that were read -/
theorem allTo_small (st : RS) (h : ∀ v ∈ st.told, v ≤ 8) (k : Nat) : allTo st k < 512 := by
  unfold allTo
  have hz : ∀ x ∈ ((st.told.zip st.kinds).take k), x.1 ≤ 8 := fun x hx => h _ (List.of_mem_zip (List.mem_of_mem_take hx)).1
  suffices hh : ∀ (l : List (Nat × Bool)) (a : Nat), a < 512 → (∀ x ∈ l, x.1 ≤ 8) → l.foldl (fun a x => if x.2 then a ||| 2 ^ x.1 else a) a < 512 from hh _ 0 (by omega) hz
  intro l
  induction l with
  | nil => intro a ha _; exact ha
  | cons x l ih =>
    intro a ha hx
    rw [List.foldl_cons]
    apply ih
    · split
      · have := pow_bd x.1 (hx x (by simp))
        exact or_lt _ _ ha (by omega)
      · exact ha
    · exact fun y hy => hx y (by simp [hy])
theorem big_bit (a v : Nat) (h : a < 512) (hv : a.testBit v = true) : v ≤ 8 := by
  apply Classical.byContradiction
  intro hn
  have : a.testBit v = false := Nat.testBit_lt_two_pow (Nat.lt_of_lt_of_le (show a < 2 ^ 9 from h) (Nat.pow_le_pow_right (by omega) (by omega)))
  rw [this] at hv; cases hv
theorem fq_of {st : RS} {q0 : QS} (hs : Same st q0) (hn : QNice q0) (hc : q0.cl.length ≤ 24) : FQ (finish st) (qFinish q0) ∧ FOk (finish st) ∧ FW (finish st) := by
  have ho := order_eq hs
  have hna := names_all hn
  have hk := kinds_eq hs hn
  have hcl : (finish st).cl = q0.cl := hs.cl
  have hbits : ∀ c ∈ q0.cl, Bd c := hn.bits
  have hlen := vars_le hn
  have hv : ∀ c ∈ q0.cl, ∀ v, c.1.testBit v = true ∨ c.2.testBit v = true → v ∈ (finish st).order := by
    intro c hcm v hb
    have h8 : v ≤ 8 := by
      rcases hb with hb | hb
      · exact big_bit _ _ (hn.bits c hcm).1 hb
      · exact big_bit _ _ (hn.bits c hcm).2 hb
    have h1 : 1 ≤ v := by
      rcases Nat.eq_zero_or_pos v with e | e
      · subst e
        have := hn.bit0 c hcm
        rcases hb with hb | hb
        · rw [this.1] at hb; cases hb
        · rw [this.2] at hb; cases hb
      · exact e
    show v ∈ freeTo st 8 ++ st.told
    rw [List.mem_append]
    by_cases hsv : hasV q0.vars v = true
    · right
      rw [hs.told, List.mem_map]
      unfold hasV at hsv
      rw [List.any_eq_true] at hsv
      obtain ⟨x, hx, he⟩ := hsv
      exact ⟨x, hx, by simpa using he⟩
    · left
      rw [free_eq hs]
      unfold freeQ
      rw [List.mem_filter]
      refine ⟨List.mem_map.2 ⟨v - 1, by simp; omega, by omega⟩, ?_⟩
      rw [Bool.and_eq_true]
      refine ⟨by simpa using hsv, ?_⟩
      unfold inC
      rw [List.any_eq_true]
      refine ⟨c, hcm, ?_⟩
      rw [bitOf_nat v h1 h8, and_pow_ne, Nat.testBit_or, Bool.or_eq_true]
      exact hb
  have hnm : ∀ v ∈ (finish st).order, 1 ≤ v ∧ v ≤ 8 := by
    intro v hvv
    rw [ho, List.mem_map] at hvv
    obtain ⟨x, hx, rfl⟩ := hvv
    exact hna.2 x hx
  have htold : ∀ v ∈ st.told, v ≤ 8 := by
    intro v hvv
    rw [hs.told, List.mem_map] at hvv
    obtain ⟨x, hx, rfl⟩ := hvv
    exact (hn.names x hx).2
  refine ⟨⟨ho, hk, hna.1, hna.2, hcl, hc, hbits, hv⟩, ⟨by rw [ho]; exact hna.1, hnm, by rw [hcl]; exact hbits, by rw [hcl]; exact hv⟩, ⟨by rw [ho]; simpa using hlen, fun v h => (hnm v h).2, by rw [hcl]; exact hc, by rw [hcl]; exact hn.bits, allTo_small st htold _⟩⟩
theorem qb_of {q0 : QS} (hn : QNice q0) (hc : q0.cl.length ≤ 24) : QB (qFinish q0) := ⟨vars_le hn, hc, hn.bits, (names_all hn).2⟩
end Go.Proofs.YtgipjjhkhfihpaaGreatDoor

namespace Go.Proofs.YtgipjjhkhfihpaaGreatDoor
open Go.RowKit

/-! ### The formulas are those of the text -/
def FTxt (lo : Nat) (w : World) (text : List UInt8) (px pf : Option Addr) : Prop :=
  (px = none ∧ pf = none) ∨ ∃ b b' st q0, px = some ⟨b, 0, none⟩ ∧ pf = some ⟨b', 0, none⟩ ∧ ProgAt lo w b (qFinish q0) ∧ RefAt lo w b' (finish st) ∧ Same st q0 ∧ (q0.cl.length ≤ 24 ∧ QNice q0) ∧ loadSpec text = .inr (qFinish q0)
theorem FTxt.set {lo bw o : Nat} {w : World} {text : List UInt8} {px pf : Option Addr} {u : Value} (h : FTxt lo w text px pf) (hlt : bw < lo) : FTxt lo (w.setCell ⟨bw, o, none⟩ u) text px pf := by
  rcases h with h | ⟨b, b', st, q0, h1, h2, h3, h4, h5, h6, h7⟩
  · exact Or.inl h
  · exact Or.inr ⟨b, b', st, q0, h1, h2, h3.set hlt, h4.set hlt, h5, h6, h7⟩
theorem FTxt.only {lo : Nat} {w w' : World} {text : List UInt8} {px pf : Option Addr} {T : Nat → Prop} (h : FTxt lo w text px pf) (ho : Only T w w') (hT : ∀ k, k < w.heap.size → T k → Foreign lo w formTypes k) : FTxt lo w' text px pf := by
  rcases h with h | ⟨b, b', st, q0, h1, h2, h3, h4, h5, h6, h7⟩
  · exact Or.inl h
  · exact Or.inr ⟨b, b', st, q0, h1, h2, h3.only ho hT, h4.only ho hT, h5, h6, h7⟩
theorem FTxt.lo {lo lo' : Nat} {w : World} {text : List UInt8} {px pf : Option Addr} (h : FTxt lo w text px pf) (hl : lo' ≤ lo) : FTxt lo' w text px pf := by
  rcases h with h | ⟨b, b', st, q0, h1, h2, h3, h4, h5, h6, h7⟩
  · exact Or.inl h
  · exact Or.inr ⟨b, b', st, q0, h1, h2, h3.lo hl, h4.lo hl, h5, h6, h7⟩
def LoadsPostT (bw : Nat) (text proof : List UInt8) (c4 c5 c6 : Value) (w : World) (e : Ending) (w' : World) : Prop :=
  e = .returned (.bool true) ∧ Only (· = bw) w w' ∧ ∃ px pf, WAt w' bw text px pf proof c4 c5 c6 ∧ FTxt w.heap.size w' text px pf
set_option maxRecDepth 100000 in
set_option maxHeartbeats 1600000 in
theorem loads_txt (bw : Nat) (text : List UInt8) (px pf : Option Addr) (proof : List UInt8) (c4 c5 c6 : Value) (w : World) (hw : WAt w bw text px pf proof c4 c5 c6) :
    Calls Tryz.prog 27 #[.pointer (some ⟨bw, 0, none⟩)] w fun e w' => LoadsPostT bw text proof c4 c5 c6 w e w' := by
  have hbw : bw < w.heap.size := blk_lt hw
  have h0 : w.cell? ⟨bw, 0, none⟩ = some (S text) := by rw [blk_cell hw]; rfl
  go_enter Tryz.func27, Tryz.ntmps27
  go_wp2_with fail
  refine (load_any text w).mono ?_
  rintro e w1 ⟨hb1, hp1⟩
  have hw1 := hw.later hb1
  have h1 : w1.cell? ⟨bw, 0, none⟩ = some (S text) := by rw [blk_cell hw1]; rfl
  have hse := spec_eq text
  cases hq : loadSpec text with
  | inl a =>
    obtain ⟨x, i⟩ := a
    rw [hq] at hp1 hse
    have hp1' : e = .returned (.tuple #[.pointer none, .int .i64 (x : Int), .int .i64 (i : Int)]) := hp1
    subst hp1'
    have HSE : Hid (readSpec text = .inl (x, i)) := hide hse
    clear hse hq hp1
    go_wp2_with fail
    refine (read_all text w1).mono ?_
    rintro e w2 ⟨hb2, hp2⟩
    rw [unhide HSE] at hp2
    have hp2' : e = .returned (.tuple #[.pointer none, .int .i64 (x : Int), .int .i64 (i : Int)]) := hp2
    subst hp2'
    clear hp2
    have hw2 := hw1.later hb2
    have k1 : w2.cell? ⟨bw, 1, none⟩ = some (.pointer px) := by rw [blk_cell hw2]; rfl
    have k2 : w2.cell? ⟨bw, 2, none⟩ = some (.pointer pf) := by rw [blk_cell hw2]; rfl
    have z1 := blk_free hw2 1
    have z2 := blk_free hw2 2
    have hx : ((x : Int) != (x : Int)) = false := by simp
    have hi : ((i : Int) != (i : Int)) = false := by simp
    go_wp2_with fail
    go_ret
    refine ⟨rfl, (((Only.of_below (below_trans hb1 hb2)).setAt _ _).setAt _ _), none, none, ?_, Or.inl ⟨rfl, rfl⟩⟩
    exact blk_set (blk_set hw2 1 _) 2 _
  | inr q =>
    rw [hq] at hp1 hse
    obtain ⟨b, rfl, hP⟩ := hp1
    obtain ⟨st, q0, hse, hsame, rfl, h24⟩ := hse
    have HSE := hide hse
    have HLN := hide hq
    clear hse hq
    go_wp2_with fail
    refine (read_all text w1).mono ?_
    rintro e w2 ⟨hb2, hp2⟩
    rw [unhide HSE] at hp2
    obtain ⟨b', rfl, hR⟩ := hp2
    have hw2 := hw1.later hb2
    have hP2 := hP.later hb2
    have hR2 := hR.lo (lo' := w.heap.size) hb1.size
    have hFP : FTxt w.heap.size w2 text (some ⟨b, 0, none⟩) (some ⟨b', 0, none⟩) := Or.inr ⟨b, b', st, q0, rfl, rfl, hP2, hR2, hsame, h24, unhide HLN⟩
    have k1 : w2.cell? ⟨bw, 1, none⟩ = some (.pointer px) := by rw [blk_cell hw2]; rfl
    have k2 : w2.cell? ⟨bw, 2, none⟩ = some (.pointer pf) := by rw [blk_cell hw2]; rfl
    have z1 := blk_free hw2 1
    have z2 := blk_free hw2 2
    go_wp2_with fail
    go_ret
    refine ⟨rfl, (((((Only.of_below (below_trans hb1 hb2)).setAt _ _).setAt _ _).setAt _ _).setAt _ _), some ⟨b, 0, none⟩, some ⟨b', 0, none⟩, ?_, (((hFP.set hbw).set hbw).set hbw).set hbw⟩
    exact blk_set (blk_set (blk_set (blk_set hw2 1 _) 2 _) 1 _) 2 _
def StepPostT (bw : Nat) (text proof : List UInt8) (px pf : Option Addr) (o : OpV) (c4 c5 c6 : Value) (w : World) (e : Ending) (w' : World) : Prop :=
  e = .returned (.bool true) ∧ Only (· = bw) w w' ∧ ∃ text' px' pf' proof', WAt w' bw text' px' pf' proof' c4 c5 c6 ∧ text'.length ≤ text.length + o.s.length + 1 ∧ proof'.length ≤ proof.length + o.s.length + 1 ∧ ((text' = text ∧ px' = px ∧ pf' = pf) ∨ FTxt w.heap.size w' text' px' pf')
set_option maxRecDepth 100000 in
set_option maxHeartbeats 1600000 in
theorem step_textT (bw : Nat) (text : List UInt8) (px pf : Option Addr) (proof : List UInt8) (o : OpV) (c4 c5 c6 : Value) (w : World) (hw : WAt w bw text px pf proof c4 c5 c6) (hk : o.kind = 1) :
    Calls Tryz.prog 19 #[.pointer (some ⟨bw, 0, none⟩), .agg #[.int .i64 o.kind, .int .i64 o.a, .int .i64 o.b, .int .i64 o.c, S o.s, S o.t]] w fun e w' => StepPostT bw text proof px pf o c4 c5 c6 w e w' := by
  obtain ⟨kind, a, b, c, s, t⟩ := o
  dsimp only at hk ⊢
  subst hk
  have hbw : bw < w.heap.size := blk_lt hw
  have h0 : w.cell? ⟨bw, 0, none⟩ = some (S text) := by rw [blk_cell hw]; rfl
  have z0 := blk_free hw 0
  go_enter Tryz.func19, Tryz.ntmps19
  go_wp2_with fail
  have hw1 : WAt (w.setCell ⟨bw, 0, none⟩ (S s)) bw s px pf proof c4 c5 c6 := blk_set hw 0 _
  refine (loads_txt bw s px pf proof c4 c5 c6 _ (hw1.later ((Below.refl _ _).alloc (Nat.le_refl _) _))).mono ?_
  rintro e w2 ⟨rfl, ho, px', pf', hw2, hF2⟩
  go_wp2_with fail
  go_ret
  refine ⟨rfl, ?_, s, px', pf', proof, hw2, by simp; omega, by simp; omega, Or.inr (hF2.lo (by simp))⟩
  exact (((Only.refl _ w).setAt 0 (S s)).alloc _).trans (ho.mono (fun k _ h => h))
set_option maxRecDepth 100000 in
set_option maxHeartbeats 1600000 in
theorem step_lineT (bw : Nat) (text : List UInt8) (px pf : Option Addr) (proof : List UInt8) (o : OpV) (c4 c5 c6 : Value) (w : World) (hw : WAt w bw text px pf proof c4 c5 c6) (hk : o.kind = 2) (htl : text.length ≤ 1048576) (hsl : o.s.length ≤ 1048576) :
    Calls Tryz.prog 19 #[.pointer (some ⟨bw, 0, none⟩), .agg #[.int .i64 o.kind, .int .i64 o.a, .int .i64 o.b, .int .i64 o.c, S o.s, S o.t]] w fun e w' => StepPostT bw text proof px pf o c4 c5 c6 w e w' := by
  obtain ⟨kind, a, b, c, s, t⟩ := o
  dsimp only at hk hsl ⊢
  subst hk
  have hbw : bw < w.heap.size := blk_lt hw
  have h0 : w.cell? ⟨bw, 0, none⟩ = some (S text) := by rw [blk_cell hw]; rfl
  have z0 := blk_free hw 0
  have HE : Hid (ByteArray.mk text.toArray ++ ByteArray.mk s.toArray ++ ⟨#[10]⟩ = ⟨(text ++ s ++ [10]).toArray⟩) := hide (by
    rw [ba_append text s]; exact ba_append (text ++ s) [10])
  go_enter Tryz.func19, Tryz.ntmps19
  go_wp2_with fail
  go_region
  all_goals go_wp2_with fail
  have hw1 : WAt (w.setCell ⟨bw, 0, none⟩ (S (text ++ s ++ [10]))) bw (text ++ s ++ [10]) px pf proof c4 c5 c6 := blk_set hw 0 _
  all_goals
    rw [unhide HE]
    refine (loads_txt bw (text ++ s ++ [10]) px pf proof c4 c5 c6 _ (hw1.later (((Below.refl _ _).alloc (Nat.le_refl _) _).drew))).mono ?_
    rintro e w2 ⟨rfl, ho, px', pf', hw2, hF2⟩
    go_wp2_with fail
    go_ret
    refine ⟨rfl, ?_, _, px', pf', proof, hw2, by simp; omega, by simp; omega, Or.inr (hF2.lo (by simp))⟩
    exact ((((Only.refl _ w).setAt 0 (S (text ++ s ++ [10]))).alloc _).drew).trans (ho.mono (fun k _ h => h))
set_option maxRecDepth 100000 in
set_option maxHeartbeats 1600000 in
theorem step_proofT (bw : Nat) (text : List UInt8) (px pf : Option Addr) (proof : List UInt8) (o : OpV) (c4 c5 c6 : Value) (w : World) (hw : WAt w bw text px pf proof c4 c5 c6) (hk : o.kind = 4) :
    Calls Tryz.prog 19 #[.pointer (some ⟨bw, 0, none⟩), .agg #[.int .i64 o.kind, .int .i64 o.a, .int .i64 o.b, .int .i64 o.c, S o.s, S o.t]] w fun e w' => StepPostT bw text proof px pf o c4 c5 c6 w e w' := by
  obtain ⟨kind, a, b, c, s, t⟩ := o
  dsimp only at hk ⊢
  subst hk
  have hbw : bw < w.heap.size := blk_lt hw
  have h3 : w.cell? ⟨bw, 3, none⟩ = some (S proof) := by rw [blk_cell hw]; rfl
  have z3 := blk_free hw 3
  go_enter Tryz.func19, Tryz.ntmps19
  go_wp2_with fail
  go_ret
  have ho := ((Only.refl (· = bw) w).setAt 3 (S s)).alloc (.cells #[.int .i64 4, .int .i64 a, .int .i64 b, .int .i64 c, S s, S t] 29)
  refine ⟨rfl, ho, text, px, pf, s, (hw.setProof s).later ((Below.refl _ _).alloc (Nat.le_refl _) _), by simp; omega, by simp; omega, Or.inl ⟨rfl, rfl, rfl⟩⟩
set_option maxRecDepth 100000 in
set_option maxHeartbeats 1600000 in
theorem step_bendT (bw : Nat) (text : List UInt8) (px pf : Option Addr) (proof : List UInt8) (o : OpV) (c4 c5 c6 : Value) (w : World) (hw : WAt w bw text px pf proof c4 c5 c6) (hk : o.kind = 5) (hok : o.Ok) (hpl : proof.length ≤ 1048576) :
    Calls Tryz.prog 19 #[.pointer (some ⟨bw, 0, none⟩), .agg #[.int .i64 o.kind, .int .i64 o.a, .int .i64 o.b, .int .i64 o.c, S o.s, S o.t]] w fun e w' => StepPostT bw text proof px pf o c4 c5 c6 w e w' := by
  obtain ⟨kind, a, b, c, s, t⟩ := o
  obtain ⟨_, ⟨ha1, ha2⟩, _, ⟨hc1, hc2⟩⟩ := hok
  dsimp only at hk ha1 ha2 hc1 hc2 ⊢
  subst hk
  have hbw : bw < w.heap.size := blk_lt hw
  go_enter Tryz.func19, Tryz.ntmps19
  go_wp2_with fail
  refine (bend_any bw text px pf proof c4 c5 c6 a c _ (hw.later ((Below.refl _ _).alloc (Nat.le_refl _) _)) hpl ha1 ha2 hc1 hc2).mono ?_
  rintro e w2 ⟨rfl, ho, proof', hpl', hw2⟩
  go_wp2_with fail
  go_ret
  have ho3 := ((Only.refl (· = bw) w).alloc (.cells #[.int .i64 5, .int .i64 a, .int .i64 b, .int .i64 c, S s, S t] 29)).trans ho
  exact ⟨rfl, ho3, text, px, pf, proof', hw2, by simp; omega, by simp; omega, Or.inl ⟨rfl, rfl, rfl⟩⟩
theorem step_baseT0 (bw : Nat) (text : List UInt8) (px pf : Option Addr) (proof : List UInt8) (o : OpV) (c4 c5 c6 : Value) (w : World) (hw : WAt w bw text px pf proof c4 c5 c6) (hk : base4 o.kind = true)
    (hok : o.Ok) (hpl : proof.length ≤ 1048576) (htl : text.length ≤ 1048576) (hsl : o.s.length ≤ 1048576) :
    Calls Tryz.prog 19 #[.pointer (some ⟨bw, 0, none⟩), .agg #[.int .i64 o.kind, .int .i64 o.a, .int .i64 o.b, .int .i64 o.c, S o.s, S o.t]] w fun e w' => StepPostT bw text proof px pf o c4 c5 c6 w e w' := by
  unfold base4 at hk
  simp only [Bool.or_eq_true, beq_iff_eq] at hk
  rcases hk with ((hk | hk) | hk) | hk
  · exact step_textT bw text px pf proof o c4 c5 c6 w hw hk
  · exact step_lineT bw text px pf proof o c4 c5 c6 w hw hk htl hsl
  · exact step_proofT bw text px pf proof o c4 c5 c6 w hw hk
  · exact step_bendT bw text px pf proof o c4 c5 c6 w hw hk hok hpl
def StepPostU (bw : Nat) (text proof : List UInt8) (o : OpV) (c4 c5 c6 : Value) (w : World) (e : Ending) (w' : World) : Prop :=
  e = .returned (.bool true) ∧ Only (· = bw) w w' ∧ ∃ text' px' pf' proof', WAt w' bw text' px' pf' proof' c4 c5 c6 ∧ text'.length ≤ text.length + o.s.length + 1 ∧ proof'.length ≤ max proof.length 262144 + o.s.length + 1 ∧ FTxt (bw + 1) w' text' px' pf'
theorem step_baseT (bw : Nat) (text : List UInt8) (px pf : Option Addr) (proof : List UInt8) (o : OpV) (c4 c5 c6 : Value) (w : World) (hw : WAt w bw text px pf proof c4 c5 c6) (hF : FTxt (bw + 1) w text px pf) (hk : base4 o.kind = true)
    (hok : o.Ok) (hpl : proof.length ≤ 1048576) (htl : text.length ≤ 1048576) (hsl : o.s.length ≤ 1048576) :
    Calls Tryz.prog 19 #[.pointer (some ⟨bw, 0, none⟩), .agg #[.int .i64 o.kind, .int .i64 o.a, .int .i64 o.b, .int .i64 o.c, S o.s, S o.t]] w fun e w' => StepPostU bw text proof o c4 c5 c6 w e w' := by
  refine (step_baseT0 bw text px pf proof o c4 c5 c6 w hw hk hok hpl htl hsl).mono ?_
  rintro e w' ⟨h1, ho, text', px', pf', proof', hw', h2, h3, h4⟩
  refine ⟨h1, ho, text', px', pf', proof', hw', h2, by omega, ?_⟩
  rcases h4 with ⟨rfl, rfl, rfl⟩ | h4
  · exact hF.only ho here_foreign
  · exact h4.lo (blk_lt hw)
end Go.Proofs.YtgipjjhkhfihpaaGreatDoor

namespace Go.Proofs.YtgipjjhkhfihpaaGreatDoor
open Go.RowKit

theorem alloc_new_at {w : World} {o : Obj} {n : Nat} (h : n = w.heap.size) : (w.alloc o).heap[n]? = some o := by subst h; exact heap_alloc_new w o
/-- A row whose block lies below B stays where all blocks below B do. -/
theorem own_under {w w' : World} {B base : Nat} {e : TypeId} {size : Nat} {v : Value} {n : Nat} {xs : List Value} (h : w.ownsRow base e size v n xs) (hl : ∀ k, v.ownBlock = some k → k < B) (hb : Below B w w') : w'.ownsRow base e size v n xs := by
  obtain ⟨h1, h2⟩ := h
  refine ⟨h1, ?_⟩
  rcases h2 with h2 | ⟨g, cap, cur, rfl, hg, hh, h3⟩
  · exact Or.inl h2
  · exact Or.inr ⟨g, cap, cur, rfl, hg, (hb.block g (hl g rfl)).trans hh, h3⟩

set_option maxRecDepth 100000 in
set_option maxHeartbeats 800000 in
theorem isPivot_any (b o : Nat) (kind : Nat) (v : Nat) (u : Bool) (w : World) (hc : w.cell? ⟨b, o, none⟩ = some (.int .i64 kind)) :
    Calls Tryz.prog 138 #[.pointer (some ⟨b, o, none⟩), .agg #[.int .i64 v, .bool u]] w fun e w' => e = .returned (.bool (pivotB kind u)) ∧ Below w.heap.size w w' := by
  have hbw := cell_lt hc
  have HE : Hid (((kind : Int) == 2) = (kind == 2)) := hide (by rw [Bool.eq_iff_iff, beq_iff_eq, beq_iff_eq]; omega)
  go_enter Tryz.func138, Tryz.ntmps138
  go_wp2_with fail
  go_quiet (fail)
  go_wp2_with fail
  go_ret
  exact ⟨ret_bool (by rw [unhide HE]; rfl), below_drewN ((Below.refl _ _).alloc (Nat.le_refl _) _) nq⟩

set_option maxRecDepth 100000 in
set_option maxHeartbeats 800000 in
theorem plits_any (base b o : Nat) (p : List Stp) (vS : Value) (n : Nat) (w : World) (hs : w.cell? ⟨b, o + 1, none⟩ = some vS) (hown : w.ownsRow base 134 6 vS p.length (psCells p)) (hl : p.length ≤ 1048576) :
    Calls Tryz.prog 73 #[.pointer (some ⟨b, o, none⟩), .int .i64 n] w fun e w' => e = .returned (SetV (litsAt p n)) ∧ Below w.heap.size w w' := by
  obtain ⟨aS, cS, rfl⟩ := own_form hown
  have hbw := cell_lt hs
  by_cases h1 : n < 1
  · have HL : Hid (litsAt p n = (0, 0)) := hide (litsAt_out p n (Or.inl h1))
    have e : n = 0 := by omega
    subst e
    clear h1
    go_enter Tryz.func73, Tryz.ntmps73
    go_wp2_with fail
    refine bodyPost_ret (v := SetV (0, 0)) (by simp [results, Tryz.results73, go_sem]) rfl ⟨by rw [unhide HL], ?_⟩
    exact (Below.refl _ _).alloc (Nat.le_refl _) _
  · have hd1 : decide ((n : Int) < 1) = false := by simp; omega
    by_cases h2 : p.length < n
    · have HL : Hid (litsAt p n = (0, 0)) := hide (litsAt_out p n (Or.inr h2))
      have hd2 : decide (p.length < n) = true := by simpa using h2
      clear h1 h2
      go_enter Tryz.func73, Tryz.ntmps73
      go_wp2_with fail
      refine bodyPost_ret (v := SetV (0, 0)) (by simp [results, Tryz.results73, go_sem]) rfl ⟨by rw [unhide HL], ?_⟩
      exact (Below.refl _ _).alloc (Nat.le_refl _) _
    · obtain ⟨m, rfl⟩ : ∃ m, n = m + 1 := ⟨n - 1, by omega⟩
      have hm : m < p.length := by omega
      have hd2 : decide (p.length < m + 1) = false := by simp; omega
      have hd3 : decide ((p.length : Int) < ((m : Int) + 1)) = false := by simp; omega
      have hd4 : decide ((m : Int) + 1 < 1) = false := by simp; omega
      have HL : Hid (litsAt p (m + 1) = p[m].lits) := hide (litsAt_in p m hm)
      obtain ⟨g, cap, hVe, hg, hg', _, hcell⟩ := own_pos hown (by omega)
      injection hVe with hVe _ hV2
      subst hVe hV2
      have hx0 : w.cell? ⟨g, m * 6 + 4, none⟩ = some (.int .i64 (p[m].lits.1 : Int)) := hcell _ _ (psCells_at p m 4 hm (by omega))
      have hx1 : w.cell? ⟨g, m * 6 + 5, none⟩ = some (.int .i64 (p[m].lits.2 : Int)) := hcell _ _ (psCells_at p m 5 hm (by omega))
      clear hcell h1 h2
      generalize p[m].lits = c at *
      obtain ⟨c1, c2⟩ := c
      dsimp only at *
      go_enter Tryz.func73, Tryz.ntmps73
      go_wp2_with fail
      refine bodyPost_ret (v := SetV (c1, c2)) (by simp [results, Tryz.results73, go_sem]) rfl ⟨by rw [unhide HL], ?_⟩
      exact (Below.refl _ _).alloc (Nat.le_refl _) _

abbrev StpV (s : Stp) : Value := .agg #[.int .i64 (s.rule : Int), .int .i64 (s.first : Int), .int .i64 (s.second : Int), .int .i64 (s.var : Int), .int .i64 (s.lits.1 : Int), .int .i64 (s.lits.2 : Int)]

set_option maxRecDepth 100000 in
set_option maxHeartbeats 800000 in
theorem resolvent_any (base b o : Nat) (p : List Stp) (vS : Value) (s : Stp) (w : World) (hs : w.cell? ⟨b, o + 1, none⟩ = some vS) (hown : w.ownsRow base 134 6 vS p.length (psCells p)) (hl : p.length ≤ 1048576) (hb : ∀ s ∈ p, s.lits.1 < 512 ∧ s.lits.2 < 512) :
    Calls Tryz.prog 127 #[.pointer (some ⟨b, o, none⟩), StpV s] w fun e w' => e = .returned (SetV (without2 (litsAt p s.first) (litsAt p s.second) s.var)) ∧ Below w.heap.size w w' := by
  have hbw := cell_lt hs
  have hl1 := litsAt_lt p hb s.first
  have hl2 := litsAt_lt p hb s.second
  have HW : Hid (without2 (litsAt p s.first) (litsAt p s.second) s.var = without ((litsAt p s.first).1 ||| (litsAt p s.second).1, (litsAt p s.first).2 ||| (litsAt p s.second).2) s.var) := hide rfl
  obtain ⟨sr, sf, ss, sv, sl⟩ := s
  obtain ⟨sl1, sl2⟩ := sl
  dsimp only at *
  go_enter Tryz.func127, Tryz.ntmps127
  go_wp2_with fail
  generalize hw0 : ((w.alloc (.cells #[.int .i64 (sr : Int), .int .i64 (sf : Int), .int .i64 (ss : Int), .int .i64 (sv : Int), .int .i64 (sl1 : Int), .int .i64 (sl2 : Int)] 134)).alloc (.cells #[.int .i64 0, .int .i64 0] 74)) = u1
  have hB : Below w.heap.size w u1 := by rw [← hw0]; exact ((Below.refl _ _).alloc (Nat.le_refl _) _).alloc (by simp) _
  have hst : u1.heap[w.heap.size]? = some (.cells #[.int .i64 (sr : Int), .int .i64 (sf : Int), .int .i64 (ss : Int), .int .i64 (sv : Int), .int .i64 (sl1 : Int), .int .i64 (sl2 : Int)] 134 (0, 0)) := by rw [← hw0, heap_alloc_old _ _ (by simp)]; exact alloc_new_at (by simp)
  have hrs : u1.heap[w.heap.size + 1]? = some (.cells #[.int .i64 0, .int .i64 0] 74 (0, 0)) := by rw [← hw0]; exact alloc_new_at (by simp)
  clear hw0
  have cst0 : u1.cell? ⟨w.heap.size, 0, none⟩ = some (.int .i64 (sr : Int)) := by rw [blk_cell hst]; rfl
  have cst1 : u1.cell? ⟨w.heap.size, 1, none⟩ = some (.int .i64 (sf : Int)) := by rw [blk_cell hst]; rfl
  have cst2 : u1.cell? ⟨w.heap.size, 2, none⟩ = some (.int .i64 (ss : Int)) := by rw [blk_cell hst]; rfl
  have cst3 : u1.cell? ⟨w.heap.size, 3, none⟩ = some (.int .i64 (sv : Int)) := by rw [blk_cell hst]; rfl
  have cst4 : u1.cell? ⟨w.heap.size, 4, none⟩ = some (.int .i64 (sl1 : Int)) := by rw [blk_cell hst]; rfl
  have cst5 : u1.cell? ⟨w.heap.size, 5, none⟩ = some (.int .i64 (sl2 : Int)) := by rw [blk_cell hst]; rfl
  have lst := blk_lt hst
  have crs0 : u1.cell? ⟨w.heap.size + 1, 0, none⟩ = some (.int .i64 0) := by rw [blk_cell hrs]; rfl
  have crs1 : u1.cell? ⟨w.heap.size + 1, 1, none⟩ = some (.int .i64 0) := by rw [blk_cell hrs]; rfl
  have lrs := blk_lt hrs
  have hc : u1.cell? ⟨b, o + 1, none⟩ = some vS := by rw [hB.cell (p := ⟨b, o + 1, none⟩) hbw]; exact hs
  have hbw2 : b < u1.heap.size := Nat.lt_of_lt_of_le hbw hB.size
  refine (plits_any base b o p vS sf _ hc (own_below hown hB) hl).mono ?_
  rintro e u2 ⟨rfl, b2⟩
  replace hB := hB.trans (b2.mono hB.size)
  replace hst := (b2.block _ (blk_lt hst)).trans hst
  replace cst0 : u2.cell? ⟨w.heap.size, 0, none⟩ = some (.int .i64 (sr : Int)) := by rw [blk_cell hst]; rfl
  replace cst1 : u2.cell? ⟨w.heap.size, 1, none⟩ = some (.int .i64 (sf : Int)) := by rw [blk_cell hst]; rfl
  replace cst2 : u2.cell? ⟨w.heap.size, 2, none⟩ = some (.int .i64 (ss : Int)) := by rw [blk_cell hst]; rfl
  replace cst3 : u2.cell? ⟨w.heap.size, 3, none⟩ = some (.int .i64 (sv : Int)) := by rw [blk_cell hst]; rfl
  replace cst4 : u2.cell? ⟨w.heap.size, 4, none⟩ = some (.int .i64 (sl1 : Int)) := by rw [blk_cell hst]; rfl
  replace cst5 : u2.cell? ⟨w.heap.size, 5, none⟩ = some (.int .i64 (sl2 : Int)) := by rw [blk_cell hst]; rfl
  replace lst := blk_lt hst
  replace hrs := (b2.block _ (blk_lt hrs)).trans hrs
  replace crs0 : u2.cell? ⟨w.heap.size + 1, 0, none⟩ = some (.int .i64 0) := by rw [blk_cell hrs]; rfl
  replace crs1 : u2.cell? ⟨w.heap.size + 1, 1, none⟩ = some (.int .i64 0) := by rw [blk_cell hrs]; rfl
  replace lrs := blk_lt hrs
  replace hc : u2.cell? ⟨b, o + 1, none⟩ = some vS := by rw [hB.cell (p := ⟨b, o + 1, none⟩) hbw]; exact hs
  replace hbw2 : b < u2.heap.size := Nat.lt_of_lt_of_le hbw hB.size
  generalize hea : litsAt p sf = a at *
  have HEA := hide hea
  clear hea
  obtain ⟨a1, a2⟩ := a
  dsimp only at *
  go_wp2_with fail
  generalize hw0 : u2.alloc (.cells #[.int .i64 (a1 : Int), .int .i64 (a2 : Int)] 74) = u3
  have b3 : Below u2.heap.size u2 u3 := by rw [← hw0]; exact (Below.refl _ _).alloc (Nat.le_refl _) _
  have hfi : u3.heap[u2.heap.size]? = some (.cells #[.int .i64 (a1 : Int), .int .i64 (a2 : Int)] 74 (0, 0)) := by rw [← hw0]; exact heap_alloc_new _ _
  clear hw0
  replace hB := hB.trans (b3.mono hB.size)
  replace hst := (b3.block _ (blk_lt hst)).trans hst
  replace cst0 : u3.cell? ⟨w.heap.size, 0, none⟩ = some (.int .i64 (sr : Int)) := by rw [blk_cell hst]; rfl
  replace cst1 : u3.cell? ⟨w.heap.size, 1, none⟩ = some (.int .i64 (sf : Int)) := by rw [blk_cell hst]; rfl
  replace cst2 : u3.cell? ⟨w.heap.size, 2, none⟩ = some (.int .i64 (ss : Int)) := by rw [blk_cell hst]; rfl
  replace cst3 : u3.cell? ⟨w.heap.size, 3, none⟩ = some (.int .i64 (sv : Int)) := by rw [blk_cell hst]; rfl
  replace cst4 : u3.cell? ⟨w.heap.size, 4, none⟩ = some (.int .i64 (sl1 : Int)) := by rw [blk_cell hst]; rfl
  replace cst5 : u3.cell? ⟨w.heap.size, 5, none⟩ = some (.int .i64 (sl2 : Int)) := by rw [blk_cell hst]; rfl
  replace lst := blk_lt hst
  replace hrs := (b3.block _ (blk_lt hrs)).trans hrs
  replace crs0 : u3.cell? ⟨w.heap.size + 1, 0, none⟩ = some (.int .i64 0) := by rw [blk_cell hrs]; rfl
  replace crs1 : u3.cell? ⟨w.heap.size + 1, 1, none⟩ = some (.int .i64 0) := by rw [blk_cell hrs]; rfl
  replace lrs := blk_lt hrs
  replace hc : u3.cell? ⟨b, o + 1, none⟩ = some vS := by rw [hB.cell (p := ⟨b, o + 1, none⟩) hbw]; exact hs
  replace hbw2 : b < u3.heap.size := Nat.lt_of_lt_of_le hbw hB.size
  have cfi0 : u3.cell? ⟨u2.heap.size, 0, none⟩ = some (.int .i64 (a1 : Int)) := by rw [blk_cell hfi]; rfl
  have cfi1 : u3.cell? ⟨u2.heap.size, 1, none⟩ = some (.int .i64 (a2 : Int)) := by rw [blk_cell hfi]; rfl
  have lfi := blk_lt hfi
  refine (plits_any base b o p vS ss _ hc (own_below hown hB) hl).mono ?_
  rintro e u4 ⟨rfl, b4⟩
  replace hB := hB.trans (b4.mono hB.size)
  replace hst := (b4.block _ (blk_lt hst)).trans hst
  replace cst0 : u4.cell? ⟨w.heap.size, 0, none⟩ = some (.int .i64 (sr : Int)) := by rw [blk_cell hst]; rfl
  replace cst1 : u4.cell? ⟨w.heap.size, 1, none⟩ = some (.int .i64 (sf : Int)) := by rw [blk_cell hst]; rfl
  replace cst2 : u4.cell? ⟨w.heap.size, 2, none⟩ = some (.int .i64 (ss : Int)) := by rw [blk_cell hst]; rfl
  replace cst3 : u4.cell? ⟨w.heap.size, 3, none⟩ = some (.int .i64 (sv : Int)) := by rw [blk_cell hst]; rfl
  replace cst4 : u4.cell? ⟨w.heap.size, 4, none⟩ = some (.int .i64 (sl1 : Int)) := by rw [blk_cell hst]; rfl
  replace cst5 : u4.cell? ⟨w.heap.size, 5, none⟩ = some (.int .i64 (sl2 : Int)) := by rw [blk_cell hst]; rfl
  replace lst := blk_lt hst
  replace hrs := (b4.block _ (blk_lt hrs)).trans hrs
  replace crs0 : u4.cell? ⟨w.heap.size + 1, 0, none⟩ = some (.int .i64 0) := by rw [blk_cell hrs]; rfl
  replace crs1 : u4.cell? ⟨w.heap.size + 1, 1, none⟩ = some (.int .i64 0) := by rw [blk_cell hrs]; rfl
  replace lrs := blk_lt hrs
  replace hfi := (b4.block _ (blk_lt hfi)).trans hfi
  replace cfi0 : u4.cell? ⟨u2.heap.size, 0, none⟩ = some (.int .i64 (a1 : Int)) := by rw [blk_cell hfi]; rfl
  replace cfi1 : u4.cell? ⟨u2.heap.size, 1, none⟩ = some (.int .i64 (a2 : Int)) := by rw [blk_cell hfi]; rfl
  replace lfi := blk_lt hfi
  replace hc : u4.cell? ⟨b, o + 1, none⟩ = some vS := by rw [hB.cell (p := ⟨b, o + 1, none⟩) hbw]; exact hs
  replace hbw2 : b < u4.heap.size := Nat.lt_of_lt_of_le hbw hB.size
  generalize hea : litsAt p ss = a at *
  have HEB := hide hea
  clear hea
  obtain ⟨d1, d2⟩ := a
  dsimp only at *
  go_wp2_with fail
  generalize hw0 : u4.alloc (.cells #[.int .i64 (d1 : Int), .int .i64 (d2 : Int)] 74) = u5
  have b5 : Below u4.heap.size u4 u5 := by rw [← hw0]; exact (Below.refl _ _).alloc (Nat.le_refl _) _
  have hse : u5.heap[u4.heap.size]? = some (.cells #[.int .i64 (d1 : Int), .int .i64 (d2 : Int)] 74 (0, 0)) := by rw [← hw0]; exact heap_alloc_new _ _
  clear hw0
  replace hB := hB.trans (b5.mono hB.size)
  replace hst := (b5.block _ (blk_lt hst)).trans hst
  replace cst0 : u5.cell? ⟨w.heap.size, 0, none⟩ = some (.int .i64 (sr : Int)) := by rw [blk_cell hst]; rfl
  replace cst1 : u5.cell? ⟨w.heap.size, 1, none⟩ = some (.int .i64 (sf : Int)) := by rw [blk_cell hst]; rfl
  replace cst2 : u5.cell? ⟨w.heap.size, 2, none⟩ = some (.int .i64 (ss : Int)) := by rw [blk_cell hst]; rfl
  replace cst3 : u5.cell? ⟨w.heap.size, 3, none⟩ = some (.int .i64 (sv : Int)) := by rw [blk_cell hst]; rfl
  replace cst4 : u5.cell? ⟨w.heap.size, 4, none⟩ = some (.int .i64 (sl1 : Int)) := by rw [blk_cell hst]; rfl
  replace cst5 : u5.cell? ⟨w.heap.size, 5, none⟩ = some (.int .i64 (sl2 : Int)) := by rw [blk_cell hst]; rfl
  replace lst := blk_lt hst
  replace hrs := (b5.block _ (blk_lt hrs)).trans hrs
  replace crs0 : u5.cell? ⟨w.heap.size + 1, 0, none⟩ = some (.int .i64 0) := by rw [blk_cell hrs]; rfl
  replace crs1 : u5.cell? ⟨w.heap.size + 1, 1, none⟩ = some (.int .i64 0) := by rw [blk_cell hrs]; rfl
  replace lrs := blk_lt hrs
  replace hfi := (b5.block _ (blk_lt hfi)).trans hfi
  replace cfi0 : u5.cell? ⟨u2.heap.size, 0, none⟩ = some (.int .i64 (a1 : Int)) := by rw [blk_cell hfi]; rfl
  replace cfi1 : u5.cell? ⟨u2.heap.size, 1, none⟩ = some (.int .i64 (a2 : Int)) := by rw [blk_cell hfi]; rfl
  replace lfi := blk_lt hfi
  replace hc : u5.cell? ⟨b, o + 1, none⟩ = some vS := by rw [hB.cell (p := ⟨b, o + 1, none⟩) hbw]; exact hs
  replace hbw2 : b < u5.heap.size := Nat.lt_of_lt_of_le hbw hB.size
  have cse0 : u5.cell? ⟨u4.heap.size, 0, none⟩ = some (.int .i64 (d1 : Int)) := by rw [blk_cell hse]; rfl
  have cse1 : u5.cell? ⟨u4.heap.size, 1, none⟩ = some (.int .i64 (d2 : Int)) := by rw [blk_cell hse]; rfl
  have lse := blk_lt hse
  refine (union_any a1 a2 d1 d2 _ hl1.1 hl1.2 hl2.1 hl2.2).mono ?_
  rintro e u6 ⟨rfl, b6⟩
  replace hB := hB.trans (b6.mono hB.size)
  replace hst := (b6.block _ (blk_lt hst)).trans hst
  replace cst0 : u6.cell? ⟨w.heap.size, 0, none⟩ = some (.int .i64 (sr : Int)) := by rw [blk_cell hst]; rfl
  replace cst1 : u6.cell? ⟨w.heap.size, 1, none⟩ = some (.int .i64 (sf : Int)) := by rw [blk_cell hst]; rfl
  replace cst2 : u6.cell? ⟨w.heap.size, 2, none⟩ = some (.int .i64 (ss : Int)) := by rw [blk_cell hst]; rfl
  replace cst3 : u6.cell? ⟨w.heap.size, 3, none⟩ = some (.int .i64 (sv : Int)) := by rw [blk_cell hst]; rfl
  replace cst4 : u6.cell? ⟨w.heap.size, 4, none⟩ = some (.int .i64 (sl1 : Int)) := by rw [blk_cell hst]; rfl
  replace cst5 : u6.cell? ⟨w.heap.size, 5, none⟩ = some (.int .i64 (sl2 : Int)) := by rw [blk_cell hst]; rfl
  replace lst := blk_lt hst
  replace hrs := (b6.block _ (blk_lt hrs)).trans hrs
  replace crs0 : u6.cell? ⟨w.heap.size + 1, 0, none⟩ = some (.int .i64 0) := by rw [blk_cell hrs]; rfl
  replace crs1 : u6.cell? ⟨w.heap.size + 1, 1, none⟩ = some (.int .i64 0) := by rw [blk_cell hrs]; rfl
  replace lrs := blk_lt hrs
  replace hfi := (b6.block _ (blk_lt hfi)).trans hfi
  replace cfi0 : u6.cell? ⟨u2.heap.size, 0, none⟩ = some (.int .i64 (a1 : Int)) := by rw [blk_cell hfi]; rfl
  replace cfi1 : u6.cell? ⟨u2.heap.size, 1, none⟩ = some (.int .i64 (a2 : Int)) := by rw [blk_cell hfi]; rfl
  replace lfi := blk_lt hfi
  replace hse := (b6.block _ (blk_lt hse)).trans hse
  replace cse0 : u6.cell? ⟨u4.heap.size, 0, none⟩ = some (.int .i64 (d1 : Int)) := by rw [blk_cell hse]; rfl
  replace cse1 : u6.cell? ⟨u4.heap.size, 1, none⟩ = some (.int .i64 (d2 : Int)) := by rw [blk_cell hse]; rfl
  replace lse := blk_lt hse
  replace hc : u6.cell? ⟨b, o + 1, none⟩ = some vS := by rw [hB.cell (p := ⟨b, o + 1, none⟩) hbw]; exact hs
  replace hbw2 : b < u6.heap.size := Nat.lt_of_lt_of_le hbw hB.size
  have hu1 := or_lt a1 d1 hl1.1 hl2.1
  have hu2 := or_lt a2 d2 hl1.2 hl2.2
  generalize a1 ||| d1 = pu at *
  generalize a2 ||| d2 = nu at *
  go_wp2_with fail
  generalize hw0 : u6.alloc (.cells #[.int .i64 (pu : Int), .int .i64 (nu : Int)] 74) = u7
  have b7 : Below u6.heap.size u6 u7 := by rw [← hw0]; exact (Below.refl _ _).alloc (Nat.le_refl _) _
  have hbo : u7.heap[u6.heap.size]? = some (.cells #[.int .i64 (pu : Int), .int .i64 (nu : Int)] 74 (0, 0)) := by rw [← hw0]; exact heap_alloc_new _ _
  clear hw0
  replace hB := hB.trans (b7.mono hB.size)
  replace hst := (b7.block _ (blk_lt hst)).trans hst
  replace cst0 : u7.cell? ⟨w.heap.size, 0, none⟩ = some (.int .i64 (sr : Int)) := by rw [blk_cell hst]; rfl
  replace cst1 : u7.cell? ⟨w.heap.size, 1, none⟩ = some (.int .i64 (sf : Int)) := by rw [blk_cell hst]; rfl
  replace cst2 : u7.cell? ⟨w.heap.size, 2, none⟩ = some (.int .i64 (ss : Int)) := by rw [blk_cell hst]; rfl
  replace cst3 : u7.cell? ⟨w.heap.size, 3, none⟩ = some (.int .i64 (sv : Int)) := by rw [blk_cell hst]; rfl
  replace cst4 : u7.cell? ⟨w.heap.size, 4, none⟩ = some (.int .i64 (sl1 : Int)) := by rw [blk_cell hst]; rfl
  replace cst5 : u7.cell? ⟨w.heap.size, 5, none⟩ = some (.int .i64 (sl2 : Int)) := by rw [blk_cell hst]; rfl
  replace lst := blk_lt hst
  replace hrs := (b7.block _ (blk_lt hrs)).trans hrs
  replace crs0 : u7.cell? ⟨w.heap.size + 1, 0, none⟩ = some (.int .i64 0) := by rw [blk_cell hrs]; rfl
  replace crs1 : u7.cell? ⟨w.heap.size + 1, 1, none⟩ = some (.int .i64 0) := by rw [blk_cell hrs]; rfl
  replace lrs := blk_lt hrs
  replace hfi := (b7.block _ (blk_lt hfi)).trans hfi
  replace cfi0 : u7.cell? ⟨u2.heap.size, 0, none⟩ = some (.int .i64 (a1 : Int)) := by rw [blk_cell hfi]; rfl
  replace cfi1 : u7.cell? ⟨u2.heap.size, 1, none⟩ = some (.int .i64 (a2 : Int)) := by rw [blk_cell hfi]; rfl
  replace lfi := blk_lt hfi
  replace hse := (b7.block _ (blk_lt hse)).trans hse
  replace cse0 : u7.cell? ⟨u4.heap.size, 0, none⟩ = some (.int .i64 (d1 : Int)) := by rw [blk_cell hse]; rfl
  replace cse1 : u7.cell? ⟨u4.heap.size, 1, none⟩ = some (.int .i64 (d2 : Int)) := by rw [blk_cell hse]; rfl
  replace lse := blk_lt hse
  replace hc : u7.cell? ⟨b, o + 1, none⟩ = some vS := by rw [hB.cell (p := ⟨b, o + 1, none⟩) hbw]; exact hs
  replace hbw2 : b < u7.heap.size := Nat.lt_of_lt_of_le hbw hB.size
  have cbo0 : u7.cell? ⟨u6.heap.size, 0, none⟩ = some (.int .i64 (pu : Int)) := by rw [blk_cell hbo]; rfl
  have cbo1 : u7.cell? ⟨u6.heap.size, 1, none⟩ = some (.int .i64 (nu : Int)) := by rw [blk_cell hbo]; rfl
  have lbo := blk_lt hbo
  refine (withoutVar_any pu nu sv _ hu1 hu2).mono ?_
  rintro e u8 ⟨rfl, b8⟩
  replace hB := hB.trans (b8.mono hB.size)
  replace hst := (b8.block _ (blk_lt hst)).trans hst
  replace cst0 : u8.cell? ⟨w.heap.size, 0, none⟩ = some (.int .i64 (sr : Int)) := by rw [blk_cell hst]; rfl
  replace cst1 : u8.cell? ⟨w.heap.size, 1, none⟩ = some (.int .i64 (sf : Int)) := by rw [blk_cell hst]; rfl
  replace cst2 : u8.cell? ⟨w.heap.size, 2, none⟩ = some (.int .i64 (ss : Int)) := by rw [blk_cell hst]; rfl
  replace cst3 : u8.cell? ⟨w.heap.size, 3, none⟩ = some (.int .i64 (sv : Int)) := by rw [blk_cell hst]; rfl
  replace cst4 : u8.cell? ⟨w.heap.size, 4, none⟩ = some (.int .i64 (sl1 : Int)) := by rw [blk_cell hst]; rfl
  replace cst5 : u8.cell? ⟨w.heap.size, 5, none⟩ = some (.int .i64 (sl2 : Int)) := by rw [blk_cell hst]; rfl
  replace lst := blk_lt hst
  replace hrs := (b8.block _ (blk_lt hrs)).trans hrs
  replace crs0 : u8.cell? ⟨w.heap.size + 1, 0, none⟩ = some (.int .i64 0) := by rw [blk_cell hrs]; rfl
  replace crs1 : u8.cell? ⟨w.heap.size + 1, 1, none⟩ = some (.int .i64 0) := by rw [blk_cell hrs]; rfl
  replace lrs := blk_lt hrs
  replace hfi := (b8.block _ (blk_lt hfi)).trans hfi
  replace cfi0 : u8.cell? ⟨u2.heap.size, 0, none⟩ = some (.int .i64 (a1 : Int)) := by rw [blk_cell hfi]; rfl
  replace cfi1 : u8.cell? ⟨u2.heap.size, 1, none⟩ = some (.int .i64 (a2 : Int)) := by rw [blk_cell hfi]; rfl
  replace lfi := blk_lt hfi
  replace hse := (b8.block _ (blk_lt hse)).trans hse
  replace cse0 : u8.cell? ⟨u4.heap.size, 0, none⟩ = some (.int .i64 (d1 : Int)) := by rw [blk_cell hse]; rfl
  replace cse1 : u8.cell? ⟨u4.heap.size, 1, none⟩ = some (.int .i64 (d2 : Int)) := by rw [blk_cell hse]; rfl
  replace lse := blk_lt hse
  replace hbo := (b8.block _ (blk_lt hbo)).trans hbo
  replace cbo0 : u8.cell? ⟨u6.heap.size, 0, none⟩ = some (.int .i64 (pu : Int)) := by rw [blk_cell hbo]; rfl
  replace cbo1 : u8.cell? ⟨u6.heap.size, 1, none⟩ = some (.int .i64 (nu : Int)) := by rw [blk_cell hbo]; rfl
  replace lbo := blk_lt hbo
  replace hc : u8.cell? ⟨b, o + 1, none⟩ = some vS := by rw [hB.cell (p := ⟨b, o + 1, none⟩) hbw]; exact hs
  replace hbw2 : b < u8.heap.size := Nat.lt_of_lt_of_le hbw hB.size
  have hlt := without_lt (pu, nu) sv ⟨hu1, hu2⟩
  generalize without (pu, nu) sv = cw at *
  obtain ⟨p', n'⟩ := cw
  dsimp only at *
  have z0 := blk_free hrs 0
  have z1 := blk_free hrs 1
  have hR := blk_set (blk_set hrs 0 (.int .i64 (p' : Int))) 1 (.int .i64 (n' : Int))
  have j0 := blk_cell hR 0
  have j1 := blk_cell hR 1
  go_wp2_with fail
  refine bodyPost_ret (v := SetV (p', n')) (by simp [results, Tryz.results127, go_sem, j0, j1]) rfl ⟨by rw [unhide HEA, unhide HEB, unhide HW], ?_⟩
  exact (hB.setCell (p := ⟨w.heap.size + 1, 0, none⟩) (Nat.le_succ _) _).setCell (p := ⟨w.heap.size + 1, 1, none⟩) (Nat.le_succ _) _
end Go.Proofs.YtgipjjhkhfihpaaGreatDoor

namespace Go.Proofs.YtgipjjhkhfihpaaGreatDoor
open Go.RowKit

/-! ### reduced -/
set_option maxRecDepth 100000 in
set_option maxHeartbeats 1600000 in
theorem preduced_any (base b o : Nat) (q : QS) (kind : Nat) (vV vC : Value) (c : Nat × Nat) (w : World) (hk : w.cell? ⟨b, o, none⟩ = some (.int .i64 kind)) (hoV : w.ownsRow base 139 2 vV q.vars.length (varCells q.vars)) (hQ : QB q) (hc : c.1 < 512 ∧ c.2 < 512) (hCf : ∃ aC nC cC, vC = .slice aC nC cC) :
    Calls Tryz.prog 128 #[.pointer (some ⟨b, o, none⟩), .agg #[vV, vC], SetV c] w fun e w' => e = .returned (SetV (redQ kind q.vars.reverse c)) ∧ Below w.heap.size w w' := by
  obtain ⟨aV, cV, rfl⟩ := own_form hoV
  obtain ⟨aC, nC, cC, rfl⟩ := hCf
  have hbw := cell_lt hk
  have hvl := hQ.vl
  go_enter Tryz.func128, Tryz.ntmps128
  obtain ⟨p0, n0⟩ := c
  go_wp2_with fail
  go_loopg [7] (q.vars.length + 1) (fun m i wx => ∃ (k p n : Nat), i = .int .i64 ((k : Int) - 1) ∧ k + 1 ≤ m ∧ m ≤ k + 1 ∧ k ≤ q.vars.length ∧ p < 512 ∧ n < 512 ∧ redQ kind q.vars.reverse (p0, n0) = redQ kind (q.vars.take k).reverse (p, n) ∧ Below w.heap.size w wx ∧
     wx.heap[w.heap.size]? = some (.cells #[.slice aV q.vars.length cV, .slice aC nC cC] 60 (0, 0)) ∧ wx.heap[w.heap.size + 1]? = some (.cells #[.int .i64 p, .int .i64 n] 74 (0, 0)) ∧ wx.heap[w.heap.size + 2]? = some (.cells #[.int .i64 0, .int .i64 0] 74 (0, 0)))
  case atStart => exact ⟨q.vars.length, p0, n0, by go_num, by omega, by omega, by omega, hc.1, hc.2, by rw [List.take_length], (((Below.refl _ _).alloc (Nat.le_refl _) _).alloc (by simp) _).alloc (by simp; omega) _, by rw [heap_alloc_old _ _ (by simp; omega), heap_alloc_old _ _ (by simp)]; exact heap_alloc_new _ _, by rw [heap_alloc_old _ _ (by simp)]; exact alloc_new_at (by simp), alloc_new_at (by simp)⟩
  case round =>
    obtain ⟨k, p, n, rfl, hkm, hkm2, hkl, hp, hn, hred, hb, hfo, hset, hres⟩ := hrel
    have HR := hide hred; clear hred
    have hv0 : wr.cell? ⟨w.heap.size, 0, none⟩ = some (.slice aV q.vars.length cV) := by rw [blk_cell hfo]; rfl
    have hs0 : wr.cell? ⟨w.heap.size + 1, 0, none⟩ = some (.int .i64 p) := by rw [blk_cell hset]; rfl
    have hs1 : wr.cell? ⟨w.heap.size + 1, 1, none⟩ = some (.int .i64 n) := by rw [blk_cell hset]; rfl
    have hr0 : wr.cell? ⟨w.heap.size + 2, 0, none⟩ = some (.int .i64 0) := by rw [blk_cell hres]; rfl
    have hr1 : wr.cell? ⟨w.heap.size + 2, 1, none⟩ = some (.int .i64 0) := by rw [blk_cell hres]; rfl
    have hz0 := blk_free hset 0
    have hz1 := blk_free hset 1
    have hy0 := blk_free hres 0
    have hy1 := blk_free hres 1
    have hbs := blk_lt hres
    have hbs0 : w.heap.size < wr.heap.size := by omega
    have hbs1 : w.heap.size + 1 < wr.heap.size := by omega
    have hbw1 : b < wr.heap.size := by omega
    cases k with
    | zero =>
      have HF : Hid (redQ kind q.vars.reverse (p0, n0) = (p, n)) := hide (by rw [unhide HR]; rfl)
      have hR := blk_set (blk_set hres 0 (.int .i64 p)) 1 (.int .i64 n)
      have j0 := blk_cell hR 0
      have j1 := blk_cell hR 1
      go_wp2_with fail
      refine bodyPost_ret (v := SetV (p, n)) (by simp [results, Tryz.results128, go_sem, j0, j1]) rfl ⟨by rw [unhide HF], ?_⟩
      exact (hb.setCell (p := ⟨w.heap.size + 2, 0, none⟩) (by simp) _).setCell (p := ⟨w.heap.size + 2, 1, none⟩) (by simp) _
    | succ k =>
      have hlt : k < q.vars.length := by omega
      obtain ⟨g, cap, hVe, hg, hg', _, hcell⟩ := own_pos hoV (by omega)
      injection hVe with hVe _ hV2
      subst hVe hV2
      obtain ⟨ha, hb'⟩ := varCells_at q.vars k hlt
      have hx0 : wr.cell? ⟨g, k * 2, none⟩ = some (.int .i64 (q.vars[k].1 : Int)) := by rw [hb.cell (p := ⟨g, k * 2, none⟩) hg']; exact hcell _ _ ha
      have hx1 : wr.cell? ⟨g, k * 2 + 1, none⟩ = some (.bool q.vars[k].2) := by rw [hb.cell (p := ⟨g, k * 2 + 1, none⟩) hg']; exact hcell _ _ hb'
      have hgw : g < wr.heap.size := by omega
      have HST := hide (redQ_step kind q.vars k hlt (p, n))
      clear hcell ha hb'
      generalize q.vars[k] = x at *
      obtain ⟨vn, vu⟩ := x
      dsimp only at *
      go_wp2_with fail
      refine (hasVar_any p n vn _ hp hn).mono ?_
      rintro e w2 ⟨rfl, hb2⟩
      have hw2 : Below wr.heap.size wr w2 := ((Below.refl _ wr).alloc (Nat.le_refl _) _).trans (hb2.mono (by simp))
      have hsz2 := hw2.size
      have hv2 : w2.heap[wr.heap.size]? = some (.cells #[.int .i64 vn, .bool vu] 139 (0, 0)) := (hb2.block _ (by simp)).trans (heap_alloc_new _ _)
      have hfo2 := (hw2.block _ hbs0).trans hfo
      have hset2 := (hw2.block _ hbs1).trans hset
      have hres2 := (hw2.block _ hbs).trans hres
      have hbw2 : Below w.heap.size w w2 := hb.trans (hw2.mono (by omega))
      rw [show ((p ||| n) &&& bitOf vn != 0) = hasVarB (p, n) vn from rfl]
      cases hh : hasVarB (p, n) vn with
      | false =>
        have HF : Hid (redQ kind q.vars.reverse (p0, n0) = redQ kind (q.vars.take k).reverse (p, n)) := hide (by rw [unhide HR, unhide HST, hh]; rfl)
        go_wp2_with fail
        go_roundg (gk - 1)
        case measure => omega
        case rel => exact ⟨k, p, n, by go_num, by omega, by omega, by omega, hp, hn, unhide HF, hbw2, hfo2, hset2, hres2⟩
      | true =>
        have y2 : w2.cell? ⟨b, o, none⟩ = some (.int .i64 kind) := by rw [hbw2.cell (p := ⟨b, o, none⟩) hbw]; exact hk
        have hc0 : w2.cell? ⟨wr.heap.size, 0, none⟩ = some (.int .i64 vn) := by rw [blk_cell hv2]; rfl
        have hc1 : w2.cell? ⟨wr.heap.size, 1, none⟩ = some (.bool vu) := by rw [blk_cell hv2]; rfl
        go_wp2_with fail
        refine (isPivot_any b o kind vn vu w2 y2).mono ?_
        rintro e w3 ⟨rfl, hb3⟩
        have hv3 := (hb3.block _ (blk_lt hv2)).trans hv2
        have hfo3 := (hb3.block _ (blk_lt hfo2)).trans hfo2
        have hset3 := (hb3.block _ (blk_lt hset2)).trans hset2
        have hres3 := (hb3.block _ (blk_lt hres2)).trans hres2
        have hbw3 : Below w.heap.size w w3 := hbw2.trans (hb3.mono hbw2.size)
        have e0 : w3.cell? ⟨w.heap.size + 1, 0, none⟩ = some (.int .i64 p) := by rw [blk_cell hset3]; rfl
        have e1 : w3.cell? ⟨w.heap.size + 1, 1, none⟩ = some (.int .i64 n) := by rw [blk_cell hset3]; rfl
        have f0 : w3.cell? ⟨w.heap.size + 2, 0, none⟩ = some (.int .i64 0) := by rw [blk_cell hres3]; rfl
        have f1 : w3.cell? ⟨w.heap.size + 2, 1, none⟩ = some (.int .i64 0) := by rw [blk_cell hres3]; rfl
        have g0 : w3.cell? ⟨wr.heap.size, 0, none⟩ = some (.int .i64 vn) := by rw [blk_cell hv3]; rfl
        have z0 := blk_free hset3 0
        have z1 := blk_free hset3 1
        have y0 := blk_free hres3 0
        have y1 := blk_free hres3 1
        cases hpv : pivotB kind vu with
        | true =>
          have HF : Hid (redQ kind q.vars.reverse (p0, n0) = (p, n)) := hide (by rw [unhide HR, unhide HST, hh, hpv]; rfl)
          have hR := blk_set (blk_set hres3 0 (.int .i64 p)) 1 (.int .i64 n)
          have j0 := blk_cell hR 0
          have j1 := blk_cell hR 1
          go_wp2_with fail
          refine bodyPost_ret (v := SetV (p, n)) (by simp [results, Tryz.results128, go_sem, j0, j1]) rfl ⟨by rw [unhide HF], ?_⟩
          exact (hbw3.setCell (p := ⟨w.heap.size + 2, 0, none⟩) (by simp) _).setCell (p := ⟨w.heap.size + 2, 1, none⟩) (by simp) _
        | false =>
          have HF : Hid (redQ kind q.vars.reverse (p0, n0) = redQ kind (q.vars.take k).reverse (without (p, n) vn)) := hide (by rw [unhide HR, unhide HST, hh, hpv]; rfl)
          have hwl := without_lt (p, n) vn ⟨hp, hn⟩
          go_wp2_with fail
          refine (withoutVar_any p n vn w3 hp hn).mono ?_
          rintro e w4 ⟨rfl, hb4⟩
          have hfo4 := (hb4.block _ (blk_lt hfo3)).trans hfo3
          have hset4 := (hb4.block _ (blk_lt hset3)).trans hset3
          have hres4 := (hb4.block _ (blk_lt hres3)).trans hres3
          have hbw4 : Below w.heap.size w w4 := hbw3.trans (hb4.mono hbw3.size)
          have i0 : w4.cell? ⟨w.heap.size + 1, 0, none⟩ = some (.int .i64 p) := by rw [blk_cell hset4]; rfl
          have i1 : w4.cell? ⟨w.heap.size + 1, 1, none⟩ = some (.int .i64 n) := by rw [blk_cell hset4]; rfl
          have u0 := blk_free hset4 0
          have u1 := blk_free hset4 1
          generalize without (p, n) vn = cw at *
          obtain ⟨p', n'⟩ := cw
          go_wp2_with fail
          go_roundg (gk - 1)
          case measure => omega
          case rel =>
            refine ⟨k, p', n', by go_num, by omega, by omega, by omega, hwl.1, hwl.2, unhide HF, (hbw4.setCell (p := ⟨w.heap.size + 1, 0, none⟩) (by simp) _).setCell (p := ⟨w.heap.size + 1, 1, none⟩) (by simp) _, ?_, blk_set (blk_set hset4 0 _) 1 _, ?_⟩
            · rw [Below.heap_setCell _ _ _ _ (by simp), Below.heap_setCell _ _ _ _ (by simp)]; exact hfo4
            · rw [Below.heap_setCell _ _ _ _ (by simp), Below.heap_setCell _ _ _ _ (by simp)]; exact hres4
end Go.Proofs.YtgipjjhkhfihpaaGreatDoor

namespace Go.Proofs.YtgipjjhkhfihpaaGreatDoor
open Go.RowKit

theorem own_set_ne {w : World} {base : Nat} {e : TypeId} {size : Nat} {v : Value} {n : Nat} {xs : List Value} (h : w.ownsRow base e size v n xs) {p : Addr} (hp : v.ownBlock ≠ some p.block) (u : Value) : (w.setCell p u).ownsRow base e size v n xs := by
  obtain ⟨h1, h2⟩ := h
  refine ⟨h1, ?_⟩
  rcases h2 with h2 | ⟨g, cap, cur, rfl, hg, hh, h3⟩
  · exact Or.inl h2
  · refine Or.inr ⟨g, cap, cur, rfl, hg, ?_, h3⟩
    rw [Below.heap_setCell _ _ _ _ (fun e => hp (by subst e; rfl))]; exact hh
/-- A row and a block of another type are apart. -/
theorem own_type_ne {w : World} {base : Nat} {e t : TypeId} {size : Nat} {v : Value} {n : Nat} {xs : List Value} {b : Nat} {c : Array Value} {fr : Nat × Nat} (h : w.ownsRow base e size v n xs) (hb : w.heap[b]? = some (.cells c t fr)) (hne : e ≠ t) : v.ownBlock ≠ some b := by
  rcases h.2 with ⟨rfl, _⟩ | ⟨g, cap, cur, rfl, hg, hh, h3⟩
  · intro h; cases h
  · intro h
    injection h with h
    subst h
    rw [hh] at hb
    injection hb with hb
    injection hb with _ hb _
    exact hne hb
/-- A row stays where all but other blocks do. -/
theorem own_keep {T : Nat → Prop} {w w' : World} {base : Nat} {e : TypeId} {size : Nat} {v : Value} {n : Nat} {xs : List Value} (h : w.ownsRow base e size v n xs) (ho : Only T w w') (hT : ∀ k, v.ownBlock = some k → ¬ T k) : w'.ownsRow base e size v n xs := by
  obtain ⟨h1, h2⟩ := h
  refine ⟨h1, ?_⟩
  rcases h2 with h2 | ⟨g, cap, cur, rfl, hg, hh, h3⟩
  · exact Or.inl h2
  · exact Or.inr ⟨g, cap, cur, rfl, hg, (ho.block g (blk_lt hh) (hT g rfl)).trans hh, h3⟩
theorem infoStep : (Tryz.prog.info? 134).map (fun i => (i.zero, i.size, i.bytes)) = some (some (.agg #[.int .i64 0, .int .i64 0, .int .i64 0, .int .i64 0, .int .i64 0, .int .i64 0]), 6, 48) := by kernel_rfl
/-- Where a row went: it is where it was, or in a new block. -/
def Moved (w : World) (v v' : Value) : Prop := v'.ownBlock = v.ownBlock ∨ ∃ k, v'.ownBlock = some k ∧ w.heap.size ≤ k
def AddPost (base b o : Nat) (p : List Stp) (vS : Value) (s : Stp) (cells : Array Value) (t : TypeId) (w : World) (e : Ending) (w' : World) : Prop :=
  ∃ v', e = .returned (.int .i64 ((p.length : Int) + 1)) ∧ w'.ownsRow base 134 6 v' (p.length + 1) (psCells (p ++ [s])) ∧ w'.heap[b]? = some (.cells (cells.setIfInBounds (o + 1) v') t (0, 0)) ∧ Only (fun k => k = b ∨ vS.ownBlock = some k) w w' ∧ Moved w vS v'

set_option maxRecDepth 100000 in
set_option maxHeartbeats 1600000 in
theorem add_any (base b o : Nat) (p : List Stp) (vS : Value) (s : Stp) (cells : Array Value) (t : TypeId) (w : World) (hfb : w.heap[b]? = some (.cells cells t (0, 0))) (hcs : cells[o + 1]? = some vS) (ht : 134 ≠ t) (hown : w.ownsRow base 134 6 vS p.length (psCells p)) (hl : p.length ≤ 1048576) (hbase : base ≤ w.heap.size) :
    Calls Tryz.prog 72 #[.pointer (some ⟨b, o, none⟩), StpV s] w fun e w' => AddPost base b o p vS s cells t w e w' := by
  obtain ⟨aS, cS, rfl⟩ := own_form hown
  have hbw := blk_lt hfb
  have hne := own_type_ne hown hfb ht
  have hs : w.cell? ⟨b, o + 1, none⟩ = some (.slice aS p.length cS) := by rw [blk_cell hfb]; exact hcs
  obtain ⟨sr, sf, ss, sv, sl⟩ := s
  obtain ⟨sl1, sl2⟩ := sl
  obtain ⟨i1, hi1, hz10, hz11, hz12⟩ := info_parts infoStep
  go_enter Tryz.func72, Tryz.ntmps72
  go_wp2_with fail
  generalize hw0 : w.alloc (.cells #[.int .i64 (sr : Int), .int .i64 (sf : Int), .int .i64 (ss : Int), .int .i64 (sv : Int), .int .i64 (sl1 : Int), .int .i64 (sl2 : Int)] 134) = wz
  have hB : Below w.heap.size w wz := by rw [← hw0]; exact (Below.refl _ _).alloc (Nat.le_refl _) _
  have hst : wz.heap[w.heap.size]? = some (.cells #[.int .i64 (sr : Int), .int .i64 (sf : Int), .int .i64 (ss : Int), .int .i64 (sv : Int), .int .i64 (sl1 : Int), .int .i64 (sl2 : Int)] 134 (0, 0)) := by rw [← hw0]; exact heap_alloc_new _ _
  clear hw0
  have lst := blk_lt hst
  have c0 : wz.cell? ⟨w.heap.size, 0, none⟩ = some (.int .i64 (sr : Int)) := by rw [blk_cell hst]; rfl
  have c1 : wz.cell? ⟨w.heap.size, 1, none⟩ = some (.int .i64 (sf : Int)) := by rw [blk_cell hst]; rfl
  have c2 : wz.cell? ⟨w.heap.size, 2, none⟩ = some (.int .i64 (ss : Int)) := by rw [blk_cell hst]; rfl
  have c3 : wz.cell? ⟨w.heap.size, 3, none⟩ = some (.int .i64 (sv : Int)) := by rw [blk_cell hst]; rfl
  have c4 : wz.cell? ⟨w.heap.size, 4, none⟩ = some (.int .i64 (sl1 : Int)) := by rw [blk_cell hst]; rfl
  have c5 : wz.cell? ⟨w.heap.size, 5, none⟩ = some (.int .i64 (sl2 : Int)) := by rw [blk_cell hst]; rfl
  have hfz := (hB.block _ hbw).trans hfb
  have hsz : wz.cell? ⟨b, o + 1, none⟩ = some (.slice aS p.length cS) := by rw [blk_cell hfz]; exact hcs
  have hfr := blk_free hfz (o + 1)
  have hbz := blk_lt hfz
  have hownz := own_below hown hB
  have hbz0 : base ≤ wz.heap.size := Nat.le_trans hbase hB.size
  have HPS := hide (psCells_snoc p ⟨sr, sf, ss, sv, (sl1, sl2)⟩)
  have HNE := hide hne
  clear hne
  go_region_law (refine step_append_at rfl (.tmp 9) (.tmp 11) 65 rfl base 134 i1 (.agg #[.int .i64 0, .int .i64 0, .int .i64 0, .int .i64 0, .int .i64 0, .int .i64 0]) 6 48 Tryz.underlying65 hi1 hz10 hz11 hz12 rfl (by decide) (.slice aS p.length cS) p.length (psCells p) (hownz.alloc _).drew rfl ⟨wz.heap.size, 0, none⟩ 1 1 [.int .i64 (sr : Int), .int .i64 (sf : Int), .int .i64 (ss : Int), .int .i64 (sv : Int), .int .i64 (sl1 : Int), .int .i64 (sl2 : Int)] rfl rfl (new_cells wz [.int .i64 (sr : Int), .int .i64 (sf : Int), .int .i64 (ss : Int), .int .i64 (sv : Int), .int .i64 (sl1 : Int), .int .i64 (sl2 : Int)] 134) (by simp [Value.oneCell']) (by decide) (by unfold maxLen; omega) (by omega) (by simp; omega) ?_; intro v' w' hown' hgrow hmv; have hfb' : w'.heap[b]? = some (.cells cells t (0, 0)) := (hgrow.block b (by simp [World.drew]; omega) (fun e => unhide HNE e.symm)).trans ((heap_alloc_old wz _ hbz).trans hfz); obtain ⟨g4, cap4, rfl, hg4, hg4', hcap4, hcell4⟩ := own_pos hown' (by omega); have hq3 : w'.cell? ⟨b, o + 1, none⟩ = some (.slice aS p.length cS) := (by rw [blk_cell hfb']; exact hcs); have hqz := blk_free hfb' (o + 1))
  all_goals
    have hlo : o + 1 < cells.size := (Array.getElem?_eq_some_iff.1 hcs).1
    have hset := blk_set hfb' (o + 1) (.slice (some ⟨g4, 0, none⟩) (p.length + 1) cap4)
    have hget : (w'.setCell ⟨b, o + 1, none⟩ (.slice (some ⟨g4, 0, none⟩) (p.length + 1) cap4)).cell? ⟨b, o + 1, none⟩ = some (.slice (some ⟨g4, 0, none⟩) (p.length + 1) cap4) := by rw [blk_cell hset]; simp [hlo]
    have HO := hide (own_set_ne hown' (p := ⟨b, o + 1, none⟩) (own_type_ne hown' hfb' ht) (.slice (some ⟨g4, 0, none⟩) (p.length + 1) cap4))
    have HX : Hid (Only (fun k => k = b ∨ (Value.slice aS p.length cS).ownBlock = some k) w w') := hide ((((Only.of_below hB).alloc _).drew).grown hgrow (fun k hk => Or.inl (Or.inr hk)))
    have HM := hide hmv
    clear hown' hmv hgrow hcell4 hownz
    go_wp2_with fail
    go_ret
    refine ⟨_, ret_int (by omega), ?_, hset, (unhide HX).setCell (p := ⟨b, o + 1, none⟩) (Or.inl (Or.inl rfl)) _, ?_⟩
    · rw [unhide HPS]; exact unhide HO
    · rcases unhide HM with h | ⟨k, h1, h2⟩
      · exact Or.inl h
      · exact Or.inr ⟨k, h1, by have := hB.size; simp [World.drew] at h2; omega⟩
end Go.Proofs.YtgipjjhkhfihpaaGreatDoor

namespace Go.Proofs.YtgipjjhkhfihpaaGreatDoor
open Go.RowKit

/-! ### The search, as a function -/
def meetsB (a b : Nat × Nat) : Bool := (a.1 &&& b.1) ||| (a.2 &&& b.2) != 0
def clashB (a : Nat × Nat) : Bool := a.1 &&& a.2 != 0
def emptyB (a : Nat × Nat) : Bool := a.1 ||| a.2 == 0
def minus (a b : Nat × Nat) : Nat × Nat := (less a.1 b.1, less a.2 b.2)
def swapL (a : Nat × Nat) : Nat × Nat := (a.2, a.1)
/-- The resolvent of two steps, added. -/
def resP (p : List Stp) (a b v : Nat) : List Stp × Nat :=
  if hasLit (litsAt p a) v then (p ++ [⟨3, a, b, v, without2 (litsAt p a) (litsAt p b) v⟩], p.length + 1)
  else (p ++ [⟨3, b, a, v, without2 (litsAt p b) (litsAt p a) v⟩], p.length + 1)
def redP (q : QS) (kind : Nat) (p : List Stp) (n : Nat) : List Stp × Nat :=
  if redQ kind q.vars.reverse (litsAt p n) = litsAt p n then (p, n) else (p ++ [⟨4, n, 0, 0, redQ kind q.vars.reverse (litsAt p n)⟩], p.length + 1)
/-- What changes while nodes are looked at. -/
structure SS where
  nodes : Nat
  ref : List Stp
  aff : List Stp
  kept : List (Nat × Nat)
  most : Nat
/-- What doesn't. -/
structure SC where
  q : QS
  uni : Nat × Nat
  budget : Nat
  room : Nat
def SS.proof (s : SS) (kind : Nat) : List Stp := if kind = 2 then s.aff else s.ref
def SS.lits (s : SS) (f : Nat × Nat) : Nat × Nat := litsAt (s.proof f.1) f.2
def SS.put (s : SS) (kind : Nat) (p : List Stp) : SS := if kind = 2 then { s with aff := p } else { s with ref := p }
def storeK (room : Nat) (kept : List (Nat × Nat)) (f : Nat × Nat) : List (Nat × Nat) := if room = 0 then kept else if room ≤ kept.length then kept.drop 1 ++ [f] else kept ++ [f]
def storeM (room : Nat) (kept : List (Nat × Nat)) (f : Nat × Nat) (most : Nat) : Nat := if room = 0 then most else if most < (storeK room kept f).length then (storeK room kept f).length else most
def SS.store (room : Nat) (s : SS) (f : Nat × Nat) : SS := { s with kept := storeK room s.kept f, most := storeM room s.kept f s.most }
def SS.keep (room : Nat) (s : SS) (f : Nat × Nat) : SS := if emptyB (s.lits f) then s else s.store room f
def SS.reduce (q : QS) (s : SS) (f : Nat × Nat) : SS × (Nat × Nat) := (s.put f.1 (redP q f.1 (s.proof f.1) f.2).1, (f.1, (redP q f.1 (s.proof f.1) f.2).2))

def clausesOf (q : QS) (kept : List (Nat × Nat)) : List Nat := (List.range q.cl.length).map (· + 1) ++ (kept.filter (fun f => f.1 == 1)).map (·.2)
def leftOf (c vals : Nat × Nat) : Nat × Nat := minus c (swapL vals)
def openB (c vals : Nat × Nat) : Bool := !meetsB c vals && !clashB c
def isConf (uni vals c : Nat × Nat) : Bool := openB c vals && emptyB (minus (leftOf c vals) uni)
def confOf (ref : List Stp) (uni : Nat × Nat) (cs : List Nat) (vals : Nat × Nat) : Nat := (cs.find? (fun s => isConf uni vals (litsAt ref s))).getD 0
def listFrom (c : Nat × Nat) : Nat → Nat → List Int
  | 0, _ => []
  | k + 1, v => (if hasLit c v then [(v : Int)] else []) ++ ((if hasLit c (-(v : Int)) then [-(v : Int)] else []) ++ listFrom c k (v + 1))
/-- The literals, rising. -/
def listOf (c : Nat × Nat) : List Int := listFrom c 8 1
def isUnit (uni vals c : Nat × Nat) : Bool := openB c vals && ((listOf (leftOf c vals)).length == 1 && !meetsB (leftOf c vals) uni)
def unitOf (ref : List Stp) (uni : Nat × Nat) (cs : List Nat) (vals : Nat × Nat) : Int × Nat := match cs.find? (fun s => isUnit uni vals (litsAt ref s)) with
  | none => (0, 0)
  | some s => ((listOf (leftOf (litsAt ref s) vals)).headD 0, s)
structure US where
  vals : Nat × Nat
  trail : List (Int × Nat)
  conf : Nat
def unitsGo (ref : List Stp) (uni : Nat × Nat) (cs : List Nat) : Nat → Nat × Nat → List (Int × Nat) → US
  | 0, vals, trail => ⟨vals, trail, 0⟩
  | m + 1, vals, trail => if confOf ref uni cs vals ≠ 0 then ⟨vals, trail, confOf ref uni cs vals⟩ else
    if (unitOf ref uni cs vals).2 = 0 then ⟨vals, trail, 0⟩ else unitsGo ref uni cs m (withLit vals (unitOf ref uni cs vals).1) (trail ++ [unitOf ref uni cs vals])
def unitsOf (C : SC) (s : SS) (path : Nat × Nat) : US := unitsGo s.ref C.uni (clausesOf C.q s.kept) (C.q.vars.length + 1) path []
/-- From the last unit to the first. -/
def expl : List (Int × Nat) → List Stp → Nat → List Stp × Nat
  | [], p, n => (p, n)
  | m :: ms, p, n => if hasLit (litsAt p n) (-m.1) then expl ms (resP p m.2 n m.1.natAbs).1 (resP p m.2 n m.1.natAbs).2 else expl ms p n
def explain (C : SC) (s : SS) (u : US) : SS × (Nat × Nat) :=
  let r := expl u.trail.reverse s.ref u.conf
  let d := redP C.q 1 r.1 r.2
  let s2 : SS := { s with ref := d.1 }
  (if r.2 ≠ u.conf then s2.keep C.room (1, d.2) else s2, (1, d.2))
def holdsB (c path : Nat × Nat) : Bool := emptyB (minus c path)
def shrinkStep (q : QS) (u : Bool) (c : Nat × Nat) (v : Nat × Bool) : Nat × Nat := if v.2 = u ∧ satQ q.cl (without c v.1) = true then without c v.1 else c
def shrinkK (q : QS) (u : Bool) (c : Nat × Nat) : Nat × Nat := q.vars.reverse.foldl (shrinkStep q u) c
def shrinkQ (q : QS) (c : Nat × Nat) : Nat × Nat := shrinkK q false (shrinkK q true c)
def cubeOf (C : SC) (s : SS) (path vals : Nat × Nat) : SS × (Nat × Nat) :=
  match s.kept.find? (fun f => f.1 == 2 && holdsB (s.lits f) path) with
  | some f => (s, f)
  | none => if satQ C.q.cl vals then
      let p := s.aff ++ [⟨2, 0, 0, 0, shrinkQ C.q vals⟩]
      let d := redP C.q 2 p p.length
      let s2 : SS := { s with aff := d.1 }
      (s2.keep C.room (2, d.2), (2, d.2))
    else (s, (0, 0))
/-- A node ahead of its branches: what was found, or the values. -/
def nodeOf (C : SC) (s : SS) (path : Nat × Nat) : (SS × (Nat × Nat)) ⊕ (SS × (Nat × Nat)) :=
  if 0 < C.budget ∧ C.budget ≤ s.nodes then .inl (s, (0, 0)) else
  let s1 : SS := { s with nodes := s.nodes + 1 }
  let u := unitsOf C s1 path
  if u.conf ≠ 0 then .inl (explain C s1 u) else
  let r := cubeOf C s1 path u.vals
  if r.2.1 ≠ 0 then .inl r else .inr (r.1, u.vals)
def joinOf (C : SC) (s : SS) (a b : Nat × Nat) (v : Nat) : SS × (Nat × Nat) :=
  let r := resP (s.proof a.1) a.2 b.2 v
  let d := redP C.q a.1 r.1 r.2
  let s2 := s.put a.1 d.1
  (s2.keep C.room (a.1, d.2), (a.1, d.2))
def lookM (C : SC) : Nat → Nat × Nat → Nat → SS → SS × (Nat × Nat)
  | 0, path, _, s => match nodeOf C s path with
    | .inl r => r
    | .inr r => (r.1, (0, 0))
  | m + 1, path, depth, s => match nodeOf C s path with
    | .inl r => r
    | .inr (s1, vals) =>
      let v := (C.q.vars.getD depth (0, false)).1
      let side : Int := if hasLit vals (-(v : Int)) then -(v : Int) else v
      let a := lookM C m (withLit path side) (depth + 1) s1
      if hasVarB (a.1.lits a.2) v then
        let b := lookM C m (withLit path (-side)) (depth + 1) a.1
        if hasVarB (b.1.lits b.2) v then joinOf C b.1 a.2 b.2 v else b
      else a
/-! ### What is needed of a proof, and its text -/
def markOne (b : Bool) (i n : Nat) (m : List Bool) : List Bool := if b = true ∧ 0 < n ∧ n < i then m.set n true else m
def markStep (p : List Stp) (last i : Nat) (m : List Bool) : List Bool :=
  let m1 := if i = last then m.set i true else m
  let b := m1.getD i false && decide ((p.getD (i - 1) ⟨0, 0, 0, 0, (0, 0)⟩).rule ≠ 1)
  markOne b i (p.getD (i - 1) ⟨0, 0, 0, 0, (0, 0)⟩).second (markOne b i (p.getD (i - 1) ⟨0, 0, 0, 0, (0, 0)⟩).first m1)
def markTo (p : List Stp) (last : Nat) : Nat → List Bool → List Bool
  | 0, m => m
  | i + 1, m => markTo p last i (markStep p last (i + 1) m)
def needs (p : List Stp) (last : Nat) : List Bool := markTo p last p.length (List.replicate (p.length + 1) false)
/-- A step with the new numbers of those that it is made of. -/
def renum (nums : List Nat) (i : Nat) (s : Stp) : Stp := { s with first := if s.rule ≠ 1 ∧ s.first ≤ i then nums.getD s.first 0 else s.first, second := if s.second ≤ i then nums.getD s.second 0 else s.second }
def shortTo (p : List Stp) (mk : List Bool) : Nat → List Stp → List Nat → List Stp × List Nat
  | 0, sh, nums => (sh, nums)
  | m + 1, sh, nums =>
    let i := p.length - (m + 1)
    if mk.getD (i + 1) false then shortTo p mk m (sh ++ [renum nums i (p.getD i ⟨0, 0, 0, 0, (0, 0)⟩)]) (nums.set (i + 1) (sh.length + 1)) else shortTo p mk m sh nums
def shortOf (p : List Stp) (last : Nat) : List Stp := (shortTo p (needs p last) p.length [] (List.replicate (p.length + 1) 0)).1

def uniTo (vs : List (Nat × Bool)) (u : Nat × Nat) : Nat × Nat := vs.foldl (fun u v => if v.2 then withLit (withLit u v.1) (-(v.1 : Int)) else u) u
def axioms (cl : List (Nat × Nat)) : List Stp := cl.zipIdx.map (fun c => ⟨1, c.2 + 1, 0, 0, c.1⟩)
def beginC (q : QS) (budget room : Nat) : SC := ⟨q, uniTo q.vars (0, 0), budget, room⟩
def beginS (q : QS) : SS := ⟨0, axioms q.cl, [], [], 0⟩
def solveM (q : QS) (budget room : Nat) : SS × (Nat × Nat) := lookM (beginC q budget room) q.vars.length (0, 0) 0 (beginS q)
end Go.Proofs.YtgipjjhkhfihpaaGreatDoor
