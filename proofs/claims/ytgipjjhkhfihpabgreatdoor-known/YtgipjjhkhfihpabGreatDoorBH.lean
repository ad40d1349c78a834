import Derived.Test.YtgipjjhkhfihpabGreatDoorBG
import Derived.Test.YtgipjjhkhfihpabGreatDoorAA
import Derived.Deep.RegionLaw
namespace Go.Proofs.YtgipjjhkhfihpabGreatDoor
open Go.RowKit

/-! ### Move, Values, Turn -/
def MoveE (bl : BL) (g : GS) (bits : Int) : Nat := if bl.length ≤ g.turn then 7 else if bits < 0 ∨ (2 : Int) ^ (bl.getD g.turn ([], false)).1.length ≤ bits then 6 else 0
def MoveG (rs : List RuleP) (bl : BL) (g : GS) (bits : Int) : GS := if MoveE bl g bits = 0 then moveW rs bl g bits.toNat else g
theorem pow_le8 (k : Nat) (h : k ≤ 8) : (2 : Int) ^ k ≤ 256 := by
  have : ∀ k : Fin 9, (2 : Int) ^ k.val ≤ 256 := by decide
  exact this ⟨k, by omega⟩
theorem wrap_pow8 (k : Nat) (h : k ≤ 8) : wrap64 (2 ^ k) = (2 : Int) ^ k := by
  have h1 := pow_le8 k h
  have h0 : (0 : Int) ≤ (2 : Int) ^ k := by
    have : ∀ k : Fin 9, (0 : Int) ≤ (2 : Int) ^ k.val := by decide
    exact this ⟨k, by omega⟩
  exact IntWalk.wrap64_in _ ⟨by omega, by omega⟩
theorem moveBlk_drop (row : List Nat) (bits k : Nat) (vals : Nat × Nat) (h : k < row.length) : moveBlk (row.drop k) bits k vals = moveBlk (row.drop (k + 1)) bits (k + 1) (setW vals row[k] (bits.testBit k)) := by
  rw [List.drop_eq_getElem_cons h, moveBlk]
set_option maxRecDepth 100000 in
set_option maxHeartbeats 1600000 in
theorem gmove_any (b : Nat) (t : TypeId) (bl : BL) (rs : List RuleP) (g : GS) (gv : GV) (bits : Int) (w : World) (hG : GameAt w b t bl rs g gv) (hR : RBd rs) (hB : BBd bl) (hp : g.vals.1 < 512 ∧ g.vals.2 < 512) (ht : g.turn ≤ bl.length) (hbi : i64ok bits) :
    Calls Tryz.prog 36 #[.pointer (some ⟨b, 0, none⟩), .int .i64 bits] w fun e w' => e = .returned (.int .i64 (MoveE bl g bits : Nat)) ∧ GameAt w' b t bl rs (MoveG rs bl g bits) gv ∧ Only (· = b) w w' := by
  obtain ⟨turn, p, n⟩ := g
  dsimp only at ht hp
  have lb := blk_lt hG.fb
  have hbl := hB.len
  obtain ⟨aB, cB, hBf⟩ := own_form hG.rows.oB
  have c0 : w.cell? ⟨b, 0, none⟩ = some (.slice aB bl.length cB) := by rw [blk_cell hG.fb]; exact congrArg some hBf
  have c2 : w.cell? ⟨b, 2, none⟩ = some (.int .i64 (turn : Int)) := by rw [blk_cell hG.fb]; rfl
  by_cases hl : turn < bl.length
  · have hd1 : decide ((bl.length : Int) ≤ (turn : Int)) = false := decide_eq_false (by omega)
    have hd2 : decide (bl.length ≤ turn) = false := decide_eq_false (by omega)
    have hhl : turn < gv.hdrs.length := by rw [hG.rows.len]; exact hl
    obtain ⟨e0, e1⟩ := blCells_at bl gv.hdrs turn hl hhl
    have hoB := hG.rows.oB
    rw [hBf] at hoB
    obtain ⟨gB, cap, hVe, hg, hg', _, hcell⟩ := own_pos hoB (by omega)
    injection hVe with hVe _ hV2
    subst hVe hV2
    have hx0 := hcell _ _ e0
    have hrow := hG.rows.row turn hl
    obtain ⟨aX, cX, hXf⟩ := own_form hrow
    rw [hXf] at hx0
    clear hcell e0 e1
    go_enter Tryz.func36, Tryz.ntmps36
    go_wp2_with fail
    go_quiet (fail)
    have b1 : Below w.heap.size w (w.drewN nq) := below_drewN (Below.refl _ _) nq
    have hG1 := hG.later b1
    replace hx0 : (w.drewN nq).cell? ⟨gB, turn * 2, none⟩ = _ := (b1.cell (p := ⟨gB, turn * 2, none⟩) hg').trans hx0
    replace c0 : (w.drewN nq).cell? ⟨b, 0, none⟩ = _ := (b1.cell (p := ⟨b, 0, none⟩) lb).trans c0
    replace c2 : (w.drewN nq).cell? ⟨b, 2, none⟩ = _ := (b1.cell (p := ⟨b, 2, none⟩) lb).trans c2
    have hgw : gB < (w.drewN nq).heap.size := Nat.lt_of_lt_of_le hg' b1.size
    generalize w.drewN nq = w1 at *
    have lb1 := blk_lt hG1.fb
    go_wp2_with fail
    go_quiet (fail)
    have b2 : Below w1.heap.size w1 (w1.drewN nq) := below_drewN (Below.refl _ _) nq
    have hG2 := hG1.later b2
    have hb2 : Below w.heap.size w (w1.drewN nq) := b1.trans (b2.mono b1.size)
    generalize w1.drewN nq = w2 at *
    clear hG1 b2 b1 hgw lb1 hx0 c0 c2
    have lb2 := blk_lt hG2.fb
    have hbd := hB.row _ (List.getElem_mem hl)
    obtain ⟨row, hro⟩ : ∃ row, bl[turn].1 = row := ⟨_, rfl⟩
    have hrg : (bl.getD turn ([], false)).1 = row := by rw [← hro]; simp [List.getD, hl]
    have HMG : Hid (MoveE bl ⟨turn, (p, n)⟩ bits = if bits < 0 ∨ (2 : Int) ^ row.length ≤ bits then 6 else 0) := hide (by
      unfold MoveE; rw [if_neg (by show ¬ bl.length ≤ turn; omega)]; rw [← hrg])
    have HMW : Hid (moveW rs bl ⟨turn, (p, n)⟩ bits.toNat = ansW rs bl ⟨turn + 1, moveBlk row bits.toNat 0 (p, n)⟩) := hide (by unfold moveW; rw [← hrg])
    rw [hro] at hbd ⊢
    have HRO := hide hro
    clear hro hrg
    have hlr := hbd.1
    have hw64 : wrap64 (2 ^ row.length) = (2 : Int) ^ row.length := wrap_pow8 row.length hlr
    by_cases h0 : bits < 0
    · have hd3 : decide (bits < 0) = true := decide_eq_true h0
      have HE : Hid (MoveE bl ⟨turn, (p, n)⟩ bits = 6) := hide (by rw [unhide HMG, if_pos (Or.inl h0)])
      have HF : Hid (MoveG rs bl ⟨turn, (p, n)⟩ bits = ⟨turn, (p, n)⟩) := hide (by unfold MoveG; rw [unhide HE]; rfl)
      clear h0
      go_wp2_with fail
      go_ret
      exact ⟨by rw [unhide HE]; rfl, by rw [unhide HF]; exact hG2, Only.of_below hb2⟩
    · have hd3 : decide (bits < 0) = false := decide_eq_false h0
      by_cases h1 : (2 : Int) ^ row.length ≤ bits
      · have hd4 : decide ((2 : Int) ^ row.length ≤ bits) = true := decide_eq_true h1
        have HE : Hid (MoveE bl ⟨turn, (p, n)⟩ bits = 6) := hide (by rw [unhide HMG, if_pos (Or.inr h1)])
        have HF : Hid (MoveG rs bl ⟨turn, (p, n)⟩ bits = ⟨turn, (p, n)⟩) := hide (by unfold MoveG; rw [unhide HE]; rfl)
        clear h0 h1
        go_wp2_with fail
        go_ret
        exact ⟨by rw [unhide HE]; rfl, by rw [unhide HF]; exact hG2, Only.of_below hb2⟩
      · have hd4 : decide ((2 : Int) ^ row.length ≤ bits) = false := decide_eq_false h1
        have HE : Hid (MoveE bl ⟨turn, (p, n)⟩ bits = 0) := hide (by rw [unhide HMG, if_neg (fun h => h.elim h0 h1)])
        have HF : Hid (MoveG rs bl ⟨turn, (p, n)⟩ bits = ansW rs bl ⟨turn + 1, moveBlk row bits.toNat 0 (p, n)⟩) := hide (by unfold MoveG; rw [unhide HE, if_pos rfl, unhide HMW])
        have hp9 : (2 : Int) ^ row.length ≤ 256 := pow_le8 row.length hlr
        obtain ⟨bn, rfl⟩ : ∃ bn : Nat, bits = (bn : Int) := ⟨bits.toNat, by omega⟩
        have hbn : bn < 512 := by omega
        clear h0 h1
        go_wp2_with fail
        clear hw64 hd4 hd3 hp9
        go_loopg [40] (row.length) (fun m i wx => ∃ (k : Nat) (vals : Nat × Nat), i = .int .i64 k ∧ k + m = row.length ∧ (vals.1 < 512 ∧ vals.2 < 512) ∧ moveBlk row bn 0 (p, n) = moveBlk (row.drop k) bn k vals ∧ GameAt wx b t bl rs ⟨turn, vals⟩ gv ∧ Only (· = b) w wx)
        case atStart => exact ⟨0, (p, n), rfl, by omega, hp, rfl, hG2, Only.of_below hb2⟩
        case round =>
          obtain ⟨k, vals, rfl, hk, hv9, hab, hG3, ho3⟩ := hrel
          have HAB := hide hab
          clear hab
          have lb3 := blk_lt hG3.fb
          by_cases hkl : k < row.length
          · have hr3 := hG3.rows.row turn hl
            rw [hXf] at hr3
            have hvv := hbd.2 _ (List.getElem_mem hkl)
            have hlen : bl[turn].1.length = row.length := by rw [unhide HRO]
            obtain ⟨gX, cap, hVe, hgx, hgx', _, hcell⟩ := own_pos hr3 (by omega)
            injection hVe with hVe hV1 hV2
            subst hVe hV2
            have hxk : wr.cell? ⟨gX, k, none⟩ = some (.int .i64 (row[k] : Int)) := hcell _ _ (by rw [unhide HRO]; simp [ints, hkl])
            have HST := hide (moveBlk_drop row bn k vals hkl)
            have hsb := shr_bit_eq bn k hbn (by omega)
            clear hcell hr3
            generalize row[k] = v at *
            generalize htb : bn.testBit k = x at *
            go_wp2_with fail
            refine (set_any b t bl rs ⟨turn, vals⟩ gv v x _ hG3 hv9 hvv.2).mono ?_
            rintro e w5 ⟨rfl, hG5, ho5⟩
            have hv5 := withLit_lt vals (litI v x) hv9.1 hv9.2
            go_wp2_with fail
            go_roundg (gk - 1)
            case measure => omega
            case rel => exact ⟨k + 1, setW vals v x, by go_num, by omega, hv5, by rw [unhide HAB, unhide HST], hG5, ho3.trans ho5⟩
          · have hke : k = row.length := by omega
            have HE2 : Hid (moveBlk row bn 0 (p, n) = vals) := hide (by rw [unhide HAB, hke, List.drop_length]; rfl)
            have d2 : wr.cell? ⟨b, 2, none⟩ = some (.int .i64 (turn : Int)) := by rw [blk_cell hG3.fb]; rfl
            have z2 := blk_free hG3.fb 2
            have hdk : decide ((k : Int) < (row.length : Int)) = false := decide_eq_false (by omega)
            have ho6 : Only (· = b) wr (wr.setCell ⟨b, 2, none⟩ (.int .i64 ((turn : Int) + 1))) := (Only.refl (· = b) wr).setCell (p := ⟨b, 2, none⟩) (Or.inl rfl) _
            have hG6 : GameAt (wr.setCell ⟨b, 2, none⟩ (.int .i64 ((turn : Int) + 1))) b t bl rs ⟨turn + 1, vals⟩ gv := ⟨blk_set hG3.fb 2 _, hG3.tt, hG3.rest ho6⟩
            have ho7 := ho3.trans ho6
            have HG6 := hide hG6
            have HO7 := hide ho7
            clear hG6 ho6 ho7
            go_wp2_with fail
            refine (answer_any b t bl rs ⟨turn + 1, vals⟩ gv _ (unhide HG6) hR hB hv9 (by show turn + 1 ≤ _; omega)).mono ?_
            rintro e w8 ⟨rfl, hG8, ho8⟩
            have HE3 : Hid (MoveG rs bl ⟨turn, (p, n)⟩ (bn : Int) = ansW rs bl ⟨turn + 1, vals⟩) := hide (by rw [unhide HF, Int.toNat_natCast, unhide HE2])
            go_wp2_with fail
            go_ret
            exact ⟨by rw [unhide HE]; rfl, by rw [unhide HE3]; exact hG8, (unhide HO7).trans ho8⟩
  · have hd1 : decide ((bl.length : Int) ≤ (turn : Int)) = true := decide_eq_true (by omega)
    have hd2 : decide (bl.length ≤ turn) = true := decide_eq_true (by omega)
    have HE : Hid (MoveE bl ⟨turn, (p, n)⟩ bits = 7) := hide (by unfold MoveE; rw [if_pos (by show bl.length ≤ turn; omega)])
    have HG : Hid (MoveG rs bl ⟨turn, (p, n)⟩ bits = ⟨turn, (p, n)⟩) := hide (by unfold MoveG; rw [unhide HE]; rfl)
    go_enter Tryz.func36, Tryz.ntmps36
    go_wp2_with fail
    go_quiet (fail)
    have b1 : Below w.heap.size w (w.drewN nq) := below_drewN (Below.refl _ _) nq
    have hG1 := hG.later b1
    generalize w.drewN nq = w1 at *
    go_wp2_with fail
    go_ret
    exact ⟨by rw [unhide HE]; rfl, by rw [unhide HG]; exact hG1, Only.of_below b1⟩
end Go.Proofs.YtgipjjhkhfihpabGreatDoor

namespace Go.Proofs.YtgipjjhkhfihpabGreatDoor
open Go.RowKit

/-! ### Values, Turn -/
def valTo (c : Nat × Nat) (k : Nat) : List Value := (List.range 8).map (fun i => Value.int .i64 (if i < k then valV c (i + 1) else 0))
theorem valTo_zero (c : Nat × Nat) : (valTo c 0).toArray = #[.int .i64 0, .int .i64 0, .int .i64 0, .int .i64 0, .int .i64 0, .int .i64 0, .int .i64 0, .int .i64 0] := rfl
theorem valTo_at (c : Nat × Nat) (k i : Nat) (hi : i < 8) : (valTo c k).toArray[i]? = some (.int .i64 (if i < k then valV c (i + 1) else 0)) := by
  unfold valTo; simp [hi]
theorem valTo_set (c : Nat × Nat) (k : Nat) (hk : k < 8) : (valTo c k).toArray.set! k (.int .i64 (valV c (k + 1))) = (valTo c (k + 1)).toArray := by
  apply Array.ext
  · simp [valTo]
  · intro i h1 h2
    have hi : i < 8 := by simpa [valTo] using h2
    have e2 := valTo_at c (k + 1) i hi
    rw [Array.getElem?_eq_getElem h2] at e2
    injection e2 with e2
    rw [e2]
    by_cases e : i = k
    · subst e
      simp [Array.set!]
    · have e1 := valTo_at c k i hi
      rw [Array.getElem?_eq_getElem (by simpa [valTo] using hi)] at e1
      injection e1 with e1
      simp only [Array.set!]
      rw [Array.getElem_setIfInBounds_ne (by simpa [valTo] using hi) (fun h => e h.symm), e1]
      by_cases h : i < k
      · rw [if_pos h, if_pos (by omega)]
      · rw [if_neg h, if_neg (by omega)]
theorem valTo_keep (c : Nat × Nat) (k : Nat) (h0 : valV c (k + 1) = 0) : valTo c k = valTo c (k + 1) := by
  unfold valTo
  apply List.map_congr_left
  intro i _
  by_cases e : i = k
  · subst e; rw [if_neg (by omega), if_pos (by omega), h0]
  · by_cases h : i < k
    · rw [if_pos h, if_pos (by omega)]
    · rw [if_neg h, if_neg (by omega)]
set_option maxRecDepth 100000 in
set_option maxHeartbeats 1600000 in
theorem gvalues_any (b : Nat) (t : TypeId) (bl : BL) (rs : List RuleP) (g : GS) (gv : GV) (w : World) (hG : GameAt w b t bl rs g gv) (hp : g.vals.1 < 512 ∧ g.vals.2 < 512) :
    Calls Tryz.prog 40 #[.pointer (some ⟨b, 0, none⟩)] w fun e w' => ∃ k, e = .returned (.slice (some ⟨k, 0, none⟩) 8 8) ∧ w.heap.size ≤ k ∧ w'.heap[k]? = some (.cells (valTo g.vals 8).toArray 3 (0, 0)) ∧ Below w.heap.size w w' := by
  obtain ⟨turn, p, n⟩ := g
  dsimp only at hp
  have lb := blk_lt hG.fb
  have hmk : ∀ w : World, (Instr.makeSlice 59 (.int .i64 8) (.int .i64 8)).run Tryz.prog w = .ok (.slice (some ⟨w.heap.size, 0, none⟩) 8 8) (w.alloc (.cells #[.int .i64 0, .int .i64 0, .int .i64 0, .int .i64 0, .int .i64 0, .int .i64 0, .int .i64 0, .int .i64 0] 3)) := fun _ => by kernel_rfl
  go_enter Tryz.func40, Tryz.ntmps40
  go_wp2_with fail
  clear hmk
  go_loopg [8] 8 (fun m i wx => ∃ (k : Nat), i = .int .i64 k ∧ k + m = 8 ∧ Below w.heap.size w wx ∧ wx.heap[w.heap.size]? = some (.cells (valTo (p, n) k).toArray 3 (0, 0)))
  case atStart => exact ⟨0, rfl, by omega, (Below.refl _ _).alloc (Nat.le_refl _) _, by rw [valTo_zero]; exact heap_alloc_new _ _⟩
  case round =>
    obtain ⟨k, rfl, hk, hb, hblk⟩ := hrel
    have hGr := hG.later hb
    have lbr := blk_lt hGr.fb
    have lk := blk_lt hblk
    by_cases hlt : k < 8
    · have HV : Hid (valV (p, n) (k + 1) = if hasLit (p, n) (-(k : Int) - 1) then -1 else if hasLit (p, n) ((k : Int) + 1) then 1 else 0) := hide (by
        unfold valV
        rw [← hasLit_L (p, n) (k + 1) false (by omega) (by omega), ← hasLit_L (p, n) (k + 1) true (by omega) (by omega)]
        rw [show litI (k + 1) false = -(k : Int) - 1 from by unfold litI; simp; omega, show litI (k + 1) true = (k : Int) + 1 from by unfold litI; simp])
      have m3 : wr.cell? ⟨b, 3, none⟩ = some (.int .i64 (p : Int)) := by rw [blk_cell hGr.fb]; rfl
      have m4 : wr.cell? ⟨b, 4, none⟩ = some (.int .i64 (n : Int)) := by rw [blk_cell hGr.fb]; rfl
      have hd : decide ((k : Int) < 8) = true := decide_eq_true (by omega)
      have hwn : IntKind.i64.wrap (-(k : Int)) = -(k : Int) := wrap_neg_small' k (by omega)
      go_wp2_with fail
      refine (has_any p n ((k : Int) + 1) _ hp.1 hp.2 (by omega) (by omega)).mono ?_
      rintro e w1 ⟨rfl, hb1⟩
      have hG1 := hGr.later hb1
      have hblk1 := (hb1.block _ lk).trans hblk
      have hB1 := hb.trans (hb1.mono hb.size)
      have lb1 := blk_lt hG1.fb
      have l1 := blk_lt hblk1
      have n3 : w1.cell? ⟨b, 3, none⟩ = some (.int .i64 (p : Int)) := by rw [blk_cell hG1.fb]; rfl
      have n4 : w1.cell? ⟨b, 4, none⟩ = some (.int .i64 (n : Int)) := by rw [blk_cell hG1.fb]; rfl
      have j0 : w1.cell? ⟨w.heap.size, k, none⟩ = some (.int .i64 0) := by rw [blk_cell hblk1, valTo_at _ _ _ hlt, if_neg (by omega)]
      have z0 := blk_free hblk1 k
      have hne : b ≠ w.heap.size := by omega
      cases h1 : hasLit (p, n) ((k : Int) + 1) with
      | true =>
        have hblk2 := blk_set hblk1 k (.int .i64 1)
        have hB2 := hB1.setCell (p := ⟨w.heap.size, k, none⟩) (Nat.le_refl _) (.int .i64 1)
        have hfb2 : (w1.setCell ⟨w.heap.size, k, none⟩ (.int .i64 1)).heap[b]? = _ := (Below.heap_setCell _ _ _ _ hne).trans hG1.fb
        have q3 : (w1.setCell ⟨w.heap.size, k, none⟩ (.int .i64 1)).cell? ⟨b, 3, none⟩ = some (.int .i64 (p : Int)) := by rw [blk_cell hfb2]; rfl
        have q4 : (w1.setCell ⟨w.heap.size, k, none⟩ (.int .i64 1)).cell? ⟨b, 4, none⟩ = some (.int .i64 (n : Int)) := by rw [blk_cell hfb2]; rfl
        have lb2 := blk_lt hfb2
        go_wp2_with fail
        refine (has_any p n (-(k : Int) - 1) _ hp.1 hp.2 (by omega) (by omega)).mono ?_
        rintro e w3 ⟨rfl, hb3⟩
        have hblk3 := (hb3.block _ (blk_lt hblk2)).trans hblk2
        have hB3 := hB2.trans (hb3.mono hB2.size)
        have l3 := blk_lt hblk3
        have i0 : w3.cell? ⟨w.heap.size, k, none⟩ = some (.int .i64 1) := by rw [blk_cell hblk3, Array.getElem?_setIfInBounds_self_of_lt (by simp [valTo]; omega)]
        have z3 := blk_free hblk3 k
        cases h2 : hasLit (p, n) (-(k : Int) - 1) with
        | true =>
          have HX : Hid (valV (p, n) (k + 1) = -1) := hide (by rw [unhide HV, h2]; rfl)
          have HB4 := hide (blk_set hblk3 k (.int .i64 (-1)))
          have HBB := hide (hB3.setCell (p := ⟨w.heap.size, k, none⟩) (Nat.le_refl _) (.int .i64 (-1)))
          go_wp2_with fail
          go_roundg (gk - 1)
          case measure => omega
          case rel => exact ⟨k + 1, by go_num, by omega, unhide HBB, by rw [← valTo_set _ _ hlt, unhide HX]; have h := unhide HB4; rw [show ((valTo (p, n) k).toArray.setIfInBounds k (Value.int .i64 1)).setIfInBounds k (Value.int .i64 (-1)) = (valTo (p, n) k).toArray.setIfInBounds k (Value.int .i64 (-1)) from by simp] at h; exact h⟩
        | false =>
          have HX : Hid (valV (p, n) (k + 1) = 1) := hide (by rw [unhide HV, h2, h1]; rfl)
          go_wp2_with fail
          go_roundg (gk - 1)
          case measure => omega
          case rel => exact ⟨k + 1, by go_num, by omega, hB3, by rw [← valTo_set _ _ hlt, unhide HX]; exact hblk3⟩
      | false =>
        go_wp2_with fail
        refine (has_any p n (-(k : Int) - 1) _ hp.1 hp.2 (by omega) (by omega)).mono ?_
        rintro e w3 ⟨rfl, hb3⟩
        have hblk3 := (hb3.block _ (blk_lt hblk1)).trans hblk1
        have hB3 := hB1.trans (hb3.mono hB1.size)
        have l3 := blk_lt hblk3
        have i0 : w3.cell? ⟨w.heap.size, k, none⟩ = some (.int .i64 0) := by rw [blk_cell hblk3, valTo_at _ _ _ hlt, if_neg (by omega)]
        have z3 := blk_free hblk3 k
        cases h2 : hasLit (p, n) (-(k : Int) - 1) with
        | true =>
          have HX : Hid (valV (p, n) (k + 1) = -1) := hide (by rw [unhide HV, h2]; rfl)
          have HB4 := hide (blk_set hblk3 k (.int .i64 (-1)))
          have HBB := hide (hB3.setCell (p := ⟨w.heap.size, k, none⟩) (Nat.le_refl _) (.int .i64 (-1)))
          go_wp2_with fail
          go_roundg (gk - 1)
          case measure => omega
          case rel => exact ⟨k + 1, by go_num, by omega, unhide HBB, by rw [← valTo_set _ _ hlt, unhide HX]; have h := unhide HB4; exact h⟩
        | false =>
          have HX : Hid (valV (p, n) (k + 1) = 0) := hide (by rw [unhide HV, h2, h1]; rfl)
          go_wp2_with fail
          go_roundg (gk - 1)
          case measure => omega
          case rel => exact ⟨k + 1, by go_num, by omega, hB3, by rw [← valTo_keep _ _ (unhide HX)]; exact hblk3⟩
    · have hk8 : k = 8 := by omega
      subst hk8
      go_wp2_with fail
      go_ret
      exact ⟨_, rfl, Nat.le_refl _, hblk, hb⟩
set_option maxRecDepth 100000 in
set_option maxHeartbeats 1600000 in
theorem gturn_any (b : Nat) (t : TypeId) (bl : BL) (rs : List RuleP) (g : GS) (gv : GV) (w : World) (hG : GameAt w b t bl rs g gv) :
    Calls Tryz.prog 38 #[.pointer (some ⟨b, 0, none⟩)] w fun e w' => e = .returned (.int .i64 (g.turn : Int)) ∧ w' = w := by
  have lb := blk_lt hG.fb
  have c2 : w.cell? ⟨b, 2, none⟩ = some (.int .i64 (g.turn : Int)) := by rw [blk_cell hG.fb]; rfl
  go_enter Tryz.func38, Tryz.ntmps38
  go_wp2_with fail
  go_ret
  exact ⟨rfl, rfl⟩
end Go.Proofs.YtgipjjhkhfihpabGreatDoor

namespace Go.Proofs.YtgipjjhkhfihpabGreatDoor
open Go.RowKit

/-! ### wins -/
set_option maxRecDepth 100000 in
set_option maxHeartbeats 1600000 in
theorem wins_any (q : QS) (aV aC aS : Option Addr) (cV nC cC nS cS kind : Nat) (row : List Nat) (vX : Value) (w : World) (hV : w.ownsRow 0 109 2 (.slice aV q.vars.length cV) q.vars.length (varCells q.vars)) (hl : q.vars.length ≤ 8) (hk : kind = 1 ∨ kind = 2)
    (hX : w.ownsRow 0 3 1 vX row.length (ints row)) (hr : row.length ≤ 8) :
    Calls Tryz.prog 63 #[.agg #[.slice aV q.vars.length cV, .slice aC nC cC], .agg #[.int .i64 (kind : Int), .slice aS nS cS], vX] w fun e w' => e = .returned (.bool (winsW q kind row)) ∧ Below w.heap.size w w' := by
  obtain ⟨aX, cX, rfl⟩ := own_form hX
  cases row with
  | nil =>
    go_enter Tryz.func63, Tryz.ntmps63
    go_wp2_with fail
    go_ret
    exact ⟨rfl, ((Below.refl _ _).alloc (Nat.le_refl _) _).alloc (by simp) _⟩
  | cons v r =>
    have HW : Hid (winsW q kind (v :: r) = (((findV q.vars v).getD (0, false)).2 == (kind == 1))) := hide (by
      show (uniQ q v == _) = _
      unfold uniQ
      cases findV q.vars v <;> rfl)
    obtain ⟨g, cap, hVe, hg, hg', _, hcell⟩ := own_pos hX (by simp)
    injection hVe with hVe _ hV2
    subst hVe hV2
    have hx0 : w.cell? ⟨g, 0, none⟩ = some (.int .i64 (v : Int)) := hcell 0 _ rfl
    clear hcell
    have hne0 : (((r.length + 1 : Nat) : Int) == 0) = false := by rw [beq_eq_false_iff_ne]; omega
    go_enter Tryz.func63, Tryz.ntmps63
    go_wp2_with fail
    generalize hw0 : ((w.alloc (.cells #[.slice aV q.vars.length cV, .slice aC nC cC] 44)).alloc (.cells #[.int .i64 (kind : Int), .slice aS nS cS] 51)) = u1
    have hB : Below w.heap.size w u1 := by rw [← hw0]; exact ((Below.refl _ _).alloc (Nat.le_refl _) _).alloc (by simp) _
    have hf : u1.heap[w.heap.size]? = some (.cells #[.slice aV q.vars.length cV, .slice aC nC cC] 44 (0, 0)) := by rw [← hw0, heap_alloc_old _ _ (by simp)]; exact heap_alloc_new _ _
    have hpr : u1.heap[w.heap.size + 1]? = some (.cells #[.int .i64 (kind : Int), .slice aS nS cS] 51 (0, 0)) := by rw [← hw0]; exact alloc_new_at (by simp)
    clear hw0
    refine (find_any 0 w.heap.size q.vars _ v _ (by rw [blk_cell hf]; rfl) (own_below hV hB) (by omega)).mono ?_
    rintro e u2 ⟨hb2, rfl⟩
    have hB2 := hB.trans (hb2.mono hB.size)
    have hpr2 := (hb2.block _ (blk_lt hpr)).trans hpr
    generalize (findV q.vars v).getD (0, false) = x at *
    generalize (findV q.vars v).isSome = ok at *
    obtain ⟨x1, x2⟩ := x
    have hA : Below u2.heap.size u2 (u2.alloc (.cells #[.int .i64 (x1 : Int), .bool x2] 109)) := (Below.refl _ _).alloc (Nat.le_refl _) _
    have hB3 := hB2.trans (hA.mono hB2.size)
    have hv3 := heap_alloc_new u2 (.cells #[.int .i64 (x1 : Int), .bool x2] 109)
    have hpr3 := (hA.block _ (blk_lt hpr2)).trans hpr2
    have p0 : (u2.alloc (.cells #[.int .i64 (x1 : Int), .bool x2] 109)).cell? ⟨w.heap.size + 1, 0, none⟩ = some (.int .i64 (kind : Int)) := by rw [blk_cell hpr3]; rfl
    have lp := blk_lt hpr3
    rcases hk with rfl | rfl <;> cases x2
    all_goals
      go_wp2_with fail
      go_ret
      exact ⟨by rw [unhide HW]; rfl, hB3⟩
end Go.Proofs.YtgipjjhkhfihpabGreatDoor

namespace Go.Proofs.YtgipjjhkhfihpabGreatDoor
open Go.RowKit

/-- A call of a function as one step of a region that draws. -/
theorem step_call {P : Program} {ops : Array Oper} {o : Oper} {a : Act} {w : World} {K : Act → World → Prop} {Q : Exit → Act → World → Prop} {E : Prop}
    (hg : o.guard = none) (f : FuncId) (xs : Array Operand) (ts : Array TypeId) (hop : o.op = Op.call { callee := Callee.value (Operand.func f), args := xs, argTypes := ts })
    (args : Array Value) (hargs : xs.map a.eval = args) (hcf : ∀ w, (callFunc f args).run P w = .ok (.enter f args) w) (h : Calls P f args w (fun e w' => ∃ v, e = .returned v ∧ K (a.put o.dst v) w')) :
    if Region.wanted o (yielded ops a.tmps) = true then Oper.wp P o a w K Q else E := by
  have hw : Region.wanted o (yielded ops a.tmps) = true := by simp [Region.wanted, hg]
  rw [if_pos hw]
  unfold Oper.wp
  have he : (execOp a.eval o).run P w = .ok (.enter f args) w := by
    unfold execOp
    rw [hop]
    subst hargs
    simp [go_sem]
    exact hcf w
  rw [he, Oper.upon_enter]
  refine h.mono ?_
  rintro e w' ⟨v, rfl, hk⟩
  exact hk
theorem callWins (args : Array Value) (w : World) : (callFunc 63 args).run Tryz.prog w = .ok (.enter 63 args) w := by kernel_rfl
end Go.Proofs.YtgipjjhkhfihpabGreatDoor
