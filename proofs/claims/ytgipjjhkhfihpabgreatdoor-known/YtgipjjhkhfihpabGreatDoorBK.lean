import Derived.Test.YtgipjjhkhfihpabGreatDoorBJ
import Derived.Test.YtgipjjhkhfihpabGreatDoorBH
import Derived.Test.YtgipjjhkhfihpabGreatDoorBG
import Derived.Test.YtgipjjhkhfihpabGreatDoorAZ
import Derived.ArgAppend
import Derived.Deep.QuietTactic
import Derived.BigQuiet
namespace Go.Proofs.YtgipjjhkhfihpabGreatDoor
open Go.RowKit

/-! ### duelkeep: satisfied -/
/-- The bytes behind a clause's first. -/
def ClB (b : UInt8) : Prop := b = 32 ∨ b = 45 ∨ (49 ≤ b.toNat ∧ b.toNat ≤ 56)
theorem text_clb {l : List UInt8} {P C : List (List UInt8)} {qs : List (Bool × List Nat)} {cs : List (Nat × Nat)} (h : TextIs l P C qs cs) : ∀ r ∈ klinesOf l, (r.head? == some 99) = true → ∀ k (hk : k < r.length), 1 ≤ k → ClB r[k] := by
  intro r hr h99 k hk h1
  rw [lines_text h] at hr
  rcases List.mem_append.1 hr with hr | hr
  · obtain ⟨x, xs, rfl, hx⟩ := (pref_rows_first h).1 r hr
    exact absurd (by simpa using h99) hx
  · obtain ⟨c, hc⟩ := cls_rows h.cls r hr
    obtain ⟨tl, rfl, hw, _, _⟩ := cl_words hc
    have hm : ((99 : UInt8) :: joinB tl)[k] ∈ joinB tl := by
      obtain ⟨j, rfl⟩ : ∃ j, k = j + 1 := ⟨k - 1, by omega⟩
      rw [List.getElem_cons_succ]
      exact List.getElem_mem _
    generalize ((99 : UInt8) :: joinB tl)[k] = b at hm
    obtain ⟨w, hwm, hb⟩ := List.mem_flatMap.1 hm
    rcases List.mem_cons.1 hb with rfl | hb
    · exact Or.inl rfl
    · obtain ⟨d, g1, g2, rfl | rfl⟩ := hw w hwm
      · have : b = d := by simpa using hb
        subst this
        exact Or.inr (Or.inr ⟨g1, g2⟩)
      · rcases List.mem_cons.1 hb with rfl | hb
        · exact Or.inr (Or.inl rfl)
        · have : b = d := by simpa using hb
          subst this
          exact Or.inr (Or.inr ⟨g1, g2⟩)
theorem kall_next {α : Type} (l : List α) (p : α → Bool) (k : Nat) (h : k < l.length) (h0 : (l.take k).all p = true) (h1 : p l[k] = true) : (l.take (k + 1)).all p = true := by
  rw [List.take_succ_eq_append_getElem h, List.all_append, h0, List.all_cons, h1]; rfl
theorem kall_miss {α : Type} (l : List α) (p : α → Bool) (k : Nat) (h : k < l.length) (h1 : p l[k] = false) : l.all p = false := by
  rw [List.all_eq_false]
  exact ⟨l[k], List.getElem_mem h, by rw [h1]; decide⟩
theorem valV_three (c : Nat × Nat) (v : Nat) : valV c v = -1 ∨ valV c v = 0 ∨ valV c v = 1 := by
  unfold valV
  split
  · exact Or.inl rfl
  · split
    · exact Or.inr (Or.inr rfl)
    · exact Or.inr (Or.inl rfl)
attribute [local go_sem] ba_get
set_option maxRecDepth 100000 in
set_option maxHeartbeats 3200000 in
theorem ksatisfied_any (l : List UInt8) (c : Nat × Nat) (kb : Nat) (w : World) (hl : l.length ≤ 8192) (hvb : w.heap[kb]? = some (.cells (valTo c 8).toArray 3 (0, 0))) (hcb : ∀ r ∈ klinesOf l, (r.head? == some 99) = true → ∀ k (hk : k < r.length), 1 ≤ k → ClB r[k]) :
    Calls Tryz.prog 24 #[.string ⟨l.toArray⟩, .slice (some ⟨kb, 0, none⟩) 8 8] w fun e w' => e = .returned (.bool (satT (fun v => valV c v) l)) ∧ Below w.heap.size w w' := by
  have hkw := blk_lt hvb
  go_enter Tryz.func24, Tryz.ntmps24
  go_wp2_with fail
  refine (klines_any l w (by omega)).mono ?_
  rintro e u1 ⟨vl, rfl, hown, b1⟩
  replace hvb := (b1.block _ hkw).trans hvb
  have hkw1 := blk_lt hvb
  have hrl : (klinesOf l).length ≤ 8192 := by have := (cutTo_size 10 l).1; unfold klinesOf; omega
  have hrr : ∀ r ∈ klinesOf l, r.length ≤ 8192 := fun r hr => by have := cutAt_len 10 l r (by unfold cutAt; exact List.mem_append_left _ hr); omega
  have HU : Hid (satT (fun v => valV c v) l = (klinesOf l).all (fun r => !(r.head? == some 99) || satRow (fun v => valV c v) r)) := hide rfl
  generalize klinesOf l = rows at *
  have HRR := hide hrr
  have HCB := hide hcb
  clear hrr hcb
  obtain ⟨aL, cL, rfl⟩ := own_form hown
  go_wp2_with fail
  go_loopg [6] (rows.length) (fun m vi wx => ∃ (i : Nat), vi = .int .i64 (i : Int) ∧ i + m = rows.length ∧ (rows.take i).all (fun r => !(r.head? == some 99) || satRow (fun v => valV c v) r) = true ∧ Below u1.heap.size u1 wx)
  case atStart => exact ⟨0, rfl, by omega, by simp, Below.refl _ _⟩
  case round =>
    obtain ⟨i, rfl, him, hno, hb⟩ := hrel
    have HNO := hide hno
    clear hno
    by_cases hlt : i < rows.length
    · have hd3 : decide ((i : Int) < (rows.length : Int)) = true := decide_eq_true (by omega)
      have hd4 : decide (i < rows.length) = true := decide_eq_true hlt
      obtain ⟨g, cap, hVe, hgl, hg', hg'', hcell⟩ := own_pos (own_below hown hb) (by omega)
      injection hVe with hVe _ hV2
      subst hVe hV2
      have hx := hcell _ _ (mapS_at rows i hlt)
      have hr0 := unhide HRR rows[i] (List.getElem_mem hlt)
      have HCR := hide (unhide HCB rows[i] (List.getElem_mem hlt))
      have HN := hide (fun h => kall_next rows (fun r => !(r.head? == some 99) || satRow (fun v => valV c v) r) i hlt (unhide HNO) h)
      have HH := hide (fun h => kall_miss rows (fun r => !(r.head? == some 99) || satRow (fun v => valV c v) r) i hlt h)
      have HOW : Hid (∀ wx, Below wr.heap.size wr wx → wx.cell? ⟨g, i, none⟩ = some (S rows[i])) := hide (fun wx hbx => by
        obtain ⟨g2, cap2, hVe2, _, _, _, hcell2⟩ := own_pos (own_below (own_below hown hb) hbx) (by omega)
        injection hVe2 with hVe2 _ _
        injection hVe2 with hVe2
        injection hVe2 with hVe2
        subst hVe2
        exact hcell2 _ _ (mapS_at rows i hlt))
      clear hcell HRR HCB HNO
      generalize rows[i] = r at *
      go_wp2_with fail
      refine (kstarts_any r 99 wr (by omega)).mono ?_
      rintro e u2 ⟨rfl, b2⟩
      have hb2 := hb.trans (b2.mono hb.size)
      have hx2 := unhide HOW u2 b2
      have hvb2 := (hb2.block _ hkw1).trans hvb
      have HV2 : Hid (∀ j, j < 8 → u2.cell? ⟨kb, j, none⟩ = some (.int .i64 (valV c (j + 1)))) := hide (fun j hj => by rw [blk_cell hvb2, valTo_at c 8 j hj, if_pos hj])
      obtain ⟨go, rfl⟩ : ∃ go, go = gk := ⟨_, rfl⟩
      by_cases hst : (r.head? == some 99) = true
      · have HUR : Hid ((!(r.head? == some 99) || satRow (fun v => valV c v) r) = satRow (fun v => valV c v) r) := hide (by rw [hst]; rfl)
        have HSR : Hid (satRow (fun v => valV c v) r = (r.tail.foldl (satStep (fun v => valV c v)) (false, false)).1) := hide rfl
        have hrp : 1 ≤ r.length := by cases r with | nil => cases hst | cons x xs => simp
        have HCR2 := hide (unhide HCR hst)
        rw [hst]
        clear hst HCR
        go_wp2_with fail
        go_loopg [8, 9, 10] (r.length) (fun m vo vn vk wx => ∃ (k : Nat) (o n : Bool), vo = .bool o ∧ vn = .bool n ∧ vk = .int .i64 (k : Int) ∧ k + m = r.length + 1 ∧ 1 ≤ k ∧ k ≤ r.length ∧ ((r.take k).drop 1).foldl (satStep (fun v => valV c v)) (false, false) = (o, n) ∧ wx = u2)
        case atStart => exact ⟨1, false, false, rfl, rfl, rfl, by omega, by omega, hrp, by rw [List.drop_of_length_le (by rw [List.length_take]; omega)]; rfl, rfl⟩
        case round =>
          obtain ⟨k, o, n, rfl, rfl, rfl, hkm, hk1, hkr, hnk, rfl⟩ := hrel
          have HNK := hide hnk
          clear hnk
          by_cases hlt2 : k < r.length
          · have hd5 : decide ((k : Int) < (r.length : Int)) = true := decide_eq_true (by omega)
            have hd6 : decide (k < r.length) = true := decide_eq_true hlt2
            have HNX : Hid (((r.take (k + 1)).drop 1).foldl (satStep (fun v => valV c v)) (false, false) = satStep (fun v => valV c v) (o, n) r[k]) := hide (by rw [ktail_next r k hlt2 hk1, List.foldl_append, unhide HNK]; rfl)
            have hx256 := r[k].toNat_lt
            rcases unhide HCR2 k hlt2 hk1 with hb32 | hb45 | ⟨h49, h56⟩
            · have c1 : ((r[k].toNat : Int) == 32) = true := by rw [hb32]; rfl
              have c1n : (r[k].toNat == 32) = true := by rw [hb32]; rfl
              have HNX2 : Hid (((r.take (k + 1)).drop 1).foldl (satStep (fun v => valV c v)) (false, false) = (o, false)) := hide (by rw [unhide HNX]; unfold satStep; rw [if_pos hb32])
              clear hb32 HNX
              go_wp2_with fail
              go_roundg (gk - 1)
              case measure => omega
              case rel => exact ⟨k + 1, o, false, rfl, rfl, by go_num, by omega, by omega, by omega, unhide HNX2, rfl⟩
            · have c1 : ((r[k].toNat : Int) == 32) = false := by rw [hb45]; rfl
              have c1n : (r[k].toNat == 32) = false := by rw [hb45]; rfl
              have c2 : ((r[k].toNat : Int) == 45) = true := by rw [hb45]; rfl
              have c2n : (r[k].toNat == 45) = true := by rw [hb45]; rfl
              have HNX2 : Hid (((r.take (k + 1)).drop 1).foldl (satStep (fun v => valV c v)) (false, false) = (o, true)) := hide (by rw [unhide HNX]; unfold satStep; rw [hb45, if_neg (by decide), if_pos rfl])
              clear hb45 HNX
              go_wp2_with fail
              go_roundg (gk - 1)
              case measure => omega
              case rel => exact ⟨k + 1, o, true, rfl, rfl, by go_num, by omega, by omega, by omega, unhide HNX2, rfl⟩
            · have n32 : r[k] ≠ 32 := fun e => by rw [e] at h49; revert h49; decide
              have n45 : r[k] ≠ 45 := fun e => by rw [e] at h49; revert h49; decide
              have c1 : ((r[k].toNat : Int) == 32) = false := by rw [beq_eq_false_iff_ne]; omega
              have c1n : (r[k].toNat == 32) = false := by rw [beq_eq_false_iff_ne]; omega
              have c2 : ((r[k].toNat : Int) == 45) = false := by rw [beq_eq_false_iff_ne]; omega
              have c2n : (r[k].toNat == 45) = false := by rw [beq_eq_false_iff_ne]; omega
              have hcv := unhide HV2 (r[k].toNat - 49) (by omega)
              rw [show r[k].toNat - 49 + 1 = r[k].toNat - 48 from by omega] at hcv
              have hix : ((r[k].toNat : Int) - 49).toNat = r[k].toNat - 49 := by omega
              have HNX2 : Hid (((r.take (k + 1)).drop 1).foldl (satStep (fun v => valV c v)) (false, false) = ((o || (valV c (r[k].toNat - 48) == 1 && !n)) || (valV c (r[k].toNat - 48) == -1 && n), n)) := hide (by rw [unhide HNX]; unfold satStep; rw [if_neg n32, if_neg n45])
              have h3 := valV_three c (r[k].toNat - 48)
              clear HNX n32 n45
              generalize valV c (r[k].toNat - 48) = vv at *
              have p1 : ((-1 : Int) == 1) = false := rfl
              have p2 : ((0 : Int) == 1) = false := rfl
              have p3 : ((0 : Int) == -1) = false := rfl
              have p4 : ((1 : Int) == -1) = false := rfl
              rcases h3 with rfl | rfl | rfl <;> cases o <;> cases n
              all_goals (
                go_wp2_with fail
                go_roundg (gk - 1)
                case measure => omega
                case rel => exact ⟨k + 1, _, _, rfl, rfl, by go_num, by omega, by omega, by omega, unhide HNX2, rfl⟩)
          · have hd5 : decide ((k : Int) < (r.length : Int)) = false := decide_eq_false (by omega)
            have hd6 : decide (k < r.length) = false := decide_eq_false hlt2
            have HF : Hid (satRow (fun v => valV c v) r = o) := hide (by rw [unhide HSR, ← ktail_all r k (by omega), unhide HNK])
            clear HNK
            cases o with
            | true =>
              go_wp2_with fail
              go_roundg (go - 1)
              case measure => omega
              case rel => exact ⟨i + 1, by go_num, by omega, unhide HN (by rw [unhide HUR]; exact unhide HF), hb2⟩
            | false =>
              go_wp2_with fail
              go_ret
              exact ⟨by rw [unhide HU, unhide HH (by rw [unhide HUR]; exact unhide HF)]; rfl, b1.trans (hb2.mono b1.size)⟩
      · have hst2 : (r.head? == some 99) = false := by simpa using hst
        have HF : Hid ((!(r.head? == some 99) || satRow (fun v => valV c v) r) = true) := hide (by rw [hst2]; rfl)
        rw [hst2]
        clear hst hst2
        go_wp2_with fail
        go_roundg (go - 1)
        case measure => omega
        case rel => exact ⟨i + 1, by go_num, by omega, unhide HN (unhide HF), hb2⟩
    · have hd3 : decide ((i : Int) < (rows.length : Int)) = false := decide_eq_false (by omega)
      have hd4 : decide (i < rows.length) = false := decide_eq_false hlt
      have HF : Hid (satT (fun v => valV c v) l = true) := hide (by rw [unhide HU]; have := unhide HNO; rw [List.take_of_length_le (by omega)] at this; exact this)
      go_wp2_with fail
      go_ret
      exact ⟨by rw [unhide HF]; rfl, b1.trans (hb.mono b1.size)⟩
end Go.Proofs.YtgipjjhkhfihpabGreatDoor

namespace Go.Proofs.YtgipjjhkhfihpabGreatDoor
open Go.RowKit

theorem qblocks_before {vs : List (Nat × Bool)} {w w0 w' : World} {e : Ending} (h : QBlocksPost vs w0 e w') (hb : Below w.heap.size w w0) : QBlocksPost vs w e w' := by
  obtain ⟨v, hdrs, h0, h1, h2, h3⟩ := h
  exact ⟨v, hdrs, h0, own_lo h1 hb.size, ⟨h2.len, fun j hj => ⟨own_lo (h2.row j hj).1 hb.size, (h2.row j hj).2⟩, h2.apart⟩, hb.trans (h3.mono hb.size)⟩
set_option maxRecDepth 100000 in
set_option maxHeartbeats 800000 in
theorem dblocks_any (lo b : Nat) (q : QS) (w : World) (hP : ProgAt lo w b q) (hl : q.vars.length ≤ 1048576) :
    Calls Tryz.prog 20 #[.pointer (some ⟨b, 0, none⟩)] w fun e w' => QBlocksPost q.vars w e w' := by
  obtain ⟨_, vV, vC, hb, hV, hC⟩ := hP
  obtain ⟨aV, cV, rfl⟩ := own_form hV
  obtain ⟨aC, cC, rfl⟩ := own_form hC
  have hbl := blk_lt hb
  go_enter Tryz.func20, Tryz.ntmps20
  go_wp2_with fail
  refine (formula_any b _ _ aV aC _ cV _ cC rfl rfl w hb).mono ?_
  rintro e w0 ⟨rfl, hb0⟩
  go_wp2_with fail
  have hB : Below w.heap.size w (w0.alloc (.cells #[.slice aV q.vars.length cV, .slice aC q.cl.length cC] 44)) := hb0.alloc hb0.size _
  have hf : (w0.alloc (.cells #[.slice aV q.vars.length cV, .slice aC q.cl.length cC] 44)).cell? ⟨w0.heap.size, 0, none⟩ = some (.slice aV q.vars.length cV) := by rw [blk_cell (heap_alloc_new _ _)]; rfl
  refine (qblocks_any lo w0.heap.size q _ aV cV hf (by simp) (own_below hV hB) hl).mono ?_
  intro e w1 hp
  have hp := qblocks_before hp hB
  obtain ⟨v, hdrs, rfl, h1, h2, h3⟩ := hp
  obtain ⟨av, cv, rfl⟩ := own_form h1
  go_wp2_with fail
  go_ret
  exact ⟨_, hdrs, rfl, h1, h2, h3⟩
end Go.Proofs.YtgipjjhkhfihpabGreatDoor

namespace Go.Proofs.YtgipjjhkhfihpabGreatDoor
open Go.RowKit

/-! ### duelkeep: turn -/
theorem turnTo_win (ws : List Bool) (i k : Nat) (h : i < ws.length) (hw : ws[i] = true) : turnTo (ws.drop i) k = 1 + turnTo (ws.drop (i + 1)) k := by
  rw [List.drop_eq_getElem_cons h, hw, turnTo]
theorem turnTo_here (ws : List Bool) (i : Nat) (h : i < ws.length) (hw : ws[i] = false) : turnTo (ws.drop i) 0 = 0 := by
  rw [List.drop_eq_getElem_cons h, hw, turnTo, if_pos rfl]
theorem turnTo_lose (ws : List Bool) (i k : Nat) (h : i < ws.length) (hw : ws[i] = false) : turnTo (ws.drop i) (k + 1) = 1 + turnTo (ws.drop (i + 1)) k := by
  rw [List.drop_eq_getElem_cons h, hw, turnTo, if_neg (by omega)]
  rfl
theorem turnTo_end (ws : List Bool) (i k : Nat) (h : ws.length ≤ i) : turnTo (ws.drop i) k = 0 := by
  rw [List.drop_of_length_le h]; rfl
set_option maxRecDepth 100000 in
set_option maxHeartbeats 3200000 in
theorem kturn_any (l p : List UInt8) (q : QS) (kind : Nat) (hK : KP l p q kind) (base : Nat) (hdrs : List Value) (aB : Option Addr) (cB : Nat) (tr : Bool) (htr : tr = (kind == 2)) (n : Nat) (hn : n ≤ 1048576) (w : World) (hll : l.length ≤ 8192) (hB : w.ownsRow base 59 1 (.slice aB (progBlocks q.vars).length cB) (progBlocks q.vars).length hdrs) (hR : RowsAt base w (progBlocks q.vars) hdrs) :
    Calls Tryz.prog 22 #[.string ⟨l.toArray⟩, .slice aB (progBlocks q.vars).length cB, .bool tr, .int .i64 (n : Int)] w fun e w' => e = .returned (.int .i64 (turnTo (winsL q kind) n : Nat)) ∧ Below w.heap.size w w' := by
  have hws := winsL_len q kind
  have HWL : Hid (∀ i (hi : i < (progBlocks q.vars).length) (hi' : i < (winsL q kind).length) v, (progBlocks q.vars)[i].head? = some v → (kuni l (v : Int) == tr) = !(winsL q kind)[i]) := hide (fun i hi hi' v hv => by rw [winsL_at q kind i hi hi', htr]; exact kp_uni hK _ (List.getElem_mem hi) v hv)
  have hbl : (progBlocks q.vars).length ≤ 8 := blocks_le _ hK.good.qb.vl
  have hbr : ∀ b ∈ progBlocks q.vars, b.length ≤ 8 := block_len _ hK.good.qb.vl
  generalize winsL q kind = ws at *
  clear hK htr
  generalize progBlocks q.vars = bs at *
  have HBR := hide hbr
  have HWS := hide hws
  clear hbr hws
  have HRW := hide hR
  have hhl := hR.len
  clear hR
  go_enter Tryz.func22, Tryz.ntmps22
  go_wp2_with fail
  go_loopg [3, 9] (bs.length) (fun m vk vi wx => ∃ (i kk : Nat), vk = .int .i64 (kk : Int) ∧ vi = .int .i64 (i : Int) ∧ i + m = bs.length ∧ kk ≤ n ∧ turnTo ws n = i + turnTo (ws.drop i) kk ∧ Below w.heap.size w wx)
  case atStart => exact ⟨0, n, rfl, rfl, by omega, Nat.le_refl _, by simp, Below.refl _ _⟩
  case round =>
    obtain ⟨i, kk, rfl, rfl, him, hkn, htt, hb⟩ := hrel
    have HTT := hide htt
    clear htt
    by_cases hlt : i < bs.length
    · have hd3 : decide ((i : Int) < (bs.length : Int)) = true := decide_eq_true (by omega)
      have hd4 : decide (i < bs.length) = true := decide_eq_true hlt
      have hlw : i < ws.length := by rw [unhide HWS]; exact hlt
      obtain ⟨g, cap, hVe, hgl, hg', hg'', hcell⟩ := own_pos (own_below hB hb) (by omega)
      injection hVe with hVe _ hV2
      subst hVe hV2
      have hih : i < hdrs.length := by omega
      have hx := hcell i hdrs[i] (List.getElem?_eq_getElem hih)
      obtain ⟨hrow, hne⟩ := (unhide HRW).row i hlt
      have hrp : 0 < bs[i].length := List.length_pos_iff.2 hne
      have hr8 := unhide HBR bs[i] (List.getElem_mem hlt)
      obtain ⟨gX, cX, hXe, hX1, hX2, hX3, hcX⟩ := own_pos (own_below hrow hb) hrp
      have hv0 := hcX 0 (.int .i64 (bs[i][0] : Int)) (by simp [ints, hrp])
      have HUB := hide (unhide HWL i hlt hlw bs[i][0] (by rw [List.head?_eq_getElem?, List.getElem?_eq_getElem hrp]))
      have HW1 := hide (fun h k => turnTo_win ws i k hlw h)
      have HW2 := hide (fun h => turnTo_here ws i hlw h)
      have HW3 := hide (fun h k => turnTo_lose ws i k hlw h)
      rw [hXe] at hx
      generalize hwi : ws[i] = wi at *
      generalize bs[i][0] = v at *
      generalize bs[i].length = rl at *
      have hz1 : ((rl : Int) == 0) = false := by rw [beq_eq_false_iff_ne]; omega
      have hz2 : (rl == 0) = false := by rw [beq_eq_false_iff_ne]; omega
      clear hcell hcX HBR HRW HWL hne hrow hXe hwi
      go_wp2_with fail
      refine (kuniversal_any l v wr hll).mono ?_
      rintro e u2 ⟨rfl, b2⟩
      have hb2 := hb.trans (b2.mono hb.size)
      generalize kuni l (v : Int) = u at *
      by_cases hut : (u == tr) = true
      · have hwf : wi = false := by have := unhide HUB; rw [hut] at this; cases wi with | false => rfl | true => cases this
        have hu2 : (u != tr) = false := by rw [bne, hut]; rfl
        have hu3 : u = tr := by simpa using hut
        subst hu3
        by_cases hk0 : kk = 0
        · have hk1 : ((kk : Int) == 0) = true := by rw [beq_iff_eq]; omega
          have HF : Hid (turnTo ws n = i) := hide (by rw [unhide HTT, hk0, unhide HW2 hwf]; rfl)
          clear hk0 hut HUB hwf
          go_wp2_with fail
          go_ret
          exact ⟨by rw [unhide HF]; rfl, hb2⟩
        · have hk1 : ((kk : Int) == 0) = false := by rw [beq_eq_false_iff_ne]; omega
          have hk2 : (kk == 0) = false := by rw [beq_eq_false_iff_ne]; omega
          have HF : Hid (turnTo ws n = i + 1 + turnTo (ws.drop (i + 1)) (kk - 1)) := hide (by
            have := unhide HW3 hwf (kk - 1)
            rw [show kk - 1 + 1 = kk from by omega] at this
            rw [unhide HTT, this]
            omega)
          have hkc : ((kk - 1 : Nat) : Int) = (kk : Int) - 1 := by omega
          clear hut HUB hwf
          go_wp2_with fail
          go_roundg (gk - 1)
          case measure => omega
          case rel => exact ⟨i + 1, kk - 1, by rw [hkc], by go_num, by omega, by omega, unhide HF, hb2⟩
      · have hut2 : (u == tr) = false := by simpa using hut
        have hwt : wi = true := by have := unhide HUB; rw [hut2] at this; cases wi with | true => rfl | false => cases this
        have hu2 : (u != tr) = true := by rw [bne, hut2]; rfl
        have HF : Hid (turnTo ws n = i + 1 + turnTo (ws.drop (i + 1)) kk) := hide (by rw [unhide HTT, unhide HW1 hwt]; omega)
        clear hut HUB hwt
        go_wp2_with fail
        go_roundg (gk - 1)
        case measure => omega
        case rel => exact ⟨i + 1, kk, rfl, by go_num, by omega, hkn, unhide HF, hb2⟩
    · have hd3 : decide ((i : Int) < (bs.length : Int)) = false := decide_eq_false (by omega)
      have hd4 : decide (i < bs.length) = false := decide_eq_false hlt
      have HF : Hid (turnTo ws n = bs.length) := hide (by rw [unhide HTT, turnTo_end ws i kk (by rw [unhide HWS]; omega)]; omega)
      go_wp2_with fail
      go_ret
      exact ⟨by rw [unhide HF]; rfl, hb⟩
end Go.Proofs.YtgipjjhkhfihpabGreatDoor

namespace Go.Proofs.YtgipjjhkhfihpabGreatDoor
open Go.RowKit

/-! ### duelkeep: plays -/
theorem infoIntK : (Tryz.prog.info? 3).map (fun i => (i.zero, i.size, i.bytes)) = some (some (.int .i64 0), 1, 8) := by kernel_rfl
theorem kbelow_only {n db : Nat} {w w0 w' : World} (ho : Only (· = db) w0 w') (hb : Below n w w0) (hn : n ≤ w.heap.size) (hd : n ≤ db) : Below n w w' :=
  ⟨ho.os.trans hb.os, ho.tape.trans hb.tape, ho.output.trans hb.output, Nat.le_trans hb.size ho.size, fun i hi => (ho.block i (by have := hb.size; omega) (fun h => by omega)).trans (hb.block i hi)⟩
/-- append onto a row whose room is cut off: a new row. -/
theorem wpList_append_cut {P : Program} {ops : Array Oper} {rest : List Oper} {o : Oper} {a : Act} {Q : Exit → Act → World → Prop} {w : World} {news : List Value} {e : TypeId} (hgd : o.guard = none) (s x : Operand) (t : TypeId)
    (ho : o.op = .call { callee := .builtin .append, args := #[s, x], argTypes := #[t, t] })
    (base : Nat) (i : TypeInfo) (z : Value) (size bytes : Nat) (ht : P.underlying t = some (.slice e)) (hi : P.info? e = some i) (hz : i.zero = some z)
    (hsize : i.size = size) (hby : i.bytes = bytes) (hzs : z.cells.size = size) (hsz : 0 < size)
    (ao : Option Addr) (n c : Nat) (xs : List Value) (hown : w.ownsRow base e size (.slice ao n c) n xs) (hs : a.eval s = .slice ao n n)
    (hx : a.eval x = .slice (some ⟨w.heap.size, 0, none⟩) 1 1) (hl : news.length = size) (h1 : ∀ u ∈ news, u.oneCell' = true)
    (h63 : n + 1 ≤ maxLen) (hbytes : (n + 1) * bytes ≤ 140737488355328)
    (h : ∀ v' w', w'.ownsRow w.heap.size e size v' (n + 1) (xs ++ news) → Below w.heap.size w w' → wpList P ops Q rest (a.put o.dst v') w') : wpList P ops Q (o :: rest) a (w.alloc (.cells news.toArray e)) := by
  have ho2 := hown.alloc (.cells news.toArray e)
  refine wpList_append_grows _ hgd s x t ho e i z size bytes ht hi hz hsize hby hzs hsz ao n n xs hs ?_ hown.1 ?_ ⟨w.heap.size, 0, none⟩ 1 1 news hx (by simpa using hl) ?_ h1 (by omega) h63 hbytes ?_
  · intro hn
    subst hn
    rcases hown.2 with ⟨hv, _⟩ | ⟨g, cap, cur, hv, _⟩
    · injection hv with _ h2 _
      omega
    · cases hv
  · intro b hb j u hj
    subst hb
    rcases ho2.2 with ⟨hv, _⟩ | ⟨g, cap, cur, hv, hbg, hblk, hnc, hcm, hcs, htake⟩
    · cases hv
    · injection hv with hv _ _
      injection hv with hv
      subst hv
      have hadd : (⟨g, 0, none⟩ : Addr).add j = ⟨g, j, none⟩ := by unfold Addr.add; split <;> simp_all
      have hlt : j < n * size := by rw [← hown.1]; exact (List.getElem?_eq_some_iff.1 hj).1
      rw [hadd, cell_of_row _ g j cur e (0, 0) hblk]
      rw [← htake, List.getElem?_take, if_pos hlt] at hj
      simpa using hj
  · intro j u hj
    have hadd : (⟨w.heap.size, 0, none⟩ : Addr).add j = ⟨w.heap.size, j, none⟩ := by unfold Addr.add; split <;> simp_all
    rw [hadd, cell_of_row _ w.heap.size j news.toArray e (0, 0) (heap_alloc_new w _)]
    simpa using hj
  · intro v' w' h2 h3
    refine h v' w' (own_lo h2 (by simp)) ⟨h3.os, h3.tape, h3.output, Nat.le_trans (by simp) h3.size, fun k hk => (h3.block k (by simp; omega) (by simp)).trans (heap_alloc_old w _ hk)⟩
theorem legal_snoc2 {q : QS} {kind : Nat} {ms : List Nat} (h : Legal q kind ms) (t : Nat) (hT : turnTo (winsL q kind) ms.length = t) (ht : t < (progBlocks q.vars).length) (k : Nat) (hk : k < 2 ^ (progBlocks q.vars)[t].length) : Legal q kind (ms ++ [k]) := by
  subst hT
  exact legal_snoc h k ht hk
set_option maxRecDepth 100000 in
set_option maxHeartbeats 6400000 in
theorem kplays_any (l p : List UInt8) (q : QS) (kind : Nat) (hK : KP l p q kind) (tr : Bool) (htr : tr = (kind == 2)) (lo bq : Nat) (hll : l.length ≤ 8192) : ∀ (m : Nat) (ms : List Nat) (aM : Option Addr) (cM : Nat) (w : World), (progBlocks q.vars).length + 1 ≤ turnTo (winsL q kind) ms.length + m → ms.length + m ≤ 16 → Legal q kind ms → ProgAt lo w bq q → w.ownsRow 0 3 1 (.slice aM ms.length cM) ms.length (ints ms) →
    Calls Tryz.prog 10 #[.pointer (some ⟨bq, 0, none⟩), .string ⟨l.toArray⟩, .string ⟨p.toArray⟩, .bool tr, .slice aM ms.length cM] w fun e w' => e = .returned (.bool true) ∧ Below w.heap.size w w' := by
  intro m
  induction m with
  | zero =>
    intro ms aM cM w h1 _ _ _ _
    have := turnTo_le (winsL q kind) ms.length
    rw [winsL_len] at this
    omega
  | succ m ih =>
    intro ms aM cM w hmm hms hL hP hM
    have HIH := hide ih
    have HTR := hide htr
    clear ih htr
    have hcM : ms.length ≤ cM := by
      rcases hM.2 with ⟨hv, _⟩ | ⟨g, cap, cur, hv, _, _, hnc, _⟩
      · injection hv with _ h2 h3
        omega
      · injection hv with _ _ h3
        omega
    obtain ⟨i0, hi, hz0, hz1, hz2⟩ := info_parts infoIntK
    have hq8 := hK.good.qb.vl
    have hbl := blocks_le _ hq8
    obtain ⟨ls, hrd⟩ := hK.read
    have HRD := hide hrd
    clear hrd
    have HL := hide hL
    clear hL
    go_enter Tryz.func10, Tryz.ntmps10
    go_wp2_with fail
    refine (dopen_any lo bq q p w hP hK.good.qb).mono ?_
    rintro e u1 ⟨b1, hp⟩
    rw [unhide HRD] at hp
    obtain ⟨ss, db, gv, hls, htg, hsb, rfl, hG, hdb, hfr⟩ := hp
    have HA0 := hide (after_open hK.good hK.kind ss)
    have HRB := hide (rbd_of hsb kind)
    have HBB := hide (bbd_of hK.good.qb kind)
    have HWON : Hid (∀ g n, After q kind (rulesW kind ss) g n → g.turn = (progBlocks q.vars).length → satT (fun v => valV g.vals v) l = (kind == 2)) := hide (fun g n ha he => kp_won hK (by rw [unhide HRD, hls]) htg.1 hsb ha he)
    have HTN : Hid (∀ g n, After q kind (rulesW kind ss) g n → turnTo (winsL q kind) n = g.turn) := hide (fun g n ha => ha.turn)
    have HMV : Hid (∀ g n (b : Nat), After q kind (rulesW kind ss) g n → ∀ ht : g.turn < (progBlocks q.vars).length, b < 2 ^ (progBlocks q.vars)[g.turn].length → MoveE (blW q kind) g (b : Int) = 0 ∧ After q kind (rulesW kind ss) (MoveG (rulesW kind ss) (blW q kind) g (b : Int)) (n + 1)) := hide (fun g n b ha ht hb => by
      have h0 := moveE_zero (kind := kind) ht hb
      exact ⟨h0, by rw [moveG_zero h0]; exact after_move hK.good hK.kind ha ht b⟩)
    generalize openW q kind ss = g0 at *
    generalize rulesW kind ss = rs at *
    clear hls htg hsb HRD hfr
    go_wp2_with fail
    go_loopg [12, 14] (ms.length) (fun j ve vi wx => ∃ (i : Nat) (g : GS), vi = .int .i64 (i : Int) ∧ ve = .int .i64 0 ∧ i + j = ms.length ∧ After q kind rs g i ∧ GameAt wx db 102 (blW q kind) rs g gv ∧ Below w.heap.size w wx)
    case atStart => exact ⟨0, g0, rfl, rfl, by omega, unhide HA0, hG, b1⟩
    case round =>
      obtain ⟨i, g, rfl, rfl, hij, ha, hGx, hb⟩ := hrel
      have HA := hide ha
      have hal := ha.lt
      have hst := ha.stands.le
      clear ha
      have hpx := hP.later hb
      by_cases hlt : i < ms.length
      · have hd3 : decide ((i : Int) < (ms.length : Int)) = true := decide_eq_true (by omega)
        have hd4 : decide (i < ms.length) = true := decide_eq_true hlt
        obtain ⟨gM, cap, hVe, hgl, hg', hg'', hcell⟩ := own_pos (own_below hM hb) (by omega)
        injection hVe with hVe _ hV2
        subst hVe hV2
        have hx := hcell i (.int .i64 (ms[i] : Int)) (by simp [ints, hlt])
        obtain ⟨ht1, ht2⟩ := unhide HL i hlt
        have hgt := unhide HTN g i (unhide HA)
        obtain ⟨hm0, hm1⟩ := unhide HMV g i ms[i] (unhide HA) (by rw [← hgt]; exact ht1) (by simpa [hgt] using ht2)
        have hmi : ms[i] < 1048576 := by
          have h8 : (progBlocks q.vars)[turnTo (winsL q kind) i].length ≤ 8 := block_len _ hq8 _ (List.getElem_mem ht1)
          have : 2 ^ (progBlocks q.vars)[turnTo (winsL q kind) i].length ≤ 2 ^ 8 := Nat.pow_le_pow_right (by decide) h8
          have : (2 : Nat) ^ 8 = 256 := by decide
          omega
        clear hcell hgt ht2
        generalize ms[i] = mi at *
        go_wp2_with fail
        refine (dmove_any db 102 (blW q kind) rs g gv (mi : Int) wr hGx (unhide HRB) (unhide HBB) hal (by rw [blW_length]; exact hst) ⟨by omega, by omega⟩).mono ?_
        rintro e u2 ⟨rfl, hG2, ho2⟩
        rw [hm0]
        have hb2 : Below w.heap.size w u2 := kbelow_only ho2 hb (Nat.le_refl _) hdb
        go_wp2_with fail
        go_roundg (gk - 1)
        case measure => omega
        case rel => exact ⟨i + 1, _, by go_num, rfl, by omega, hm1, hG2, hb2⟩
      · have hd3 : decide ((i : Int) < (ms.length : Int)) = false := decide_eq_false (by omega)
        have hd4 : decide (i < ms.length) = false := decide_eq_false hlt
        have hie : i = ms.length := by omega
        subst hie
        have hgt := unhide HTN g _ (unhide HA)
        have HGT := hide hgt
        clear hgt
        go_wp2_with fail
        refine (dblocks_any lo bq q wr hpx (by omega)).mono ?_
        rintro e u2 ⟨vB, hdrs, rfl, hoB, hRB2, b2⟩
        have hb2 := hb.trans (b2.mono hb.size)
        have hG2 := hGx.later b2
        obtain ⟨aB, cB, rfl⟩ := own_form hoB
        go_wp2_with fail
        refine (dturn_any db 102 (blW q kind) rs g gv u2 hG2).mono ?_
        rintro e u3 ⟨rfl, rfl⟩
        go_wp2_with fail
        refine (kturn_any l p q kind hK wr.heap.size hdrs aB cB tr (unhide HTR) ms.length (by omega) u3 hll hoB hRB2).mono ?_
        rintro e u4 ⟨rfl, b4⟩
        rw [unhide HGT]
        have hb4 := hb2.trans (b4.mono hb2.size)
        have hG4 := hG2.later b4
        have hoB4 := own_below hoB b4
        have hR4 := hRB2.later b4
        have hp4 := hP.later hb4
        have hM4 := own_below hM hb4
        clear hGx hG2 hoB hRB2 hpx
        by_cases hend : g.turn = (progBlocks q.vars).length
        · have c1 : ((g.turn : Int) == ((progBlocks q.vars).length : Int)) = true := by rw [beq_iff_eq]; omega
          have c2 : (g.turn == (progBlocks q.vars).length) = true := by rw [beq_iff_eq]; exact hend
          have HSAT := hide (unhide HWON g _ (unhide HA) hend)
          have HM7 := hide (fun b => moveE_over (q := q) (kind := kind) (g := g) hend b)
          have HCB : Hid (∀ r ∈ klinesOf l, (r.head? == some 99) = true → ∀ k (hk : k < r.length), 1 ≤ k → ClB r[k]) := hide (by obtain ⟨_, _, _, _, hT, _⟩ := hK.text; exact text_clb hT)
          clear hend
          go_wp2_with fail
          refine (dvalues_any db 102 (blW q kind) rs g gv u4 hG4 hal).mono ?_
          rintro e u5 ⟨kb, rfl, hkb, hvb, b5⟩
          have hb5 := hb4.trans (b5.mono hb4.size)
          have hG5 := hG4.later b5
          go_wp2_with fail
          refine (ksatisfied_any l g.vals kb u5 hll hvb (unhide HCB)).mono ?_
          rintro e u6 ⟨rfl, b6⟩
          rw [unhide HSAT, ← unhide HTR]
          have hb6 := hb5.trans (b6.mono hb5.size)
          have hG6 := hG5.later b6
          go_wp2_with fail
          refine (dmove_any db 102 (blW q kind) rs g gv 0 u6 hG6 (unhide HRB) (unhide HBB) hal (by rw [blW_length]; exact hst) ⟨by omega, by omega⟩).mono ?_
          rintro e u7 ⟨rfl, hG7, ho7⟩
          rw [unhide HM7]
          have hb7 : Below w.heap.size w u7 := kbelow_only ho7 hb6 (Nat.le_refl _) hdb
          clear HTR HIH
          cases tr with
          | true =>
            go_wp2_with fail
            go_ret
            exact ⟨rfl, hb7⟩
          | false =>
            go_wp2_with fail
            go_ret
            exact ⟨rfl, hb7⟩
        · have c1 : ((g.turn : Int) == ((progBlocks q.vars).length : Int)) = false := by rw [beq_eq_false_iff_ne]; omega
          have c2 : (g.turn == (progBlocks q.vars).length) = false := by rw [beq_eq_false_iff_ne]; exact hend
          have htl : g.turn < (progBlocks q.vars).length := by omega
          obtain ⟨gB, cap, hVe, hgl, hg', hg'', hcell⟩ := own_pos hoB4 (by omega)
          injection hVe with hVe _ hV2
          subst hVe hV2
          have hih : g.turn < hdrs.length := by rw [hR4.len]; exact htl
          have hx := hcell g.turn hdrs[g.turn] (List.getElem?_eq_getElem hih)
          obtain ⟨hrow, hne⟩ := hR4.row g.turn htl
          have hrp : 0 < (progBlocks q.vars)[g.turn].length := List.length_pos_iff.2 hne
          have hr8 : (progBlocks q.vars)[g.turn].length ≤ 8 := block_len _ hq8 _ (List.getElem_mem htl)
          obtain ⟨gX, cX, hXe, hX1, hX2, hX3, hcX⟩ := own_pos hrow hrp
          rw [hXe] at hx
          have HBAD := hide (fun b hb => moveE_bad (q := q) (kind := kind) (g := g) htl b hb)
          have HBG := hide (fun b (h : MoveE (blW q kind) g b ≠ 0) => moveG_bad (q := q) (kind := kind) (rs := rs) (g := g) h)
          have HLS := hide (fun k hk => legal_snoc2 (unhide HL) g.turn (unhide HGT) htl k hk)
          have HUP := hide (turnTo_up (winsL q kind) ms.length (by rw [unhide HGT, winsL_len]; exact htl))
          have HPW : Hid (2 ^ (progBlocks q.vars)[g.turn].length ≤ 256) := hide (by
            have : 2 ^ (progBlocks q.vars)[g.turn].length ≤ 2 ^ 8 := Nat.pow_le_pow_right (by decide) hr8
            have h8 : (2 : Nat) ^ 8 = 256 := by decide
            omega)
          clear hcell hcX hrow hne hXe hend
          go_wp2_with fail
          have hwp : wrap64 (2 ^ (progBlocks q.vars)[g.turn].length) = ((2 ^ (progBlocks q.vars)[g.turn].length : Nat) : Int) := by rw [wrap_pow8 _ hr8]; simp
          rw [hwp]
          clear hwp
          generalize 2 ^ (progBlocks q.vars)[g.turn].length = pw at *
          have hpw := unhide HPW
          have he1 := unhide HBAD (pw : Int) (Or.inr rfl)
          have he2 := unhide HBAD (-1) (Or.inl (by decide))
          have hg1 := unhide HBG (pw : Int) (by rw [he1]; decide)
          have hg2 := unhide HBG (-1) (by rw [he2]; decide)
          have HE1 := hide he1
          have HE2 := hide he2
          have HG1 := hide hg1
          have HG2 := hide hg2
          clear he1 he2 hg1 hg2 HBAD HBG
          refine (dmove_any db 102 (blW q kind) rs g gv (pw : Int) u4 hG4 (unhide HRB) (unhide HBB) hal (by rw [blW_length]; exact hst) ⟨by omega, by omega⟩).mono ?_
          rintro e u5 ⟨rfl, hG5, ho5⟩
          rw [unhide HE1]
          rw [unhide HG1] at hG5
          have hb5 : Below w.heap.size w u5 := kbelow_only ho5 hb4 (Nat.le_refl _) hdb
          go_wp2_with fail
          refine (dmove_any db 102 (blW q kind) rs g gv (-1) u5 hG5 (unhide HRB) (unhide HBB) hal (by rw [blW_length]; exact hst) ⟨by omega, by omega⟩).mono ?_
          rintro e u6 ⟨rfl, hG6, ho6⟩
          rw [unhide HE2]
          have hb6 : Below w.heap.size w u6 := kbelow_only ho6 hb5 (Nat.le_refl _) hdb
          clear hG5 hG6 hG4 hoB4 hR4 hM4 hp4 hx ho5 ho6
          go_wp2_with fail
          go_loopg [22] (pw) (fun j vk wx => ∃ (k : Nat), vk = .int .i64 (k : Int) ∧ k + j = pw ∧ Below w.heap.size w wx)
          case atStart => exact ⟨0, rfl, by omega, hb6⟩
          case round =>
            obtain ⟨k, rfl, hkj, hbx⟩ := hrel
            by_cases hlk : k < pw
            · have hd5 : decide ((k : Int) < (pw : Int)) = true := decide_eq_true (by omega)
              have hd6 : decide (k < pw) = true := decide_eq_true hlk
              have hMx := own_below hM hbx
              go_wp2_with (at_builtin; refine wpList_append_cut rfl _ _ 59 rfl 0 i0 (.int .i64 0) 1 8 Tryz.underlying59 hi hz0 hz1 hz2 rfl (by decide) aM ms.length cM (ints ms) hMx rfl rfl rfl (by simp [Value.oneCell']) (by unfold maxLen; omega) (by omega) ?_; intro v9 w9 hown9 hb9; obtain ⟨a9, c9, rfl⟩ := own_form hown9)
              have hb9' := hbx.trans (hb9.mono hbx.size)
              have hcall := unhide HIH (ms ++ [k]) a9 c9 w9 (by rw [List.length_append, List.length_singleton]; have := unhide HUP; omega) (by rw [List.length_append, List.length_singleton]; omega) (unhide HLS k hlk) (hP.later hb9') (by
                rw [List.length_append, List.length_singleton]
                have e : ints (ms ++ [k]) = ints ms ++ [.int .i64 (k : Int)] := by simp [ints]
                rw [e]
                exact own_lo (lo := 0) hown9 (Nat.zero_le _))
              rw [List.length_append, List.length_singleton] at hcall
              refine hcall.mono ?_
              rintro e u10 ⟨rfl, b10⟩
              have hb10 := hb9'.trans (b10.mono hb9'.size)
              clear hcall hown9 hMx
              go_wp2_with fail
              go_roundg (gk - 1)
              case measure => omega
              case rel => exact ⟨k + 1, by go_num, by omega, hb10⟩
            · have hd5 : decide ((k : Int) < (pw : Int)) = false := decide_eq_false (by omega)
              have hd6 : decide (k < pw) = false := decide_eq_false hlk
              go_wp2_with fail
              go_ret
              exact ⟨rfl, hbx⟩
end Go.Proofs.YtgipjjhkhfihpabGreatDoor
