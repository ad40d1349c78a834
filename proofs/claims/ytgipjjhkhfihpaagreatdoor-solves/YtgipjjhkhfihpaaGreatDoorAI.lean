import Derived.Test.YtgipjjhkhfihpaaGreatDoorAF
import Derived.Test.YtgipjjhkhfihpaaGreatDoorAH
import Derived.Deep.DeepCutAuto
namespace Go.Proofs.YtgipjjhkhfihpaaGreatDoor
open Go.RowKit

/-! ### findConflict -/
theorem find_drop {α : Type} (l : List α) (p : α → Bool) (k : Nat) (h : k < l.length) : (l.drop k).find? p = if p l[k] then some l[k] else (l.drop (k + 1)).find? p := by
  rw [List.drop_eq_getElem_cons h, List.find?_cons]
  cases p l[k] <;> rfl
set_option maxRecDepth 100000 in
set_option maxHeartbeats 3200000 in
theorem findConflict_any (b : Nat) (C : SC) (S : SS) (V : SV) (cs : List Nat) (aX : Option Addr) (cX base : Nat) (p : Nat × Nat) (w : World) (hS : SAt w b C S V) (hB : SBd C S) (hp : p.1 < 512 ∧ p.2 < 512) (hX : w.ownsRow base 3 1 (.slice aX cs.length cX) cs.length (ints cs)) (hcl : cs.length ≤ 1048576) :
    Calls Tryz.prog 110 #[.pointer (some ⟨b, 0, none⟩), .slice aX cs.length cX, SetV p] w fun e w' => e = .returned (.int .i64 (confOf S.ref C.uni cs p : Nat)) ∧ Below w.heap.size w w' := by
  obtain ⟨p1, p2⟩ := p
  have hbw := blk_lt hS.fb
  have hu := hB.uni
  go_enter Tryz.func110, Tryz.ntmps110
  go_wp2_with fail
  go_loopg [14] (cs.length) (fun m i wx => ∃ (k : Nat), i = .int .i64 k ∧ k + m = cs.length ∧ Below w.heap.size w wx ∧ wx.heap[w.heap.size]? = some (.cells #[.int .i64 (p1 : Int), .int .i64 (p2 : Int)] 74 (0, 0)) ∧ confOf S.ref C.uni cs (p1, p2) = ((cs.drop k).find? (fun s => isConf C.uni (p1, p2) (litsAt S.ref s))).getD 0)
  case atStart => exact ⟨0, rfl, by omega, (Below.refl _ _).alloc (Nat.le_refl _) _, heap_alloc_new _ _, rfl⟩
  case round =>
    obtain ⟨k, rfl, hkm, hBw, hva, hcf⟩ := hrel
    have HCF := hide hcf
    clear hcf
    by_cases hlt : k < cs.length
    · have HFD := hide (find_drop cs (fun s => isConf C.uni (p1, p2) (litsAt S.ref s)) k hlt)
      obtain ⟨g, cap, hVe, _, hg', _, hcell⟩ := own_pos hX (by omega)
      injection hVe with hVe _ hV2
      subst hVe hV2
      have hck : wr.cell? ⟨g, k, none⟩ = some (.int .i64 (cs[k] : Int)) := by rw [hBw.cell (p := ⟨g, k, none⟩) hg']; exact hcell k _ (by simp [ints, hlt])
      have lg := Nat.lt_of_lt_of_le hg' hBw.size
      clear hcell
      have hlt9 := litsAt_lt S.ref hB.ref cs[k]
      generalize cs[k] = n at *
      have cva0 : wr.cell? ⟨w.heap.size, 0, none⟩ = some (.int .i64 (p1 : Int)) := by rw [blk_cell hva]; rfl
      have cva1 : wr.cell? ⟨w.heap.size, 1, none⟩ = some (.int .i64 (p2 : Int)) := by rw [blk_cell hva]; rfl
      have lva := blk_lt hva
      have hSr := hS.later hBw
      go_wp2_with fail
      refine (left_any b C S V n (p1, p2) _ hSr hB hp).mono ?_
      rintro e u1 ⟨rfl, b1⟩
      replace hBw := hBw.trans (b1.mono hBw.size)
      replace hva := (b1.block _ (blk_lt hva)).trans hva
      replace cva0 : u1.cell? ⟨w.heap.size, 0, none⟩ = some (.int .i64 (p1 : Int)) := by rw [blk_cell hva]; rfl
      replace cva1 : u1.cell? ⟨w.heap.size, 1, none⟩ = some (.int .i64 (p2 : Int)) := by rw [blk_cell hva]; rfl
      replace lva := blk_lt hva
      replace hSr := hSr.later b1
      have HIC : Hid (isConf C.uni (p1, p2) (litsAt S.ref n) = (openB (litsAt S.ref n) (p1, p2) && emptyB (minus (leftOf (litsAt S.ref n) (p1, p2)) C.uni))) := hide rfl
      have hl9 := minus_lt (litsAt S.ref n) (swapL (p1, p2)) hlt9
      have HIC2 : Hid (∀ l op, leftOf (litsAt S.ref n) (p1, p2) = l → openB (litsAt S.ref n) (p1, p2) = op → isConf C.uni (p1, p2) (litsAt S.ref n) = (op && emptyB (minus l C.uni))) := hide (fun l op e1 e2 => by rw [unhide HIC, e1, e2])
      have hl9' : (leftOf (litsAt S.ref n) (p1, p2)).1 < 512 ∧ (leftOf (litsAt S.ref n) (p1, p2)).2 < 512 := hl9
      generalize hel : leftOf (litsAt S.ref n) (p1, p2) = l at *
      generalize heo : openB (litsAt S.ref n) (p1, p2) = op at *
      have HIC3 := hide (unhide HIC2 l op rfl rfl)
      clear hel heo HIC HIC2 hl9 hlt9
      obtain ⟨l1, l2⟩ := l
      dsimp only at hl9'
      go_wp2_with fail
      generalize hw0 : u1.alloc (.cells #[.int .i64 (l1 : Int), .int .i64 (l2 : Int)] 74) = u2
      have b2 : Below u1.heap.size u1 u2 := by rw [← hw0]; exact (Below.refl _ _).alloc (Nat.le_refl _) _
      have hle : u2.heap[u1.heap.size]? = some (.cells #[.int .i64 (l1 : Int), .int .i64 (l2 : Int)] 74 (0, 0)) := by rw [← hw0]; exact heap_alloc_new _ _
      clear hw0
      replace hBw := hBw.trans (b2.mono hBw.size)
      replace hva := (b2.block _ (blk_lt hva)).trans hva
      replace cva0 : u2.cell? ⟨w.heap.size, 0, none⟩ = some (.int .i64 (p1 : Int)) := by rw [blk_cell hva]; rfl
      replace cva1 : u2.cell? ⟨w.heap.size, 1, none⟩ = some (.int .i64 (p2 : Int)) := by rw [blk_cell hva]; rfl
      replace lva := blk_lt hva
      replace hSr := hSr.later b2
      have cle0 : u2.cell? ⟨u1.heap.size, 0, none⟩ = some (.int .i64 (l1 : Int)) := by rw [blk_cell hle]; rfl
      have cle1 : u2.cell? ⟨u1.heap.size, 1, none⟩ = some (.int .i64 (l2 : Int)) := by rw [blk_cell hle]; rfl
      have lle := blk_lt hle
      have k2 : u2.cell? ⟨b, 2, none⟩ = some (.int .i64 (C.uni.1 : Int)) := by rw [blk_cell hSr.fb]; rfl
      have k3 : u2.cell? ⟨b, 3, none⟩ = some (.int .i64 (C.uni.2 : Int)) := by rw [blk_cell hSr.fb]; rfl
      have lb := blk_lt hSr.fb
      have hm := minus_lt (l1, l2) C.uni hl9'
      obtain ⟨wo, rfl⟩ : ∃ wo, wo = wr := ⟨_, rfl⟩
      go_cut [11] (fun s11 wx => ∃ lo, s11 = .pointer (some ⟨lo, 0, none⟩) ∧ Below u2.heap.size u2 wx ∧ wx.heap[lo]? = some (.cells #[.int .i64 ((minus (l1, l2) C.uni).1 : Int), .int .i64 ((minus (l1, l2) C.uni).2 : Int)] 74 (0, 0)))
      case first =>
        go_region_with (go_at_call 75; refine (lwithout_any l1 l2 C.uni.1 C.uni.2 _ hl9'.1 hl9'.2 hu.1 hu.2).mono ?_; rintro e v1 ⟨rfl, y1⟩; have x1 : Below u2.heap.size u2 v1 := Below.trans (by first | exact Below.refl _ _ | exact (Below.refl _ _).drew | exact (Below.refl _ _).alloc (Nat.le_refl _) _ | exact ((Below.refl _ _).alloc (Nat.le_refl _) _).drew | exact ((Below.refl _ _).drew).alloc (Nat.le_refl _) _) (y1.mono (by simp)); (try (have hq : v1.heap[u2.heap.size]? = some (.cells #[.int .i64 0, .int .i64 0] 74 (0, 0)) := (by first | exact (y1.block u2.heap.size (by simp)).trans (heap_alloc_new u2 _) | exact (y1.block u2.heap.size (by simp)).trans (heap_alloc_new u2.drew _)); have q0 : v1.cell? ⟨u2.heap.size, 0, none⟩ = some (.int .i64 0) := (by rw [blk_cell hq]; rfl); have q1 : v1.cell? ⟨u2.heap.size, 1, none⟩ = some (.int .i64 0) := (by rw [blk_cell hq]; rfl); have qz0 := blk_free hq 0; have qz1 := blk_free hq 1; have ql := blk_lt hq)))
        all_goals
          go_wp2_with fail
          go_meet
          first
            | exact ⟨_, rfl, x1.alloc x1.size _, heap_alloc_new _ _⟩
            | exact ⟨_, rfl, (x1.setCell (p := ⟨u2.heap.size, 0, none⟩) (Nat.le_refl _) _).setCell (p := ⟨u2.heap.size, 1, none⟩) (Nat.le_refl _) _, blk_set (blk_set hq 0 _) 1 _⟩
      case rest =>
      obtain ⟨lo, rfl, hbc, ho⟩ := hcut
      generalize hem : minus (l1, l2) C.uni = cm at *
      have HEM := hide hem
      clear hem
      obtain ⟨d1, d2⟩ := cm
      dsimp only at hm ho
      have HIC4 : Hid (isConf C.uni (p1, p2) (litsAt S.ref n) = (op && (d1 ||| d2 == 0))) := hide (by rw [unhide HIC3]; rfl)
      have o0 : wc.cell? ⟨lo, 0, none⟩ = some (.int .i64 (d1 : Int)) := by rw [blk_cell ho]; rfl
      have o1 : wc.cell? ⟨lo, 1, none⟩ = some (.int .i64 (d2 : Int)) := by rw [blk_cell ho]; rfl
      have lo' := blk_lt ho
      have hBc := hBw.trans (hbc.mono hBw.size)
      have hvc := (hbc.block _ (blk_lt hva)).trans hva
      clear cva0 cva1 lva cle0 cle1 lle k2 k3 lb hle hva hBw
      cases op with
      | false =>
        have HF : Hid (confOf S.ref C.uni cs (p1, p2) = ((cs.drop (k + 1)).find? (fun s => isConf C.uni (p1, p2) (litsAt S.ref s))).getD 0) := hide (by rw [unhide HCF, unhide HFD, unhide HIC4]; rfl)
        go_wp2_with fail
        go_roundg (gk - 1)
        case measure => omega
        case rel => exact ⟨k + 1, by go_num, by omega, hBc, hvc, unhide HF⟩
      | true =>
        go_wp2_with fail
        refine (empty_any d1 d2 _ hm.1 hm.2).mono ?_
        rintro e w6 ⟨rfl, b6⟩
        have hB6 := hBc.trans (b6.mono hBc.size)
        have hv6 := (b6.block _ (blk_lt hvc)).trans hvc
        cases he : (d1 ||| d2 == 0) with
        | true =>
          have HF : Hid (confOf S.ref C.uni cs (p1, p2) = n) := hide (by rw [unhide HCF, unhide HFD, unhide HIC4, he]; rfl)
          clear he
          go_wp2_with fail
          go_ret
          exact ⟨by rw [unhide HF]; rfl, hB6⟩
        | false =>
          have HF : Hid (confOf S.ref C.uni cs (p1, p2) = ((cs.drop (k + 1)).find? (fun s => isConf C.uni (p1, p2) (litsAt S.ref s))).getD 0) := hide (by rw [unhide HCF, unhide HFD, unhide HIC4, he]; rfl)
          clear he
          go_wp2_with fail
          go_roundg (gk - 1)
          case measure => omega
          case rel => exact ⟨k + 1, by go_num, by omega, hB6, hv6, unhide HF⟩
    · have hke : k = cs.length := by omega
      have HF : Hid (confOf S.ref C.uni cs (p1, p2) = 0) := hide (by rw [unhide HCF, hke, List.drop_length]; rfl)
      subst hke
      go_wp2_with fail
      go_ret
      exact ⟨by rw [unhide HF]; rfl, hBw⟩
end Go.Proofs.YtgipjjhkhfihpaaGreatDoor
