import Derived.Test.YtgipjjhkhfihpabGreatDoorAK
import Derived.Test.YtgipjjhkhfihpabGreatDoorAL
namespace Go.Proofs.YtgipjjhkhfihpabGreatDoor
open Go.RowKit

set_option maxRecDepth 100000 in
set_option maxHeartbeats 6400000 in
theorem findUnit_any (b : Nat) (C : SC) (S : SS) (V : SV) (cs : List Nat) (aX : Option Addr) (cX base : Nat) (p : Nat × Nat) (w : World) (hS : SAt w b C S V) (hB : SBd C S) (hp : p.1 < 512 ∧ p.2 < 512) (hX : w.ownsRow base 3 1 (.slice aX cs.length cX) cs.length (ints cs)) (hcl : cs.length ≤ 1048576) :
    Calls Tryz.prog 73 #[.pointer (some ⟨b, 0, none⟩), .slice aX cs.length cX, SetV p] w fun e w' => e = .returned (UnitV (unitOf S.ref C.uni cs p)) ∧ Below w.heap.size w w' := by
  obtain ⟨p1, p2⟩ := p
  have hbw := blk_lt hS.fb
  have hu := hB.uni
  go_enter Tryz.func73, Tryz.ntmps73
  go_wp2_with fail
  go_loopg [14] (cs.length) (fun m i wx => ∃ (k : Nat), i = .int .i64 k ∧ k + m = cs.length ∧ Below w.heap.size w wx ∧ wx.heap[w.heap.size]? = some (.cells #[.int .i64 (p1 : Int), .int .i64 (p2 : Int)] 77 (0, 0)) ∧ wx.heap[w.heap.size + 1]? = some (.cells #[.int .i64 0, .int .i64 0] 139 (0, 0)) ∧ unitOf S.ref C.uni cs (p1, p2) = unitSel S.ref (p1, p2) ((cs.drop k).find? (fun s => isUnit C.uni (p1, p2) (litsAt S.ref s))))
  case atStart => exact ⟨0, rfl, by omega, ((Below.refl _ _).alloc (Nat.le_refl _) _).alloc (by simp) _, by rw [heap_alloc_old _ _ (by simp)]; exact heap_alloc_new _ _, alloc_new_at (by simp), unitOf_sel _ _ _ _⟩
  case round =>
    obtain ⟨k, rfl, hkm, hBw, hva, hrs, hcf⟩ := hrel
    have HCF := hide hcf
    clear hcf
    have z0 := blk_free hrs 0
    have z1 := blk_free hrs 1
    by_cases hlt : k < cs.length
    · have HFD := hide (find_drop cs (fun s => isUnit C.uni (p1, p2) (litsAt S.ref s)) k hlt)
      obtain ⟨g, cap, hVe, _, hg', _, hcell⟩ := own_pos hX (by omega)
      injection hVe with hVe _ hV2
      subst hVe hV2
      have hck : wr.cell? ⟨g, k, none⟩ = some (.int .i64 (cs[k] : Int)) := by rw [hBw.cell (p := ⟨g, k, none⟩) hg']; exact hcell k _ (by simp [ints, hlt])
      have lg := Nat.lt_of_lt_of_le hg' hBw.size
      clear hcell
      have hlt9 := litsAt_lt S.ref hB.ref cs[k]
      generalize cs[k] = n at *
      have cva0 : wr.cell? ⟨w.heap.size, 0, none⟩ = some (.int .i64 (p1 : Int)) := by rw [blk_cell hva]; rfl
      have cva1 : wr.cell? ⟨w.heap.size, 1, none⟩ = some (.int .i64 (p2 : Int)) := by rw [blk_cell hva]; rfl
      have lva := blk_lt hva
      have crs0 : wr.cell? ⟨w.heap.size + 1, 0, none⟩ = some (.int .i64 0) := by rw [blk_cell hrs]; rfl
      have crs1 : wr.cell? ⟨w.heap.size + 1, 1, none⟩ = some (.int .i64 0) := by rw [blk_cell hrs]; rfl
      have lrs := blk_lt hrs
      have hSr := hS.later hBw
      clear z0 z1
      go_wp2_with fail
      refine (left_any b C S V n (p1, p2) _ hSr hB hp).mono ?_
      rintro e u1 ⟨rfl, b1⟩
      replace hBw := hBw.trans (b1.mono hBw.size)
      replace hva := (b1.block _ (blk_lt hva)).trans hva
      replace cva0 : u1.cell? ⟨w.heap.size, 0, none⟩ = some (.int .i64 (p1 : Int)) := by rw [blk_cell hva]; rfl
      replace cva1 : u1.cell? ⟨w.heap.size, 1, none⟩ = some (.int .i64 (p2 : Int)) := by rw [blk_cell hva]; rfl
      replace lva := blk_lt hva
      replace hrs := (b1.block _ (blk_lt hrs)).trans hrs
      replace crs0 : u1.cell? ⟨w.heap.size + 1, 0, none⟩ = some (.int .i64 0) := by rw [blk_cell hrs]; rfl
      replace crs1 : u1.cell? ⟨w.heap.size + 1, 1, none⟩ = some (.int .i64 0) := by rw [blk_cell hrs]; rfl
      replace lrs := blk_lt hrs
      replace hSr := hSr.later b1
      have hl9 : (leftOf (litsAt S.ref n) (p1, p2)).1 < 512 ∧ (leftOf (litsAt S.ref n) (p1, p2)).2 < 512 := minus_lt (litsAt S.ref n) (swapL (p1, p2)) hlt9
      have HIC2 : Hid (∀ l op, leftOf (litsAt S.ref n) (p1, p2) = l → openB (litsAt S.ref n) (p1, p2) = op → isUnit C.uni (p1, p2) (litsAt S.ref n) = (op && ((listOf l).length == 1 && !((l.1 &&& C.uni.1) ||| (l.2 &&& C.uni.2) != 0))) ∧ unitSel S.ref (p1, p2) (some n) = ((listOf l).headD 0, n)) := hide (fun l op e1 e2 => by subst e1 e2; exact ⟨rfl, rfl⟩)
      generalize hel : leftOf (litsAt S.ref n) (p1, p2) = l at *
      generalize heo : openB (litsAt S.ref n) (p1, p2) = op at *
      have HIC3 := hide (unhide HIC2 l op rfl rfl).1
      have HSEL := hide (unhide HIC2 l op rfl rfl).2
      clear hel heo HIC2 hlt9
      obtain ⟨l1, l2⟩ := l
      dsimp only at hl9 HIC3
      go_wp2_with fail
      generalize hw0 : u1.alloc (.cells #[.int .i64 (l1 : Int), .int .i64 (l2 : Int)] 77) = u2
      have b2 : Below u1.heap.size u1 u2 := by rw [← hw0]; exact (Below.refl _ _).alloc (Nat.le_refl _) _
      have hle : u2.heap[u1.heap.size]? = some (.cells #[.int .i64 (l1 : Int), .int .i64 (l2 : Int)] 77 (0, 0)) := by rw [← hw0]; exact heap_alloc_new _ _
      clear hw0
      replace hBw := hBw.trans (b2.mono hBw.size)
      replace hva := (b2.block _ (blk_lt hva)).trans hva
      replace cva0 : u2.cell? ⟨w.heap.size, 0, none⟩ = some (.int .i64 (p1 : Int)) := by rw [blk_cell hva]; rfl
      replace cva1 : u2.cell? ⟨w.heap.size, 1, none⟩ = some (.int .i64 (p2 : Int)) := by rw [blk_cell hva]; rfl
      replace lva := blk_lt hva
      replace hrs := (b2.block _ (blk_lt hrs)).trans hrs
      replace crs0 : u2.cell? ⟨w.heap.size + 1, 0, none⟩ = some (.int .i64 0) := by rw [blk_cell hrs]; rfl
      replace crs1 : u2.cell? ⟨w.heap.size + 1, 1, none⟩ = some (.int .i64 0) := by rw [blk_cell hrs]; rfl
      replace lrs := blk_lt hrs
      replace hSr := hSr.later b2
      have cle0 : u2.cell? ⟨u1.heap.size, 0, none⟩ = some (.int .i64 (l1 : Int)) := by rw [blk_cell hle]; rfl
      have cle1 : u2.cell? ⟨u1.heap.size, 1, none⟩ = some (.int .i64 (l2 : Int)) := by rw [blk_cell hle]; rfl
      have lle := blk_lt hle
      refine (list_any l1 l2 _ hl9.1 hl9.2).mono ?_
      rintro e u3 ⟨vL, rfl, hoL, b3⟩
      replace hBw := hBw.trans (b3.mono hBw.size)
      replace hva := (b3.block _ (blk_lt hva)).trans hva
      replace cva0 : u3.cell? ⟨w.heap.size, 0, none⟩ = some (.int .i64 (p1 : Int)) := by rw [blk_cell hva]; rfl
      replace cva1 : u3.cell? ⟨w.heap.size, 1, none⟩ = some (.int .i64 (p2 : Int)) := by rw [blk_cell hva]; rfl
      replace lva := blk_lt hva
      replace hrs := (b3.block _ (blk_lt hrs)).trans hrs
      replace crs0 : u3.cell? ⟨w.heap.size + 1, 0, none⟩ = some (.int .i64 0) := by rw [blk_cell hrs]; rfl
      replace crs1 : u3.cell? ⟨w.heap.size + 1, 1, none⟩ = some (.int .i64 0) := by rw [blk_cell hrs]; rfl
      replace lrs := blk_lt hrs
      replace hle := (b3.block _ (blk_lt hle)).trans hle
      replace cle0 : u3.cell? ⟨u1.heap.size, 0, none⟩ = some (.int .i64 (l1 : Int)) := by rw [blk_cell hle]; rfl
      replace cle1 : u3.cell? ⟨u1.heap.size, 1, none⟩ = some (.int .i64 (l2 : Int)) := by rw [blk_cell hle]; rfl
      replace lle := blk_lt hle
      replace hSr := hSr.later b3
      have hLl : (listOf (l1, l2)).length ≤ 16 := listFrom_len (l1, l2) 8 1
      generalize hLL : listOf (l1, l2) = LL at *
      clear hLL
      obtain ⟨aL, cL, rfl⟩ := own_form hoL
      have k2 : u3.cell? ⟨b, 2, none⟩ = some (.int .i64 (C.uni.1 : Int)) := by rw [blk_cell hSr.fb]; rfl
      have k3 : u3.cell? ⟨b, 3, none⟩ = some (.int .i64 (C.uni.2 : Int)) := by rw [blk_cell hSr.fb]; rfl
      have lb := blk_lt hSr.fb
      have z0 := blk_free hrs 0
      have z1 := blk_free hrs 1
      have HNX : Hid (isUnit C.uni (p1, p2) (litsAt S.ref n) = false → unitOf S.ref C.uni cs (p1, p2) = unitSel S.ref (p1, p2) ((cs.drop (k + 1)).find? (fun s => isUnit C.uni (p1, p2) (litsAt S.ref s)))) := hide (fun h => by rw [unhide HCF, unhide HFD, h]; rfl)
      have HYS : Hid (isUnit C.uni (p1, p2) (litsAt S.ref n) = true → unitOf S.ref C.uni cs (p1, p2) = ((LL).headD 0, n)) := hide (fun h => by rw [unhide HCF, unhide HFD, h, if_pos rfl, unhide HSEL])
      go_wp2_with fail
      obtain ⟨wo, rfl⟩ : ∃ wo, wo = wr := ⟨_, rfl⟩
      go_cut [41] (fun s41 wx => s41 = .bool (op && ((LL).length == 1 && !((l1 &&& C.uni.1) ||| (l2 &&& C.uni.2) != 0))) ∧ Below u3.heap.size u3 wx)
      case first =>
        have hlL := cle0
        clear HNX HYS HCF HFD HIC3 HSEL hva cva0 cva1 lva hrs crs0 crs1 lrs z0 z1 hSr hS hB hX hck lg hoL hBw b1 b2 b3 hle hp hcl
        cases op with
        | false =>
          go_quiet (fail)
          go_wp2_with fail
          go_meet
          exact ⟨rfl, below_drewN (Below.refl _ _) nq⟩
        | true =>
          by_cases h1 : (LL).length = 1
          · obtain ⟨x, rfl⟩ := List.length_eq_one_iff.1 h1
            clear h1 hLl
            refine wp_region_any (by kernel_rfl) ?_
            try (change wpAny _ _ _ _ _ _ _ (World.drew _))
            refine wpAny_take (i := 0) (v := .bool true) rfl (by kernel_rfl) (by kernel_rfl) (by kernel_rfl) (fun _ _ _ h => h) (Or.inl ⟨by kernel_rfl, fun _ => by kernel_rfl⟩) ?_
            refine wpAny_take (i := 1) (v := .bool true) rfl (by kernel_rfl) (by kernel_rfl) (by kernel_rfl) (fun _ _ _ h => h) (Or.inl ⟨by kernel_rfl, fun _ => by kernel_rfl⟩) ?_
            refine wpAny_take (i := 2) (v := .slice aL 1 cL) rfl (by kernel_rfl) (by kernel_rfl) (by kernel_rfl) (fun _ _ _ h => h) (Or.inl ⟨by kernel_rfl, fun _ => by kernel_rfl⟩) ?_
            refine wpAny_take (i := 3) (v := .int .i64 1) rfl (by kernel_rfl) (by kernel_rfl) (by kernel_rfl) (fun _ _ _ h => h) (Or.inl ⟨by kernel_rfl, fun _ => by kernel_rfl⟩) ?_
            refine wpAny_take (i := 4) (v := .bool true) rfl (by kernel_rfl) (by kernel_rfl) (by kernel_rfl) (fun _ _ _ h => h) (Or.inl ⟨by kernel_rfl, fun _ => by kernel_rfl⟩) ?_
            refine wpAny_take (i := 5) (v := .bool true) rfl (by kernel_rfl) (by kernel_rfl) (by kernel_rfl) (fun _ _ _ h => h) (Or.inl ⟨by kernel_rfl, fun _ => by kernel_rfl⟩) ?_
            refine wpAny_take (i := 6) (v := .bool true) rfl (by kernel_rfl) (by kernel_rfl) (by kernel_rfl) (fun _ _ _ h => h) (Or.inl ⟨by kernel_rfl, fun _ => by kernel_rfl⟩) ?_
            refine wpAny_take (i := 8) (v := .pointer (some ⟨b, 0, none⟩)) rfl (by kernel_rfl) (by kernel_rfl) (by kernel_rfl) (fun _ _ _ h => h) (Or.inl ⟨by kernel_rfl, fun _ => by kernel_rfl⟩) ?_
            refine wpAny_take (i := 9) (v := .pointer (some ⟨b, 0, none⟩)) rfl (by kernel_rfl) (by kernel_rfl) (by kernel_rfl) (fun _ _ _ h => h) (Or.inl ⟨by kernel_rfl, fun _ => by kernel_rfl⟩) ?_
            refine wpAny_take (i := 10) (v := .pointer (some ⟨b, 2, none⟩)) rfl (by kernel_rfl) (by kernel_rfl) (by kernel_rfl) (fun _ _ _ h => h) (Or.inl ⟨by kernel_rfl, fun _ => by kernel_rfl⟩) ?_
            refine wpAny_ready (rs := [7, 11]) (by kernel_rfl) (by simp) ?_
            refine AllReady.cons rfl (fun K hK => ?_) (AllReady.cons rfl (fun K hK => ?_) AllReady.nil)
            · go_simp
              refine hK _ _ ?_
              clear hK K
              refine wpAny_ready (rs := [11]) (by kernel_rfl) (by simp) ?_
              refine AllReady.cons rfl (fun K hK => ?_) AllReady.nil
              go_simp
              refine hK _ _ ?_
              clear hK K
              refine wpAny_ready (rs := [12]) (by kernel_rfl) (by simp) ?_
              refine AllReady.cons rfl (fun K hK => ?_) AllReady.nil
              go_simp
              go_wp2_with (go_at_call 94; refine (meets_any l1 l2 C.uni.1 C.uni.2 _ hl9.1 hl9.2 hu.1 hu.2).mono ?_; rintro e v3 ⟨rfl, y3⟩; have x3 : Below u3.heap.size u3 v3 := Below.trans (by first | exact Below.refl _ _ | exact (Below.refl _ _).drew | exact (Below.refl _ _).alloc (Nat.le_refl _) _ | exact ((Below.refl _ _).alloc (Nat.le_refl _) _).drew | exact ((Below.refl _ _).drew).alloc (Nat.le_refl _) _) (y3.mono (by simp)))
              try (refine hK _ _ ?_; clear hK K)
              refine wpAny_take (i := 13) (v := .bool (!((l1 &&& C.uni.1) ||| (l2 &&& C.uni.2) != 0))) rfl (by kernel_rfl) (by kernel_rfl) (by kernel_rfl) (fun _ _ _ h => h) (Or.inl ⟨by kernel_rfl, fun _ => by kernel_rfl⟩) ?_
              refine wpAny_take (i := 14) (v := .bool (!((l1 &&& C.uni.1) ||| (l2 &&& C.uni.2) != 0))) rfl (by kernel_rfl) (by kernel_rfl) (by kernel_rfl) (fun _ _ _ h => h) (Or.inl ⟨by kernel_rfl, fun _ => by kernel_rfl⟩) ?_
              refine wpAny_done (by kernel_rfl) ?_ _
              go_wp2_with fail
              go_meet
              exact ⟨rfl, x3⟩
            · go_simp
              refine hK _ _ ?_
              clear hK K
              refine wpAny_ready (rs := [7]) (by kernel_rfl) (by simp) ?_
              refine AllReady.cons rfl (fun K hK => ?_) AllReady.nil
              go_simp
              refine hK _ _ ?_
              clear hK K
              refine wpAny_ready (rs := [12]) (by kernel_rfl) (by simp) ?_
              refine AllReady.cons rfl (fun K hK => ?_) AllReady.nil
              go_simp
              go_wp2_with (go_at_call 94; refine (meets_any l1 l2 C.uni.1 C.uni.2 _ hl9.1 hl9.2 hu.1 hu.2).mono ?_; rintro e v3 ⟨rfl, y3⟩; have x3 : Below u3.heap.size u3 v3 := Below.trans (by first | exact Below.refl _ _ | exact (Below.refl _ _).drew | exact (Below.refl _ _).alloc (Nat.le_refl _) _ | exact ((Below.refl _ _).alloc (Nat.le_refl _) _).drew | exact ((Below.refl _ _).drew).alloc (Nat.le_refl _) _) (y3.mono (by simp)))
              try (refine hK _ _ ?_; clear hK K)
              refine wpAny_take (i := 13) (v := .bool (!((l1 &&& C.uni.1) ||| (l2 &&& C.uni.2) != 0))) rfl (by kernel_rfl) (by kernel_rfl) (by kernel_rfl) (fun _ _ _ h => h) (Or.inl ⟨by kernel_rfl, fun _ => by kernel_rfl⟩) ?_
              refine wpAny_take (i := 14) (v := .bool (!((l1 &&& C.uni.1) ||| (l2 &&& C.uni.2) != 0))) rfl (by kernel_rfl) (by kernel_rfl) (by kernel_rfl) (fun _ _ _ h => h) (Or.inl ⟨by kernel_rfl, fun _ => by kernel_rfl⟩) ?_
              refine wpAny_done (by kernel_rfl) ?_ _
              go_wp2_with fail
              go_meet
              exact ⟨rfl, x3⟩
          · have hq1 : (((LL).length : Int) == 1) = false := by rw [beq_eq_false_iff_ne]; omega
            have HQ : Hid (((LL).length == 1) = false) := hide (by simpa using h1)
            clear h1
            go_quiet (fail)
            go_wp2_with fail
            go_meet
            exact ⟨by rw [unhide HQ]; rfl, below_drewN (Below.refl _ _) nq⟩
      case rest =>
      obtain ⟨rfl, hbc⟩ := hcut
      have hBc := hBw.trans (hbc.mono hBw.size)
      have hvc := (hbc.block _ (blk_lt hva)).trans hva
      have hrc := (hbc.block _ (blk_lt hrs)).trans hrs
      have hoLc := own_below hoL hbc
      rw [← unhide HIC3]
      cases hiu : isUnit C.uni (p1, p2) (litsAt S.ref n) with
      | false =>
        have HF := hide (unhide HNX hiu)
        clear hiu
        go_wp2_with fail
        go_roundg (gk - 1)
        case measure => omega
        case rel => exact ⟨k + 1, by go_num, by omega, hBc, hvc, hrc, unhide HF⟩
      | true =>
        have h1 : (LL).length = 1 := by
          have h2 := hiu
          rw [unhide HIC3] at h2
          simp only [Bool.and_eq_true, beq_iff_eq] at h2
          exact h2.2.1
        obtain ⟨x, hx⟩ := List.length_eq_one_iff.1 h1
        obtain ⟨gL, capL, hVL, _, hgL', _, hcL⟩ := own_pos hoLc (by omega)
        injection hVL with hVL _ hVL2
        subst hVL hVL2
        have hL0 : wc.cell? ⟨gL, 0, none⟩ = some (.int .i64 x) := hcL 0 _ (by rw [hx]; rfl)
        have HF : Hid (unitOf S.ref C.uni cs (p1, p2) = (x, n)) := hide (by rw [unhide HYS hiu, hx]; rfl)
        have lL := hgL'
        have w0 : wc.cell? ⟨w.heap.size + 1, 0, none⟩ = some (.int .i64 0) := by rw [blk_cell hrc]; rfl
        have w1 : wc.cell? ⟨w.heap.size + 1, 1, none⟩ = some (.int .i64 0) := by rw [blk_cell hrc]; rfl
        have lrc := blk_lt hrc
        have y0 := blk_free hrc 0
        have y1 := blk_free hrc 1
        have hR := blk_set (blk_set hrc 0 (.int .i64 x)) 1 (.int .i64 (n : Int))
        have j0 := blk_cell hR 0
        have j1 := blk_cell hR 1
        rw [h1]
        clear hx hcL h1 hiu hoLc hoL
        go_wp2_with fail
        refine bodyPost_ret (v := UnitV (x, n)) (by simp [results, Tryz.results73, go_sem, j0, j1, UnitV]) rfl ⟨by rw [unhide HF], ?_⟩
        exact (hBc.setCell (p := ⟨w.heap.size + 1, 0, none⟩) (Nat.le_succ _) _).setCell (p := ⟨w.heap.size + 1, 1, none⟩) (Nat.le_succ _) _
    · have hke : k = cs.length := by omega
      have HF : Hid (unitOf S.ref C.uni cs (p1, p2) = (0, 0)) := hide (by rw [unhide HCF, hke, List.drop_length]; rfl)
      subst hke
      have crs0 : wr.cell? ⟨w.heap.size + 1, 0, none⟩ = some (.int .i64 0) := by rw [blk_cell hrs]; rfl
      have crs1 : wr.cell? ⟨w.heap.size + 1, 1, none⟩ = some (.int .i64 0) := by rw [blk_cell hrs]; rfl
      have lrs := blk_lt hrs
      have hR := blk_set (blk_set hrs 0 (.int .i64 0)) 1 (.int .i64 0)
      have j0 := blk_cell hR 0
      have j1 := blk_cell hR 1
      go_wp2_with fail
      refine bodyPost_ret (v := UnitV (0, 0)) (by simp [results, Tryz.results73, go_sem, j0, j1, UnitV]) rfl ⟨by rw [unhide HF], ?_⟩
      exact (hBw.setCell (p := ⟨w.heap.size + 1, 0, none⟩) (Nat.le_succ _) _).setCell (p := ⟨w.heap.size + 1, 1, none⟩) (Nat.le_succ _) _
end Go.Proofs.YtgipjjhkhfihpabGreatDoor

namespace Go.Proofs.YtgipjjhkhfihpabGreatDoor
open Go.RowKit

/-! ### look -/
set_option maxRecDepth 100000 in
set_option maxHeartbeats 6400000 in
theorem look_of_branch (m : Nat) (hBr : BranchSpec m) : LookSpec m := by
  intro b C S V path d w hC hL hS
  obtain ⟨p1, p2⟩ := path
  have HLM := hide (lookM_as C m (p1, p2) d S)
  have hp : p1 < 512 ∧ p2 < 512 := hL.path.bd
  have hbud := hC.budget
  have hnod := hL.lin.nodes
  go_enter Tryz.func30, Tryz.ntmps30
  go_wp2_with fail
  generalize hw0 : ((w.alloc (.cells #[.int .i64 (p1 : Int), .int .i64 (p2 : Int)] 77)).alloc (.cells #[.int .i64 0, .int .i64 0] 85)) = u1
  have hb0 : Below w.heap.size w u1 := by rw [← hw0]; exact ((Below.refl _ _).alloc (Nat.le_refl _) _).alloc (by simp; try omega) _
  have hpa : u1.heap[w.heap.size]? = some (.cells #[.int .i64 (p1 : Int), .int .i64 (p2 : Int)] 77 (0, 0)) := by rw [← hw0, heap_alloc_old _ _ (by simp; try omega)]; exact alloc_new_at (by simp)
  have npa : Far b V (w.heap.size) := hS.fresh (by omega)
  have hrs : u1.heap[w.heap.size + 1]? = some (.cells #[.int .i64 0, .int .i64 0] 85 (0, 0)) := by rw [← hw0]; exact alloc_new_at (by simp)
  have nrs : Far b V (w.heap.size + 1) := hS.fresh (by omega)
  clear hw0
  have hM : SMoved b w u1 V V := SMoved.of_below hb0
  replace hS := hS.later hb0
  have lb := blk_lt hS.fb
  have cpa0 : u1.cell? ⟨w.heap.size, 0, none⟩ = some (.int .i64 (p1 : Int)) := by rw [blk_cell hpa]; rfl
  have cpa1 : u1.cell? ⟨w.heap.size, 1, none⟩ = some (.int .i64 (p2 : Int)) := by rw [blk_cell hpa]; rfl
  have lpa := blk_lt hpa
  have crs0 : u1.cell? ⟨w.heap.size + 1, 0, none⟩ = some (.int .i64 0) := by rw [blk_cell hrs]; rfl
  have crs1 : u1.cell? ⟨w.heap.size + 1, 1, none⟩ = some (.int .i64 0) := by rw [blk_cell hrs]; rfl
  have lrs := blk_lt hrs
  have cb4 : u1.cell? ⟨b, 4, none⟩ = some (.int .i64 (C.budget : Int)) := by rw [blk_cell hS.fb]; rfl
  have cb5 : u1.cell? ⟨b, 5, none⟩ = some (.int .i64 (S.nodes : Int)) := by rw [blk_cell hS.fb]; rfl
  by_cases hb : 0 < C.budget ∧ C.budget ≤ S.nodes
  · have hd1 : decide ((0 : Int) < (C.budget : Int)) = true := decide_eq_true (by omega)
    have hd1n : decide (0 < C.budget) = true := decide_eq_true (by omega)
    have hd2 : decide ((C.budget : Int) ≤ (S.nodes : Int)) = true := decide_eq_true (by omega)
    have hd3 : decide (C.budget ≤ S.nodes) = true := decide_eq_true (by omega)
    have HX : Hid (lookM C m (p1, p2) d S = (S, (0, 0))) := hide (by rw [unhide HLM, node_out hb]; rfl)
    clear hb
    go_quiet (fail)
    have hbq : Below u1.heap.size u1 (u1.drewN nq) := below_drewN (Below.refl _ _) nq
    generalize u1.drewN nq = uq at *
    clear cb4 cb5
    replace hM := hM.trans (SMoved.of_below hbq)
    replace hS := hS.later hbq
    replace lb := blk_lt hS.fb
    replace hpa := (hbq.block _ (blk_lt hpa)).trans hpa
    replace cpa0 : uq.cell? ⟨w.heap.size, 0, none⟩ = some (.int .i64 (p1 : Int)) := by rw [blk_cell hpa]; rfl
    replace cpa1 : uq.cell? ⟨w.heap.size, 1, none⟩ = some (.int .i64 (p2 : Int)) := by rw [blk_cell hpa]; rfl
    replace lpa := blk_lt hpa
    replace hrs := (hbq.block _ (blk_lt hrs)).trans hrs
    replace crs0 : uq.cell? ⟨w.heap.size + 1, 0, none⟩ = some (.int .i64 0) := by rw [blk_cell hrs]; rfl
    replace crs1 : uq.cell? ⟨w.heap.size + 1, 1, none⟩ = some (.int .i64 0) := by rw [blk_cell hrs]; rfl
    replace lrs := blk_lt hrs
    have cb4 : uq.cell? ⟨b, 4, none⟩ = some (.int .i64 (C.budget : Int)) := by rw [blk_cell hS.fb]; rfl
    have cb5 : uq.cell? ⟨b, 5, none⟩ = some (.int .i64 (S.nodes : Int)) := by rw [blk_cell hS.fb]; rfl
    have zb5 := blk_free hS.fb 5
    have z0 := blk_free hrs 0
    have z1 := blk_free hrs 1
    have hR := blk_set (blk_set hrs 0 (.int .i64 0)) 1 (.int .i64 0)
    have j0 := blk_cell hR 0
    have j1 := blk_cell hR 1
    go_wp2_with fail
    refine bodyPost_ret (v := FactV (0, 0)) (by simp [results, Tryz.results30, go_sem, j0, j1]) rfl ⟨by rw [unhide HX], ?_⟩
    rw [unhide HX]
    exact ⟨V, (hS.set nrs 0 _).set nrs 1 _, (hM.set (k := w.heap.size + 1) (by omega) 0 _).set (k := w.heap.size + 1) (by omega) 1 _⟩
  · have hn1 := hL.node hC hb
    have hcn := fun h => node_conf (path := (p1, p2)) hb h
    have hwn := fun h h2 => node_won (path := (p1, p2)) hb h h2
    have hon := fun h h2 => node_on (path := (p1, p2)) hb h h2
    have hSN : ∀ u : World, SAt u b C S V → SAt (u.setCell ⟨b, 5, none⟩ (.int .i64 ((S.nodes : Int) + 1))) b C { S with nodes := S.nodes + 1 } V := fun u h => h.setNodes (S.nodes + 1)
    obtain ⟨S1, hS1e⟩ : ∃ X : SS, X = { S with nodes := S.nodes + 1 } := ⟨_, rfl⟩
    rw [← hS1e] at hn1 hcn hwn hon hSN
    have HCN := hide hcn
    have HWN := hide hwn
    have HON := hide hon
    clear hcn hwn hon hS1e
    have hB1 := hn1.bd hC
    have hub := units_bd hC hn1.inv hL.path
    have hz1 := hn1.size
    have hz2 := hn1.nodes
    have hz3 := sizeS_le S1
    have HT : (C.budget = 0 → decide ((0 : Int) < (C.budget : Int)) = false ∧ decide (0 < C.budget) = false) ∧ (C.budget ≠ 0 → decide ((0 : Int) < (C.budget : Int)) = true ∧ decide (0 < C.budget) = true ∧ decide ((C.budget : Int) ≤ (S.nodes : Int)) = false ∧ decide (C.budget ≤ S.nodes) = false) := ⟨fun h => ⟨decide_eq_false (by omega), decide_eq_false (by omega)⟩, fun h => ⟨decide_eq_true (by omega), decide_eq_true (by omega), decide_eq_false (by omega), decide_eq_false (by omega)⟩⟩
    clear hb
    rcases Classical.em (C.budget = 0) with h0 | h0
    · obtain ⟨hd1, hd1n⟩ := HT.1 h0
      clear h0 HT
      go_quiet (fail)
      have hbq : Below u1.heap.size u1 (u1.drewN nq) := below_drewN (Below.refl _ _) nq
      generalize u1.drewN nq = uq at *
      clear cb4 cb5
      replace hM := hM.trans (SMoved.of_below hbq)
      replace hS := hS.later hbq
      replace lb := blk_lt hS.fb
      replace hpa := (hbq.block _ (blk_lt hpa)).trans hpa
      replace cpa0 : uq.cell? ⟨w.heap.size, 0, none⟩ = some (.int .i64 (p1 : Int)) := by rw [blk_cell hpa]; rfl
      replace cpa1 : uq.cell? ⟨w.heap.size, 1, none⟩ = some (.int .i64 (p2 : Int)) := by rw [blk_cell hpa]; rfl
      replace lpa := blk_lt hpa
      replace hrs := (hbq.block _ (blk_lt hrs)).trans hrs
      replace crs0 : uq.cell? ⟨w.heap.size + 1, 0, none⟩ = some (.int .i64 0) := by rw [blk_cell hrs]; rfl
      replace crs1 : uq.cell? ⟨w.heap.size + 1, 1, none⟩ = some (.int .i64 0) := by rw [blk_cell hrs]; rfl
      replace lrs := blk_lt hrs
      have cb4 : uq.cell? ⟨b, 4, none⟩ = some (.int .i64 (C.budget : Int)) := by rw [blk_cell hS.fb]; rfl
      have cb5 : uq.cell? ⟨b, 5, none⟩ = some (.int .i64 (S.nodes : Int)) := by rw [blk_cell hS.fb]; rfl
      have zb5 := blk_free hS.fb 5
      have hSn := hSN _ hS
      have hMn := hM.setB 5 (.int .i64 ((S.nodes : Int) + 1))
      have hpan := blk_other hpa (fun e => npa.1 e.symm) 5 (.int .i64 ((S.nodes : Int) + 1))
      have hrsn := blk_other hrs (fun e => nrs.1 e.symm) 5 (.int .i64 ((S.nodes : Int) + 1))
      go_wp2_with fail
      generalize (uq.setCell ⟨b, 5, none⟩ (.int .i64 ((S.nodes : Int) + 1))) = u2 at *
      clear cb4 cb5 zb5 hSN
      replace hS := hSn
      replace hM := hMn
      replace hpa := hpan
      replace hrs := hrsn
      clear hSn hMn hpan hrsn
      replace lb := blk_lt hS.fb
      replace cpa0 : u2.cell? ⟨w.heap.size, 0, none⟩ = some (.int .i64 (p1 : Int)) := by rw [blk_cell hpa]; rfl
      replace cpa1 : u2.cell? ⟨w.heap.size, 1, none⟩ = some (.int .i64 (p2 : Int)) := by rw [blk_cell hpa]; rfl
      replace lpa := blk_lt hpa
      replace crs0 : u2.cell? ⟨w.heap.size + 1, 0, none⟩ = some (.int .i64 0) := by rw [blk_cell hrs]; rfl
      replace crs1 : u2.cell? ⟨w.heap.size + 1, 1, none⟩ = some (.int .i64 0) := by rw [blk_cell hrs]; rfl
      replace lrs := blk_lt hrs
      have hSx := hS
      refine (findUnits_any findUnit_any b C S1 V (p1, p2) _ hS hB1 hp).mono ?_
      rintro e u3 ⟨vT, rfl, hrow, b3⟩
      replace hM := hM.trans (SMoved.of_below b3)
      replace hS := hS.later b3
      replace lb := blk_lt hS.fb
      replace hpa := (b3.block _ (blk_lt hpa)).trans hpa
      replace cpa0 : u3.cell? ⟨w.heap.size, 0, none⟩ = some (.int .i64 (p1 : Int)) := by rw [blk_cell hpa]; rfl
      replace cpa1 : u3.cell? ⟨w.heap.size, 1, none⟩ = some (.int .i64 (p2 : Int)) := by rw [blk_cell hpa]; rfl
      replace lpa := blk_lt hpa
      replace hrs := (b3.block _ (blk_lt hrs)).trans hrs
      replace crs0 : u3.cell? ⟨w.heap.size + 1, 0, none⟩ = some (.int .i64 0) := by rw [blk_cell hrs]; rfl
      replace crs1 : u3.cell? ⟨w.heap.size + 1, 1, none⟩ = some (.int .i64 0) := by rw [blk_cell hrs]; rfl
      replace lrs := blk_lt hrs
      generalize unitsOf C S1 (p1, p2) = U at *
      obtain ⟨⟨v1, v2⟩, trail, conf⟩ := U
      dsimp only at hub hrow HCN HWN HON ⊢
      obtain ⟨hvb, hTB, hcl⟩ := hub
      obtain ⟨aT, cT, rfl⟩ := own_form hrow
      have hfar : ∀ k, (Value.slice aT trail.length cT).ownBlock = some k → Far b V k := fun k hk => hSx.fresh (own_ge hrow hk)
      clear hSx
      by_cases hc : conf = 0
      · have hq1 : decide ((0 : Int) < (conf : Int)) = false := decide_eq_false (by omega)
        have HW1 := hide (unhide HWN hc)
        have HO1 := hide (unhide HON hc)
        have hq1n : decide (0 < conf) = false := decide_eq_false (by omega)
        clear hc
        go_wp2_with fail
        have nuu : Far b V u3.heap.size := hS.fresh (Nat.le_refl _)
        generalize hw0 : u3.alloc (.cells #[.int .i64 (v1 : Int), .int .i64 (v2 : Int), .slice aT trail.length cT, .int .i64 (conf : Int)] 117) = u4
        have b4 : Below u3.heap.size u3 u4 := by rw [← hw0]; exact (Below.refl _ _).alloc (Nat.le_refl _) _
        have huu : u4.heap[u3.heap.size]? = some (.cells #[.int .i64 (v1 : Int), .int .i64 (v2 : Int), .slice aT trail.length cT, .int .i64 (conf : Int)] 117 (0, 0)) := by rw [← hw0]; exact heap_alloc_new _ _
        clear hw0
        replace hM := hM.trans (SMoved.of_below b4)
        replace hS := hS.later b4
        replace lb := blk_lt hS.fb
        replace hpa := (b4.block _ (blk_lt hpa)).trans hpa
        replace cpa0 : u4.cell? ⟨w.heap.size, 0, none⟩ = some (.int .i64 (p1 : Int)) := by rw [blk_cell hpa]; rfl
        replace cpa1 : u4.cell? ⟨w.heap.size, 1, none⟩ = some (.int .i64 (p2 : Int)) := by rw [blk_cell hpa]; rfl
        replace lpa := blk_lt hpa
        replace hrs := (b4.block _ (blk_lt hrs)).trans hrs
        replace crs0 : u4.cell? ⟨w.heap.size + 1, 0, none⟩ = some (.int .i64 0) := by rw [blk_cell hrs]; rfl
        replace crs1 : u4.cell? ⟨w.heap.size + 1, 1, none⟩ = some (.int .i64 0) := by rw [blk_cell hrs]; rfl
        replace lrs := blk_lt hrs
        have cuu0 : u4.cell? ⟨u3.heap.size, 0, none⟩ = some (.int .i64 (v1 : Int)) := by rw [blk_cell huu]; rfl
        have cuu1 : u4.cell? ⟨u3.heap.size, 1, none⟩ = some (.int .i64 (v2 : Int)) := by rw [blk_cell huu]; rfl
        have cuu2 : u4.cell? ⟨u3.heap.size, 2, none⟩ = some (.slice aT trail.length cT) := by rw [blk_cell huu]; rfl
        have cuu3 : u4.cell? ⟨u3.heap.size, 3, none⟩ = some (.int .i64 (conf : Int)) := by rw [blk_cell huu]; rfl
        have luu := blk_lt huu
        refine (findCube_any b C S1 V (p1, p2) (v1, v2) _ hS hB1 hp hvb (by omega)).mono ?_
        rintro e u5 ⟨rfl, V2, hS2, hM2⟩
        replace hpa := hM2.blk hpa npa
        replace npa := hM2.far lpa npa
        replace hrs := hM2.blk hrs nrs
        replace nrs := hM2.far lrs nrs
        replace huu := hM2.blk huu nuu
        replace nuu := hM2.far luu nuu
        replace hM := hM.trans hM2
        replace hS := hS2
        clear hM2
        replace lb := blk_lt hS.fb
        replace cpa0 : u5.cell? ⟨w.heap.size, 0, none⟩ = some (.int .i64 (p1 : Int)) := by rw [blk_cell hpa]; rfl
        replace cpa1 : u5.cell? ⟨w.heap.size, 1, none⟩ = some (.int .i64 (p2 : Int)) := by rw [blk_cell hpa]; rfl
        replace lpa := blk_lt hpa
        replace crs0 : u5.cell? ⟨w.heap.size + 1, 0, none⟩ = some (.int .i64 0) := by rw [blk_cell hrs]; rfl
        replace crs1 : u5.cell? ⟨w.heap.size + 1, 1, none⟩ = some (.int .i64 0) := by rw [blk_cell hrs]; rfl
        replace lrs := blk_lt hrs
        replace cuu0 : u5.cell? ⟨u3.heap.size, 0, none⟩ = some (.int .i64 (v1 : Int)) := by rw [blk_cell huu]; rfl
        replace cuu1 : u5.cell? ⟨u3.heap.size, 1, none⟩ = some (.int .i64 (v2 : Int)) := by rw [blk_cell huu]; rfl
        replace cuu2 : u5.cell? ⟨u3.heap.size, 2, none⟩ = some (.slice aT trail.length cT) := by rw [blk_cell huu]; rfl
        replace cuu3 : u5.cell? ⟨u3.heap.size, 3, none⟩ = some (.int .i64 (conf : Int)) := by rw [blk_cell huu]; rfl
        replace luu := blk_lt huu
        generalize cubeOf C S1 (p1, p2) (v1, v2) = R at *
        obtain ⟨S3, f1, f2⟩ := R
        dsimp only at hS HW1 HO1 ⊢
        by_cases hf1 : f1 = 0
        · have hq2 : ((f1 : Int) == 0) = true := by rw [beq_iff_eq]; omega
          have hq3 : (f1 == 0) = true := by rw [beq_iff_eq]; exact hf1
          have hno := unhide HO1 hf1
          have hBI := hL.branch hC hno hvb
          have hX := (unhide HLM).trans (congrArg (afterNode C m (p1, p2) d) hno)
          have HX : Hid (lookM C m (p1, p2) d S = branchM C m (p1, p2) d (v1, v2) S3) := hide hX
          clear hX hno hf1
          go_wp2_with fail
          have nwo : Far b V2 u5.heap.size := hS.fresh (Nat.le_refl _)
          generalize hw0 : u5.alloc (.cells #[.int .i64 (f1 : Int), .int .i64 (f2 : Int)] 85) = u6
          have b6 : Below u5.heap.size u5 u6 := by rw [← hw0]; exact (Below.refl _ _).alloc (Nat.le_refl _) _
          have hwo : u6.heap[u5.heap.size]? = some (.cells #[.int .i64 (f1 : Int), .int .i64 (f2 : Int)] 85 (0, 0)) := by rw [← hw0]; exact heap_alloc_new _ _
          clear hw0
          replace hM := hM.trans (SMoved.of_below b6)
          replace hS := hS.later b6
          replace lb := blk_lt hS.fb
          replace hpa := (b6.block _ (blk_lt hpa)).trans hpa
          replace cpa0 : u6.cell? ⟨w.heap.size, 0, none⟩ = some (.int .i64 (p1 : Int)) := by rw [blk_cell hpa]; rfl
          replace cpa1 : u6.cell? ⟨w.heap.size, 1, none⟩ = some (.int .i64 (p2 : Int)) := by rw [blk_cell hpa]; rfl
          replace lpa := blk_lt hpa
          replace hrs := (b6.block _ (blk_lt hrs)).trans hrs
          replace crs0 : u6.cell? ⟨w.heap.size + 1, 0, none⟩ = some (.int .i64 0) := by rw [blk_cell hrs]; rfl
          replace crs1 : u6.cell? ⟨w.heap.size + 1, 1, none⟩ = some (.int .i64 0) := by rw [blk_cell hrs]; rfl
          replace lrs := blk_lt hrs
          replace huu := (b6.block _ (blk_lt huu)).trans huu
          replace cuu0 : u6.cell? ⟨u3.heap.size, 0, none⟩ = some (.int .i64 (v1 : Int)) := by rw [blk_cell huu]; rfl
          replace cuu1 : u6.cell? ⟨u3.heap.size, 1, none⟩ = some (.int .i64 (v2 : Int)) := by rw [blk_cell huu]; rfl
          replace cuu2 : u6.cell? ⟨u3.heap.size, 2, none⟩ = some (.slice aT trail.length cT) := by rw [blk_cell huu]; rfl
          replace cuu3 : u6.cell? ⟨u3.heap.size, 3, none⟩ = some (.int .i64 (conf : Int)) := by rw [blk_cell huu]; rfl
          replace luu := blk_lt huu
          have cwo0 : u6.cell? ⟨u5.heap.size, 0, none⟩ = some (.int .i64 (f1 : Int)) := by rw [blk_cell hwo]; rfl
          have cwo1 : u6.cell? ⟨u5.heap.size, 1, none⟩ = some (.int .i64 (f2 : Int)) := by rw [blk_cell hwo]; rfl
          have lwo := blk_lt hwo
          refine (hBr b C S3 V2 (p1, p2) (v1, v2) d _ hC hBI hS).mono ?_
          rintro e u7 ⟨rfl, V3, hS2, hM2⟩
          replace hpa := hM2.blk hpa npa
          replace npa := hM2.far lpa npa
          replace hrs := hM2.blk hrs nrs
          replace nrs := hM2.far lrs nrs
          replace huu := hM2.blk huu nuu
          replace nuu := hM2.far luu nuu
          replace hwo := hM2.blk hwo nwo
          replace nwo := hM2.far lwo nwo
          replace hM := hM.trans hM2
          replace hS := hS2
          clear hM2
          replace lb := blk_lt hS.fb
          replace cpa0 : u7.cell? ⟨w.heap.size, 0, none⟩ = some (.int .i64 (p1 : Int)) := by rw [blk_cell hpa]; rfl
          replace cpa1 : u7.cell? ⟨w.heap.size, 1, none⟩ = some (.int .i64 (p2 : Int)) := by rw [blk_cell hpa]; rfl
          replace lpa := blk_lt hpa
          replace crs0 : u7.cell? ⟨w.heap.size + 1, 0, none⟩ = some (.int .i64 0) := by rw [blk_cell hrs]; rfl
          replace crs1 : u7.cell? ⟨w.heap.size + 1, 1, none⟩ = some (.int .i64 0) := by rw [blk_cell hrs]; rfl
          replace lrs := blk_lt hrs
          replace cuu0 : u7.cell? ⟨u3.heap.size, 0, none⟩ = some (.int .i64 (v1 : Int)) := by rw [blk_cell huu]; rfl
          replace cuu1 : u7.cell? ⟨u3.heap.size, 1, none⟩ = some (.int .i64 (v2 : Int)) := by rw [blk_cell huu]; rfl
          replace cuu2 : u7.cell? ⟨u3.heap.size, 2, none⟩ = some (.slice aT trail.length cT) := by rw [blk_cell huu]; rfl
          replace cuu3 : u7.cell? ⟨u3.heap.size, 3, none⟩ = some (.int .i64 (conf : Int)) := by rw [blk_cell huu]; rfl
          replace luu := blk_lt huu
          replace cwo0 : u7.cell? ⟨u5.heap.size, 0, none⟩ = some (.int .i64 (f1 : Int)) := by rw [blk_cell hwo]; rfl
          replace cwo1 : u7.cell? ⟨u5.heap.size, 1, none⟩ = some (.int .i64 (f2 : Int)) := by rw [blk_cell hwo]; rfl
          replace lwo := blk_lt hwo
          generalize branchM C m (p1, p2) d (v1, v2) S3 = R at *
          obtain ⟨S4, g1, g2⟩ := R
          dsimp only at hS HX ⊢
          have z0 := blk_free hrs 0
          have z1 := blk_free hrs 1
          have hR := blk_set (blk_set hrs 0 (.int .i64 (g1 : Int))) 1 (.int .i64 (g2 : Int))
          have j0 := blk_cell hR 0
          have j1 := blk_cell hR 1
          go_wp2_with fail
          refine bodyPost_ret (v := FactV (g1, g2)) (by simp [results, Tryz.results30, go_sem, j0, j1]) rfl ⟨by rw [unhide HX], ?_⟩
          rw [unhide HX]
          exact ⟨_, (hS.set nrs 0 _).set nrs 1 _, (hM.set (k := w.heap.size + 1) (by omega) 0 _).set (k := w.heap.size + 1) (by omega) 1 _⟩
        · have hq2 : ((f1 : Int) == 0) = false := by rw [beq_eq_false_iff_ne]; omega
          have hq3 : (f1 == 0) = false := by rw [beq_eq_false_iff_ne]; exact hf1
          have hX := (unhide HLM).trans (congrArg (afterNode C m (p1, p2) d) (unhide HW1 hf1))
          have HX : Hid (lookM C m (p1, p2) d S = (S3, (f1, f2))) := hide hX
          clear hX hf1
          have z0 := blk_free hrs 0
          have z1 := blk_free hrs 1
          have hR := blk_set (blk_set hrs 0 (.int .i64 (f1 : Int))) 1 (.int .i64 (f2 : Int))
          have hAl : Below ((u5.setCell ⟨w.heap.size + 1, 0, none⟩ (.int .i64 (f1 : Int))).setCell ⟨w.heap.size + 1, 1, none⟩ (.int .i64 (f2 : Int))).heap.size ((u5.setCell ⟨w.heap.size + 1, 0, none⟩ (.int .i64 (f1 : Int))).setCell ⟨w.heap.size + 1, 1, none⟩ (.int .i64 (f2 : Int))) (((u5.setCell ⟨w.heap.size + 1, 0, none⟩ (.int .i64 (f1 : Int))).setCell ⟨w.heap.size + 1, 1, none⟩ (.int .i64 (f2 : Int))).alloc (.cells #[.int .i64 (f1 : Int), .int .i64 (f2 : Int)] 85)) := (Below.refl _ _).alloc (Nat.le_refl _) _
          have hRA := (hAl.block _ (blk_lt hR)).trans hR
          have j0 := blk_cell hRA 0
          have j1 := blk_cell hRA 1
          have j2 := blk_cell hR 0
          have j3 := blk_cell hR 1
          go_wp2_with fail
          refine bodyPost_ret (v := FactV (f1, f2)) (by simp [results, Tryz.results30, go_sem, j0, j1]) rfl ⟨by rw [unhide HX], ?_⟩
          rw [unhide HX]
          exact ⟨_, ((hS.set nrs 0 _).set nrs 1 _).later hAl, ((hM.set (k := w.heap.size + 1) (by omega) 0 _).set (k := w.heap.size + 1) (by omega) 1 _).trans (SMoved.of_below hAl)⟩
      · have hq1 : decide ((0 : Int) < (conf : Int)) = true := decide_eq_true (by omega)
        have hX := (unhide HLM).trans (congrArg (afterNode C m (p1, p2) d) (unhide HCN hc))
        have HX : Hid (lookM C m (p1, p2) d S = explain C S1 ⟨(v1, v2), trail, conf⟩) := hide hX
        have hq1n : decide (0 < conf) = true := decide_eq_true (by omega)
        clear hX hc
        go_wp2_with fail
        have nuu : Far b V u3.heap.size := hS.fresh (Nat.le_refl _)
        generalize hw0 : u3.alloc (.cells #[.int .i64 (v1 : Int), .int .i64 (v2 : Int), .slice aT trail.length cT, .int .i64 (conf : Int)] 117) = u4
        have b4 : Below u3.heap.size u3 u4 := by rw [← hw0]; exact (Below.refl _ _).alloc (Nat.le_refl _) _
        have huu : u4.heap[u3.heap.size]? = some (.cells #[.int .i64 (v1 : Int), .int .i64 (v2 : Int), .slice aT trail.length cT, .int .i64 (conf : Int)] 117 (0, 0)) := by rw [← hw0]; exact heap_alloc_new _ _
        clear hw0
        replace hM := hM.trans (SMoved.of_below b4)
        replace hS := hS.later b4
        replace lb := blk_lt hS.fb
        replace hpa := (b4.block _ (blk_lt hpa)).trans hpa
        replace cpa0 : u4.cell? ⟨w.heap.size, 0, none⟩ = some (.int .i64 (p1 : Int)) := by rw [blk_cell hpa]; rfl
        replace cpa1 : u4.cell? ⟨w.heap.size, 1, none⟩ = some (.int .i64 (p2 : Int)) := by rw [blk_cell hpa]; rfl
        replace lpa := blk_lt hpa
        replace hrs := (b4.block _ (blk_lt hrs)).trans hrs
        replace crs0 : u4.cell? ⟨w.heap.size + 1, 0, none⟩ = some (.int .i64 0) := by rw [blk_cell hrs]; rfl
        replace crs1 : u4.cell? ⟨w.heap.size + 1, 1, none⟩ = some (.int .i64 0) := by rw [blk_cell hrs]; rfl
        replace lrs := blk_lt hrs
        have cuu0 : u4.cell? ⟨u3.heap.size, 0, none⟩ = some (.int .i64 (v1 : Int)) := by rw [blk_cell huu]; rfl
        have cuu1 : u4.cell? ⟨u3.heap.size, 1, none⟩ = some (.int .i64 (v2 : Int)) := by rw [blk_cell huu]; rfl
        have cuu2 : u4.cell? ⟨u3.heap.size, 2, none⟩ = some (.slice aT trail.length cT) := by rw [blk_cell huu]; rfl
        have cuu3 : u4.cell? ⟨u3.heap.size, 3, none⟩ = some (.int .i64 (conf : Int)) := by rw [blk_cell huu]; rfl
        have luu := blk_lt huu
        replace hrow := own_below hrow b4
        refine (explain_any b C S1 V ⟨(v1, v2), trail, conf⟩ aT cT _ _ hS hB1 hrow hTB hfar (by omega) (show conf ≤ 100000 by omega)).mono ?_
        rintro e u5 ⟨rfl, V2, hS2, hM2⟩
        replace hpa := hM2.blk hpa npa
        replace npa := hM2.far lpa npa
        replace hrs := hM2.blk hrs nrs
        replace nrs := hM2.far lrs nrs
        replace huu := hM2.blk huu nuu
        replace nuu := hM2.far luu nuu
        replace hM := hM.trans hM2
        replace hS := hS2
        clear hM2
        replace lb := blk_lt hS.fb
        replace cpa0 : u5.cell? ⟨w.heap.size, 0, none⟩ = some (.int .i64 (p1 : Int)) := by rw [blk_cell hpa]; rfl
        replace cpa1 : u5.cell? ⟨w.heap.size, 1, none⟩ = some (.int .i64 (p2 : Int)) := by rw [blk_cell hpa]; rfl
        replace lpa := blk_lt hpa
        replace crs0 : u5.cell? ⟨w.heap.size + 1, 0, none⟩ = some (.int .i64 0) := by rw [blk_cell hrs]; rfl
        replace crs1 : u5.cell? ⟨w.heap.size + 1, 1, none⟩ = some (.int .i64 0) := by rw [blk_cell hrs]; rfl
        replace lrs := blk_lt hrs
        replace cuu0 : u5.cell? ⟨u3.heap.size, 0, none⟩ = some (.int .i64 (v1 : Int)) := by rw [blk_cell huu]; rfl
        replace cuu1 : u5.cell? ⟨u3.heap.size, 1, none⟩ = some (.int .i64 (v2 : Int)) := by rw [blk_cell huu]; rfl
        replace cuu2 : u5.cell? ⟨u3.heap.size, 2, none⟩ = some (.slice aT trail.length cT) := by rw [blk_cell huu]; rfl
        replace cuu3 : u5.cell? ⟨u3.heap.size, 3, none⟩ = some (.int .i64 (conf : Int)) := by rw [blk_cell huu]; rfl
        replace luu := blk_lt huu
        generalize explain C S1 ⟨(v1, v2), trail, conf⟩ = R at *
        obtain ⟨S3, f1, f2⟩ := R
        dsimp only at hS HX ⊢
        have z0 := blk_free hrs 0
        have z1 := blk_free hrs 1
        have hR := blk_set (blk_set hrs 0 (.int .i64 (f1 : Int))) 1 (.int .i64 (f2 : Int))
        have j0 := blk_cell hR 0
        have j1 := blk_cell hR 1
        go_wp2_with fail
        refine bodyPost_ret (v := FactV (f1, f2)) (by simp [results, Tryz.results30, go_sem, j0, j1]) rfl ⟨by rw [unhide HX], ?_⟩
        rw [unhide HX]
        exact ⟨_, (hS.set nrs 0 _).set nrs 1 _, (hM.set (k := w.heap.size + 1) (by omega) 0 _).set (k := w.heap.size + 1) (by omega) 1 _⟩
    · obtain ⟨hd1, hd1n, hd2, hd3⟩ := HT.2 h0
      clear h0 HT
      go_quiet (fail)
      have hbq : Below u1.heap.size u1 (u1.drewN nq) := below_drewN (Below.refl _ _) nq
      generalize u1.drewN nq = uq at *
      clear cb4 cb5
      replace hM := hM.trans (SMoved.of_below hbq)
      replace hS := hS.later hbq
      replace lb := blk_lt hS.fb
      replace hpa := (hbq.block _ (blk_lt hpa)).trans hpa
      replace cpa0 : uq.cell? ⟨w.heap.size, 0, none⟩ = some (.int .i64 (p1 : Int)) := by rw [blk_cell hpa]; rfl
      replace cpa1 : uq.cell? ⟨w.heap.size, 1, none⟩ = some (.int .i64 (p2 : Int)) := by rw [blk_cell hpa]; rfl
      replace lpa := blk_lt hpa
      replace hrs := (hbq.block _ (blk_lt hrs)).trans hrs
      replace crs0 : uq.cell? ⟨w.heap.size + 1, 0, none⟩ = some (.int .i64 0) := by rw [blk_cell hrs]; rfl
      replace crs1 : uq.cell? ⟨w.heap.size + 1, 1, none⟩ = some (.int .i64 0) := by rw [blk_cell hrs]; rfl
      replace lrs := blk_lt hrs
      have cb4 : uq.cell? ⟨b, 4, none⟩ = some (.int .i64 (C.budget : Int)) := by rw [blk_cell hS.fb]; rfl
      have cb5 : uq.cell? ⟨b, 5, none⟩ = some (.int .i64 (S.nodes : Int)) := by rw [blk_cell hS.fb]; rfl
      have zb5 := blk_free hS.fb 5
      have hSn := hSN _ hS
      have hMn := hM.setB 5 (.int .i64 ((S.nodes : Int) + 1))
      have hpan := blk_other hpa (fun e => npa.1 e.symm) 5 (.int .i64 ((S.nodes : Int) + 1))
      have hrsn := blk_other hrs (fun e => nrs.1 e.symm) 5 (.int .i64 ((S.nodes : Int) + 1))
      go_wp2_with fail
      generalize (uq.setCell ⟨b, 5, none⟩ (.int .i64 ((S.nodes : Int) + 1))) = u2 at *
      clear cb4 cb5 zb5 hSN
      replace hS := hSn
      replace hM := hMn
      replace hpa := hpan
      replace hrs := hrsn
      clear hSn hMn hpan hrsn
      replace lb := blk_lt hS.fb
      replace cpa0 : u2.cell? ⟨w.heap.size, 0, none⟩ = some (.int .i64 (p1 : Int)) := by rw [blk_cell hpa]; rfl
      replace cpa1 : u2.cell? ⟨w.heap.size, 1, none⟩ = some (.int .i64 (p2 : Int)) := by rw [blk_cell hpa]; rfl
      replace lpa := blk_lt hpa
      replace crs0 : u2.cell? ⟨w.heap.size + 1, 0, none⟩ = some (.int .i64 0) := by rw [blk_cell hrs]; rfl
      replace crs1 : u2.cell? ⟨w.heap.size + 1, 1, none⟩ = some (.int .i64 0) := by rw [blk_cell hrs]; rfl
      replace lrs := blk_lt hrs
      have hSx := hS
      refine (findUnits_any findUnit_any b C S1 V (p1, p2) _ hS hB1 hp).mono ?_
      rintro e u3 ⟨vT, rfl, hrow, b3⟩
      replace hM := hM.trans (SMoved.of_below b3)
      replace hS := hS.later b3
      replace lb := blk_lt hS.fb
      replace hpa := (b3.block _ (blk_lt hpa)).trans hpa
      replace cpa0 : u3.cell? ⟨w.heap.size, 0, none⟩ = some (.int .i64 (p1 : Int)) := by rw [blk_cell hpa]; rfl
      replace cpa1 : u3.cell? ⟨w.heap.size, 1, none⟩ = some (.int .i64 (p2 : Int)) := by rw [blk_cell hpa]; rfl
      replace lpa := blk_lt hpa
      replace hrs := (b3.block _ (blk_lt hrs)).trans hrs
      replace crs0 : u3.cell? ⟨w.heap.size + 1, 0, none⟩ = some (.int .i64 0) := by rw [blk_cell hrs]; rfl
      replace crs1 : u3.cell? ⟨w.heap.size + 1, 1, none⟩ = some (.int .i64 0) := by rw [blk_cell hrs]; rfl
      replace lrs := blk_lt hrs
      generalize unitsOf C S1 (p1, p2) = U at *
      obtain ⟨⟨v1, v2⟩, trail, conf⟩ := U
      dsimp only at hub hrow HCN HWN HON ⊢
      obtain ⟨hvb, hTB, hcl⟩ := hub
      obtain ⟨aT, cT, rfl⟩ := own_form hrow
      have hfar : ∀ k, (Value.slice aT trail.length cT).ownBlock = some k → Far b V k := fun k hk => hSx.fresh (own_ge hrow hk)
      clear hSx
      by_cases hc : conf = 0
      · have hq1 : decide ((0 : Int) < (conf : Int)) = false := decide_eq_false (by omega)
        have HW1 := hide (unhide HWN hc)
        have HO1 := hide (unhide HON hc)
        have hq1n : decide (0 < conf) = false := decide_eq_false (by omega)
        clear hc
        go_wp2_with fail
        have nuu : Far b V u3.heap.size := hS.fresh (Nat.le_refl _)
        generalize hw0 : u3.alloc (.cells #[.int .i64 (v1 : Int), .int .i64 (v2 : Int), .slice aT trail.length cT, .int .i64 (conf : Int)] 117) = u4
        have b4 : Below u3.heap.size u3 u4 := by rw [← hw0]; exact (Below.refl _ _).alloc (Nat.le_refl _) _
        have huu : u4.heap[u3.heap.size]? = some (.cells #[.int .i64 (v1 : Int), .int .i64 (v2 : Int), .slice aT trail.length cT, .int .i64 (conf : Int)] 117 (0, 0)) := by rw [← hw0]; exact heap_alloc_new _ _
        clear hw0
        replace hM := hM.trans (SMoved.of_below b4)
        replace hS := hS.later b4
        replace lb := blk_lt hS.fb
        replace hpa := (b4.block _ (blk_lt hpa)).trans hpa
        replace cpa0 : u4.cell? ⟨w.heap.size, 0, none⟩ = some (.int .i64 (p1 : Int)) := by rw [blk_cell hpa]; rfl
        replace cpa1 : u4.cell? ⟨w.heap.size, 1, none⟩ = some (.int .i64 (p2 : Int)) := by rw [blk_cell hpa]; rfl
        replace lpa := blk_lt hpa
        replace hrs := (b4.block _ (blk_lt hrs)).trans hrs
        replace crs0 : u4.cell? ⟨w.heap.size + 1, 0, none⟩ = some (.int .i64 0) := by rw [blk_cell hrs]; rfl
        replace crs1 : u4.cell? ⟨w.heap.size + 1, 1, none⟩ = some (.int .i64 0) := by rw [blk_cell hrs]; rfl
        replace lrs := blk_lt hrs
        have cuu0 : u4.cell? ⟨u3.heap.size, 0, none⟩ = some (.int .i64 (v1 : Int)) := by rw [blk_cell huu]; rfl
        have cuu1 : u4.cell? ⟨u3.heap.size, 1, none⟩ = some (.int .i64 (v2 : Int)) := by rw [blk_cell huu]; rfl
        have cuu2 : u4.cell? ⟨u3.heap.size, 2, none⟩ = some (.slice aT trail.length cT) := by rw [blk_cell huu]; rfl
        have cuu3 : u4.cell? ⟨u3.heap.size, 3, none⟩ = some (.int .i64 (conf : Int)) := by rw [blk_cell huu]; rfl
        have luu := blk_lt huu
        refine (findCube_any b C S1 V (p1, p2) (v1, v2) _ hS hB1 hp hvb (by omega)).mono ?_
        rintro e u5 ⟨rfl, V2, hS2, hM2⟩
        replace hpa := hM2.blk hpa npa
        replace npa := hM2.far lpa npa
        replace hrs := hM2.blk hrs nrs
        replace nrs := hM2.far lrs nrs
        replace huu := hM2.blk huu nuu
        replace nuu := hM2.far luu nuu
        replace hM := hM.trans hM2
        replace hS := hS2
        clear hM2
        replace lb := blk_lt hS.fb
        replace cpa0 : u5.cell? ⟨w.heap.size, 0, none⟩ = some (.int .i64 (p1 : Int)) := by rw [blk_cell hpa]; rfl
        replace cpa1 : u5.cell? ⟨w.heap.size, 1, none⟩ = some (.int .i64 (p2 : Int)) := by rw [blk_cell hpa]; rfl
        replace lpa := blk_lt hpa
        replace crs0 : u5.cell? ⟨w.heap.size + 1, 0, none⟩ = some (.int .i64 0) := by rw [blk_cell hrs]; rfl
        replace crs1 : u5.cell? ⟨w.heap.size + 1, 1, none⟩ = some (.int .i64 0) := by rw [blk_cell hrs]; rfl
        replace lrs := blk_lt hrs
        replace cuu0 : u5.cell? ⟨u3.heap.size, 0, none⟩ = some (.int .i64 (v1 : Int)) := by rw [blk_cell huu]; rfl
        replace cuu1 : u5.cell? ⟨u3.heap.size, 1, none⟩ = some (.int .i64 (v2 : Int)) := by rw [blk_cell huu]; rfl
        replace cuu2 : u5.cell? ⟨u3.heap.size, 2, none⟩ = some (.slice aT trail.length cT) := by rw [blk_cell huu]; rfl
        replace cuu3 : u5.cell? ⟨u3.heap.size, 3, none⟩ = some (.int .i64 (conf : Int)) := by rw [blk_cell huu]; rfl
        replace luu := blk_lt huu
        generalize cubeOf C S1 (p1, p2) (v1, v2) = R at *
        obtain ⟨S3, f1, f2⟩ := R
        dsimp only at hS HW1 HO1 ⊢
        by_cases hf1 : f1 = 0
        · have hq2 : ((f1 : Int) == 0) = true := by rw [beq_iff_eq]; omega
          have hq3 : (f1 == 0) = true := by rw [beq_iff_eq]; exact hf1
          have hno := unhide HO1 hf1
          have hBI := hL.branch hC hno hvb
          have hX := (unhide HLM).trans (congrArg (afterNode C m (p1, p2) d) hno)
          have HX : Hid (lookM C m (p1, p2) d S = branchM C m (p1, p2) d (v1, v2) S3) := hide hX
          clear hX hno hf1
          go_wp2_with fail
          have nwo : Far b V2 u5.heap.size := hS.fresh (Nat.le_refl _)
          generalize hw0 : u5.alloc (.cells #[.int .i64 (f1 : Int), .int .i64 (f2 : Int)] 85) = u6
          have b6 : Below u5.heap.size u5 u6 := by rw [← hw0]; exact (Below.refl _ _).alloc (Nat.le_refl _) _
          have hwo : u6.heap[u5.heap.size]? = some (.cells #[.int .i64 (f1 : Int), .int .i64 (f2 : Int)] 85 (0, 0)) := by rw [← hw0]; exact heap_alloc_new _ _
          clear hw0
          replace hM := hM.trans (SMoved.of_below b6)
          replace hS := hS.later b6
          replace lb := blk_lt hS.fb
          replace hpa := (b6.block _ (blk_lt hpa)).trans hpa
          replace cpa0 : u6.cell? ⟨w.heap.size, 0, none⟩ = some (.int .i64 (p1 : Int)) := by rw [blk_cell hpa]; rfl
          replace cpa1 : u6.cell? ⟨w.heap.size, 1, none⟩ = some (.int .i64 (p2 : Int)) := by rw [blk_cell hpa]; rfl
          replace lpa := blk_lt hpa
          replace hrs := (b6.block _ (blk_lt hrs)).trans hrs
          replace crs0 : u6.cell? ⟨w.heap.size + 1, 0, none⟩ = some (.int .i64 0) := by rw [blk_cell hrs]; rfl
          replace crs1 : u6.cell? ⟨w.heap.size + 1, 1, none⟩ = some (.int .i64 0) := by rw [blk_cell hrs]; rfl
          replace lrs := blk_lt hrs
          replace huu := (b6.block _ (blk_lt huu)).trans huu
          replace cuu0 : u6.cell? ⟨u3.heap.size, 0, none⟩ = some (.int .i64 (v1 : Int)) := by rw [blk_cell huu]; rfl
          replace cuu1 : u6.cell? ⟨u3.heap.size, 1, none⟩ = some (.int .i64 (v2 : Int)) := by rw [blk_cell huu]; rfl
          replace cuu2 : u6.cell? ⟨u3.heap.size, 2, none⟩ = some (.slice aT trail.length cT) := by rw [blk_cell huu]; rfl
          replace cuu3 : u6.cell? ⟨u3.heap.size, 3, none⟩ = some (.int .i64 (conf : Int)) := by rw [blk_cell huu]; rfl
          replace luu := blk_lt huu
          have cwo0 : u6.cell? ⟨u5.heap.size, 0, none⟩ = some (.int .i64 (f1 : Int)) := by rw [blk_cell hwo]; rfl
          have cwo1 : u6.cell? ⟨u5.heap.size, 1, none⟩ = some (.int .i64 (f2 : Int)) := by rw [blk_cell hwo]; rfl
          have lwo := blk_lt hwo
          refine (hBr b C S3 V2 (p1, p2) (v1, v2) d _ hC hBI hS).mono ?_
          rintro e u7 ⟨rfl, V3, hS2, hM2⟩
          replace hpa := hM2.blk hpa npa
          replace npa := hM2.far lpa npa
          replace hrs := hM2.blk hrs nrs
          replace nrs := hM2.far lrs nrs
          replace huu := hM2.blk huu nuu
          replace nuu := hM2.far luu nuu
          replace hwo := hM2.blk hwo nwo
          replace nwo := hM2.far lwo nwo
          replace hM := hM.trans hM2
          replace hS := hS2
          clear hM2
          replace lb := blk_lt hS.fb
          replace cpa0 : u7.cell? ⟨w.heap.size, 0, none⟩ = some (.int .i64 (p1 : Int)) := by rw [blk_cell hpa]; rfl
          replace cpa1 : u7.cell? ⟨w.heap.size, 1, none⟩ = some (.int .i64 (p2 : Int)) := by rw [blk_cell hpa]; rfl
          replace lpa := blk_lt hpa
          replace crs0 : u7.cell? ⟨w.heap.size + 1, 0, none⟩ = some (.int .i64 0) := by rw [blk_cell hrs]; rfl
          replace crs1 : u7.cell? ⟨w.heap.size + 1, 1, none⟩ = some (.int .i64 0) := by rw [blk_cell hrs]; rfl
          replace lrs := blk_lt hrs
          replace cuu0 : u7.cell? ⟨u3.heap.size, 0, none⟩ = some (.int .i64 (v1 : Int)) := by rw [blk_cell huu]; rfl
          replace cuu1 : u7.cell? ⟨u3.heap.size, 1, none⟩ = some (.int .i64 (v2 : Int)) := by rw [blk_cell huu]; rfl
          replace cuu2 : u7.cell? ⟨u3.heap.size, 2, none⟩ = some (.slice aT trail.length cT) := by rw [blk_cell huu]; rfl
          replace cuu3 : u7.cell? ⟨u3.heap.size, 3, none⟩ = some (.int .i64 (conf : Int)) := by rw [blk_cell huu]; rfl
          replace luu := blk_lt huu
          replace cwo0 : u7.cell? ⟨u5.heap.size, 0, none⟩ = some (.int .i64 (f1 : Int)) := by rw [blk_cell hwo]; rfl
          replace cwo1 : u7.cell? ⟨u5.heap.size, 1, none⟩ = some (.int .i64 (f2 : Int)) := by rw [blk_cell hwo]; rfl
          replace lwo := blk_lt hwo
          generalize branchM C m (p1, p2) d (v1, v2) S3 = R at *
          obtain ⟨S4, g1, g2⟩ := R
          dsimp only at hS HX ⊢
          have z0 := blk_free hrs 0
          have z1 := blk_free hrs 1
          have hR := blk_set (blk_set hrs 0 (.int .i64 (g1 : Int))) 1 (.int .i64 (g2 : Int))
          have j0 := blk_cell hR 0
          have j1 := blk_cell hR 1
          go_wp2_with fail
          refine bodyPost_ret (v := FactV (g1, g2)) (by simp [results, Tryz.results30, go_sem, j0, j1]) rfl ⟨by rw [unhide HX], ?_⟩
          rw [unhide HX]
          exact ⟨_, (hS.set nrs 0 _).set nrs 1 _, (hM.set (k := w.heap.size + 1) (by omega) 0 _).set (k := w.heap.size + 1) (by omega) 1 _⟩
        · have hq2 : ((f1 : Int) == 0) = false := by rw [beq_eq_false_iff_ne]; omega
          have hq3 : (f1 == 0) = false := by rw [beq_eq_false_iff_ne]; exact hf1
          have hX := (unhide HLM).trans (congrArg (afterNode C m (p1, p2) d) (unhide HW1 hf1))
          have HX : Hid (lookM C m (p1, p2) d S = (S3, (f1, f2))) := hide hX
          clear hX hf1
          have z0 := blk_free hrs 0
          have z1 := blk_free hrs 1
          have hR := blk_set (blk_set hrs 0 (.int .i64 (f1 : Int))) 1 (.int .i64 (f2 : Int))
          have hAl : Below ((u5.setCell ⟨w.heap.size + 1, 0, none⟩ (.int .i64 (f1 : Int))).setCell ⟨w.heap.size + 1, 1, none⟩ (.int .i64 (f2 : Int))).heap.size ((u5.setCell ⟨w.heap.size + 1, 0, none⟩ (.int .i64 (f1 : Int))).setCell ⟨w.heap.size + 1, 1, none⟩ (.int .i64 (f2 : Int))) (((u5.setCell ⟨w.heap.size + 1, 0, none⟩ (.int .i64 (f1 : Int))).setCell ⟨w.heap.size + 1, 1, none⟩ (.int .i64 (f2 : Int))).alloc (.cells #[.int .i64 (f1 : Int), .int .i64 (f2 : Int)] 85)) := (Below.refl _ _).alloc (Nat.le_refl _) _
          have hRA := (hAl.block _ (blk_lt hR)).trans hR
          have j0 := blk_cell hRA 0
          have j1 := blk_cell hRA 1
          have j2 := blk_cell hR 0
          have j3 := blk_cell hR 1
          go_wp2_with fail
          refine bodyPost_ret (v := FactV (f1, f2)) (by simp [results, Tryz.results30, go_sem, j0, j1]) rfl ⟨by rw [unhide HX], ?_⟩
          rw [unhide HX]
          exact ⟨_, ((hS.set nrs 0 _).set nrs 1 _).later hAl, ((hM.set (k := w.heap.size + 1) (by omega) 0 _).set (k := w.heap.size + 1) (by omega) 1 _).trans (SMoved.of_below hAl)⟩
      · have hq1 : decide ((0 : Int) < (conf : Int)) = true := decide_eq_true (by omega)
        have hX := (unhide HLM).trans (congrArg (afterNode C m (p1, p2) d) (unhide HCN hc))
        have HX : Hid (lookM C m (p1, p2) d S = explain C S1 ⟨(v1, v2), trail, conf⟩) := hide hX
        have hq1n : decide (0 < conf) = true := decide_eq_true (by omega)
        clear hX hc
        go_wp2_with fail
        have nuu : Far b V u3.heap.size := hS.fresh (Nat.le_refl _)
        generalize hw0 : u3.alloc (.cells #[.int .i64 (v1 : Int), .int .i64 (v2 : Int), .slice aT trail.length cT, .int .i64 (conf : Int)] 117) = u4
        have b4 : Below u3.heap.size u3 u4 := by rw [← hw0]; exact (Below.refl _ _).alloc (Nat.le_refl _) _
        have huu : u4.heap[u3.heap.size]? = some (.cells #[.int .i64 (v1 : Int), .int .i64 (v2 : Int), .slice aT trail.length cT, .int .i64 (conf : Int)] 117 (0, 0)) := by rw [← hw0]; exact heap_alloc_new _ _
        clear hw0
        replace hM := hM.trans (SMoved.of_below b4)
        replace hS := hS.later b4
        replace lb := blk_lt hS.fb
        replace hpa := (b4.block _ (blk_lt hpa)).trans hpa
        replace cpa0 : u4.cell? ⟨w.heap.size, 0, none⟩ = some (.int .i64 (p1 : Int)) := by rw [blk_cell hpa]; rfl
        replace cpa1 : u4.cell? ⟨w.heap.size, 1, none⟩ = some (.int .i64 (p2 : Int)) := by rw [blk_cell hpa]; rfl
        replace lpa := blk_lt hpa
        replace hrs := (b4.block _ (blk_lt hrs)).trans hrs
        replace crs0 : u4.cell? ⟨w.heap.size + 1, 0, none⟩ = some (.int .i64 0) := by rw [blk_cell hrs]; rfl
        replace crs1 : u4.cell? ⟨w.heap.size + 1, 1, none⟩ = some (.int .i64 0) := by rw [blk_cell hrs]; rfl
        replace lrs := blk_lt hrs
        have cuu0 : u4.cell? ⟨u3.heap.size, 0, none⟩ = some (.int .i64 (v1 : Int)) := by rw [blk_cell huu]; rfl
        have cuu1 : u4.cell? ⟨u3.heap.size, 1, none⟩ = some (.int .i64 (v2 : Int)) := by rw [blk_cell huu]; rfl
        have cuu2 : u4.cell? ⟨u3.heap.size, 2, none⟩ = some (.slice aT trail.length cT) := by rw [blk_cell huu]; rfl
        have cuu3 : u4.cell? ⟨u3.heap.size, 3, none⟩ = some (.int .i64 (conf : Int)) := by rw [blk_cell huu]; rfl
        have luu := blk_lt huu
        replace hrow := own_below hrow b4
        refine (explain_any b C S1 V ⟨(v1, v2), trail, conf⟩ aT cT _ _ hS hB1 hrow hTB hfar (by omega) (show conf ≤ 100000 by omega)).mono ?_
        rintro e u5 ⟨rfl, V2, hS2, hM2⟩
        replace hpa := hM2.blk hpa npa
        replace npa := hM2.far lpa npa
        replace hrs := hM2.blk hrs nrs
        replace nrs := hM2.far lrs nrs
        replace huu := hM2.blk huu nuu
        replace nuu := hM2.far luu nuu
        replace hM := hM.trans hM2
        replace hS := hS2
        clear hM2
        replace lb := blk_lt hS.fb
        replace cpa0 : u5.cell? ⟨w.heap.size, 0, none⟩ = some (.int .i64 (p1 : Int)) := by rw [blk_cell hpa]; rfl
        replace cpa1 : u5.cell? ⟨w.heap.size, 1, none⟩ = some (.int .i64 (p2 : Int)) := by rw [blk_cell hpa]; rfl
        replace lpa := blk_lt hpa
        replace crs0 : u5.cell? ⟨w.heap.size + 1, 0, none⟩ = some (.int .i64 0) := by rw [blk_cell hrs]; rfl
        replace crs1 : u5.cell? ⟨w.heap.size + 1, 1, none⟩ = some (.int .i64 0) := by rw [blk_cell hrs]; rfl
        replace lrs := blk_lt hrs
        replace cuu0 : u5.cell? ⟨u3.heap.size, 0, none⟩ = some (.int .i64 (v1 : Int)) := by rw [blk_cell huu]; rfl
        replace cuu1 : u5.cell? ⟨u3.heap.size, 1, none⟩ = some (.int .i64 (v2 : Int)) := by rw [blk_cell huu]; rfl
        replace cuu2 : u5.cell? ⟨u3.heap.size, 2, none⟩ = some (.slice aT trail.length cT) := by rw [blk_cell huu]; rfl
        replace cuu3 : u5.cell? ⟨u3.heap.size, 3, none⟩ = some (.int .i64 (conf : Int)) := by rw [blk_cell huu]; rfl
        replace luu := blk_lt huu
        generalize explain C S1 ⟨(v1, v2), trail, conf⟩ = R at *
        obtain ⟨S3, f1, f2⟩ := R
        dsimp only at hS HX ⊢
        have z0 := blk_free hrs 0
        have z1 := blk_free hrs 1
        have hR := blk_set (blk_set hrs 0 (.int .i64 (f1 : Int))) 1 (.int .i64 (f2 : Int))
        have j0 := blk_cell hR 0
        have j1 := blk_cell hR 1
        go_wp2_with fail
        refine bodyPost_ret (v := FactV (f1, f2)) (by simp [results, Tryz.results30, go_sem, j0, j1]) rfl ⟨by rw [unhide HX], ?_⟩
        rw [unhide HX]
        exact ⟨_, (hS.set nrs 0 _).set nrs 1 _, (hM.set (k := w.heap.size + 1) (by omega) 0 _).set (k := w.heap.size + 1) (by omega) 1 _⟩
end Go.Proofs.YtgipjjhkhfihpabGreatDoor
