import Derived.Test.YtgipjjhkhfihpaaGreatDoorAD
namespace Go.Proofs.YtgipjjhkhfihpaaGreatDoor
open Go.RowKit

/-! ### shrink: reading alone -/
theorem shrinkStep_lt (q : QS) (u : Bool) (c : Nat × Nat) (v : Nat × Bool) (h : c.1 < 512 ∧ c.2 < 512) : (shrinkStep q u c v).1 < 512 ∧ (shrinkStep q u c v).2 < 512 := by
  unfold shrinkStep; split
  · exact without_lt _ _ h
  · exact h
theorem shrinkK_lt (q : QS) (u : Bool) (c : Nat × Nat) (h : c.1 < 512 ∧ c.2 < 512) : (shrinkK q u c).1 < 512 ∧ (shrinkK q u c).2 < 512 := by
  unfold shrinkK
  suffices hh : ∀ (vs : List (Nat × Bool)) (c : Nat × Nat), c.1 < 512 ∧ c.2 < 512 → (vs.foldl (shrinkStep q u) c).1 < 512 ∧ (vs.foldl (shrinkStep q u) c).2 < 512 from hh _ c h
  intro vs
  induction vs with
  | nil => intro c h; exact h
  | cons v vs ih => intro c h; exact ih _ (shrinkStep_lt q u c v h)
theorem shrink_step (q : QS) (u : Bool) (k : Nat) (h : k < q.vars.length) (c : Nat × Nat) : (q.vars.take (k + 1)).reverse.foldl (shrinkStep q u) c = (q.vars.take k).reverse.foldl (shrinkStep q u) (shrinkStep q u c q.vars[k]) := by
  rw [List.take_succ_eq_append_getElem h, List.reverse_append]; rfl

set_option maxRecDepth 100000 in
set_option maxHeartbeats 1600000 in
theorem shrinkKind_any (b : Nat) (C : SC) (S : SS) (V : SV) (c : Nat × Nat) (u : Bool) (w : World) (hS : SAt w b C S V) (hB : SBd C S) (hc : c.1 < 512 ∧ c.2 < 512) :
    Calls Tryz.prog 136 #[.pointer (some ⟨b, 0, none⟩), SetV c, .bool u] w fun e w' => e = .returned (SetV (shrinkK C.q u c)) ∧ Below w.heap.size w w' := by
  obtain ⟨aV, cV, hVf⟩ := own_form hS.oV
  have hoV := hS.oV
  rw [hVf] at hoV
  have hbw := blk_lt hS.fb
  have hvl := hB.qb.vl
  obtain ⟨p0, n0⟩ := c
  go_enter Tryz.func136, Tryz.ntmps136
  have k0 : w.cell? ⟨b, 0, none⟩ = some (.slice aV C.q.vars.length cV) := by rw [blk_cell hS.fb]; exact congrArg some hVf
  go_wp2_with fail
  go_loopg [7] (C.q.vars.length + 1) (fun m i wx => ∃ (k p n : Nat), i = .int .i64 ((k : Int) - 1) ∧ k + 1 ≤ m ∧ m ≤ k + 1 ∧ k ≤ C.q.vars.length ∧ p < 512 ∧ n < 512 ∧ shrinkK C.q u (p0, n0) = (C.q.vars.take k).reverse.foldl (shrinkStep C.q u) (p, n) ∧ Below w.heap.size w wx ∧
     wx.heap[w.heap.size]? = some (.cells #[.int .i64 (p : Int), .int .i64 (n : Int)] 74 (0, 0)) ∧ wx.heap[w.heap.size + 1]? = some (.cells #[.int .i64 0, .int .i64 0] 74 (0, 0)))
  case atStart => exact ⟨C.q.vars.length, p0, n0, by go_num, by omega, by omega, by omega, hc.1, hc.2, by rw [List.take_length]; rfl, ((Below.refl _ _).alloc (Nat.le_refl _) _).alloc (by simp) _, by rw [heap_alloc_old _ _ (by simp)]; exact heap_alloc_new _ _, alloc_new_at (by simp)⟩
  case round =>
    obtain ⟨k, p, n, rfl, hkm, hkm2, hkl, hp, hn, hsh, hb, hset, hres⟩ := hrel
    have HR := hide hsh; clear hsh
    have s0 : wr.cell? ⟨w.heap.size, 0, none⟩ = some (.int .i64 (p : Int)) := by rw [blk_cell hset]; rfl
    have s1 : wr.cell? ⟨w.heap.size, 1, none⟩ = some (.int .i64 (n : Int)) := by rw [blk_cell hset]; rfl
    have r0 : wr.cell? ⟨w.heap.size + 1, 0, none⟩ = some (.int .i64 0) := by rw [blk_cell hres]; rfl
    have r1 : wr.cell? ⟨w.heap.size + 1, 1, none⟩ = some (.int .i64 0) := by rw [blk_cell hres]; rfl
    have z0 := blk_free hset 0
    have z1 := blk_free hset 1
    have y0 := blk_free hres 0
    have y1 := blk_free hres 1
    have hbs := blk_lt hres
    have hbs0 : w.heap.size < wr.heap.size := by omega
    have hbw1 : b < wr.heap.size := by omega
    have x0 : wr.cell? ⟨b, 0, none⟩ = some (.slice aV C.q.vars.length cV) := by rw [hb.cell (p := ⟨b, 0, none⟩) hbw]; exact k0
    cases k with
    | zero =>
      have HF : Hid (shrinkK C.q u (p0, n0) = (p, n)) := hide (by rw [unhide HR]; rfl)
      have hR := blk_set (blk_set hres 0 (.int .i64 (p : Int))) 1 (.int .i64 (n : Int))
      have j0 := blk_cell hR 0
      have j1 := blk_cell hR 1
      go_wp2_with fail
      refine bodyPost_ret (v := SetV (p, n)) (by simp [results, Tryz.results136, go_sem, j0, j1]) rfl ⟨by rw [unhide HF], ?_⟩
      exact (hb.setCell (p := ⟨w.heap.size + 1, 0, none⟩) (Nat.le_succ _) _).setCell (p := ⟨w.heap.size + 1, 1, none⟩) (Nat.le_succ _) _
    | succ k =>
      have hlt : k < C.q.vars.length := by omega
      obtain ⟨g, cap, hVe, hg, hg', _, hcell⟩ := own_pos hoV (by omega)
      injection hVe with hVe _ hV2
      subst hVe hV2
      obtain ⟨ha, hb'⟩ := varCells_at C.q.vars k hlt
      have hx0 : wr.cell? ⟨g, k * 2, none⟩ = some (.int .i64 (C.q.vars[k].1 : Int)) := by rw [hb.cell (p := ⟨g, k * 2, none⟩) hg']; exact hcell _ _ ha
      have hx1 : wr.cell? ⟨g, k * 2 + 1, none⟩ = some (.bool C.q.vars[k].2) := by rw [hb.cell (p := ⟨g, k * 2 + 1, none⟩) hg']; exact hcell _ _ hb'
      have hgw : g < wr.heap.size := by omega
      have HST := hide (shrink_step C.q u k hlt (p, n))
      clear hcell ha hb'
      generalize C.q.vars[k] = x at *
      obtain ⟨vn, vu⟩ := x
      dsimp only at *
      go_wp2_with fail
      refine (withoutVar_any p n vn _ hp hn).mono ?_
      rintro e w2 ⟨rfl, hb2⟩
      have hA1 : Below wr.heap.size wr (wr.alloc (.cells #[.int .i64 (vn : Int), .bool vu] 139)) := (Below.refl _ _).alloc (Nat.le_refl _) _
      have hw2 : Below wr.heap.size wr w2 := hA1.trans (hb2.mono hA1.size)
      have hv2 : w2.heap[wr.heap.size]? = some (.cells #[.int .i64 (vn : Int), .bool vu] 139 (0, 0)) := (hb2.block _ (by simp)).trans (heap_alloc_new _ _)
      have hset2 := (hw2.block _ hbs0).trans hset
      have hres2 := (hw2.block _ hbs).trans hres
      have hB2 : Below w.heap.size w w2 := hb.trans (hw2.mono (by omega))
      have hwl := without_lt (p, n) vn ⟨hp, hn⟩
      have HSS : Hid (shrinkStep C.q u (p, n) (vn, vu) = if vu = u ∧ satQ C.q.cl (without (p, n) vn) = true then without (p, n) vn else (p, n)) := hide rfl
      generalize hea : without (p, n) (vn : Int) = cw at *
      have HEW := hide hea
      clear hea
      obtain ⟨d1, d2⟩ := cw
      dsimp only at hwl
      go_wp2_with fail
      have hA2 : Below w2.heap.size w2 (w2.alloc (.cells #[.int .i64 (d1 : Int), .int .i64 (d2 : Int)] 74)) := (Below.refl _ _).alloc (Nat.le_refl _) _
      have hle := heap_alloc_new w2 (.cells #[.int .i64 (d1 : Int), .int .i64 (d2 : Int)] 74)
      have hv3 := (hA2.block _ (blk_lt hv2)).trans hv2
      have hset3 := (hA2.block _ (blk_lt hset2)).trans hset2
      have hres3 := (hA2.block _ (blk_lt hres2)).trans hres2
      have hB3 := hB2.trans (hA2.mono hB2.size)
      generalize w2.alloc (.cells #[.int .i64 (d1 : Int), .int .i64 (d2 : Int)] 74) = w3 at *
      have e1 : w3.cell? ⟨wr.heap.size, 1, none⟩ = some (.bool vu) := by rw [blk_cell hv3]; rfl
      have e2 : w3.cell? ⟨w2.heap.size, 0, none⟩ = some (.int .i64 (d1 : Int)) := by rw [blk_cell hle]; rfl
      have e3 : w3.cell? ⟨w2.heap.size, 1, none⟩ = some (.int .i64 (d2 : Int)) := by rw [blk_cell hle]; rfl
      have l1 := blk_lt hv3
      have l2 := blk_lt hle
      have hS3 := hS.later hB3
      have hu9 : Below w3.heap.size w3 w3.drew := (Below.refl _ w3).drew
      have lb3 := blk_lt hS3.fb
      by_cases hvu : vu = u
      · subst hvu
        cases vu with
        | true =>
          go_region_with (go_at_call 117; refine (qsat_any 0 b C.q V.c d1 d2 _ (by rw [blk_cell (hS3.later hu9).fb]; rfl) (hS3.later hu9).oC hB.qb hwl.1 hwl.2).mono ?_; rintro e w4 ⟨rfl, hb4⟩; have hset4 := (hb4.block _ (blk_lt hset3)).trans hset3; have hres4 := (hb4.block _ (blk_lt hres3)).trans hres3; have hle4 := (hb4.block _ (blk_lt hle)).trans hle; have hB4 : Below w.heap.size w w4 := hB3.drew.trans (hb4.mono hB3.size))
          all_goals
            have t0 : w4.cell? ⟨w.heap.size, 0, none⟩ = some (.int .i64 (p : Int)) := by rw [blk_cell hset4]; rfl
            have t1 : w4.cell? ⟨w.heap.size, 1, none⟩ = some (.int .i64 (n : Int)) := by rw [blk_cell hset4]; rfl
            have t2 : w4.cell? ⟨w2.heap.size, 0, none⟩ = some (.int .i64 (d1 : Int)) := by rw [blk_cell hle4]; rfl
            have t3 : w4.cell? ⟨w2.heap.size, 1, none⟩ = some (.int .i64 (d2 : Int)) := by rw [blk_cell hle4]; rfl
            have y2 := blk_free hset4 0
            have y3 := blk_free hset4 1
            have m1 := blk_lt hset4
            have m2 := blk_lt hle4
            cases hsat : satQ C.q.cl (d1, d2) with
            | true =>
              have HF : Hid (shrinkK C.q true (p0, n0) = (C.q.vars.take k).reverse.foldl (shrinkStep C.q true) (d1, d2)) := hide (by rw [unhide HR, unhide HST, unhide HSS, if_pos (by simp [hsat])])
              clear hsat
              go_wp2_with fail
              go_roundg (gk - 1)
              case measure => omega
              case rel =>
                refine ⟨k, d1, d2, by go_num, by omega, by omega, by omega, hwl.1, hwl.2, unhide HF, (hB4.setCell (p := ⟨w.heap.size, 0, none⟩) (Nat.le_refl _) _).setCell (p := ⟨w.heap.size, 1, none⟩) (Nat.le_refl _) _, blk_set (blk_set hset4 0 _) 1 _, ?_⟩
                rw [Below.heap_setCell _ _ _ _ (by simp), Below.heap_setCell _ _ _ _ (by simp)]; exact hres4
            | false =>
              have HF : Hid (shrinkK C.q true (p0, n0) = (C.q.vars.take k).reverse.foldl (shrinkStep C.q true) (p, n)) := hide (by rw [unhide HR, unhide HST, unhide HSS, if_neg (by rw [hsat]; simp)])
              clear hsat
              go_wp2_with fail
              go_roundg (gk - 1)
              case measure => omega
              case rel => exact ⟨k, p, n, by go_num, by omega, by omega, by omega, hp, hn, unhide HF, hB4, hset4, hres4⟩
        | false =>
          go_region_with (go_at_call 117; refine (qsat_any 0 b C.q V.c d1 d2 _ (by rw [blk_cell (hS3.later hu9).fb]; rfl) (hS3.later hu9).oC hB.qb hwl.1 hwl.2).mono ?_; rintro e w4 ⟨rfl, hb4⟩; have hset4 := (hb4.block _ (blk_lt hset3)).trans hset3; have hres4 := (hb4.block _ (blk_lt hres3)).trans hres3; have hle4 := (hb4.block _ (blk_lt hle)).trans hle; have hB4 : Below w.heap.size w w4 := hB3.drew.trans (hb4.mono hB3.size))
          all_goals
            have t0 : w4.cell? ⟨w.heap.size, 0, none⟩ = some (.int .i64 (p : Int)) := by rw [blk_cell hset4]; rfl
            have t1 : w4.cell? ⟨w.heap.size, 1, none⟩ = some (.int .i64 (n : Int)) := by rw [blk_cell hset4]; rfl
            have t2 : w4.cell? ⟨w2.heap.size, 0, none⟩ = some (.int .i64 (d1 : Int)) := by rw [blk_cell hle4]; rfl
            have t3 : w4.cell? ⟨w2.heap.size, 1, none⟩ = some (.int .i64 (d2 : Int)) := by rw [blk_cell hle4]; rfl
            have y2 := blk_free hset4 0
            have y3 := blk_free hset4 1
            have m1 := blk_lt hset4
            have m2 := blk_lt hle4
            cases hsat : satQ C.q.cl (d1, d2) with
            | true =>
              have HF : Hid (shrinkK C.q false (p0, n0) = (C.q.vars.take k).reverse.foldl (shrinkStep C.q false) (d1, d2)) := hide (by rw [unhide HR, unhide HST, unhide HSS, if_pos (by simp [hsat])])
              clear hsat
              go_wp2_with fail
              go_roundg (gk - 1)
              case measure => omega
              case rel =>
                refine ⟨k, d1, d2, by go_num, by omega, by omega, by omega, hwl.1, hwl.2, unhide HF, (hB4.setCell (p := ⟨w.heap.size, 0, none⟩) (Nat.le_refl _) _).setCell (p := ⟨w.heap.size, 1, none⟩) (Nat.le_refl _) _, blk_set (blk_set hset4 0 _) 1 _, ?_⟩
                rw [Below.heap_setCell _ _ _ _ (by simp), Below.heap_setCell _ _ _ _ (by simp)]; exact hres4
            | false =>
              have HF : Hid (shrinkK C.q false (p0, n0) = (C.q.vars.take k).reverse.foldl (shrinkStep C.q false) (p, n)) := hide (by rw [unhide HR, unhide HST, unhide HSS, if_neg (by rw [hsat]; simp)])
              clear hsat
              go_wp2_with fail
              go_roundg (gk - 1)
              case measure => omega
              case rel => exact ⟨k, p, n, by go_num, by omega, by omega, by omega, hp, hn, unhide HF, hB4, hset4, hres4⟩
      · cases vu with
        | true =>
          have hu0 : u = false := by revert hvu; cases u <;> simp
          subst hu0
          have HF : Hid (shrinkK C.q false (p0, n0) = (C.q.vars.take k).reverse.foldl (shrinkStep C.q false) (p, n)) := hide (by rw [unhide HR, unhide HST, unhide HSS, if_neg (by simp)])
          clear hvu
          go_quiet (fail)
          have hb5 : Below w3.heap.size w3 (w3.drewN nq) := below_drewN (Below.refl _ _) nq
          have hset5 := (hb5.block _ (blk_lt hset3)).trans hset3
          have hres5 := (hb5.block _ (blk_lt hres3)).trans hres3
          have hB5 := hB3.trans (hb5.mono hB3.size)
          generalize w3.drewN nq = w5 at *
          go_wp2_with fail
          go_roundg (gk - 1)
          case measure => omega
          case rel => exact ⟨k, p, n, by go_num, by omega, by omega, by omega, hp, hn, unhide HF, hB5, hset5, hres5⟩
        | false =>
          have hu0 : u = true := by revert hvu; cases u <;> simp
          subst hu0
          have HF : Hid (shrinkK C.q true (p0, n0) = (C.q.vars.take k).reverse.foldl (shrinkStep C.q true) (p, n)) := hide (by rw [unhide HR, unhide HST, unhide HSS, if_neg (by simp)])
          clear hvu
          go_quiet (fail)
          have hb5 : Below w3.heap.size w3 (w3.drewN nq) := below_drewN (Below.refl _ _) nq
          have hset5 := (hb5.block _ (blk_lt hset3)).trans hset3
          have hres5 := (hb5.block _ (blk_lt hres3)).trans hres3
          have hB5 := hB3.trans (hb5.mono hB3.size)
          generalize w3.drewN nq = w5 at *
          go_wp2_with fail
          go_roundg (gk - 1)
          case measure => omega
          case rel => exact ⟨k, p, n, by go_num, by omega, by omega, by omega, hp, hn, unhide HF, hB5, hset5, hres5⟩
end Go.Proofs.YtgipjjhkhfihpaaGreatDoor
