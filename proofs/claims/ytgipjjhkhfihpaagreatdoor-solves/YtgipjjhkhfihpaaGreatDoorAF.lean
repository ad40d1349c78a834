import Derived.Test.YtgipjjhkhfihpaaGreatDoorAE
import Derived.Deep.DeepCutAuto
namespace Go.Proofs.YtgipjjhkhfihpaaGreatDoor
open Go.RowKit

/-! ### shrink, left: reading alone -/
set_option maxRecDepth 100000 in
set_option maxHeartbeats 1600000 in
theorem shrink_any (b : Nat) (C : SC) (S : SS) (V : SV) (p : Nat × Nat) (w : World) (hS : SAt w b C S V) (hB : SBd C S) (hp : p.1 < 512 ∧ p.2 < 512) :
    Calls Tryz.prog 118 #[.pointer (some ⟨b, 0, none⟩), SetV p] w fun e w' => e = .returned (SetV (shrinkQ C.q p)) ∧ Below w.heap.size w w' := by
  obtain ⟨p1, p2⟩ := p
  go_enter Tryz.func118, Tryz.ntmps118
  go_wp2_with fail
  generalize hw0 : ((w.alloc (.cells #[.int .i64 (p1 : Int), .int .i64 (p2 : Int)] 74)).alloc (.cells #[.int .i64 0, .int .i64 0] 74)) = u1
  have hBw : Below w.heap.size w u1 := by rw [← hw0]; exact ((Below.refl _ _).alloc (Nat.le_refl _) _).alloc (by simp) _
  have hva : u1.heap[w.heap.size]? = some (.cells #[.int .i64 (p1 : Int), .int .i64 (p2 : Int)] 74 (0, 0)) := by rw [← hw0, heap_alloc_old _ _ (by simp)]; exact alloc_new_at (by simp)
  have hrs : u1.heap[w.heap.size + 1]? = some (.cells #[.int .i64 0, .int .i64 0] 74 (0, 0)) := by rw [← hw0]; exact alloc_new_at (by simp)
  clear hw0
  have cva0 : u1.cell? ⟨w.heap.size, 0, none⟩ = some (.int .i64 (p1 : Int)) := by rw [blk_cell hva]; rfl
  have cva1 : u1.cell? ⟨w.heap.size, 1, none⟩ = some (.int .i64 (p2 : Int)) := by rw [blk_cell hva]; rfl
  have lva := blk_lt hva
  have crs0 : u1.cell? ⟨w.heap.size + 1, 0, none⟩ = some (.int .i64 0) := by rw [blk_cell hrs]; rfl
  have crs1 : u1.cell? ⟨w.heap.size + 1, 1, none⟩ = some (.int .i64 0) := by rw [blk_cell hrs]; rfl
  have lrs := blk_lt hrs
  refine (shrinkKind_any b C S V (p1, p2) true _ (hS.later hBw) hB hp).mono ?_
  rintro e u2 ⟨rfl, b2⟩
  replace hBw := hBw.trans (b2.mono hBw.size)
  replace hva := (b2.block _ (blk_lt hva)).trans hva
  replace cva0 : u2.cell? ⟨w.heap.size, 0, none⟩ = some (.int .i64 (p1 : Int)) := by rw [blk_cell hva]; rfl
  replace cva1 : u2.cell? ⟨w.heap.size, 1, none⟩ = some (.int .i64 (p2 : Int)) := by rw [blk_cell hva]; rfl
  replace lva := blk_lt hva
  replace hrs := (b2.block _ (blk_lt hrs)).trans hrs
  replace crs0 : u2.cell? ⟨w.heap.size + 1, 0, none⟩ = some (.int .i64 0) := by rw [blk_cell hrs]; rfl
  replace crs1 : u2.cell? ⟨w.heap.size + 1, 1, none⟩ = some (.int .i64 0) := by rw [blk_cell hrs]; rfl
  replace lrs := blk_lt hrs
  have hm := shrinkK_lt C.q true (p1, p2) hp
  have HQ : Hid (shrinkQ C.q (p1, p2) = shrinkK C.q false (shrinkK C.q true (p1, p2))) := hide rfl
  generalize hea : shrinkK C.q true (p1, p2) = c at *
  clear hea
  obtain ⟨c1, c2⟩ := c
  go_wp2_with fail
  generalize hw0 : u2.alloc (.cells #[.int .i64 (c1 : Int), .int .i64 (c2 : Int)] 74) = u3
  have b3 : Below u2.heap.size u2 u3 := by rw [← hw0]; exact (Below.refl _ _).alloc (Nat.le_refl _) _
  have hcu : u3.heap[u2.heap.size]? = some (.cells #[.int .i64 (c1 : Int), .int .i64 (c2 : Int)] 74 (0, 0)) := by rw [← hw0]; exact heap_alloc_new _ _
  clear hw0
  replace hBw := hBw.trans (b3.mono hBw.size)
  replace hva := (b3.block _ (blk_lt hva)).trans hva
  replace cva0 : u3.cell? ⟨w.heap.size, 0, none⟩ = some (.int .i64 (p1 : Int)) := by rw [blk_cell hva]; rfl
  replace cva1 : u3.cell? ⟨w.heap.size, 1, none⟩ = some (.int .i64 (p2 : Int)) := by rw [blk_cell hva]; rfl
  replace lva := blk_lt hva
  replace hrs := (b3.block _ (blk_lt hrs)).trans hrs
  replace crs0 : u3.cell? ⟨w.heap.size + 1, 0, none⟩ = some (.int .i64 0) := by rw [blk_cell hrs]; rfl
  replace crs1 : u3.cell? ⟨w.heap.size + 1, 1, none⟩ = some (.int .i64 0) := by rw [blk_cell hrs]; rfl
  replace lrs := blk_lt hrs
  have ccu0 : u3.cell? ⟨u2.heap.size, 0, none⟩ = some (.int .i64 (c1 : Int)) := by rw [blk_cell hcu]; rfl
  have ccu1 : u3.cell? ⟨u2.heap.size, 1, none⟩ = some (.int .i64 (c2 : Int)) := by rw [blk_cell hcu]; rfl
  have lcu := blk_lt hcu
  refine (shrinkKind_any b C S V (c1, c2) false _ (hS.later hBw) hB hm).mono ?_
  rintro e u4 ⟨rfl, b4⟩
  replace hBw := hBw.trans (b4.mono hBw.size)
  replace hva := (b4.block _ (blk_lt hva)).trans hva
  replace cva0 : u4.cell? ⟨w.heap.size, 0, none⟩ = some (.int .i64 (p1 : Int)) := by rw [blk_cell hva]; rfl
  replace cva1 : u4.cell? ⟨w.heap.size, 1, none⟩ = some (.int .i64 (p2 : Int)) := by rw [blk_cell hva]; rfl
  replace lva := blk_lt hva
  replace hrs := (b4.block _ (blk_lt hrs)).trans hrs
  replace crs0 : u4.cell? ⟨w.heap.size + 1, 0, none⟩ = some (.int .i64 0) := by rw [blk_cell hrs]; rfl
  replace crs1 : u4.cell? ⟨w.heap.size + 1, 1, none⟩ = some (.int .i64 0) := by rw [blk_cell hrs]; rfl
  replace lrs := blk_lt hrs
  replace hcu := (b4.block _ (blk_lt hcu)).trans hcu
  replace ccu0 : u4.cell? ⟨u2.heap.size, 0, none⟩ = some (.int .i64 (c1 : Int)) := by rw [blk_cell hcu]; rfl
  replace ccu1 : u4.cell? ⟨u2.heap.size, 1, none⟩ = some (.int .i64 (c2 : Int)) := by rw [blk_cell hcu]; rfl
  replace lcu := blk_lt hcu
  generalize hea : shrinkK C.q false (c1, c2) = c at *
  clear hea
  obtain ⟨d1, d2⟩ := c
  have z0 := blk_free hrs 0
  have z1 := blk_free hrs 1
  have hR := blk_set (blk_set hrs 0 (.int .i64 (d1 : Int))) 1 (.int .i64 (d2 : Int))
  have j0 := blk_cell hR 0
  have j1 := blk_cell hR 1
  go_wp2_with fail
  refine bodyPost_ret (v := SetV (d1, d2)) (by simp [results, Tryz.results118, go_sem, j0, j1]) rfl ⟨by rw [unhide HQ], ?_⟩
  exact (hBw.setCell (p := ⟨w.heap.size + 1, 0, none⟩) (Nat.le_succ _) _).setCell (p := ⟨w.heap.size + 1, 1, none⟩) (Nat.le_succ _) _

/-- What lies behind the first region of left: the literals that are left at some block of the call's own. -/
structure LeftAt (w wx : World) (bc lv : Nat) (p c d : Nat × Nat) : Prop where
  below : Below w.heap.size w wx
  va : wx.heap[w.heap.size]? = some (.cells #[.int .i64 (p.1 : Int), .int .i64 (p.2 : Int)] 74 (0, 0))
  rs : wx.heap[w.heap.size + 1]? = some (.cells #[.int .i64 0, .int .i64 0] 74 (0, 0))
  cl : wx.heap[bc]? = some (.cells #[.int .i64 (c.1 : Int), .int .i64 (c.2 : Int)] 74 (0, 0))
  le : wx.heap[lv]? = some (.cells #[.int .i64 (d.1 : Int), .int .i64 (d.2 : Int)] 74 (0, 0))
theorem LeftAt.ofAlloc {w v : World} {bc : Nat} {p c d : Nat × Nat} (hb : Below w.heap.size w v) (ha : v.heap[w.heap.size]? = some (.cells #[.int .i64 (p.1 : Int), .int .i64 (p.2 : Int)] 74 (0, 0))) (hr : v.heap[w.heap.size + 1]? = some (.cells #[.int .i64 0, .int .i64 0] 74 (0, 0)))
    (hc : v.heap[bc]? = some (.cells #[.int .i64 (c.1 : Int), .int .i64 (c.2 : Int)] 74 (0, 0))) : LeftAt w (v.alloc (.cells #[.int .i64 (d.1 : Int), .int .i64 (d.2 : Int)] 74)) bc v.heap.size p c d :=
  ⟨hb.alloc hb.size _, (heap_alloc_old v _ (blk_lt ha)).trans ha, (heap_alloc_old v _ (blk_lt hr)).trans hr, (heap_alloc_old v _ (blk_lt hc)).trans hc, heap_alloc_new _ _⟩
theorem LeftAt.ofStore {w v : World} {bc lv : Nat} {p c d : Nat × Nat} (hb : Below w.heap.size w v) (ha : v.heap[w.heap.size]? = some (.cells #[.int .i64 (p.1 : Int), .int .i64 (p.2 : Int)] 74 (0, 0))) (hr : v.heap[w.heap.size + 1]? = some (.cells #[.int .i64 0, .int .i64 0] 74 (0, 0)))
    (hc : v.heap[bc]? = some (.cells #[.int .i64 (c.1 : Int), .int .i64 (c.2 : Int)] 74 (0, 0))) (hl : v.heap[lv]? = some (.cells #[.int .i64 0, .int .i64 0] 74 (0, 0))) (h0 : w.heap.size ≤ lv) (h1 : w.heap.size ≠ lv) (h2 : w.heap.size + 1 ≠ lv) (h3 : bc ≠ lv) :
    LeftAt w ((v.setCell ⟨lv, 0, none⟩ (.int .i64 (d.1 : Int))).setCell ⟨lv, 1, none⟩ (.int .i64 (d.2 : Int))) bc lv p c d :=
  ⟨(hb.setCell (p := ⟨lv, 0, none⟩) h0 _).setCell (p := ⟨lv, 1, none⟩) h0 _, (Below.heap_setCell _ _ _ _ h1).trans ((Below.heap_setCell _ _ _ _ h1).trans ha), (Below.heap_setCell _ _ _ _ h2).trans ((Below.heap_setCell _ _ _ _ h2).trans hr), (Below.heap_setCell _ _ _ _ h3).trans ((Below.heap_setCell _ _ _ _ h3).trans hc), blk_set (blk_set hl 0 _) 1 _⟩
set_option maxRecDepth 100000 in
set_option maxHeartbeats 8000000 in
theorem left_any (b : Nat) (C : SC) (S : SS) (V : SV) (n : Nat) (p : Nat × Nat) (w : World) (hS : SAt w b C S V) (hB : SBd C S) (hp : p.1 < 512 ∧ p.2 < 512) :
    Calls Tryz.prog 130 #[.pointer (some ⟨b, 0, none⟩), .int .i64 (n : Int), SetV p] w fun e w' => e = .returned (.tuple #[SetV (leftOf (litsAt S.ref n) p), .bool (openB (litsAt S.ref n) p)]) ∧ Below w.heap.size w w' := by
  obtain ⟨p1, p2⟩ := p
  have hlt := litsAt_lt S.ref hB.ref n
  have hrl := hB.rl
  have k7 : w.cell? ⟨b, 7, none⟩ = some V.r := by rw [blk_cell hS.fb]; rfl
  have hbw := blk_lt hS.fb
  go_enter Tryz.func130, Tryz.ntmps130
  go_wp2_with fail
  generalize hw0 : ((w.alloc (.cells #[.int .i64 (p1 : Int), .int .i64 (p2 : Int)] 74)).alloc (.cells #[.int .i64 0, .int .i64 0] 74)) = u1
  have hBw : Below w.heap.size w u1 := by rw [← hw0]; exact ((Below.refl _ _).alloc (Nat.le_refl _) _).alloc (by simp) _
  have hva : u1.heap[w.heap.size]? = some (.cells #[.int .i64 (p1 : Int), .int .i64 (p2 : Int)] 74 (0, 0)) := by rw [← hw0, heap_alloc_old _ _ (by simp)]; exact alloc_new_at (by simp)
  have hrs : u1.heap[w.heap.size + 1]? = some (.cells #[.int .i64 0, .int .i64 0] 74 (0, 0)) := by rw [← hw0]; exact alloc_new_at (by simp)
  clear hw0
  have cva0 : u1.cell? ⟨w.heap.size, 0, none⟩ = some (.int .i64 (p1 : Int)) := by rw [blk_cell hva]; rfl
  have cva1 : u1.cell? ⟨w.heap.size, 1, none⟩ = some (.int .i64 (p2 : Int)) := by rw [blk_cell hva]; rfl
  have lva := blk_lt hva
  have crs0 : u1.cell? ⟨w.heap.size + 1, 0, none⟩ = some (.int .i64 0) := by rw [blk_cell hrs]; rfl
  have crs1 : u1.cell? ⟨w.heap.size + 1, 1, none⟩ = some (.int .i64 0) := by rw [blk_cell hrs]; rfl
  have lrs := blk_lt hrs
  have hc := (hS.later hBw)
  refine (plits_any 0 b 6 S.ref V.r n _ (by rw [blk_cell hc.fb]; rfl) hc.oR (by omega)).mono ?_
  rintro e u2 ⟨rfl, b2⟩
  replace hBw := hBw.trans (b2.mono hBw.size)
  replace hva := (b2.block _ (blk_lt hva)).trans hva
  replace cva0 : u2.cell? ⟨w.heap.size, 0, none⟩ = some (.int .i64 (p1 : Int)) := by rw [blk_cell hva]; rfl
  replace cva1 : u2.cell? ⟨w.heap.size, 1, none⟩ = some (.int .i64 (p2 : Int)) := by rw [blk_cell hva]; rfl
  replace lva := blk_lt hva
  replace hrs := (b2.block _ (blk_lt hrs)).trans hrs
  replace crs0 : u2.cell? ⟨w.heap.size + 1, 0, none⟩ = some (.int .i64 0) := by rw [blk_cell hrs]; rfl
  replace crs1 : u2.cell? ⟨w.heap.size + 1, 1, none⟩ = some (.int .i64 0) := by rw [blk_cell hrs]; rfl
  replace lrs := blk_lt hrs
  replace hc := hc.later b2
  generalize hea : litsAt S.ref n = c at *
  have HEC := hide hea
  clear hea
  obtain ⟨c1, c2⟩ := c
  have HL : Hid (leftOf (c1, c2) (p1, p2) = minus (c1, c2) (p2, p1)) := hide rfl
  have HO : Hid (openB (c1, c2) (p1, p2) = (!((c1 &&& p1) ||| (c2 &&& p2) != 0) && !(c1 &&& c2 != 0))) := hide rfl
  have hm := minus_lt (c1, c2) (p2, p1) hlt
  go_wp2_with fail
  generalize hw0 : u2.alloc (.cells #[.int .i64 (c1 : Int), .int .i64 (c2 : Int)] 74) = u3
  have b3 : Below u2.heap.size u2 u3 := by rw [← hw0]; exact (Below.refl _ _).alloc (Nat.le_refl _) _
  have hcl : u3.heap[u2.heap.size]? = some (.cells #[.int .i64 (c1 : Int), .int .i64 (c2 : Int)] 74 (0, 0)) := by rw [← hw0]; exact heap_alloc_new _ _
  clear hw0
  replace hBw := hBw.trans (b3.mono hBw.size)
  replace hva := (b3.block _ (blk_lt hva)).trans hva
  replace cva0 : u3.cell? ⟨w.heap.size, 0, none⟩ = some (.int .i64 (p1 : Int)) := by rw [blk_cell hva]; rfl
  replace cva1 : u3.cell? ⟨w.heap.size, 1, none⟩ = some (.int .i64 (p2 : Int)) := by rw [blk_cell hva]; rfl
  replace lva := blk_lt hva
  replace hrs := (b3.block _ (blk_lt hrs)).trans hrs
  replace crs0 : u3.cell? ⟨w.heap.size + 1, 0, none⟩ = some (.int .i64 0) := by rw [blk_cell hrs]; rfl
  replace crs1 : u3.cell? ⟨w.heap.size + 1, 1, none⟩ = some (.int .i64 0) := by rw [blk_cell hrs]; rfl
  replace lrs := blk_lt hrs
  replace hc := hc.later b3
  have ccl0 : u3.cell? ⟨u2.heap.size, 0, none⟩ = some (.int .i64 (c1 : Int)) := by rw [blk_cell hcl]; rfl
  have ccl1 : u3.cell? ⟨u2.heap.size, 1, none⟩ = some (.int .i64 (c2 : Int)) := by rw [blk_cell hcl]; rfl
  have lcl := blk_lt hcl
  clear hc k7 hrl hbw
  have hse : Below w.heap.size w u3 := hBw
  go_cut [9] (fun s9 wx => ∃ lv, s9 = .pointer (some ⟨lv, 0, none⟩) ∧ LeftAt w wx u2.heap.size lv (p1, p2) (c1, c2) (minus (c1, c2) (p2, p1)))
  case first =>
    go_region_with (first | (go_at_call 76; refine (turned_any p1 p2 _).mono ?_; rintro e v1 ⟨rfl, y1⟩; have x1 : Below u3.heap.size u3 v1 := Below.trans (by first | exact Below.refl _ _ | exact (Below.refl _ _).drew | exact (Below.refl _ _).alloc (Nat.le_refl _) _ | exact ((Below.refl _ _).alloc (Nat.le_refl _) _).drew | exact ((Below.refl _ _).drew).alloc (Nat.le_refl _) _) (y1.mono (by simp)); have hcl_v1 := (x1.block _ (blk_lt hcl)).trans hcl; have hva_v1 := (x1.block _ (blk_lt hva)).trans hva; have hrs_v1 := (x1.block _ (blk_lt hrs)).trans hrs; have cl0_v1 : v1.cell? ⟨u2.heap.size, 0, none⟩ = some (.int .i64 (c1 : Int)) := (by rw [blk_cell hcl_v1]; rfl); have cl1_v1 : v1.cell? ⟨u2.heap.size, 1, none⟩ = some (.int .i64 (c2 : Int)) := (by rw [blk_cell hcl_v1]; rfl); have va0_v1 : v1.cell? ⟨w.heap.size, 0, none⟩ = some (.int .i64 (p1 : Int)) := (by rw [blk_cell hva_v1]; rfl); have va1_v1 : v1.cell? ⟨w.heap.size, 1, none⟩ = some (.int .i64 (p2 : Int)) := (by rw [blk_cell hva_v1]; rfl); have rs0_v1 : v1.cell? ⟨w.heap.size + 1, 0, none⟩ = some (.int .i64 0) := (by rw [blk_cell hrs_v1]; rfl); have rs1_v1 : v1.cell? ⟨w.heap.size + 1, 1, none⟩ = some (.int .i64 0) := (by rw [blk_cell hrs_v1]; rfl); have l_v1_cl := blk_lt hcl_v1; have l_v1_va := blk_lt hva_v1; have l_v1_rs := blk_lt hrs_v1; (try (have hq1 : v1.heap[u3.heap.size]? = some (.cells #[.int .i64 0, .int .i64 0] 74 (0, 0)) := (by first | exact (y1.block u3.heap.size (by simp)).trans (heap_alloc_new u3 _) | exact (y1.block u3.heap.size (by simp)).trans (heap_alloc_new u3.drew _)); have ql1 := blk_lt hq1))) | (go_at_call 75; refine (lwithout_any c1 c2 p2 p1 _ hlt.1 hlt.2 hp.2 hp.1).mono ?_; rintro e v2 ⟨rfl, y2⟩; have x2 : Below v1.heap.size v1 v2 := Below.trans (by first | exact Below.refl _ _ | exact (Below.refl _ _).drew | exact (Below.refl _ _).alloc (Nat.le_refl _) _ | exact ((Below.refl _ _).alloc (Nat.le_refl _) _).drew | exact ((Below.refl _ _).drew).alloc (Nat.le_refl _) _) (y2.mono (by simp)); have hcl_v2 := ((x1.trans (x2.mono x1.size)).block _ (blk_lt hcl)).trans hcl; have hva_v2 := ((x1.trans (x2.mono x1.size)).block _ (blk_lt hva)).trans hva; have hrs_v2 := ((x1.trans (x2.mono x1.size)).block _ (blk_lt hrs)).trans hrs; have cl0_v2 : v2.cell? ⟨u2.heap.size, 0, none⟩ = some (.int .i64 (c1 : Int)) := (by rw [blk_cell hcl_v2]; rfl); have cl1_v2 : v2.cell? ⟨u2.heap.size, 1, none⟩ = some (.int .i64 (c2 : Int)) := (by rw [blk_cell hcl_v2]; rfl); have va0_v2 : v2.cell? ⟨w.heap.size, 0, none⟩ = some (.int .i64 (p1 : Int)) := (by rw [blk_cell hva_v2]; rfl); have va1_v2 : v2.cell? ⟨w.heap.size, 1, none⟩ = some (.int .i64 (p2 : Int)) := (by rw [blk_cell hva_v2]; rfl); have rs0_v2 : v2.cell? ⟨w.heap.size + 1, 0, none⟩ = some (.int .i64 0) := (by rw [blk_cell hrs_v2]; rfl); have rs1_v2 : v2.cell? ⟨w.heap.size + 1, 1, none⟩ = some (.int .i64 0) := (by rw [blk_cell hrs_v2]; rfl); have l_v2_cl := blk_lt hcl_v2; have l_v2_va := blk_lt hva_v2; have l_v2_rs := blk_lt hrs_v2; (try (have hq2 : v2.heap[u3.heap.size]? = some (.cells #[.int .i64 0, .int .i64 0] 74 (0, 0)) := (x2.block _ ql1).trans hq1; have q20 : v2.cell? ⟨u3.heap.size, 0, none⟩ = some (.int .i64 0) := (by rw [blk_cell hq2]; rfl); have q21 : v2.cell? ⟨u3.heap.size, 1, none⟩ = some (.int .i64 0) := (by rw [blk_cell hq2]; rfl); have qz20 := blk_free hq2 0; have qz21 := blk_free hq2 1; have ql2 := blk_lt hq2)); (try (have hq3 : v2.heap[v1.heap.size]? = some (.cells #[.int .i64 0, .int .i64 0] 74 (0, 0)) := (by first | exact (y2.block v1.heap.size (by simp)).trans (heap_alloc_new v1 _) | exact (y2.block v1.heap.size (by simp)).trans (heap_alloc_new v1.drew _)); have q30 : v2.cell? ⟨v1.heap.size, 0, none⟩ = some (.int .i64 0) := (by rw [blk_cell hq3]; rfl); have q31 : v2.cell? ⟨v1.heap.size, 1, none⟩ = some (.int .i64 0) := (by rw [blk_cell hq3]; rfl); have qz30 := blk_free hq3 0; have qz31 := blk_free hq3 1; have ql3 := blk_lt hq3))))
    all_goals
      have xx := x1.trans (x2.mono x1.size)
      have hB2 := hse.trans (xx.mono hse.size)
      have sx := x1.size
      have sy := x2.size
      go_wp2_with fail
      go_meet
      refine ⟨_, rfl, ?_⟩
      first
        | exact LeftAt.ofAlloc hB2 hva_v2 hrs_v2 hcl_v2
        | exact LeftAt.ofStore hB2 hva_v2 hrs_v2 hcl_v2 hq3 (by omega) (by omega) (by omega) (by omega)
        | exact LeftAt.ofStore hB2 hva_v2 hrs_v2 hcl_v2 hq2 (by omega) (by omega) (by omega) (by omega)
  case rest =>
  obtain ⟨lv, rfl, hL⟩ := hcut
  generalize hem : minus (c1, c2) (p2, p1) = cm at *
  have HEM := hide hem
  clear hem
  obtain ⟨d1, d2⟩ := cm
  clear hcl hva hrs cva0 cva1 lva crs0 crs1 lrs ccl0 ccl1 lcl hse b3 b2 hBw
  obtain ⟨hBz, hvaz, hrsz, hclz, hlez⟩ := hL
  dsimp only at hvaz hclz hlez hm
  have ccl0 : wc.cell? ⟨u2.heap.size, 0, none⟩ = some (.int .i64 (c1 : Int)) := by rw [blk_cell hclz]; rfl
  have ccl1 : wc.cell? ⟨u2.heap.size, 1, none⟩ = some (.int .i64 (c2 : Int)) := by rw [blk_cell hclz]; rfl
  have lcl := blk_lt hclz
  have cva0 : wc.cell? ⟨w.heap.size, 0, none⟩ = some (.int .i64 (p1 : Int)) := by rw [blk_cell hvaz]; rfl
  have cva1 : wc.cell? ⟨w.heap.size, 1, none⟩ = some (.int .i64 (p2 : Int)) := by rw [blk_cell hvaz]; rfl
  have lva := blk_lt hvaz
  have crs0 : wc.cell? ⟨w.heap.size + 1, 0, none⟩ = some (.int .i64 0) := by rw [blk_cell hrsz]; rfl
  have crs1 : wc.cell? ⟨w.heap.size + 1, 1, none⟩ = some (.int .i64 0) := by rw [blk_cell hrsz]; rfl
  have lrs := blk_lt hrsz
  have cle0 : wc.cell? ⟨lv, 0, none⟩ = some (.int .i64 (d1 : Int)) := by rw [blk_cell hlez]; rfl
  have cle1 : wc.cell? ⟨lv, 1, none⟩ = some (.int .i64 (d2 : Int)) := by rw [blk_cell hlez]; rfl
  have lle := blk_lt hlez
  go_wp2_with fail
  cases hme : ((c1 &&& p1) ||| (c2 &&& p2) != 0) with
  | true =>
    have HO2 : Hid (openB (c1, c2) (p1, p2) = false) := hide (by rw [unhide HO, hme]; rfl)
    go_region_with (go_at_call 131; refine (meets_any c1 c2 p1 p2 _ hlt.1 hlt.2 hp.1 hp.2).mono ?_; rintro e v3 ⟨rfl, y3⟩; rw [hme]; have x3 : Below wc.heap.size wc v3 := Below.trans (by first | exact Below.refl _ _ | exact (Below.refl _ _).drew | exact (Below.refl _ _).alloc (Nat.le_refl _) _ | exact ((Below.refl _ _).alloc (Nat.le_refl _) _).drew | exact ((Below.refl _ _).drew).alloc (Nat.le_refl _) _) (y3.mono (by simp)); have hcl_v3 := (x3.block _ (blk_lt hclz)).trans hclz; have hva_v3 := (x3.block _ (blk_lt hvaz)).trans hvaz; have hrs_v3 := (x3.block _ (blk_lt hrsz)).trans hrsz; have hle_v3 := (x3.block _ (blk_lt hlez)).trans hlez; have cl0_v3 : v3.cell? ⟨u2.heap.size, 0, none⟩ = some (.int .i64 (c1 : Int)) := (by rw [blk_cell hcl_v3]; rfl); have cl1_v3 : v3.cell? ⟨u2.heap.size, 1, none⟩ = some (.int .i64 (c2 : Int)) := (by rw [blk_cell hcl_v3]; rfl); have va0_v3 : v3.cell? ⟨w.heap.size, 0, none⟩ = some (.int .i64 (p1 : Int)) := (by rw [blk_cell hva_v3]; rfl); have va1_v3 : v3.cell? ⟨w.heap.size, 1, none⟩ = some (.int .i64 (p2 : Int)) := (by rw [blk_cell hva_v3]; rfl); have rs0_v3 : v3.cell? ⟨w.heap.size + 1, 0, none⟩ = some (.int .i64 0) := (by rw [blk_cell hrs_v3]; rfl); have rs1_v3 : v3.cell? ⟨w.heap.size + 1, 1, none⟩ = some (.int .i64 0) := (by rw [blk_cell hrs_v3]; rfl); have le0_v3 : v3.cell? ⟨lv, 0, none⟩ = some (.int .i64 (d1 : Int)) := (by rw [blk_cell hle_v3]; rfl); have le1_v3 : v3.cell? ⟨lv, 1, none⟩ = some (.int .i64 (d2 : Int)) := (by rw [blk_cell hle_v3]; rfl); have l_v3_cl := blk_lt hcl_v3; have l_v3_va := blk_lt hva_v3; have l_v3_rs := blk_lt hrs_v3; have l_v3_le := blk_lt hle_v3; have z0_v3 := blk_free hrs_v3 0; have z1_v3 := blk_free hrs_v3 1)
    all_goals go_wp2_with fail
    all_goals
      have hR := blk_set (blk_set hrs_v3 0 (.int .i64 (d1 : Int))) 1 (.int .i64 (d2 : Int))
      have j0 := blk_cell hR 0
      have j1 := blk_cell hR 1
      refine bodyPost_ret (v := .tuple #[SetV (d1, d2), .bool false]) (by simp [results, Tryz.results130, go_sem, j0, j1]) rfl ⟨by rw [unhide HEC, unhide HL, unhide HO2], ?_⟩
      exact ((hBz.trans (x3.mono hBz.size)).setCell (p := ⟨w.heap.size + 1, 0, none⟩) (Nat.le_succ _) _).setCell (p := ⟨w.heap.size + 1, 1, none⟩) (Nat.le_succ _) _
  | false =>
    have HO2 : Hid (openB (c1, c2) (p1, p2) = !(c1 &&& c2 != 0)) := hide (by rw [unhide HO, hme]; rfl)
    go_region_with (first | (go_at_call 131; refine (meets_any c1 c2 p1 p2 _ hlt.1 hlt.2 hp.1 hp.2).mono ?_; rintro e v3 ⟨rfl, y3⟩; rw [hme]; have x3 : Below wc.heap.size wc v3 := Below.trans (by first | exact Below.refl _ _ | exact (Below.refl _ _).drew | exact (Below.refl _ _).alloc (Nat.le_refl _) _ | exact ((Below.refl _ _).alloc (Nat.le_refl _) _).drew | exact ((Below.refl _ _).drew).alloc (Nat.le_refl _) _) (y3.mono (by simp)); have hcl_v3 := (x3.block _ (blk_lt hclz)).trans hclz; have hva_v3 := (x3.block _ (blk_lt hvaz)).trans hvaz; have hrs_v3 := (x3.block _ (blk_lt hrsz)).trans hrsz; have hle_v3 := (x3.block _ (blk_lt hlez)).trans hlez; have cl0_v3 : v3.cell? ⟨u2.heap.size, 0, none⟩ = some (.int .i64 (c1 : Int)) := (by rw [blk_cell hcl_v3]; rfl); have cl1_v3 : v3.cell? ⟨u2.heap.size, 1, none⟩ = some (.int .i64 (c2 : Int)) := (by rw [blk_cell hcl_v3]; rfl); have va0_v3 : v3.cell? ⟨w.heap.size, 0, none⟩ = some (.int .i64 (p1 : Int)) := (by rw [blk_cell hva_v3]; rfl); have va1_v3 : v3.cell? ⟨w.heap.size, 1, none⟩ = some (.int .i64 (p2 : Int)) := (by rw [blk_cell hva_v3]; rfl); have rs0_v3 : v3.cell? ⟨w.heap.size + 1, 0, none⟩ = some (.int .i64 0) := (by rw [blk_cell hrs_v3]; rfl); have rs1_v3 : v3.cell? ⟨w.heap.size + 1, 1, none⟩ = some (.int .i64 0) := (by rw [blk_cell hrs_v3]; rfl); have le0_v3 : v3.cell? ⟨lv, 0, none⟩ = some (.int .i64 (d1 : Int)) := (by rw [blk_cell hle_v3]; rfl); have le1_v3 : v3.cell? ⟨lv, 1, none⟩ = some (.int .i64 (d2 : Int)) := (by rw [blk_cell hle_v3]; rfl); have l_v3_cl := blk_lt hcl_v3; have l_v3_va := blk_lt hva_v3; have l_v3_rs := blk_lt hrs_v3; have l_v3_le := blk_lt hle_v3; have z0_v3 := blk_free hrs_v3 0; have z1_v3 := blk_free hrs_v3 1) | (go_at_call 124; refine (clashes_any c1 c2 _ hlt.1 hlt.2).mono ?_; rintro e v4 ⟨rfl, y4⟩; have x4 : Below wc.heap.size wc v4 := x3.trans (Below.trans (B := wc.heap.size) (by first | exact Below.refl _ _ | exact (Below.refl _ _).drew) (y4.mono (by have := x3.size; simp; omega))); have hcl_v4 := (x4.block _ (blk_lt hclz)).trans hclz; have hva_v4 := (x4.block _ (blk_lt hvaz)).trans hvaz; have hrs_v4 := (x4.block _ (blk_lt hrsz)).trans hrsz; have hle_v4 := (x4.block _ (blk_lt hlez)).trans hlez; have cl0_v4 : v4.cell? ⟨u2.heap.size, 0, none⟩ = some (.int .i64 (c1 : Int)) := (by rw [blk_cell hcl_v4]; rfl); have cl1_v4 : v4.cell? ⟨u2.heap.size, 1, none⟩ = some (.int .i64 (c2 : Int)) := (by rw [blk_cell hcl_v4]; rfl); have va0_v4 : v4.cell? ⟨w.heap.size, 0, none⟩ = some (.int .i64 (p1 : Int)) := (by rw [blk_cell hva_v4]; rfl); have va1_v4 : v4.cell? ⟨w.heap.size, 1, none⟩ = some (.int .i64 (p2 : Int)) := (by rw [blk_cell hva_v4]; rfl); have rs0_v4 : v4.cell? ⟨w.heap.size + 1, 0, none⟩ = some (.int .i64 0) := (by rw [blk_cell hrs_v4]; rfl); have rs1_v4 : v4.cell? ⟨w.heap.size + 1, 1, none⟩ = some (.int .i64 0) := (by rw [blk_cell hrs_v4]; rfl); have le0_v4 : v4.cell? ⟨lv, 0, none⟩ = some (.int .i64 (d1 : Int)) := (by rw [blk_cell hle_v4]; rfl); have le1_v4 : v4.cell? ⟨lv, 1, none⟩ = some (.int .i64 (d2 : Int)) := (by rw [blk_cell hle_v4]; rfl); have l_v4_cl := blk_lt hcl_v4; have l_v4_va := blk_lt hva_v4; have l_v4_rs := blk_lt hrs_v4; have l_v4_le := blk_lt hle_v4; have z0_v4 := blk_free hrs_v4 0; have z1_v4 := blk_free hrs_v4 1))
    all_goals go_wp2_with fail
    all_goals
      have hR := blk_set (blk_set hrs_v4 0 (.int .i64 (d1 : Int))) 1 (.int .i64 (d2 : Int))
      have j0 := blk_cell hR 0
      have j1 := blk_cell hR 1
      refine bodyPost_ret (v := .tuple #[SetV (d1, d2), .bool (!(c1 &&& c2 != 0))]) (by simp [results, Tryz.results130, go_sem, j0, j1]) rfl ⟨by rw [unhide HEC, unhide HL, unhide HO2], ?_⟩
      exact ((hBz.trans (x4.mono hBz.size)).setCell (p := ⟨w.heap.size + 1, 0, none⟩) (Nat.le_succ _) _).setCell (p := ⟨w.heap.size + 1, 1, none⟩) (Nat.le_succ _) _
end Go.Proofs.YtgipjjhkhfihpaaGreatDoor
