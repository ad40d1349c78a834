import Derived.Test.YtgipjjhkhfihpabDoorAF
import Derived.Deep.DeepCutAuto
import Derived.ArgAppend
import Derived.Deep.RegionLaw
namespace Go.Proofs.YtgipjjhkhfihpabDoor
open Go.RowKit

/-! ### shrink, left: reading alone -/
set_option maxRecDepth 100000 in
set_option maxHeartbeats 1600000 in
theorem shrink_any (b : Nat) (C : SC) (S : SS) (V : SV) (p : Nat × Nat) (w : World) (hS : SAt w b C S V) (hB : SBd C S) (hp : p.1 < 512 ∧ p.2 < 512) :
    Calls Tryd.prog 62 #[.pointer (some ⟨b, 0, none⟩), SetV p] w fun e w' => e = .returned (SetV (shrinkQ C.q p)) ∧ Below w.heap.size w w' := by
  obtain ⟨p1, p2⟩ := p
  go_enter Tryd.func62, Tryd.ntmps62
  go_wp2_with fail
  generalize hw0 : ((w.alloc (.cells #[.int .i64 (p1 : Int), .int .i64 (p2 : Int)] 60)).alloc (.cells #[.int .i64 0, .int .i64 0] 60)) = u1
  have hBw : Below w.heap.size w u1 := by rw [← hw0]; exact ((Below.refl _ _).alloc (Nat.le_refl _) _).alloc (by simp) _
  have hva : u1.heap[w.heap.size]? = some (.cells #[.int .i64 (p1 : Int), .int .i64 (p2 : Int)] 60 (0, 0)) := by rw [← hw0, heap_alloc_old _ _ (by simp)]; exact alloc_new_at (by simp)
  have hrs : u1.heap[w.heap.size + 1]? = some (.cells #[.int .i64 0, .int .i64 0] 60 (0, 0)) := by rw [← hw0]; exact alloc_new_at (by simp)
  clear hw0
  have cva0 : u1.cell? ⟨w.heap.size, 0, none⟩ = some (.int .i64 (p1 : Int)) := by rw [blk_cell hva]; rfl
  have cva1 : u1.cell? ⟨w.heap.size, 1, none⟩ = some (.int .i64 (p2 : Int)) := by rw [blk_cell hva]; rfl
  have lva := blk_lt hva
  have crs0 : u1.cell? ⟨w.heap.size + 1, 0, none⟩ = some (.int .i64 0) := by rw [blk_cell hrs]; rfl
  have crs1 : u1.cell? ⟨w.heap.size + 1, 1, none⟩ = some (.int .i64 0) := by rw [blk_cell hrs]; rfl
  have lrs := blk_lt hrs
  refine (shrinkKind_any b C S V (p1, p2) true _ (hS.later hBw) hB hp).mono ?_
  rintro e u2 ⟨rfl, b2⟩
  replace hBw := hBw.trans (b2.mono hBw.size)
  replace hva := (b2.block _ (blk_lt hva)).trans hva
  replace cva0 : u2.cell? ⟨w.heap.size, 0, none⟩ = some (.int .i64 (p1 : Int)) := by rw [blk_cell hva]; rfl
  replace cva1 : u2.cell? ⟨w.heap.size, 1, none⟩ = some (.int .i64 (p2 : Int)) := by rw [blk_cell hva]; rfl
  replace lva := blk_lt hva
  replace hrs := (b2.block _ (blk_lt hrs)).trans hrs
  replace crs0 : u2.cell? ⟨w.heap.size + 1, 0, none⟩ = some (.int .i64 0) := by rw [blk_cell hrs]; rfl
  replace crs1 : u2.cell? ⟨w.heap.size + 1, 1, none⟩ = some (.int .i64 0) := by rw [blk_cell hrs]; rfl
  replace lrs := blk_lt hrs
  have hm := shrinkK_lt C.q true (p1, p2) hp
  have HQ : Hid (shrinkQ C.q (p1, p2) = shrinkK C.q false (shrinkK C.q true (p1, p2))) := hide rfl
  generalize hea : shrinkK C.q true (p1, p2) = c at *
  clear hea
  obtain ⟨c1, c2⟩ := c
  go_wp2_with fail
  generalize hw0 : u2.alloc (.cells #[.int .i64 (c1 : Int), .int .i64 (c2 : Int)] 60) = u3
  have b3 : Below u2.heap.size u2 u3 := by rw [← hw0]; exact (Below.refl _ _).alloc (Nat.le_refl _) _
  have hcu : u3.heap[u2.heap.size]? = some (.cells #[.int .i64 (c1 : Int), .int .i64 (c2 : Int)] 60 (0, 0)) := by rw [← hw0]; exact heap_alloc_new _ _
  clear hw0
  replace hBw := hBw.trans (b3.mono hBw.size)
  replace hva := (b3.block _ (blk_lt hva)).trans hva
  replace cva0 : u3.cell? ⟨w.heap.size, 0, none⟩ = some (.int .i64 (p1 : Int)) := by rw [blk_cell hva]; rfl
  replace cva1 : u3.cell? ⟨w.heap.size, 1, none⟩ = some (.int .i64 (p2 : Int)) := by rw [blk_cell hva]; rfl
  replace lva := blk_lt hva
  replace hrs := (b3.block _ (blk_lt hrs)).trans hrs
  replace crs0 : u3.cell? ⟨w.heap.size + 1, 0, none⟩ = some (.int .i64 0) := by rw [blk_cell hrs]; rfl
  replace crs1 : u3.cell? ⟨w.heap.size + 1, 1, none⟩ = some (.int .i64 0) := by rw [blk_cell hrs]; rfl
  replace lrs := blk_lt hrs
  have ccu0 : u3.cell? ⟨u2.heap.size, 0, none⟩ = some (.int .i64 (c1 : Int)) := by rw [blk_cell hcu]; rfl
  have ccu1 : u3.cell? ⟨u2.heap.size, 1, none⟩ = some (.int .i64 (c2 : Int)) := by rw [blk_cell hcu]; rfl
  have lcu := blk_lt hcu
  refine (shrinkKind_any b C S V (c1, c2) false _ (hS.later hBw) hB hm).mono ?_
  rintro e u4 ⟨rfl, b4⟩
  replace hBw := hBw.trans (b4.mono hBw.size)
  replace hva := (b4.block _ (blk_lt hva)).trans hva
  replace cva0 : u4.cell? ⟨w.heap.size, 0, none⟩ = some (.int .i64 (p1 : Int)) := by rw [blk_cell hva]; rfl
  replace cva1 : u4.cell? ⟨w.heap.size, 1, none⟩ = some (.int .i64 (p2 : Int)) := by rw [blk_cell hva]; rfl
  replace lva := blk_lt hva
  replace hrs := (b4.block _ (blk_lt hrs)).trans hrs
  replace crs0 : u4.cell? ⟨w.heap.size + 1, 0, none⟩ = some (.int .i64 0) := by rw [blk_cell hrs]; rfl
  replace crs1 : u4.cell? ⟨w.heap.size + 1, 1, none⟩ = some (.int .i64 0) := by rw [blk_cell hrs]; rfl
  replace lrs := blk_lt hrs
  replace hcu := (b4.block _ (blk_lt hcu)).trans hcu
  replace ccu0 : u4.cell? ⟨u2.heap.size, 0, none⟩ = some (.int .i64 (c1 : Int)) := by rw [blk_cell hcu]; rfl
  replace ccu1 : u4.cell? ⟨u2.heap.size, 1, none⟩ = some (.int .i64 (c2 : Int)) := by rw [blk_cell hcu]; rfl
  replace lcu := blk_lt hcu
  generalize hea : shrinkK C.q false (c1, c2) = c at *
  clear hea
  obtain ⟨d1, d2⟩ := c
  have z0 := blk_free hrs 0
  have z1 := blk_free hrs 1
  have hR := blk_set (blk_set hrs 0 (.int .i64 (d1 : Int))) 1 (.int .i64 (d2 : Int))
  have j0 := blk_cell hR 0
  have j1 := blk_cell hR 1
  go_wp2_with fail
  refine bodyPost_ret (v := SetV (d1, d2)) (by simp [results, Tryd.results62, go_sem, j0, j1]) rfl ⟨by rw [unhide HQ], ?_⟩
  exact (hBw.setCell (p := ⟨w.heap.size + 1, 0, none⟩) (Nat.le_succ _) _).setCell (p := ⟨w.heap.size + 1, 1, none⟩) (Nat.le_succ _) _

/-- What lies behind the first region of left: the literals that are left at some block of the call's own. -/
structure LeftAt (w wx : World) (bc lv : Nat) (p c d : Nat × Nat) : Prop where
  below : Below w.heap.size w wx
  va : wx.heap[w.heap.size]? = some (.cells #[.int .i64 (p.1 : Int), .int .i64 (p.2 : Int)] 60 (0, 0))
  rs : wx.heap[w.heap.size + 1]? = some (.cells #[.int .i64 0, .int .i64 0] 60 (0, 0))
  cl : wx.heap[bc]? = some (.cells #[.int .i64 (c.1 : Int), .int .i64 (c.2 : Int)] 60 (0, 0))
  le : wx.heap[lv]? = some (.cells #[.int .i64 (d.1 : Int), .int .i64 (d.2 : Int)] 60 (0, 0))
theorem LeftAt.ofAlloc {w v : World} {bc : Nat} {p c d : Nat × Nat} (hb : Below w.heap.size w v) (ha : v.heap[w.heap.size]? = some (.cells #[.int .i64 (p.1 : Int), .int .i64 (p.2 : Int)] 60 (0, 0))) (hr : v.heap[w.heap.size + 1]? = some (.cells #[.int .i64 0, .int .i64 0] 60 (0, 0)))
    (hc : v.heap[bc]? = some (.cells #[.int .i64 (c.1 : Int), .int .i64 (c.2 : Int)] 60 (0, 0))) : LeftAt w (v.alloc (.cells #[.int .i64 (d.1 : Int), .int .i64 (d.2 : Int)] 60)) bc v.heap.size p c d :=
  ⟨hb.alloc hb.size _, (heap_alloc_old v _ (blk_lt ha)).trans ha, (heap_alloc_old v _ (blk_lt hr)).trans hr, (heap_alloc_old v _ (blk_lt hc)).trans hc, heap_alloc_new _ _⟩
theorem LeftAt.ofStore {w v : World} {bc lv : Nat} {p c d : Nat × Nat} (hb : Below w.heap.size w v) (ha : v.heap[w.heap.size]? = some (.cells #[.int .i64 (p.1 : Int), .int .i64 (p.2 : Int)] 60 (0, 0))) (hr : v.heap[w.heap.size + 1]? = some (.cells #[.int .i64 0, .int .i64 0] 60 (0, 0)))
    (hc : v.heap[bc]? = some (.cells #[.int .i64 (c.1 : Int), .int .i64 (c.2 : Int)] 60 (0, 0))) (hl : v.heap[lv]? = some (.cells #[.int .i64 0, .int .i64 0] 60 (0, 0))) (h0 : w.heap.size ≤ lv) (h1 : w.heap.size ≠ lv) (h2 : w.heap.size + 1 ≠ lv) (h3 : bc ≠ lv) :
    LeftAt w ((v.setCell ⟨lv, 0, none⟩ (.int .i64 (d.1 : Int))).setCell ⟨lv, 1, none⟩ (.int .i64 (d.2 : Int))) bc lv p c d :=
  ⟨(hb.setCell (p := ⟨lv, 0, none⟩) h0 _).setCell (p := ⟨lv, 1, none⟩) h0 _, (Below.heap_setCell _ _ _ _ h1).trans ((Below.heap_setCell _ _ _ _ h1).trans ha), (Below.heap_setCell _ _ _ _ h2).trans ((Below.heap_setCell _ _ _ _ h2).trans hr), (Below.heap_setCell _ _ _ _ h3).trans ((Below.heap_setCell _ _ _ _ h3).trans hc), blk_set (blk_set hl 0 _) 1 _⟩
set_option maxRecDepth 100000 in
set_option maxHeartbeats 8000000 in
theorem left_any (b : Nat) (C : SC) (S : SS) (V : SV) (n : Nat) (p : Nat × Nat) (w : World) (hS : SAt w b C S V) (hB : SBd C S) (hp : p.1 < 512 ∧ p.2 < 512) :
    Calls Tryd.prog 68 #[.pointer (some ⟨b, 0, none⟩), .int .i64 (n : Int), SetV p] w fun e w' => e = .returned (.tuple #[SetV (leftOf (litsAt S.ref n) p), .bool (openB (litsAt S.ref n) p)]) ∧ Below w.heap.size w w' := by
  obtain ⟨p1, p2⟩ := p
  have hlt := litsAt_lt S.ref hB.ref n
  have hrl := hB.rl
  have k7 : w.cell? ⟨b, 7, none⟩ = some V.r := by rw [blk_cell hS.fb]; rfl
  have hbw := blk_lt hS.fb
  go_enter Tryd.func68, Tryd.ntmps68
  go_wp2_with fail
  generalize hw0 : ((w.alloc (.cells #[.int .i64 (p1 : Int), .int .i64 (p2 : Int)] 60)).alloc (.cells #[.int .i64 0, .int .i64 0] 60)) = u1
  have hBw : Below w.heap.size w u1 := by rw [← hw0]; exact ((Below.refl _ _).alloc (Nat.le_refl _) _).alloc (by simp) _
  have hva : u1.heap[w.heap.size]? = some (.cells #[.int .i64 (p1 : Int), .int .i64 (p2 : Int)] 60 (0, 0)) := by rw [← hw0, heap_alloc_old _ _ (by simp)]; exact alloc_new_at (by simp)
  have hrs : u1.heap[w.heap.size + 1]? = some (.cells #[.int .i64 0, .int .i64 0] 60 (0, 0)) := by rw [← hw0]; exact alloc_new_at (by simp)
  clear hw0
  have cva0 : u1.cell? ⟨w.heap.size, 0, none⟩ = some (.int .i64 (p1 : Int)) := by rw [blk_cell hva]; rfl
  have cva1 : u1.cell? ⟨w.heap.size, 1, none⟩ = some (.int .i64 (p2 : Int)) := by rw [blk_cell hva]; rfl
  have lva := blk_lt hva
  have crs0 : u1.cell? ⟨w.heap.size + 1, 0, none⟩ = some (.int .i64 0) := by rw [blk_cell hrs]; rfl
  have crs1 : u1.cell? ⟨w.heap.size + 1, 1, none⟩ = some (.int .i64 0) := by rw [blk_cell hrs]; rfl
  have lrs := blk_lt hrs
  have hc := (hS.later hBw)
  refine (plits_any 0 b 6 S.ref V.r n _ (by rw [blk_cell hc.fb]; rfl) hc.oR (by omega)).mono ?_
  rintro e u2 ⟨rfl, b2⟩
  replace hBw := hBw.trans (b2.mono hBw.size)
  replace hva := (b2.block _ (blk_lt hva)).trans hva
  replace cva0 : u2.cell? ⟨w.heap.size, 0, none⟩ = some (.int .i64 (p1 : Int)) := by rw [blk_cell hva]; rfl
  replace cva1 : u2.cell? ⟨w.heap.size, 1, none⟩ = some (.int .i64 (p2 : Int)) := by rw [blk_cell hva]; rfl
  replace lva := blk_lt hva
  replace hrs := (b2.block _ (blk_lt hrs)).trans hrs
  replace crs0 : u2.cell? ⟨w.heap.size + 1, 0, none⟩ = some (.int .i64 0) := by rw [blk_cell hrs]; rfl
  replace crs1 : u2.cell? ⟨w.heap.size + 1, 1, none⟩ = some (.int .i64 0) := by rw [blk_cell hrs]; rfl
  replace lrs := blk_lt hrs
  replace hc := hc.later b2
  generalize hea : litsAt S.ref n = c at *
  have HEC := hide hea
  clear hea
  obtain ⟨c1, c2⟩ := c
  have HL : Hid (leftOf (c1, c2) (p1, p2) = minus (c1, c2) (p2, p1)) := hide rfl
  have HO : Hid (openB (c1, c2) (p1, p2) = (!((c1 &&& p1) ||| (c2 &&& p2) != 0) && !(c1 &&& c2 != 0))) := hide rfl
  have hm := minus_lt (c1, c2) (p2, p1) hlt
  go_wp2_with fail
  generalize hw0 : u2.alloc (.cells #[.int .i64 (c1 : Int), .int .i64 (c2 : Int)] 60) = u3
  have b3 : Below u2.heap.size u2 u3 := by rw [← hw0]; exact (Below.refl _ _).alloc (Nat.le_refl _) _
  have hcl : u3.heap[u2.heap.size]? = some (.cells #[.int .i64 (c1 : Int), .int .i64 (c2 : Int)] 60 (0, 0)) := by rw [← hw0]; exact heap_alloc_new _ _
  clear hw0
  replace hBw := hBw.trans (b3.mono hBw.size)
  replace hva := (b3.block _ (blk_lt hva)).trans hva
  replace cva0 : u3.cell? ⟨w.heap.size, 0, none⟩ = some (.int .i64 (p1 : Int)) := by rw [blk_cell hva]; rfl
  replace cva1 : u3.cell? ⟨w.heap.size, 1, none⟩ = some (.int .i64 (p2 : Int)) := by rw [blk_cell hva]; rfl
  replace lva := blk_lt hva
  replace hrs := (b3.block _ (blk_lt hrs)).trans hrs
  replace crs0 : u3.cell? ⟨w.heap.size + 1, 0, none⟩ = some (.int .i64 0) := by rw [blk_cell hrs]; rfl
  replace crs1 : u3.cell? ⟨w.heap.size + 1, 1, none⟩ = some (.int .i64 0) := by rw [blk_cell hrs]; rfl
  replace lrs := blk_lt hrs
  replace hc := hc.later b3
  have ccl0 : u3.cell? ⟨u2.heap.size, 0, none⟩ = some (.int .i64 (c1 : Int)) := by rw [blk_cell hcl]; rfl
  have ccl1 : u3.cell? ⟨u2.heap.size, 1, none⟩ = some (.int .i64 (c2 : Int)) := by rw [blk_cell hcl]; rfl
  have lcl := blk_lt hcl
  clear hc k7 hrl hbw
  have hse : Below w.heap.size w u3 := hBw
  go_cut [9] (fun s9 wx => ∃ lv, s9 = .pointer (some ⟨lv, 0, none⟩) ∧ LeftAt w wx u2.heap.size lv (p1, p2) (c1, c2) (minus (c1, c2) (p2, p1)))
  case first =>
    go_region_with (first | (go_at_call 80; refine (turned_any p1 p2 _).mono ?_; rintro e v1 ⟨rfl, y1⟩; have x1 : Below u3.heap.size u3 v1 := Below.trans (by first | exact Below.refl _ _ | exact (Below.refl _ _).drew | exact (Below.refl _ _).alloc (Nat.le_refl _) _ | exact ((Below.refl _ _).alloc (Nat.le_refl _) _).drew | exact ((Below.refl _ _).drew).alloc (Nat.le_refl _) _) (y1.mono (by simp)); have hcl_v1 := (x1.block _ (blk_lt hcl)).trans hcl; have hva_v1 := (x1.block _ (blk_lt hva)).trans hva; have hrs_v1 := (x1.block _ (blk_lt hrs)).trans hrs; have cl0_v1 : v1.cell? ⟨u2.heap.size, 0, none⟩ = some (.int .i64 (c1 : Int)) := (by rw [blk_cell hcl_v1]; rfl); have cl1_v1 : v1.cell? ⟨u2.heap.size, 1, none⟩ = some (.int .i64 (c2 : Int)) := (by rw [blk_cell hcl_v1]; rfl); have va0_v1 : v1.cell? ⟨w.heap.size, 0, none⟩ = some (.int .i64 (p1 : Int)) := (by rw [blk_cell hva_v1]; rfl); have va1_v1 : v1.cell? ⟨w.heap.size, 1, none⟩ = some (.int .i64 (p2 : Int)) := (by rw [blk_cell hva_v1]; rfl); have rs0_v1 : v1.cell? ⟨w.heap.size + 1, 0, none⟩ = some (.int .i64 0) := (by rw [blk_cell hrs_v1]; rfl); have rs1_v1 : v1.cell? ⟨w.heap.size + 1, 1, none⟩ = some (.int .i64 0) := (by rw [blk_cell hrs_v1]; rfl); have l_v1_cl := blk_lt hcl_v1; have l_v1_va := blk_lt hva_v1; have l_v1_rs := blk_lt hrs_v1; (try (have hq1 : v1.heap[u3.heap.size]? = some (.cells #[.int .i64 0, .int .i64 0] 60 (0, 0)) := (by first | exact (y1.block u3.heap.size (by simp)).trans (heap_alloc_new u3 _) | exact (y1.block u3.heap.size (by simp)).trans (heap_alloc_new u3.drew _)); have ql1 := blk_lt hq1))) | (go_at_call 69; refine (lwithout_any c1 c2 p2 p1 _ hlt.1 hlt.2 hp.2 hp.1).mono ?_; rintro e v2 ⟨rfl, y2⟩; have x2 : Below v1.heap.size v1 v2 := Below.trans (by first | exact Below.refl _ _ | exact (Below.refl _ _).drew | exact (Below.refl _ _).alloc (Nat.le_refl _) _ | exact ((Below.refl _ _).alloc (Nat.le_refl _) _).drew | exact ((Below.refl _ _).drew).alloc (Nat.le_refl _) _) (y2.mono (by simp)); have hcl_v2 := ((x1.trans (x2.mono x1.size)).block _ (blk_lt hcl)).trans hcl; have hva_v2 := ((x1.trans (x2.mono x1.size)).block _ (blk_lt hva)).trans hva; have hrs_v2 := ((x1.trans (x2.mono x1.size)).block _ (blk_lt hrs)).trans hrs; have cl0_v2 : v2.cell? ⟨u2.heap.size, 0, none⟩ = some (.int .i64 (c1 : Int)) := (by rw [blk_cell hcl_v2]; rfl); have cl1_v2 : v2.cell? ⟨u2.heap.size, 1, none⟩ = some (.int .i64 (c2 : Int)) := (by rw [blk_cell hcl_v2]; rfl); have va0_v2 : v2.cell? ⟨w.heap.size, 0, none⟩ = some (.int .i64 (p1 : Int)) := (by rw [blk_cell hva_v2]; rfl); have va1_v2 : v2.cell? ⟨w.heap.size, 1, none⟩ = some (.int .i64 (p2 : Int)) := (by rw [blk_cell hva_v2]; rfl); have rs0_v2 : v2.cell? ⟨w.heap.size + 1, 0, none⟩ = some (.int .i64 0) := (by rw [blk_cell hrs_v2]; rfl); have rs1_v2 : v2.cell? ⟨w.heap.size + 1, 1, none⟩ = some (.int .i64 0) := (by rw [blk_cell hrs_v2]; rfl); have l_v2_cl := blk_lt hcl_v2; have l_v2_va := blk_lt hva_v2; have l_v2_rs := blk_lt hrs_v2; (try (have hq2 : v2.heap[u3.heap.size]? = some (.cells #[.int .i64 0, .int .i64 0] 60 (0, 0)) := (x2.block _ ql1).trans hq1; have q20 : v2.cell? ⟨u3.heap.size, 0, none⟩ = some (.int .i64 0) := (by rw [blk_cell hq2]; rfl); have q21 : v2.cell? ⟨u3.heap.size, 1, none⟩ = some (.int .i64 0) := (by rw [blk_cell hq2]; rfl); have qz20 := blk_free hq2 0; have qz21 := blk_free hq2 1; have ql2 := blk_lt hq2)); (try (have hq3 : v2.heap[v1.heap.size]? = some (.cells #[.int .i64 0, .int .i64 0] 60 (0, 0)) := (by first | exact (y2.block v1.heap.size (by simp)).trans (heap_alloc_new v1 _) | exact (y2.block v1.heap.size (by simp)).trans (heap_alloc_new v1.drew _)); have q30 : v2.cell? ⟨v1.heap.size, 0, none⟩ = some (.int .i64 0) := (by rw [blk_cell hq3]; rfl); have q31 : v2.cell? ⟨v1.heap.size, 1, none⟩ = some (.int .i64 0) := (by rw [blk_cell hq3]; rfl); have qz30 := blk_free hq3 0; have qz31 := blk_free hq3 1; have ql3 := blk_lt hq3))))
    all_goals
      have xx := x1.trans (x2.mono x1.size)
      have hB2 := hse.trans (xx.mono hse.size)
      have sx := x1.size
      have sy := x2.size
      go_wp2_with fail
      go_meet
      refine ⟨_, rfl, ?_⟩
      first
        | exact LeftAt.ofAlloc hB2 hva_v2 hrs_v2 hcl_v2
        | exact LeftAt.ofStore hB2 hva_v2 hrs_v2 hcl_v2 hq3 (by omega) (by omega) (by omega) (by omega)
        | exact LeftAt.ofStore hB2 hva_v2 hrs_v2 hcl_v2 hq2 (by omega) (by omega) (by omega) (by omega)
  case rest =>
  obtain ⟨lv, rfl, hL⟩ := hcut
  generalize hem : minus (c1, c2) (p2, p1) = cm at *
  have HEM := hide hem
  clear hem
  obtain ⟨d1, d2⟩ := cm
  clear hcl hva hrs cva0 cva1 lva crs0 crs1 lrs ccl0 ccl1 lcl hse b3 b2 hBw
  obtain ⟨hBz, hvaz, hrsz, hclz, hlez⟩ := hL
  dsimp only at hvaz hclz hlez hm
  have ccl0 : wc.cell? ⟨u2.heap.size, 0, none⟩ = some (.int .i64 (c1 : Int)) := by rw [blk_cell hclz]; rfl
  have ccl1 : wc.cell? ⟨u2.heap.size, 1, none⟩ = some (.int .i64 (c2 : Int)) := by rw [blk_cell hclz]; rfl
  have lcl := blk_lt hclz
  have cva0 : wc.cell? ⟨w.heap.size, 0, none⟩ = some (.int .i64 (p1 : Int)) := by rw [blk_cell hvaz]; rfl
  have cva1 : wc.cell? ⟨w.heap.size, 1, none⟩ = some (.int .i64 (p2 : Int)) := by rw [blk_cell hvaz]; rfl
  have lva := blk_lt hvaz
  have crs0 : wc.cell? ⟨w.heap.size + 1, 0, none⟩ = some (.int .i64 0) := by rw [blk_cell hrsz]; rfl
  have crs1 : wc.cell? ⟨w.heap.size + 1, 1, none⟩ = some (.int .i64 0) := by rw [blk_cell hrsz]; rfl
  have lrs := blk_lt hrsz
  have cle0 : wc.cell? ⟨lv, 0, none⟩ = some (.int .i64 (d1 : Int)) := by rw [blk_cell hlez]; rfl
  have cle1 : wc.cell? ⟨lv, 1, none⟩ = some (.int .i64 (d2 : Int)) := by rw [blk_cell hlez]; rfl
  have lle := blk_lt hlez
  go_wp2_with fail
  cases hme : ((c1 &&& p1) ||| (c2 &&& p2) != 0) with
  | true =>
    have HO2 : Hid (openB (c1, c2) (p1, p2) = false) := hide (by rw [unhide HO, hme]; rfl)
    go_region_with (go_at_call 71; refine (meets_any c1 c2 p1 p2 _ hlt.1 hlt.2 hp.1 hp.2).mono ?_; rintro e v3 ⟨rfl, y3⟩; rw [hme]; have x3 : Below wc.heap.size wc v3 := Below.trans (by first | exact Below.refl _ _ | exact (Below.refl _ _).drew | exact (Below.refl _ _).alloc (Nat.le_refl _) _ | exact ((Below.refl _ _).alloc (Nat.le_refl _) _).drew | exact ((Below.refl _ _).drew).alloc (Nat.le_refl _) _) (y3.mono (by simp)); have hcl_v3 := (x3.block _ (blk_lt hclz)).trans hclz; have hva_v3 := (x3.block _ (blk_lt hvaz)).trans hvaz; have hrs_v3 := (x3.block _ (blk_lt hrsz)).trans hrsz; have hle_v3 := (x3.block _ (blk_lt hlez)).trans hlez; have cl0_v3 : v3.cell? ⟨u2.heap.size, 0, none⟩ = some (.int .i64 (c1 : Int)) := (by rw [blk_cell hcl_v3]; rfl); have cl1_v3 : v3.cell? ⟨u2.heap.size, 1, none⟩ = some (.int .i64 (c2 : Int)) := (by rw [blk_cell hcl_v3]; rfl); have va0_v3 : v3.cell? ⟨w.heap.size, 0, none⟩ = some (.int .i64 (p1 : Int)) := (by rw [blk_cell hva_v3]; rfl); have va1_v3 : v3.cell? ⟨w.heap.size, 1, none⟩ = some (.int .i64 (p2 : Int)) := (by rw [blk_cell hva_v3]; rfl); have rs0_v3 : v3.cell? ⟨w.heap.size + 1, 0, none⟩ = some (.int .i64 0) := (by rw [blk_cell hrs_v3]; rfl); have rs1_v3 : v3.cell? ⟨w.heap.size + 1, 1, none⟩ = some (.int .i64 0) := (by rw [blk_cell hrs_v3]; rfl); have le0_v3 : v3.cell? ⟨lv, 0, none⟩ = some (.int .i64 (d1 : Int)) := (by rw [blk_cell hle_v3]; rfl); have le1_v3 : v3.cell? ⟨lv, 1, none⟩ = some (.int .i64 (d2 : Int)) := (by rw [blk_cell hle_v3]; rfl); have l_v3_cl := blk_lt hcl_v3; have l_v3_va := blk_lt hva_v3; have l_v3_rs := blk_lt hrs_v3; have l_v3_le := blk_lt hle_v3; have z0_v3 := blk_free hrs_v3 0; have z1_v3 := blk_free hrs_v3 1)
    all_goals go_wp2_with fail
    all_goals
      have hR := blk_set (blk_set hrs_v3 0 (.int .i64 (d1 : Int))) 1 (.int .i64 (d2 : Int))
      have j0 := blk_cell hR 0
      have j1 := blk_cell hR 1
      refine bodyPost_ret (v := .tuple #[SetV (d1, d2), .bool false]) (by simp [results, Tryd.results68, go_sem, j0, j1]) rfl ⟨by rw [unhide HEC, unhide HL, unhide HO2], ?_⟩
      exact ((hBz.trans (x3.mono hBz.size)).setCell (p := ⟨w.heap.size + 1, 0, none⟩) (Nat.le_succ _) _).setCell (p := ⟨w.heap.size + 1, 1, none⟩) (Nat.le_succ _) _
  | false =>
    have HO2 : Hid (openB (c1, c2) (p1, p2) = !(c1 &&& c2 != 0)) := hide (by rw [unhide HO, hme]; rfl)
    go_region_with (first | (go_at_call 71; refine (meets_any c1 c2 p1 p2 _ hlt.1 hlt.2 hp.1 hp.2).mono ?_; rintro e v3 ⟨rfl, y3⟩; rw [hme]; have x3 : Below wc.heap.size wc v3 := Below.trans (by first | exact Below.refl _ _ | exact (Below.refl _ _).drew | exact (Below.refl _ _).alloc (Nat.le_refl _) _ | exact ((Below.refl _ _).alloc (Nat.le_refl _) _).drew | exact ((Below.refl _ _).drew).alloc (Nat.le_refl _) _) (y3.mono (by simp)); have hcl_v3 := (x3.block _ (blk_lt hclz)).trans hclz; have hva_v3 := (x3.block _ (blk_lt hvaz)).trans hvaz; have hrs_v3 := (x3.block _ (blk_lt hrsz)).trans hrsz; have hle_v3 := (x3.block _ (blk_lt hlez)).trans hlez; have cl0_v3 : v3.cell? ⟨u2.heap.size, 0, none⟩ = some (.int .i64 (c1 : Int)) := (by rw [blk_cell hcl_v3]; rfl); have cl1_v3 : v3.cell? ⟨u2.heap.size, 1, none⟩ = some (.int .i64 (c2 : Int)) := (by rw [blk_cell hcl_v3]; rfl); have va0_v3 : v3.cell? ⟨w.heap.size, 0, none⟩ = some (.int .i64 (p1 : Int)) := (by rw [blk_cell hva_v3]; rfl); have va1_v3 : v3.cell? ⟨w.heap.size, 1, none⟩ = some (.int .i64 (p2 : Int)) := (by rw [blk_cell hva_v3]; rfl); have rs0_v3 : v3.cell? ⟨w.heap.size + 1, 0, none⟩ = some (.int .i64 0) := (by rw [blk_cell hrs_v3]; rfl); have rs1_v3 : v3.cell? ⟨w.heap.size + 1, 1, none⟩ = some (.int .i64 0) := (by rw [blk_cell hrs_v3]; rfl); have le0_v3 : v3.cell? ⟨lv, 0, none⟩ = some (.int .i64 (d1 : Int)) := (by rw [blk_cell hle_v3]; rfl); have le1_v3 : v3.cell? ⟨lv, 1, none⟩ = some (.int .i64 (d2 : Int)) := (by rw [blk_cell hle_v3]; rfl); have l_v3_cl := blk_lt hcl_v3; have l_v3_va := blk_lt hva_v3; have l_v3_rs := blk_lt hrs_v3; have l_v3_le := blk_lt hle_v3; have z0_v3 := blk_free hrs_v3 0; have z1_v3 := blk_free hrs_v3 1) | (go_at_call 77; refine (clashes_any c1 c2 _ hlt.1 hlt.2).mono ?_; rintro e v4 ⟨rfl, y4⟩; have x4 : Below wc.heap.size wc v4 := x3.trans (Below.trans (B := wc.heap.size) (by first | exact Below.refl _ _ | exact (Below.refl _ _).drew) (y4.mono (by have := x3.size; simp; omega))); have hcl_v4 := (x4.block _ (blk_lt hclz)).trans hclz; have hva_v4 := (x4.block _ (blk_lt hvaz)).trans hvaz; have hrs_v4 := (x4.block _ (blk_lt hrsz)).trans hrsz; have hle_v4 := (x4.block _ (blk_lt hlez)).trans hlez; have cl0_v4 : v4.cell? ⟨u2.heap.size, 0, none⟩ = some (.int .i64 (c1 : Int)) := (by rw [blk_cell hcl_v4]; rfl); have cl1_v4 : v4.cell? ⟨u2.heap.size, 1, none⟩ = some (.int .i64 (c2 : Int)) := (by rw [blk_cell hcl_v4]; rfl); have va0_v4 : v4.cell? ⟨w.heap.size, 0, none⟩ = some (.int .i64 (p1 : Int)) := (by rw [blk_cell hva_v4]; rfl); have va1_v4 : v4.cell? ⟨w.heap.size, 1, none⟩ = some (.int .i64 (p2 : Int)) := (by rw [blk_cell hva_v4]; rfl); have rs0_v4 : v4.cell? ⟨w.heap.size + 1, 0, none⟩ = some (.int .i64 0) := (by rw [blk_cell hrs_v4]; rfl); have rs1_v4 : v4.cell? ⟨w.heap.size + 1, 1, none⟩ = some (.int .i64 0) := (by rw [blk_cell hrs_v4]; rfl); have le0_v4 : v4.cell? ⟨lv, 0, none⟩ = some (.int .i64 (d1 : Int)) := (by rw [blk_cell hle_v4]; rfl); have le1_v4 : v4.cell? ⟨lv, 1, none⟩ = some (.int .i64 (d2 : Int)) := (by rw [blk_cell hle_v4]; rfl); have l_v4_cl := blk_lt hcl_v4; have l_v4_va := blk_lt hva_v4; have l_v4_rs := blk_lt hrs_v4; have l_v4_le := blk_lt hle_v4; have z0_v4 := blk_free hrs_v4 0; have z1_v4 := blk_free hrs_v4 1))
    all_goals go_wp2_with fail
    all_goals
      have hR := blk_set (blk_set hrs_v4 0 (.int .i64 (d1 : Int))) 1 (.int .i64 (d2 : Int))
      have j0 := blk_cell hR 0
      have j1 := blk_cell hR 1
      refine bodyPost_ret (v := .tuple #[SetV (d1, d2), .bool (!(c1 &&& c2 != 0))]) (by simp [results, Tryd.results68, go_sem, j0, j1]) rfl ⟨by rw [unhide HEC, unhide HL, unhide HO2], ?_⟩
      exact ((hBz.trans (x4.mono hBz.size)).setCell (p := ⟨w.heap.size + 1, 0, none⟩) (Nat.le_succ _) _).setCell (p := ⟨w.heap.size + 1, 1, none⟩) (Nat.le_succ _) _
end Go.Proofs.YtgipjjhkhfihpabDoor

namespace Go.Proofs.YtgipjjhkhfihpabDoor
open Go.RowKit

/-! ### A proof inside a block -/
structure PAt (w : World) (b o : Nat) (cells : Array Value) (t : TypeId) (p : List Stp) (vS : Value) (kind : Nat) : Prop where
  fb : w.heap[b]? = some (.cells cells t (0, 0))
  ck : cells[o]? = some (.int .i64 (kind : Int))
  cs : cells[o + 1]? = some vS
  own : w.ownsRow 0 73 6 vS p.length (psCells p)
  ty : 73 ≠ t
theorem PAt.later {w w' : World} {b o : Nat} {cells : Array Value} {t : TypeId} {p : List Stp} {vS : Value} {kind : Nat} (h : PAt w b o cells t p vS kind) (hb : Below w.heap.size w w') : PAt w' b o cells t p vS kind :=
  ⟨(hb.block _ (blk_lt h.fb)).trans h.fb, h.ck, h.cs, own_below h.own hb, h.ty⟩
def PGo (b o : Nat) (cells : Array Value) (t : TypeId) (p' : List Stp) (vS : Value) (w w' : World) : Prop :=
  ∃ v', w'.ownsRow 0 73 6 v' p'.length (psCells p') ∧ w'.heap[b]? = some (.cells (cells.setIfInBounds (o + 1) v') t (0, 0)) ∧ Only (fun k => k = b ∨ vS.ownBlock = some k) w w' ∧ Moved w vS v'
theorem PGo.before {b o : Nat} {cells : Array Value} {t : TypeId} {p' : List Stp} {vS : Value} {w0 w w' : World} (h : PGo b o cells t p' vS w w') (hb : Below w0.heap.size w0 w) : PGo b o cells t p' vS w0 w' := by
  obtain ⟨v', h1, h2, h3, h4⟩ := h
  refine ⟨v', h1, h2, (Only.of_below hb).trans h3, ?_⟩
  rcases h4 with h4 | ⟨k, h4, h5⟩
  · exact Or.inl h4
  · exact Or.inr ⟨k, h4, Nat.le_trans hb.size h5⟩
theorem PGo.later {b o : Nat} {cells : Array Value} {t : TypeId} {p' : List Stp} {vS : Value} {w w1 w' : World} (h : PGo b o cells t p' vS w w1) (hb : Below w1.heap.size w1 w') : PGo b o cells t p' vS w w' := by
  obtain ⟨v', h1, h2, h3, h4⟩ := h
  exact ⟨v', own_below h1 hb, (hb.block _ (blk_lt h2)).trans h2, h3.trans (Only.of_below hb), h4⟩
theorem PAt.same {w w' : World} {b o : Nat} {cells : Array Value} {t : TypeId} {p : List Stp} {vS : Value} {kind : Nat} (h : PAt w b o cells t p vS kind) (hb : Below w.heap.size w w') : PGo b o cells t p vS w w' := by
  have h' := h.later hb
  have e : cells.setIfInBounds (o + 1) vS = cells := by
    apply Array.ext_getElem?
    intro i
    rw [Array.getElem?_setIfInBounds]
    split
    · next hi => subst hi; rw [h.cs]; simp [(Array.getElem?_eq_some_iff.1 h.cs).1]
    · rfl
  exact ⟨vS, h'.own, by rw [e]; exact h'.fb, Only.of_below hb, Or.inl rfl⟩
theorem PAt.add {w w' : World} {b o : Nat} {cells : Array Value} {t : TypeId} {p : List Stp} {vS : Value} {s : Stp} {e : Ending} (h : AddPost 0 b o p vS s cells t w e w') : e = .returned (.int .i64 ((p.length : Int) + 1)) ∧ PGo b o cells t (p ++ [s]) vS w w' := by
  obtain ⟨v', h0, h1, h2, h3, h4⟩ := h
  exact ⟨h0, v', by simpa using h1, h2, h3, h4⟩

set_option maxRecDepth 100000 in
set_option maxHeartbeats 1600000 in
theorem preduce_any (b o : Nat) (cells : Array Value) (t : TypeId) (q : QS) (vV vC : Value) (p : List Stp) (vS : Value) (kind n : Nat) (w : World) (hP : PAt w b o cells t p vS kind) (hoV : w.ownsRow 0 78 2 vV q.vars.length (varCells q.vars)) (hCf : ∃ aC nC cC, vC = .slice aC nC cC) (hQ : QB q) (hl : p.length ≤ 100000) (hlt : ∀ s ∈ p, s.lits.1 < 512 ∧ s.lits.2 < 512) (_hn : n ≤ 1048576) :
    Calls Tryd.prog 74 #[.pointer (some ⟨b, o, none⟩), .agg #[vV, vC], .int .i64 (n : Int)] w fun e w' => e = .returned (.int .i64 ((redP q kind p n).2 : Nat)) ∧ PGo b o cells t (redP q kind p n).1 vS w w' := by
  obtain ⟨aV, cV, rfl⟩ := own_form hoV
  obtain ⟨aC, nC, cC, rfl⟩ := hCf
  have hbw := blk_lt hP.fb
  have hla := litsAt_lt p hlt n
  have hlr := redQ_lt kind q.vars.reverse _ hla
  go_enter Tryd.func74, Tryd.ntmps74
  go_wp2_with fail
  generalize hw0 : (w.alloc (.cells #[.slice aV q.vars.length cV, .slice aC nC cC] 43)) = u1
  have hB : Below w.heap.size w u1 := by rw [← hw0]; exact (Below.refl _ _).alloc (Nat.le_refl _) _
  have hfo : u1.heap[w.heap.size]? = some (.cells #[.slice aV q.vars.length cV, .slice aC nC cC] 43 (0, 0)) := by rw [← hw0]; exact alloc_new_at (by simp)
  clear hw0
  have cfo0 : u1.cell? ⟨w.heap.size, 0, none⟩ = some (.slice aV q.vars.length cV) := by rw [blk_cell hfo]; rfl
  have cfo1 : u1.cell? ⟨w.heap.size, 1, none⟩ = some (.slice aC nC cC) := by rw [blk_cell hfo]; rfl
  have lfo := blk_lt hfo
  have hP1 := hP.later hB
  refine (plits_any 0 b o p vS n _ (by rw [blk_cell hP1.fb]; exact hP1.cs) hP1.own (by omega)).mono ?_
  rintro e u2 ⟨rfl, b2⟩
  replace hB := hB.trans (b2.mono hB.size)
  replace hfo := (b2.block _ (blk_lt hfo)).trans hfo
  replace cfo0 : u2.cell? ⟨w.heap.size, 0, none⟩ = some (.slice aV q.vars.length cV) := by rw [blk_cell hfo]; rfl
  replace cfo1 : u2.cell? ⟨w.heap.size, 1, none⟩ = some (.slice aC nC cC) := by rw [blk_cell hfo]; rfl
  replace lfo := blk_lt hfo
  replace hP1 := hP1.later b2
  have HR : Hid (redP q kind p n = if redQ kind q.vars.reverse (litsAt p n) = litsAt p n then (p, n) else (p ++ [⟨4, n, 0, 0, redQ kind q.vars.reverse (litsAt p n)⟩], p.length + 1)) := hide rfl
  generalize hea : litsAt p n = c at *
  have HEA := hide hea
  clear hea HR
  obtain ⟨a1, a2⟩ := c
  dsimp only at hla hlr
  go_wp2_with fail
  generalize hw0 : u2.alloc (.cells #[.int .i64 (a1 : Int), .int .i64 (a2 : Int)] 60) = u3
  have b3 : Below u2.heap.size u2 u3 := by rw [← hw0]; exact (Below.refl _ _).alloc (Nat.le_refl _) _
  have hwh : u3.heap[u2.heap.size]? = some (.cells #[.int .i64 (a1 : Int), .int .i64 (a2 : Int)] 60 (0, 0)) := by rw [← hw0]; exact heap_alloc_new _ _
  clear hw0
  replace hB := hB.trans (b3.mono hB.size)
  replace hfo := (b3.block _ (blk_lt hfo)).trans hfo
  replace cfo0 : u3.cell? ⟨w.heap.size, 0, none⟩ = some (.slice aV q.vars.length cV) := by rw [blk_cell hfo]; rfl
  replace cfo1 : u3.cell? ⟨w.heap.size, 1, none⟩ = some (.slice aC nC cC) := by rw [blk_cell hfo]; rfl
  replace lfo := blk_lt hfo
  replace hP1 := hP1.later b3
  have cwh0 : u3.cell? ⟨u2.heap.size, 0, none⟩ = some (.int .i64 (a1 : Int)) := by rw [blk_cell hwh]; rfl
  have cwh1 : u3.cell? ⟨u2.heap.size, 1, none⟩ = some (.int .i64 (a2 : Int)) := by rw [blk_cell hwh]; rfl
  have lwh := blk_lt hwh
  refine (preduced_any 0 b o q kind _ _ (a1, a2) _ (by rw [blk_cell hP1.fb]; exact hP1.ck) (own_below hoV hB) hQ hla ⟨aC, nC, cC, rfl⟩).mono ?_
  rintro e u4 ⟨rfl, b4⟩
  replace hB := hB.trans (b4.mono hB.size)
  replace hfo := (b4.block _ (blk_lt hfo)).trans hfo
  replace cfo0 : u4.cell? ⟨w.heap.size, 0, none⟩ = some (.slice aV q.vars.length cV) := by rw [blk_cell hfo]; rfl
  replace cfo1 : u4.cell? ⟨w.heap.size, 1, none⟩ = some (.slice aC nC cC) := by rw [blk_cell hfo]; rfl
  replace lfo := blk_lt hfo
  replace hwh := (b4.block _ (blk_lt hwh)).trans hwh
  replace cwh0 : u4.cell? ⟨u2.heap.size, 0, none⟩ = some (.int .i64 (a1 : Int)) := by rw [blk_cell hwh]; rfl
  replace cwh1 : u4.cell? ⟨u2.heap.size, 1, none⟩ = some (.int .i64 (a2 : Int)) := by rw [blk_cell hwh]; rfl
  replace lwh := blk_lt hwh
  replace hP1 := hP1.later b4
  generalize hea : redQ kind q.vars.reverse (a1, a2) = c at *
  have HEB : Hid (redQ kind q.vars.reverse (litsAt p n) = c) := hide (by rw [unhide HEA]; exact hea)
  clear hea
  obtain ⟨d1, d2⟩ := c
  dsimp only at hlr
  have HDN : ∀ {x y : Nat}, x ≠ y → ((x : Int) == (y : Int)) = false := fun h => by rw [beq_eq_false_iff_ne]; omega
  have hrr : ∀ r1 r2 : Nat, (r1, r2) ≠ (a1, a2) → Hid (redQ kind q.vars.reverse (litsAt p n) = (r1, r2)) → Hid (redP q kind p n = (p ++ [⟨4, n, 0, 0, (r1, r2)⟩], p.length + 1)) := fun r1 r2 hne he => hide (by unfold redP; rw [unhide he, unhide HEA, if_neg hne])
  by_cases e1 : d1 = a1
  · subst e1
    by_cases e2 : d2 = a2
    · subst e2
      have HF : Hid (redP q kind p n = (p, n)) := hide (by unfold redP; rw [unhide HEB, unhide HEA, if_pos rfl])
      clear HDN hrr
      go_wp2_with fail
      go_ret
      refine ⟨?_, ?_⟩
      · rw [unhide HF]; rfl
      · rw [unhide HF]; exact hP.same (hB.alloc hB.size _)
    · have hne := HDN e2
      have HF := hrr d1 d2 (fun e => e2 (by injection e)) HEB
      clear HDN hrr e2
      go_wp2_with fail
      generalize hw0 : u4.alloc (.cells #[.int .i64 (d1 : Int), .int .i64 (d2 : Int)] 60) = u5
      have b5 : Below u4.heap.size u4 u5 := by rw [← hw0]; exact (Below.refl _ _).alloc (Nat.le_refl _) _
      have hre : u5.heap[u4.heap.size]? = some (.cells #[.int .i64 (d1 : Int), .int .i64 (d2 : Int)] 60 (0, 0)) := by rw [← hw0]; exact heap_alloc_new _ _
      clear hw0
      replace hB := hB.trans (b5.mono hB.size)
      replace hfo := (b5.block _ (blk_lt hfo)).trans hfo
      replace cfo0 : u5.cell? ⟨w.heap.size, 0, none⟩ = some (.slice aV q.vars.length cV) := by rw [blk_cell hfo]; rfl
      replace cfo1 : u5.cell? ⟨w.heap.size, 1, none⟩ = some (.slice aC nC cC) := by rw [blk_cell hfo]; rfl
      replace lfo := blk_lt hfo
      replace hwh := (b5.block _ (blk_lt hwh)).trans hwh
      replace cwh0 : u5.cell? ⟨u2.heap.size, 0, none⟩ = some (.int .i64 (d1 : Int)) := by rw [blk_cell hwh]; rfl
      replace cwh1 : u5.cell? ⟨u2.heap.size, 1, none⟩ = some (.int .i64 (a2 : Int)) := by rw [blk_cell hwh]; rfl
      replace lwh := blk_lt hwh
      replace hP1 := hP1.later b5
      have cre0 : u5.cell? ⟨u4.heap.size, 0, none⟩ = some (.int .i64 (d1 : Int)) := by rw [blk_cell hre]; rfl
      have cre1 : u5.cell? ⟨u4.heap.size, 1, none⟩ = some (.int .i64 (d2 : Int)) := by rw [blk_cell hre]; rfl
      have lre := blk_lt hre
      refine (add_any 0 b o p vS ⟨4, n, 0, 0, (d1, d2)⟩ cells t _ hP1.fb hP1.cs hP1.ty hP1.own (by omega) (Nat.zero_le _)).mono ?_
      intro e uz hadd
      obtain ⟨rfl, hgo⟩ := PAt.add hadd
      have hgo2 := hgo.before hB
      clear hadd hgo
      go_wp2_with fail
      go_ret
      refine ⟨?_, ?_⟩
      · rw [unhide HF]; exact ret_int (by simp)
      · rw [unhide HF]; exact hgo2
  · have hne := HDN e1
    have HF := hrr d1 d2 (fun e => e1 (by injection e)) HEB
    clear HDN hrr e1
    go_wp2_with fail
    generalize hw0 : u4.alloc (.cells #[.int .i64 (d1 : Int), .int .i64 (d2 : Int)] 60) = u5
    have b5 : Below u4.heap.size u4 u5 := by rw [← hw0]; exact (Below.refl _ _).alloc (Nat.le_refl _) _
    have hre : u5.heap[u4.heap.size]? = some (.cells #[.int .i64 (d1 : Int), .int .i64 (d2 : Int)] 60 (0, 0)) := by rw [← hw0]; exact heap_alloc_new _ _
    clear hw0
    replace hB := hB.trans (b5.mono hB.size)
    replace hfo := (b5.block _ (blk_lt hfo)).trans hfo
    replace cfo0 : u5.cell? ⟨w.heap.size, 0, none⟩ = some (.slice aV q.vars.length cV) := by rw [blk_cell hfo]; rfl
    replace cfo1 : u5.cell? ⟨w.heap.size, 1, none⟩ = some (.slice aC nC cC) := by rw [blk_cell hfo]; rfl
    replace lfo := blk_lt hfo
    replace hwh := (b5.block _ (blk_lt hwh)).trans hwh
    replace cwh0 : u5.cell? ⟨u2.heap.size, 0, none⟩ = some (.int .i64 (a1 : Int)) := by rw [blk_cell hwh]; rfl
    replace cwh1 : u5.cell? ⟨u2.heap.size, 1, none⟩ = some (.int .i64 (a2 : Int)) := by rw [blk_cell hwh]; rfl
    replace lwh := blk_lt hwh
    replace hP1 := hP1.later b5
    have cre0 : u5.cell? ⟨u4.heap.size, 0, none⟩ = some (.int .i64 (d1 : Int)) := by rw [blk_cell hre]; rfl
    have cre1 : u5.cell? ⟨u4.heap.size, 1, none⟩ = some (.int .i64 (d2 : Int)) := by rw [blk_cell hre]; rfl
    have lre := blk_lt hre
    refine (add_any 0 b o p vS ⟨4, n, 0, 0, (d1, d2)⟩ cells t _ hP1.fb hP1.cs hP1.ty hP1.own (by omega) (Nat.zero_le _)).mono ?_
    intro e uz hadd
    obtain ⟨rfl, hgo⟩ := PAt.add hadd
    have hgo2 := hgo.before hB
    clear hadd hgo
    go_wp2_with fail
    go_ret
    refine ⟨?_, ?_⟩
    · rw [unhide HF]; exact ret_int (by simp)
    · rw [unhide HF]; exact hgo2
end Go.Proofs.YtgipjjhkhfihpabDoor

namespace Go.Proofs.YtgipjjhkhfihpabDoor
open Go.RowKit

set_option maxRecDepth 100000 in
set_option maxHeartbeats 1600000 in
theorem presolve_any (b o : Nat) (cells : Array Value) (t : TypeId) (p : List Stp) (vS : Value) (kind i j v : Nat) (w : World) (hP : PAt w b o cells t p vS kind) (hl : p.length ≤ 100000) (hlt : ∀ s ∈ p, s.lits.1 < 512 ∧ s.lits.2 < 512) (hv : v ≤ 1048576) :
    Calls Tryd.prog 57 #[.pointer (some ⟨b, o, none⟩), .int .i64 (i : Int), .int .i64 (j : Int), .int .i64 (v : Int)] w fun e w' => e = .returned (.int .i64 ((resP p i j v).2 : Nat)) ∧ PGo b o cells t (resP p i j v).1 vS w w' := by
  have hbw := blk_lt hP.fb
  have hla := litsAt_lt p hlt i
  go_enter Tryd.func57, Tryd.ntmps57
  go_wp2_with fail
  refine (plits_any 0 b o p vS i _ (by rw [blk_cell hP.fb]; exact hP.cs) hP.own (by omega)).mono ?_
  rintro e u1 ⟨rfl, b1⟩
  have hB : Below w.heap.size w u1 := b1
  have hP1 := hP.later hB
  have HR : Hid (resP p i j v = if hasLit (litsAt p i) v then (p ++ [⟨3, i, j, v, without2 (litsAt p i) (litsAt p j) v⟩], p.length + 1) else (p ++ [⟨3, j, i, v, without2 (litsAt p j) (litsAt p i) v⟩], p.length + 1)) := hide rfl
  generalize hea : litsAt p i = c at *
  have HEA := hide hea
  clear hea
  obtain ⟨a1, a2⟩ := c
  dsimp only at hla
  go_wp2_with fail
  generalize hw0 : u1.alloc (.cells #[.int .i64 (a1 : Int), .int .i64 (a2 : Int)] 60) = u2
  have b2 : Below u1.heap.size u1 u2 := by rw [← hw0]; exact (Below.refl _ _).alloc (Nat.le_refl _) _
  have how : u2.heap[u1.heap.size]? = some (.cells #[.int .i64 (a1 : Int), .int .i64 (a2 : Int)] 60 (0, 0)) := by rw [← hw0]; exact heap_alloc_new _ _
  clear hw0
  replace hB := hB.trans (b2.mono hB.size)
  replace hP1 := hP1.later b2
  have cow0 : u2.cell? ⟨u1.heap.size, 0, none⟩ = some (.int .i64 (a1 : Int)) := by rw [blk_cell how]; rfl
  have cow1 : u2.cell? ⟨u1.heap.size, 1, none⟩ = some (.int .i64 (a2 : Int)) := by rw [blk_cell how]; rfl
  have low := blk_lt how
  refine (has_any a1 a2 v _ hla.1 hla.2 (by omega) (by omega)).mono ?_
  rintro e u3 ⟨rfl, b3⟩
  replace hB := hB.trans (b3.mono hB.size)
  replace how := (b3.block _ (blk_lt how)).trans how
  replace cow0 : u3.cell? ⟨u1.heap.size, 0, none⟩ = some (.int .i64 (a1 : Int)) := by rw [blk_cell how]; rfl
  replace cow1 : u3.cell? ⟨u1.heap.size, 1, none⟩ = some (.int .i64 (a2 : Int)) := by rw [blk_cell how]; rfl
  replace low := blk_lt how
  replace hP1 := hP1.later b3
  cases hh : hasLit (a1, a2) (v : Int) with
  | true =>
    have HF : Hid (resP p i j v = (p ++ [⟨3, i, j, v, without2 (litsAt p i) (litsAt p j) v⟩], p.length + 1)) := hide (by rw [unhide HR, hh]; rw [← unhide HEA]; rfl)
    clear hh
    go_wp2_with fail
    have hsl0 := hB.size
    generalize hw0 : u3.alloc (.cells #[.int .i64 3, .int .i64 (i : Int), .int .i64 (j : Int), .int .i64 (v : Int), .int .i64 0, .int .i64 0] 73) = u4
    have b4 : Below u3.heap.size u3 u4 := by rw [← hw0]; exact (Below.refl _ _).alloc (Nat.le_refl _) _
    have hst : u4.heap[u3.heap.size]? = some (.cells #[.int .i64 3, .int .i64 (i : Int), .int .i64 (j : Int), .int .i64 (v : Int), .int .i64 0, .int .i64 0] 73 (0, 0)) := by rw [← hw0]; exact heap_alloc_new _ _
    clear hw0
    replace hB := hB.trans (b4.mono hB.size)
    replace how := (b4.block _ (blk_lt how)).trans how
    replace cow0 : u4.cell? ⟨u1.heap.size, 0, none⟩ = some (.int .i64 (a1 : Int)) := by rw [blk_cell how]; rfl
    replace cow1 : u4.cell? ⟨u1.heap.size, 1, none⟩ = some (.int .i64 (a2 : Int)) := by rw [blk_cell how]; rfl
    replace low := blk_lt how
    replace hP1 := hP1.later b4
    have cst0 : u4.cell? ⟨u3.heap.size, 0, none⟩ = some (.int .i64 3) := by rw [blk_cell hst]; rfl
    have cst1 : u4.cell? ⟨u3.heap.size, 1, none⟩ = some (.int .i64 (i : Int)) := by rw [blk_cell hst]; rfl
    have cst2 : u4.cell? ⟨u3.heap.size, 2, none⟩ = some (.int .i64 (j : Int)) := by rw [blk_cell hst]; rfl
    have cst3 : u4.cell? ⟨u3.heap.size, 3, none⟩ = some (.int .i64 (v : Int)) := by rw [blk_cell hst]; rfl
    have cst4 : u4.cell? ⟨u3.heap.size, 4, none⟩ = some (.int .i64 0) := by rw [blk_cell hst]; rfl
    have cst5 : u4.cell? ⟨u3.heap.size, 5, none⟩ = some (.int .i64 0) := by rw [blk_cell hst]; rfl
    have lst := blk_lt hst
    refine (resolvent_any 0 b o p vS ⟨3, i, j, v, (0, 0)⟩ _ (by rw [blk_cell hP1.fb]; exact hP1.cs) hP1.own (by omega) hlt).mono ?_
    rintro e u5 ⟨rfl, b5⟩
    replace hB := hB.trans (b5.mono hB.size)
    replace how := (b5.block _ (blk_lt how)).trans how
    replace cow0 : u5.cell? ⟨u1.heap.size, 0, none⟩ = some (.int .i64 (a1 : Int)) := by rw [blk_cell how]; rfl
    replace cow1 : u5.cell? ⟨u1.heap.size, 1, none⟩ = some (.int .i64 (a2 : Int)) := by rw [blk_cell how]; rfl
    replace low := blk_lt how
    replace hst := (b5.block _ (blk_lt hst)).trans hst
    replace cst0 : u5.cell? ⟨u3.heap.size, 0, none⟩ = some (.int .i64 3) := by rw [blk_cell hst]; rfl
    replace cst1 : u5.cell? ⟨u3.heap.size, 1, none⟩ = some (.int .i64 (i : Int)) := by rw [blk_cell hst]; rfl
    replace cst2 : u5.cell? ⟨u3.heap.size, 2, none⟩ = some (.int .i64 (j : Int)) := by rw [blk_cell hst]; rfl
    replace cst3 : u5.cell? ⟨u3.heap.size, 3, none⟩ = some (.int .i64 (v : Int)) := by rw [blk_cell hst]; rfl
    replace cst4 : u5.cell? ⟨u3.heap.size, 4, none⟩ = some (.int .i64 0) := by rw [blk_cell hst]; rfl
    replace cst5 : u5.cell? ⟨u3.heap.size, 5, none⟩ = some (.int .i64 0) := by rw [blk_cell hst]; rfl
    replace lst := blk_lt hst
    replace hP1 := hP1.later b5
    dsimp only
    generalize hea : without2 (litsAt p i) (litsAt p j) v = c at *
    obtain ⟨d1, d2⟩ := c
    clear hea
    have hsl : w.heap.size ≤ u3.heap.size := by have h1 := hsl0; omega
    have z4 := blk_free hst 4
    have z5 := blk_free hst 5
    have hx1 : (u5.setCell ⟨u3.heap.size, 4, none⟩ (.int .i64 (d1 : Int))).heap[u3.heap.size]? = some (.cells #[.int .i64 3, .int .i64 (i : Int), .int .i64 (j : Int), .int .i64 (v : Int), .int .i64 (d1 : Int), .int .i64 0] 73 (0, 0)) := blk_set hst 4 _
    have hx2 : ((u5.setCell ⟨u3.heap.size, 4, none⟩ (.int .i64 (d1 : Int))).setCell ⟨u3.heap.size, 5, none⟩ (.int .i64 (d2 : Int))).heap[u3.heap.size]? = some (.cells #[.int .i64 3, .int .i64 (i : Int), .int .i64 (j : Int), .int .i64 (v : Int), .int .i64 (d1 : Int), .int .i64 (d2 : Int)] 73 (0, 0)) := blk_set hx1 5 _
    generalize hwz : ((u5.setCell ⟨u3.heap.size, 4, none⟩ (.int .i64 (d1 : Int))).setCell ⟨u3.heap.size, 5, none⟩ (.int .i64 (d2 : Int))) = wz at *
    have hBz : Below w.heap.size w wz := by
      rw [← hwz]
      exact (hB.setCell (p := ⟨u3.heap.size, 4, none⟩) hsl _).setCell (p := ⟨u3.heap.size, 5, none⟩) hsl _
    have hPz := hP.later hBz
    have q0 : wz.cell? ⟨u3.heap.size, 0, none⟩ = some (.int .i64 3) := by rw [blk_cell hx2]; rfl
    have q1 : wz.cell? ⟨u3.heap.size, 1, none⟩ = some (.int .i64 (i : Int)) := by rw [blk_cell hx2]; rfl
    have q2 : wz.cell? ⟨u3.heap.size, 2, none⟩ = some (.int .i64 (j : Int)) := by rw [blk_cell hx2]; rfl
    have q3 : wz.cell? ⟨u3.heap.size, 3, none⟩ = some (.int .i64 (v : Int)) := by rw [blk_cell hx2]; rfl
    have q4 : wz.cell? ⟨u3.heap.size, 4, none⟩ = some (.int .i64 (d1 : Int)) := by rw [blk_cell hx2]; rfl
    have q5 : wz.cell? ⟨u3.heap.size, 5, none⟩ = some (.int .i64 (d2 : Int)) := by rw [blk_cell hx2]; rfl
    have lz := blk_lt hx2
    have hbz := blk_lt hPz.fb
    clear hx1
    go_wp2_with fail
    refine (add_any 0 b o p vS ⟨3, i, j, v, (d1, d2)⟩ cells t _ hPz.fb hPz.cs hPz.ty hPz.own (by omega) (Nat.zero_le _)).mono ?_
    intro e uz hadd
    obtain ⟨rfl, hgo⟩ := PAt.add hadd
    have hgo2 := hgo.before hBz
    clear hadd hgo
    go_wp2_with fail
    go_ret
    refine ⟨?_, ?_⟩
    · rw [unhide HF]; exact ret_int (by simp)
    · rw [unhide HF]; exact hgo2
  | false =>
    have HF : Hid (resP p i j v = (p ++ [⟨3, j, i, v, without2 (litsAt p j) (litsAt p i) v⟩], p.length + 1)) := hide (by rw [unhide HR, hh]; rw [← unhide HEA]; rfl)
    clear hh
    go_wp2_with fail
    have hsl0 := hB.size
    generalize hw0 : u3.alloc (.cells #[.int .i64 3, .int .i64 (j : Int), .int .i64 (i : Int), .int .i64 (v : Int), .int .i64 0, .int .i64 0] 73) = u4
    have b4 : Below u3.heap.size u3 u4 := by rw [← hw0]; exact (Below.refl _ _).alloc (Nat.le_refl _) _
    have hst : u4.heap[u3.heap.size]? = some (.cells #[.int .i64 3, .int .i64 (j : Int), .int .i64 (i : Int), .int .i64 (v : Int), .int .i64 0, .int .i64 0] 73 (0, 0)) := by rw [← hw0]; exact heap_alloc_new _ _
    clear hw0
    replace hB := hB.trans (b4.mono hB.size)
    replace how := (b4.block _ (blk_lt how)).trans how
    replace cow0 : u4.cell? ⟨u1.heap.size, 0, none⟩ = some (.int .i64 (a1 : Int)) := by rw [blk_cell how]; rfl
    replace cow1 : u4.cell? ⟨u1.heap.size, 1, none⟩ = some (.int .i64 (a2 : Int)) := by rw [blk_cell how]; rfl
    replace low := blk_lt how
    replace hP1 := hP1.later b4
    have cst0 : u4.cell? ⟨u3.heap.size, 0, none⟩ = some (.int .i64 3) := by rw [blk_cell hst]; rfl
    have cst1 : u4.cell? ⟨u3.heap.size, 1, none⟩ = some (.int .i64 (j : Int)) := by rw [blk_cell hst]; rfl
    have cst2 : u4.cell? ⟨u3.heap.size, 2, none⟩ = some (.int .i64 (i : Int)) := by rw [blk_cell hst]; rfl
    have cst3 : u4.cell? ⟨u3.heap.size, 3, none⟩ = some (.int .i64 (v : Int)) := by rw [blk_cell hst]; rfl
    have cst4 : u4.cell? ⟨u3.heap.size, 4, none⟩ = some (.int .i64 0) := by rw [blk_cell hst]; rfl
    have cst5 : u4.cell? ⟨u3.heap.size, 5, none⟩ = some (.int .i64 0) := by rw [blk_cell hst]; rfl
    have lst := blk_lt hst
    refine (resolvent_any 0 b o p vS ⟨3, j, i, v, (0, 0)⟩ _ (by rw [blk_cell hP1.fb]; exact hP1.cs) hP1.own (by omega) hlt).mono ?_
    rintro e u5 ⟨rfl, b5⟩
    replace hB := hB.trans (b5.mono hB.size)
    replace how := (b5.block _ (blk_lt how)).trans how
    replace cow0 : u5.cell? ⟨u1.heap.size, 0, none⟩ = some (.int .i64 (a1 : Int)) := by rw [blk_cell how]; rfl
    replace cow1 : u5.cell? ⟨u1.heap.size, 1, none⟩ = some (.int .i64 (a2 : Int)) := by rw [blk_cell how]; rfl
    replace low := blk_lt how
    replace hst := (b5.block _ (blk_lt hst)).trans hst
    replace cst0 : u5.cell? ⟨u3.heap.size, 0, none⟩ = some (.int .i64 3) := by rw [blk_cell hst]; rfl
    replace cst1 : u5.cell? ⟨u3.heap.size, 1, none⟩ = some (.int .i64 (j : Int)) := by rw [blk_cell hst]; rfl
    replace cst2 : u5.cell? ⟨u3.heap.size, 2, none⟩ = some (.int .i64 (i : Int)) := by rw [blk_cell hst]; rfl
    replace cst3 : u5.cell? ⟨u3.heap.size, 3, none⟩ = some (.int .i64 (v : Int)) := by rw [blk_cell hst]; rfl
    replace cst4 : u5.cell? ⟨u3.heap.size, 4, none⟩ = some (.int .i64 0) := by rw [blk_cell hst]; rfl
    replace cst5 : u5.cell? ⟨u3.heap.size, 5, none⟩ = some (.int .i64 0) := by rw [blk_cell hst]; rfl
    replace lst := blk_lt hst
    replace hP1 := hP1.later b5
    dsimp only
    generalize hea : without2 (litsAt p j) (litsAt p i) v = c at *
    obtain ⟨d1, d2⟩ := c
    clear hea
    have hsl : w.heap.size ≤ u3.heap.size := by have h1 := hsl0; omega
    have z4 := blk_free hst 4
    have z5 := blk_free hst 5
    have hx1 : (u5.setCell ⟨u3.heap.size, 4, none⟩ (.int .i64 (d1 : Int))).heap[u3.heap.size]? = some (.cells #[.int .i64 3, .int .i64 (j : Int), .int .i64 (i : Int), .int .i64 (v : Int), .int .i64 (d1 : Int), .int .i64 0] 73 (0, 0)) := blk_set hst 4 _
    have hx2 : ((u5.setCell ⟨u3.heap.size, 4, none⟩ (.int .i64 (d1 : Int))).setCell ⟨u3.heap.size, 5, none⟩ (.int .i64 (d2 : Int))).heap[u3.heap.size]? = some (.cells #[.int .i64 3, .int .i64 (j : Int), .int .i64 (i : Int), .int .i64 (v : Int), .int .i64 (d1 : Int), .int .i64 (d2 : Int)] 73 (0, 0)) := blk_set hx1 5 _
    generalize hwz : ((u5.setCell ⟨u3.heap.size, 4, none⟩ (.int .i64 (d1 : Int))).setCell ⟨u3.heap.size, 5, none⟩ (.int .i64 (d2 : Int))) = wz at *
    have hBz : Below w.heap.size w wz := by
      rw [← hwz]
      exact (hB.setCell (p := ⟨u3.heap.size, 4, none⟩) hsl _).setCell (p := ⟨u3.heap.size, 5, none⟩) hsl _
    have hPz := hP.later hBz
    have q0 : wz.cell? ⟨u3.heap.size, 0, none⟩ = some (.int .i64 3) := by rw [blk_cell hx2]; rfl
    have q1 : wz.cell? ⟨u3.heap.size, 1, none⟩ = some (.int .i64 (j : Int)) := by rw [blk_cell hx2]; rfl
    have q2 : wz.cell? ⟨u3.heap.size, 2, none⟩ = some (.int .i64 (i : Int)) := by rw [blk_cell hx2]; rfl
    have q3 : wz.cell? ⟨u3.heap.size, 3, none⟩ = some (.int .i64 (v : Int)) := by rw [blk_cell hx2]; rfl
    have q4 : wz.cell? ⟨u3.heap.size, 4, none⟩ = some (.int .i64 (d1 : Int)) := by rw [blk_cell hx2]; rfl
    have q5 : wz.cell? ⟨u3.heap.size, 5, none⟩ = some (.int .i64 (d2 : Int)) := by rw [blk_cell hx2]; rfl
    have lz := blk_lt hx2
    have hbz := blk_lt hPz.fb
    clear hx1
    go_wp2_with fail
    refine (add_any 0 b o p vS ⟨3, j, i, v, (d1, d2)⟩ cells t _ hPz.fb hPz.cs hPz.ty hPz.own (by omega) (Nat.zero_le _)).mono ?_
    intro e uz hadd
    obtain ⟨rfl, hgo⟩ := PAt.add hadd
    have hgo2 := hgo.before hBz
    clear hadd hgo
    go_wp2_with fail
    go_ret
    refine ⟨?_, ?_⟩
    · rw [unhide HF]; exact ret_int (by simp)
    · rw [unhide HF]; exact hgo2
end Go.Proofs.YtgipjjhkhfihpabDoor

namespace Go.Proofs.YtgipjjhkhfihpabDoor
open Go.RowKit

theorem SAt.pat {w : World} {b : Nat} {C : SC} {S : SS} {V : SV} (h : SAt w b C S V) {kind : Nat} (hk : kind = 1 ∨ kind = 2) : PAt w b (pOff kind) (sCells C S V) 65 (S.proof kind) (if kind = 2 then V.a else V.r) kind := by
  rcases hk with rfl | rfl
  · exact ⟨h.fb, rfl, rfl, h.oR, by decide⟩
  · exact ⟨h.fb, rfl, rfl, h.oA, by decide⟩
theorem SAt.put {w w' : World} {b : Nat} {C : SC} {S : SS} {V : SV} (h : SAt w b C S V) {kind : Nat} (hk : kind = 1 ∨ kind = 2) {p : List Stp} (hg : PGo b (pOff kind) (sCells C S V) 65 p (if kind = 2 then V.a else V.r) w w') : SPost b C (S.put kind p) V w w' := by
  obtain ⟨v', h1, h2, h3, h4⟩ := hg
  have hS : ∀ k, (if kind = 2 then V.a else V.r).ownBlock = some k → ∃ c, w.heap[k]? = some (.cells c 73 (0, 0)) := by
    rcases hk with rfl | rfl
    · exact own_bk h.oR
    · exact own_bk h.oA
  have hne : ∀ {e : TypeId} {k : Nat}, e ≠ 65 → e ≠ 73 → (∃ c, w.heap[k]? = some (.cells c e (0, 0))) → ¬ (k = b ∨ (if kind = 2 then V.a else V.r).ownBlock = some k) := by
    rintro e k h5 h6 ⟨c, hc⟩ (e2 | e2)
    · subst e2; exact h5 (blk_type hc h.fb)
    · obtain ⟨c', hc'⟩ := hS k e2; exact h6 (blk_type hc hc')
  have honly : Only (TS b V) w w' := h3.mono (fun k _ hh => by
    rcases hh with hh | hh
    · exact Or.inl hh
    · rcases hk with rfl | rfl
      · exact Or.inr (Or.inl hh)
      · exact Or.inr (Or.inr (Or.inl hh)))
  have oV := own_keep h.oV h3 (fun k hk2 => hne (by decide) (by decide) (own_bk h.oV k hk2))
  have oC := own_keep h.oC h3 (fun k hk2 => hne (by decide) (by decide) (own_bk h.oC k hk2))
  have oK := h.oK.keep h3 (fun k hk2 => hne (by decide) (by decide) (h.oK.blk k hk2))
  rcases hk with rfl | rfl
  · have oA := own_keep h.oA h3 (fun k hk2 hh => by
      rcases hh with e | e
      · subst e; exact own_type_ne h.oA h.fb (by decide) hk2
      · exact h.ap k e hk2)
    refine ⟨{ V with r := v' }, ⟨h2, oV, oC, h1, oA, oK, fun k hk1 hk2 => ?_⟩, honly, rfl, rfl, h4, Or.inl rfl, Or.inl rfl⟩
    have hlt := (h.oA.lt k hk2).2
    exact h4.ne hlt (fun e => h.ap k e hk2) hk1
  · have oR := own_keep h.oR h3 (fun k hk2 hh => by
      rcases hh with e | e
      · subst e; exact own_type_ne h.oR h.fb (by decide) hk2
      · exact h.ap k hk2 e)
    refine ⟨{ V with a := v' }, ⟨h2, oV, oC, oR, h1, oK, fun k hk1 hk2 => ?_⟩, honly, rfl, rfl, Or.inl rfl, h4, Or.inl rfl⟩
    have hlt := (h.oR.lt k hk1).2
    exact h4.ne hlt (fun e => h.ap k hk1 e) hk2
theorem SPost.before {b : Nat} {C : SC} {S' : SS} {V V1 : SV} {w w1 w' : World} (h : SPost b C S' V1 w1 w') (hm : SMoved b w w1 V V1) : SPost b C S' V w w' := by
  obtain ⟨V', h1, h2⟩ := h
  exact ⟨V', h1, hm.trans h2⟩
end Go.Proofs.YtgipjjhkhfihpabDoor

namespace Go.Proofs.YtgipjjhkhfihpabDoor
open Go.RowKit

set_option maxRecDepth 100000 in
set_option maxHeartbeats 1600000 in
theorem sreduce_any (b : Nat) (C : SC) (S : SS) (V : SV) (f : Nat × Nat) (w : World) (hS : SAt w b C S V) (hB : SBd C S) (hk : f.1 = 1 ∨ f.1 = 2) (hf : f.2 ≤ 1048576) :
    Calls Tryd.prog 58 #[.pointer (some ⟨b, 0, none⟩), FactV f] w fun e w' => e = .returned (FactV (S.reduce C.q f).2) ∧ SPost b C (S.reduce C.q f).1 V w w' := by
  obtain ⟨fk, fs⟩ := f
  obtain ⟨aV, cV, hVf⟩ := own_form hS.oV
  obtain ⟨aC, cC, hCf⟩ := own_form hS.oC
  have HR : Hid (S.reduce C.q (fk, fs) = (S.put fk (redP C.q fk (S.proof fk) fs).1, (fk, (redP C.q fk (S.proof fk) fs).2))) := hide rfl
  go_enter Tryd.func58, Tryd.ntmps58
  go_wp2_with fail
  generalize hw0 : ((w.alloc (.cells #[.int .i64 (fk : Int), .int .i64 (fs : Int)] 68)).alloc (.cells #[.int .i64 0, .int .i64 0] 68)) = u1
  have hb0 : Below w.heap.size w u1 := by rw [← hw0]; exact ((Below.refl _ _).alloc (Nat.le_refl _) _).alloc (by simp; try omega) _
  have hfa : u1.heap[w.heap.size]? = some (.cells #[.int .i64 (fk : Int), .int .i64 (fs : Int)] 68 (0, 0)) := by rw [← hw0, heap_alloc_old _ _ (by simp; try omega)]; exact alloc_new_at (by simp)
  have nfa : Far b V (w.heap.size) := hS.fresh (by omega)
  have hrs : u1.heap[w.heap.size + 1]? = some (.cells #[.int .i64 0, .int .i64 0] 68 (0, 0)) := by rw [← hw0]; exact alloc_new_at (by simp)
  have nrs : Far b V (w.heap.size + 1) := hS.fresh (by omega)
  clear hw0
  have hM : SMoved b w u1 V V := SMoved.of_below hb0
  replace hS := hS.later hb0
  have lb := blk_lt hS.fb
  have cfa0 : u1.cell? ⟨w.heap.size, 0, none⟩ = some (.int .i64 (fk : Int)) := by rw [blk_cell hfa]; rfl
  have cfa1 : u1.cell? ⟨w.heap.size, 1, none⟩ = some (.int .i64 (fs : Int)) := by rw [blk_cell hfa]; rfl
  have lfa := blk_lt hfa
  have crs0 : u1.cell? ⟨w.heap.size + 1, 0, none⟩ = some (.int .i64 0) := by rw [blk_cell hrs]; rfl
  have crs1 : u1.cell? ⟨w.heap.size + 1, 1, none⟩ = some (.int .i64 0) := by rw [blk_cell hrs]; rfl
  have lrs := blk_lt hrs
  refine (sproof_any b fk _ lb).mono ?_
  rintro e w2 ⟨rfl, hw2⟩
  subst hw2
  have q0 : w2.cell? ⟨b, 0, none⟩ = some (.slice aV C.q.vars.length cV) := by rw [blk_cell hS.fb]; exact congrArg some hVf
  have q1 : w2.cell? ⟨b, 1, none⟩ = some (.slice aC C.q.cl.length cC) := by rw [blk_cell hS.fb]; exact congrArg some hCf
  have hoV : w2.ownsRow 0 78 2 (.slice aV C.q.vars.length cV) C.q.vars.length (varCells C.q.vars) := by rw [← hVf]; exact hS.oV
  go_wp2_with fail
  have hb9 : Below w2.heap.size w2 w2.drew := (Below.refl _ w2).drew
  go_region_with (go_at_call 74; refine (preduce_any b (pOff fk) _ _ C.q _ (.slice aC C.q.cl.length cC) _ _ fk fs _ ((hS.later hb9).pat hk) (own_below hoV hb9) ⟨_, _, _, rfl⟩ hB.qb (hB.proof fk).1 (hB.proof fk).2 hf).mono ?_; rintro e w3 ⟨rfl, hgo⟩; obtain ⟨V2, hS2, hM1⟩ := (hS.later hb9).put hk hgo; have hM2 := (SMoved.of_below hb9).trans hM1; clear hgo; have hrs2 := hM2.blk hrs nrs; have nrs2 := hM2.far lrs nrs; have hM3 := hM.trans hM2; have crs20 : w3.cell? ⟨w.heap.size + 1, 0, none⟩ = some (.int .i64 0) := (by rw [blk_cell hrs2]; rfl); have crs21 : w3.cell? ⟨w.heap.size + 1, 1, none⟩ = some (.int .i64 0) := (by rw [blk_cell hrs2]; rfl); have hfa2 := hM2.blk hfa nfa; have cfa20 : w3.cell? ⟨w.heap.size, 0, none⟩ = some (.int .i64 (fk : Int)) := (by rw [blk_cell hfa2]; rfl); have l3 := blk_lt hrs2; have l4 : w.heap.size < w3.heap.size := (by omega); have z0 := blk_free hrs2 0; have z1 := blk_free hrs2 1)
  all_goals
    generalize hrn : (redP C.q fk (S.proof fk) fs).2 = rn at *
    have HF : Hid (S.reduce C.q (fk, fs) = (S.put fk (redP C.q fk (S.proof fk) fs).1, (fk, rn))) := HR
    have hR := blk_set (blk_set hrs2 0 (.int .i64 (fk : Int))) 1 (.int .i64 (rn : Int))
    have j0 := blk_cell hR 0
    have j1 := blk_cell hR 1
    clear hrn HR
    go_wp2_with fail
    refine bodyPost_ret (v := FactV (fk, rn)) (by simp [results, Tryd.results58, go_sem, j0, j1]) rfl ⟨by rw [unhide HF], ?_⟩
    rw [unhide HF]
    exact ⟨V2, (hS2.set nrs2 0 _).set nrs2 1 _, (hM3.set (Nat.le_succ _) 0 _).set (Nat.le_succ _) 1 _⟩
end Go.Proofs.YtgipjjhkhfihpabDoor

namespace Go.Proofs.YtgipjjhkhfihpabDoor
open Go.RowKit

/-! ### append onto a row that may begin inside its block -/
section
variable {P : Program}
theorem rowAt_of_own {w : World} {base : Nat} {e : TypeId} {size : Nat} {v : Value} {n : Nat} {xs : List Value} (h : w.ownsRow base e size v n xs) : RowAt w e size v n xs := by
  obtain ⟨h1, h2⟩ := h
  refine ⟨h1, ?_⟩
  rcases h2 with ⟨rfl, rfl⟩ | ⟨g, cap, cur, rfl, _, hg, hc, hm, hs, ht⟩
  · exact Or.inl ⟨rfl, none, rfl, fun k hk => by cases hk⟩
  · refine Or.inr ⟨g, 0, cap, cur, rfl, hg, hc, hm, by omega, fun j u hj => ?_⟩
    rw [← ht, List.getElem?_take] at hj
    split at hj
    · simpa using hj
    · cases hj
theorem run_append_row2 (w : World) (t ty e : TypeId) (i : TypeInfo) (z : Value) (bytes : Nat) (ht : P.underlying t = some (.slice e)) (hi : P.info? e = some i) (hz : i.zero = some z) (hsize : i.size = 2) (hby : i.bytes = bytes) (hzs : z.cells.size = 2)
    (v : Value) (n : Nat) (xs : List Value) (h : RowAt w e 2 v n xs) (a : Addr) (c : Nat) (x y : Value) (hx : w.cell? a = some x) (hy : w.cell? (a.add 1) = some y) (ox : x.oneCell' = true) (oy : y.oneCell' = true) (h63 : n + 1 ≤ 1048576) (hbytes : bytes ≤ 1024) :
    ∃ v' w', (Builtin.append_ #[t, t] ty #[v, .slice (some a) 1 c]).run P w = .ok v' w' ∧ RowAt w' e 2 v' (n + 1) (xs ++ [x, y]) ∧ Only (fun k => v.ownBlock = some k) w w' ∧ Moved w v v' := by
  have hl : [x, y].length = 1 * 2 := rfl
  have ha0 : a.add 0 = a := by unfold Addr.add; split <;> simp_all
  have hnews : ∀ j u, [x, y][j]? = some u → w.cell? (a.add j) = some u := by
    intro j u hj
    match j, hj with
    | 0, hj => simp at hj; subst hj; rw [ha0]; exact hx
    | 1, hj => simp at hj; subst hj; exact hy
    | j + 2, hj => simp at hj
  have hb1 : (n + 1) * bytes ≤ 140737488355328 := by
    have : (n + 1) * bytes ≤ 1048576 * 1024 := Nat.mul_le_mul h63 hbytes
    omega
  have hmax : n + 1 ≤ maxLen := by unfold maxLen; omega
  obtain ⟨hlen, hh⟩ := h
  have grow : ∀ (b : Addr) (cap : Nat), v = .slice (some b) n cap → cap < n + 1 → (∀ j u, xs[j]? = some u → w.cell? (b.add j) = some u) → ∃ v' w', (Builtin.append_ #[t, t] ty #[v, .slice (some a) 1 c]).run P w = .ok v' w' ∧ RowAt w' e 2 v' (n + 1) (xs ++ [x, y]) ∧ Only (fun k => v.ownBlock = some k) w w' ∧ Moved w v v' := by
    intro b cap hv hcap holds
    subst hv
    obtain ⟨v', w', h1, h2, h3⟩ := run_append_arg_grows (P := P) w t ty e i z 2 bytes ht hi hz hsize hby hzs (by decide) b n cap xs hlen holds a 1 c [x, y] hl hnews hcap hmax hb1
    refine ⟨v', w', h1, rowAt_of_own h2, ⟨h3.os, h3.tape, h3.output, h3.size, fun k hk _ => h3.block k hk (by simp)⟩, ?_⟩
    rcases h2.2 with ⟨_, h0⟩ | ⟨g, cap', cur, rfl, hg, _⟩
    · omega
    · exact Or.inr ⟨g, rfl, hg⟩
  rcases hh with ⟨hn0, a0, hv, hbk⟩ | ⟨g, off, cap, cur, hv, hg, hnc, hcm, hcs, hcells⟩
  · subst hn0
    have hxs : xs = [] := List.eq_nil_of_length_eq_zero (by simpa using hlen)
    cases a0 with
    | none =>
      subst hv hxs
      obtain ⟨v', w', h1, h2, h3, h4⟩ := run_append_at (P := P) w w.heap.size t ty e i z 2 bytes ht hi hz hsize hby hzs (by decide) (.slice none 0 0) 0 [] (World.ownsRow_nil _ _ _ _) a 1 c [x, y] hl hnews (by simp [ox, oy]) (by decide) hmax hb1 (Nat.le_refl _)
      refine ⟨v', w', h1, rowAt_of_own h2, ⟨h3.os, h3.tape, h3.output, h3.size, fun k hk _ => h3.block k hk (fun e => by cases e)⟩, h4⟩
    | some b => exact grow b 0 hv (by omega) (fun j u hj => by rw [hxs] at hj; simp at hj)
  · by_cases hroom : n + 1 ≤ cap
    · subst hv
      have hsz : off + n * 2 + 1 < cur.size := by omega
      have hr := run_append_room_cells (P := P) w t ty e i ht hi g off n cap a 1 c [x, y] (by rw [hsize]; rfl) hnews (by simp [ox, oy]) hroom (by
        intro j hj
        rw [hsize, blk_cell hg]
        have : off + n * 2 + j < cur.size := by simp at hj; omega
        simp [this]) (by intro j hj; exact blk_free hg _)
      rw [hsize] at hr
      have hset : w.setCells g (off + n * 2) [x, y] = (w.setCell ⟨g, off + n * 2, none⟩ x).setCell ⟨g, off + n * 2 + 1, none⟩ y := rfl
      rw [hset] at hr
      have hg2 := blk_set (blk_set hg (off + n * 2) x) (off + n * 2 + 1) y
      refine ⟨_, _, hr, ⟨by simp [hlen]; omega, Or.inr ⟨g, off, cap, _, rfl, hg2, hroom, hcm, by simpa using hcs, ?_⟩⟩, ((Only.refl (fun k => (Value.slice (some ⟨g, off, none⟩) n cap).ownBlock = some k) w).setCell (p := ⟨g, off + n * 2, none⟩) (Or.inl rfl) x).setCell (p := ⟨g, off + n * 2 + 1, none⟩) (Or.inl rfl) y, Or.inl rfl⟩
      intro j u hj
      rw [Array.getElem?_setIfInBounds, Array.getElem?_setIfInBounds]
      rcases Nat.lt_or_ge j (n * 2) with h1 | h1
      · rw [List.getElem?_append_left (by omega)] at hj
        rw [if_neg (by omega), if_neg (by omega)]
        exact hcells j u hj
      · rw [List.getElem?_append_right (by omega), hlen] at hj
        have : j - n * 2 = 0 ∨ j - n * 2 = 1 := by
          rcases Nat.lt_or_ge (j - n * 2) 2 with h2 | h2
          · omega
          · rw [List.getElem?_eq_none (by simpa using h2)] at hj; cases hj
        rcases this with h2 | h2
        · rw [h2] at hj
          simp at hj
          subst hj
          have e1 : j = n * 2 := by omega
          subst e1
          rw [if_neg (by omega), if_pos rfl, if_pos (by omega)]
        · rw [h2] at hj
          simp at hj
          subst hj
          have e1 : j = n * 2 + 1 := by omega
          subst e1
          rw [if_pos (by omega), if_pos (by simp; omega)]
    · exact grow ⟨g, off, none⟩ cap hv (by omega) (fun j u hj => by
        have hadd : (⟨g, off, none⟩ : Addr).add j = ⟨g, off + j, none⟩ := by unfold Addr.add; split <;> simp_all
        rw [hadd, blk_cell hg]; exact hcells j u hj)
theorem step_append_row2 {ops : Array Oper} {o : Oper} {a : Act} {w : World} {K : Act → World → Prop} {Q : Exit → Act → World → Prop} {E : Prop}
    (hg : o.guard = none) (s x : Operand) (t : TypeId) (hop : o.op = Op.call { callee := Callee.builtin Builtin.append, args := #[s, x], argTypes := #[t, t] })
    (e : TypeId) (i : TypeInfo) (z : Value) (bytes : Nat) (ht : P.underlying t = some (.slice e)) (hi : P.info? e = some i) (hz : i.zero = some z) (hsize : i.size = 2) (hby : i.bytes = bytes) (hzs : z.cells.size = 2)
    (v : Value) (n : Nat) (xs : List Value) (hrow : RowAt w e 2 v n xs) (hs : a.eval s = v) (ad : Addr) (c : Nat) (p q : Value) (hx : a.eval x = .slice (some ad) 1 c) (hp : w.cell? ad = some p) (hq : w.cell? (ad.add 1) = some q) (op : p.oneCell' = true) (oq : q.oneCell' = true) (h63 : n + 1 ≤ 1048576) (hbytes : bytes ≤ 1024)
    (hK : ∀ v' w', RowAt w' e 2 v' (n + 1) (xs ++ [p, q]) → Only (fun k => v.ownBlock = some k) w w' → Moved w v v' → K (a.put o.dst v') w') :
    if Region.wanted o (yielded ops a.tmps) = true then Oper.wp P o a w K Q else E := by
  have hw : Region.wanted o (yielded ops a.tmps) = true := by simp [Region.wanted, hg]
  rw [if_pos hw]
  obtain ⟨v', w', hr, h2, h3, h4⟩ := run_append_row2 (P := P) w t o.type e i z bytes ht hi hz hsize hby hzs v n xs hrow ad c p q hp hq op oq h63 hbytes
  unfold Oper.wp execOp
  simp only [hop, resolve, invoke, builtin, Sem.run_bind, Sem.run_pure, Result.andThen_ok, List.map_toArray, List.map_cons, List.map_nil, hs, hx, hr]
  exact hK v' w' h2 h3 h4
end
/-- What is left of a row without its first element. -/
theorem RowAt.tail {w : World} {e : TypeId} {g off cap m : Nat} {l : List (Nat × Nat)} (h : RowAt w e 2 (.slice (some ⟨g, off, none⟩) l.length cap) l.length (pairs l)) (hm : l.length = m + 1) (v : Value) (hv : (cap = 1 ∧ v = .slice (some ⟨g, off, none⟩) m 0) ∨ v = .slice (some ⟨g, off + 2, none⟩) m (cap - 1)) : RowAt w e 2 v (l.drop 1).length (pairs (l.drop 1)) := by
  have hlen : (l.drop 1).length = m := by simp; omega
  have hpl : (pairs (l.drop 1)).length = (l.drop 1).length * 2 := pairs_length _
  obtain ⟨h1, h2⟩ := h
  rcases h2 with ⟨h0, _⟩ | ⟨g', off', cap', cur, he, hg, hc, hcm, hcs, hcells⟩
  · omega
  injection he with he _ e3
  injection he with he
  injection he with e1 e2 _
  subst e1 e2 e3
  refine ⟨hpl, ?_⟩
  rw [hlen]
  rcases hv with ⟨hc1, rfl⟩ | rfl
  · left
    have hm0 : m = 0 := by omega
    subst hm0
    exact ⟨rfl, _, rfl, fun k hk => by injection hk with hk; subst hk; exact ⟨cur, hg⟩⟩
  · right
    refine ⟨g, off + 2, cap - 1, cur, rfl, hg, by omega, by omega, by omega, fun j u hj => ?_⟩
    have := hcells (j + 2) u (by
      cases l with
      | nil => simp at hm
      | cons x l => simp only [pairs, List.flatMap_cons] at hj ⊢; simpa using hj)
    rw [← this]; congr 1; omega
end Go.Proofs.YtgipjjhkhfihpabDoor

namespace Go.Proofs.YtgipjjhkhfihpabDoor
open Go.RowKit

theorem infoFact : (Tryd.prog.info? 68).map (fun i => (i.zero, i.size, i.bytes)) = some (some (.agg #[.int .i64 0, .int .i64 0]), 2, 16) := by kernel_rfl

/-- The kept row is another, in its cell. -/
theorem SAt.setKept {w : World} {b : Nat} {C : SC} {S : SS} {V : SV} (h : SAt w b C S V) {l : List (Nat × Nat)} {v : Value} (hr : RowAt (w.setCell ⟨b, 11, none⟩ v) 68 2 v l.length (pairs l)) : SAt (w.setCell ⟨b, 11, none⟩ v) b C { S with kept := l } { V with k := v } :=
  ⟨blk_set h.fb 11 v, own_set_ne h.oV (own_type_ne h.oV h.fb (by decide)) v, own_set_ne h.oC (own_type_ne h.oC h.fb (by decide)) v, own_set_ne h.oR (own_type_ne h.oR h.fb (by decide)) v, own_set_ne h.oA (own_type_ne h.oA h.fb (by decide)) v, hr, h.ap⟩
theorem SAt.setMost {w : World} {b : Nat} {C : SC} {S : SS} {V : SV} (h : SAt w b C S V) (n : Nat) : SAt (w.setCell ⟨b, 12, none⟩ (.int .i64 (n : Int))) b C { S with most := n } V :=
  ⟨blk_set h.fb 12 _, own_set_ne h.oV (own_type_ne h.oV h.fb (by decide)) _, own_set_ne h.oC (own_type_ne h.oC h.fb (by decide)) _, own_set_ne h.oR (own_type_ne h.oR h.fb (by decide)) _, own_set_ne h.oA (own_type_ne h.oA h.fb (by decide)) _,
   h.oK.keep (T := fun j => j = b) ((Only.refl (fun j => j = b) w).setCell (p := ⟨b, 12, none⟩) (Or.inl rfl) _) (fun j hj e => by subst e; obtain ⟨c, hc⟩ := h.oK.blk j hj; exact absurd (blk_type hc h.fb) (by decide)), h.ap⟩
theorem row_setB {w : World} {b : Nat} {C : SC} {S : SS} {V : SV} (h : SAt w b C S V) {v : Value} {n : Nat} {xs : List Value} (hr : RowAt w 68 2 v n xs) (o : Nat) (u : Value) : RowAt (w.setCell ⟨b, o, none⟩ u) 68 2 v n xs :=
  hr.keep (T := fun j => j = b) ((Only.refl (fun j => j = b) w).setCell (p := ⟨b, o, none⟩) (Or.inl rfl) _) (fun j hj e => by subst e; obtain ⟨c, hc⟩ := hr.blk j hj; exact absurd (blk_type hc h.fb) (by decide))
theorem SMoved.setB {b : Nat} {w w' : World} {V V' : SV} (h : SMoved b w w' V V') (o : Nat) (u : Value) : SMoved b w (w'.setCell ⟨b, o, none⟩ u) V V' :=
  ⟨h.only.setCell (p := ⟨b, o, none⟩) (Or.inl (Or.inl rfl)) u, h.v, h.c, h.r, h.a, h.k⟩

theorem SAt.grownK {ux wz w' : World} {b : Nat} {C : SC} {S : SS} {V : SV} {aX : Option Addr} {nX cX : Nat} (h : SAt ux b C S V) (hV : V.k = .slice aX nX cX) (hn : S.kept.length = nX) (hbz : Below ux.heap.size ux wz) {v' : Value} {f : Nat × Nat} (hrow : RowAt w' 68 2 v' (nX + 1) (pairs S.kept ++ [.int .i64 (f.1 : Int), .int .i64 (f.2 : Int)])) (ho : Only (fun k => (Value.slice aX nX cX).ownBlock = some k) wz w') (hm : Moved wz (.slice aX nX cX) v') :
    w'.heap[b]? = some (.cells (sCells C S V) 65 (0, 0)) ∧ SAt (w'.setCell ⟨b, 11, none⟩ v') b C { S with kept := S.kept ++ [f] } { V with k := v' } ∧ SMoved b ux (w'.setCell ⟨b, 11, none⟩ v') V { V with k := v' } := by
  rw [← hV] at ho hm
  subst hn
  have hz := h.later hbz
  have hne : ∀ {e : TypeId} {k : Nat}, e ≠ 68 → (∃ c, wz.heap[k]? = some (.cells c e (0, 0))) → ¬ V.k.ownBlock = some k := by
    rintro e k h5 ⟨c, hc⟩ e2
    obtain ⟨c', hc'⟩ := hz.oK.blk k e2
    exact h5 (blk_type hc hc')
  have hfb : w'.heap[b]? = some (.cells (sCells C S V) 65 (0, 0)) := (ho.block b (blk_lt hz.fb) (hne (by decide) ⟨_, hz.fb⟩)).trans hz.fb
  have oV := own_keep hz.oV ho (fun k hk => hne (by decide) (own_bk hz.oV k hk))
  have oC := own_keep hz.oC ho (fun k hk => hne (by decide) (own_bk hz.oC k hk))
  have oR := own_keep hz.oR ho (fun k hk => hne (by decide) (own_bk hz.oR k hk))
  have oA := own_keep hz.oA ho (fun k hk => hne (by decide) (own_bk hz.oA k hk))
  have hrow2 : RowAt w' 68 2 v' (S.kept ++ [f]).length (pairs (S.kept ++ [f])) := by rw [pairs_snoc]; simpa using hrow
  refine ⟨hfb, ⟨blk_set hfb 11 v', own_set_ne oV (own_type_ne oV hfb (by decide)) v', own_set_ne oC (own_type_ne oC hfb (by decide)) v', own_set_ne oR (own_type_ne oR hfb (by decide)) v', own_set_ne oA (own_type_ne oA hfb (by decide)) v', ?_, h.ap⟩, ?_⟩
  · exact hrow2.keep (T := fun j => j = b) ((Only.refl (fun j => j = b) w').setCell (p := ⟨b, 11, none⟩) (Or.inl rfl) _) (fun j hj e => by subst e; obtain ⟨c, hc⟩ := hrow2.blk j hj; exact absurd (blk_type hc hfb) (by decide))
  · have h9 : Only (TS b V) wz w' := ho.mono (fun k _ hk => Or.inr (Or.inr (Or.inr hk)))
    refine ⟨((Only.of_below hbz).trans h9).setCell (p := ⟨b, 11, none⟩) (Or.inl (Or.inl rfl)) v', rfl, rfl, Or.inl rfl, Or.inl rfl, ?_⟩
    rcases hm with hm | ⟨k, h1, h2⟩
    · exact Or.inl hm
    · exact Or.inr ⟨k, h1, Nat.le_trans hbz.size h2⟩
/-- The store behind what went. -/
def storeM' (S1 : SS) (f : Nat × Nat) : SS := if S1.most < S1.kept.length + 1 then { ({ S1 with kept := S1.kept ++ [f] } : SS) with most := S1.kept.length + 1 } else { S1 with kept := S1.kept ++ [f] }
theorem store_full (room : Nat) (S : SS) (f : Nat × Nat) (h0 : room ≠ 0) (hf : room ≤ S.kept.length) : S.store room f = storeM' { S with kept := S.kept.drop 1 } f := by
  unfold SS.store storeK storeM storeM' storeK
  simp only [h0, hf, if_true, if_false, List.length_append, List.length_cons, List.length_nil]
  split <;> rfl
theorem store_room (room : Nat) (S : SS) (f : Nat × Nat) (h0 : room ≠ 0) (hf : ¬ room ≤ S.kept.length) : S.store room f = storeM' S f := by
  unfold SS.store storeK storeM storeM' storeK
  simp only [h0, hf, if_false, List.length_append, List.length_cons, List.length_nil]
  split <;> rfl

set_option maxRecDepth 100000 in
set_option maxHeartbeats 3200000 in
theorem store_any (b : Nat) (C : SC) (S : SS) (V : SV) (f : Nat × Nat) (w : World) (hS : SAt w b C S V) (hB : SBd C S) :
    Calls Tryd.prog 76 #[.pointer (some ⟨b, 10, none⟩), FactV f] w fun e w' => e = .returned (.tuple #[]) ∧ SPost b C (S.store C.room f) V w w' := by
  obtain ⟨fk, fs⟩ := f
  obtain ⟨i1, hi1, hz10, hz11, hz12⟩ := info_parts infoFact
  have hbw := blk_lt hS.fb
  obtain ⟨aK, cK, hKf⟩ := hS.oK.form
  have c10 : w.cell? ⟨b, 10, none⟩ = some (.int .i64 (C.room : Int)) := by rw [blk_cell hS.fb]; rfl
  have c11 : w.cell? ⟨b, 11, none⟩ = some (.slice aK S.kept.length cK) := by rw [blk_cell hS.fb]; exact congrArg some hKf
  have c12 : w.cell? ⟨b, 12, none⟩ = some (.int .i64 (S.most : Int)) := by rw [blk_cell hS.fb]; rfl
  have z11 := blk_free hS.fb 11
  have z12 := blk_free hS.fb 12
  have hkl := hB.kept
  have hrm := hB.room
  by_cases hr : C.room = 0
  · have HF : Hid (S.store C.room (fk, fs) = S) := hide (by unfold SS.store storeK storeM; rw [if_pos hr, if_pos hr])
    have hd : decide ((C.room : Int) ≤ 0) = true := by simp; omega
    have hd2 : decide (C.room ≤ 0) = true := by simp; omega
    have hd0 : decide (C.room = 0) = true := by simp [hr]
    clear hr
    go_enter Tryd.func76, Tryd.ntmps76
    go_wp2_with fail
    refine bodyPost_ret (v := .tuple #[]) (by simp [results, Tryd.results76, go_sem]) rfl ⟨rfl, ?_⟩
    rw [unhide HF]
    have hb0 : Below w.heap.size w (w.alloc (.cells #[.int .i64 (fk : Int), .int .i64 (fs : Int)] 68)) := (Below.refl _ _).alloc (Nat.le_refl _) _
    exact ⟨V, hS.later hb0, SMoved.of_below hb0⟩
  · have hd : decide ((C.room : Int) ≤ 0) = false := by simp; omega
    have hd2 : decide (C.room ≤ 0) = false := by simp; omega
    have hd0 : decide (C.room = 0) = false := by simp [hr]
    by_cases hfull : C.room ≤ S.kept.length
    · have hd3 : decide ((C.room : Int) ≤ (S.kept.length : Int)) = true := by simp; omega
      have hd4 : decide (C.room ≤ S.kept.length) = true := by simp; omega
      have hpos : 0 < S.kept.length := by omega
      rcases hS.oK.2 with ⟨h0, _⟩ | ⟨g, off, cap, cur, hv, hg, hnc, hcm, hcs, hcells⟩
      · omega
      have hgw := blk_lt hg
      rw [hKf] at hv
      injection hv with e1 e2 e3
      subst e1 e3
      obtain ⟨m, hm⟩ : ∃ m, S.kept.length = m + 1 := ⟨S.kept.length - 1, by omega⟩
      go_enter Tryd.func76, Tryd.ntmps76
      go_wp2_with fail
      have hb0 : Below w.heap.size w (w.alloc (.cells #[.int .i64 (fk : Int), .int .i64 (fs : Int)] 68)) := (Below.refl _ _).alloc (Nat.le_refl _) _
      have hfa := heap_alloc_new w (.cells #[.int .i64 (fk : Int), .int .i64 (fs : Int)] 68)
      generalize w.alloc (.cells #[.int .i64 (fk : Int), .int .i64 (fs : Int)] 68) = u1 at *
      have d10 : u1.cell? ⟨b, 10, none⟩ = some (.int .i64 (C.room : Int)) := by rw [hb0.cell (p := ⟨b, 10, none⟩) hbw]; exact c10
      have d11 : u1.cell? ⟨b, 11, none⟩ = some (.slice (some ⟨g, off, none⟩) S.kept.length cK) := by rw [hb0.cell (p := ⟨b, 11, none⟩) hbw]; exact c11
      have d12 : u1.cell? ⟨b, 12, none⟩ = some (.int .i64 (S.most : Int)) := by rw [hb0.cell (p := ⟨b, 12, none⟩) hbw]; exact c12
      have lb := Nat.lt_of_lt_of_le hbw hb0.size
      have lf := blk_lt hfa
      go_quiet (fail)
      have hb1 : Below w.heap.size w (u1.drewN nq) := below_drewN hb0 nq
      have hfa1 : (u1.drewN nq).heap[w.heap.size]? = some (.cells #[.int .i64 (fk : Int), .int .i64 (fs : Int)] 68 (0, 0)) := by rw [World.heap_drewN]; exact hfa
      generalize u1.drewN nq = u2 at *
      clear hb0 hfa d10 d11 d12 lb lf
      have hS2 := hS.later hb1
      have d10 : u2.cell? ⟨b, 10, none⟩ = some (.int .i64 (C.room : Int)) := by rw [hb1.cell (p := ⟨b, 10, none⟩) hbw]; exact c10
      have d11 : u2.cell? ⟨b, 11, none⟩ = some (.slice (some ⟨g, off, none⟩) S.kept.length cK) := by rw [hb1.cell (p := ⟨b, 11, none⟩) hbw]; exact c11
      have d12 : u2.cell? ⟨b, 12, none⟩ = some (.int .i64 (S.most : Int)) := by rw [hb1.cell (p := ⟨b, 12, none⟩) hbw]; exact c12
      have y11 := blk_free hS2.fb 11
      have y12 := blk_free hS2.fb 12
      have lb := Nat.lt_of_lt_of_le hbw hb1.size
      have lf := blk_lt hfa1
      have f0 : u2.cell? ⟨w.heap.size, 0, none⟩ = some (.int .i64 (fk : Int)) := by rw [blk_cell hfa1]; rfl
      have f1 : u2.cell? ⟨w.heap.size, 1, none⟩ = some (.int .i64 (fs : Int)) := by rw [blk_cell hfa1]; rfl
      have HST : Hid (S.store C.room (fk, fs) = storeM' { S with kept := S.kept.drop 1 } (fk, fs)) := hide (store_full _ _ _ hr hfull)
      have hrowk : RowAt u2 68 2 (.slice (some ⟨g, off, none⟩) S.kept.length cK) S.kept.length (pairs S.kept) := by rw [← hKf]; exact hS2.oK
      have hmx : SMoved b w u2 V V := SMoved.of_below hb1
      rw [hm] at d11
      by_cases hc1 : cK = 1
      · subst hc1
        go_wp2_with fail
        have hvt : RowAt u2 68 2 (.slice (some ⟨g, off, none⟩) m (0)) (S.kept.drop 1).length (pairs (S.kept.drop 1)) := hrowk.tail hm _ (Or.inl ⟨rfl, rfl⟩)
        have hnX : ({ S with kept := S.kept.drop 1 } : SS).kept.length = m := by simp; omega
        have hSx := hS2.setKept (row_setB hS2 hvt 11 (.slice (some ⟨g, off, none⟩) m (0)))
        have hMx : SMoved b w (u2.setCell ⟨b, 11, none⟩ (.slice (some ⟨g, off, none⟩) m (0))) V { V with k := .slice (some ⟨g, off, none⟩) m (0) } := ⟨hmx.only.setCell (p := ⟨b, 11, none⟩) (Or.inl (Or.inl rfl)) _, rfl, rfl, Or.inl rfl, Or.inl rfl, Or.inl (by rw [hKf]; rfl)⟩
        have hfx : (u2.setCell ⟨b, 11, none⟩ (.slice (some ⟨g, off, none⟩) m (0))).heap[w.heap.size]? = some (.cells #[.int .i64 (fk : Int), .int .i64 (fs : Int)] 68 (0, 0)) := by rw [Below.heap_setCell _ _ _ _ (by intro e; simp at e; omega)]; exact hfa1
        have hVX : ({ V with k := .slice (some ⟨g, off, none⟩) m (0) } : SV).k = .slice (some ⟨g, off, none⟩) m (0) := rfl
        generalize u2.setCell ⟨b, 11, none⟩ (.slice (some ⟨g, off, none⟩) m (0)) = ux at *
        clear hvt d10 d11 d12 y11 y12 f0 f1 hrowk hmx hS2 hfa1 hb1 lb lf
        have lbx := blk_lt hSx.fb
        have e10 : ux.cell? ⟨b, 10, none⟩ = some (.int .i64 (C.room : Int)) := by rw [blk_cell hSx.fb]; rfl
        have e11 : ux.cell? ⟨b, 11, none⟩ = some (.slice (some ⟨g, off, none⟩) (m) (0)) := by rw [blk_cell hSx.fb]; exact congrArg some hVX
        have e12 : ux.cell? ⟨b, 12, none⟩ = some (.int .i64 (S.most : Int)) := by rw [blk_cell hSx.fb]; rfl
        have y11 := blk_free hSx.fb 11
        have g0 : ux.cell? ⟨w.heap.size, 0, none⟩ = some (.int .i64 (fk : Int)) := by rw [blk_cell hfx]; rfl
        have g1 : ux.cell? ⟨w.heap.size, 1, none⟩ = some (.int .i64 (fs : Int)) := by rw [blk_cell hfx]; rfl
        have lfx := blk_lt hfx
        have hrowx : RowAt ux 68 2 (.slice (some ⟨g, off, none⟩) (m) (0)) (m) (pairs ({ S with kept := S.kept.drop 1 } : SS).kept) := by have h := hSx.oK; rw [hVX] at h; rw [hnX] at h; exact h
        have hbz : Below ux.heap.size ux ((ux.alloc (.cells #[.int .i64 (fk : Int), .int .i64 (fs : Int)] 68)).drew) := ((Below.refl _ ux).alloc (Nat.le_refl _) _).drew
        go_region_law (refine step_append_row2 rfl (.tmp 31) (.tmp 33) 61 rfl 68 i1 (.agg #[.int .i64 0, .int .i64 0]) 16 Tryd.underlying61 hi1 hz10 hz11 hz12 rfl (.slice (some ⟨g, off, none⟩) (m) (0)) (m) (pairs ({ S with kept := S.kept.drop 1 } : SS).kept) (hrowx.keep (Only.of_below (T := fun _ => False) hbz) (fun _ _ h => h)) rfl ⟨ux.heap.size, 0, none⟩ 1 (.int .i64 (fk : Int)) (.int .i64 (fs : Int)) rfl (new_cells ux [.int .i64 (fk : Int), .int .i64 (fs : Int)] 68 0 _ rfl) (new_cells ux [.int .i64 (fk : Int), .int .i64 (fs : Int)] 68 1 _ rfl) rfl rfl (by omega) (by omega) ?_; intro v' w' hrow' honly' hmv'; have hS4 := SAt.grownK (f := (fk, fs)) hSx hVX hnX hbz hrow' honly' hmv'; obtain ⟨a4, c4, hv4⟩ := hrow'.form; subst hv4; have j11 : w'.cell? ⟨b, 11, none⟩ = some (.slice (some ⟨g, off, none⟩) (m) (0)) := (by rw [blk_cell hS4.1]; exact congrArg some hVX); have j12 : w'.cell? ⟨b, 12, none⟩ = some (.int .i64 (S.most : Int)) := (by rw [blk_cell hS4.1]; rfl); have x11 := blk_free hS4.1 11; have x12 := blk_free hS4.1 12; have lb4 := blk_lt hS4.1)
        all_goals
          obtain ⟨hfb4, hS5, hM5⟩ := hS4
          have hM6 := hMx.trans hM5
          clear hM5 hmv' honly' hrow'
          have k11 : (w'.setCell ⟨b, 11, none⟩ (.slice a4 (m + 1) c4)).cell? ⟨b, 11, none⟩ = some (.slice a4 (m + 1) c4) := by rw [blk_cell (blk_set hfb4 11 _)]; rfl
          have k12 : (w'.setCell ⟨b, 11, none⟩ (.slice a4 (m + 1) c4)).cell? ⟨b, 12, none⟩ = some (.int .i64 (S.most : Int)) := by rw [blk_cell (blk_set hfb4 11 _)]; rfl
          have r11 := blk_free (blk_set hfb4 11 (.slice a4 (m + 1) c4)) 11
          have r12 := blk_free (blk_set hfb4 11 (.slice a4 (m + 1) c4)) 12
          have lb5 : b < (w'.setCell ⟨b, 11, none⟩ (.slice a4 (m + 1) c4)).heap.size := blk_lt (blk_set hfb4 11 _)
          go_wp2_with fail
          generalize w'.setCell ⟨b, 11, none⟩ (.slice a4 (m + 1) c4) = u5 at *
          go_quiet (fail)
          have hb6 : Below u5.heap.size u5 (u5.drewN nq) := below_drewN (Below.refl _ _) nq
          have hS6 := hS5.later hb6
          have hM7 := hM6.trans (SMoved.of_below hb6)
          have t11 : (u5.drewN nq).cell? ⟨b, 11, none⟩ = some (.slice a4 (m + 1) c4) := by rw [hb6.cell (p := ⟨b, 11, none⟩) lb5]; exact k11
          have t12 : (u5.drewN nq).cell? ⟨b, 12, none⟩ = some (.int .i64 (S.most : Int)) := by rw [hb6.cell (p := ⟨b, 12, none⟩) lb5]; exact k12
          have s12 := blk_free hS6.fb 12
          have lb7 := blk_lt hS6.fb
          generalize u5.drewN nq = u6 at *
          clear k11 k12 r11 r12 lb5 hb6 hM6 hS5
          by_cases hgt : S.most < m + 1
          · have hg1 : decide ((S.most : Int) < (m : Int) + 1) = true := by simp; omega
            have hg2 : decide (S.most < m + 1) = true := by simp; omega
            have HF : Hid (S.store C.room (fk, fs) = { ({ ({ S with kept := S.kept.drop 1 } : SS) with kept := ({ S with kept := S.kept.drop 1 } : SS).kept ++ [(fk, fs)] } : SS) with most := m + 1 }) := hide (by rw [unhide HST]; unfold storeM'; rw [if_pos (by rw [hnX]; exact hgt)]; rw [hnX])
            have hfin := hS6.setMost (m + 1)
            go_wp2_with fail
            go_end0
            refine ⟨rfl, ?_⟩
            rw [unhide HF]
            exact ⟨_, by simpa using hfin, hM7.setB 12 _⟩
          · have hg1 : decide ((S.most : Int) < (m : Int) + 1) = false := by simp; omega
            have hg2 : decide (S.most < m + 1) = false := by simp; omega
            have HF : Hid (S.store C.room (fk, fs) = { ({ S with kept := S.kept.drop 1 } : SS) with kept := ({ S with kept := S.kept.drop 1 } : SS).kept ++ [(fk, fs)] }) := hide (by rw [unhide HST]; unfold storeM'; rw [if_neg (by rw [hnX]; exact hgt)])
            go_wp2_with fail
            go_end0
            refine ⟨rfl, ?_⟩
            rw [unhide HF]
            exact ⟨_, hS6, hM7⟩
      · have hc2 : 1 < cK := by omega
        have hc3 : decide (cK ≤ 1) = false := by simp; omega
        go_wp2_with fail
        all_goals first | (exfalso; omega) | skip
        have hvt : RowAt u2 68 2 (.slice (some ⟨g, off + 2, none⟩) m (cK - 1)) (S.kept.drop 1).length (pairs (S.kept.drop 1)) := hrowk.tail hm _ (Or.inr rfl)
        have hnX : ({ S with kept := S.kept.drop 1 } : SS).kept.length = m := by simp; omega
        have hSx := hS2.setKept (row_setB hS2 hvt 11 (.slice (some ⟨g, off + 2, none⟩) m (cK - 1)))
        have hMx : SMoved b w (u2.setCell ⟨b, 11, none⟩ (.slice (some ⟨g, off + 2, none⟩) m (cK - 1))) V { V with k := .slice (some ⟨g, off + 2, none⟩) m (cK - 1) } := ⟨hmx.only.setCell (p := ⟨b, 11, none⟩) (Or.inl (Or.inl rfl)) _, rfl, rfl, Or.inl rfl, Or.inl rfl, Or.inl (by rw [hKf]; rfl)⟩
        have hfx : (u2.setCell ⟨b, 11, none⟩ (.slice (some ⟨g, off + 2, none⟩) m (cK - 1))).heap[w.heap.size]? = some (.cells #[.int .i64 (fk : Int), .int .i64 (fs : Int)] 68 (0, 0)) := by rw [Below.heap_setCell _ _ _ _ (by intro e; simp at e; omega)]; exact hfa1
        have hVX : ({ V with k := .slice (some ⟨g, off + 2, none⟩) m (cK - 1) } : SV).k = .slice (some ⟨g, off + 2, none⟩) m (cK - 1) := rfl
        generalize u2.setCell ⟨b, 11, none⟩ (.slice (some ⟨g, off + 2, none⟩) m (cK - 1)) = ux at *
        clear hvt d10 d11 d12 y11 y12 f0 f1 hrowk hmx hS2 hfa1 hb1 lb lf
        have lbx := blk_lt hSx.fb
        have e10 : ux.cell? ⟨b, 10, none⟩ = some (.int .i64 (C.room : Int)) := by rw [blk_cell hSx.fb]; rfl
        have e11 : ux.cell? ⟨b, 11, none⟩ = some (.slice (some ⟨g, off + 2, none⟩) (m) (cK - 1)) := by rw [blk_cell hSx.fb]; exact congrArg some hVX
        have e12 : ux.cell? ⟨b, 12, none⟩ = some (.int .i64 (S.most : Int)) := by rw [blk_cell hSx.fb]; rfl
        have y11 := blk_free hSx.fb 11
        have g0 : ux.cell? ⟨w.heap.size, 0, none⟩ = some (.int .i64 (fk : Int)) := by rw [blk_cell hfx]; rfl
        have g1 : ux.cell? ⟨w.heap.size, 1, none⟩ = some (.int .i64 (fs : Int)) := by rw [blk_cell hfx]; rfl
        have lfx := blk_lt hfx
        have hrowx : RowAt ux 68 2 (.slice (some ⟨g, off + 2, none⟩) (m) (cK - 1)) (m) (pairs ({ S with kept := S.kept.drop 1 } : SS).kept) := by have h := hSx.oK; rw [hVX] at h; rw [hnX] at h; exact h
        have hbz : Below ux.heap.size ux ((ux.alloc (.cells #[.int .i64 (fk : Int), .int .i64 (fs : Int)] 68)).drew) := ((Below.refl _ ux).alloc (Nat.le_refl _) _).drew
        go_region_law (refine step_append_row2 rfl (.tmp 31) (.tmp 33) 61 rfl 68 i1 (.agg #[.int .i64 0, .int .i64 0]) 16 Tryd.underlying61 hi1 hz10 hz11 hz12 rfl (.slice (some ⟨g, off + 2, none⟩) (m) (cK - 1)) (m) (pairs ({ S with kept := S.kept.drop 1 } : SS).kept) (hrowx.keep (Only.of_below (T := fun _ => False) hbz) (fun _ _ h => h)) rfl ⟨ux.heap.size, 0, none⟩ 1 (.int .i64 (fk : Int)) (.int .i64 (fs : Int)) rfl (new_cells ux [.int .i64 (fk : Int), .int .i64 (fs : Int)] 68 0 _ rfl) (new_cells ux [.int .i64 (fk : Int), .int .i64 (fs : Int)] 68 1 _ rfl) rfl rfl (by omega) (by omega) ?_; intro v' w' hrow' honly' hmv'; have hS4 := SAt.grownK (f := (fk, fs)) hSx hVX hnX hbz hrow' honly' hmv'; obtain ⟨a4, c4, hv4⟩ := hrow'.form; subst hv4; have j11 : w'.cell? ⟨b, 11, none⟩ = some (.slice (some ⟨g, off + 2, none⟩) (m) (cK - 1)) := (by rw [blk_cell hS4.1]; exact congrArg some hVX); have j12 : w'.cell? ⟨b, 12, none⟩ = some (.int .i64 (S.most : Int)) := (by rw [blk_cell hS4.1]; rfl); have x11 := blk_free hS4.1 11; have x12 := blk_free hS4.1 12; have lb4 := blk_lt hS4.1)
        all_goals
          obtain ⟨hfb4, hS5, hM5⟩ := hS4
          have hM6 := hMx.trans hM5
          clear hM5 hmv' honly' hrow'
          have k11 : (w'.setCell ⟨b, 11, none⟩ (.slice a4 (m + 1) c4)).cell? ⟨b, 11, none⟩ = some (.slice a4 (m + 1) c4) := by rw [blk_cell (blk_set hfb4 11 _)]; rfl
          have k12 : (w'.setCell ⟨b, 11, none⟩ (.slice a4 (m + 1) c4)).cell? ⟨b, 12, none⟩ = some (.int .i64 (S.most : Int)) := by rw [blk_cell (blk_set hfb4 11 _)]; rfl
          have r11 := blk_free (blk_set hfb4 11 (.slice a4 (m + 1) c4)) 11
          have r12 := blk_free (blk_set hfb4 11 (.slice a4 (m + 1) c4)) 12
          have lb5 : b < (w'.setCell ⟨b, 11, none⟩ (.slice a4 (m + 1) c4)).heap.size := blk_lt (blk_set hfb4 11 _)
          go_wp2_with fail
          generalize w'.setCell ⟨b, 11, none⟩ (.slice a4 (m + 1) c4) = u5 at *
          go_quiet (fail)
          have hb6 : Below u5.heap.size u5 (u5.drewN nq) := below_drewN (Below.refl _ _) nq
          have hS6 := hS5.later hb6
          have hM7 := hM6.trans (SMoved.of_below hb6)
          have t11 : (u5.drewN nq).cell? ⟨b, 11, none⟩ = some (.slice a4 (m + 1) c4) := by rw [hb6.cell (p := ⟨b, 11, none⟩) lb5]; exact k11
          have t12 : (u5.drewN nq).cell? ⟨b, 12, none⟩ = some (.int .i64 (S.most : Int)) := by rw [hb6.cell (p := ⟨b, 12, none⟩) lb5]; exact k12
          have s12 := blk_free hS6.fb 12
          have lb7 := blk_lt hS6.fb
          generalize u5.drewN nq = u6 at *
          clear k11 k12 r11 r12 lb5 hb6 hM6 hS5
          by_cases hgt : S.most < m + 1
          · have hg1 : decide ((S.most : Int) < (m : Int) + 1) = true := by simp; omega
            have hg2 : decide (S.most < m + 1) = true := by simp; omega
            have HF : Hid (S.store C.room (fk, fs) = { ({ ({ S with kept := S.kept.drop 1 } : SS) with kept := ({ S with kept := S.kept.drop 1 } : SS).kept ++ [(fk, fs)] } : SS) with most := m + 1 }) := hide (by rw [unhide HST]; unfold storeM'; rw [if_pos (by rw [hnX]; exact hgt)]; rw [hnX])
            have hfin := hS6.setMost (m + 1)
            go_wp2_with fail
            go_end0
            refine ⟨rfl, ?_⟩
            rw [unhide HF]
            exact ⟨_, by simpa using hfin, hM7.setB 12 _⟩
          · have hg1 : decide ((S.most : Int) < (m : Int) + 1) = false := by simp; omega
            have hg2 : decide (S.most < m + 1) = false := by simp; omega
            have HF : Hid (S.store C.room (fk, fs) = { ({ S with kept := S.kept.drop 1 } : SS) with kept := ({ S with kept := S.kept.drop 1 } : SS).kept ++ [(fk, fs)] }) := hide (by rw [unhide HST]; unfold storeM'; rw [if_neg (by rw [hnX]; exact hgt)])
            go_wp2_with fail
            go_end0
            refine ⟨rfl, ?_⟩
            rw [unhide HF]
            exact ⟨_, hS6, hM7⟩
    · have hd3 : decide ((C.room : Int) ≤ (S.kept.length : Int)) = false := by simp; omega
      have hd4 : decide (C.room ≤ S.kept.length) = false := by simp; omega
      go_enter Tryd.func76, Tryd.ntmps76
      go_wp2_with fail
      have hb0 : Below w.heap.size w (w.alloc (.cells #[.int .i64 (fk : Int), .int .i64 (fs : Int)] 68)) := (Below.refl _ _).alloc (Nat.le_refl _) _
      have hfa := heap_alloc_new w (.cells #[.int .i64 (fk : Int), .int .i64 (fs : Int)] 68)
      generalize w.alloc (.cells #[.int .i64 (fk : Int), .int .i64 (fs : Int)] 68) = u1 at *
      have d10 : u1.cell? ⟨b, 10, none⟩ = some (.int .i64 (C.room : Int)) := by rw [hb0.cell (p := ⟨b, 10, none⟩) hbw]; exact c10
      have d11 : u1.cell? ⟨b, 11, none⟩ = some (.slice aK S.kept.length cK) := by rw [hb0.cell (p := ⟨b, 11, none⟩) hbw]; exact c11
      have d12 : u1.cell? ⟨b, 12, none⟩ = some (.int .i64 (S.most : Int)) := by rw [hb0.cell (p := ⟨b, 12, none⟩) hbw]; exact c12
      have lb := Nat.lt_of_lt_of_le hbw hb0.size
      have lf := blk_lt hfa
      go_quiet (fail)
      have hb1 : Below w.heap.size w (u1.drewN nq) := below_drewN hb0 nq
      have hfa1 : (u1.drewN nq).heap[w.heap.size]? = some (.cells #[.int .i64 (fk : Int), .int .i64 (fs : Int)] 68 (0, 0)) := by rw [World.heap_drewN]; exact hfa
      generalize u1.drewN nq = u2 at *
      clear hb0 hfa d10 d11 d12 lb lf
      have hS2 := hS.later hb1
      have d10 : u2.cell? ⟨b, 10, none⟩ = some (.int .i64 (C.room : Int)) := by rw [hb1.cell (p := ⟨b, 10, none⟩) hbw]; exact c10
      have d11 : u2.cell? ⟨b, 11, none⟩ = some (.slice aK S.kept.length cK) := by rw [hb1.cell (p := ⟨b, 11, none⟩) hbw]; exact c11
      have d12 : u2.cell? ⟨b, 12, none⟩ = some (.int .i64 (S.most : Int)) := by rw [hb1.cell (p := ⟨b, 12, none⟩) hbw]; exact c12
      have y11 := blk_free hS2.fb 11
      have y12 := blk_free hS2.fb 12
      have lb := Nat.lt_of_lt_of_le hbw hb1.size
      have lf := blk_lt hfa1
      have f0 : u2.cell? ⟨w.heap.size, 0, none⟩ = some (.int .i64 (fk : Int)) := by rw [blk_cell hfa1]; rfl
      have f1 : u2.cell? ⟨w.heap.size, 1, none⟩ = some (.int .i64 (fs : Int)) := by rw [blk_cell hfa1]; rfl
      go_wp2_with fail
      have HST : Hid (S.store C.room (fk, fs) = storeM' S (fk, fs)) := hide (store_room _ _ _ hr hfull)
      have hMx : SMoved b w u2 V V := SMoved.of_below hb1
      have hSx := hS2
      have hfx := hfa1
      have hVX := hKf
      generalize u2 = ux at *
      clear d10 d11 d12 y11 y12 f0 f1 hS2 hfa1 hb1 lb lf
      have lbx := blk_lt hSx.fb
      have e10 : ux.cell? ⟨b, 10, none⟩ = some (.int .i64 (C.room : Int)) := by rw [blk_cell hSx.fb]; rfl
      have e11 : ux.cell? ⟨b, 11, none⟩ = some (.slice (aK) (S.kept.length) (cK)) := by rw [blk_cell hSx.fb]; exact congrArg some hVX
      have e12 : ux.cell? ⟨b, 12, none⟩ = some (.int .i64 (S.most : Int)) := by rw [blk_cell hSx.fb]; rfl
      have y11 := blk_free hSx.fb 11
      have g0 : ux.cell? ⟨w.heap.size, 0, none⟩ = some (.int .i64 (fk : Int)) := by rw [blk_cell hfx]; rfl
      have g1 : ux.cell? ⟨w.heap.size, 1, none⟩ = some (.int .i64 (fs : Int)) := by rw [blk_cell hfx]; rfl
      have lfx := blk_lt hfx
      have hrowx : RowAt ux 68 2 (.slice (aK) (S.kept.length) (cK)) (S.kept.length) (pairs (S : SS).kept) := by have h := hSx.oK; rw [hVX] at h; exact h
      have hbz : Below ux.heap.size ux ((ux.alloc (.cells #[.int .i64 (fk : Int), .int .i64 (fs : Int)] 68)).drew) := ((Below.refl _ ux).alloc (Nat.le_refl _) _).drew
      go_region_law (refine step_append_row2 rfl (.tmp 31) (.tmp 33) 61 rfl 68 i1 (.agg #[.int .i64 0, .int .i64 0]) 16 Tryd.underlying61 hi1 hz10 hz11 hz12 rfl (.slice (aK) (S.kept.length) (cK)) (S.kept.length) (pairs (S : SS).kept) (hrowx.keep (Only.of_below (T := fun _ => False) hbz) (fun _ _ h => h)) rfl ⟨ux.heap.size, 0, none⟩ 1 (.int .i64 (fk : Int)) (.int .i64 (fs : Int)) rfl (new_cells ux [.int .i64 (fk : Int), .int .i64 (fs : Int)] 68 0 _ rfl) (new_cells ux [.int .i64 (fk : Int), .int .i64 (fs : Int)] 68 1 _ rfl) rfl rfl (by omega) (by omega) ?_; intro v' w' hrow' honly' hmv'; have hS4 := SAt.grownK (f := (fk, fs)) hSx hVX rfl hbz hrow' honly' hmv'; obtain ⟨a4, c4, hv4⟩ := hrow'.form; subst hv4; have j11 : w'.cell? ⟨b, 11, none⟩ = some (.slice (aK) (S.kept.length) (cK)) := (by rw [blk_cell hS4.1]; exact congrArg some hVX); have j12 : w'.cell? ⟨b, 12, none⟩ = some (.int .i64 (S.most : Int)) := (by rw [blk_cell hS4.1]; rfl); have x11 := blk_free hS4.1 11; have x12 := blk_free hS4.1 12; have lb4 := blk_lt hS4.1)
      all_goals
        obtain ⟨hfb4, hS5, hM5⟩ := hS4
        have hM6 := hMx.trans hM5
        clear hM5 hmv' honly' hrow'
        have k11 : (w'.setCell ⟨b, 11, none⟩ (.slice a4 (S.kept.length + 1) c4)).cell? ⟨b, 11, none⟩ = some (.slice a4 (S.kept.length + 1) c4) := by rw [blk_cell (blk_set hfb4 11 _)]; rfl
        have k12 : (w'.setCell ⟨b, 11, none⟩ (.slice a4 (S.kept.length + 1) c4)).cell? ⟨b, 12, none⟩ = some (.int .i64 (S.most : Int)) := by rw [blk_cell (blk_set hfb4 11 _)]; rfl
        have r11 := blk_free (blk_set hfb4 11 (.slice a4 (S.kept.length + 1) c4)) 11
        have r12 := blk_free (blk_set hfb4 11 (.slice a4 (S.kept.length + 1) c4)) 12
        have lb5 : b < (w'.setCell ⟨b, 11, none⟩ (.slice a4 (S.kept.length + 1) c4)).heap.size := blk_lt (blk_set hfb4 11 _)
        go_wp2_with fail
        generalize w'.setCell ⟨b, 11, none⟩ (.slice a4 (S.kept.length + 1) c4) = u5 at *
        go_quiet (fail)
        have hb6 : Below u5.heap.size u5 (u5.drewN nq) := below_drewN (Below.refl _ _) nq
        have hS6 := hS5.later hb6
        have hM7 := hM6.trans (SMoved.of_below hb6)
        have t11 : (u5.drewN nq).cell? ⟨b, 11, none⟩ = some (.slice a4 (S.kept.length + 1) c4) := by rw [hb6.cell (p := ⟨b, 11, none⟩) lb5]; exact k11
        have t12 : (u5.drewN nq).cell? ⟨b, 12, none⟩ = some (.int .i64 (S.most : Int)) := by rw [hb6.cell (p := ⟨b, 12, none⟩) lb5]; exact k12
        have s12 := blk_free hS6.fb 12
        have lb7 := blk_lt hS6.fb
        generalize u5.drewN nq = u6 at *
        clear k11 k12 r11 r12 lb5 hb6 hM6 hS5
        by_cases hgt : S.most < S.kept.length + 1
        · have hg1 : decide ((S.most : Int) < (S.kept.length : Int) + 1) = true := by simp; omega
          have hg2 : decide (S.most < S.kept.length + 1) = true := by simp; omega
          have HF : Hid (S.store C.room (fk, fs) = { ({ (S : SS) with kept := (S : SS).kept ++ [(fk, fs)] } : SS) with most := S.kept.length + 1 }) := hide (by rw [unhide HST]; unfold storeM'; rw [if_pos hgt])
          have hfin := hS6.setMost (S.kept.length + 1)
          go_wp2_with fail
          go_end0
          refine ⟨rfl, ?_⟩
          rw [unhide HF]
          exact ⟨_, by simpa using hfin, hM7.setB 12 _⟩
        · have hg1 : decide ((S.most : Int) < (S.kept.length : Int) + 1) = false := by simp; omega
          have hg2 : decide (S.most < S.kept.length + 1) = false := by simp; omega
          have HF : Hid (S.store C.room (fk, fs) = { (S : SS) with kept := (S : SS).kept ++ [(fk, fs)] }) := hide (by rw [unhide HST]; unfold storeM'; rw [if_neg hgt])
          go_wp2_with fail
          go_end0
          refine ⟨rfl, ?_⟩
          rw [unhide HF]
          exact ⟨_, hS6, hM7⟩
end Go.Proofs.YtgipjjhkhfihpabDoor
