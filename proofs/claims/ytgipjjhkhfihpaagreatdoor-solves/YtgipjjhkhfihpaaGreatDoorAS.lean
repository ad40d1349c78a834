import Derived.Test.YtgipjjhkhfihpaaGreatDoorAP
import Derived.Test.YtgipjjhkhfihpaaGreatDoorAE
namespace Go.Proofs.YtgipjjhkhfihpaaGreatDoor
open Go.RowKit

/-! ### branch -/
set_option maxRecDepth 100000 in
set_option maxHeartbeats 6400000 in
theorem branch_zero : BranchSpec 0 := by
  intro b C S V path vals d w hC hI hS
  obtain ⟨p1, p2⟩ := path
  obtain ⟨v1, v2⟩ := vals
  obtain ⟨aV, cV, hVf⟩ := own_form hS.oV
  have hvl := hC.qg.qb.vl
  have hdm := hI.dm
  have HX : Hid (branchM C 0 (p1, p2) d (v1, v2) S = (S, (0, 0))) := hide rfl
  have hbw := blk_lt hS.fb
  have hd1 : decide ((C.q.vars.length : Int) ≤ (d : Int)) = true := decide_eq_true (by omega)
  have hd2 : decide (C.q.vars.length ≤ d) = true := decide_eq_true (by omega)
  have hbE : Below w.heap.size w (((w.alloc (.cells #[.int .i64 (p1 : Int), .int .i64 (p2 : Int)] 74)).alloc (.cells #[.int .i64 (v1 : Int), .int .i64 (v2 : Int)] 74)).alloc (.cells #[.int .i64 0, .int .i64 0] 129)) := (((Below.refl _ _).alloc (Nat.le_refl _) _).alloc (by simp; try omega) _).alloc (by simp; try omega) _
  have cb0 : (((w.alloc (.cells #[.int .i64 (p1 : Int), .int .i64 (p2 : Int)] 74)).alloc (.cells #[.int .i64 (v1 : Int), .int .i64 (v2 : Int)] 74)).alloc (.cells #[.int .i64 0, .int .i64 0] 129)).cell? ⟨b, 0, none⟩ = some (.slice aV C.q.vars.length cV) := by rw [hbE.cell (p := ⟨b, 0, none⟩) hbw]; rw [blk_cell hS.fb]; exact congrArg some hVf
  go_enter Tryz.func92, Tryz.ntmps92
  go_wp2_with fail
  generalize hw0 : (((w.alloc (.cells #[.int .i64 (p1 : Int), .int .i64 (p2 : Int)] 74)).alloc (.cells #[.int .i64 (v1 : Int), .int .i64 (v2 : Int)] 74)).alloc (.cells #[.int .i64 0, .int .i64 0] 129)) = u1
  have hb0 : Below w.heap.size w u1 := by rw [← hw0]; exact (((Below.refl _ _).alloc (Nat.le_refl _) _).alloc (by simp; try omega) _).alloc (by simp; try omega) _
  have hpa : u1.heap[w.heap.size]? = some (.cells #[.int .i64 (p1 : Int), .int .i64 (p2 : Int)] 74 (0, 0)) := by rw [← hw0, heap_alloc_old _ _ (by simp; try omega), heap_alloc_old _ _ (by simp; try omega)]; exact alloc_new_at (by simp)
  have npa : Far b V (w.heap.size) := hS.fresh (by omega)
  have hva : u1.heap[w.heap.size + 1]? = some (.cells #[.int .i64 (v1 : Int), .int .i64 (v2 : Int)] 74 (0, 0)) := by rw [← hw0, heap_alloc_old _ _ (by simp; try omega)]; exact alloc_new_at (by simp)
  have nva : Far b V (w.heap.size + 1) := hS.fresh (by omega)
  have hrs : u1.heap[w.heap.size + 2]? = some (.cells #[.int .i64 0, .int .i64 0] 129 (0, 0)) := by rw [← hw0]; exact alloc_new_at (by simp)
  have nrs : Far b V (w.heap.size + 2) := hS.fresh (by omega)
  clear hw0
  have hM : SMoved b w u1 V V := SMoved.of_below hb0
  replace hS := hS.later hb0
  have lb := blk_lt hS.fb
  have cpa0 : u1.cell? ⟨w.heap.size, 0, none⟩ = some (.int .i64 (p1 : Int)) := by rw [blk_cell hpa]; rfl
  have cpa1 : u1.cell? ⟨w.heap.size, 1, none⟩ = some (.int .i64 (p2 : Int)) := by rw [blk_cell hpa]; rfl
  have lpa := blk_lt hpa
  have cva0 : u1.cell? ⟨w.heap.size + 1, 0, none⟩ = some (.int .i64 (v1 : Int)) := by rw [blk_cell hva]; rfl
  have cva1 : u1.cell? ⟨w.heap.size + 1, 1, none⟩ = some (.int .i64 (v2 : Int)) := by rw [blk_cell hva]; rfl
  have lva := blk_lt hva
  have crs0 : u1.cell? ⟨w.heap.size + 2, 0, none⟩ = some (.int .i64 0) := by rw [blk_cell hrs]; rfl
  have crs1 : u1.cell? ⟨w.heap.size + 2, 1, none⟩ = some (.int .i64 0) := by rw [blk_cell hrs]; rfl
  have lrs := blk_lt hrs
  have j0 : u1.cell? ⟨w.heap.size + 1 + 1, 0, none⟩ = some (.int .i64 0) := crs0
  have j1 : u1.cell? ⟨w.heap.size + 1 + 1, 1, none⟩ = some (.int .i64 0) := crs1
  refine bodyPost_ret (v := FactV (0, 0)) (by simp [results, Tryz.results92, go_sem, j0, j1]) rfl ⟨by rw [unhide HX], ?_⟩
  rw [unhide HX]
  exact ⟨V, hS, hM⟩
set_option maxRecDepth 100000 in
set_option maxHeartbeats 6400000 in
theorem branch_succ (m : Nat) (hLk : LookSpec m) : BranchSpec (m + 1) := by
  intro b C S V path vals d w hC hI hS
  obtain ⟨p1, p2⟩ := path
  obtain ⟨v1, v2⟩ := vals
  obtain ⟨aV, cV, hVf⟩ := own_form hS.oV
  have hvl := hC.qg.qb.vl
  have hdm := hI.dm
  have hd : d < C.q.vars.length := by omega
  have hp : p1 < 512 ∧ p2 < 512 := hI.path.bd
  have hvb : v1 < 512 ∧ v2 < 512 := hI.vals
  have hvn := hC.qg.qb.names _ (List.getElem_mem hd)
  have hoV := hS.oV
  rw [hVf] at hoV
  have HBA : Hid (∀ x y : Int, (if hasLit (v1, v2) (-(C.q.vars[d].1 : Int)) then -(C.q.vars[d].1 : Int) else (C.q.vars[d].1 : Int)) = x → -x = y → _) := hide (fun x y hx hy => branchM_as C m d (p1, p2) (v1, v2) S C.q.vars[d].1 x y (by rw [getD_var _ _ hd]) hx hy)
  have HNR : Hid (∀ s, LookIn C m (d + 1) (withLit (p1, p2) (litI C.q.vars[d].1 s)) S) := hide (fun s => hI.near hC hd s)
  have HFA : Hid (∀ s t, LookIn C m (d + 1) (withLit (p1, p2) (litI C.q.vars[d].1 t)) (lookM C m (withLit (p1, p2) (litI C.q.vars[d].1 s)) (d + 1) S).1) := hide (fun s t => hI.far hC hd s t)
  obtain ⟨g, cap, hVe, hg, hg', _, hcell⟩ := own_pos hoV (by omega)
  injection hVe with hVe _ hV2
  subst hVe hV2
  obtain ⟨ha, _⟩ := varCells_at C.q.vars d hd
  have hx := hcell _ _ ha
  clear hcell ha
  obtain ⟨vn, hvne⟩ : ∃ X, X = C.q.vars[d].1 := ⟨_, rfl⟩
  rw [← hvne] at hvn HBA HNR HFA hx
  clear hvne
  have hbw := blk_lt hS.fb
  have hd1 : decide ((C.q.vars.length : Int) ≤ (d : Int)) = false := decide_eq_false (by omega)
  have hd2 : decide (C.q.vars.length ≤ d) = false := decide_eq_false (by omega)
  have hd3 : decide ((d : Int) < (C.q.vars.length : Int)) = true := decide_eq_true (by omega)
  have hd4 : decide (d < C.q.vars.length) = true := decide_eq_true (by omega)
  have hbE : Below w.heap.size w (((w.alloc (.cells #[.int .i64 (p1 : Int), .int .i64 (p2 : Int)] 74)).alloc (.cells #[.int .i64 (v1 : Int), .int .i64 (v2 : Int)] 74)).alloc (.cells #[.int .i64 0, .int .i64 0] 129)) := (((Below.refl _ _).alloc (Nat.le_refl _) _).alloc (by simp; try omega) _).alloc (by simp; try omega) _
  have cb0 : (((w.alloc (.cells #[.int .i64 (p1 : Int), .int .i64 (p2 : Int)] 74)).alloc (.cells #[.int .i64 (v1 : Int), .int .i64 (v2 : Int)] 74)).alloc (.cells #[.int .i64 0, .int .i64 0] 129)).cell? ⟨b, 0, none⟩ = some (.slice (some ⟨g, 0, none⟩) C.q.vars.length cV) := by rw [hbE.cell (p := ⟨b, 0, none⟩) hbw]; rw [blk_cell hS.fb]; exact congrArg some hVf
  have cg0 : (((w.alloc (.cells #[.int .i64 (p1 : Int), .int .i64 (p2 : Int)] 74)).alloc (.cells #[.int .i64 (v1 : Int), .int .i64 (v2 : Int)] 74)).alloc (.cells #[.int .i64 0, .int .i64 0] 129)).cell? ⟨g, d * 2, none⟩ = some (.int .i64 (vn : Int)) := by rw [hbE.cell (p := ⟨g, d * 2, none⟩) hg']; exact hx
  have hge : g < w.heap.size + 1 + 1 + 1 := by omega
  go_enter Tryz.func92, Tryz.ntmps92
  go_wp2_with fail
  generalize hw0 : (((w.alloc (.cells #[.int .i64 (p1 : Int), .int .i64 (p2 : Int)] 74)).alloc (.cells #[.int .i64 (v1 : Int), .int .i64 (v2 : Int)] 74)).alloc (.cells #[.int .i64 0, .int .i64 0] 129)) = u1
  have hb0 : Below w.heap.size w u1 := by rw [← hw0]; exact (((Below.refl _ _).alloc (Nat.le_refl _) _).alloc (by simp; try omega) _).alloc (by simp; try omega) _
  have hpa : u1.heap[w.heap.size]? = some (.cells #[.int .i64 (p1 : Int), .int .i64 (p2 : Int)] 74 (0, 0)) := by rw [← hw0, heap_alloc_old _ _ (by simp; try omega), heap_alloc_old _ _ (by simp; try omega)]; exact alloc_new_at (by simp)
  have npa : Far b V (w.heap.size) := hS.fresh (by omega)
  have hva : u1.heap[w.heap.size + 1]? = some (.cells #[.int .i64 (v1 : Int), .int .i64 (v2 : Int)] 74 (0, 0)) := by rw [← hw0, heap_alloc_old _ _ (by simp; try omega)]; exact alloc_new_at (by simp)
  have nva : Far b V (w.heap.size + 1) := hS.fresh (by omega)
  have hrs : u1.heap[w.heap.size + 2]? = some (.cells #[.int .i64 0, .int .i64 0] 129 (0, 0)) := by rw [← hw0]; exact alloc_new_at (by simp)
  have nrs : Far b V (w.heap.size + 2) := hS.fresh (by omega)
  clear hw0
  have hM : SMoved b w u1 V V := SMoved.of_below hb0
  replace hS := hS.later hb0
  have lb := blk_lt hS.fb
  have cpa0 : u1.cell? ⟨w.heap.size, 0, none⟩ = some (.int .i64 (p1 : Int)) := by rw [blk_cell hpa]; rfl
  have cpa1 : u1.cell? ⟨w.heap.size, 1, none⟩ = some (.int .i64 (p2 : Int)) := by rw [blk_cell hpa]; rfl
  have lpa := blk_lt hpa
  have cva0 : u1.cell? ⟨w.heap.size + 1, 0, none⟩ = some (.int .i64 (v1 : Int)) := by rw [blk_cell hva]; rfl
  have cva1 : u1.cell? ⟨w.heap.size + 1, 1, none⟩ = some (.int .i64 (v2 : Int)) := by rw [blk_cell hva]; rfl
  have lva := blk_lt hva
  have crs0 : u1.cell? ⟨w.heap.size + 2, 0, none⟩ = some (.int .i64 0) := by rw [blk_cell hrs]; rfl
  have crs1 : u1.cell? ⟨w.heap.size + 2, 1, none⟩ = some (.int .i64 0) := by rw [blk_cell hrs]; rfl
  have lrs := blk_lt hrs
  clear hd1 hd2 hd3 hd4
  refine (has_any v1 v2 (-(vn : Int)) _ hvb.1 hvb.2 (by omega) (by omega)).mono ?_
  rintro e u2 ⟨rfl, b2⟩
  replace hM := hM.trans (SMoved.of_below b2)
  replace hS := hS.later b2
  replace lb := blk_lt hS.fb
  replace hpa := (b2.block _ (blk_lt hpa)).trans hpa
  replace cpa0 : u2.cell? ⟨w.heap.size, 0, none⟩ = some (.int .i64 (p1 : Int)) := by rw [blk_cell hpa]; rfl
  replace cpa1 : u2.cell? ⟨w.heap.size, 1, none⟩ = some (.int .i64 (p2 : Int)) := by rw [blk_cell hpa]; rfl
  replace lpa := blk_lt hpa
  replace hva := (b2.block _ (blk_lt hva)).trans hva
  replace cva0 : u2.cell? ⟨w.heap.size + 1, 0, none⟩ = some (.int .i64 (v1 : Int)) := by rw [blk_cell hva]; rfl
  replace cva1 : u2.cell? ⟨w.heap.size + 1, 1, none⟩ = some (.int .i64 (v2 : Int)) := by rw [blk_cell hva]; rfl
  replace lva := blk_lt hva
  replace hrs := (b2.block _ (blk_lt hrs)).trans hrs
  replace crs0 : u2.cell? ⟨w.heap.size + 2, 0, none⟩ = some (.int .i64 0) := by rw [blk_cell hrs]; rfl
  replace crs1 : u2.cell? ⟨w.heap.size + 2, 1, none⟩ = some (.int .i64 0) := by rw [blk_cell hrs]; rfl
  replace lrs := blk_lt hrs
  clear cb0 hx cg0 hbE hge
  cases hhl : hasLit (v1, v2) (-(vn : Int)) with
  | true =>
    have HB2 := hide (unhide HBA (-(vn : Int)) (vn : Int) (by rw [hhl]; rfl) (by omega))
    have hLN : LookIn C m (d + 1) (withLit (p1, p2) (-(vn : Int))) S := unhide HNR false
    have hLF : LookIn C m (d + 1) (withLit (p1, p2) (vn : Int)) (lookM C m (withLit (p1, p2) (-(vn : Int))) (d + 1) S).1 := unhide HFA false true
    clear HBA HNR HFA hhl
    go_wp2_with fail
    refine (with_any p1 p2 (-(vn : Int)) _ hp.1 hp.2 (by omega) (by omega)).mono ?_
    rintro e u3 ⟨rfl, b3⟩
    replace hM := hM.trans (SMoved.of_below b3)
    replace hS := hS.later b3
    replace lb := blk_lt hS.fb
    replace hpa := (b3.block _ (blk_lt hpa)).trans hpa
    replace cpa0 : u3.cell? ⟨w.heap.size, 0, none⟩ = some (.int .i64 (p1 : Int)) := by rw [blk_cell hpa]; rfl
    replace cpa1 : u3.cell? ⟨w.heap.size, 1, none⟩ = some (.int .i64 (p2 : Int)) := by rw [blk_cell hpa]; rfl
    replace lpa := blk_lt hpa
    replace hva := (b3.block _ (blk_lt hva)).trans hva
    replace cva0 : u3.cell? ⟨w.heap.size + 1, 0, none⟩ = some (.int .i64 (v1 : Int)) := by rw [blk_cell hva]; rfl
    replace cva1 : u3.cell? ⟨w.heap.size + 1, 1, none⟩ = some (.int .i64 (v2 : Int)) := by rw [blk_cell hva]; rfl
    replace lva := blk_lt hva
    replace hrs := (b3.block _ (blk_lt hrs)).trans hrs
    replace crs0 : u3.cell? ⟨w.heap.size + 2, 0, none⟩ = some (.int .i64 0) := by rw [blk_cell hrs]; rfl
    replace crs1 : u3.cell? ⟨w.heap.size + 2, 1, none⟩ = some (.int .i64 0) := by rw [blk_cell hrs]; rfl
    replace lrs := blk_lt hrs
    have hw9 : (withLit (p1, p2) (-(vn : Int))).1 < 512 ∧ (withLit (p1, p2) (-(vn : Int))).2 < 512 := withLit_lt (p1, p2) (-(vn : Int)) hp.1 hp.2
    generalize withLit (p1, p2) (-(vn : Int)) = nr at *
    obtain ⟨n1, n2⟩ := nr
    dsimp only at hw9 ⊢
    go_wp2_with fail
    have nnr : Far b V u3.heap.size := hS.fresh (Nat.le_refl _)
    generalize hw0 : u3.alloc (.cells #[.int .i64 (n1 : Int), .int .i64 (n2 : Int)] 74) = u4
    have b4 : Below u3.heap.size u3 u4 := by rw [← hw0]; exact (Below.refl _ _).alloc (Nat.le_refl _) _
    have hnr : u4.heap[u3.heap.size]? = some (.cells #[.int .i64 (n1 : Int), .int .i64 (n2 : Int)] 74 (0, 0)) := by rw [← hw0]; exact heap_alloc_new _ _
    clear hw0
    replace hM := hM.trans (SMoved.of_below b4)
    replace hS := hS.later b4
    replace lb := blk_lt hS.fb
    replace hpa := (b4.block _ (blk_lt hpa)).trans hpa
    replace cpa0 : u4.cell? ⟨w.heap.size, 0, none⟩ = some (.int .i64 (p1 : Int)) := by rw [blk_cell hpa]; rfl
    replace cpa1 : u4.cell? ⟨w.heap.size, 1, none⟩ = some (.int .i64 (p2 : Int)) := by rw [blk_cell hpa]; rfl
    replace lpa := blk_lt hpa
    replace hva := (b4.block _ (blk_lt hva)).trans hva
    replace cva0 : u4.cell? ⟨w.heap.size + 1, 0, none⟩ = some (.int .i64 (v1 : Int)) := by rw [blk_cell hva]; rfl
    replace cva1 : u4.cell? ⟨w.heap.size + 1, 1, none⟩ = some (.int .i64 (v2 : Int)) := by rw [blk_cell hva]; rfl
    replace lva := blk_lt hva
    replace hrs := (b4.block _ (blk_lt hrs)).trans hrs
    replace crs0 : u4.cell? ⟨w.heap.size + 2, 0, none⟩ = some (.int .i64 0) := by rw [blk_cell hrs]; rfl
    replace crs1 : u4.cell? ⟨w.heap.size + 2, 1, none⟩ = some (.int .i64 0) := by rw [blk_cell hrs]; rfl
    replace lrs := blk_lt hrs
    have cnr0 : u4.cell? ⟨u3.heap.size, 0, none⟩ = some (.int .i64 (n1 : Int)) := by rw [blk_cell hnr]; rfl
    have cnr1 : u4.cell? ⟨u3.heap.size, 1, none⟩ = some (.int .i64 (n2 : Int)) := by rw [blk_cell hnr]; rfl
    have lnr := blk_lt hnr
    have hlo := hLN.out hC
    have hkk := hLN.lk hC
    refine (hLk.next b C S V (n1, n2) d _ hC hLN hS).mono ?_
    rintro e u5 ⟨rfl, V2, hS2, hM2⟩
    replace hpa := hM2.blk hpa npa
    replace npa := hM2.far lpa npa
    replace hva := hM2.blk hva nva
    replace nva := hM2.far lva nva
    replace hrs := hM2.blk hrs nrs
    replace nrs := hM2.far lrs nrs
    replace hnr := hM2.blk hnr nnr
    replace nnr := hM2.far lnr nnr
    replace hM := hM.trans hM2
    replace hS := hS2
    clear hM2
    replace lb := blk_lt hS.fb
    replace cpa0 : u5.cell? ⟨w.heap.size, 0, none⟩ = some (.int .i64 (p1 : Int)) := by rw [blk_cell hpa]; rfl
    replace cpa1 : u5.cell? ⟨w.heap.size, 1, none⟩ = some (.int .i64 (p2 : Int)) := by rw [blk_cell hpa]; rfl
    replace lpa := blk_lt hpa
    replace cva0 : u5.cell? ⟨w.heap.size + 1, 0, none⟩ = some (.int .i64 (v1 : Int)) := by rw [blk_cell hva]; rfl
    replace cva1 : u5.cell? ⟨w.heap.size + 1, 1, none⟩ = some (.int .i64 (v2 : Int)) := by rw [blk_cell hva]; rfl
    replace lva := blk_lt hva
    replace crs0 : u5.cell? ⟨w.heap.size + 2, 0, none⟩ = some (.int .i64 0) := by rw [blk_cell hrs]; rfl
    replace crs1 : u5.cell? ⟨w.heap.size + 2, 1, none⟩ = some (.int .i64 0) := by rw [blk_cell hrs]; rfl
    replace lrs := blk_lt hrs
    replace cnr0 : u5.cell? ⟨u3.heap.size, 0, none⟩ = some (.int .i64 (n1 : Int)) := by rw [blk_cell hnr]; rfl
    replace cnr1 : u5.cell? ⟨u3.heap.size, 1, none⟩ = some (.int .i64 (n2 : Int)) := by rw [blk_cell hnr]; rfl
    replace lnr := blk_lt hnr
    clear hLN
    generalize lookM C m (n1, n2) (d + 1) S = R at *
    obtain ⟨S2, f1, f2⟩ := R
    dsimp only at hS hlo hkk hLF HB2 ⊢
    have hB2 := hlo.bd hC
    go_wp2_with fail
    have nfi : Far b V2 u5.heap.size := hS.fresh (Nat.le_refl _)
    generalize hw0 : u5.alloc (.cells #[.int .i64 (f1 : Int), .int .i64 (f2 : Int)] 129) = u6
    have b6 : Below u5.heap.size u5 u6 := by rw [← hw0]; exact (Below.refl _ _).alloc (Nat.le_refl _) _
    have hfi : u6.heap[u5.heap.size]? = some (.cells #[.int .i64 (f1 : Int), .int .i64 (f2 : Int)] 129 (0, 0)) := by rw [← hw0]; exact heap_alloc_new _ _
    clear hw0
    replace hM := hM.trans (SMoved.of_below b6)
    replace hS := hS.later b6
    replace lb := blk_lt hS.fb
    replace hpa := (b6.block _ (blk_lt hpa)).trans hpa
    replace cpa0 : u6.cell? ⟨w.heap.size, 0, none⟩ = some (.int .i64 (p1 : Int)) := by rw [blk_cell hpa]; rfl
    replace cpa1 : u6.cell? ⟨w.heap.size, 1, none⟩ = some (.int .i64 (p2 : Int)) := by rw [blk_cell hpa]; rfl
    replace lpa := blk_lt hpa
    replace hva := (b6.block _ (blk_lt hva)).trans hva
    replace cva0 : u6.cell? ⟨w.heap.size + 1, 0, none⟩ = some (.int .i64 (v1 : Int)) := by rw [blk_cell hva]; rfl
    replace cva1 : u6.cell? ⟨w.heap.size + 1, 1, none⟩ = some (.int .i64 (v2 : Int)) := by rw [blk_cell hva]; rfl
    replace lva := blk_lt hva
    replace hrs := (b6.block _ (blk_lt hrs)).trans hrs
    replace crs0 : u6.cell? ⟨w.heap.size + 2, 0, none⟩ = some (.int .i64 0) := by rw [blk_cell hrs]; rfl
    replace crs1 : u6.cell? ⟨w.heap.size + 2, 1, none⟩ = some (.int .i64 0) := by rw [blk_cell hrs]; rfl
    replace lrs := blk_lt hrs
    replace hnr := (b6.block _ (blk_lt hnr)).trans hnr
    replace cnr0 : u6.cell? ⟨u3.heap.size, 0, none⟩ = some (.int .i64 (n1 : Int)) := by rw [blk_cell hnr]; rfl
    replace cnr1 : u6.cell? ⟨u3.heap.size, 1, none⟩ = some (.int .i64 (n2 : Int)) := by rw [blk_cell hnr]; rfl
    replace lnr := blk_lt hnr
    have cfi0 : u6.cell? ⟨u5.heap.size, 0, none⟩ = some (.int .i64 (f1 : Int)) := by rw [blk_cell hfi]; rfl
    have cfi1 : u6.cell? ⟨u5.heap.size, 1, none⟩ = some (.int .i64 (f2 : Int)) := by rw [blk_cell hfi]; rfl
    have lfi := blk_lt hfi
    refine (shas_any b C S2 V2 (f1, f2) vn _ hS hB2).mono ?_
    rintro e u7 ⟨rfl, b7⟩
    replace hM := hM.trans (SMoved.of_below b7)
    replace hS := hS.later b7
    replace lb := blk_lt hS.fb
    replace hpa := (b7.block _ (blk_lt hpa)).trans hpa
    replace cpa0 : u7.cell? ⟨w.heap.size, 0, none⟩ = some (.int .i64 (p1 : Int)) := by rw [blk_cell hpa]; rfl
    replace cpa1 : u7.cell? ⟨w.heap.size, 1, none⟩ = some (.int .i64 (p2 : Int)) := by rw [blk_cell hpa]; rfl
    replace lpa := blk_lt hpa
    replace hva := (b7.block _ (blk_lt hva)).trans hva
    replace cva0 : u7.cell? ⟨w.heap.size + 1, 0, none⟩ = some (.int .i64 (v1 : Int)) := by rw [blk_cell hva]; rfl
    replace cva1 : u7.cell? ⟨w.heap.size + 1, 1, none⟩ = some (.int .i64 (v2 : Int)) := by rw [blk_cell hva]; rfl
    replace lva := blk_lt hva
    replace hrs := (b7.block _ (blk_lt hrs)).trans hrs
    replace crs0 : u7.cell? ⟨w.heap.size + 2, 0, none⟩ = some (.int .i64 0) := by rw [blk_cell hrs]; rfl
    replace crs1 : u7.cell? ⟨w.heap.size + 2, 1, none⟩ = some (.int .i64 0) := by rw [blk_cell hrs]; rfl
    replace lrs := blk_lt hrs
    replace hnr := (b7.block _ (blk_lt hnr)).trans hnr
    replace cnr0 : u7.cell? ⟨u3.heap.size, 0, none⟩ = some (.int .i64 (n1 : Int)) := by rw [blk_cell hnr]; rfl
    replace cnr1 : u7.cell? ⟨u3.heap.size, 1, none⟩ = some (.int .i64 (n2 : Int)) := by rw [blk_cell hnr]; rfl
    replace lnr := blk_lt hnr
    replace hfi := (b7.block _ (blk_lt hfi)).trans hfi
    replace cfi0 : u7.cell? ⟨u5.heap.size, 0, none⟩ = some (.int .i64 (f1 : Int)) := by rw [blk_cell hfi]; rfl
    replace cfi1 : u7.cell? ⟨u5.heap.size, 1, none⟩ = some (.int .i64 (f2 : Int)) := by rw [blk_cell hfi]; rfl
    replace lfi := blk_lt hfi
    cases hh1 : hasVarB (S2.lits (f1, f2)) vn with
    | false =>
      have HX : Hid (branchM C (m + 1) (p1, p2) d (v1, v2) S = (S2, (f1, f2))) := hide (by rw [unhide HB2, hh1]; rfl)
      clear hh1
      have z0 := blk_free hrs 0
      have z1 := blk_free hrs 1
      have hR := blk_set (blk_set hrs 0 (.int .i64 (f1 : Int))) 1 (.int .i64 (f2 : Int))
      have j0 := blk_cell hR 0
      have j1 := blk_cell hR 1
      go_wp2_with fail
      refine bodyPost_ret (v := FactV (f1, f2)) (by simp [results, Tryz.results92, go_sem, j0, j1]) rfl ⟨by rw [unhide HX], ?_⟩
      rw [unhide HX]
      exact ⟨_, (hS.set nrs 0 _).set nrs 1 _, (hM.set (k := w.heap.size + 2) (by omega) 0 _).set (k := w.heap.size + 2) (by omega) 1 _⟩
    | true =>
      have hki := hkk.kind hh1
      have HB3 := hide ((unhide HB2).trans (if_pos hh1))
      clear hh1 HB2 hkk
      go_wp2_with fail
      refine (with_any p1 p2 (vn : Int) _ hp.1 hp.2 (by omega) (by omega)).mono ?_
      rintro e u8 ⟨rfl, b8⟩
      replace hM := hM.trans (SMoved.of_below b8)
      replace hS := hS.later b8
      replace lb := blk_lt hS.fb
      replace hpa := (b8.block _ (blk_lt hpa)).trans hpa
      replace cpa0 : u8.cell? ⟨w.heap.size, 0, none⟩ = some (.int .i64 (p1 : Int)) := by rw [blk_cell hpa]; rfl
      replace cpa1 : u8.cell? ⟨w.heap.size, 1, none⟩ = some (.int .i64 (p2 : Int)) := by rw [blk_cell hpa]; rfl
      replace lpa := blk_lt hpa
      replace hva := (b8.block _ (blk_lt hva)).trans hva
      replace cva0 : u8.cell? ⟨w.heap.size + 1, 0, none⟩ = some (.int .i64 (v1 : Int)) := by rw [blk_cell hva]; rfl
      replace cva1 : u8.cell? ⟨w.heap.size + 1, 1, none⟩ = some (.int .i64 (v2 : Int)) := by rw [blk_cell hva]; rfl
      replace lva := blk_lt hva
      replace hrs := (b8.block _ (blk_lt hrs)).trans hrs
      replace crs0 : u8.cell? ⟨w.heap.size + 2, 0, none⟩ = some (.int .i64 0) := by rw [blk_cell hrs]; rfl
      replace crs1 : u8.cell? ⟨w.heap.size + 2, 1, none⟩ = some (.int .i64 0) := by rw [blk_cell hrs]; rfl
      replace lrs := blk_lt hrs
      replace hnr := (b8.block _ (blk_lt hnr)).trans hnr
      replace cnr0 : u8.cell? ⟨u3.heap.size, 0, none⟩ = some (.int .i64 (n1 : Int)) := by rw [blk_cell hnr]; rfl
      replace cnr1 : u8.cell? ⟨u3.heap.size, 1, none⟩ = some (.int .i64 (n2 : Int)) := by rw [blk_cell hnr]; rfl
      replace lnr := blk_lt hnr
      replace hfi := (b8.block _ (blk_lt hfi)).trans hfi
      replace cfi0 : u8.cell? ⟨u5.heap.size, 0, none⟩ = some (.int .i64 (f1 : Int)) := by rw [blk_cell hfi]; rfl
      replace cfi1 : u8.cell? ⟨u5.heap.size, 1, none⟩ = some (.int .i64 (f2 : Int)) := by rw [blk_cell hfi]; rfl
      replace lfi := blk_lt hfi
      have hw9b : (withLit (p1, p2) (vn : Int)).1 < 512 ∧ (withLit (p1, p2) (vn : Int)).2 < 512 := withLit_lt (p1, p2) (vn : Int) hp.1 hp.2
      generalize withLit (p1, p2) (vn : Int) = fr at *
      obtain ⟨r1, r2⟩ := fr
      dsimp only at hw9b ⊢
      go_wp2_with fail
      have nfr : Far b V2 u8.heap.size := hS.fresh (Nat.le_refl _)
      generalize hw0 : u8.alloc (.cells #[.int .i64 (r1 : Int), .int .i64 (r2 : Int)] 74) = u9
      have b9 : Below u8.heap.size u8 u9 := by rw [← hw0]; exact (Below.refl _ _).alloc (Nat.le_refl _) _
      have hfr : u9.heap[u8.heap.size]? = some (.cells #[.int .i64 (r1 : Int), .int .i64 (r2 : Int)] 74 (0, 0)) := by rw [← hw0]; exact heap_alloc_new _ _
      clear hw0
      replace hM := hM.trans (SMoved.of_below b9)
      replace hS := hS.later b9
      replace lb := blk_lt hS.fb
      replace hpa := (b9.block _ (blk_lt hpa)).trans hpa
      replace cpa0 : u9.cell? ⟨w.heap.size, 0, none⟩ = some (.int .i64 (p1 : Int)) := by rw [blk_cell hpa]; rfl
      replace cpa1 : u9.cell? ⟨w.heap.size, 1, none⟩ = some (.int .i64 (p2 : Int)) := by rw [blk_cell hpa]; rfl
      replace lpa := blk_lt hpa
      replace hva := (b9.block _ (blk_lt hva)).trans hva
      replace cva0 : u9.cell? ⟨w.heap.size + 1, 0, none⟩ = some (.int .i64 (v1 : Int)) := by rw [blk_cell hva]; rfl
      replace cva1 : u9.cell? ⟨w.heap.size + 1, 1, none⟩ = some (.int .i64 (v2 : Int)) := by rw [blk_cell hva]; rfl
      replace lva := blk_lt hva
      replace hrs := (b9.block _ (blk_lt hrs)).trans hrs
      replace crs0 : u9.cell? ⟨w.heap.size + 2, 0, none⟩ = some (.int .i64 0) := by rw [blk_cell hrs]; rfl
      replace crs1 : u9.cell? ⟨w.heap.size + 2, 1, none⟩ = some (.int .i64 0) := by rw [blk_cell hrs]; rfl
      replace lrs := blk_lt hrs
      replace hnr := (b9.block _ (blk_lt hnr)).trans hnr
      replace cnr0 : u9.cell? ⟨u3.heap.size, 0, none⟩ = some (.int .i64 (n1 : Int)) := by rw [blk_cell hnr]; rfl
      replace cnr1 : u9.cell? ⟨u3.heap.size, 1, none⟩ = some (.int .i64 (n2 : Int)) := by rw [blk_cell hnr]; rfl
      replace lnr := blk_lt hnr
      replace hfi := (b9.block _ (blk_lt hfi)).trans hfi
      replace cfi0 : u9.cell? ⟨u5.heap.size, 0, none⟩ = some (.int .i64 (f1 : Int)) := by rw [blk_cell hfi]; rfl
      replace cfi1 : u9.cell? ⟨u5.heap.size, 1, none⟩ = some (.int .i64 (f2 : Int)) := by rw [blk_cell hfi]; rfl
      replace lfi := blk_lt hfi
      have cfr0 : u9.cell? ⟨u8.heap.size, 0, none⟩ = some (.int .i64 (r1 : Int)) := by rw [blk_cell hfr]; rfl
      have cfr1 : u9.cell? ⟨u8.heap.size, 1, none⟩ = some (.int .i64 (r2 : Int)) := by rw [blk_cell hfr]; rfl
      have lfr := blk_lt hfr
      have hlo2 := hLF.out hC
      refine (hLk.next b C S2 V2 (r1, r2) d _ hC hLF hS).mono ?_
      rintro e u10 ⟨rfl, V3, hS2, hM2⟩
      replace hpa := hM2.blk hpa npa
      replace npa := hM2.far lpa npa
      replace hva := hM2.blk hva nva
      replace nva := hM2.far lva nva
      replace hrs := hM2.blk hrs nrs
      replace nrs := hM2.far lrs nrs
      replace hnr := hM2.blk hnr nnr
      replace nnr := hM2.far lnr nnr
      replace hfi := hM2.blk hfi nfi
      replace nfi := hM2.far lfi nfi
      replace hfr := hM2.blk hfr nfr
      replace nfr := hM2.far lfr nfr
      replace hM := hM.trans hM2
      replace hS := hS2
      clear hM2
      replace lb := blk_lt hS.fb
      replace cpa0 : u10.cell? ⟨w.heap.size, 0, none⟩ = some (.int .i64 (p1 : Int)) := by rw [blk_cell hpa]; rfl
      replace cpa1 : u10.cell? ⟨w.heap.size, 1, none⟩ = some (.int .i64 (p2 : Int)) := by rw [blk_cell hpa]; rfl
      replace lpa := blk_lt hpa
      replace cva0 : u10.cell? ⟨w.heap.size + 1, 0, none⟩ = some (.int .i64 (v1 : Int)) := by rw [blk_cell hva]; rfl
      replace cva1 : u10.cell? ⟨w.heap.size + 1, 1, none⟩ = some (.int .i64 (v2 : Int)) := by rw [blk_cell hva]; rfl
      replace lva := blk_lt hva
      replace crs0 : u10.cell? ⟨w.heap.size + 2, 0, none⟩ = some (.int .i64 0) := by rw [blk_cell hrs]; rfl
      replace crs1 : u10.cell? ⟨w.heap.size + 2, 1, none⟩ = some (.int .i64 0) := by rw [blk_cell hrs]; rfl
      replace lrs := blk_lt hrs
      replace cnr0 : u10.cell? ⟨u3.heap.size, 0, none⟩ = some (.int .i64 (n1 : Int)) := by rw [blk_cell hnr]; rfl
      replace cnr1 : u10.cell? ⟨u3.heap.size, 1, none⟩ = some (.int .i64 (n2 : Int)) := by rw [blk_cell hnr]; rfl
      replace lnr := blk_lt hnr
      replace cfi0 : u10.cell? ⟨u5.heap.size, 0, none⟩ = some (.int .i64 (f1 : Int)) := by rw [blk_cell hfi]; rfl
      replace cfi1 : u10.cell? ⟨u5.heap.size, 1, none⟩ = some (.int .i64 (f2 : Int)) := by rw [blk_cell hfi]; rfl
      replace lfi := blk_lt hfi
      replace cfr0 : u10.cell? ⟨u8.heap.size, 0, none⟩ = some (.int .i64 (r1 : Int)) := by rw [blk_cell hfr]; rfl
      replace cfr1 : u10.cell? ⟨u8.heap.size, 1, none⟩ = some (.int .i64 (r2 : Int)) := by rw [blk_cell hfr]; rfl
      replace lfr := blk_lt hfr
      clear hLF
      generalize lookM C m (r1, r2) (d + 1) S2 = R at *
      obtain ⟨S3, g1, g2⟩ := R
      dsimp only at hS hlo2 HB3 ⊢
      have hB3 := hlo2.bd hC
      go_wp2_with fail
      have nse : Far b V3 u10.heap.size := hS.fresh (Nat.le_refl _)
      generalize hw0 : u10.alloc (.cells #[.int .i64 (g1 : Int), .int .i64 (g2 : Int)] 129) = u11
      have b11 : Below u10.heap.size u10 u11 := by rw [← hw0]; exact (Below.refl _ _).alloc (Nat.le_refl _) _
      have hse : u11.heap[u10.heap.size]? = some (.cells #[.int .i64 (g1 : Int), .int .i64 (g2 : Int)] 129 (0, 0)) := by rw [← hw0]; exact heap_alloc_new _ _
      clear hw0
      replace hM := hM.trans (SMoved.of_below b11)
      replace hS := hS.later b11
      replace lb := blk_lt hS.fb
      replace hpa := (b11.block _ (blk_lt hpa)).trans hpa
      replace cpa0 : u11.cell? ⟨w.heap.size, 0, none⟩ = some (.int .i64 (p1 : Int)) := by rw [blk_cell hpa]; rfl
      replace cpa1 : u11.cell? ⟨w.heap.size, 1, none⟩ = some (.int .i64 (p2 : Int)) := by rw [blk_cell hpa]; rfl
      replace lpa := blk_lt hpa
      replace hva := (b11.block _ (blk_lt hva)).trans hva
      replace cva0 : u11.cell? ⟨w.heap.size + 1, 0, none⟩ = some (.int .i64 (v1 : Int)) := by rw [blk_cell hva]; rfl
      replace cva1 : u11.cell? ⟨w.heap.size + 1, 1, none⟩ = some (.int .i64 (v2 : Int)) := by rw [blk_cell hva]; rfl
      replace lva := blk_lt hva
      replace hrs := (b11.block _ (blk_lt hrs)).trans hrs
      replace crs0 : u11.cell? ⟨w.heap.size + 2, 0, none⟩ = some (.int .i64 0) := by rw [blk_cell hrs]; rfl
      replace crs1 : u11.cell? ⟨w.heap.size + 2, 1, none⟩ = some (.int .i64 0) := by rw [blk_cell hrs]; rfl
      replace lrs := blk_lt hrs
      replace hnr := (b11.block _ (blk_lt hnr)).trans hnr
      replace cnr0 : u11.cell? ⟨u3.heap.size, 0, none⟩ = some (.int .i64 (n1 : Int)) := by rw [blk_cell hnr]; rfl
      replace cnr1 : u11.cell? ⟨u3.heap.size, 1, none⟩ = some (.int .i64 (n2 : Int)) := by rw [blk_cell hnr]; rfl
      replace lnr := blk_lt hnr
      replace hfi := (b11.block _ (blk_lt hfi)).trans hfi
      replace cfi0 : u11.cell? ⟨u5.heap.size, 0, none⟩ = some (.int .i64 (f1 : Int)) := by rw [blk_cell hfi]; rfl
      replace cfi1 : u11.cell? ⟨u5.heap.size, 1, none⟩ = some (.int .i64 (f2 : Int)) := by rw [blk_cell hfi]; rfl
      replace lfi := blk_lt hfi
      replace hfr := (b11.block _ (blk_lt hfr)).trans hfr
      replace cfr0 : u11.cell? ⟨u8.heap.size, 0, none⟩ = some (.int .i64 (r1 : Int)) := by rw [blk_cell hfr]; rfl
      replace cfr1 : u11.cell? ⟨u8.heap.size, 1, none⟩ = some (.int .i64 (r2 : Int)) := by rw [blk_cell hfr]; rfl
      replace lfr := blk_lt hfr
      have cse0 : u11.cell? ⟨u10.heap.size, 0, none⟩ = some (.int .i64 (g1 : Int)) := by rw [blk_cell hse]; rfl
      have cse1 : u11.cell? ⟨u10.heap.size, 1, none⟩ = some (.int .i64 (g2 : Int)) := by rw [blk_cell hse]; rfl
      have lse := blk_lt hse
      refine (shas_any b C S3 V3 (g1, g2) vn _ hS hB3).mono ?_
      rintro e u12 ⟨rfl, b12⟩
      replace hM := hM.trans (SMoved.of_below b12)
      replace hS := hS.later b12
      replace lb := blk_lt hS.fb
      replace hpa := (b12.block _ (blk_lt hpa)).trans hpa
      replace cpa0 : u12.cell? ⟨w.heap.size, 0, none⟩ = some (.int .i64 (p1 : Int)) := by rw [blk_cell hpa]; rfl
      replace cpa1 : u12.cell? ⟨w.heap.size, 1, none⟩ = some (.int .i64 (p2 : Int)) := by rw [blk_cell hpa]; rfl
      replace lpa := blk_lt hpa
      replace hva := (b12.block _ (blk_lt hva)).trans hva
      replace cva0 : u12.cell? ⟨w.heap.size + 1, 0, none⟩ = some (.int .i64 (v1 : Int)) := by rw [blk_cell hva]; rfl
      replace cva1 : u12.cell? ⟨w.heap.size + 1, 1, none⟩ = some (.int .i64 (v2 : Int)) := by rw [blk_cell hva]; rfl
      replace lva := blk_lt hva
      replace hrs := (b12.block _ (blk_lt hrs)).trans hrs
      replace crs0 : u12.cell? ⟨w.heap.size + 2, 0, none⟩ = some (.int .i64 0) := by rw [blk_cell hrs]; rfl
      replace crs1 : u12.cell? ⟨w.heap.size + 2, 1, none⟩ = some (.int .i64 0) := by rw [blk_cell hrs]; rfl
      replace lrs := blk_lt hrs
      replace hnr := (b12.block _ (blk_lt hnr)).trans hnr
      replace cnr0 : u12.cell? ⟨u3.heap.size, 0, none⟩ = some (.int .i64 (n1 : Int)) := by rw [blk_cell hnr]; rfl
      replace cnr1 : u12.cell? ⟨u3.heap.size, 1, none⟩ = some (.int .i64 (n2 : Int)) := by rw [blk_cell hnr]; rfl
      replace lnr := blk_lt hnr
      replace hfi := (b12.block _ (blk_lt hfi)).trans hfi
      replace cfi0 : u12.cell? ⟨u5.heap.size, 0, none⟩ = some (.int .i64 (f1 : Int)) := by rw [blk_cell hfi]; rfl
      replace cfi1 : u12.cell? ⟨u5.heap.size, 1, none⟩ = some (.int .i64 (f2 : Int)) := by rw [blk_cell hfi]; rfl
      replace lfi := blk_lt hfi
      replace hfr := (b12.block _ (blk_lt hfr)).trans hfr
      replace cfr0 : u12.cell? ⟨u8.heap.size, 0, none⟩ = some (.int .i64 (r1 : Int)) := by rw [blk_cell hfr]; rfl
      replace cfr1 : u12.cell? ⟨u8.heap.size, 1, none⟩ = some (.int .i64 (r2 : Int)) := by rw [blk_cell hfr]; rfl
      replace lfr := blk_lt hfr
      replace hse := (b12.block _ (blk_lt hse)).trans hse
      replace cse0 : u12.cell? ⟨u10.heap.size, 0, none⟩ = some (.int .i64 (g1 : Int)) := by rw [blk_cell hse]; rfl
      replace cse1 : u12.cell? ⟨u10.heap.size, 1, none⟩ = some (.int .i64 (g2 : Int)) := by rw [blk_cell hse]; rfl
      replace lse := blk_lt hse
      cases hh2 : hasVarB (S3.lits (g1, g2)) vn with
      | false =>
        have HX : Hid (branchM C (m + 1) (p1, p2) d (v1, v2) S = (S3, (g1, g2))) := hide (by rw [unhide HB3, hh2]; rfl)
        clear hh2
        have z0 := blk_free hrs 0
        have z1 := blk_free hrs 1
        have hR := blk_set (blk_set hrs 0 (.int .i64 (g1 : Int))) 1 (.int .i64 (g2 : Int))
        have j0 := blk_cell hR 0
        have j1 := blk_cell hR 1
        go_wp2_with fail
        refine bodyPost_ret (v := FactV (g1, g2)) (by simp [results, Tryz.results92, go_sem, j0, j1]) rfl ⟨by rw [unhide HX], ?_⟩
        rw [unhide HX]
        exact ⟨_, (hS.set nrs 0 _).set nrs 1 _, (hM.set (k := w.heap.size + 2) (by omega) 0 _).set (k := w.heap.size + 2) (by omega) 1 _⟩
      | true =>
        have HX : Hid (branchM C (m + 1) (p1, p2) d (v1, v2) S = joinOf C S3 (f1, f2) (g1, g2) vn) := hide (by rw [unhide HB3, hh2]; rfl)
        clear hh2
        have hpl := hlo2.plen f1
        go_wp2_with fail
        refine (join_any b C S3 V3 (f1, f2) (g1, g2) vn _ hS hB3 hki hpl (by omega)).mono ?_
        rintro e u13 ⟨rfl, V4, hS2, hM2⟩
        replace hpa := hM2.blk hpa npa
        replace npa := hM2.far lpa npa
        replace hva := hM2.blk hva nva
        replace nva := hM2.far lva nva
        replace hrs := hM2.blk hrs nrs
        replace nrs := hM2.far lrs nrs
        replace hnr := hM2.blk hnr nnr
        replace nnr := hM2.far lnr nnr
        replace hfi := hM2.blk hfi nfi
        replace nfi := hM2.far lfi nfi
        replace hfr := hM2.blk hfr nfr
        replace nfr := hM2.far lfr nfr
        replace hse := hM2.blk hse nse
        replace nse := hM2.far lse nse
        replace hM := hM.trans hM2
        replace hS := hS2
        clear hM2
        replace lb := blk_lt hS.fb
        replace cpa0 : u13.cell? ⟨w.heap.size, 0, none⟩ = some (.int .i64 (p1 : Int)) := by rw [blk_cell hpa]; rfl
        replace cpa1 : u13.cell? ⟨w.heap.size, 1, none⟩ = some (.int .i64 (p2 : Int)) := by rw [blk_cell hpa]; rfl
        replace lpa := blk_lt hpa
        replace cva0 : u13.cell? ⟨w.heap.size + 1, 0, none⟩ = some (.int .i64 (v1 : Int)) := by rw [blk_cell hva]; rfl
        replace cva1 : u13.cell? ⟨w.heap.size + 1, 1, none⟩ = some (.int .i64 (v2 : Int)) := by rw [blk_cell hva]; rfl
        replace lva := blk_lt hva
        replace crs0 : u13.cell? ⟨w.heap.size + 2, 0, none⟩ = some (.int .i64 0) := by rw [blk_cell hrs]; rfl
        replace crs1 : u13.cell? ⟨w.heap.size + 2, 1, none⟩ = some (.int .i64 0) := by rw [blk_cell hrs]; rfl
        replace lrs := blk_lt hrs
        replace cnr0 : u13.cell? ⟨u3.heap.size, 0, none⟩ = some (.int .i64 (n1 : Int)) := by rw [blk_cell hnr]; rfl
        replace cnr1 : u13.cell? ⟨u3.heap.size, 1, none⟩ = some (.int .i64 (n2 : Int)) := by rw [blk_cell hnr]; rfl
        replace lnr := blk_lt hnr
        replace cfi0 : u13.cell? ⟨u5.heap.size, 0, none⟩ = some (.int .i64 (f1 : Int)) := by rw [blk_cell hfi]; rfl
        replace cfi1 : u13.cell? ⟨u5.heap.size, 1, none⟩ = some (.int .i64 (f2 : Int)) := by rw [blk_cell hfi]; rfl
        replace lfi := blk_lt hfi
        replace cfr0 : u13.cell? ⟨u8.heap.size, 0, none⟩ = some (.int .i64 (r1 : Int)) := by rw [blk_cell hfr]; rfl
        replace cfr1 : u13.cell? ⟨u8.heap.size, 1, none⟩ = some (.int .i64 (r2 : Int)) := by rw [blk_cell hfr]; rfl
        replace lfr := blk_lt hfr
        replace cse0 : u13.cell? ⟨u10.heap.size, 0, none⟩ = some (.int .i64 (g1 : Int)) := by rw [blk_cell hse]; rfl
        replace cse1 : u13.cell? ⟨u10.heap.size, 1, none⟩ = some (.int .i64 (g2 : Int)) := by rw [blk_cell hse]; rfl
        replace lse := blk_lt hse
        generalize joinOf C S3 (f1, f2) (g1, g2) vn = R at *
        obtain ⟨S4, j1', j2'⟩ := R
        dsimp only at hS HX ⊢
        have z0 := blk_free hrs 0
        have z1 := blk_free hrs 1
        have hR := blk_set (blk_set hrs 0 (.int .i64 (j1' : Int))) 1 (.int .i64 (j2' : Int))
        have j0 := blk_cell hR 0
        have j1 := blk_cell hR 1
        go_wp2_with fail
        refine bodyPost_ret (v := FactV (j1', j2')) (by simp [results, Tryz.results92, go_sem, j0, j1]) rfl ⟨by rw [unhide HX], ?_⟩
        rw [unhide HX]
        exact ⟨_, (hS.set nrs 0 _).set nrs 1 _, (hM.set (k := w.heap.size + 2) (by omega) 0 _).set (k := w.heap.size + 2) (by omega) 1 _⟩
  | false =>
    have HB2 := hide (unhide HBA (vn : Int) (-(vn : Int)) (by rw [hhl]; rfl) rfl)
    have hLN : LookIn C m (d + 1) (withLit (p1, p2) (vn : Int)) S := unhide HNR true
    have hLF : LookIn C m (d + 1) (withLit (p1, p2) (-(vn : Int))) (lookM C m (withLit (p1, p2) (vn : Int)) (d + 1) S).1 := unhide HFA true false
    clear HBA HNR HFA hhl
    go_wp2_with fail
    refine (with_any p1 p2 (vn : Int) _ hp.1 hp.2 (by omega) (by omega)).mono ?_
    rintro e u3 ⟨rfl, b3⟩
    replace hM := hM.trans (SMoved.of_below b3)
    replace hS := hS.later b3
    replace lb := blk_lt hS.fb
    replace hpa := (b3.block _ (blk_lt hpa)).trans hpa
    replace cpa0 : u3.cell? ⟨w.heap.size, 0, none⟩ = some (.int .i64 (p1 : Int)) := by rw [blk_cell hpa]; rfl
    replace cpa1 : u3.cell? ⟨w.heap.size, 1, none⟩ = some (.int .i64 (p2 : Int)) := by rw [blk_cell hpa]; rfl
    replace lpa := blk_lt hpa
    replace hva := (b3.block _ (blk_lt hva)).trans hva
    replace cva0 : u3.cell? ⟨w.heap.size + 1, 0, none⟩ = some (.int .i64 (v1 : Int)) := by rw [blk_cell hva]; rfl
    replace cva1 : u3.cell? ⟨w.heap.size + 1, 1, none⟩ = some (.int .i64 (v2 : Int)) := by rw [blk_cell hva]; rfl
    replace lva := blk_lt hva
    replace hrs := (b3.block _ (blk_lt hrs)).trans hrs
    replace crs0 : u3.cell? ⟨w.heap.size + 2, 0, none⟩ = some (.int .i64 0) := by rw [blk_cell hrs]; rfl
    replace crs1 : u3.cell? ⟨w.heap.size + 2, 1, none⟩ = some (.int .i64 0) := by rw [blk_cell hrs]; rfl
    replace lrs := blk_lt hrs
    have hw9 : (withLit (p1, p2) (vn : Int)).1 < 512 ∧ (withLit (p1, p2) (vn : Int)).2 < 512 := withLit_lt (p1, p2) (vn : Int) hp.1 hp.2
    generalize withLit (p1, p2) (vn : Int) = nr at *
    obtain ⟨n1, n2⟩ := nr
    dsimp only at hw9 ⊢
    go_wp2_with fail
    have nnr : Far b V u3.heap.size := hS.fresh (Nat.le_refl _)
    generalize hw0 : u3.alloc (.cells #[.int .i64 (n1 : Int), .int .i64 (n2 : Int)] 74) = u4
    have b4 : Below u3.heap.size u3 u4 := by rw [← hw0]; exact (Below.refl _ _).alloc (Nat.le_refl _) _
    have hnr : u4.heap[u3.heap.size]? = some (.cells #[.int .i64 (n1 : Int), .int .i64 (n2 : Int)] 74 (0, 0)) := by rw [← hw0]; exact heap_alloc_new _ _
    clear hw0
    replace hM := hM.trans (SMoved.of_below b4)
    replace hS := hS.later b4
    replace lb := blk_lt hS.fb
    replace hpa := (b4.block _ (blk_lt hpa)).trans hpa
    replace cpa0 : u4.cell? ⟨w.heap.size, 0, none⟩ = some (.int .i64 (p1 : Int)) := by rw [blk_cell hpa]; rfl
    replace cpa1 : u4.cell? ⟨w.heap.size, 1, none⟩ = some (.int .i64 (p2 : Int)) := by rw [blk_cell hpa]; rfl
    replace lpa := blk_lt hpa
    replace hva := (b4.block _ (blk_lt hva)).trans hva
    replace cva0 : u4.cell? ⟨w.heap.size + 1, 0, none⟩ = some (.int .i64 (v1 : Int)) := by rw [blk_cell hva]; rfl
    replace cva1 : u4.cell? ⟨w.heap.size + 1, 1, none⟩ = some (.int .i64 (v2 : Int)) := by rw [blk_cell hva]; rfl
    replace lva := blk_lt hva
    replace hrs := (b4.block _ (blk_lt hrs)).trans hrs
    replace crs0 : u4.cell? ⟨w.heap.size + 2, 0, none⟩ = some (.int .i64 0) := by rw [blk_cell hrs]; rfl
    replace crs1 : u4.cell? ⟨w.heap.size + 2, 1, none⟩ = some (.int .i64 0) := by rw [blk_cell hrs]; rfl
    replace lrs := blk_lt hrs
    have cnr0 : u4.cell? ⟨u3.heap.size, 0, none⟩ = some (.int .i64 (n1 : Int)) := by rw [blk_cell hnr]; rfl
    have cnr1 : u4.cell? ⟨u3.heap.size, 1, none⟩ = some (.int .i64 (n2 : Int)) := by rw [blk_cell hnr]; rfl
    have lnr := blk_lt hnr
    have hlo := hLN.out hC
    have hkk := hLN.lk hC
    refine (hLk.next b C S V (n1, n2) d _ hC hLN hS).mono ?_
    rintro e u5 ⟨rfl, V2, hS2, hM2⟩
    replace hpa := hM2.blk hpa npa
    replace npa := hM2.far lpa npa
    replace hva := hM2.blk hva nva
    replace nva := hM2.far lva nva
    replace hrs := hM2.blk hrs nrs
    replace nrs := hM2.far lrs nrs
    replace hnr := hM2.blk hnr nnr
    replace nnr := hM2.far lnr nnr
    replace hM := hM.trans hM2
    replace hS := hS2
    clear hM2
    replace lb := blk_lt hS.fb
    replace cpa0 : u5.cell? ⟨w.heap.size, 0, none⟩ = some (.int .i64 (p1 : Int)) := by rw [blk_cell hpa]; rfl
    replace cpa1 : u5.cell? ⟨w.heap.size, 1, none⟩ = some (.int .i64 (p2 : Int)) := by rw [blk_cell hpa]; rfl
    replace lpa := blk_lt hpa
    replace cva0 : u5.cell? ⟨w.heap.size + 1, 0, none⟩ = some (.int .i64 (v1 : Int)) := by rw [blk_cell hva]; rfl
    replace cva1 : u5.cell? ⟨w.heap.size + 1, 1, none⟩ = some (.int .i64 (v2 : Int)) := by rw [blk_cell hva]; rfl
    replace lva := blk_lt hva
    replace crs0 : u5.cell? ⟨w.heap.size + 2, 0, none⟩ = some (.int .i64 0) := by rw [blk_cell hrs]; rfl
    replace crs1 : u5.cell? ⟨w.heap.size + 2, 1, none⟩ = some (.int .i64 0) := by rw [blk_cell hrs]; rfl
    replace lrs := blk_lt hrs
    replace cnr0 : u5.cell? ⟨u3.heap.size, 0, none⟩ = some (.int .i64 (n1 : Int)) := by rw [blk_cell hnr]; rfl
    replace cnr1 : u5.cell? ⟨u3.heap.size, 1, none⟩ = some (.int .i64 (n2 : Int)) := by rw [blk_cell hnr]; rfl
    replace lnr := blk_lt hnr
    clear hLN
    generalize lookM C m (n1, n2) (d + 1) S = R at *
    obtain ⟨S2, f1, f2⟩ := R
    dsimp only at hS hlo hkk hLF HB2 ⊢
    have hB2 := hlo.bd hC
    go_wp2_with fail
    have nfi : Far b V2 u5.heap.size := hS.fresh (Nat.le_refl _)
    generalize hw0 : u5.alloc (.cells #[.int .i64 (f1 : Int), .int .i64 (f2 : Int)] 129) = u6
    have b6 : Below u5.heap.size u5 u6 := by rw [← hw0]; exact (Below.refl _ _).alloc (Nat.le_refl _) _
    have hfi : u6.heap[u5.heap.size]? = some (.cells #[.int .i64 (f1 : Int), .int .i64 (f2 : Int)] 129 (0, 0)) := by rw [← hw0]; exact heap_alloc_new _ _
    clear hw0
    replace hM := hM.trans (SMoved.of_below b6)
    replace hS := hS.later b6
    replace lb := blk_lt hS.fb
    replace hpa := (b6.block _ (blk_lt hpa)).trans hpa
    replace cpa0 : u6.cell? ⟨w.heap.size, 0, none⟩ = some (.int .i64 (p1 : Int)) := by rw [blk_cell hpa]; rfl
    replace cpa1 : u6.cell? ⟨w.heap.size, 1, none⟩ = some (.int .i64 (p2 : Int)) := by rw [blk_cell hpa]; rfl
    replace lpa := blk_lt hpa
    replace hva := (b6.block _ (blk_lt hva)).trans hva
    replace cva0 : u6.cell? ⟨w.heap.size + 1, 0, none⟩ = some (.int .i64 (v1 : Int)) := by rw [blk_cell hva]; rfl
    replace cva1 : u6.cell? ⟨w.heap.size + 1, 1, none⟩ = some (.int .i64 (v2 : Int)) := by rw [blk_cell hva]; rfl
    replace lva := blk_lt hva
    replace hrs := (b6.block _ (blk_lt hrs)).trans hrs
    replace crs0 : u6.cell? ⟨w.heap.size + 2, 0, none⟩ = some (.int .i64 0) := by rw [blk_cell hrs]; rfl
    replace crs1 : u6.cell? ⟨w.heap.size + 2, 1, none⟩ = some (.int .i64 0) := by rw [blk_cell hrs]; rfl
    replace lrs := blk_lt hrs
    replace hnr := (b6.block _ (blk_lt hnr)).trans hnr
    replace cnr0 : u6.cell? ⟨u3.heap.size, 0, none⟩ = some (.int .i64 (n1 : Int)) := by rw [blk_cell hnr]; rfl
    replace cnr1 : u6.cell? ⟨u3.heap.size, 1, none⟩ = some (.int .i64 (n2 : Int)) := by rw [blk_cell hnr]; rfl
    replace lnr := blk_lt hnr
    have cfi0 : u6.cell? ⟨u5.heap.size, 0, none⟩ = some (.int .i64 (f1 : Int)) := by rw [blk_cell hfi]; rfl
    have cfi1 : u6.cell? ⟨u5.heap.size, 1, none⟩ = some (.int .i64 (f2 : Int)) := by rw [blk_cell hfi]; rfl
    have lfi := blk_lt hfi
    refine (shas_any b C S2 V2 (f1, f2) vn _ hS hB2).mono ?_
    rintro e u7 ⟨rfl, b7⟩
    replace hM := hM.trans (SMoved.of_below b7)
    replace hS := hS.later b7
    replace lb := blk_lt hS.fb
    replace hpa := (b7.block _ (blk_lt hpa)).trans hpa
    replace cpa0 : u7.cell? ⟨w.heap.size, 0, none⟩ = some (.int .i64 (p1 : Int)) := by rw [blk_cell hpa]; rfl
    replace cpa1 : u7.cell? ⟨w.heap.size, 1, none⟩ = some (.int .i64 (p2 : Int)) := by rw [blk_cell hpa]; rfl
    replace lpa := blk_lt hpa
    replace hva := (b7.block _ (blk_lt hva)).trans hva
    replace cva0 : u7.cell? ⟨w.heap.size + 1, 0, none⟩ = some (.int .i64 (v1 : Int)) := by rw [blk_cell hva]; rfl
    replace cva1 : u7.cell? ⟨w.heap.size + 1, 1, none⟩ = some (.int .i64 (v2 : Int)) := by rw [blk_cell hva]; rfl
    replace lva := blk_lt hva
    replace hrs := (b7.block _ (blk_lt hrs)).trans hrs
    replace crs0 : u7.cell? ⟨w.heap.size + 2, 0, none⟩ = some (.int .i64 0) := by rw [blk_cell hrs]; rfl
    replace crs1 : u7.cell? ⟨w.heap.size + 2, 1, none⟩ = some (.int .i64 0) := by rw [blk_cell hrs]; rfl
    replace lrs := blk_lt hrs
    replace hnr := (b7.block _ (blk_lt hnr)).trans hnr
    replace cnr0 : u7.cell? ⟨u3.heap.size, 0, none⟩ = some (.int .i64 (n1 : Int)) := by rw [blk_cell hnr]; rfl
    replace cnr1 : u7.cell? ⟨u3.heap.size, 1, none⟩ = some (.int .i64 (n2 : Int)) := by rw [blk_cell hnr]; rfl
    replace lnr := blk_lt hnr
    replace hfi := (b7.block _ (blk_lt hfi)).trans hfi
    replace cfi0 : u7.cell? ⟨u5.heap.size, 0, none⟩ = some (.int .i64 (f1 : Int)) := by rw [blk_cell hfi]; rfl
    replace cfi1 : u7.cell? ⟨u5.heap.size, 1, none⟩ = some (.int .i64 (f2 : Int)) := by rw [blk_cell hfi]; rfl
    replace lfi := blk_lt hfi
    cases hh1 : hasVarB (S2.lits (f1, f2)) vn with
    | false =>
      have HX : Hid (branchM C (m + 1) (p1, p2) d (v1, v2) S = (S2, (f1, f2))) := hide (by rw [unhide HB2, hh1]; rfl)
      clear hh1
      have z0 := blk_free hrs 0
      have z1 := blk_free hrs 1
      have hR := blk_set (blk_set hrs 0 (.int .i64 (f1 : Int))) 1 (.int .i64 (f2 : Int))
      have j0 := blk_cell hR 0
      have j1 := blk_cell hR 1
      go_wp2_with fail
      refine bodyPost_ret (v := FactV (f1, f2)) (by simp [results, Tryz.results92, go_sem, j0, j1]) rfl ⟨by rw [unhide HX], ?_⟩
      rw [unhide HX]
      exact ⟨_, (hS.set nrs 0 _).set nrs 1 _, (hM.set (k := w.heap.size + 2) (by omega) 0 _).set (k := w.heap.size + 2) (by omega) 1 _⟩
    | true =>
      have hki := hkk.kind hh1
      have HB3 := hide ((unhide HB2).trans (if_pos hh1))
      clear hh1 HB2 hkk
      go_wp2_with fail
      refine (with_any p1 p2 (-(vn : Int)) _ hp.1 hp.2 (by omega) (by omega)).mono ?_
      rintro e u8 ⟨rfl, b8⟩
      replace hM := hM.trans (SMoved.of_below b8)
      replace hS := hS.later b8
      replace lb := blk_lt hS.fb
      replace hpa := (b8.block _ (blk_lt hpa)).trans hpa
      replace cpa0 : u8.cell? ⟨w.heap.size, 0, none⟩ = some (.int .i64 (p1 : Int)) := by rw [blk_cell hpa]; rfl
      replace cpa1 : u8.cell? ⟨w.heap.size, 1, none⟩ = some (.int .i64 (p2 : Int)) := by rw [blk_cell hpa]; rfl
      replace lpa := blk_lt hpa
      replace hva := (b8.block _ (blk_lt hva)).trans hva
      replace cva0 : u8.cell? ⟨w.heap.size + 1, 0, none⟩ = some (.int .i64 (v1 : Int)) := by rw [blk_cell hva]; rfl
      replace cva1 : u8.cell? ⟨w.heap.size + 1, 1, none⟩ = some (.int .i64 (v2 : Int)) := by rw [blk_cell hva]; rfl
      replace lva := blk_lt hva
      replace hrs := (b8.block _ (blk_lt hrs)).trans hrs
      replace crs0 : u8.cell? ⟨w.heap.size + 2, 0, none⟩ = some (.int .i64 0) := by rw [blk_cell hrs]; rfl
      replace crs1 : u8.cell? ⟨w.heap.size + 2, 1, none⟩ = some (.int .i64 0) := by rw [blk_cell hrs]; rfl
      replace lrs := blk_lt hrs
      replace hnr := (b8.block _ (blk_lt hnr)).trans hnr
      replace cnr0 : u8.cell? ⟨u3.heap.size, 0, none⟩ = some (.int .i64 (n1 : Int)) := by rw [blk_cell hnr]; rfl
      replace cnr1 : u8.cell? ⟨u3.heap.size, 1, none⟩ = some (.int .i64 (n2 : Int)) := by rw [blk_cell hnr]; rfl
      replace lnr := blk_lt hnr
      replace hfi := (b8.block _ (blk_lt hfi)).trans hfi
      replace cfi0 : u8.cell? ⟨u5.heap.size, 0, none⟩ = some (.int .i64 (f1 : Int)) := by rw [blk_cell hfi]; rfl
      replace cfi1 : u8.cell? ⟨u5.heap.size, 1, none⟩ = some (.int .i64 (f2 : Int)) := by rw [blk_cell hfi]; rfl
      replace lfi := blk_lt hfi
      have hw9b : (withLit (p1, p2) (-(vn : Int))).1 < 512 ∧ (withLit (p1, p2) (-(vn : Int))).2 < 512 := withLit_lt (p1, p2) (-(vn : Int)) hp.1 hp.2
      generalize withLit (p1, p2) (-(vn : Int)) = fr at *
      obtain ⟨r1, r2⟩ := fr
      dsimp only at hw9b ⊢
      go_wp2_with fail
      have nfr : Far b V2 u8.heap.size := hS.fresh (Nat.le_refl _)
      generalize hw0 : u8.alloc (.cells #[.int .i64 (r1 : Int), .int .i64 (r2 : Int)] 74) = u9
      have b9 : Below u8.heap.size u8 u9 := by rw [← hw0]; exact (Below.refl _ _).alloc (Nat.le_refl _) _
      have hfr : u9.heap[u8.heap.size]? = some (.cells #[.int .i64 (r1 : Int), .int .i64 (r2 : Int)] 74 (0, 0)) := by rw [← hw0]; exact heap_alloc_new _ _
      clear hw0
      replace hM := hM.trans (SMoved.of_below b9)
      replace hS := hS.later b9
      replace lb := blk_lt hS.fb
      replace hpa := (b9.block _ (blk_lt hpa)).trans hpa
      replace cpa0 : u9.cell? ⟨w.heap.size, 0, none⟩ = some (.int .i64 (p1 : Int)) := by rw [blk_cell hpa]; rfl
      replace cpa1 : u9.cell? ⟨w.heap.size, 1, none⟩ = some (.int .i64 (p2 : Int)) := by rw [blk_cell hpa]; rfl
      replace lpa := blk_lt hpa
      replace hva := (b9.block _ (blk_lt hva)).trans hva
      replace cva0 : u9.cell? ⟨w.heap.size + 1, 0, none⟩ = some (.int .i64 (v1 : Int)) := by rw [blk_cell hva]; rfl
      replace cva1 : u9.cell? ⟨w.heap.size + 1, 1, none⟩ = some (.int .i64 (v2 : Int)) := by rw [blk_cell hva]; rfl
      replace lva := blk_lt hva
      replace hrs := (b9.block _ (blk_lt hrs)).trans hrs
      replace crs0 : u9.cell? ⟨w.heap.size + 2, 0, none⟩ = some (.int .i64 0) := by rw [blk_cell hrs]; rfl
      replace crs1 : u9.cell? ⟨w.heap.size + 2, 1, none⟩ = some (.int .i64 0) := by rw [blk_cell hrs]; rfl
      replace lrs := blk_lt hrs
      replace hnr := (b9.block _ (blk_lt hnr)).trans hnr
      replace cnr0 : u9.cell? ⟨u3.heap.size, 0, none⟩ = some (.int .i64 (n1 : Int)) := by rw [blk_cell hnr]; rfl
      replace cnr1 : u9.cell? ⟨u3.heap.size, 1, none⟩ = some (.int .i64 (n2 : Int)) := by rw [blk_cell hnr]; rfl
      replace lnr := blk_lt hnr
      replace hfi := (b9.block _ (blk_lt hfi)).trans hfi
      replace cfi0 : u9.cell? ⟨u5.heap.size, 0, none⟩ = some (.int .i64 (f1 : Int)) := by rw [blk_cell hfi]; rfl
      replace cfi1 : u9.cell? ⟨u5.heap.size, 1, none⟩ = some (.int .i64 (f2 : Int)) := by rw [blk_cell hfi]; rfl
      replace lfi := blk_lt hfi
      have cfr0 : u9.cell? ⟨u8.heap.size, 0, none⟩ = some (.int .i64 (r1 : Int)) := by rw [blk_cell hfr]; rfl
      have cfr1 : u9.cell? ⟨u8.heap.size, 1, none⟩ = some (.int .i64 (r2 : Int)) := by rw [blk_cell hfr]; rfl
      have lfr := blk_lt hfr
      have hlo2 := hLF.out hC
      refine (hLk.next b C S2 V2 (r1, r2) d _ hC hLF hS).mono ?_
      rintro e u10 ⟨rfl, V3, hS2, hM2⟩
      replace hpa := hM2.blk hpa npa
      replace npa := hM2.far lpa npa
      replace hva := hM2.blk hva nva
      replace nva := hM2.far lva nva
      replace hrs := hM2.blk hrs nrs
      replace nrs := hM2.far lrs nrs
      replace hnr := hM2.blk hnr nnr
      replace nnr := hM2.far lnr nnr
      replace hfi := hM2.blk hfi nfi
      replace nfi := hM2.far lfi nfi
      replace hfr := hM2.blk hfr nfr
      replace nfr := hM2.far lfr nfr
      replace hM := hM.trans hM2
      replace hS := hS2
      clear hM2
      replace lb := blk_lt hS.fb
      replace cpa0 : u10.cell? ⟨w.heap.size, 0, none⟩ = some (.int .i64 (p1 : Int)) := by rw [blk_cell hpa]; rfl
      replace cpa1 : u10.cell? ⟨w.heap.size, 1, none⟩ = some (.int .i64 (p2 : Int)) := by rw [blk_cell hpa]; rfl
      replace lpa := blk_lt hpa
      replace cva0 : u10.cell? ⟨w.heap.size + 1, 0, none⟩ = some (.int .i64 (v1 : Int)) := by rw [blk_cell hva]; rfl
      replace cva1 : u10.cell? ⟨w.heap.size + 1, 1, none⟩ = some (.int .i64 (v2 : Int)) := by rw [blk_cell hva]; rfl
      replace lva := blk_lt hva
      replace crs0 : u10.cell? ⟨w.heap.size + 2, 0, none⟩ = some (.int .i64 0) := by rw [blk_cell hrs]; rfl
      replace crs1 : u10.cell? ⟨w.heap.size + 2, 1, none⟩ = some (.int .i64 0) := by rw [blk_cell hrs]; rfl
      replace lrs := blk_lt hrs
      replace cnr0 : u10.cell? ⟨u3.heap.size, 0, none⟩ = some (.int .i64 (n1 : Int)) := by rw [blk_cell hnr]; rfl
      replace cnr1 : u10.cell? ⟨u3.heap.size, 1, none⟩ = some (.int .i64 (n2 : Int)) := by rw [blk_cell hnr]; rfl
      replace lnr := blk_lt hnr
      replace cfi0 : u10.cell? ⟨u5.heap.size, 0, none⟩ = some (.int .i64 (f1 : Int)) := by rw [blk_cell hfi]; rfl
      replace cfi1 : u10.cell? ⟨u5.heap.size, 1, none⟩ = some (.int .i64 (f2 : Int)) := by rw [blk_cell hfi]; rfl
      replace lfi := blk_lt hfi
      replace cfr0 : u10.cell? ⟨u8.heap.size, 0, none⟩ = some (.int .i64 (r1 : Int)) := by rw [blk_cell hfr]; rfl
      replace cfr1 : u10.cell? ⟨u8.heap.size, 1, none⟩ = some (.int .i64 (r2 : Int)) := by rw [blk_cell hfr]; rfl
      replace lfr := blk_lt hfr
      clear hLF
      generalize lookM C m (r1, r2) (d + 1) S2 = R at *
      obtain ⟨S3, g1, g2⟩ := R
      dsimp only at hS hlo2 HB3 ⊢
      have hB3 := hlo2.bd hC
      go_wp2_with fail
      have nse : Far b V3 u10.heap.size := hS.fresh (Nat.le_refl _)
      generalize hw0 : u10.alloc (.cells #[.int .i64 (g1 : Int), .int .i64 (g2 : Int)] 129) = u11
      have b11 : Below u10.heap.size u10 u11 := by rw [← hw0]; exact (Below.refl _ _).alloc (Nat.le_refl _) _
      have hse : u11.heap[u10.heap.size]? = some (.cells #[.int .i64 (g1 : Int), .int .i64 (g2 : Int)] 129 (0, 0)) := by rw [← hw0]; exact heap_alloc_new _ _
      clear hw0
      replace hM := hM.trans (SMoved.of_below b11)
      replace hS := hS.later b11
      replace lb := blk_lt hS.fb
      replace hpa := (b11.block _ (blk_lt hpa)).trans hpa
      replace cpa0 : u11.cell? ⟨w.heap.size, 0, none⟩ = some (.int .i64 (p1 : Int)) := by rw [blk_cell hpa]; rfl
      replace cpa1 : u11.cell? ⟨w.heap.size, 1, none⟩ = some (.int .i64 (p2 : Int)) := by rw [blk_cell hpa]; rfl
      replace lpa := blk_lt hpa
      replace hva := (b11.block _ (blk_lt hva)).trans hva
      replace cva0 : u11.cell? ⟨w.heap.size + 1, 0, none⟩ = some (.int .i64 (v1 : Int)) := by rw [blk_cell hva]; rfl
      replace cva1 : u11.cell? ⟨w.heap.size + 1, 1, none⟩ = some (.int .i64 (v2 : Int)) := by rw [blk_cell hva]; rfl
      replace lva := blk_lt hva
      replace hrs := (b11.block _ (blk_lt hrs)).trans hrs
      replace crs0 : u11.cell? ⟨w.heap.size + 2, 0, none⟩ = some (.int .i64 0) := by rw [blk_cell hrs]; rfl
      replace crs1 : u11.cell? ⟨w.heap.size + 2, 1, none⟩ = some (.int .i64 0) := by rw [blk_cell hrs]; rfl
      replace lrs := blk_lt hrs
      replace hnr := (b11.block _ (blk_lt hnr)).trans hnr
      replace cnr0 : u11.cell? ⟨u3.heap.size, 0, none⟩ = some (.int .i64 (n1 : Int)) := by rw [blk_cell hnr]; rfl
      replace cnr1 : u11.cell? ⟨u3.heap.size, 1, none⟩ = some (.int .i64 (n2 : Int)) := by rw [blk_cell hnr]; rfl
      replace lnr := blk_lt hnr
      replace hfi := (b11.block _ (blk_lt hfi)).trans hfi
      replace cfi0 : u11.cell? ⟨u5.heap.size, 0, none⟩ = some (.int .i64 (f1 : Int)) := by rw [blk_cell hfi]; rfl
      replace cfi1 : u11.cell? ⟨u5.heap.size, 1, none⟩ = some (.int .i64 (f2 : Int)) := by rw [blk_cell hfi]; rfl
      replace lfi := blk_lt hfi
      replace hfr := (b11.block _ (blk_lt hfr)).trans hfr
      replace cfr0 : u11.cell? ⟨u8.heap.size, 0, none⟩ = some (.int .i64 (r1 : Int)) := by rw [blk_cell hfr]; rfl
      replace cfr1 : u11.cell? ⟨u8.heap.size, 1, none⟩ = some (.int .i64 (r2 : Int)) := by rw [blk_cell hfr]; rfl
      replace lfr := blk_lt hfr
      have cse0 : u11.cell? ⟨u10.heap.size, 0, none⟩ = some (.int .i64 (g1 : Int)) := by rw [blk_cell hse]; rfl
      have cse1 : u11.cell? ⟨u10.heap.size, 1, none⟩ = some (.int .i64 (g2 : Int)) := by rw [blk_cell hse]; rfl
      have lse := blk_lt hse
      refine (shas_any b C S3 V3 (g1, g2) vn _ hS hB3).mono ?_
      rintro e u12 ⟨rfl, b12⟩
      replace hM := hM.trans (SMoved.of_below b12)
      replace hS := hS.later b12
      replace lb := blk_lt hS.fb
      replace hpa := (b12.block _ (blk_lt hpa)).trans hpa
      replace cpa0 : u12.cell? ⟨w.heap.size, 0, none⟩ = some (.int .i64 (p1 : Int)) := by rw [blk_cell hpa]; rfl
      replace cpa1 : u12.cell? ⟨w.heap.size, 1, none⟩ = some (.int .i64 (p2 : Int)) := by rw [blk_cell hpa]; rfl
      replace lpa := blk_lt hpa
      replace hva := (b12.block _ (blk_lt hva)).trans hva
      replace cva0 : u12.cell? ⟨w.heap.size + 1, 0, none⟩ = some (.int .i64 (v1 : Int)) := by rw [blk_cell hva]; rfl
      replace cva1 : u12.cell? ⟨w.heap.size + 1, 1, none⟩ = some (.int .i64 (v2 : Int)) := by rw [blk_cell hva]; rfl
      replace lva := blk_lt hva
      replace hrs := (b12.block _ (blk_lt hrs)).trans hrs
      replace crs0 : u12.cell? ⟨w.heap.size + 2, 0, none⟩ = some (.int .i64 0) := by rw [blk_cell hrs]; rfl
      replace crs1 : u12.cell? ⟨w.heap.size + 2, 1, none⟩ = some (.int .i64 0) := by rw [blk_cell hrs]; rfl
      replace lrs := blk_lt hrs
      replace hnr := (b12.block _ (blk_lt hnr)).trans hnr
      replace cnr0 : u12.cell? ⟨u3.heap.size, 0, none⟩ = some (.int .i64 (n1 : Int)) := by rw [blk_cell hnr]; rfl
      replace cnr1 : u12.cell? ⟨u3.heap.size, 1, none⟩ = some (.int .i64 (n2 : Int)) := by rw [blk_cell hnr]; rfl
      replace lnr := blk_lt hnr
      replace hfi := (b12.block _ (blk_lt hfi)).trans hfi
      replace cfi0 : u12.cell? ⟨u5.heap.size, 0, none⟩ = some (.int .i64 (f1 : Int)) := by rw [blk_cell hfi]; rfl
      replace cfi1 : u12.cell? ⟨u5.heap.size, 1, none⟩ = some (.int .i64 (f2 : Int)) := by rw [blk_cell hfi]; rfl
      replace lfi := blk_lt hfi
      replace hfr := (b12.block _ (blk_lt hfr)).trans hfr
      replace cfr0 : u12.cell? ⟨u8.heap.size, 0, none⟩ = some (.int .i64 (r1 : Int)) := by rw [blk_cell hfr]; rfl
      replace cfr1 : u12.cell? ⟨u8.heap.size, 1, none⟩ = some (.int .i64 (r2 : Int)) := by rw [blk_cell hfr]; rfl
      replace lfr := blk_lt hfr
      replace hse := (b12.block _ (blk_lt hse)).trans hse
      replace cse0 : u12.cell? ⟨u10.heap.size, 0, none⟩ = some (.int .i64 (g1 : Int)) := by rw [blk_cell hse]; rfl
      replace cse1 : u12.cell? ⟨u10.heap.size, 1, none⟩ = some (.int .i64 (g2 : Int)) := by rw [blk_cell hse]; rfl
      replace lse := blk_lt hse
      cases hh2 : hasVarB (S3.lits (g1, g2)) vn with
      | false =>
        have HX : Hid (branchM C (m + 1) (p1, p2) d (v1, v2) S = (S3, (g1, g2))) := hide (by rw [unhide HB3, hh2]; rfl)
        clear hh2
        have z0 := blk_free hrs 0
        have z1 := blk_free hrs 1
        have hR := blk_set (blk_set hrs 0 (.int .i64 (g1 : Int))) 1 (.int .i64 (g2 : Int))
        have j0 := blk_cell hR 0
        have j1 := blk_cell hR 1
        go_wp2_with fail
        refine bodyPost_ret (v := FactV (g1, g2)) (by simp [results, Tryz.results92, go_sem, j0, j1]) rfl ⟨by rw [unhide HX], ?_⟩
        rw [unhide HX]
        exact ⟨_, (hS.set nrs 0 _).set nrs 1 _, (hM.set (k := w.heap.size + 2) (by omega) 0 _).set (k := w.heap.size + 2) (by omega) 1 _⟩
      | true =>
        have HX : Hid (branchM C (m + 1) (p1, p2) d (v1, v2) S = joinOf C S3 (f1, f2) (g1, g2) vn) := hide (by rw [unhide HB3, hh2]; rfl)
        clear hh2
        have hpl := hlo2.plen f1
        go_wp2_with fail
        refine (join_any b C S3 V3 (f1, f2) (g1, g2) vn _ hS hB3 hki hpl (by omega)).mono ?_
        rintro e u13 ⟨rfl, V4, hS2, hM2⟩
        replace hpa := hM2.blk hpa npa
        replace npa := hM2.far lpa npa
        replace hva := hM2.blk hva nva
        replace nva := hM2.far lva nva
        replace hrs := hM2.blk hrs nrs
        replace nrs := hM2.far lrs nrs
        replace hnr := hM2.blk hnr nnr
        replace nnr := hM2.far lnr nnr
        replace hfi := hM2.blk hfi nfi
        replace nfi := hM2.far lfi nfi
        replace hfr := hM2.blk hfr nfr
        replace nfr := hM2.far lfr nfr
        replace hse := hM2.blk hse nse
        replace nse := hM2.far lse nse
        replace hM := hM.trans hM2
        replace hS := hS2
        clear hM2
        replace lb := blk_lt hS.fb
        replace cpa0 : u13.cell? ⟨w.heap.size, 0, none⟩ = some (.int .i64 (p1 : Int)) := by rw [blk_cell hpa]; rfl
        replace cpa1 : u13.cell? ⟨w.heap.size, 1, none⟩ = some (.int .i64 (p2 : Int)) := by rw [blk_cell hpa]; rfl
        replace lpa := blk_lt hpa
        replace cva0 : u13.cell? ⟨w.heap.size + 1, 0, none⟩ = some (.int .i64 (v1 : Int)) := by rw [blk_cell hva]; rfl
        replace cva1 : u13.cell? ⟨w.heap.size + 1, 1, none⟩ = some (.int .i64 (v2 : Int)) := by rw [blk_cell hva]; rfl
        replace lva := blk_lt hva
        replace crs0 : u13.cell? ⟨w.heap.size + 2, 0, none⟩ = some (.int .i64 0) := by rw [blk_cell hrs]; rfl
        replace crs1 : u13.cell? ⟨w.heap.size + 2, 1, none⟩ = some (.int .i64 0) := by rw [blk_cell hrs]; rfl
        replace lrs := blk_lt hrs
        replace cnr0 : u13.cell? ⟨u3.heap.size, 0, none⟩ = some (.int .i64 (n1 : Int)) := by rw [blk_cell hnr]; rfl
        replace cnr1 : u13.cell? ⟨u3.heap.size, 1, none⟩ = some (.int .i64 (n2 : Int)) := by rw [blk_cell hnr]; rfl
        replace lnr := blk_lt hnr
        replace cfi0 : u13.cell? ⟨u5.heap.size, 0, none⟩ = some (.int .i64 (f1 : Int)) := by rw [blk_cell hfi]; rfl
        replace cfi1 : u13.cell? ⟨u5.heap.size, 1, none⟩ = some (.int .i64 (f2 : Int)) := by rw [blk_cell hfi]; rfl
        replace lfi := blk_lt hfi
        replace cfr0 : u13.cell? ⟨u8.heap.size, 0, none⟩ = some (.int .i64 (r1 : Int)) := by rw [blk_cell hfr]; rfl
        replace cfr1 : u13.cell? ⟨u8.heap.size, 1, none⟩ = some (.int .i64 (r2 : Int)) := by rw [blk_cell hfr]; rfl
        replace lfr := blk_lt hfr
        replace cse0 : u13.cell? ⟨u10.heap.size, 0, none⟩ = some (.int .i64 (g1 : Int)) := by rw [blk_cell hse]; rfl
        replace cse1 : u13.cell? ⟨u10.heap.size, 1, none⟩ = some (.int .i64 (g2 : Int)) := by rw [blk_cell hse]; rfl
        replace lse := blk_lt hse
        generalize joinOf C S3 (f1, f2) (g1, g2) vn = R at *
        obtain ⟨S4, j1', j2'⟩ := R
        dsimp only at hS HX ⊢
        have z0 := blk_free hrs 0
        have z1 := blk_free hrs 1
        have hR := blk_set (blk_set hrs 0 (.int .i64 (j1' : Int))) 1 (.int .i64 (j2' : Int))
        have j0 := blk_cell hR 0
        have j1 := blk_cell hR 1
        go_wp2_with fail
        refine bodyPost_ret (v := FactV (j1', j2')) (by simp [results, Tryz.results92, go_sem, j0, j1]) rfl ⟨by rw [unhide HX], ?_⟩
        rw [unhide HX]
        exact ⟨_, (hS.set nrs 0 _).set nrs 1 _, (hM.set (k := w.heap.size + 2) (by omega) 0 _).set (k := w.heap.size + 2) (by omega) 1 _⟩
end Go.Proofs.YtgipjjhkhfihpaaGreatDoor
