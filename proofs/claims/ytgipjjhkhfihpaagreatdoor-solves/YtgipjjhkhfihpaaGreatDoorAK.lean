import Derived.Test.YtgipjjhkhfihpaaGreatDoorAI
import Derived.Test.YtgipjjhkhfihpaaGreatDoorAF
import Derived.Test.YtgipjjhkhfihpaaGreatDoorAA
import Derived.Lib.ItoaLen
import Derived.Test.YtgipjjhkhfihpaaGreatDoorAE
namespace Go.Proofs.YtgipjjhkhfihpaaGreatDoor
open Go.RowKit

/-! ### branch -/
set_option maxRecDepth 100000 in
set_option maxHeartbeats 6400000 in
theorem branch_zero : BranchSpec 0 := by
  intro b C S V path vals d w hC hI hS
  obtain ⟨p1, p2⟩ := path
  obtain ⟨v1, v2⟩ := vals
  obtain ⟨aV, cV, hVf⟩ := own_form hS.oV
  have hvl := hC.qg.qb.vl
  have hdm := hI.dm
  have HX : Hid (branchM C 0 (p1, p2) d (v1, v2) S = (S, (0, 0))) := hide rfl
  have hbw := blk_lt hS.fb
  have hd1 : decide ((C.q.vars.length : Int) ≤ (d : Int)) = true := decide_eq_true (by omega)
  have hd2 : decide (C.q.vars.length ≤ d) = true := decide_eq_true (by omega)
  have hbE : Below w.heap.size w (((w.alloc (.cells #[.int .i64 (p1 : Int), .int .i64 (p2 : Int)] 74)).alloc (.cells #[.int .i64 (v1 : Int), .int .i64 (v2 : Int)] 74)).alloc (.cells #[.int .i64 0, .int .i64 0] 129)) := (((Below.refl _ _).alloc (Nat.le_refl _) _).alloc (by simp; try omega) _).alloc (by simp; try omega) _
  have cb0 : (((w.alloc (.cells #[.int .i64 (p1 : Int), .int .i64 (p2 : Int)] 74)).alloc (.cells #[.int .i64 (v1 : Int), .int .i64 (v2 : Int)] 74)).alloc (.cells #[.int .i64 0, .int .i64 0] 129)).cell? ⟨b, 0, none⟩ = some (.slice aV C.q.vars.length cV) := by rw [hbE.cell (p := ⟨b, 0, none⟩) hbw]; rw [blk_cell hS.fb]; exact congrArg some hVf
  go_enter Tryz.func92, Tryz.ntmps92
  go_wp2_with fail
  generalize hw0 : (((w.alloc (.cells #[.int .i64 (p1 : Int), .int .i64 (p2 : Int)] 74)).alloc (.cells #[.int .i64 (v1 : Int), .int .i64 (v2 : Int)] 74)).alloc (.cells #[.int .i64 0, .int .i64 0] 129)) = u1
  have hb0 : Below w.heap.size w u1 := by rw [← hw0]; exact (((Below.refl _ _).alloc (Nat.le_refl _) _).alloc (by simp; try omega) _).alloc (by simp; try omega) _
  have hpa : u1.heap[w.heap.size]? = some (.cells #[.int .i64 (p1 : Int), .int .i64 (p2 : Int)] 74 (0, 0)) := by rw [← hw0, heap_alloc_old _ _ (by simp; try omega), heap_alloc_old _ _ (by simp; try omega)]; exact alloc_new_at (by simp)
  have npa : Far b V (w.heap.size) := hS.fresh (by omega)
  have hva : u1.heap[w.heap.size + 1]? = some (.cells #[.int .i64 (v1 : Int), .int .i64 (v2 : Int)] 74 (0, 0)) := by rw [← hw0, heap_alloc_old _ _ (by simp; try omega)]; exact alloc_new_at (by simp)
  have nva : Far b V (w.heap.size + 1) := hS.fresh (by omega)
  have hrs : u1.heap[w.heap.size + 2]? = some (.cells #[.int .i64 0, .int .i64 0] 129 (0, 0)) := by rw [← hw0]; exact alloc_new_at (by simp)
  have nrs : Far b V (w.heap.size + 2) := hS.fresh (by omega)
  clear hw0
  have hM : SMoved b w u1 V V := SMoved.of_below hb0
  replace hS := hS.later hb0
  have lb := blk_lt hS.fb
  have cpa0 : u1.cell? ⟨w.heap.size, 0, none⟩ = some (.int .i64 (p1 : Int)) := by rw [blk_cell hpa]; rfl
  have cpa1 : u1.cell? ⟨w.heap.size, 1, none⟩ = some (.int .i64 (p2 : Int)) := by rw [blk_cell hpa]; rfl
  have lpa := blk_lt hpa
  have cva0 : u1.cell? ⟨w.heap.size + 1, 0, none⟩ = some (.int .i64 (v1 : Int)) := by rw [blk_cell hva]; rfl
  have cva1 : u1.cell? ⟨w.heap.size + 1, 1, none⟩ = some (.int .i64 (v2 : Int)) := by rw [blk_cell hva]; rfl
  have lva := blk_lt hva
  have crs0 : u1.cell? ⟨w.heap.size + 2, 0, none⟩ = some (.int .i64 0) := by rw [blk_cell hrs]; rfl
  have crs1 : u1.cell? ⟨w.heap.size + 2, 1, none⟩ = some (.int .i64 0) := by rw [blk_cell hrs]; rfl
  have lrs := blk_lt hrs
  have j0 : u1.cell? ⟨w.heap.size + 1 + 1, 0, none⟩ = some (.int .i64 0) := crs0
  have j1 : u1.cell? ⟨w.heap.size + 1 + 1, 1, none⟩ = some (.int .i64 0) := crs1
  refine bodyPost_ret (v := FactV (0, 0)) (by simp [results, Tryz.results92, go_sem, j0, j1]) rfl ⟨by rw [unhide HX], ?_⟩
  rw [unhide HX]
  exact ⟨V, hS, hM⟩
set_option maxRecDepth 100000 in
set_option maxHeartbeats 6400000 in
theorem branch_succ (m : Nat) (hLk : LookSpec m) : BranchSpec (m + 1) := by
  intro b C S V path vals d w hC hI hS
  obtain ⟨p1, p2⟩ := path
  obtain ⟨v1, v2⟩ := vals
  obtain ⟨aV, cV, hVf⟩ := own_form hS.oV
  have hvl := hC.qg.qb.vl
  have hdm := hI.dm
  have hd : d < C.q.vars.length := by omega
  have hp : p1 < 512 ∧ p2 < 512 := hI.path.bd
  have hvb : v1 < 512 ∧ v2 < 512 := hI.vals
  have hvn := hC.qg.qb.names _ (List.getElem_mem hd)
  have hoV := hS.oV
  rw [hVf] at hoV
  have HBA : Hid (∀ x y : Int, (if hasLit (v1, v2) (-(C.q.vars[d].1 : Int)) then -(C.q.vars[d].1 : Int) else (C.q.vars[d].1 : Int)) = x → -x = y → _) := hide (fun x y hx hy => branchM_as C m d (p1, p2) (v1, v2) S C.q.vars[d].1 x y (by rw [getD_var _ _ hd]) hx hy)
  have HNR : Hid (∀ s, LookIn C m (d + 1) (withLit (p1, p2) (litI C.q.vars[d].1 s)) S) := hide (fun s => hI.near hC hd s)
  have HFA : Hid (∀ s t, LookIn C m (d + 1) (withLit (p1, p2) (litI C.q.vars[d].1 t)) (lookM C m (withLit (p1, p2) (litI C.q.vars[d].1 s)) (d + 1) S).1) := hide (fun s t => hI.far hC hd s t)
  obtain ⟨g, cap, hVe, hg, hg', _, hcell⟩ := own_pos hoV (by omega)
  injection hVe with hVe _ hV2
  subst hVe hV2
  obtain ⟨ha, _⟩ := varCells_at C.q.vars d hd
  have hx := hcell _ _ ha
  clear hcell ha
  obtain ⟨vn, hvne⟩ : ∃ X, X = C.q.vars[d].1 := ⟨_, rfl⟩
  rw [← hvne] at hvn HBA HNR HFA hx
  clear hvne
  have hbw := blk_lt hS.fb
  have hd1 : decide ((C.q.vars.length : Int) ≤ (d : Int)) = false := decide_eq_false (by omega)
  have hd2 : decide (C.q.vars.length ≤ d) = false := decide_eq_false (by omega)
  have hd3 : decide ((d : Int) < (C.q.vars.length : Int)) = true := decide_eq_true (by omega)
  have hd4 : decide (d < C.q.vars.length) = true := decide_eq_true (by omega)
  have hbE : Below w.heap.size w (((w.alloc (.cells #[.int .i64 (p1 : Int), .int .i64 (p2 : Int)] 74)).alloc (.cells #[.int .i64 (v1 : Int), .int .i64 (v2 : Int)] 74)).alloc (.cells #[.int .i64 0, .int .i64 0] 129)) := (((Below.refl _ _).alloc (Nat.le_refl _) _).alloc (by simp; try omega) _).alloc (by simp; try omega) _
  have cb0 : (((w.alloc (.cells #[.int .i64 (p1 : Int), .int .i64 (p2 : Int)] 74)).alloc (.cells #[.int .i64 (v1 : Int), .int .i64 (v2 : Int)] 74)).alloc (.cells #[.int .i64 0, .int .i64 0] 129)).cell? ⟨b, 0, none⟩ = some (.slice (some ⟨g, 0, none⟩) C.q.vars.length cV) := by rw [hbE.cell (p := ⟨b, 0, none⟩) hbw]; rw [blk_cell hS.fb]; exact congrArg some hVf
  have cg0 : (((w.alloc (.cells #[.int .i64 (p1 : Int), .int .i64 (p2 : Int)] 74)).alloc (.cells #[.int .i64 (v1 : Int), .int .i64 (v2 : Int)] 74)).alloc (.cells #[.int .i64 0, .int .i64 0] 129)).cell? ⟨g, d * 2, none⟩ = some (.int .i64 (vn : Int)) := by rw [hbE.cell (p := ⟨g, d * 2, none⟩) hg']; exact hx
  have hge : g < w.heap.size + 1 + 1 + 1 := by omega
  go_enter Tryz.func92, Tryz.ntmps92
  go_wp2_with fail
  generalize hw0 : (((w.alloc (.cells #[.int .i64 (p1 : Int), .int .i64 (p2 : Int)] 74)).alloc (.cells #[.int .i64 (v1 : Int), .int .i64 (v2 : Int)] 74)).alloc (.cells #[.int .i64 0, .int .i64 0] 129)) = u1
  have hb0 : Below w.heap.size w u1 := by rw [← hw0]; exact (((Below.refl _ _).alloc (Nat.le_refl _) _).alloc (by simp; try omega) _).alloc (by simp; try omega) _
  have hpa : u1.heap[w.heap.size]? = some (.cells #[.int .i64 (p1 : Int), .int .i64 (p2 : Int)] 74 (0, 0)) := by rw [← hw0, heap_alloc_old _ _ (by simp; try omega), heap_alloc_old _ _ (by simp; try omega)]; exact alloc_new_at (by simp)
  have npa : Far b V (w.heap.size) := hS.fresh (by omega)
  have hva : u1.heap[w.heap.size + 1]? = some (.cells #[.int .i64 (v1 : Int), .int .i64 (v2 : Int)] 74 (0, 0)) := by rw [← hw0, heap_alloc_old _ _ (by simp; try omega)]; exact alloc_new_at (by simp)
  have nva : Far b V (w.heap.size + 1) := hS.fresh (by omega)
  have hrs : u1.heap[w.heap.size + 2]? = some (.cells #[.int .i64 0, .int .i64 0] 129 (0, 0)) := by rw [← hw0]; exact alloc_new_at (by simp)
  have nrs : Far b V (w.heap.size + 2) := hS.fresh (by omega)
  clear hw0
  have hM : SMoved b w u1 V V := SMoved.of_below hb0
  replace hS := hS.later hb0
  have lb := blk_lt hS.fb
  have cpa0 : u1.cell? ⟨w.heap.size, 0, none⟩ = some (.int .i64 (p1 : Int)) := by rw [blk_cell hpa]; rfl
  have cpa1 : u1.cell? ⟨w.heap.size, 1, none⟩ = some (.int .i64 (p2 : Int)) := by rw [blk_cell hpa]; rfl
  have lpa := blk_lt hpa
  have cva0 : u1.cell? ⟨w.heap.size + 1, 0, none⟩ = some (.int .i64 (v1 : Int)) := by rw [blk_cell hva]; rfl
  have cva1 : u1.cell? ⟨w.heap.size + 1, 1, none⟩ = some (.int .i64 (v2 : Int)) := by rw [blk_cell hva]; rfl
  have lva := blk_lt hva
  have crs0 : u1.cell? ⟨w.heap.size + 2, 0, none⟩ = some (.int .i64 0) := by rw [blk_cell hrs]; rfl
  have crs1 : u1.cell? ⟨w.heap.size + 2, 1, none⟩ = some (.int .i64 0) := by rw [blk_cell hrs]; rfl
  have lrs := blk_lt hrs
  clear hd1 hd2 hd3 hd4
  refine (has_any v1 v2 (-(vn : Int)) _ hvb.1 hvb.2 (by omega) (by omega)).mono ?_
  rintro e u2 ⟨rfl, b2⟩
  replace hM := hM.trans (SMoved.of_below b2)
  replace hS := hS.later b2
  replace lb := blk_lt hS.fb
  replace hpa := (b2.block _ (blk_lt hpa)).trans hpa
  replace cpa0 : u2.cell? ⟨w.heap.size, 0, none⟩ = some (.int .i64 (p1 : Int)) := by rw [blk_cell hpa]; rfl
  replace cpa1 : u2.cell? ⟨w.heap.size, 1, none⟩ = some (.int .i64 (p2 : Int)) := by rw [blk_cell hpa]; rfl
  replace lpa := blk_lt hpa
  replace hva := (b2.block _ (blk_lt hva)).trans hva
  replace cva0 : u2.cell? ⟨w.heap.size + 1, 0, none⟩ = some (.int .i64 (v1 : Int)) := by rw [blk_cell hva]; rfl
  replace cva1 : u2.cell? ⟨w.heap.size + 1, 1, none⟩ = some (.int .i64 (v2 : Int)) := by rw [blk_cell hva]; rfl
  replace lva := blk_lt hva
  replace hrs := (b2.block _ (blk_lt hrs)).trans hrs
  replace crs0 : u2.cell? ⟨w.heap.size + 2, 0, none⟩ = some (.int .i64 0) := by rw [blk_cell hrs]; rfl
  replace crs1 : u2.cell? ⟨w.heap.size + 2, 1, none⟩ = some (.int .i64 0) := by rw [blk_cell hrs]; rfl
  replace lrs := blk_lt hrs
  clear cb0 hx cg0 hbE hge
  cases hhl : hasLit (v1, v2) (-(vn : Int)) with
  | true =>
    have HB2 := hide (unhide HBA (-(vn : Int)) (vn : Int) (by rw [hhl]; rfl) (by omega))
    have hLN : LookIn C m (d + 1) (withLit (p1, p2) (-(vn : Int))) S := unhide HNR false
    have hLF : LookIn C m (d + 1) (withLit (p1, p2) (vn : Int)) (lookM C m (withLit (p1, p2) (-(vn : Int))) (d + 1) S).1 := unhide HFA false true
    clear HBA HNR HFA hhl
    go_wp2_with fail
    refine (with_any p1 p2 (-(vn : Int)) _ hp.1 hp.2 (by omega) (by omega)).mono ?_
    rintro e u3 ⟨rfl, b3⟩
    replace hM := hM.trans (SMoved.of_below b3)
    replace hS := hS.later b3
    replace lb := blk_lt hS.fb
    replace hpa := (b3.block _ (blk_lt hpa)).trans hpa
    replace cpa0 : u3.cell? ⟨w.heap.size, 0, none⟩ = some (.int .i64 (p1 : Int)) := by rw [blk_cell hpa]; rfl
    replace cpa1 : u3.cell? ⟨w.heap.size, 1, none⟩ = some (.int .i64 (p2 : Int)) := by rw [blk_cell hpa]; rfl
    replace lpa := blk_lt hpa
    replace hva := (b3.block _ (blk_lt hva)).trans hva
    replace cva0 : u3.cell? ⟨w.heap.size + 1, 0, none⟩ = some (.int .i64 (v1 : Int)) := by rw [blk_cell hva]; rfl
    replace cva1 : u3.cell? ⟨w.heap.size + 1, 1, none⟩ = some (.int .i64 (v2 : Int)) := by rw [blk_cell hva]; rfl
    replace lva := blk_lt hva
    replace hrs := (b3.block _ (blk_lt hrs)).trans hrs
    replace crs0 : u3.cell? ⟨w.heap.size + 2, 0, none⟩ = some (.int .i64 0) := by rw [blk_cell hrs]; rfl
    replace crs1 : u3.cell? ⟨w.heap.size + 2, 1, none⟩ = some (.int .i64 0) := by rw [blk_cell hrs]; rfl
    replace lrs := blk_lt hrs
    have hw9 : (withLit (p1, p2) (-(vn : Int))).1 < 512 ∧ (withLit (p1, p2) (-(vn : Int))).2 < 512 := withLit_lt (p1, p2) (-(vn : Int)) hp.1 hp.2
    generalize withLit (p1, p2) (-(vn : Int)) = nr at *
    obtain ⟨n1, n2⟩ := nr
    dsimp only at hw9 ⊢
    go_wp2_with fail
    have nnr : Far b V u3.heap.size := hS.fresh (Nat.le_refl _)
    generalize hw0 : u3.alloc (.cells #[.int .i64 (n1 : Int), .int .i64 (n2 : Int)] 74) = u4
    have b4 : Below u3.heap.size u3 u4 := by rw [← hw0]; exact (Below.refl _ _).alloc (Nat.le_refl _) _
    have hnr : u4.heap[u3.heap.size]? = some (.cells #[.int .i64 (n1 : Int), .int .i64 (n2 : Int)] 74 (0, 0)) := by rw [← hw0]; exact heap_alloc_new _ _
    clear hw0
    replace hM := hM.trans (SMoved.of_below b4)
    replace hS := hS.later b4
    replace lb := blk_lt hS.fb
    replace hpa := (b4.block _ (blk_lt hpa)).trans hpa
    replace cpa0 : u4.cell? ⟨w.heap.size, 0, none⟩ = some (.int .i64 (p1 : Int)) := by rw [blk_cell hpa]; rfl
    replace cpa1 : u4.cell? ⟨w.heap.size, 1, none⟩ = some (.int .i64 (p2 : Int)) := by rw [blk_cell hpa]; rfl
    replace lpa := blk_lt hpa
    replace hva := (b4.block _ (blk_lt hva)).trans hva
    replace cva0 : u4.cell? ⟨w.heap.size + 1, 0, none⟩ = some (.int .i64 (v1 : Int)) := by rw [blk_cell hva]; rfl
    replace cva1 : u4.cell? ⟨w.heap.size + 1, 1, none⟩ = some (.int .i64 (v2 : Int)) := by rw [blk_cell hva]; rfl
    replace lva := blk_lt hva
    replace hrs := (b4.block _ (blk_lt hrs)).trans hrs
    replace crs0 : u4.cell? ⟨w.heap.size + 2, 0, none⟩ = some (.int .i64 0) := by rw [blk_cell hrs]; rfl
    replace crs1 : u4.cell? ⟨w.heap.size + 2, 1, none⟩ = some (.int .i64 0) := by rw [blk_cell hrs]; rfl
    replace lrs := blk_lt hrs
    have cnr0 : u4.cell? ⟨u3.heap.size, 0, none⟩ = some (.int .i64 (n1 : Int)) := by rw [blk_cell hnr]; rfl
    have cnr1 : u4.cell? ⟨u3.heap.size, 1, none⟩ = some (.int .i64 (n2 : Int)) := by rw [blk_cell hnr]; rfl
    have lnr := blk_lt hnr
    have hlo := hLN.out hC
    have hkk := hLN.lk hC
    refine (hLk.next b C S V (n1, n2) d _ hC hLN hS).mono ?_
    rintro e u5 ⟨rfl, V2, hS2, hM2⟩
    replace hpa := hM2.blk hpa npa
    replace npa := hM2.far lpa npa
    replace hva := hM2.blk hva nva
    replace nva := hM2.far lva nva
    replace hrs := hM2.blk hrs nrs
    replace nrs := hM2.far lrs nrs
    replace hnr := hM2.blk hnr nnr
    replace nnr := hM2.far lnr nnr
    replace hM := hM.trans hM2
    replace hS := hS2
    clear hM2
    replace lb := blk_lt hS.fb
    replace cpa0 : u5.cell? ⟨w.heap.size, 0, none⟩ = some (.int .i64 (p1 : Int)) := by rw [blk_cell hpa]; rfl
    replace cpa1 : u5.cell? ⟨w.heap.size, 1, none⟩ = some (.int .i64 (p2 : Int)) := by rw [blk_cell hpa]; rfl
    replace lpa := blk_lt hpa
    replace cva0 : u5.cell? ⟨w.heap.size + 1, 0, none⟩ = some (.int .i64 (v1 : Int)) := by rw [blk_cell hva]; rfl
    replace cva1 : u5.cell? ⟨w.heap.size + 1, 1, none⟩ = some (.int .i64 (v2 : Int)) := by rw [blk_cell hva]; rfl
    replace lva := blk_lt hva
    replace crs0 : u5.cell? ⟨w.heap.size + 2, 0, none⟩ = some (.int .i64 0) := by rw [blk_cell hrs]; rfl
    replace crs1 : u5.cell? ⟨w.heap.size + 2, 1, none⟩ = some (.int .i64 0) := by rw [blk_cell hrs]; rfl
    replace lrs := blk_lt hrs
    replace cnr0 : u5.cell? ⟨u3.heap.size, 0, none⟩ = some (.int .i64 (n1 : Int)) := by rw [blk_cell hnr]; rfl
    replace cnr1 : u5.cell? ⟨u3.heap.size, 1, none⟩ = some (.int .i64 (n2 : Int)) := by rw [blk_cell hnr]; rfl
    replace lnr := blk_lt hnr
    clear hLN
    generalize lookM C m (n1, n2) (d + 1) S = R at *
    obtain ⟨S2, f1, f2⟩ := R
    dsimp only at hS hlo hkk hLF HB2 ⊢
    have hB2 := hlo.bd hC
    go_wp2_with fail
    have nfi : Far b V2 u5.heap.size := hS.fresh (Nat.le_refl _)
    generalize hw0 : u5.alloc (.cells #[.int .i64 (f1 : Int), .int .i64 (f2 : Int)] 129) = u6
    have b6 : Below u5.heap.size u5 u6 := by rw [← hw0]; exact (Below.refl _ _).alloc (Nat.le_refl _) _
    have hfi : u6.heap[u5.heap.size]? = some (.cells #[.int .i64 (f1 : Int), .int .i64 (f2 : Int)] 129 (0, 0)) := by rw [← hw0]; exact heap_alloc_new _ _
    clear hw0
    replace hM := hM.trans (SMoved.of_below b6)
    replace hS := hS.later b6
    replace lb := blk_lt hS.fb
    replace hpa := (b6.block _ (blk_lt hpa)).trans hpa
    replace cpa0 : u6.cell? ⟨w.heap.size, 0, none⟩ = some (.int .i64 (p1 : Int)) := by rw [blk_cell hpa]; rfl
    replace cpa1 : u6.cell? ⟨w.heap.size, 1, none⟩ = some (.int .i64 (p2 : Int)) := by rw [blk_cell hpa]; rfl
    replace lpa := blk_lt hpa
    replace hva := (b6.block _ (blk_lt hva)).trans hva
    replace cva0 : u6.cell? ⟨w.heap.size + 1, 0, none⟩ = some (.int .i64 (v1 : Int)) := by rw [blk_cell hva]; rfl
    replace cva1 : u6.cell? ⟨w.heap.size + 1, 1, none⟩ = some (.int .i64 (v2 : Int)) := by rw [blk_cell hva]; rfl
    replace lva := blk_lt hva
    replace hrs := (b6.block _ (blk_lt hrs)).trans hrs
    replace crs0 : u6.cell? ⟨w.heap.size + 2, 0, none⟩ = some (.int .i64 0) := by rw [blk_cell hrs]; rfl
    replace crs1 : u6.cell? ⟨w.heap.size + 2, 1, none⟩ = some (.int .i64 0) := by rw [blk_cell hrs]; rfl
    replace lrs := blk_lt hrs
    replace hnr := (b6.block _ (blk_lt hnr)).trans hnr
    replace cnr0 : u6.cell? ⟨u3.heap.size, 0, none⟩ = some (.int .i64 (n1 : Int)) := by rw [blk_cell hnr]; rfl
    replace cnr1 : u6.cell? ⟨u3.heap.size, 1, none⟩ = some (.int .i64 (n2 : Int)) := by rw [blk_cell hnr]; rfl
    replace lnr := blk_lt hnr
    have cfi0 : u6.cell? ⟨u5.heap.size, 0, none⟩ = some (.int .i64 (f1 : Int)) := by rw [blk_cell hfi]; rfl
    have cfi1 : u6.cell? ⟨u5.heap.size, 1, none⟩ = some (.int .i64 (f2 : Int)) := by rw [blk_cell hfi]; rfl
    have lfi := blk_lt hfi
    refine (shas_any b C S2 V2 (f1, f2) vn _ hS hB2).mono ?_
    rintro e u7 ⟨rfl, b7⟩
    replace hM := hM.trans (SMoved.of_below b7)
    replace hS := hS.later b7
    replace lb := blk_lt hS.fb
    replace hpa := (b7.block _ (blk_lt hpa)).trans hpa
    replace cpa0 : u7.cell? ⟨w.heap.size, 0, none⟩ = some (.int .i64 (p1 : Int)) := by rw [blk_cell hpa]; rfl
    replace cpa1 : u7.cell? ⟨w.heap.size, 1, none⟩ = some (.int .i64 (p2 : Int)) := by rw [blk_cell hpa]; rfl
    replace lpa := blk_lt hpa
    replace hva := (b7.block _ (blk_lt hva)).trans hva
    replace cva0 : u7.cell? ⟨w.heap.size + 1, 0, none⟩ = some (.int .i64 (v1 : Int)) := by rw [blk_cell hva]; rfl
    replace cva1 : u7.cell? ⟨w.heap.size + 1, 1, none⟩ = some (.int .i64 (v2 : Int)) := by rw [blk_cell hva]; rfl
    replace lva := blk_lt hva
    replace hrs := (b7.block _ (blk_lt hrs)).trans hrs
    replace crs0 : u7.cell? ⟨w.heap.size + 2, 0, none⟩ = some (.int .i64 0) := by rw [blk_cell hrs]; rfl
    replace crs1 : u7.cell? ⟨w.heap.size + 2, 1, none⟩ = some (.int .i64 0) := by rw [blk_cell hrs]; rfl
    replace lrs := blk_lt hrs
    replace hnr := (b7.block _ (blk_lt hnr)).trans hnr
    replace cnr0 : u7.cell? ⟨u3.heap.size, 0, none⟩ = some (.int .i64 (n1 : Int)) := by rw [blk_cell hnr]; rfl
    replace cnr1 : u7.cell? ⟨u3.heap.size, 1, none⟩ = some (.int .i64 (n2 : Int)) := by rw [blk_cell hnr]; rfl
    replace lnr := blk_lt hnr
    replace hfi := (b7.block _ (blk_lt hfi)).trans hfi
    replace cfi0 : u7.cell? ⟨u5.heap.size, 0, none⟩ = some (.int .i64 (f1 : Int)) := by rw [blk_cell hfi]; rfl
    replace cfi1 : u7.cell? ⟨u5.heap.size, 1, none⟩ = some (.int .i64 (f2 : Int)) := by rw [blk_cell hfi]; rfl
    replace lfi := blk_lt hfi
    cases hh1 : hasVarB (S2.lits (f1, f2)) vn with
    | false =>
      have HX : Hid (branchM C (m + 1) (p1, p2) d (v1, v2) S = (S2, (f1, f2))) := hide (by rw [unhide HB2, hh1]; rfl)
      clear hh1
      have z0 := blk_free hrs 0
      have z1 := blk_free hrs 1
      have hR := blk_set (blk_set hrs 0 (.int .i64 (f1 : Int))) 1 (.int .i64 (f2 : Int))
      have j0 := blk_cell hR 0
      have j1 := blk_cell hR 1
      go_wp2_with fail
      refine bodyPost_ret (v := FactV (f1, f2)) (by simp [results, Tryz.results92, go_sem, j0, j1]) rfl ⟨by rw [unhide HX], ?_⟩
      rw [unhide HX]
      exact ⟨_, (hS.set nrs 0 _).set nrs 1 _, (hM.set (k := w.heap.size + 2) (by omega) 0 _).set (k := w.heap.size + 2) (by omega) 1 _⟩
    | true =>
      have hki := hkk.kind hh1
      have HB3 := hide ((unhide HB2).trans (if_pos hh1))
      clear hh1 HB2 hkk
      go_wp2_with fail
      refine (with_any p1 p2 (vn : Int) _ hp.1 hp.2 (by omega) (by omega)).mono ?_
      rintro e u8 ⟨rfl, b8⟩
      replace hM := hM.trans (SMoved.of_below b8)
      replace hS := hS.later b8
      replace lb := blk_lt hS.fb
      replace hpa := (b8.block _ (blk_lt hpa)).trans hpa
      replace cpa0 : u8.cell? ⟨w.heap.size, 0, none⟩ = some (.int .i64 (p1 : Int)) := by rw [blk_cell hpa]; rfl
      replace cpa1 : u8.cell? ⟨w.heap.size, 1, none⟩ = some (.int .i64 (p2 : Int)) := by rw [blk_cell hpa]; rfl
      replace lpa := blk_lt hpa
      replace hva := (b8.block _ (blk_lt hva)).trans hva
      replace cva0 : u8.cell? ⟨w.heap.size + 1, 0, none⟩ = some (.int .i64 (v1 : Int)) := by rw [blk_cell hva]; rfl
      replace cva1 : u8.cell? ⟨w.heap.size + 1, 1, none⟩ = some (.int .i64 (v2 : Int)) := by rw [blk_cell hva]; rfl
      replace lva := blk_lt hva
      replace hrs := (b8.block _ (blk_lt hrs)).trans hrs
      replace crs0 : u8.cell? ⟨w.heap.size + 2, 0, none⟩ = some (.int .i64 0) := by rw [blk_cell hrs]; rfl
      replace crs1 : u8.cell? ⟨w.heap.size + 2, 1, none⟩ = some (.int .i64 0) := by rw [blk_cell hrs]; rfl
      replace lrs := blk_lt hrs
      replace hnr := (b8.block _ (blk_lt hnr)).trans hnr
      replace cnr0 : u8.cell? ⟨u3.heap.size, 0, none⟩ = some (.int .i64 (n1 : Int)) := by rw [blk_cell hnr]; rfl
      replace cnr1 : u8.cell? ⟨u3.heap.size, 1, none⟩ = some (.int .i64 (n2 : Int)) := by rw [blk_cell hnr]; rfl
      replace lnr := blk_lt hnr
      replace hfi := (b8.block _ (blk_lt hfi)).trans hfi
      replace cfi0 : u8.cell? ⟨u5.heap.size, 0, none⟩ = some (.int .i64 (f1 : Int)) := by rw [blk_cell hfi]; rfl
      replace cfi1 : u8.cell? ⟨u5.heap.size, 1, none⟩ = some (.int .i64 (f2 : Int)) := by rw [blk_cell hfi]; rfl
      replace lfi := blk_lt hfi
      have hw9b : (withLit (p1, p2) (vn : Int)).1 < 512 ∧ (withLit (p1, p2) (vn : Int)).2 < 512 := withLit_lt (p1, p2) (vn : Int) hp.1 hp.2
      generalize withLit (p1, p2) (vn : Int) = fr at *
      obtain ⟨r1, r2⟩ := fr
      dsimp only at hw9b ⊢
      go_wp2_with fail
      have nfr : Far b V2 u8.heap.size := hS.fresh (Nat.le_refl _)
      generalize hw0 : u8.alloc (.cells #[.int .i64 (r1 : Int), .int .i64 (r2 : Int)] 74) = u9
      have b9 : Below u8.heap.size u8 u9 := by rw [← hw0]; exact (Below.refl _ _).alloc (Nat.le_refl _) _
      have hfr : u9.heap[u8.heap.size]? = some (.cells #[.int .i64 (r1 : Int), .int .i64 (r2 : Int)] 74 (0, 0)) := by rw [← hw0]; exact heap_alloc_new _ _
      clear hw0
      replace hM := hM.trans (SMoved.of_below b9)
      replace hS := hS.later b9
      replace lb := blk_lt hS.fb
      replace hpa := (b9.block _ (blk_lt hpa)).trans hpa
      replace cpa0 : u9.cell? ⟨w.heap.size, 0, none⟩ = some (.int .i64 (p1 : Int)) := by rw [blk_cell hpa]; rfl
      replace cpa1 : u9.cell? ⟨w.heap.size, 1, none⟩ = some (.int .i64 (p2 : Int)) := by rw [blk_cell hpa]; rfl
      replace lpa := blk_lt hpa
      replace hva := (b9.block _ (blk_lt hva)).trans hva
      replace cva0 : u9.cell? ⟨w.heap.size + 1, 0, none⟩ = some (.int .i64 (v1 : Int)) := by rw [blk_cell hva]; rfl
      replace cva1 : u9.cell? ⟨w.heap.size + 1, 1, none⟩ = some (.int .i64 (v2 : Int)) := by rw [blk_cell hva]; rfl
      replace lva := blk_lt hva
      replace hrs := (b9.block _ (blk_lt hrs)).trans hrs
      replace crs0 : u9.cell? ⟨w.heap.size + 2, 0, none⟩ = some (.int .i64 0) := by rw [blk_cell hrs]; rfl
      replace crs1 : u9.cell? ⟨w.heap.size + 2, 1, none⟩ = some (.int .i64 0) := by rw [blk_cell hrs]; rfl
      replace lrs := blk_lt hrs
      replace hnr := (b9.block _ (blk_lt hnr)).trans hnr
      replace cnr0 : u9.cell? ⟨u3.heap.size, 0, none⟩ = some (.int .i64 (n1 : Int)) := by rw [blk_cell hnr]; rfl
      replace cnr1 : u9.cell? ⟨u3.heap.size, 1, none⟩ = some (.int .i64 (n2 : Int)) := by rw [blk_cell hnr]; rfl
      replace lnr := blk_lt hnr
      replace hfi := (b9.block _ (blk_lt hfi)).trans hfi
      replace cfi0 : u9.cell? ⟨u5.heap.size, 0, none⟩ = some (.int .i64 (f1 : Int)) := by rw [blk_cell hfi]; rfl
      replace cfi1 : u9.cell? ⟨u5.heap.size, 1, none⟩ = some (.int .i64 (f2 : Int)) := by rw [blk_cell hfi]; rfl
      replace lfi := blk_lt hfi
      have cfr0 : u9.cell? ⟨u8.heap.size, 0, none⟩ = some (.int .i64 (r1 : Int)) := by rw [blk_cell hfr]; rfl
      have cfr1 : u9.cell? ⟨u8.heap.size, 1, none⟩ = some (.int .i64 (r2 : Int)) := by rw [blk_cell hfr]; rfl
      have lfr := blk_lt hfr
      have hlo2 := hLF.out hC
      refine (hLk.next b C S2 V2 (r1, r2) d _ hC hLF hS).mono ?_
      rintro e u10 ⟨rfl, V3, hS2, hM2⟩
      replace hpa := hM2.blk hpa npa
      replace npa := hM2.far lpa npa
      replace hva := hM2.blk hva nva
      replace nva := hM2.far lva nva
      replace hrs := hM2.blk hrs nrs
      replace nrs := hM2.far lrs nrs
      replace hnr := hM2.blk hnr nnr
      replace nnr := hM2.far lnr nnr
      replace hfi := hM2.blk hfi nfi
      replace nfi := hM2.far lfi nfi
      replace hfr := hM2.blk hfr nfr
      replace nfr := hM2.far lfr nfr
      replace hM := hM.trans hM2
      replace hS := hS2
      clear hM2
      replace lb := blk_lt hS.fb
      replace cpa0 : u10.cell? ⟨w.heap.size, 0, none⟩ = some (.int .i64 (p1 : Int)) := by rw [blk_cell hpa]; rfl
      replace cpa1 : u10.cell? ⟨w.heap.size, 1, none⟩ = some (.int .i64 (p2 : Int)) := by rw [blk_cell hpa]; rfl
      replace lpa := blk_lt hpa
      replace cva0 : u10.cell? ⟨w.heap.size + 1, 0, none⟩ = some (.int .i64 (v1 : Int)) := by rw [blk_cell hva]; rfl
      replace cva1 : u10.cell? ⟨w.heap.size + 1, 1, none⟩ = some (.int .i64 (v2 : Int)) := by rw [blk_cell hva]; rfl
      replace lva := blk_lt hva
      replace crs0 : u10.cell? ⟨w.heap.size + 2, 0, none⟩ = some (.int .i64 0) := by rw [blk_cell hrs]; rfl
      replace crs1 : u10.cell? ⟨w.heap.size + 2, 1, none⟩ = some (.int .i64 0) := by rw [blk_cell hrs]; rfl
      replace lrs := blk_lt hrs
      replace cnr0 : u10.cell? ⟨u3.heap.size, 0, none⟩ = some (.int .i64 (n1 : Int)) := by rw [blk_cell hnr]; rfl
      replace cnr1 : u10.cell? ⟨u3.heap.size, 1, none⟩ = some (.int .i64 (n2 : Int)) := by rw [blk_cell hnr]; rfl
      replace lnr := blk_lt hnr
      replace cfi0 : u10.cell? ⟨u5.heap.size, 0, none⟩ = some (.int .i64 (f1 : Int)) := by rw [blk_cell hfi]; rfl
      replace cfi1 : u10.cell? ⟨u5.heap.size, 1, none⟩ = some (.int .i64 (f2 : Int)) := by rw [blk_cell hfi]; rfl
      replace lfi := blk_lt hfi
      replace cfr0 : u10.cell? ⟨u8.heap.size, 0, none⟩ = some (.int .i64 (r1 : Int)) := by rw [blk_cell hfr]; rfl
      replace cfr1 : u10.cell? ⟨u8.heap.size, 1, none⟩ = some (.int .i64 (r2 : Int)) := by rw [blk_cell hfr]; rfl
      replace lfr := blk_lt hfr
      clear hLF
      generalize lookM C m (r1, r2) (d + 1) S2 = R at *
      obtain ⟨S3, g1, g2⟩ := R
      dsimp only at hS hlo2 HB3 ⊢
      have hB3 := hlo2.bd hC
      go_wp2_with fail
      have nse : Far b V3 u10.heap.size := hS.fresh (Nat.le_refl _)
      generalize hw0 : u10.alloc (.cells #[.int .i64 (g1 : Int), .int .i64 (g2 : Int)] 129) = u11
      have b11 : Below u10.heap.size u10 u11 := by rw [← hw0]; exact (Below.refl _ _).alloc (Nat.le_refl _) _
      have hse : u11.heap[u10.heap.size]? = some (.cells #[.int .i64 (g1 : Int), .int .i64 (g2 : Int)] 129 (0, 0)) := by rw [← hw0]; exact heap_alloc_new _ _
      clear hw0
      replace hM := hM.trans (SMoved.of_below b11)
      replace hS := hS.later b11
      replace lb := blk_lt hS.fb
      replace hpa := (b11.block _ (blk_lt hpa)).trans hpa
      replace cpa0 : u11.cell? ⟨w.heap.size, 0, none⟩ = some (.int .i64 (p1 : Int)) := by rw [blk_cell hpa]; rfl
      replace cpa1 : u11.cell? ⟨w.heap.size, 1, none⟩ = some (.int .i64 (p2 : Int)) := by rw [blk_cell hpa]; rfl
      replace lpa := blk_lt hpa
      replace hva := (b11.block _ (blk_lt hva)).trans hva
      replace cva0 : u11.cell? ⟨w.heap.size + 1, 0, none⟩ = some (.int .i64 (v1 : Int)) := by rw [blk_cell hva]; rfl
      replace cva1 : u11.cell? ⟨w.heap.size + 1, 1, none⟩ = some (.int .i64 (v2 : Int)) := by rw [blk_cell hva]; rfl
      replace lva := blk_lt hva
      replace hrs := (b11.block _ (blk_lt hrs)).trans hrs
      replace crs0 : u11.cell? ⟨w.heap.size + 2, 0, none⟩ = some (.int .i64 0) := by rw [blk_cell hrs]; rfl
      replace crs1 : u11.cell? ⟨w.heap.size + 2, 1, none⟩ = some (.int .i64 0) := by rw [blk_cell hrs]; rfl
      replace lrs := blk_lt hrs
      replace hnr := (b11.block _ (blk_lt hnr)).trans hnr
      replace cnr0 : u11.cell? ⟨u3.heap.size, 0, none⟩ = some (.int .i64 (n1 : Int)) := by rw [blk_cell hnr]; rfl
      replace cnr1 : u11.cell? ⟨u3.heap.size, 1, none⟩ = some (.int .i64 (n2 : Int)) := by rw [blk_cell hnr]; rfl
      replace lnr := blk_lt hnr
      replace hfi := (b11.block _ (blk_lt hfi)).trans hfi
      replace cfi0 : u11.cell? ⟨u5.heap.size, 0, none⟩ = some (.int .i64 (f1 : Int)) := by rw [blk_cell hfi]; rfl
      replace cfi1 : u11.cell? ⟨u5.heap.size, 1, none⟩ = some (.int .i64 (f2 : Int)) := by rw [blk_cell hfi]; rfl
      replace lfi := blk_lt hfi
      replace hfr := (b11.block _ (blk_lt hfr)).trans hfr
      replace cfr0 : u11.cell? ⟨u8.heap.size, 0, none⟩ = some (.int .i64 (r1 : Int)) := by rw [blk_cell hfr]; rfl
      replace cfr1 : u11.cell? ⟨u8.heap.size, 1, none⟩ = some (.int .i64 (r2 : Int)) := by rw [blk_cell hfr]; rfl
      replace lfr := blk_lt hfr
      have cse0 : u11.cell? ⟨u10.heap.size, 0, none⟩ = some (.int .i64 (g1 : Int)) := by rw [blk_cell hse]; rfl
      have cse1 : u11.cell? ⟨u10.heap.size, 1, none⟩ = some (.int .i64 (g2 : Int)) := by rw [blk_cell hse]; rfl
      have lse := blk_lt hse
      refine (shas_any b C S3 V3 (g1, g2) vn _ hS hB3).mono ?_
      rintro e u12 ⟨rfl, b12⟩
      replace hM := hM.trans (SMoved.of_below b12)
      replace hS := hS.later b12
      replace lb := blk_lt hS.fb
      replace hpa := (b12.block _ (blk_lt hpa)).trans hpa
      replace cpa0 : u12.cell? ⟨w.heap.size, 0, none⟩ = some (.int .i64 (p1 : Int)) := by rw [blk_cell hpa]; rfl
      replace cpa1 : u12.cell? ⟨w.heap.size, 1, none⟩ = some (.int .i64 (p2 : Int)) := by rw [blk_cell hpa]; rfl
      replace lpa := blk_lt hpa
      replace hva := (b12.block _ (blk_lt hva)).trans hva
      replace cva0 : u12.cell? ⟨w.heap.size + 1, 0, none⟩ = some (.int .i64 (v1 : Int)) := by rw [blk_cell hva]; rfl
      replace cva1 : u12.cell? ⟨w.heap.size + 1, 1, none⟩ = some (.int .i64 (v2 : Int)) := by rw [blk_cell hva]; rfl
      replace lva := blk_lt hva
      replace hrs := (b12.block _ (blk_lt hrs)).trans hrs
      replace crs0 : u12.cell? ⟨w.heap.size + 2, 0, none⟩ = some (.int .i64 0) := by rw [blk_cell hrs]; rfl
      replace crs1 : u12.cell? ⟨w.heap.size + 2, 1, none⟩ = some (.int .i64 0) := by rw [blk_cell hrs]; rfl
      replace lrs := blk_lt hrs
      replace hnr := (b12.block _ (blk_lt hnr)).trans hnr
      replace cnr0 : u12.cell? ⟨u3.heap.size, 0, none⟩ = some (.int .i64 (n1 : Int)) := by rw [blk_cell hnr]; rfl
      replace cnr1 : u12.cell? ⟨u3.heap.size, 1, none⟩ = some (.int .i64 (n2 : Int)) := by rw [blk_cell hnr]; rfl
      replace lnr := blk_lt hnr
      replace hfi := (b12.block _ (blk_lt hfi)).trans hfi
      replace cfi0 : u12.cell? ⟨u5.heap.size, 0, none⟩ = some (.int .i64 (f1 : Int)) := by rw [blk_cell hfi]; rfl
      replace cfi1 : u12.cell? ⟨u5.heap.size, 1, none⟩ = some (.int .i64 (f2 : Int)) := by rw [blk_cell hfi]; rfl
      replace lfi := blk_lt hfi
      replace hfr := (b12.block _ (blk_lt hfr)).trans hfr
      replace cfr0 : u12.cell? ⟨u8.heap.size, 0, none⟩ = some (.int .i64 (r1 : Int)) := by rw [blk_cell hfr]; rfl
      replace cfr1 : u12.cell? ⟨u8.heap.size, 1, none⟩ = some (.int .i64 (r2 : Int)) := by rw [blk_cell hfr]; rfl
      replace lfr := blk_lt hfr
      replace hse := (b12.block _ (blk_lt hse)).trans hse
      replace cse0 : u12.cell? ⟨u10.heap.size, 0, none⟩ = some (.int .i64 (g1 : Int)) := by rw [blk_cell hse]; rfl
      replace cse1 : u12.cell? ⟨u10.heap.size, 1, none⟩ = some (.int .i64 (g2 : Int)) := by rw [blk_cell hse]; rfl
      replace lse := blk_lt hse
      cases hh2 : hasVarB (S3.lits (g1, g2)) vn with
      | false =>
        have HX : Hid (branchM C (m + 1) (p1, p2) d (v1, v2) S = (S3, (g1, g2))) := hide (by rw [unhide HB3, hh2]; rfl)
        clear hh2
        have z0 := blk_free hrs 0
        have z1 := blk_free hrs 1
        have hR := blk_set (blk_set hrs 0 (.int .i64 (g1 : Int))) 1 (.int .i64 (g2 : Int))
        have j0 := blk_cell hR 0
        have j1 := blk_cell hR 1
        go_wp2_with fail
        refine bodyPost_ret (v := FactV (g1, g2)) (by simp [results, Tryz.results92, go_sem, j0, j1]) rfl ⟨by rw [unhide HX], ?_⟩
        rw [unhide HX]
        exact ⟨_, (hS.set nrs 0 _).set nrs 1 _, (hM.set (k := w.heap.size + 2) (by omega) 0 _).set (k := w.heap.size + 2) (by omega) 1 _⟩
      | true =>
        have HX : Hid (branchM C (m + 1) (p1, p2) d (v1, v2) S = joinOf C S3 (f1, f2) (g1, g2) vn) := hide (by rw [unhide HB3, hh2]; rfl)
        clear hh2
        have hpl := hlo2.plen f1
        go_wp2_with fail
        refine (join_any b C S3 V3 (f1, f2) (g1, g2) vn _ hS hB3 hki hpl (by omega)).mono ?_
        rintro e u13 ⟨rfl, V4, hS2, hM2⟩
        replace hpa := hM2.blk hpa npa
        replace npa := hM2.far lpa npa
        replace hva := hM2.blk hva nva
        replace nva := hM2.far lva nva
        replace hrs := hM2.blk hrs nrs
        replace nrs := hM2.far lrs nrs
        replace hnr := hM2.blk hnr nnr
        replace nnr := hM2.far lnr nnr
        replace hfi := hM2.blk hfi nfi
        replace nfi := hM2.far lfi nfi
        replace hfr := hM2.blk hfr nfr
        replace nfr := hM2.far lfr nfr
        replace hse := hM2.blk hse nse
        replace nse := hM2.far lse nse
        replace hM := hM.trans hM2
        replace hS := hS2
        clear hM2
        replace lb := blk_lt hS.fb
        replace cpa0 : u13.cell? ⟨w.heap.size, 0, none⟩ = some (.int .i64 (p1 : Int)) := by rw [blk_cell hpa]; rfl
        replace cpa1 : u13.cell? ⟨w.heap.size, 1, none⟩ = some (.int .i64 (p2 : Int)) := by rw [blk_cell hpa]; rfl
        replace lpa := blk_lt hpa
        replace cva0 : u13.cell? ⟨w.heap.size + 1, 0, none⟩ = some (.int .i64 (v1 : Int)) := by rw [blk_cell hva]; rfl
        replace cva1 : u13.cell? ⟨w.heap.size + 1, 1, none⟩ = some (.int .i64 (v2 : Int)) := by rw [blk_cell hva]; rfl
        replace lva := blk_lt hva
        replace crs0 : u13.cell? ⟨w.heap.size + 2, 0, none⟩ = some (.int .i64 0) := by rw [blk_cell hrs]; rfl
        replace crs1 : u13.cell? ⟨w.heap.size + 2, 1, none⟩ = some (.int .i64 0) := by rw [blk_cell hrs]; rfl
        replace lrs := blk_lt hrs
        replace cnr0 : u13.cell? ⟨u3.heap.size, 0, none⟩ = some (.int .i64 (n1 : Int)) := by rw [blk_cell hnr]; rfl
        replace cnr1 : u13.cell? ⟨u3.heap.size, 1, none⟩ = some (.int .i64 (n2 : Int)) := by rw [blk_cell hnr]; rfl
        replace lnr := blk_lt hnr
        replace cfi0 : u13.cell? ⟨u5.heap.size, 0, none⟩ = some (.int .i64 (f1 : Int)) := by rw [blk_cell hfi]; rfl
        replace cfi1 : u13.cell? ⟨u5.heap.size, 1, none⟩ = some (.int .i64 (f2 : Int)) := by rw [blk_cell hfi]; rfl
        replace lfi := blk_lt hfi
        replace cfr0 : u13.cell? ⟨u8.heap.size, 0, none⟩ = some (.int .i64 (r1 : Int)) := by rw [blk_cell hfr]; rfl
        replace cfr1 : u13.cell? ⟨u8.heap.size, 1, none⟩ = some (.int .i64 (r2 : Int)) := by rw [blk_cell hfr]; rfl
        replace lfr := blk_lt hfr
        replace cse0 : u13.cell? ⟨u10.heap.size, 0, none⟩ = some (.int .i64 (g1 : Int)) := by rw [blk_cell hse]; rfl
        replace cse1 : u13.cell? ⟨u10.heap.size, 1, none⟩ = some (.int .i64 (g2 : Int)) := by rw [blk_cell hse]; rfl
        replace lse := blk_lt hse
        generalize joinOf C S3 (f1, f2) (g1, g2) vn = R at *
        obtain ⟨S4, j1', j2'⟩ := R
        dsimp only at hS HX ⊢
        have z0 := blk_free hrs 0
        have z1 := blk_free hrs 1
        have hR := blk_set (blk_set hrs 0 (.int .i64 (j1' : Int))) 1 (.int .i64 (j2' : Int))
        have j0 := blk_cell hR 0
        have j1 := blk_cell hR 1
        go_wp2_with fail
        refine bodyPost_ret (v := FactV (j1', j2')) (by simp [results, Tryz.results92, go_sem, j0, j1]) rfl ⟨by rw [unhide HX], ?_⟩
        rw [unhide HX]
        exact ⟨_, (hS.set nrs 0 _).set nrs 1 _, (hM.set (k := w.heap.size + 2) (by omega) 0 _).set (k := w.heap.size + 2) (by omega) 1 _⟩
  | false =>
    have HB2 := hide (unhide HBA (vn : Int) (-(vn : Int)) (by rw [hhl]; rfl) rfl)
    have hLN : LookIn C m (d + 1) (withLit (p1, p2) (vn : Int)) S := unhide HNR true
    have hLF : LookIn C m (d + 1) (withLit (p1, p2) (-(vn : Int))) (lookM C m (withLit (p1, p2) (vn : Int)) (d + 1) S).1 := unhide HFA true false
    clear HBA HNR HFA hhl
    go_wp2_with fail
    refine (with_any p1 p2 (vn : Int) _ hp.1 hp.2 (by omega) (by omega)).mono ?_
    rintro e u3 ⟨rfl, b3⟩
    replace hM := hM.trans (SMoved.of_below b3)
    replace hS := hS.later b3
    replace lb := blk_lt hS.fb
    replace hpa := (b3.block _ (blk_lt hpa)).trans hpa
    replace cpa0 : u3.cell? ⟨w.heap.size, 0, none⟩ = some (.int .i64 (p1 : Int)) := by rw [blk_cell hpa]; rfl
    replace cpa1 : u3.cell? ⟨w.heap.size, 1, none⟩ = some (.int .i64 (p2 : Int)) := by rw [blk_cell hpa]; rfl
    replace lpa := blk_lt hpa
    replace hva := (b3.block _ (blk_lt hva)).trans hva
    replace cva0 : u3.cell? ⟨w.heap.size + 1, 0, none⟩ = some (.int .i64 (v1 : Int)) := by rw [blk_cell hva]; rfl
    replace cva1 : u3.cell? ⟨w.heap.size + 1, 1, none⟩ = some (.int .i64 (v2 : Int)) := by rw [blk_cell hva]; rfl
    replace lva := blk_lt hva
    replace hrs := (b3.block _ (blk_lt hrs)).trans hrs
    replace crs0 : u3.cell? ⟨w.heap.size + 2, 0, none⟩ = some (.int .i64 0) := by rw [blk_cell hrs]; rfl
    replace crs1 : u3.cell? ⟨w.heap.size + 2, 1, none⟩ = some (.int .i64 0) := by rw [blk_cell hrs]; rfl
    replace lrs := blk_lt hrs
    have hw9 : (withLit (p1, p2) (vn : Int)).1 < 512 ∧ (withLit (p1, p2) (vn : Int)).2 < 512 := withLit_lt (p1, p2) (vn : Int) hp.1 hp.2
    generalize withLit (p1, p2) (vn : Int) = nr at *
    obtain ⟨n1, n2⟩ := nr
    dsimp only at hw9 ⊢
    go_wp2_with fail
    have nnr : Far b V u3.heap.size := hS.fresh (Nat.le_refl _)
    generalize hw0 : u3.alloc (.cells #[.int .i64 (n1 : Int), .int .i64 (n2 : Int)] 74) = u4
    have b4 : Below u3.heap.size u3 u4 := by rw [← hw0]; exact (Below.refl _ _).alloc (Nat.le_refl _) _
    have hnr : u4.heap[u3.heap.size]? = some (.cells #[.int .i64 (n1 : Int), .int .i64 (n2 : Int)] 74 (0, 0)) := by rw [← hw0]; exact heap_alloc_new _ _
    clear hw0
    replace hM := hM.trans (SMoved.of_below b4)
    replace hS := hS.later b4
    replace lb := blk_lt hS.fb
    replace hpa := (b4.block _ (blk_lt hpa)).trans hpa
    replace cpa0 : u4.cell? ⟨w.heap.size, 0, none⟩ = some (.int .i64 (p1 : Int)) := by rw [blk_cell hpa]; rfl
    replace cpa1 : u4.cell? ⟨w.heap.size, 1, none⟩ = some (.int .i64 (p2 : Int)) := by rw [blk_cell hpa]; rfl
    replace lpa := blk_lt hpa
    replace hva := (b4.block _ (blk_lt hva)).trans hva
    replace cva0 : u4.cell? ⟨w.heap.size + 1, 0, none⟩ = some (.int .i64 (v1 : Int)) := by rw [blk_cell hva]; rfl
    replace cva1 : u4.cell? ⟨w.heap.size + 1, 1, none⟩ = some (.int .i64 (v2 : Int)) := by rw [blk_cell hva]; rfl
    replace lva := blk_lt hva
    replace hrs := (b4.block _ (blk_lt hrs)).trans hrs
    replace crs0 : u4.cell? ⟨w.heap.size + 2, 0, none⟩ = some (.int .i64 0) := by rw [blk_cell hrs]; rfl
    replace crs1 : u4.cell? ⟨w.heap.size + 2, 1, none⟩ = some (.int .i64 0) := by rw [blk_cell hrs]; rfl
    replace lrs := blk_lt hrs
    have cnr0 : u4.cell? ⟨u3.heap.size, 0, none⟩ = some (.int .i64 (n1 : Int)) := by rw [blk_cell hnr]; rfl
    have cnr1 : u4.cell? ⟨u3.heap.size, 1, none⟩ = some (.int .i64 (n2 : Int)) := by rw [blk_cell hnr]; rfl
    have lnr := blk_lt hnr
    have hlo := hLN.out hC
    have hkk := hLN.lk hC
    refine (hLk.next b C S V (n1, n2) d _ hC hLN hS).mono ?_
    rintro e u5 ⟨rfl, V2, hS2, hM2⟩
    replace hpa := hM2.blk hpa npa
    replace npa := hM2.far lpa npa
    replace hva := hM2.blk hva nva
    replace nva := hM2.far lva nva
    replace hrs := hM2.blk hrs nrs
    replace nrs := hM2.far lrs nrs
    replace hnr := hM2.blk hnr nnr
    replace nnr := hM2.far lnr nnr
    replace hM := hM.trans hM2
    replace hS := hS2
    clear hM2
    replace lb := blk_lt hS.fb
    replace cpa0 : u5.cell? ⟨w.heap.size, 0, none⟩ = some (.int .i64 (p1 : Int)) := by rw [blk_cell hpa]; rfl
    replace cpa1 : u5.cell? ⟨w.heap.size, 1, none⟩ = some (.int .i64 (p2 : Int)) := by rw [blk_cell hpa]; rfl
    replace lpa := blk_lt hpa
    replace cva0 : u5.cell? ⟨w.heap.size + 1, 0, none⟩ = some (.int .i64 (v1 : Int)) := by rw [blk_cell hva]; rfl
    replace cva1 : u5.cell? ⟨w.heap.size + 1, 1, none⟩ = some (.int .i64 (v2 : Int)) := by rw [blk_cell hva]; rfl
    replace lva := blk_lt hva
    replace crs0 : u5.cell? ⟨w.heap.size + 2, 0, none⟩ = some (.int .i64 0) := by rw [blk_cell hrs]; rfl
    replace crs1 : u5.cell? ⟨w.heap.size + 2, 1, none⟩ = some (.int .i64 0) := by rw [blk_cell hrs]; rfl
    replace lrs := blk_lt hrs
    replace cnr0 : u5.cell? ⟨u3.heap.size, 0, none⟩ = some (.int .i64 (n1 : Int)) := by rw [blk_cell hnr]; rfl
    replace cnr1 : u5.cell? ⟨u3.heap.size, 1, none⟩ = some (.int .i64 (n2 : Int)) := by rw [blk_cell hnr]; rfl
    replace lnr := blk_lt hnr
    clear hLN
    generalize lookM C m (n1, n2) (d + 1) S = R at *
    obtain ⟨S2, f1, f2⟩ := R
    dsimp only at hS hlo hkk hLF HB2 ⊢
    have hB2 := hlo.bd hC
    go_wp2_with fail
    have nfi : Far b V2 u5.heap.size := hS.fresh (Nat.le_refl _)
    generalize hw0 : u5.alloc (.cells #[.int .i64 (f1 : Int), .int .i64 (f2 : Int)] 129) = u6
    have b6 : Below u5.heap.size u5 u6 := by rw [← hw0]; exact (Below.refl _ _).alloc (Nat.le_refl _) _
    have hfi : u6.heap[u5.heap.size]? = some (.cells #[.int .i64 (f1 : Int), .int .i64 (f2 : Int)] 129 (0, 0)) := by rw [← hw0]; exact heap_alloc_new _ _
    clear hw0
    replace hM := hM.trans (SMoved.of_below b6)
    replace hS := hS.later b6
    replace lb := blk_lt hS.fb
    replace hpa := (b6.block _ (blk_lt hpa)).trans hpa
    replace cpa0 : u6.cell? ⟨w.heap.size, 0, none⟩ = some (.int .i64 (p1 : Int)) := by rw [blk_cell hpa]; rfl
    replace cpa1 : u6.cell? ⟨w.heap.size, 1, none⟩ = some (.int .i64 (p2 : Int)) := by rw [blk_cell hpa]; rfl
    replace lpa := blk_lt hpa
    replace hva := (b6.block _ (blk_lt hva)).trans hva
    replace cva0 : u6.cell? ⟨w.heap.size + 1, 0, none⟩ = some (.int .i64 (v1 : Int)) := by rw [blk_cell hva]; rfl
    replace cva1 : u6.cell? ⟨w.heap.size + 1, 1, none⟩ = some (.int .i64 (v2 : Int)) := by rw [blk_cell hva]; rfl
    replace lva := blk_lt hva
    replace hrs := (b6.block _ (blk_lt hrs)).trans hrs
    replace crs0 : u6.cell? ⟨w.heap.size + 2, 0, none⟩ = some (.int .i64 0) := by rw [blk_cell hrs]; rfl
    replace crs1 : u6.cell? ⟨w.heap.size + 2, 1, none⟩ = some (.int .i64 0) := by rw [blk_cell hrs]; rfl
    replace lrs := blk_lt hrs
    replace hnr := (b6.block _ (blk_lt hnr)).trans hnr
    replace cnr0 : u6.cell? ⟨u3.heap.size, 0, none⟩ = some (.int .i64 (n1 : Int)) := by rw [blk_cell hnr]; rfl
    replace cnr1 : u6.cell? ⟨u3.heap.size, 1, none⟩ = some (.int .i64 (n2 : Int)) := by rw [blk_cell hnr]; rfl
    replace lnr := blk_lt hnr
    have cfi0 : u6.cell? ⟨u5.heap.size, 0, none⟩ = some (.int .i64 (f1 : Int)) := by rw [blk_cell hfi]; rfl
    have cfi1 : u6.cell? ⟨u5.heap.size, 1, none⟩ = some (.int .i64 (f2 : Int)) := by rw [blk_cell hfi]; rfl
    have lfi := blk_lt hfi
    refine (shas_any b C S2 V2 (f1, f2) vn _ hS hB2).mono ?_
    rintro e u7 ⟨rfl, b7⟩
    replace hM := hM.trans (SMoved.of_below b7)
    replace hS := hS.later b7
    replace lb := blk_lt hS.fb
    replace hpa := (b7.block _ (blk_lt hpa)).trans hpa
    replace cpa0 : u7.cell? ⟨w.heap.size, 0, none⟩ = some (.int .i64 (p1 : Int)) := by rw [blk_cell hpa]; rfl
    replace cpa1 : u7.cell? ⟨w.heap.size, 1, none⟩ = some (.int .i64 (p2 : Int)) := by rw [blk_cell hpa]; rfl
    replace lpa := blk_lt hpa
    replace hva := (b7.block _ (blk_lt hva)).trans hva
    replace cva0 : u7.cell? ⟨w.heap.size + 1, 0, none⟩ = some (.int .i64 (v1 : Int)) := by rw [blk_cell hva]; rfl
    replace cva1 : u7.cell? ⟨w.heap.size + 1, 1, none⟩ = some (.int .i64 (v2 : Int)) := by rw [blk_cell hva]; rfl
    replace lva := blk_lt hva
    replace hrs := (b7.block _ (blk_lt hrs)).trans hrs
    replace crs0 : u7.cell? ⟨w.heap.size + 2, 0, none⟩ = some (.int .i64 0) := by rw [blk_cell hrs]; rfl
    replace crs1 : u7.cell? ⟨w.heap.size + 2, 1, none⟩ = some (.int .i64 0) := by rw [blk_cell hrs]; rfl
    replace lrs := blk_lt hrs
    replace hnr := (b7.block _ (blk_lt hnr)).trans hnr
    replace cnr0 : u7.cell? ⟨u3.heap.size, 0, none⟩ = some (.int .i64 (n1 : Int)) := by rw [blk_cell hnr]; rfl
    replace cnr1 : u7.cell? ⟨u3.heap.size, 1, none⟩ = some (.int .i64 (n2 : Int)) := by rw [blk_cell hnr]; rfl
    replace lnr := blk_lt hnr
    replace hfi := (b7.block _ (blk_lt hfi)).trans hfi
    replace cfi0 : u7.cell? ⟨u5.heap.size, 0, none⟩ = some (.int .i64 (f1 : Int)) := by rw [blk_cell hfi]; rfl
    replace cfi1 : u7.cell? ⟨u5.heap.size, 1, none⟩ = some (.int .i64 (f2 : Int)) := by rw [blk_cell hfi]; rfl
    replace lfi := blk_lt hfi
    cases hh1 : hasVarB (S2.lits (f1, f2)) vn with
    | false =>
      have HX : Hid (branchM C (m + 1) (p1, p2) d (v1, v2) S = (S2, (f1, f2))) := hide (by rw [unhide HB2, hh1]; rfl)
      clear hh1
      have z0 := blk_free hrs 0
      have z1 := blk_free hrs 1
      have hR := blk_set (blk_set hrs 0 (.int .i64 (f1 : Int))) 1 (.int .i64 (f2 : Int))
      have j0 := blk_cell hR 0
      have j1 := blk_cell hR 1
      go_wp2_with fail
      refine bodyPost_ret (v := FactV (f1, f2)) (by simp [results, Tryz.results92, go_sem, j0, j1]) rfl ⟨by rw [unhide HX], ?_⟩
      rw [unhide HX]
      exact ⟨_, (hS.set nrs 0 _).set nrs 1 _, (hM.set (k := w.heap.size + 2) (by omega) 0 _).set (k := w.heap.size + 2) (by omega) 1 _⟩
    | true =>
      have hki := hkk.kind hh1
      have HB3 := hide ((unhide HB2).trans (if_pos hh1))
      clear hh1 HB2 hkk
      go_wp2_with fail
      refine (with_any p1 p2 (-(vn : Int)) _ hp.1 hp.2 (by omega) (by omega)).mono ?_
      rintro e u8 ⟨rfl, b8⟩
      replace hM := hM.trans (SMoved.of_below b8)
      replace hS := hS.later b8
      replace lb := blk_lt hS.fb
      replace hpa := (b8.block _ (blk_lt hpa)).trans hpa
      replace cpa0 : u8.cell? ⟨w.heap.size, 0, none⟩ = some (.int .i64 (p1 : Int)) := by rw [blk_cell hpa]; rfl
      replace cpa1 : u8.cell? ⟨w.heap.size, 1, none⟩ = some (.int .i64 (p2 : Int)) := by rw [blk_cell hpa]; rfl
      replace lpa := blk_lt hpa
      replace hva := (b8.block _ (blk_lt hva)).trans hva
      replace cva0 : u8.cell? ⟨w.heap.size + 1, 0, none⟩ = some (.int .i64 (v1 : Int)) := by rw [blk_cell hva]; rfl
      replace cva1 : u8.cell? ⟨w.heap.size + 1, 1, none⟩ = some (.int .i64 (v2 : Int)) := by rw [blk_cell hva]; rfl
      replace lva := blk_lt hva
      replace hrs := (b8.block _ (blk_lt hrs)).trans hrs
      replace crs0 : u8.cell? ⟨w.heap.size + 2, 0, none⟩ = some (.int .i64 0) := by rw [blk_cell hrs]; rfl
      replace crs1 : u8.cell? ⟨w.heap.size + 2, 1, none⟩ = some (.int .i64 0) := by rw [blk_cell hrs]; rfl
      replace lrs := blk_lt hrs
      replace hnr := (b8.block _ (blk_lt hnr)).trans hnr
      replace cnr0 : u8.cell? ⟨u3.heap.size, 0, none⟩ = some (.int .i64 (n1 : Int)) := by rw [blk_cell hnr]; rfl
      replace cnr1 : u8.cell? ⟨u3.heap.size, 1, none⟩ = some (.int .i64 (n2 : Int)) := by rw [blk_cell hnr]; rfl
      replace lnr := blk_lt hnr
      replace hfi := (b8.block _ (blk_lt hfi)).trans hfi
      replace cfi0 : u8.cell? ⟨u5.heap.size, 0, none⟩ = some (.int .i64 (f1 : Int)) := by rw [blk_cell hfi]; rfl
      replace cfi1 : u8.cell? ⟨u5.heap.size, 1, none⟩ = some (.int .i64 (f2 : Int)) := by rw [blk_cell hfi]; rfl
      replace lfi := blk_lt hfi
      have hw9b : (withLit (p1, p2) (-(vn : Int))).1 < 512 ∧ (withLit (p1, p2) (-(vn : Int))).2 < 512 := withLit_lt (p1, p2) (-(vn : Int)) hp.1 hp.2
      generalize withLit (p1, p2) (-(vn : Int)) = fr at *
      obtain ⟨r1, r2⟩ := fr
      dsimp only at hw9b ⊢
      go_wp2_with fail
      have nfr : Far b V2 u8.heap.size := hS.fresh (Nat.le_refl _)
      generalize hw0 : u8.alloc (.cells #[.int .i64 (r1 : Int), .int .i64 (r2 : Int)] 74) = u9
      have b9 : Below u8.heap.size u8 u9 := by rw [← hw0]; exact (Below.refl _ _).alloc (Nat.le_refl _) _
      have hfr : u9.heap[u8.heap.size]? = some (.cells #[.int .i64 (r1 : Int), .int .i64 (r2 : Int)] 74 (0, 0)) := by rw [← hw0]; exact heap_alloc_new _ _
      clear hw0
      replace hM := hM.trans (SMoved.of_below b9)
      replace hS := hS.later b9
      replace lb := blk_lt hS.fb
      replace hpa := (b9.block _ (blk_lt hpa)).trans hpa
      replace cpa0 : u9.cell? ⟨w.heap.size, 0, none⟩ = some (.int .i64 (p1 : Int)) := by rw [blk_cell hpa]; rfl
      replace cpa1 : u9.cell? ⟨w.heap.size, 1, none⟩ = some (.int .i64 (p2 : Int)) := by rw [blk_cell hpa]; rfl
      replace lpa := blk_lt hpa
      replace hva := (b9.block _ (blk_lt hva)).trans hva
      replace cva0 : u9.cell? ⟨w.heap.size + 1, 0, none⟩ = some (.int .i64 (v1 : Int)) := by rw [blk_cell hva]; rfl
      replace cva1 : u9.cell? ⟨w.heap.size + 1, 1, none⟩ = some (.int .i64 (v2 : Int)) := by rw [blk_cell hva]; rfl
      replace lva := blk_lt hva
      replace hrs := (b9.block _ (blk_lt hrs)).trans hrs
      replace crs0 : u9.cell? ⟨w.heap.size + 2, 0, none⟩ = some (.int .i64 0) := by rw [blk_cell hrs]; rfl
      replace crs1 : u9.cell? ⟨w.heap.size + 2, 1, none⟩ = some (.int .i64 0) := by rw [blk_cell hrs]; rfl
      replace lrs := blk_lt hrs
      replace hnr := (b9.block _ (blk_lt hnr)).trans hnr
      replace cnr0 : u9.cell? ⟨u3.heap.size, 0, none⟩ = some (.int .i64 (n1 : Int)) := by rw [blk_cell hnr]; rfl
      replace cnr1 : u9.cell? ⟨u3.heap.size, 1, none⟩ = some (.int .i64 (n2 : Int)) := by rw [blk_cell hnr]; rfl
      replace lnr := blk_lt hnr
      replace hfi := (b9.block _ (blk_lt hfi)).trans hfi
      replace cfi0 : u9.cell? ⟨u5.heap.size, 0, none⟩ = some (.int .i64 (f1 : Int)) := by rw [blk_cell hfi]; rfl
      replace cfi1 : u9.cell? ⟨u5.heap.size, 1, none⟩ = some (.int .i64 (f2 : Int)) := by rw [blk_cell hfi]; rfl
      replace lfi := blk_lt hfi
      have cfr0 : u9.cell? ⟨u8.heap.size, 0, none⟩ = some (.int .i64 (r1 : Int)) := by rw [blk_cell hfr]; rfl
      have cfr1 : u9.cell? ⟨u8.heap.size, 1, none⟩ = some (.int .i64 (r2 : Int)) := by rw [blk_cell hfr]; rfl
      have lfr := blk_lt hfr
      have hlo2 := hLF.out hC
      refine (hLk.next b C S2 V2 (r1, r2) d _ hC hLF hS).mono ?_
      rintro e u10 ⟨rfl, V3, hS2, hM2⟩
      replace hpa := hM2.blk hpa npa
      replace npa := hM2.far lpa npa
      replace hva := hM2.blk hva nva
      replace nva := hM2.far lva nva
      replace hrs := hM2.blk hrs nrs
      replace nrs := hM2.far lrs nrs
      replace hnr := hM2.blk hnr nnr
      replace nnr := hM2.far lnr nnr
      replace hfi := hM2.blk hfi nfi
      replace nfi := hM2.far lfi nfi
      replace hfr := hM2.blk hfr nfr
      replace nfr := hM2.far lfr nfr
      replace hM := hM.trans hM2
      replace hS := hS2
      clear hM2
      replace lb := blk_lt hS.fb
      replace cpa0 : u10.cell? ⟨w.heap.size, 0, none⟩ = some (.int .i64 (p1 : Int)) := by rw [blk_cell hpa]; rfl
      replace cpa1 : u10.cell? ⟨w.heap.size, 1, none⟩ = some (.int .i64 (p2 : Int)) := by rw [blk_cell hpa]; rfl
      replace lpa := blk_lt hpa
      replace cva0 : u10.cell? ⟨w.heap.size + 1, 0, none⟩ = some (.int .i64 (v1 : Int)) := by rw [blk_cell hva]; rfl
      replace cva1 : u10.cell? ⟨w.heap.size + 1, 1, none⟩ = some (.int .i64 (v2 : Int)) := by rw [blk_cell hva]; rfl
      replace lva := blk_lt hva
      replace crs0 : u10.cell? ⟨w.heap.size + 2, 0, none⟩ = some (.int .i64 0) := by rw [blk_cell hrs]; rfl
      replace crs1 : u10.cell? ⟨w.heap.size + 2, 1, none⟩ = some (.int .i64 0) := by rw [blk_cell hrs]; rfl
      replace lrs := blk_lt hrs
      replace cnr0 : u10.cell? ⟨u3.heap.size, 0, none⟩ = some (.int .i64 (n1 : Int)) := by rw [blk_cell hnr]; rfl
      replace cnr1 : u10.cell? ⟨u3.heap.size, 1, none⟩ = some (.int .i64 (n2 : Int)) := by rw [blk_cell hnr]; rfl
      replace lnr := blk_lt hnr
      replace cfi0 : u10.cell? ⟨u5.heap.size, 0, none⟩ = some (.int .i64 (f1 : Int)) := by rw [blk_cell hfi]; rfl
      replace cfi1 : u10.cell? ⟨u5.heap.size, 1, none⟩ = some (.int .i64 (f2 : Int)) := by rw [blk_cell hfi]; rfl
      replace lfi := blk_lt hfi
      replace cfr0 : u10.cell? ⟨u8.heap.size, 0, none⟩ = some (.int .i64 (r1 : Int)) := by rw [blk_cell hfr]; rfl
      replace cfr1 : u10.cell? ⟨u8.heap.size, 1, none⟩ = some (.int .i64 (r2 : Int)) := by rw [blk_cell hfr]; rfl
      replace lfr := blk_lt hfr
      clear hLF
      generalize lookM C m (r1, r2) (d + 1) S2 = R at *
      obtain ⟨S3, g1, g2⟩ := R
      dsimp only at hS hlo2 HB3 ⊢
      have hB3 := hlo2.bd hC
      go_wp2_with fail
      have nse : Far b V3 u10.heap.size := hS.fresh (Nat.le_refl _)
      generalize hw0 : u10.alloc (.cells #[.int .i64 (g1 : Int), .int .i64 (g2 : Int)] 129) = u11
      have b11 : Below u10.heap.size u10 u11 := by rw [← hw0]; exact (Below.refl _ _).alloc (Nat.le_refl _) _
      have hse : u11.heap[u10.heap.size]? = some (.cells #[.int .i64 (g1 : Int), .int .i64 (g2 : Int)] 129 (0, 0)) := by rw [← hw0]; exact heap_alloc_new _ _
      clear hw0
      replace hM := hM.trans (SMoved.of_below b11)
      replace hS := hS.later b11
      replace lb := blk_lt hS.fb
      replace hpa := (b11.block _ (blk_lt hpa)).trans hpa
      replace cpa0 : u11.cell? ⟨w.heap.size, 0, none⟩ = some (.int .i64 (p1 : Int)) := by rw [blk_cell hpa]; rfl
      replace cpa1 : u11.cell? ⟨w.heap.size, 1, none⟩ = some (.int .i64 (p2 : Int)) := by rw [blk_cell hpa]; rfl
      replace lpa := blk_lt hpa
      replace hva := (b11.block _ (blk_lt hva)).trans hva
      replace cva0 : u11.cell? ⟨w.heap.size + 1, 0, none⟩ = some (.int .i64 (v1 : Int)) := by rw [blk_cell hva]; rfl
      replace cva1 : u11.cell? ⟨w.heap.size + 1, 1, none⟩ = some (.int .i64 (v2 : Int)) := by rw [blk_cell hva]; rfl
      replace lva := blk_lt hva
      replace hrs := (b11.block _ (blk_lt hrs)).trans hrs
      replace crs0 : u11.cell? ⟨w.heap.size + 2, 0, none⟩ = some (.int .i64 0) := by rw [blk_cell hrs]; rfl
      replace crs1 : u11.cell? ⟨w.heap.size + 2, 1, none⟩ = some (.int .i64 0) := by rw [blk_cell hrs]; rfl
      replace lrs := blk_lt hrs
      replace hnr := (b11.block _ (blk_lt hnr)).trans hnr
      replace cnr0 : u11.cell? ⟨u3.heap.size, 0, none⟩ = some (.int .i64 (n1 : Int)) := by rw [blk_cell hnr]; rfl
      replace cnr1 : u11.cell? ⟨u3.heap.size, 1, none⟩ = some (.int .i64 (n2 : Int)) := by rw [blk_cell hnr]; rfl
      replace lnr := blk_lt hnr
      replace hfi := (b11.block _ (blk_lt hfi)).trans hfi
      replace cfi0 : u11.cell? ⟨u5.heap.size, 0, none⟩ = some (.int .i64 (f1 : Int)) := by rw [blk_cell hfi]; rfl
      replace cfi1 : u11.cell? ⟨u5.heap.size, 1, none⟩ = some (.int .i64 (f2 : Int)) := by rw [blk_cell hfi]; rfl
      replace lfi := blk_lt hfi
      replace hfr := (b11.block _ (blk_lt hfr)).trans hfr
      replace cfr0 : u11.cell? ⟨u8.heap.size, 0, none⟩ = some (.int .i64 (r1 : Int)) := by rw [blk_cell hfr]; rfl
      replace cfr1 : u11.cell? ⟨u8.heap.size, 1, none⟩ = some (.int .i64 (r2 : Int)) := by rw [blk_cell hfr]; rfl
      replace lfr := blk_lt hfr
      have cse0 : u11.cell? ⟨u10.heap.size, 0, none⟩ = some (.int .i64 (g1 : Int)) := by rw [blk_cell hse]; rfl
      have cse1 : u11.cell? ⟨u10.heap.size, 1, none⟩ = some (.int .i64 (g2 : Int)) := by rw [blk_cell hse]; rfl
      have lse := blk_lt hse
      refine (shas_any b C S3 V3 (g1, g2) vn _ hS hB3).mono ?_
      rintro e u12 ⟨rfl, b12⟩
      replace hM := hM.trans (SMoved.of_below b12)
      replace hS := hS.later b12
      replace lb := blk_lt hS.fb
      replace hpa := (b12.block _ (blk_lt hpa)).trans hpa
      replace cpa0 : u12.cell? ⟨w.heap.size, 0, none⟩ = some (.int .i64 (p1 : Int)) := by rw [blk_cell hpa]; rfl
      replace cpa1 : u12.cell? ⟨w.heap.size, 1, none⟩ = some (.int .i64 (p2 : Int)) := by rw [blk_cell hpa]; rfl
      replace lpa := blk_lt hpa
      replace hva := (b12.block _ (blk_lt hva)).trans hva
      replace cva0 : u12.cell? ⟨w.heap.size + 1, 0, none⟩ = some (.int .i64 (v1 : Int)) := by rw [blk_cell hva]; rfl
      replace cva1 : u12.cell? ⟨w.heap.size + 1, 1, none⟩ = some (.int .i64 (v2 : Int)) := by rw [blk_cell hva]; rfl
      replace lva := blk_lt hva
      replace hrs := (b12.block _ (blk_lt hrs)).trans hrs
      replace crs0 : u12.cell? ⟨w.heap.size + 2, 0, none⟩ = some (.int .i64 0) := by rw [blk_cell hrs]; rfl
      replace crs1 : u12.cell? ⟨w.heap.size + 2, 1, none⟩ = some (.int .i64 0) := by rw [blk_cell hrs]; rfl
      replace lrs := blk_lt hrs
      replace hnr := (b12.block _ (blk_lt hnr)).trans hnr
      replace cnr0 : u12.cell? ⟨u3.heap.size, 0, none⟩ = some (.int .i64 (n1 : Int)) := by rw [blk_cell hnr]; rfl
      replace cnr1 : u12.cell? ⟨u3.heap.size, 1, none⟩ = some (.int .i64 (n2 : Int)) := by rw [blk_cell hnr]; rfl
      replace lnr := blk_lt hnr
      replace hfi := (b12.block _ (blk_lt hfi)).trans hfi
      replace cfi0 : u12.cell? ⟨u5.heap.size, 0, none⟩ = some (.int .i64 (f1 : Int)) := by rw [blk_cell hfi]; rfl
      replace cfi1 : u12.cell? ⟨u5.heap.size, 1, none⟩ = some (.int .i64 (f2 : Int)) := by rw [blk_cell hfi]; rfl
      replace lfi := blk_lt hfi
      replace hfr := (b12.block _ (blk_lt hfr)).trans hfr
      replace cfr0 : u12.cell? ⟨u8.heap.size, 0, none⟩ = some (.int .i64 (r1 : Int)) := by rw [blk_cell hfr]; rfl
      replace cfr1 : u12.cell? ⟨u8.heap.size, 1, none⟩ = some (.int .i64 (r2 : Int)) := by rw [blk_cell hfr]; rfl
      replace lfr := blk_lt hfr
      replace hse := (b12.block _ (blk_lt hse)).trans hse
      replace cse0 : u12.cell? ⟨u10.heap.size, 0, none⟩ = some (.int .i64 (g1 : Int)) := by rw [blk_cell hse]; rfl
      replace cse1 : u12.cell? ⟨u10.heap.size, 1, none⟩ = some (.int .i64 (g2 : Int)) := by rw [blk_cell hse]; rfl
      replace lse := blk_lt hse
      cases hh2 : hasVarB (S3.lits (g1, g2)) vn with
      | false =>
        have HX : Hid (branchM C (m + 1) (p1, p2) d (v1, v2) S = (S3, (g1, g2))) := hide (by rw [unhide HB3, hh2]; rfl)
        clear hh2
        have z0 := blk_free hrs 0
        have z1 := blk_free hrs 1
        have hR := blk_set (blk_set hrs 0 (.int .i64 (g1 : Int))) 1 (.int .i64 (g2 : Int))
        have j0 := blk_cell hR 0
        have j1 := blk_cell hR 1
        go_wp2_with fail
        refine bodyPost_ret (v := FactV (g1, g2)) (by simp [results, Tryz.results92, go_sem, j0, j1]) rfl ⟨by rw [unhide HX], ?_⟩
        rw [unhide HX]
        exact ⟨_, (hS.set nrs 0 _).set nrs 1 _, (hM.set (k := w.heap.size + 2) (by omega) 0 _).set (k := w.heap.size + 2) (by omega) 1 _⟩
      | true =>
        have HX : Hid (branchM C (m + 1) (p1, p2) d (v1, v2) S = joinOf C S3 (f1, f2) (g1, g2) vn) := hide (by rw [unhide HB3, hh2]; rfl)
        clear hh2
        have hpl := hlo2.plen f1
        go_wp2_with fail
        refine (join_any b C S3 V3 (f1, f2) (g1, g2) vn _ hS hB3 hki hpl (by omega)).mono ?_
        rintro e u13 ⟨rfl, V4, hS2, hM2⟩
        replace hpa := hM2.blk hpa npa
        replace npa := hM2.far lpa npa
        replace hva := hM2.blk hva nva
        replace nva := hM2.far lva nva
        replace hrs := hM2.blk hrs nrs
        replace nrs := hM2.far lrs nrs
        replace hnr := hM2.blk hnr nnr
        replace nnr := hM2.far lnr nnr
        replace hfi := hM2.blk hfi nfi
        replace nfi := hM2.far lfi nfi
        replace hfr := hM2.blk hfr nfr
        replace nfr := hM2.far lfr nfr
        replace hse := hM2.blk hse nse
        replace nse := hM2.far lse nse
        replace hM := hM.trans hM2
        replace hS := hS2
        clear hM2
        replace lb := blk_lt hS.fb
        replace cpa0 : u13.cell? ⟨w.heap.size, 0, none⟩ = some (.int .i64 (p1 : Int)) := by rw [blk_cell hpa]; rfl
        replace cpa1 : u13.cell? ⟨w.heap.size, 1, none⟩ = some (.int .i64 (p2 : Int)) := by rw [blk_cell hpa]; rfl
        replace lpa := blk_lt hpa
        replace cva0 : u13.cell? ⟨w.heap.size + 1, 0, none⟩ = some (.int .i64 (v1 : Int)) := by rw [blk_cell hva]; rfl
        replace cva1 : u13.cell? ⟨w.heap.size + 1, 1, none⟩ = some (.int .i64 (v2 : Int)) := by rw [blk_cell hva]; rfl
        replace lva := blk_lt hva
        replace crs0 : u13.cell? ⟨w.heap.size + 2, 0, none⟩ = some (.int .i64 0) := by rw [blk_cell hrs]; rfl
        replace crs1 : u13.cell? ⟨w.heap.size + 2, 1, none⟩ = some (.int .i64 0) := by rw [blk_cell hrs]; rfl
        replace lrs := blk_lt hrs
        replace cnr0 : u13.cell? ⟨u3.heap.size, 0, none⟩ = some (.int .i64 (n1 : Int)) := by rw [blk_cell hnr]; rfl
        replace cnr1 : u13.cell? ⟨u3.heap.size, 1, none⟩ = some (.int .i64 (n2 : Int)) := by rw [blk_cell hnr]; rfl
        replace lnr := blk_lt hnr
        replace cfi0 : u13.cell? ⟨u5.heap.size, 0, none⟩ = some (.int .i64 (f1 : Int)) := by rw [blk_cell hfi]; rfl
        replace cfi1 : u13.cell? ⟨u5.heap.size, 1, none⟩ = some (.int .i64 (f2 : Int)) := by rw [blk_cell hfi]; rfl
        replace lfi := blk_lt hfi
        replace cfr0 : u13.cell? ⟨u8.heap.size, 0, none⟩ = some (.int .i64 (r1 : Int)) := by rw [blk_cell hfr]; rfl
        replace cfr1 : u13.cell? ⟨u8.heap.size, 1, none⟩ = some (.int .i64 (r2 : Int)) := by rw [blk_cell hfr]; rfl
        replace lfr := blk_lt hfr
        replace cse0 : u13.cell? ⟨u10.heap.size, 0, none⟩ = some (.int .i64 (g1 : Int)) := by rw [blk_cell hse]; rfl
        replace cse1 : u13.cell? ⟨u10.heap.size, 1, none⟩ = some (.int .i64 (g2 : Int)) := by rw [blk_cell hse]; rfl
        replace lse := blk_lt hse
        generalize joinOf C S3 (f1, f2) (g1, g2) vn = R at *
        obtain ⟨S4, j1', j2'⟩ := R
        dsimp only at hS HX ⊢
        have z0 := blk_free hrs 0
        have z1 := blk_free hrs 1
        have hR := blk_set (blk_set hrs 0 (.int .i64 (j1' : Int))) 1 (.int .i64 (j2' : Int))
        have j0 := blk_cell hR 0
        have j1 := blk_cell hR 1
        go_wp2_with fail
        refine bodyPost_ret (v := FactV (j1', j2')) (by simp [results, Tryz.results92, go_sem, j0, j1]) rfl ⟨by rw [unhide HX], ?_⟩
        rw [unhide HX]
        exact ⟨_, (hS.set nrs 0 _).set nrs 1 _, (hM.set (k := w.heap.size + 2) (by omega) 0 _).set (k := w.heap.size + 2) (by omega) 1 _⟩
end Go.Proofs.YtgipjjhkhfihpaaGreatDoor

namespace Go.Proofs.YtgipjjhkhfihpaaGreatDoor
open Go.RowKit

/-! ### Steps that are needed -/
abbrev P0 : Stp := ⟨0, 0, 0, 0, (0, 0)⟩
theorem getD_set (m : List Bool) (i j : Nat) : (m.set i true).getD j false = (decide (i = j ∧ i < m.length) || m.getD j false) := by
  rw [List.getD, List.getD, List.getElem?_set]
  by_cases e : i = j
  · subst e
    by_cases h : i < m.length
    · simp [h]
    · simp [h]
  · simp [e]
structure MarkOk (q : QS) (k : Nat) (p : List Stp) (last i : Nat) (m : List Bool) : Prop where
  len : m.length = p.length + 1
  at_ : ∀ j, m.getD j false = true → j ≤ last ∧ 1 ≤ j ∧ Free (litsAt p j)
  closed : ∀ j (h : j < p.length), i ≤ j → m.getD (j + 1) false = true → p[j].rule ≠ 1 → (0 < p[j].first ∧ p[j].first < j + 1 → m.getD p[j].first false = true) ∧ (0 < p[j].second ∧ p[j].second < j + 1 → m.getD p[j].second false = true)
  last : i < last → m.getD last false = true
theorem markOne_len (b : Bool) (i n : Nat) (m : List Bool) : (markOne b i n m).length = m.length := by
  unfold markOne; split <;> simp
theorem markOne_get (b : Bool) (i n : Nat) (m : List Bool) (j : Nat) : (markOne b i n m).getD j false = (decide (b = true ∧ 0 < n ∧ n < i ∧ n = j ∧ n < m.length) || m.getD j false) := by
  unfold markOne
  split
  · next h =>
    rw [getD_set]
    simp only [h.1, h.2.1, h.2.2, true_and]
  · next h =>
    have : ¬ (b = true ∧ 0 < n ∧ n < i ∧ n = j ∧ n < m.length) := fun hh => h ⟨hh.1, hh.2.1, hh.2.2.1⟩
    simp [this]
/-- Steps ahead of a step that are made well. -/
theorem stok_ahead {q : QS} {k : Nat} {p : List Stp} (hp : POk q k p) (j : Nat) (h : j < p.length) (hr : p[j].rule ≠ 1) : (0 < p[j].first → p[j].first ≤ j ∧ Free (litsAt p p[j].first)) ∧ (0 < p[j].second → p[j].second ≤ j ∧ Free (litsAt p p[j].second)) := by
  have hlen : (p.take j).length = j := by simp; omega
  have hla : ∀ n, n ≤ j → litsAt (p.take j) n = litsAt p n := fun n hn => by
    conv => rhs; rw [← List.take_append_drop j p]
    rw [litsAt_append _ _ _ (by omega)]
  rcases (hp j h).2 with ⟨h1, _⟩ | ⟨_, _, h1, h2, _⟩ | ⟨_, h1, h2, _, _, _, h3, h4, _⟩ | ⟨_, h1, h2, h3, _⟩
  · exact absurd h1 hr
  · exact ⟨fun h => by omega, fun h => by omega⟩
  · rw [hlen] at h1 h2
    exact ⟨fun _ => ⟨h1.2, by rw [← hla _ h1.2]; exact h3⟩, fun _ => ⟨h2.2, by rw [← hla _ h2.2]; exact h4⟩⟩
  · rw [hlen] at h1
    exact ⟨fun _ => ⟨h1.2, by rw [← hla _ h1.2]; exact h3⟩, fun h => by omega⟩
theorem markStep_ok {q : QS} {k : Nat} {p : List Stp} (hp : POk q k p) {last i : Nat} (hi : i < p.length) (h1 : 1 ≤ last) (hl : last ≤ p.length) (hf : Free (litsAt p last)) {m : List Bool} (h : MarkOk q k p last (i + 1) m) : MarkOk q k p last i (markStep p last (i + 1) m) := by
  have hg : p.getD (i + 1 - 1) P0 = p[i] := by rw [Nat.add_sub_cancel, List.getD, List.getElem?_eq_getElem hi]; rfl
  unfold markStep
  rw [show (⟨0, 0, 0, 0, (0, 0)⟩ : Stp) = P0 from rfl, hg]
  dsimp only
  have hm1 : ∀ j, (if i + 1 = last then m.set (i + 1) true else m).getD j false = (decide (i + 1 = last ∧ i + 1 = j) || m.getD j false) := by
    intro j
    split
    · next e => rw [getD_set]; simp only [e, true_and]; rw [h.len]; simp only [show last < p.length + 1 from by omega, and_true]
    · next e => simp [e]
  have hm1l : (if i + 1 = last then m.set (i + 1) true else m).length = p.length + 1 := by
    split
    · rw [List.length_set]; exact h.len
    · exact h.len
  generalize (if i + 1 = last then m.set (i + 1) true else m) = m1 at *
  have hat1 : ∀ j, m1.getD j false = true → j ≤ last ∧ 1 ≤ j ∧ Free (litsAt p j) := by
    intro j hj
    rw [hm1, Bool.or_eq_true] at hj
    rcases hj with hj | hj
    · have := of_decide_eq_true hj
      rw [← this.2, this.1]; exact ⟨Nat.le_refl _, h1, hf⟩
    · exact h.at_ j hj
  have hah := stok_ahead hp i hi
  generalize hb : (m1.getD (i + 1) false && decide (p[i].rule ≠ 1)) = b at *
  have hget : ∀ j, (markOne b (i + 1) p[i].second (markOne b (i + 1) p[i].first m1)).getD j false = true ↔ ((b = true ∧ 0 < p[i].second ∧ p[i].second < i + 1 ∧ p[i].second = j) ∨ (b = true ∧ 0 < p[i].first ∧ p[i].first < i + 1 ∧ p[i].first = j) ∨ m1.getD j false = true) := by
    intro j
    rw [markOne_get, markOne_get, markOne_len, Bool.or_eq_true, Bool.or_eq_true, decide_eq_true_eq, decide_eq_true_eq, hm1l]
    constructor
    · rintro (⟨a, b, c, d, _⟩ | ⟨a, b, c, d, _⟩ | a)
      · exact Or.inl ⟨a, b, c, d⟩
      · exact Or.inr (Or.inl ⟨a, b, c, d⟩)
      · exact Or.inr (Or.inr a)
    · rintro (⟨a, b, c, d⟩ | ⟨a, b, c, d⟩ | a)
      · exact Or.inl ⟨a, b, c, d, by omega⟩
      · exact Or.inr (Or.inl ⟨a, b, c, d, by omega⟩)
      · exact Or.inr (Or.inr a)
  have hbt : b = true → m1.getD (i + 1) false = true ∧ p[i].rule ≠ 1 := by
    intro e
    rw [← hb, Bool.and_eq_true, decide_eq_true_eq] at e
    exact e
  refine ⟨by rw [markOne_len, markOne_len]; exact hm1l, fun j hj => ?_, fun j hj hij hm hr => ?_, fun hil => ?_⟩
  · rw [hget] at hj
    rcases hj with ⟨e, h2, h3, rfl⟩ | ⟨e, h2, h3, rfl⟩ | hj
    · obtain ⟨e1, e2⟩ := hbt e
      have := (hat1 _ e1).1
      exact ⟨by omega, h2, ((hah e2).2 h2).2⟩
    · obtain ⟨e1, e2⟩ := hbt e
      have := (hat1 _ e1).1
      exact ⟨by omega, h2, ((hah e2).1 h2).2⟩
    · exact hat1 j hj
  · by_cases e : j = i
    · subst e
      have hm2 : m1.getD (j + 1) false = true := by
        rw [hget] at hm
        rcases hm with ⟨_, _, h3, h4⟩ | ⟨_, _, h3, h4⟩ | hm
        · omega
        · omega
        · exact hm
      have hbb : b = true := by rw [← hb, hm2]; simpa using hr
      exact ⟨fun hh => (hget _).2 (Or.inr (Or.inl ⟨hbb, hh.1, hh.2, rfl⟩)), fun hh => (hget _).2 (Or.inl ⟨hbb, hh.1, hh.2, rfl⟩)⟩
    · have hm2 : m.getD (j + 1) false = true := by
        rw [hget] at hm
        rcases hm with ⟨_, _, h3, h4⟩ | ⟨_, _, h3, h4⟩ | hm
        · omega
        · omega
        · rw [hm1, Bool.or_eq_true] at hm
          rcases hm with hm | hm
          · have := of_decide_eq_true hm; omega
          · exact hm
      have up : ∀ n, m.getD n false = true → (markOne b (i + 1) p[i].second (markOne b (i + 1) p[i].first m1)).getD n false = true := fun n hn => (hget n).2 (Or.inr (Or.inr (by rw [hm1, hn]; simp)))
      have := h.closed j hj (by omega) hm2 hr
      exact ⟨fun hh => up _ (this.1 hh), fun hh => up _ (this.2 hh)⟩
  · rw [hget]
    right; right
    rw [hm1]
    by_cases e : i + 1 = last
    · simp [e]
    · rw [h.last (by omega)]; simp
theorem markTo_ok {q : QS} {k : Nat} {p : List Stp} (hp : POk q k p) {last : Nat} (h1 : 1 ≤ last) (hl : last ≤ p.length) (hf : Free (litsAt p last)) : ∀ (i : Nat) (m : List Bool), i ≤ p.length → MarkOk q k p last i m → MarkOk q k p last 0 (markTo p last i m) := by
  intro i
  induction i with
  | zero => intro m _ h; exact h
  | succ i ih => intro m hi h; exact ih _ (by omega) (markStep_ok hp (by omega) h1 hl hf h)
theorem marks_ok {q : QS} {k : Nat} {p : List Stp} (hp : POk q k p) {last : Nat} (h1 : 1 ≤ last) (hl : last ≤ p.length) (hf : Free (litsAt p last)) : MarkOk q k p last 0 (needs p last) := by
  have hno : ∀ j, (List.replicate (p.length + 1) false).getD j false = false := fun j => by
    rw [List.getD, List.getElem?_replicate]; split <;> rfl
  refine markTo_ok hp h1 hl hf _ _ (Nat.le_refl _) ⟨by simp, fun j hj => ?_, fun j hj hij => by omega, fun h => by omega⟩
  rw [hno] at hj; cases hj

/-! ### The short proof -/
structure ShortOk (q : QS) (k : Nat) (p : List Stp) (mk : List Bool) (last i : Nat) (sh : List Stp) (nums : List Nat) : Prop where
  ok : POk q k sh
  free : ∀ s ∈ sh, Free s.lits
  nlen : nums.length = p.length + 1
  zero : nums.getD 0 0 = 0
  nums : ∀ j, 1 ≤ j → j ≤ i → mk.getD j false = true → 1 ≤ nums.getD j 0 ∧ nums.getD j 0 ≤ sh.length ∧ litsAt sh (nums.getD j 0) = litsAt p j
  len : sh.length ≤ i
  twos : twos sh ≤ twos (p.take i)
  last : last ≤ i → ∃ s, sh.getLast? = some s ∧ s.lits = litsAt p last
theorem twos_snoc (p : List Stp) (s : Stp) : twos (p ++ [s]) = twos p + (if s.rule = 3 then 1 else 0) := by
  unfold twos
  rw [List.filter_append, List.length_append]
  by_cases h : s.rule = 3
  · simp [h]
  · simp [h]
theorem getD_setN (m : List Nat) (i j x : Nat) (h : i < m.length) : (m.set i x).getD j 0 = if i = j then x else m.getD j 0 := by
  rw [List.getD, List.getD, List.getElem?_set]
  by_cases e : i = j
  · subst e; simp [h]
  · simp [e]
theorem shortStep_ok {q : QS} {k : Nat} {p : List Stp} (hp : POk q k p) {mk : List Bool} {last i : Nat} (hi : i < p.length) (_h1 : 1 ≤ last) (hM : MarkOk q k p last 0 mk) {sh : List Stp} {nums : List Nat} (h : ShortOk q k p mk last i sh nums) (hm : mk.getD (i + 1) false = true) :
    ShortOk q k p mk last (i + 1) (sh ++ [renum nums i (p.getD i P0)]) (nums.set (i + 1) (sh.length + 1)) := by
  have hg : p.getD i P0 = p[i] := by rw [List.getD, List.getElem?_eq_getElem hi]; rfl
  rw [hg]
  have htl : (p.take i).length = i := by simp; omega
  have hla : ∀ n, n ≤ i → litsAt (p.take i) n = litsAt p n := fun n hn => by
    conv => rhs; rw [← List.take_append_drop i p]
    rw [litsAt_append _ _ _ (by omega)]
  have hlits : (renum nums i p[i]).lits = p[i].lits := rfl
  have hrule : (renum nums i p[i]).rule = p[i].rule := rfl
  have hvar : (renum nums i p[i]).var = p[i].var := rfl
  have hself : litsAt p (i + 1) = p[i].lits := litsAt_in p i hi
  have hcl := hM.closed i hi (by omega) hm
  have hnew : StOk q k sh (renum nums i p[i]) := by
    obtain ⟨hlok, hst⟩ := hp i hi
    refine ⟨hlok, ?_⟩
    rw [hrule, hlits, hvar]
    rcases hst with ⟨r1, r2, r3, r4, r5, r6⟩ | ⟨r1, r2, r3, r4, r5⟩ | ⟨r1, r2, r3, r4, r5, r6, r7, r8, r9, r10⟩ | ⟨r1, r2, r3, r4, r5⟩
    · left
      have e1 : (renum nums i p[i]).first = p[i].first := by show (if p[i].rule ≠ 1 ∧ _ then _ else _) = _; rw [if_neg (by simp [r1])]
      have e2 : (renum nums i p[i]).second = 0 := by show (if p[i].second ≤ i then _ else _) = _; rw [if_pos (by omega), r5]; exact h.zero
      rw [e1, e2]
      exact ⟨r1, r2, r3, r4, rfl, r6⟩
    · right; left
      have e1 : (renum nums i p[i]).first = 0 := by show (if p[i].rule ≠ 1 ∧ p[i].first ≤ i then _ else _) = _; rw [if_pos ⟨by omega, by omega⟩, r3]; exact h.zero
      have e2 : (renum nums i p[i]).second = 0 := by show (if p[i].second ≤ i then _ else _) = _; rw [if_pos (by omega), r4]; exact h.zero
      rw [e1, e2]
      exact ⟨r1, r2, rfl, rfl, r5⟩
    · right; right; left
      rw [htl] at r2 r3
      have hr : p[i].rule ≠ 1 := by omega
      have n1 := h.nums p[i].first r2.1 r2.2 ((hcl hr).1 ⟨by omega, by omega⟩)
      have n2 := h.nums p[i].second r3.1 r3.2 ((hcl hr).2 ⟨by omega, by omega⟩)
      have e1 : (renum nums i p[i]).first = nums.getD p[i].first 0 := by show (if p[i].rule ≠ 1 ∧ p[i].first ≤ i then _ else _) = _; rw [if_pos ⟨hr, r2.2⟩]
      have e2 : (renum nums i p[i]).second = nums.getD p[i].second 0 := by show (if p[i].second ≤ i then _ else _) = _; rw [if_pos r3.2]
      rw [hla _ r2.2] at r5 r7 r10
      rw [hla _ r3.2] at r6 r8 r10
      rw [e1, e2, n1.2.2, n2.2.2]
      exact ⟨r1, ⟨n1.1, n1.2.1⟩, ⟨n2.1, n2.2.1⟩, r4, r5, r6, r7, r8, r9, r10⟩
    · right; right; right
      rw [htl] at r2
      have hr : p[i].rule ≠ 1 := by omega
      have n1 := h.nums p[i].first r2.1 r2.2 ((hcl hr).1 ⟨by omega, by omega⟩)
      have e1 : (renum nums i p[i]).first = nums.getD p[i].first 0 := by show (if p[i].rule ≠ 1 ∧ p[i].first ≤ i then _ else _) = _; rw [if_pos ⟨hr, r2.2⟩]
      have e2 : (renum nums i p[i]).second = 0 := by show (if p[i].second ≤ i then _ else _) = _; rw [if_pos (by omega), r3]; exact h.zero
      rw [hla _ r2.2] at r4 r5
      rw [e1, e2, n1.2.2]
      exact ⟨r1, ⟨n1.1, n1.2.1⟩, rfl, r4, r5⟩
  have hsl := h.len
  refine ⟨h.ok.snoc hnew, fun s hs => ?_, by rw [List.length_set]; exact h.nlen, ?_, fun j hj1 hji hmj => ?_, by simp; omega, ?_, fun hli => ?_⟩
  · rcases List.mem_append.1 hs with hs | hs
    · exact h.free s hs
    · simp at hs; subst hs
      rw [hlits, ← hself]; exact (hM.at_ _ hm).2.2
  · rw [getD_setN _ _ _ _ (by rw [h.nlen]; omega), if_neg (by omega)]; exact h.zero
  · rw [getD_setN _ _ _ _ (by rw [h.nlen]; omega)]
    by_cases e : i + 1 = j
    · subst e
      rw [if_pos rfl]
      exact ⟨by omega, by simp, by rw [litsAt_new, hlits, hself]⟩
    · rw [if_neg e]
      have := h.nums j hj1 (by omega) hmj
      exact ⟨this.1, by rw [List.length_append]; omega, by rw [litsAt_append _ _ _ this.2.1]; exact this.2.2⟩
  · rw [twos_snoc, hrule, List.take_succ_eq_append_getElem hi, twos_snoc]
    have := h.twos
    omega
  · by_cases e : last = i + 1
    · exact ⟨renum nums i p[i], by simp, by rw [hlits, e, hself]⟩
    · have := (hM.at_ _ hm).1
      omega
theorem shortSkip_ok {q : QS} {k : Nat} {p : List Stp} {mk : List Bool} {last i : Nat} (hi : i < p.length) (hM : MarkOk q k p last 0 mk) (h1 : 1 ≤ last) {sh : List Stp} {nums : List Nat} (h : ShortOk q k p mk last i sh nums) (hm : mk.getD (i + 1) false = false) : ShortOk q k p mk last (i + 1) sh nums := by
  refine ⟨h.ok, h.free, h.nlen, h.zero, fun j hj1 hji hmj => ?_, by have := h.len; omega, ?_, fun hli => ?_⟩
  · by_cases e : j = i + 1
    · subst e; rw [hm] at hmj; cases hmj
    · exact h.nums j hj1 (by omega) hmj
  · rw [List.take_succ_eq_append_getElem hi, twos_snoc]
    have := h.twos
    omega
  · by_cases e : last = i + 1
    · have := hM.last (by omega)
      rw [e, hm] at this; cases this
    · exact h.last (by omega)
theorem shortTo_ok {q : QS} {k : Nat} {p : List Stp} (hp : POk q k p) {mk : List Bool} {last : Nat} (h1 : 1 ≤ last) (hM : MarkOk q k p last 0 mk) : ∀ (m : Nat) (sh : List Stp) (nums : List Nat), m ≤ p.length → ShortOk q k p mk last (p.length - m) sh nums → ShortOk q k p mk last p.length (shortTo p mk m sh nums).1 (shortTo p mk m sh nums).2 := by
  intro m
  induction m with
  | zero => intro sh nums _ h; simpa [shortTo] using h
  | succ m ih =>
    intro sh nums hm h
    rw [shortTo]
    have hi : p.length - (m + 1) < p.length := by omega
    have hn : p.length - m = p.length - (m + 1) + 1 := by omega
    cases hmk : mk.getD (p.length - (m + 1) + 1) false with
    | true =>
      rw [if_pos rfl]
      exact ih _ _ (by omega) (by rw [hn]; exact shortStep_ok hp hi h1 hM h hmk)
    | false =>
      rw [if_neg (by decide)]
      exact ih _ _ (by omega) (by rw [hn]; exact shortSkip_ok hi hM h1 h hmk)
theorem short_ok {q : QS} {k : Nat} {p : List Stp} (hp : POk q k p) {last : Nat} (h1 : 1 ≤ last) (hl : last ≤ p.length) (hf : Free (litsAt p last)) :
    POk q k (shortOf p last) ∧ (∀ s ∈ shortOf p last, Free s.lits) ∧ (shortOf p last).length ≤ p.length ∧ twos (shortOf p last) ≤ twos p ∧ ∃ s, (shortOf p last).getLast? = some s ∧ s.lits = litsAt p last := by
  have hM := marks_ok hp h1 hl hf
  have hz : ∀ j, (List.replicate (p.length + 1) 0).getD j 0 = 0 := fun j => by
    rw [List.getD, List.getElem?_replicate]; split <;> rfl
  have h := shortTo_ok hp h1 hM p.length [] (List.replicate (p.length + 1) 0) (Nat.le_refl _) (by
    rw [Nat.sub_self]
    exact ⟨pok_nil q k, fun s hs => by simp at hs, by simp, hz 0, fun j h1 h2 => by omega, by simp, by simp [twos], fun h => by omega⟩)
  have ht := h.twos
  rw [List.take_length] at ht
  exact ⟨h.ok, h.free, h.len, ht, h.last hl⟩
end Go.Proofs.YtgipjjhkhfihpaaGreatDoor

namespace Go.Proofs.YtgipjjhkhfihpaaGreatDoor
open Go.RowKit

/-! ### Lines joined to a text, and cut again -/
def joinN (m : List (List UInt8)) : List UInt8 := m.flatMap (· ++ [10])
theorem cut_line (c : UInt8) (r : List UInt8) (h : c ∉ r) : ∀ (st : List (List UInt8) × List UInt8), r.foldl (cutStep c) st = (st.1, st.2 ++ r) := by
  induction r with
  | nil => intro st; simp
  | cons b r ih =>
    intro st
    rw [List.mem_cons, not_or] at h
    rw [List.foldl_cons, ih h.2]
    unfold cutStep
    rw [if_neg (Ne.symm h.1)]
    simp
theorem cut_join (m : List (List UInt8)) (h : ∀ r ∈ m, (10 : UInt8) ∉ r) : ∀ (st : List (List UInt8)), (joinN m).foldl (cutStep 10) (st, []) = (st ++ m, []) := by
  induction m with
  | nil => intro st; simp [joinN]
  | cons r m ih =>
    intro st
    have e : joinN (r :: m) = r ++ (10 :: joinN m) := by simp [joinN]
    rw [e, List.foldl_append, cut_line 10 r (h r (by simp)), List.foldl_cons]
    have e2 : cutStep 10 (st, [] ++ r) 10 = (st ++ [r], []) := by unfold cutStep; simp
    rw [e2, ih (fun x hx => h x (by simp [hx]))]
    simp
end Go.Proofs.YtgipjjhkhfihpaaGreatDoor

namespace Go.Proofs.YtgipjjhkhfihpaaGreatDoor
open Go.RowKit

/-! ### Numerals -/
theorem dec_snoc (l : List UInt8) (c : UInt8) : dec (l ++ [c]) = dec l * 10 + (c.toNat - 48) := by unfold dec; rw [List.foldl_append]; rfl
theorem digit_byte (d : Nat) (h : d < 10) : (UInt8.ofNat (48 + d)).toNat = 48 + d := by
  rw [UInt8.toNat_ofNat']; omega
theorem decDigits_ok (u : Nat) : dec (Lib.decDigits u) = u ∧ (Lib.decDigits u).all isDigit = true ∧ Lib.decDigits u ≠ [] ∧ (1 ≤ u → (Lib.decDigits u).head? ≠ some 48) := by
  induction u using Nat.strongRecOn with
  | _ u ih =>
    by_cases h : u < 10
    · rw [Lib.decDigits, dif_pos h]
      have hb := digit_byte u h
      refine ⟨by show 0 * 10 + ((UInt8.ofNat (48 + u)).toNat - 48) = u; rw [hb]; omega, by simp [isDigit]; omega, by simp, fun h1 e => ?_⟩
      have e' : UInt8.ofNat (48 + u) = 48 := by injection e
      have h5 := congrArg UInt8.toNat e'
      rw [hb] at h5
      have h6 : (48 : UInt8).toNat = 48 := rfl
      omega
    · rw [Lib.decDigits, dif_neg h]
      obtain ⟨i1, i2, i3, i4⟩ := ih (u / 10) (by omega)
      have hb := digit_byte (u % 10) (by omega)
      refine ⟨by rw [dec_snoc, i1, hb]; omega, ?_, by simp, fun _ => ?_⟩
      · rw [List.all_append, i2]
        simp [isDigit]; omega
      · cases hd : Lib.decDigits (u / 10) with
        | nil => exact absurd hd i3
        | cons a r =>
          have := i4 (by omega)
          rw [hd] at this
          simpa using this
theorem decDigits_len (u : Nat) (h : u < 1000000) : (Lib.decDigits u).length ≤ 6 := by
  obtain ⟨h1, h2, h3, h4⟩ := decDigits_ok u
  by_cases h0 : u = 0
  · subst h0; rw [Lib.decDigits, dif_pos (by decide)]; simp
  · apply Classical.byContradiction
    intro hn
    have h6 := dec_ge _ h2 h3 (h4 (by omega)) 6 (by omega)
    have hm := dec_mono (Lib.decDigits u) (6 + 1)
    rw [h1] at hm
    have : (10 : Nat) ^ 6 = 1000000 := by decide
    omega
theorem cnt_digits (u : Nat) (h1 : 1 ≤ u) (h : u ≤ 100000) : cnt (Lib.decDigits u) big = u := by
  obtain ⟨a, b, c, d⟩ := decDigits_ok u
  unfold cnt
  rw [if_pos ⟨b, decDigits_len u (by omega), d h1, by rw [a]; unfold big; omega⟩, a]
theorem digits_no (u : Nat) (x : UInt8) (hx : isDigit x = false) : x ∉ Lib.decDigits u := by
  intro hm
  have := (decDigits_ok u).2.1
  rw [List.all_eq_true] at this
  rw [this x hm] at hx; cases hx
theorem decDigits_small (v : Nat) (h : v < 10) : Lib.decDigits v = [UInt8.ofNat (48 + v)] := by rw [Lib.decDigits, dif_pos h]
/-- A literal's word. -/
theorem itoa_pos (v : Nat) : Lib.itoa (litI v true) = Lib.decDigits v := by
  have e0 : litI v true = (v : Int) := rfl
  unfold Lib.itoa; rw [e0, if_neg (by omega)]; simp
theorem itoa_neg' (v : Nat) (h : 1 ≤ v) : Lib.itoa (litI v false) = 45 :: Lib.decDigits v := by
  have e0 : litI v false = -(v : Int) := rfl
  unfold Lib.itoa; rw [e0, if_pos (by omega)]; simp
theorem dig_digit (v : Nat) (h1 : 1 ≤ v) (h8 : v ≤ 8) : dig (Lib.decDigits v) = (v : Int) := by
  rw [decDigits_small v (by omega)]
  have hb := digit_byte v (by omega)
  show (if 49 ≤ ((UInt8.ofNat (48 + v)).toNat : Int) ∧ ((UInt8.ofNat (48 + v)).toNat : Int) ≤ 56 then ((UInt8.ofNat (48 + v)).toNat : Int) - 48 else 0) = (v : Int)
  rw [hb, if_pos (by omega)]
  omega
theorem litInto_word (c : Nat × Nat) (v : Nat) (s : Bool) (h1 : 1 ≤ v) (h8 : v ≤ 8) : litInto c (Lib.itoa (litI v s)) = (withLit c (litI v s), true) ∧ litVar (Lib.itoa (litI v s)) = v := by
  have hd := dig_digit v h1 h8
  cases s with
  | true =>
    rw [itoa_pos]
    have hs := decDigits_small v (by omega)
    have hne : UInt8.ofNat (48 + v) ≠ 45 := fun e => by
      have := congrArg UInt8.toNat e
      rw [digit_byte v (by omega)] at this
      simp at this; omega
    constructor
    · unfold litInto
      split
      · next r he => rw [hs] at he; injection he with he; exact absurd he hne
      · next he =>
        rw [hd]
        have e0 : litI v true = (v : Int) := rfl
        unfold withLit
        rw [e0, if_neg (by omega), bitOf_nat v h1 h8]
        simp; omega
    · unfold litVar; rw [hd, if_neg (by omega)]; simp
  | false =>
    rw [itoa_neg' v h1]
    constructor
    · show ((c.1, c.2 ||| 2 ^ (dig (Lib.decDigits v)).toNat), decide (0 < dig (Lib.decDigits v))) = _
      rw [hd]
      have e0 : litI v false = -(v : Int) := rfl
      unfold withLit
      rw [e0, if_pos (by omega), Int.neg_neg, bitOf_nat v h1 h8]
      simp; omega
    · have h0 : dig (45 :: Lib.decDigits v) = 0 := by
        rw [decDigits_small v (by omega)]; rfl
      unfold litVar
      rw [if_pos h0]
      show (dig (Lib.decDigits v)).toNat = v
      rw [hd]; simp

/-! ### Lines -/
/-- The words of a step. -/
def wordsP (s : Stp) : List (List UInt8) :=
  if s.rule = 1 then [[97], Lib.decDigits s.first]
  else if s.rule = 2 then [99] :: (listOf s.lits).map Lib.itoa
  else if s.rule = 3 then [[114], Lib.decDigits s.first, Lib.decDigits s.second, Lib.decDigits s.var]
  else [[100], Lib.decDigits s.first]
def joinW : List (List UInt8) → List UInt8
  | [] => []
  | [w] => w
  | w :: ws => w ++ 32 :: joinW ws
theorem joinW_cut (ws : List (List UInt8)) (h : ∀ w ∈ ws, (32 : UInt8) ∉ w) : ws ≠ [] → ∀ st, (joinW ws).foldl (cutStep 32) (st, []) = (st ++ ws.dropLast, ws.getLastD []) := by
  induction ws with
  | nil => intro h; exact absurd rfl h
  | cons w ws ih =>
    intro _ st
    cases ws with
    | nil =>
      show w.foldl (cutStep 32) (st, []) = _
      rw [cut_line 32 w (h w (by simp))]; simp
    | cons x ws =>
      show (w ++ 32 :: joinW (x :: ws)).foldl (cutStep 32) (st, []) = _
      rw [List.foldl_append, cut_line 32 w (h w (by simp)), List.foldl_cons]
      have : cutStep 32 (st, [] ++ w) 32 = (st ++ [w], []) := by simp [cutStep]
      rw [this, ih (fun y hy => h y (by simp [hy])) (by simp) (st ++ [w])]
      simp
theorem cut_words (ws : List (List UInt8)) (h0 : ws ≠ []) (h : ∀ w ∈ ws, (32 : UInt8) ∉ w) : cutAt 32 (joinW ws) = ws := by
  unfold cutAt cutTo
  rw [joinW_cut ws h h0 []]
  simp only [List.nil_append]
  rw [List.getLastD_eq_getLast?, List.getLast?_eq_some_getLast h0]
  exact List.dropLast_concat_getLast h0
end Go.Proofs.YtgipjjhkhfihpaaGreatDoor

namespace Go.Proofs.YtgipjjhkhfihpaaGreatDoor
open Go.RowKit

def lineP (s : Stp) : List UInt8 := joinW (wordsP s)
def headP (truth : Bool) : List UInt8 := if truth then sTrue else sFalse
def textP (truth : Bool) (p : List Stp) : List UInt8 := joinN (headP truth :: p.map lineP)
theorem kd_cases (truth : Bool) : (truth = false ∧ kd truth = 1) ∨ (truth = true ∧ kd truth = 2) := by cases truth <;> simp [kd]
theorem getD_lits (p : List Stp) (n : Nat) (h1 : 1 ≤ n) (hn : n ≤ p.length) : (p.map (·.lits)).getD (n - 1) (0, 0) = litsAt p n := by
  obtain ⟨m, rfl⟩ : ∃ m, n = m + 1 := ⟨n - 1, by omega⟩
  rw [litsAt_in p m (by omega), List.getD, Nat.add_sub_cancel, List.getElem?_map, List.getElem?_eq_getElem (by omega)]; rfl
theorem and_zero_of_free {c : Nat × Nat} (h : Free c) : c.1 &&& c.2 = 0 := apart_bits (fun v a b => h v a b)
theorem cube_words {q : QS} (_hq : QGood q) {F : Form} (hF : FQ F q) {c : Nat × Nat} (hc : LOk q c) (hf : Free c) : ∀ (k v : Nat) (acc : Nat × Nat) (last : Nat), v + k = 9 → 1 ≤ v → last < v → (∀ s u, u < v → L acc s u = L c s u) → (∀ s u, v ≤ u → L acc s u = false) → cubeTo F.order acc last ((listFrom c k v).map Lib.itoa) = some c := by
  intro k
  induction k with
  | zero =>
    intro v acc last hv h1 _ ha hb
    simp only [listFrom, List.map_nil, cubeTo]
    congr 1
    apply L_ext
    intro s u
    rcases Nat.lt_or_ge u v with h | h
    · exact ha s u h
    · rw [hb s u h]
      cases hh : L c s u with
      | false => rfl
      | true => have := L_le8 hc.bd hh; omega
  | succ k ih =>
    intro v acc last hv h1 hla ha hb
    have h8 : v ≤ 8 := by omega
    have hp : hasLit c (v : Int) = L c true v := hasLit_L c v true h1 h8
    have hn : hasLit c (-(v : Int)) = L c false v := hasLit_L c v false h1 h8
    have one : ∀ s, L c s v = true → cubeTo F.order acc last (Lib.itoa (litI v s) :: (listFrom c k (v + 1)).map Lib.itoa) = some c := by
      intro s hs
      obtain ⟨w1, w2⟩ := litInto_word acc v s h1 h8
      have hm : v ∈ F.order := by rw [hF.order]; exact hc.vars s v hs
      rw [cubeTo, w1, w2, if_pos ⟨rfl, hla, hm⟩]
      have hno := hf.not hs
      refine ih (v + 1) _ v (by omega) (by omega) (by omega) (fun t u hu => ?_) (fun t u hu => ?_)
      · rw [L_with _ _ _ h1 h8]
        by_cases e : u = v
        · subst e
          rw [hb t u (Nat.le_refl _)]
          cases s <;> cases t <;> simp_all
        · rw [ha t u (by omega)]; simp [e]
      · rw [L_with _ _ _ h1 h8, hb t u (by omega)]
        have : u ≠ v := by omega
        simp [this]
    rw [listFrom, hp, hn]
    cases e1 : L c true v with
    | true =>
      have e2 := hf.not e1
      simp only [Bool.not_true] at e2
      rw [e2]
      simpa [litI] using one true e1
    | false =>
      cases e2 : L c false v with
      | true => simpa [litI] using one false e2
      | false =>
        simp only [Bool.false_eq_true, if_false, List.nil_append]
        refine ih (v + 1) acc last (by omega) (by omega) (by omega) (fun t u hu => ?_) (fun t u hu => hb t u (by omega))
        by_cases e : u = v
        · subst e
          rw [hb t u (Nat.le_refl _)]
          cases t
          · exact e2.symm
          · exact e1.symm
        · exact ha t u (by omega)
theorem step_words {q : QS} (hq : QGood q) {F : Form} (hF : FQ F q) (hO : FOk F) {truth : Bool} {p : List Stp} (hl : p.length ≤ 9000) {s : Stp} (hs : StOk q (kd truth) p s) (hf : Free s.lits) :
    ∃ hd tl, wordsP s = hd :: tl ∧ stepR F truth (p.map (·.lits)) hd tl = some s.lits ∧ (hd = [114] ↔ s.rule = 3) ∧ ∀ w ∈ wordsP s, (32 : UInt8) ∉ w ∧ (10 : UInt8) ∉ w := by
  have nd : ∀ u, (32 : UInt8) ∉ Lib.decDigits u ∧ (10 : UInt8) ∉ Lib.decDigits u := fun u => ⟨digits_no u 32 (by decide), digits_no u 10 (by decide)⟩
  obtain ⟨hlok, hst⟩ := hs
  rcases hst with ⟨r1, r2, r3, r4, _, r6⟩ | ⟨r1, r2, _, _, _, r6⟩ | ⟨r1, r2, r3, ⟨x, hx, hxe, hxp⟩, r5, r6, r7, r8, r9, r10⟩ | ⟨r1, r2, _, r4, r5⟩
  · have ht : truth = false := (kd_cases truth).elim (fun h => h.1) (fun h => by omega)
    subst ht
    have hclen := hF.clen
    have hw : wordsP s = [[97], Lib.decDigits s.first] := by unfold wordsP; rw [if_pos r1]
    refine ⟨[97], [Lib.decDigits s.first], hw, ?_, ⟨fun h => by simp at h, fun h => by omega⟩, fun w hm => ?_⟩
    · unfold stepR
      rw [if_pos ⟨rfl, rfl, rfl⟩]
      show axR F (cnt (Lib.decDigits s.first) big) = _
      rw [cnt_digits s.first r3 (by omega)]
      unfold axR
      rw [hF.cl, if_neg (by omega), ← r6]
      unfold apartO
      rw [if_pos (and_zero_of_free hf)]
    · rw [hw] at hm
      rcases List.mem_cons.1 hm with rfl | hm
      · decide
      · simp at hm; subst hm; exact nd _
  · have ht : truth = true := (kd_cases truth).elim (fun h => by omega) (fun h => h.1)
    subst ht
    have hw : wordsP s = [99] :: (listOf s.lits).map Lib.itoa := by unfold wordsP; rw [if_neg (by omega), if_pos r1]
    refine ⟨[99], (listOf s.lits).map Lib.itoa, hw, ?_, ⟨fun h => by simp at h, fun h => by omega⟩, fun w hm => ?_⟩
    · unfold stepR
      rw [if_neg (by simp), if_pos ⟨rfl, rfl⟩]
      unfold cubeR
      rw [show listOf s.lits = listFrom s.lits 8 1 from rfl, cube_words hq hF hlok hf 8 1 (0, 0) 0 rfl (Nat.le_refl _) (by omega) (fun t u hu => by
        have : u = 0 := by omega
        subst this
        rw [L_zero]
        cases hh : L s.lits t 0 with
        | false => rfl
        | true => have := hq.name (hlok.vars t 0 hh); omega) (fun t u _ => L_zero t u)]
      show (if satR F.cl s.lits then some s.lits else none) = _
      have : satR F.cl s.lits = true := by
        rw [hF.cl]
        unfold satR
        unfold satQ at r6
        rw [← r6]
        congr 1
        funext y
        rw [okC_eq]
      rw [if_pos this]
    · rw [hw] at hm
      rcases List.mem_cons.1 hm with rfl | hm
      · decide
      · obtain ⟨z, hz, rfl⟩ := List.mem_map.1 hm
        obtain ⟨u, t, h1, h8, rfl, _⟩ := (listOf_mem _ _).1 hz
        cases t with
        | true => rw [itoa_pos]; exact nd u
        | false =>
          rw [itoa_neg' u h1]
          have := nd u
          simp [this.1, this.2]
  · have hv := hq.qb.names x hx
    rw [hxe] at hv
    have hw : wordsP s = [[114], Lib.decDigits s.first, Lib.decDigits s.second, Lib.decDigits s.var] := by unfold wordsP; rw [if_neg (by omega), if_neg (by omega), if_pos r1]
    refine ⟨[114], [Lib.decDigits s.first, Lib.decDigits s.second, Lib.decDigits s.var], hw, ?_, ⟨fun _ => r1, fun _ => rfl⟩, fun w hm => ?_⟩
    · unfold stepR
      rw [if_neg (by simp), if_neg (by simp), if_pos ⟨rfl, rfl⟩]
      show resR F truth (p.map (·.lits)) (cnt (Lib.decDigits s.first) big) (cnt (Lib.decDigits s.second) big) (cnt (Lib.decDigits s.var) big) = _
      rw [cnt_digits s.first r2.1 (by omega), cnt_digits s.second r3.1 (by omega), cnt_digits s.var hv.1 (by omega)]
      unfold resR
      rw [List.length_map, if_neg (by omega), getD_lits p _ r2.1 r2.2, getD_lits p _ r3.1 r3.2]
      have hk : F.all.testBit s.var = truth := by
        rw [← hxe, hF.kinds x hx]
        revert hxp
        unfold pivotB kd
        cases truth <;> cases x.2 <;> simp
      have e1 : (litsAt p s.first).1.testBit s.var = true := r5
      have e2 : (litsAt p s.second).2.testBit s.var = true := r6
      rw [if_neg (by rw [hk, e1, e2]; simp)]
      have hr : resolve2 (litsAt p s.first) (litsAt p s.second) s.var = s.lits := by
        rw [r10]
        have n1 := r7.not r5
        have n2 := r8.not r6
        simp only [Bool.not_true, Bool.not_false] at n1 n2
        apply L_ext
        intro t u
        rw [L_without2 _ _ _ hv.1 hv.2]
        unfold resolve2
        by_cases e : u = s.var
        · subst e
          cases t
          · have n1' : (litsAt p s.first).2.testBit s.var = false := n1
            simp [L, testBit_less, n1']
          · have n2' : (litsAt p s.second).1.testBit s.var = false := n2
            simp [L, testBit_less, n2']
        · have e' : s.var ≠ u := Ne.symm e
          cases t <;> simp [L, testBit_less, e, e']
      rw [hr]
      unfold apartO
      rw [if_pos (and_zero_of_free hf)]
    · rw [hw] at hm
      rcases List.mem_cons.1 hm with rfl | hm
      · decide
      · simp at hm
        rcases hm with rfl | rfl | rfl <;> exact nd _
  · have hw : wordsP s = [[100], Lib.decDigits s.first] := by unfold wordsP; rw [if_neg (by omega), if_neg (by omega), if_neg (by omega)]
    refine ⟨[100], [Lib.decDigits s.first], hw, ?_, ⟨fun h => by simp at h, fun h => by omega⟩, fun w hm => ?_⟩
    · unfold stepR
      rw [if_neg (by simp), if_neg (by simp), if_neg (by simp), if_pos ⟨rfl, rfl⟩]
      show reductR F truth (p.map (·.lits)) (cnt (Lib.decDigits s.first) big) = _
      rw [cnt_digits s.first r2.1 (by omega)]
      unfold reductR
      rw [List.length_map, if_neg (by omega), getD_lits p _ r2.1 r2.2, ← redQ_eq hF hO truth, ← r5]
    · rw [hw] at hm
      rcases List.mem_cons.1 hm with rfl | hm
      · decide
      · simp at hm; subst hm; exact nd _
end Go.Proofs.YtgipjjhkhfihpaaGreatDoor
