import Derived.Test.YtgipjjhkhfihpaaGreatDoorAP
import Derived.Test.YtgipjjhkhfihpaaGreatDoorAQ
namespace Go.Proofs.YtgipjjhkhfihpaaGreatDoor
open Go.RowKit

/-! ### look -/
set_option maxRecDepth 100000 in
set_option maxHeartbeats 6400000 in
theorem look_of_branch (m : Nat) (hBr : BranchSpec m) : LookSpec m := by
  intro b C S V path d w hC hL hS
  obtain ⟨p1, p2⟩ := path
  have HLM := hide (lookM_as C m (p1, p2) d S)
  have hp : p1 < 512 ∧ p2 < 512 := hL.path.bd
  have hbud := hC.budget
  have hnod := hL.lin.nodes
  go_enter Tryz.func62, Tryz.ntmps62
  go_wp2_with fail
  generalize hw0 : ((w.alloc (.cells #[.int .i64 (p1 : Int), .int .i64 (p2 : Int)] 74)).alloc (.cells #[.int .i64 0, .int .i64 0] 129)) = u1
  have hb0 : Below w.heap.size w u1 := by rw [← hw0]; exact ((Below.refl _ _).alloc (Nat.le_refl _) _).alloc (by simp; try omega) _
  have hpa : u1.heap[w.heap.size]? = some (.cells #[.int .i64 (p1 : Int), .int .i64 (p2 : Int)] 74 (0, 0)) := by rw [← hw0, heap_alloc_old _ _ (by simp; try omega)]; exact alloc_new_at (by simp)
  have npa : Far b V (w.heap.size) := hS.fresh (by omega)
  have hrs : u1.heap[w.heap.size + 1]? = some (.cells #[.int .i64 0, .int .i64 0] 129 (0, 0)) := by rw [← hw0]; exact alloc_new_at (by simp)
  have nrs : Far b V (w.heap.size + 1) := hS.fresh (by omega)
  clear hw0
  have hM : SMoved b w u1 V V := SMoved.of_below hb0
  replace hS := hS.later hb0
  have lb := blk_lt hS.fb
  have cpa0 : u1.cell? ⟨w.heap.size, 0, none⟩ = some (.int .i64 (p1 : Int)) := by rw [blk_cell hpa]; rfl
  have cpa1 : u1.cell? ⟨w.heap.size, 1, none⟩ = some (.int .i64 (p2 : Int)) := by rw [blk_cell hpa]; rfl
  have lpa := blk_lt hpa
  have crs0 : u1.cell? ⟨w.heap.size + 1, 0, none⟩ = some (.int .i64 0) := by rw [blk_cell hrs]; rfl
  have crs1 : u1.cell? ⟨w.heap.size + 1, 1, none⟩ = some (.int .i64 0) := by rw [blk_cell hrs]; rfl
  have lrs := blk_lt hrs
  have cb4 : u1.cell? ⟨b, 4, none⟩ = some (.int .i64 (C.budget : Int)) := by rw [blk_cell hS.fb]; rfl
  have cb5 : u1.cell? ⟨b, 5, none⟩ = some (.int .i64 (S.nodes : Int)) := by rw [blk_cell hS.fb]; rfl
  by_cases hb : 0 < C.budget ∧ C.budget ≤ S.nodes
  · have hd1 : decide ((0 : Int) < (C.budget : Int)) = true := decide_eq_true (by omega)
    have hd1n : decide (0 < C.budget) = true := decide_eq_true (by omega)
    have hd2 : decide ((C.budget : Int) ≤ (S.nodes : Int)) = true := decide_eq_true (by omega)
    have hd3 : decide (C.budget ≤ S.nodes) = true := decide_eq_true (by omega)
    have HX : Hid (lookM C m (p1, p2) d S = (S, (0, 0))) := hide (by rw [unhide HLM, node_out hb]; rfl)
    clear hb
    go_quiet (fail)
    have hbq : Below u1.heap.size u1 (u1.drewN nq) := below_drewN (Below.refl _ _) nq
    generalize u1.drewN nq = uq at *
    clear cb4 cb5
    replace hM := hM.trans (SMoved.of_below hbq)
    replace hS := hS.later hbq
    replace lb := blk_lt hS.fb
    replace hpa := (hbq.block _ (blk_lt hpa)).trans hpa
    replace cpa0 : uq.cell? ⟨w.heap.size, 0, none⟩ = some (.int .i64 (p1 : Int)) := by rw [blk_cell hpa]; rfl
    replace cpa1 : uq.cell? ⟨w.heap.size, 1, none⟩ = some (.int .i64 (p2 : Int)) := by rw [blk_cell hpa]; rfl
    replace lpa := blk_lt hpa
    replace hrs := (hbq.block _ (blk_lt hrs)).trans hrs
    replace crs0 : uq.cell? ⟨w.heap.size + 1, 0, none⟩ = some (.int .i64 0) := by rw [blk_cell hrs]; rfl
    replace crs1 : uq.cell? ⟨w.heap.size + 1, 1, none⟩ = some (.int .i64 0) := by rw [blk_cell hrs]; rfl
    replace lrs := blk_lt hrs
    have cb4 : uq.cell? ⟨b, 4, none⟩ = some (.int .i64 (C.budget : Int)) := by rw [blk_cell hS.fb]; rfl
    have cb5 : uq.cell? ⟨b, 5, none⟩ = some (.int .i64 (S.nodes : Int)) := by rw [blk_cell hS.fb]; rfl
    have zb5 := blk_free hS.fb 5
    have z0 := blk_free hrs 0
    have z1 := blk_free hrs 1
    have hR := blk_set (blk_set hrs 0 (.int .i64 0)) 1 (.int .i64 0)
    have j0 := blk_cell hR 0
    have j1 := blk_cell hR 1
    go_wp2_with fail
    refine bodyPost_ret (v := FactV (0, 0)) (by simp [results, Tryz.results62, go_sem, j0, j1]) rfl ⟨by rw [unhide HX], ?_⟩
    rw [unhide HX]
    exact ⟨V, (hS.set nrs 0 _).set nrs 1 _, (hM.set (k := w.heap.size + 1) (by omega) 0 _).set (k := w.heap.size + 1) (by omega) 1 _⟩
  · have hn1 := hL.node hC hb
    have hcn := fun h => node_conf (path := (p1, p2)) hb h
    have hwn := fun h h2 => node_won (path := (p1, p2)) hb h h2
    have hon := fun h h2 => node_on (path := (p1, p2)) hb h h2
    have hSN : ∀ u : World, SAt u b C S V → SAt (u.setCell ⟨b, 5, none⟩ (.int .i64 ((S.nodes : Int) + 1))) b C { S with nodes := S.nodes + 1 } V := fun u h => h.setNodes (S.nodes + 1)
    obtain ⟨S1, hS1e⟩ : ∃ X : SS, X = { S with nodes := S.nodes + 1 } := ⟨_, rfl⟩
    rw [← hS1e] at hn1 hcn hwn hon hSN
    have HCN := hide hcn
    have HWN := hide hwn
    have HON := hide hon
    clear hcn hwn hon hS1e
    have hB1 := hn1.bd hC
    have hub := units_bd hC hn1.inv hL.path
    have hz1 := hn1.size
    have hz2 := hn1.nodes
    have hz3 := sizeS_le S1
    have HT : (C.budget = 0 → decide ((0 : Int) < (C.budget : Int)) = false ∧ decide (0 < C.budget) = false) ∧ (C.budget ≠ 0 → decide ((0 : Int) < (C.budget : Int)) = true ∧ decide (0 < C.budget) = true ∧ decide ((C.budget : Int) ≤ (S.nodes : Int)) = false ∧ decide (C.budget ≤ S.nodes) = false) := ⟨fun h => ⟨decide_eq_false (by omega), decide_eq_false (by omega)⟩, fun h => ⟨decide_eq_true (by omega), decide_eq_true (by omega), decide_eq_false (by omega), decide_eq_false (by omega)⟩⟩
    clear hb
    rcases Classical.em (C.budget = 0) with h0 | h0
    · obtain ⟨hd1, hd1n⟩ := HT.1 h0
      clear h0 HT
      go_quiet (fail)
      have hbq : Below u1.heap.size u1 (u1.drewN nq) := below_drewN (Below.refl _ _) nq
      generalize u1.drewN nq = uq at *
      clear cb4 cb5
      replace hM := hM.trans (SMoved.of_below hbq)
      replace hS := hS.later hbq
      replace lb := blk_lt hS.fb
      replace hpa := (hbq.block _ (blk_lt hpa)).trans hpa
      replace cpa0 : uq.cell? ⟨w.heap.size, 0, none⟩ = some (.int .i64 (p1 : Int)) := by rw [blk_cell hpa]; rfl
      replace cpa1 : uq.cell? ⟨w.heap.size, 1, none⟩ = some (.int .i64 (p2 : Int)) := by rw [blk_cell hpa]; rfl
      replace lpa := blk_lt hpa
      replace hrs := (hbq.block _ (blk_lt hrs)).trans hrs
      replace crs0 : uq.cell? ⟨w.heap.size + 1, 0, none⟩ = some (.int .i64 0) := by rw [blk_cell hrs]; rfl
      replace crs1 : uq.cell? ⟨w.heap.size + 1, 1, none⟩ = some (.int .i64 0) := by rw [blk_cell hrs]; rfl
      replace lrs := blk_lt hrs
      have cb4 : uq.cell? ⟨b, 4, none⟩ = some (.int .i64 (C.budget : Int)) := by rw [blk_cell hS.fb]; rfl
      have cb5 : uq.cell? ⟨b, 5, none⟩ = some (.int .i64 (S.nodes : Int)) := by rw [blk_cell hS.fb]; rfl
      have zb5 := blk_free hS.fb 5
      have hSn := hSN _ hS
      have hMn := hM.setB 5 (.int .i64 ((S.nodes : Int) + 1))
      have hpan := blk_other hpa (fun e => npa.1 e.symm) 5 (.int .i64 ((S.nodes : Int) + 1))
      have hrsn := blk_other hrs (fun e => nrs.1 e.symm) 5 (.int .i64 ((S.nodes : Int) + 1))
      go_wp2_with fail
      generalize (uq.setCell ⟨b, 5, none⟩ (.int .i64 ((S.nodes : Int) + 1))) = u2 at *
      clear cb4 cb5 zb5 hSN
      replace hS := hSn
      replace hM := hMn
      replace hpa := hpan
      replace hrs := hrsn
      clear hSn hMn hpan hrsn
      replace lb := blk_lt hS.fb
      replace cpa0 : u2.cell? ⟨w.heap.size, 0, none⟩ = some (.int .i64 (p1 : Int)) := by rw [blk_cell hpa]; rfl
      replace cpa1 : u2.cell? ⟨w.heap.size, 1, none⟩ = some (.int .i64 (p2 : Int)) := by rw [blk_cell hpa]; rfl
      replace lpa := blk_lt hpa
      replace crs0 : u2.cell? ⟨w.heap.size + 1, 0, none⟩ = some (.int .i64 0) := by rw [blk_cell hrs]; rfl
      replace crs1 : u2.cell? ⟨w.heap.size + 1, 1, none⟩ = some (.int .i64 0) := by rw [blk_cell hrs]; rfl
      replace lrs := blk_lt hrs
      have hSx := hS
      refine (findUnits_any findUnit_any b C S1 V (p1, p2) _ hS hB1 hp).mono ?_
      rintro e u3 ⟨vT, rfl, hrow, b3⟩
      replace hM := hM.trans (SMoved.of_below b3)
      replace hS := hS.later b3
      replace lb := blk_lt hS.fb
      replace hpa := (b3.block _ (blk_lt hpa)).trans hpa
      replace cpa0 : u3.cell? ⟨w.heap.size, 0, none⟩ = some (.int .i64 (p1 : Int)) := by rw [blk_cell hpa]; rfl
      replace cpa1 : u3.cell? ⟨w.heap.size, 1, none⟩ = some (.int .i64 (p2 : Int)) := by rw [blk_cell hpa]; rfl
      replace lpa := blk_lt hpa
      replace hrs := (b3.block _ (blk_lt hrs)).trans hrs
      replace crs0 : u3.cell? ⟨w.heap.size + 1, 0, none⟩ = some (.int .i64 0) := by rw [blk_cell hrs]; rfl
      replace crs1 : u3.cell? ⟨w.heap.size + 1, 1, none⟩ = some (.int .i64 0) := by rw [blk_cell hrs]; rfl
      replace lrs := blk_lt hrs
      generalize unitsOf C S1 (p1, p2) = U at *
      obtain ⟨⟨v1, v2⟩, trail, conf⟩ := U
      dsimp only at hub hrow HCN HWN HON ⊢
      obtain ⟨hvb, hTB, hcl⟩ := hub
      obtain ⟨aT, cT, rfl⟩ := own_form hrow
      have hfar : ∀ k, (Value.slice aT trail.length cT).ownBlock = some k → Far b V k := fun k hk => hSx.fresh (own_ge hrow hk)
      clear hSx
      by_cases hc : conf = 0
      · have hq1 : decide ((0 : Int) < (conf : Int)) = false := decide_eq_false (by omega)
        have HW1 := hide (unhide HWN hc)
        have HO1 := hide (unhide HON hc)
        have hq1n : decide (0 < conf) = false := decide_eq_false (by omega)
        clear hc
        go_wp2_with fail
        have nuu : Far b V u3.heap.size := hS.fresh (Nat.le_refl _)
        generalize hw0 : u3.alloc (.cells #[.int .i64 (v1 : Int), .int .i64 (v2 : Int), .slice aT trail.length cT, .int .i64 (conf : Int)] 161) = u4
        have b4 : Below u3.heap.size u3 u4 := by rw [← hw0]; exact (Below.refl _ _).alloc (Nat.le_refl _) _
        have huu : u4.heap[u3.heap.size]? = some (.cells #[.int .i64 (v1 : Int), .int .i64 (v2 : Int), .slice aT trail.length cT, .int .i64 (conf : Int)] 161 (0, 0)) := by rw [← hw0]; exact heap_alloc_new _ _
        clear hw0
        replace hM := hM.trans (SMoved.of_below b4)
        replace hS := hS.later b4
        replace lb := blk_lt hS.fb
        replace hpa := (b4.block _ (blk_lt hpa)).trans hpa
        replace cpa0 : u4.cell? ⟨w.heap.size, 0, none⟩ = some (.int .i64 (p1 : Int)) := by rw [blk_cell hpa]; rfl
        replace cpa1 : u4.cell? ⟨w.heap.size, 1, none⟩ = some (.int .i64 (p2 : Int)) := by rw [blk_cell hpa]; rfl
        replace lpa := blk_lt hpa
        replace hrs := (b4.block _ (blk_lt hrs)).trans hrs
        replace crs0 : u4.cell? ⟨w.heap.size + 1, 0, none⟩ = some (.int .i64 0) := by rw [blk_cell hrs]; rfl
        replace crs1 : u4.cell? ⟨w.heap.size + 1, 1, none⟩ = some (.int .i64 0) := by rw [blk_cell hrs]; rfl
        replace lrs := blk_lt hrs
        have cuu0 : u4.cell? ⟨u3.heap.size, 0, none⟩ = some (.int .i64 (v1 : Int)) := by rw [blk_cell huu]; rfl
        have cuu1 : u4.cell? ⟨u3.heap.size, 1, none⟩ = some (.int .i64 (v2 : Int)) := by rw [blk_cell huu]; rfl
        have cuu2 : u4.cell? ⟨u3.heap.size, 2, none⟩ = some (.slice aT trail.length cT) := by rw [blk_cell huu]; rfl
        have cuu3 : u4.cell? ⟨u3.heap.size, 3, none⟩ = some (.int .i64 (conf : Int)) := by rw [blk_cell huu]; rfl
        have luu := blk_lt huu
        refine (findCube_any b C S1 V (p1, p2) (v1, v2) _ hS hB1 hp hvb (by omega)).mono ?_
        rintro e u5 ⟨rfl, V2, hS2, hM2⟩
        replace hpa := hM2.blk hpa npa
        replace npa := hM2.far lpa npa
        replace hrs := hM2.blk hrs nrs
        replace nrs := hM2.far lrs nrs
        replace huu := hM2.blk huu nuu
        replace nuu := hM2.far luu nuu
        replace hM := hM.trans hM2
        replace hS := hS2
        clear hM2
        replace lb := blk_lt hS.fb
        replace cpa0 : u5.cell? ⟨w.heap.size, 0, none⟩ = some (.int .i64 (p1 : Int)) := by rw [blk_cell hpa]; rfl
        replace cpa1 : u5.cell? ⟨w.heap.size, 1, none⟩ = some (.int .i64 (p2 : Int)) := by rw [blk_cell hpa]; rfl
        replace lpa := blk_lt hpa
        replace crs0 : u5.cell? ⟨w.heap.size + 1, 0, none⟩ = some (.int .i64 0) := by rw [blk_cell hrs]; rfl
        replace crs1 : u5.cell? ⟨w.heap.size + 1, 1, none⟩ = some (.int .i64 0) := by rw [blk_cell hrs]; rfl
        replace lrs := blk_lt hrs
        replace cuu0 : u5.cell? ⟨u3.heap.size, 0, none⟩ = some (.int .i64 (v1 : Int)) := by rw [blk_cell huu]; rfl
        replace cuu1 : u5.cell? ⟨u3.heap.size, 1, none⟩ = some (.int .i64 (v2 : Int)) := by rw [blk_cell huu]; rfl
        replace cuu2 : u5.cell? ⟨u3.heap.size, 2, none⟩ = some (.slice aT trail.length cT) := by rw [blk_cell huu]; rfl
        replace cuu3 : u5.cell? ⟨u3.heap.size, 3, none⟩ = some (.int .i64 (conf : Int)) := by rw [blk_cell huu]; rfl
        replace luu := blk_lt huu
        generalize cubeOf C S1 (p1, p2) (v1, v2) = R at *
        obtain ⟨S3, f1, f2⟩ := R
        dsimp only at hS HW1 HO1 ⊢
        by_cases hf1 : f1 = 0
        · have hq2 : ((f1 : Int) == 0) = true := by rw [beq_iff_eq]; omega
          have hq3 : (f1 == 0) = true := by rw [beq_iff_eq]; exact hf1
          have hno := unhide HO1 hf1
          have hBI := hL.branch hC hno hvb
          have hX := (unhide HLM).trans (congrArg (afterNode C m (p1, p2) d) hno)
          have HX : Hid (lookM C m (p1, p2) d S = branchM C m (p1, p2) d (v1, v2) S3) := hide hX
          clear hX hno hf1
          go_wp2_with fail
          have nwo : Far b V2 u5.heap.size := hS.fresh (Nat.le_refl _)
          generalize hw0 : u5.alloc (.cells #[.int .i64 (f1 : Int), .int .i64 (f2 : Int)] 129) = u6
          have b6 : Below u5.heap.size u5 u6 := by rw [← hw0]; exact (Below.refl _ _).alloc (Nat.le_refl _) _
          have hwo : u6.heap[u5.heap.size]? = some (.cells #[.int .i64 (f1 : Int), .int .i64 (f2 : Int)] 129 (0, 0)) := by rw [← hw0]; exact heap_alloc_new _ _
          clear hw0
          replace hM := hM.trans (SMoved.of_below b6)
          replace hS := hS.later b6
          replace lb := blk_lt hS.fb
          replace hpa := (b6.block _ (blk_lt hpa)).trans hpa
          replace cpa0 : u6.cell? ⟨w.heap.size, 0, none⟩ = some (.int .i64 (p1 : Int)) := by rw [blk_cell hpa]; rfl
          replace cpa1 : u6.cell? ⟨w.heap.size, 1, none⟩ = some (.int .i64 (p2 : Int)) := by rw [blk_cell hpa]; rfl
          replace lpa := blk_lt hpa
          replace hrs := (b6.block _ (blk_lt hrs)).trans hrs
          replace crs0 : u6.cell? ⟨w.heap.size + 1, 0, none⟩ = some (.int .i64 0) := by rw [blk_cell hrs]; rfl
          replace crs1 : u6.cell? ⟨w.heap.size + 1, 1, none⟩ = some (.int .i64 0) := by rw [blk_cell hrs]; rfl
          replace lrs := blk_lt hrs
          replace huu := (b6.block _ (blk_lt huu)).trans huu
          replace cuu0 : u6.cell? ⟨u3.heap.size, 0, none⟩ = some (.int .i64 (v1 : Int)) := by rw [blk_cell huu]; rfl
          replace cuu1 : u6.cell? ⟨u3.heap.size, 1, none⟩ = some (.int .i64 (v2 : Int)) := by rw [blk_cell huu]; rfl
          replace cuu2 : u6.cell? ⟨u3.heap.size, 2, none⟩ = some (.slice aT trail.length cT) := by rw [blk_cell huu]; rfl
          replace cuu3 : u6.cell? ⟨u3.heap.size, 3, none⟩ = some (.int .i64 (conf : Int)) := by rw [blk_cell huu]; rfl
          replace luu := blk_lt huu
          have cwo0 : u6.cell? ⟨u5.heap.size, 0, none⟩ = some (.int .i64 (f1 : Int)) := by rw [blk_cell hwo]; rfl
          have cwo1 : u6.cell? ⟨u5.heap.size, 1, none⟩ = some (.int .i64 (f2 : Int)) := by rw [blk_cell hwo]; rfl
          have lwo := blk_lt hwo
          refine (hBr b C S3 V2 (p1, p2) (v1, v2) d _ hC hBI hS).mono ?_
          rintro e u7 ⟨rfl, V3, hS2, hM2⟩
          replace hpa := hM2.blk hpa npa
          replace npa := hM2.far lpa npa
          replace hrs := hM2.blk hrs nrs
          replace nrs := hM2.far lrs nrs
          replace huu := hM2.blk huu nuu
          replace nuu := hM2.far luu nuu
          replace hwo := hM2.blk hwo nwo
          replace nwo := hM2.far lwo nwo
          replace hM := hM.trans hM2
          replace hS := hS2
          clear hM2
          replace lb := blk_lt hS.fb
          replace cpa0 : u7.cell? ⟨w.heap.size, 0, none⟩ = some (.int .i64 (p1 : Int)) := by rw [blk_cell hpa]; rfl
          replace cpa1 : u7.cell? ⟨w.heap.size, 1, none⟩ = some (.int .i64 (p2 : Int)) := by rw [blk_cell hpa]; rfl
          replace lpa := blk_lt hpa
          replace crs0 : u7.cell? ⟨w.heap.size + 1, 0, none⟩ = some (.int .i64 0) := by rw [blk_cell hrs]; rfl
          replace crs1 : u7.cell? ⟨w.heap.size + 1, 1, none⟩ = some (.int .i64 0) := by rw [blk_cell hrs]; rfl
          replace lrs := blk_lt hrs
          replace cuu0 : u7.cell? ⟨u3.heap.size, 0, none⟩ = some (.int .i64 (v1 : Int)) := by rw [blk_cell huu]; rfl
          replace cuu1 : u7.cell? ⟨u3.heap.size, 1, none⟩ = some (.int .i64 (v2 : Int)) := by rw [blk_cell huu]; rfl
          replace cuu2 : u7.cell? ⟨u3.heap.size, 2, none⟩ = some (.slice aT trail.length cT) := by rw [blk_cell huu]; rfl
          replace cuu3 : u7.cell? ⟨u3.heap.size, 3, none⟩ = some (.int .i64 (conf : Int)) := by rw [blk_cell huu]; rfl
          replace luu := blk_lt huu
          replace cwo0 : u7.cell? ⟨u5.heap.size, 0, none⟩ = some (.int .i64 (f1 : Int)) := by rw [blk_cell hwo]; rfl
          replace cwo1 : u7.cell? ⟨u5.heap.size, 1, none⟩ = some (.int .i64 (f2 : Int)) := by rw [blk_cell hwo]; rfl
          replace lwo := blk_lt hwo
          generalize branchM C m (p1, p2) d (v1, v2) S3 = R at *
          obtain ⟨S4, g1, g2⟩ := R
          dsimp only at hS HX ⊢
          have z0 := blk_free hrs 0
          have z1 := blk_free hrs 1
          have hR := blk_set (blk_set hrs 0 (.int .i64 (g1 : Int))) 1 (.int .i64 (g2 : Int))
          have j0 := blk_cell hR 0
          have j1 := blk_cell hR 1
          go_wp2_with fail
          refine bodyPost_ret (v := FactV (g1, g2)) (by simp [results, Tryz.results62, go_sem, j0, j1]) rfl ⟨by rw [unhide HX], ?_⟩
          rw [unhide HX]
          exact ⟨_, (hS.set nrs 0 _).set nrs 1 _, (hM.set (k := w.heap.size + 1) (by omega) 0 _).set (k := w.heap.size + 1) (by omega) 1 _⟩
        · have hq2 : ((f1 : Int) == 0) = false := by rw [beq_eq_false_iff_ne]; omega
          have hq3 : (f1 == 0) = false := by rw [beq_eq_false_iff_ne]; exact hf1
          have hX := (unhide HLM).trans (congrArg (afterNode C m (p1, p2) d) (unhide HW1 hf1))
          have HX : Hid (lookM C m (p1, p2) d S = (S3, (f1, f2))) := hide hX
          clear hX hf1
          have z0 := blk_free hrs 0
          have z1 := blk_free hrs 1
          have hR := blk_set (blk_set hrs 0 (.int .i64 (f1 : Int))) 1 (.int .i64 (f2 : Int))
          have hAl : Below ((u5.setCell ⟨w.heap.size + 1, 0, none⟩ (.int .i64 (f1 : Int))).setCell ⟨w.heap.size + 1, 1, none⟩ (.int .i64 (f2 : Int))).heap.size ((u5.setCell ⟨w.heap.size + 1, 0, none⟩ (.int .i64 (f1 : Int))).setCell ⟨w.heap.size + 1, 1, none⟩ (.int .i64 (f2 : Int))) (((u5.setCell ⟨w.heap.size + 1, 0, none⟩ (.int .i64 (f1 : Int))).setCell ⟨w.heap.size + 1, 1, none⟩ (.int .i64 (f2 : Int))).alloc (.cells #[.int .i64 (f1 : Int), .int .i64 (f2 : Int)] 129)) := (Below.refl _ _).alloc (Nat.le_refl _) _
          have hRA := (hAl.block _ (blk_lt hR)).trans hR
          have j0 := blk_cell hRA 0
          have j1 := blk_cell hRA 1
          have j2 := blk_cell hR 0
          have j3 := blk_cell hR 1
          go_wp2_with fail
          refine bodyPost_ret (v := FactV (f1, f2)) (by simp [results, Tryz.results62, go_sem, j0, j1]) rfl ⟨by rw [unhide HX], ?_⟩
          rw [unhide HX]
          exact ⟨_, ((hS.set nrs 0 _).set nrs 1 _).later hAl, ((hM.set (k := w.heap.size + 1) (by omega) 0 _).set (k := w.heap.size + 1) (by omega) 1 _).trans (SMoved.of_below hAl)⟩
      · have hq1 : decide ((0 : Int) < (conf : Int)) = true := decide_eq_true (by omega)
        have hX := (unhide HLM).trans (congrArg (afterNode C m (p1, p2) d) (unhide HCN hc))
        have HX : Hid (lookM C m (p1, p2) d S = explain C S1 ⟨(v1, v2), trail, conf⟩) := hide hX
        have hq1n : decide (0 < conf) = true := decide_eq_true (by omega)
        clear hX hc
        go_wp2_with fail
        have nuu : Far b V u3.heap.size := hS.fresh (Nat.le_refl _)
        generalize hw0 : u3.alloc (.cells #[.int .i64 (v1 : Int), .int .i64 (v2 : Int), .slice aT trail.length cT, .int .i64 (conf : Int)] 161) = u4
        have b4 : Below u3.heap.size u3 u4 := by rw [← hw0]; exact (Below.refl _ _).alloc (Nat.le_refl _) _
        have huu : u4.heap[u3.heap.size]? = some (.cells #[.int .i64 (v1 : Int), .int .i64 (v2 : Int), .slice aT trail.length cT, .int .i64 (conf : Int)] 161 (0, 0)) := by rw [← hw0]; exact heap_alloc_new _ _
        clear hw0
        replace hM := hM.trans (SMoved.of_below b4)
        replace hS := hS.later b4
        replace lb := blk_lt hS.fb
        replace hpa := (b4.block _ (blk_lt hpa)).trans hpa
        replace cpa0 : u4.cell? ⟨w.heap.size, 0, none⟩ = some (.int .i64 (p1 : Int)) := by rw [blk_cell hpa]; rfl
        replace cpa1 : u4.cell? ⟨w.heap.size, 1, none⟩ = some (.int .i64 (p2 : Int)) := by rw [blk_cell hpa]; rfl
        replace lpa := blk_lt hpa
        replace hrs := (b4.block _ (blk_lt hrs)).trans hrs
        replace crs0 : u4.cell? ⟨w.heap.size + 1, 0, none⟩ = some (.int .i64 0) := by rw [blk_cell hrs]; rfl
        replace crs1 : u4.cell? ⟨w.heap.size + 1, 1, none⟩ = some (.int .i64 0) := by rw [blk_cell hrs]; rfl
        replace lrs := blk_lt hrs
        have cuu0 : u4.cell? ⟨u3.heap.size, 0, none⟩ = some (.int .i64 (v1 : Int)) := by rw [blk_cell huu]; rfl
        have cuu1 : u4.cell? ⟨u3.heap.size, 1, none⟩ = some (.int .i64 (v2 : Int)) := by rw [blk_cell huu]; rfl
        have cuu2 : u4.cell? ⟨u3.heap.size, 2, none⟩ = some (.slice aT trail.length cT) := by rw [blk_cell huu]; rfl
        have cuu3 : u4.cell? ⟨u3.heap.size, 3, none⟩ = some (.int .i64 (conf : Int)) := by rw [blk_cell huu]; rfl
        have luu := blk_lt huu
        replace hrow := own_below hrow b4
        refine (explain_any b C S1 V ⟨(v1, v2), trail, conf⟩ aT cT _ _ hS hB1 hrow hTB hfar (by omega) (show conf ≤ 100000 by omega)).mono ?_
        rintro e u5 ⟨rfl, V2, hS2, hM2⟩
        replace hpa := hM2.blk hpa npa
        replace npa := hM2.far lpa npa
        replace hrs := hM2.blk hrs nrs
        replace nrs := hM2.far lrs nrs
        replace huu := hM2.blk huu nuu
        replace nuu := hM2.far luu nuu
        replace hM := hM.trans hM2
        replace hS := hS2
        clear hM2
        replace lb := blk_lt hS.fb
        replace cpa0 : u5.cell? ⟨w.heap.size, 0, none⟩ = some (.int .i64 (p1 : Int)) := by rw [blk_cell hpa]; rfl
        replace cpa1 : u5.cell? ⟨w.heap.size, 1, none⟩ = some (.int .i64 (p2 : Int)) := by rw [blk_cell hpa]; rfl
        replace lpa := blk_lt hpa
        replace crs0 : u5.cell? ⟨w.heap.size + 1, 0, none⟩ = some (.int .i64 0) := by rw [blk_cell hrs]; rfl
        replace crs1 : u5.cell? ⟨w.heap.size + 1, 1, none⟩ = some (.int .i64 0) := by rw [blk_cell hrs]; rfl
        replace lrs := blk_lt hrs
        replace cuu0 : u5.cell? ⟨u3.heap.size, 0, none⟩ = some (.int .i64 (v1 : Int)) := by rw [blk_cell huu]; rfl
        replace cuu1 : u5.cell? ⟨u3.heap.size, 1, none⟩ = some (.int .i64 (v2 : Int)) := by rw [blk_cell huu]; rfl
        replace cuu2 : u5.cell? ⟨u3.heap.size, 2, none⟩ = some (.slice aT trail.length cT) := by rw [blk_cell huu]; rfl
        replace cuu3 : u5.cell? ⟨u3.heap.size, 3, none⟩ = some (.int .i64 (conf : Int)) := by rw [blk_cell huu]; rfl
        replace luu := blk_lt huu
        generalize explain C S1 ⟨(v1, v2), trail, conf⟩ = R at *
        obtain ⟨S3, f1, f2⟩ := R
        dsimp only at hS HX ⊢
        have z0 := blk_free hrs 0
        have z1 := blk_free hrs 1
        have hR := blk_set (blk_set hrs 0 (.int .i64 (f1 : Int))) 1 (.int .i64 (f2 : Int))
        have j0 := blk_cell hR 0
        have j1 := blk_cell hR 1
        go_wp2_with fail
        refine bodyPost_ret (v := FactV (f1, f2)) (by simp [results, Tryz.results62, go_sem, j0, j1]) rfl ⟨by rw [unhide HX], ?_⟩
        rw [unhide HX]
        exact ⟨_, (hS.set nrs 0 _).set nrs 1 _, (hM.set (k := w.heap.size + 1) (by omega) 0 _).set (k := w.heap.size + 1) (by omega) 1 _⟩
    · obtain ⟨hd1, hd1n, hd2, hd3⟩ := HT.2 h0
      clear h0 HT
      go_quiet (fail)
      have hbq : Below u1.heap.size u1 (u1.drewN nq) := below_drewN (Below.refl _ _) nq
      generalize u1.drewN nq = uq at *
      clear cb4 cb5
      replace hM := hM.trans (SMoved.of_below hbq)
      replace hS := hS.later hbq
      replace lb := blk_lt hS.fb
      replace hpa := (hbq.block _ (blk_lt hpa)).trans hpa
      replace cpa0 : uq.cell? ⟨w.heap.size, 0, none⟩ = some (.int .i64 (p1 : Int)) := by rw [blk_cell hpa]; rfl
      replace cpa1 : uq.cell? ⟨w.heap.size, 1, none⟩ = some (.int .i64 (p2 : Int)) := by rw [blk_cell hpa]; rfl
      replace lpa := blk_lt hpa
      replace hrs := (hbq.block _ (blk_lt hrs)).trans hrs
      replace crs0 : uq.cell? ⟨w.heap.size + 1, 0, none⟩ = some (.int .i64 0) := by rw [blk_cell hrs]; rfl
      replace crs1 : uq.cell? ⟨w.heap.size + 1, 1, none⟩ = some (.int .i64 0) := by rw [blk_cell hrs]; rfl
      replace lrs := blk_lt hrs
      have cb4 : uq.cell? ⟨b, 4, none⟩ = some (.int .i64 (C.budget : Int)) := by rw [blk_cell hS.fb]; rfl
      have cb5 : uq.cell? ⟨b, 5, none⟩ = some (.int .i64 (S.nodes : Int)) := by rw [blk_cell hS.fb]; rfl
      have zb5 := blk_free hS.fb 5
      have hSn := hSN _ hS
      have hMn := hM.setB 5 (.int .i64 ((S.nodes : Int) + 1))
      have hpan := blk_other hpa (fun e => npa.1 e.symm) 5 (.int .i64 ((S.nodes : Int) + 1))
      have hrsn := blk_other hrs (fun e => nrs.1 e.symm) 5 (.int .i64 ((S.nodes : Int) + 1))
      go_wp2_with fail
      generalize (uq.setCell ⟨b, 5, none⟩ (.int .i64 ((S.nodes : Int) + 1))) = u2 at *
      clear cb4 cb5 zb5 hSN
      replace hS := hSn
      replace hM := hMn
      replace hpa := hpan
      replace hrs := hrsn
      clear hSn hMn hpan hrsn
      replace lb := blk_lt hS.fb
      replace cpa0 : u2.cell? ⟨w.heap.size, 0, none⟩ = some (.int .i64 (p1 : Int)) := by rw [blk_cell hpa]; rfl
      replace cpa1 : u2.cell? ⟨w.heap.size, 1, none⟩ = some (.int .i64 (p2 : Int)) := by rw [blk_cell hpa]; rfl
      replace lpa := blk_lt hpa
      replace crs0 : u2.cell? ⟨w.heap.size + 1, 0, none⟩ = some (.int .i64 0) := by rw [blk_cell hrs]; rfl
      replace crs1 : u2.cell? ⟨w.heap.size + 1, 1, none⟩ = some (.int .i64 0) := by rw [blk_cell hrs]; rfl
      replace lrs := blk_lt hrs
      have hSx := hS
      refine (findUnits_any findUnit_any b C S1 V (p1, p2) _ hS hB1 hp).mono ?_
      rintro e u3 ⟨vT, rfl, hrow, b3⟩
      replace hM := hM.trans (SMoved.of_below b3)
      replace hS := hS.later b3
      replace lb := blk_lt hS.fb
      replace hpa := (b3.block _ (blk_lt hpa)).trans hpa
      replace cpa0 : u3.cell? ⟨w.heap.size, 0, none⟩ = some (.int .i64 (p1 : Int)) := by rw [blk_cell hpa]; rfl
      replace cpa1 : u3.cell? ⟨w.heap.size, 1, none⟩ = some (.int .i64 (p2 : Int)) := by rw [blk_cell hpa]; rfl
      replace lpa := blk_lt hpa
      replace hrs := (b3.block _ (blk_lt hrs)).trans hrs
      replace crs0 : u3.cell? ⟨w.heap.size + 1, 0, none⟩ = some (.int .i64 0) := by rw [blk_cell hrs]; rfl
      replace crs1 : u3.cell? ⟨w.heap.size + 1, 1, none⟩ = some (.int .i64 0) := by rw [blk_cell hrs]; rfl
      replace lrs := blk_lt hrs
      generalize unitsOf C S1 (p1, p2) = U at *
      obtain ⟨⟨v1, v2⟩, trail, conf⟩ := U
      dsimp only at hub hrow HCN HWN HON ⊢
      obtain ⟨hvb, hTB, hcl⟩ := hub
      obtain ⟨aT, cT, rfl⟩ := own_form hrow
      have hfar : ∀ k, (Value.slice aT trail.length cT).ownBlock = some k → Far b V k := fun k hk => hSx.fresh (own_ge hrow hk)
      clear hSx
      by_cases hc : conf = 0
      · have hq1 : decide ((0 : Int) < (conf : Int)) = false := decide_eq_false (by omega)
        have HW1 := hide (unhide HWN hc)
        have HO1 := hide (unhide HON hc)
        have hq1n : decide (0 < conf) = false := decide_eq_false (by omega)
        clear hc
        go_wp2_with fail
        have nuu : Far b V u3.heap.size := hS.fresh (Nat.le_refl _)
        generalize hw0 : u3.alloc (.cells #[.int .i64 (v1 : Int), .int .i64 (v2 : Int), .slice aT trail.length cT, .int .i64 (conf : Int)] 161) = u4
        have b4 : Below u3.heap.size u3 u4 := by rw [← hw0]; exact (Below.refl _ _).alloc (Nat.le_refl _) _
        have huu : u4.heap[u3.heap.size]? = some (.cells #[.int .i64 (v1 : Int), .int .i64 (v2 : Int), .slice aT trail.length cT, .int .i64 (conf : Int)] 161 (0, 0)) := by rw [← hw0]; exact heap_alloc_new _ _
        clear hw0
        replace hM := hM.trans (SMoved.of_below b4)
        replace hS := hS.later b4
        replace lb := blk_lt hS.fb
        replace hpa := (b4.block _ (blk_lt hpa)).trans hpa
        replace cpa0 : u4.cell? ⟨w.heap.size, 0, none⟩ = some (.int .i64 (p1 : Int)) := by rw [blk_cell hpa]; rfl
        replace cpa1 : u4.cell? ⟨w.heap.size, 1, none⟩ = some (.int .i64 (p2 : Int)) := by rw [blk_cell hpa]; rfl
        replace lpa := blk_lt hpa
        replace hrs := (b4.block _ (blk_lt hrs)).trans hrs
        replace crs0 : u4.cell? ⟨w.heap.size + 1, 0, none⟩ = some (.int .i64 0) := by rw [blk_cell hrs]; rfl
        replace crs1 : u4.cell? ⟨w.heap.size + 1, 1, none⟩ = some (.int .i64 0) := by rw [blk_cell hrs]; rfl
        replace lrs := blk_lt hrs
        have cuu0 : u4.cell? ⟨u3.heap.size, 0, none⟩ = some (.int .i64 (v1 : Int)) := by rw [blk_cell huu]; rfl
        have cuu1 : u4.cell? ⟨u3.heap.size, 1, none⟩ = some (.int .i64 (v2 : Int)) := by rw [blk_cell huu]; rfl
        have cuu2 : u4.cell? ⟨u3.heap.size, 2, none⟩ = some (.slice aT trail.length cT) := by rw [blk_cell huu]; rfl
        have cuu3 : u4.cell? ⟨u3.heap.size, 3, none⟩ = some (.int .i64 (conf : Int)) := by rw [blk_cell huu]; rfl
        have luu := blk_lt huu
        refine (findCube_any b C S1 V (p1, p2) (v1, v2) _ hS hB1 hp hvb (by omega)).mono ?_
        rintro e u5 ⟨rfl, V2, hS2, hM2⟩
        replace hpa := hM2.blk hpa npa
        replace npa := hM2.far lpa npa
        replace hrs := hM2.blk hrs nrs
        replace nrs := hM2.far lrs nrs
        replace huu := hM2.blk huu nuu
        replace nuu := hM2.far luu nuu
        replace hM := hM.trans hM2
        replace hS := hS2
        clear hM2
        replace lb := blk_lt hS.fb
        replace cpa0 : u5.cell? ⟨w.heap.size, 0, none⟩ = some (.int .i64 (p1 : Int)) := by rw [blk_cell hpa]; rfl
        replace cpa1 : u5.cell? ⟨w.heap.size, 1, none⟩ = some (.int .i64 (p2 : Int)) := by rw [blk_cell hpa]; rfl
        replace lpa := blk_lt hpa
        replace crs0 : u5.cell? ⟨w.heap.size + 1, 0, none⟩ = some (.int .i64 0) := by rw [blk_cell hrs]; rfl
        replace crs1 : u5.cell? ⟨w.heap.size + 1, 1, none⟩ = some (.int .i64 0) := by rw [blk_cell hrs]; rfl
        replace lrs := blk_lt hrs
        replace cuu0 : u5.cell? ⟨u3.heap.size, 0, none⟩ = some (.int .i64 (v1 : Int)) := by rw [blk_cell huu]; rfl
        replace cuu1 : u5.cell? ⟨u3.heap.size, 1, none⟩ = some (.int .i64 (v2 : Int)) := by rw [blk_cell huu]; rfl
        replace cuu2 : u5.cell? ⟨u3.heap.size, 2, none⟩ = some (.slice aT trail.length cT) := by rw [blk_cell huu]; rfl
        replace cuu3 : u5.cell? ⟨u3.heap.size, 3, none⟩ = some (.int .i64 (conf : Int)) := by rw [blk_cell huu]; rfl
        replace luu := blk_lt huu
        generalize cubeOf C S1 (p1, p2) (v1, v2) = R at *
        obtain ⟨S3, f1, f2⟩ := R
        dsimp only at hS HW1 HO1 ⊢
        by_cases hf1 : f1 = 0
        · have hq2 : ((f1 : Int) == 0) = true := by rw [beq_iff_eq]; omega
          have hq3 : (f1 == 0) = true := by rw [beq_iff_eq]; exact hf1
          have hno := unhide HO1 hf1
          have hBI := hL.branch hC hno hvb
          have hX := (unhide HLM).trans (congrArg (afterNode C m (p1, p2) d) hno)
          have HX : Hid (lookM C m (p1, p2) d S = branchM C m (p1, p2) d (v1, v2) S3) := hide hX
          clear hX hno hf1
          go_wp2_with fail
          have nwo : Far b V2 u5.heap.size := hS.fresh (Nat.le_refl _)
          generalize hw0 : u5.alloc (.cells #[.int .i64 (f1 : Int), .int .i64 (f2 : Int)] 129) = u6
          have b6 : Below u5.heap.size u5 u6 := by rw [← hw0]; exact (Below.refl _ _).alloc (Nat.le_refl _) _
          have hwo : u6.heap[u5.heap.size]? = some (.cells #[.int .i64 (f1 : Int), .int .i64 (f2 : Int)] 129 (0, 0)) := by rw [← hw0]; exact heap_alloc_new _ _
          clear hw0
          replace hM := hM.trans (SMoved.of_below b6)
          replace hS := hS.later b6
          replace lb := blk_lt hS.fb
          replace hpa := (b6.block _ (blk_lt hpa)).trans hpa
          replace cpa0 : u6.cell? ⟨w.heap.size, 0, none⟩ = some (.int .i64 (p1 : Int)) := by rw [blk_cell hpa]; rfl
          replace cpa1 : u6.cell? ⟨w.heap.size, 1, none⟩ = some (.int .i64 (p2 : Int)) := by rw [blk_cell hpa]; rfl
          replace lpa := blk_lt hpa
          replace hrs := (b6.block _ (blk_lt hrs)).trans hrs
          replace crs0 : u6.cell? ⟨w.heap.size + 1, 0, none⟩ = some (.int .i64 0) := by rw [blk_cell hrs]; rfl
          replace crs1 : u6.cell? ⟨w.heap.size + 1, 1, none⟩ = some (.int .i64 0) := by rw [blk_cell hrs]; rfl
          replace lrs := blk_lt hrs
          replace huu := (b6.block _ (blk_lt huu)).trans huu
          replace cuu0 : u6.cell? ⟨u3.heap.size, 0, none⟩ = some (.int .i64 (v1 : Int)) := by rw [blk_cell huu]; rfl
          replace cuu1 : u6.cell? ⟨u3.heap.size, 1, none⟩ = some (.int .i64 (v2 : Int)) := by rw [blk_cell huu]; rfl
          replace cuu2 : u6.cell? ⟨u3.heap.size, 2, none⟩ = some (.slice aT trail.length cT) := by rw [blk_cell huu]; rfl
          replace cuu3 : u6.cell? ⟨u3.heap.size, 3, none⟩ = some (.int .i64 (conf : Int)) := by rw [blk_cell huu]; rfl
          replace luu := blk_lt huu
          have cwo0 : u6.cell? ⟨u5.heap.size, 0, none⟩ = some (.int .i64 (f1 : Int)) := by rw [blk_cell hwo]; rfl
          have cwo1 : u6.cell? ⟨u5.heap.size, 1, none⟩ = some (.int .i64 (f2 : Int)) := by rw [blk_cell hwo]; rfl
          have lwo := blk_lt hwo
          refine (hBr b C S3 V2 (p1, p2) (v1, v2) d _ hC hBI hS).mono ?_
          rintro e u7 ⟨rfl, V3, hS2, hM2⟩
          replace hpa := hM2.blk hpa npa
          replace npa := hM2.far lpa npa
          replace hrs := hM2.blk hrs nrs
          replace nrs := hM2.far lrs nrs
          replace huu := hM2.blk huu nuu
          replace nuu := hM2.far luu nuu
          replace hwo := hM2.blk hwo nwo
          replace nwo := hM2.far lwo nwo
          replace hM := hM.trans hM2
          replace hS := hS2
          clear hM2
          replace lb := blk_lt hS.fb
          replace cpa0 : u7.cell? ⟨w.heap.size, 0, none⟩ = some (.int .i64 (p1 : Int)) := by rw [blk_cell hpa]; rfl
          replace cpa1 : u7.cell? ⟨w.heap.size, 1, none⟩ = some (.int .i64 (p2 : Int)) := by rw [blk_cell hpa]; rfl
          replace lpa := blk_lt hpa
          replace crs0 : u7.cell? ⟨w.heap.size + 1, 0, none⟩ = some (.int .i64 0) := by rw [blk_cell hrs]; rfl
          replace crs1 : u7.cell? ⟨w.heap.size + 1, 1, none⟩ = some (.int .i64 0) := by rw [blk_cell hrs]; rfl
          replace lrs := blk_lt hrs
          replace cuu0 : u7.cell? ⟨u3.heap.size, 0, none⟩ = some (.int .i64 (v1 : Int)) := by rw [blk_cell huu]; rfl
          replace cuu1 : u7.cell? ⟨u3.heap.size, 1, none⟩ = some (.int .i64 (v2 : Int)) := by rw [blk_cell huu]; rfl
          replace cuu2 : u7.cell? ⟨u3.heap.size, 2, none⟩ = some (.slice aT trail.length cT) := by rw [blk_cell huu]; rfl
          replace cuu3 : u7.cell? ⟨u3.heap.size, 3, none⟩ = some (.int .i64 (conf : Int)) := by rw [blk_cell huu]; rfl
          replace luu := blk_lt huu
          replace cwo0 : u7.cell? ⟨u5.heap.size, 0, none⟩ = some (.int .i64 (f1 : Int)) := by rw [blk_cell hwo]; rfl
          replace cwo1 : u7.cell? ⟨u5.heap.size, 1, none⟩ = some (.int .i64 (f2 : Int)) := by rw [blk_cell hwo]; rfl
          replace lwo := blk_lt hwo
          generalize branchM C m (p1, p2) d (v1, v2) S3 = R at *
          obtain ⟨S4, g1, g2⟩ := R
          dsimp only at hS HX ⊢
          have z0 := blk_free hrs 0
          have z1 := blk_free hrs 1
          have hR := blk_set (blk_set hrs 0 (.int .i64 (g1 : Int))) 1 (.int .i64 (g2 : Int))
          have j0 := blk_cell hR 0
          have j1 := blk_cell hR 1
          go_wp2_with fail
          refine bodyPost_ret (v := FactV (g1, g2)) (by simp [results, Tryz.results62, go_sem, j0, j1]) rfl ⟨by rw [unhide HX], ?_⟩
          rw [unhide HX]
          exact ⟨_, (hS.set nrs 0 _).set nrs 1 _, (hM.set (k := w.heap.size + 1) (by omega) 0 _).set (k := w.heap.size + 1) (by omega) 1 _⟩
        · have hq2 : ((f1 : Int) == 0) = false := by rw [beq_eq_false_iff_ne]; omega
          have hq3 : (f1 == 0) = false := by rw [beq_eq_false_iff_ne]; exact hf1
          have hX := (unhide HLM).trans (congrArg (afterNode C m (p1, p2) d) (unhide HW1 hf1))
          have HX : Hid (lookM C m (p1, p2) d S = (S3, (f1, f2))) := hide hX
          clear hX hf1
          have z0 := blk_free hrs 0
          have z1 := blk_free hrs 1
          have hR := blk_set (blk_set hrs 0 (.int .i64 (f1 : Int))) 1 (.int .i64 (f2 : Int))
          have hAl : Below ((u5.setCell ⟨w.heap.size + 1, 0, none⟩ (.int .i64 (f1 : Int))).setCell ⟨w.heap.size + 1, 1, none⟩ (.int .i64 (f2 : Int))).heap.size ((u5.setCell ⟨w.heap.size + 1, 0, none⟩ (.int .i64 (f1 : Int))).setCell ⟨w.heap.size + 1, 1, none⟩ (.int .i64 (f2 : Int))) (((u5.setCell ⟨w.heap.size + 1, 0, none⟩ (.int .i64 (f1 : Int))).setCell ⟨w.heap.size + 1, 1, none⟩ (.int .i64 (f2 : Int))).alloc (.cells #[.int .i64 (f1 : Int), .int .i64 (f2 : Int)] 129)) := (Below.refl _ _).alloc (Nat.le_refl _) _
          have hRA := (hAl.block _ (blk_lt hR)).trans hR
          have j0 := blk_cell hRA 0
          have j1 := blk_cell hRA 1
          have j2 := blk_cell hR 0
          have j3 := blk_cell hR 1
          go_wp2_with fail
          refine bodyPost_ret (v := FactV (f1, f2)) (by simp [results, Tryz.results62, go_sem, j0, j1]) rfl ⟨by rw [unhide HX], ?_⟩
          rw [unhide HX]
          exact ⟨_, ((hS.set nrs 0 _).set nrs 1 _).later hAl, ((hM.set (k := w.heap.size + 1) (by omega) 0 _).set (k := w.heap.size + 1) (by omega) 1 _).trans (SMoved.of_below hAl)⟩
      · have hq1 : decide ((0 : Int) < (conf : Int)) = true := decide_eq_true (by omega)
        have hX := (unhide HLM).trans (congrArg (afterNode C m (p1, p2) d) (unhide HCN hc))
        have HX : Hid (lookM C m (p1, p2) d S = explain C S1 ⟨(v1, v2), trail, conf⟩) := hide hX
        have hq1n : decide (0 < conf) = true := decide_eq_true (by omega)
        clear hX hc
        go_wp2_with fail
        have nuu : Far b V u3.heap.size := hS.fresh (Nat.le_refl _)
        generalize hw0 : u3.alloc (.cells #[.int .i64 (v1 : Int), .int .i64 (v2 : Int), .slice aT trail.length cT, .int .i64 (conf : Int)] 161) = u4
        have b4 : Below u3.heap.size u3 u4 := by rw [← hw0]; exact (Below.refl _ _).alloc (Nat.le_refl _) _
        have huu : u4.heap[u3.heap.size]? = some (.cells #[.int .i64 (v1 : Int), .int .i64 (v2 : Int), .slice aT trail.length cT, .int .i64 (conf : Int)] 161 (0, 0)) := by rw [← hw0]; exact heap_alloc_new _ _
        clear hw0
        replace hM := hM.trans (SMoved.of_below b4)
        replace hS := hS.later b4
        replace lb := blk_lt hS.fb
        replace hpa := (b4.block _ (blk_lt hpa)).trans hpa
        replace cpa0 : u4.cell? ⟨w.heap.size, 0, none⟩ = some (.int .i64 (p1 : Int)) := by rw [blk_cell hpa]; rfl
        replace cpa1 : u4.cell? ⟨w.heap.size, 1, none⟩ = some (.int .i64 (p2 : Int)) := by rw [blk_cell hpa]; rfl
        replace lpa := blk_lt hpa
        replace hrs := (b4.block _ (blk_lt hrs)).trans hrs
        replace crs0 : u4.cell? ⟨w.heap.size + 1, 0, none⟩ = some (.int .i64 0) := by rw [blk_cell hrs]; rfl
        replace crs1 : u4.cell? ⟨w.heap.size + 1, 1, none⟩ = some (.int .i64 0) := by rw [blk_cell hrs]; rfl
        replace lrs := blk_lt hrs
        have cuu0 : u4.cell? ⟨u3.heap.size, 0, none⟩ = some (.int .i64 (v1 : Int)) := by rw [blk_cell huu]; rfl
        have cuu1 : u4.cell? ⟨u3.heap.size, 1, none⟩ = some (.int .i64 (v2 : Int)) := by rw [blk_cell huu]; rfl
        have cuu2 : u4.cell? ⟨u3.heap.size, 2, none⟩ = some (.slice aT trail.length cT) := by rw [blk_cell huu]; rfl
        have cuu3 : u4.cell? ⟨u3.heap.size, 3, none⟩ = some (.int .i64 (conf : Int)) := by rw [blk_cell huu]; rfl
        have luu := blk_lt huu
        replace hrow := own_below hrow b4
        refine (explain_any b C S1 V ⟨(v1, v2), trail, conf⟩ aT cT _ _ hS hB1 hrow hTB hfar (by omega) (show conf ≤ 100000 by omega)).mono ?_
        rintro e u5 ⟨rfl, V2, hS2, hM2⟩
        replace hpa := hM2.blk hpa npa
        replace npa := hM2.far lpa npa
        replace hrs := hM2.blk hrs nrs
        replace nrs := hM2.far lrs nrs
        replace huu := hM2.blk huu nuu
        replace nuu := hM2.far luu nuu
        replace hM := hM.trans hM2
        replace hS := hS2
        clear hM2
        replace lb := blk_lt hS.fb
        replace cpa0 : u5.cell? ⟨w.heap.size, 0, none⟩ = some (.int .i64 (p1 : Int)) := by rw [blk_cell hpa]; rfl
        replace cpa1 : u5.cell? ⟨w.heap.size, 1, none⟩ = some (.int .i64 (p2 : Int)) := by rw [blk_cell hpa]; rfl
        replace lpa := blk_lt hpa
        replace crs0 : u5.cell? ⟨w.heap.size + 1, 0, none⟩ = some (.int .i64 0) := by rw [blk_cell hrs]; rfl
        replace crs1 : u5.cell? ⟨w.heap.size + 1, 1, none⟩ = some (.int .i64 0) := by rw [blk_cell hrs]; rfl
        replace lrs := blk_lt hrs
        replace cuu0 : u5.cell? ⟨u3.heap.size, 0, none⟩ = some (.int .i64 (v1 : Int)) := by rw [blk_cell huu]; rfl
        replace cuu1 : u5.cell? ⟨u3.heap.size, 1, none⟩ = some (.int .i64 (v2 : Int)) := by rw [blk_cell huu]; rfl
        replace cuu2 : u5.cell? ⟨u3.heap.size, 2, none⟩ = some (.slice aT trail.length cT) := by rw [blk_cell huu]; rfl
        replace cuu3 : u5.cell? ⟨u3.heap.size, 3, none⟩ = some (.int .i64 (conf : Int)) := by rw [blk_cell huu]; rfl
        replace luu := blk_lt huu
        generalize explain C S1 ⟨(v1, v2), trail, conf⟩ = R at *
        obtain ⟨S3, f1, f2⟩ := R
        dsimp only at hS HX ⊢
        have z0 := blk_free hrs 0
        have z1 := blk_free hrs 1
        have hR := blk_set (blk_set hrs 0 (.int .i64 (f1 : Int))) 1 (.int .i64 (f2 : Int))
        have j0 := blk_cell hR 0
        have j1 := blk_cell hR 1
        go_wp2_with fail
        refine bodyPost_ret (v := FactV (f1, f2)) (by simp [results, Tryz.results62, go_sem, j0, j1]) rfl ⟨by rw [unhide HX], ?_⟩
        rw [unhide HX]
        exact ⟨_, (hS.set nrs 0 _).set nrs 1 _, (hM.set (k := w.heap.size + 1) (by omega) 0 _).set (k := w.heap.size + 1) (by omega) 1 _⟩
end Go.Proofs.YtgipjjhkhfihpaaGreatDoor
