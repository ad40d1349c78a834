import Derived.Test.YtgipjjhkhfihpabGreatDoorAH
import Derived.Test.YtgipjjhkhfihpabGreatDoorAG
import Derived.Test.YtgipjjhkhfihpabGreatDoorAE
namespace Go.Proofs.YtgipjjhkhfihpabGreatDoor
open Go.RowKit

/-! ### rulesOf -/
theorem callWithout (args : Array Value) (w : World) : (callFunc 89 args).run Tryz.prog w = .ok (.enter 89 args) w := by kernel_rfl
theorem callTurned (args : Array Value) (w : World) : (callFunc 90 args).run Tryz.prog w = .ok (.enter 90 args) w := by kernel_rfl
theorem infoRule : (Tryz.prog.info? 151).map (fun i => (i.zero, i.size, i.bytes)) = some (some (.agg #[.int .i64 0, .int .i64 0, .int .i64 0, .int .i64 0]), 4, 32) := by kernel_rfl
theorem infoBlock : (Tryz.prog.info? 131).map (fun i => (i.zero, i.size, i.bytes)) = some (some (.agg #[.slice none 0 0, .bool false]), 2, 32) := by kernel_rfl
def rulesTo (kind : Nat) (p : List Stp) (k : Nat) : List RuleP := ((p.take k).filter (fun s => s.rule == 4)).map (ruleW kind p)
theorem rulesTo_succ (kind : Nat) (p : List Stp) (k : Nat) (h : k < p.length) : rulesTo kind p (k + 1) = rulesTo kind p k ++ (if p[k].rule == 4 then [ruleW kind p p[k]] else []) := by
  unfold rulesTo
  rw [List.take_succ_eq_append_getElem h, List.filter_append, List.map_append, List.filter_cons]
  congr 1
  split <;> rfl
theorem rulesTo_len (kind : Nat) (p : List Stp) (k : Nat) : (rulesTo kind p k).length ≤ k := by
  unfold rulesTo
  rw [List.length_map]
  exact Nat.le_trans (List.length_filter_le _ _) (by simp; omega)
theorem ruleCells_snoc (l : List RuleP) (r : RuleP) : ruleCells (l ++ [r]) = ruleCells l ++ [Value.int .i64 (r.1.1 : Int), Value.int .i64 (r.1.2 : Int), Value.int .i64 (r.2.1 : Int), Value.int .i64 (r.2.2 : Int)] := by simp [ruleCells]
def RulesPost (kind : Nat) (ss : List Stp) (w : World) (e : Ending) (w' : World) : Prop := ∃ vR, e = .returned vR ∧ w'.ownsRow w.heap.size 151 4 vR (rulesW kind ss).length (ruleCells (rulesW kind ss)) ∧ Below w.heap.size w w'
set_option maxRecDepth 100000 in
set_option maxHeartbeats 3200000 in
theorem rulesOf_any (ss : List Stp) (aS : Option Addr) (cS kind : Nat) (w : World) (hS : w.ownsRow 0 91 6 (.slice aS ss.length cS) ss.length (psCells ss)) (hSB : SBs ss) (hk : kind = 1 ∨ kind = 2) :
    Calls Tryz.prog 62 #[.agg #[.int .i64 (kind : Int), .slice aS ss.length cS]] w fun e w' => RulesPost kind ss w e w' := by
  obtain ⟨i1, hi1, hz10, hz11, hz12⟩ := info_parts infoRule
  have hsl := hSB.len
  go_enter Tryz.func62, Tryz.ntmps62
  go_wp2_with fail
  go_loopg [3, 11] (ss.length) (fun m vl i wx => ∃ (k : Nat), i = .int .i64 k ∧ k + m = ss.length ∧ wx.ownsRow (w.heap.size + 1) 151 4 vl (rulesTo kind ss k).length (ruleCells (rulesTo kind ss k)) ∧ Below w.heap.size w wx ∧ wx.heap[w.heap.size]? = some (.cells #[.int .i64 (kind : Int), .slice aS ss.length cS] 51 (0, 0)))
  case atStart => exact ⟨0, rfl, by omega, World.ownsRow_nil _ _ _ _, (Below.refl _ _).alloc (Nat.le_refl _) _, heap_alloc_new _ _⟩
  case round =>
    obtain ⟨k, rfl, hkm, hown, hb, hpb⟩ := hrel
    have lp := blk_lt hpb
    have hln := rulesTo_len kind ss k
    obtain ⟨aL, cL, rfl⟩ := own_form hown
    by_cases hlt : k < ss.length
    · have HRS := hide (rulesTo_succ kind ss k hlt)
      have hsb := hSB.bits _ (List.getElem_mem hlt)
      obtain ⟨g, cap, hVe, hg, hg', _, hcell⟩ := own_pos hS (by omega)
      injection hVe with hVe _ hV2
      subst hVe hV2
      have hc : ∀ j (hj : j < 6) u, [Value.int .i64 (ss[k].rule : Int), Value.int .i64 (ss[k].first : Int), Value.int .i64 (ss[k].second : Int), Value.int .i64 (ss[k].var : Int), Value.int .i64 (ss[k].lits.1 : Int), Value.int .i64 (ss[k].lits.2 : Int)][j]? = some u → wr.cell? ⟨g, k * 6 + j, none⟩ = some u := fun j hj u hu => by
        rw [hb.cell (p := ⟨g, k * 6 + j, none⟩) hg']
        exact hcell _ _ (by rw [psCells_at ss k j hlt hj]; exact hu)
      have hx0 : wr.cell? ⟨g, k * 6, none⟩ = some (.int .i64 (ss[k].rule : Int)) := hc 0 (by omega) _ rfl
      have hx1 : wr.cell? ⟨g, k * 6 + 1, none⟩ = some (.int .i64 (ss[k].first : Int)) := hc 1 (by omega) _ rfl
      have hx2 : wr.cell? ⟨g, k * 6 + 2, none⟩ = some (.int .i64 (ss[k].second : Int)) := hc 2 (by omega) _ rfl
      have hx3 : wr.cell? ⟨g, k * 6 + 3, none⟩ = some (.int .i64 (ss[k].var : Int)) := hc 3 (by omega) _ rfl
      have hx4 : wr.cell? ⟨g, k * 6 + 4, none⟩ = some (.int .i64 (ss[k].lits.1 : Int)) := hc 4 (by omega) _ rfl
      have hx5 : wr.cell? ⟨g, k * 6 + 5, none⟩ = some (.int .i64 (ss[k].lits.2 : Int)) := hc 5 (by omega) _ rfl
      have hgw : g < wr.heap.size := Nat.lt_of_lt_of_le hg' hb.size
      clear hc hcell
      have HRW : Hid (∀ s, ss[k] = s → ruleW kind ss ss[k] = if kind = 1 then (swapL s.lits, swapL (minus (litsAt ss s.first) s.lits)) else (s.lits, minus (litsAt ss s.first) s.lits)) := hide (fun s e => by rw [e]; rfl)
      generalize hsk : ss[k] = st at *
      have HSK := hide hsk
      clear hsk
      obtain ⟨sr, sf, s2, sv, sl1, sl2⟩ := st
      dsimp only at *
      have hA : Below wr.heap.size wr (wr.alloc (.cells #[.int .i64 (sr : Int), .int .i64 (sf : Int), .int .i64 (s2 : Int), .int .i64 (sv : Int), .int .i64 (sl1 : Int), .int .i64 (sl2 : Int)] 91)) := (Below.refl _ _).alloc (Nat.le_refl _) _
      have hst := heap_alloc_new wr (.cells #[.int .i64 (sr : Int), .int .i64 (sf : Int), .int .i64 (s2 : Int), .int .i64 (sv : Int), .int .i64 (sl1 : Int), .int .i64 (sl2 : Int)] 91)
      have hpa := (hA.block _ lp).trans hpb
      have hBa := hb.trans (hA.mono hb.size)
      have howna := own_below hown hA
      by_cases hr4 : sr = 4
      · subst hr4
        have HRN : Hid (rulesTo kind ss (k + 1) = rulesTo kind ss k ++ [if kind = 1 then (swapL (sl1, sl2), swapL (minus (litsAt ss sf) (sl1, sl2))) else ((sl1, sl2), minus (litsAt ss sf) (sl1, sl2))]) := hide (by rw [unhide HRS, unhide HRW _ rfl]; rfl)
        clear HRS HRW
        -- WALK
        go_wp2_with fail
        generalize wr.alloc (.cells #[.int .i64 4, .int .i64 (sf : Int), .int .i64 (s2 : Int), .int .i64 (sv : Int), .int .i64 (sl1 : Int), .int .i64 (sl2 : Int)] 91) = wz at *
        have hB := hBa
        have cst0 : wz.cell? ⟨wr.heap.size, 0, none⟩ = some (.int .i64 4) := by rw [blk_cell hst]; rfl
        have cst1 : wz.cell? ⟨wr.heap.size, 1, none⟩ = some (.int .i64 (sf : Int)) := by rw [blk_cell hst]; rfl
        have cst2 : wz.cell? ⟨wr.heap.size, 2, none⟩ = some (.int .i64 (s2 : Int)) := by rw [blk_cell hst]; rfl
        have cst3 : wz.cell? ⟨wr.heap.size, 3, none⟩ = some (.int .i64 (sv : Int)) := by rw [blk_cell hst]; rfl
        have cst4 : wz.cell? ⟨wr.heap.size, 4, none⟩ = some (.int .i64 (sl1 : Int)) := by rw [blk_cell hst]; rfl
        have cst5 : wz.cell? ⟨wr.heap.size, 5, none⟩ = some (.int .i64 (sl2 : Int)) := by rw [blk_cell hst]; rfl
        have lst := blk_lt hst
        have cpa0 : wz.cell? ⟨w.heap.size, 0, none⟩ = some (.int .i64 (kind : Int)) := by rw [blk_cell hpa]; rfl
        have cpa1 : wz.cell? ⟨w.heap.size, 1, none⟩ = some (.slice (some ⟨g, 0, none⟩) ss.length cS) := by rw [blk_cell hpa]; rfl
        have lpa := blk_lt hpa
        refine (plits_any 0 w.heap.size 0 ss _ sf _ (by rw [blk_cell hpa]; rfl) (own_below hS hB) (by omega)).mono ?_
        rintro e u1 ⟨rfl, b1⟩
        replace hB := hB.trans (b1.mono hB.size)
        replace hst := (b1.block _ (blk_lt hst)).trans hst
        replace cst0 : u1.cell? ⟨wr.heap.size, 0, none⟩ = some (.int .i64 4) := by rw [blk_cell hst]; rfl
        replace cst1 : u1.cell? ⟨wr.heap.size, 1, none⟩ = some (.int .i64 (sf : Int)) := by rw [blk_cell hst]; rfl
        replace cst2 : u1.cell? ⟨wr.heap.size, 2, none⟩ = some (.int .i64 (s2 : Int)) := by rw [blk_cell hst]; rfl
        replace cst3 : u1.cell? ⟨wr.heap.size, 3, none⟩ = some (.int .i64 (sv : Int)) := by rw [blk_cell hst]; rfl
        replace cst4 : u1.cell? ⟨wr.heap.size, 4, none⟩ = some (.int .i64 (sl1 : Int)) := by rw [blk_cell hst]; rfl
        replace cst5 : u1.cell? ⟨wr.heap.size, 5, none⟩ = some (.int .i64 (sl2 : Int)) := by rw [blk_cell hst]; rfl
        replace lst := blk_lt hst
        replace hpa := (b1.block _ (blk_lt hpa)).trans hpa
        replace cpa0 : u1.cell? ⟨w.heap.size, 0, none⟩ = some (.int .i64 (kind : Int)) := by rw [blk_cell hpa]; rfl
        replace cpa1 : u1.cell? ⟨w.heap.size, 1, none⟩ = some (.slice (some ⟨g, 0, none⟩) ss.length cS) := by rw [blk_cell hpa]; rfl
        replace lpa := blk_lt hpa
        replace howna := own_below howna b1
        have hla := litsAt_lt ss hSB.bits sf
        generalize litsAt ss sf = c at *
        obtain ⟨c1, c2⟩ := c
        dsimp only at hla
        go_wp2_with fail
        generalize hw0 : u1.alloc (.cells #[.int .i64 (c1 : Int), .int .i64 (c2 : Int)] 77) = u2
        have b2 : Below u1.heap.size u1 u2 := by rw [← hw0]; exact (Below.refl _ _).alloc (Nat.le_refl _) _
        have hwh : u2.heap[u1.heap.size]? = some (.cells #[.int .i64 (c1 : Int), .int .i64 (c2 : Int)] 77 (0, 0)) := by rw [← hw0]; exact heap_alloc_new _ _
        clear hw0
        replace hB := hB.trans (b2.mono hB.size)
        replace hst := (b2.block _ (blk_lt hst)).trans hst
        replace cst0 : u2.cell? ⟨wr.heap.size, 0, none⟩ = some (.int .i64 4) := by rw [blk_cell hst]; rfl
        replace cst1 : u2.cell? ⟨wr.heap.size, 1, none⟩ = some (.int .i64 (sf : Int)) := by rw [blk_cell hst]; rfl
        replace cst2 : u2.cell? ⟨wr.heap.size, 2, none⟩ = some (.int .i64 (s2 : Int)) := by rw [blk_cell hst]; rfl
        replace cst3 : u2.cell? ⟨wr.heap.size, 3, none⟩ = some (.int .i64 (sv : Int)) := by rw [blk_cell hst]; rfl
        replace cst4 : u2.cell? ⟨wr.heap.size, 4, none⟩ = some (.int .i64 (sl1 : Int)) := by rw [blk_cell hst]; rfl
        replace cst5 : u2.cell? ⟨wr.heap.size, 5, none⟩ = some (.int .i64 (sl2 : Int)) := by rw [blk_cell hst]; rfl
        replace lst := blk_lt hst
        replace hpa := (b2.block _ (blk_lt hpa)).trans hpa
        replace cpa0 : u2.cell? ⟨w.heap.size, 0, none⟩ = some (.int .i64 (kind : Int)) := by rw [blk_cell hpa]; rfl
        replace cpa1 : u2.cell? ⟨w.heap.size, 1, none⟩ = some (.slice (some ⟨g, 0, none⟩) ss.length cS) := by rw [blk_cell hpa]; rfl
        replace lpa := blk_lt hpa
        replace howna := own_below howna b2
        have cwh0 : u2.cell? ⟨u1.heap.size, 0, none⟩ = some (.int .i64 (c1 : Int)) := by rw [blk_cell hwh]; rfl
        have cwh1 : u2.cell? ⟨u1.heap.size, 1, none⟩ = some (.int .i64 (c2 : Int)) := by rw [blk_cell hwh]; rfl
        have lwh := blk_lt hwh
        have hm := minus_lt (c1, c2) (sl1, sl2) hla
        obtain ⟨wo, rfl⟩ : ∃ wo, wo = wr := ⟨_, rfl⟩
        go_cut [7] (fun s7 wx => ∃ lr, s7 = .pointer (some ⟨lr, 0, none⟩) ∧ u2.heap.size ≤ lr ∧ Below u2.heap.size u2 wx ∧ wx.heap[lr]? = some (.cells #[.int .i64 (sl1 : Int), .int .i64 (sl2 : Int), .int .i64 ((minus (c1, c2) (sl1, sl2)).1 : Int), .int .i64 ((minus (c1, c2) (sl1, sl2)).2 : Int)] 151 (0, 0)))
        case first =>
          clear hx0 hx1 hx2 hx3 hx4 hx5 hg hg' hgw hS hi1 hz10 hz11 hz12 hsl hln hown howna hb hpb lp hA hBa hB hpa cpa0 cpa1 lpa HSK HRN hkm b1 b2
          go_region_law (refine step_call rfl 89 _ _ rfl #[SetV (c1, c2), SetV (sl1, sl2)] (by simp [Act.eval]) (callWithout _) ?_; refine (lwithout_any c1 c2 sl1 sl2 _ hla.1 hla.2 hsb.1 hsb.2).mono ?_; rintro e v1 ⟨rfl, y1⟩; refine ⟨_, rfl, ?_⟩; have x1 : Below u2.heap.size u2 v1 := Below.trans (by first | exact Below.refl _ _ | exact (Below.refl _ _).drew | exact (Below.refl _ _).alloc (Nat.le_refl _) _ | exact ((Below.refl _ _).alloc (Nat.le_refl _) _).drew | exact ((Below.refl _ _).drew).alloc (Nat.le_refl _) _) (y1.mono (by simp)); have hst1 := (x1.block _ (blk_lt hst)).trans hst; have lst1 := blk_lt hst1; have e4 : v1.cell? ⟨wo.heap.size, 4, none⟩ = some (.int .i64 (sl1 : Int)) := (by rw [blk_cell hst1]; rfl); have e5 : v1.cell? ⟨wo.heap.size, 5, none⟩ = some (.int .i64 (sl2 : Int)) := (by rw [blk_cell hst1]; rfl); (try (have hq : v1.heap[u2.heap.size]? = some (.cells #[.int .i64 0, .int .i64 0, .int .i64 0, .int .i64 0] 151 (0, 0)) := (by first | exact (y1.block u2.heap.size (by simp)).trans (heap_alloc_new u2 _) | exact (y1.block u2.heap.size (by simp)).trans (heap_alloc_new u2.drew _)); have lq := blk_lt hq; have q0 : v1.cell? ⟨u2.heap.size, 0, none⟩ = some (.int .i64 0) := (by rw [blk_cell hq]; rfl); have q1 : v1.cell? ⟨u2.heap.size, 1, none⟩ = some (.int .i64 0) := (by rw [blk_cell hq]; rfl); have q2 : v1.cell? ⟨u2.heap.size, 2, none⟩ = some (.int .i64 0) := (by rw [blk_cell hq]; rfl); have q3 : v1.cell? ⟨u2.heap.size, 3, none⟩ = some (.int .i64 0) := (by rw [blk_cell hq]; rfl); have z0 := blk_free hq 0; have z1 := blk_free hq 1; have z2 := blk_free hq 2; have z3 := blk_free hq 3)))
          all_goals
            go_wp2_with fail
            go_meet
            first
              | exact ⟨_, rfl, x1.size, x1.alloc x1.size _, heap_alloc_new _ _⟩
              | exact ⟨_, rfl, Nat.le_refl _, (((x1.setCell (p := ⟨u2.heap.size, 0, none⟩) (Nat.le_refl _) _).setCell (p := ⟨u2.heap.size, 1, none⟩) (Nat.le_refl _) _).setCell (p := ⟨u2.heap.size, 2, none⟩) (Nat.le_refl _) _).setCell (p := ⟨u2.heap.size, 3, none⟩) (Nat.le_refl _) _, blk_set (blk_set (blk_set (blk_set hq 0 _) 1 _) 2 _) 3 _⟩
        case rest =>
        obtain ⟨lr, rfl, hlr, hbc, hr⟩ := hcut
        have hpc := (hbc.block _ (blk_lt hpa)).trans hpa
        have pc0 : wc.cell? ⟨w.heap.size, 0, none⟩ = some (.int .i64 (kind : Int)) := by rw [blk_cell hpc]; rfl
        have lpc := blk_lt hpc
        generalize minus (c1, c2) (sl1, sl2) = cm at *
        obtain ⟨d1, d2⟩ := cm
        dsimp only at hm hr
        have howlt : w.heap.size < u2.heap.size := lpa
        rcases hk with rfl | rfl
        · have HRN2 : Hid (rulesTo 1 ss (k + 1) = rulesTo 1 ss k ++ [((sl2, sl1), (d2, d1))]) := hide (by rw [unhide HRN, if_pos rfl]; rfl)
          have r0 : wc.cell? ⟨lr, 0, none⟩ = some (.int .i64 (sl1 : Int)) := by rw [blk_cell hr]; rfl
          have r1 : wc.cell? ⟨lr, 1, none⟩ = some (.int .i64 (sl2 : Int)) := by rw [blk_cell hr]; rfl
          have r2 : wc.cell? ⟨lr, 2, none⟩ = some (.int .i64 (d1 : Int)) := by rw [blk_cell hr]; rfl
          have r3 : wc.cell? ⟨lr, 3, none⟩ = some (.int .i64 (d2 : Int)) := by rw [blk_cell hr]; rfl
          have lrr := blk_lt hr
          clear HRN
          obtain ⟨wq, rfl⟩ : ∃ x, x = wc := ⟨_, rfl⟩
          go_upto_region 20 with fail
          go_cut [] (fun wx => Below u2.heap.size u2 wx ∧ wx.heap[lr]? = some (.cells #[.int .i64 (sl2 : Int), .int .i64 (sl1 : Int), .int .i64 (d2 : Int), .int .i64 (d1 : Int)] 151 (0, 0)))
          case first =>
            clear hx0 hx1 hx2 hx3 hx4 hx5 hg hg' hgw hS hi1 hz10 hz11 hz12 hsl hln hown howna hb hpb lp hA hBa hB hpa cpa0 cpa1 lpa HSK hkm b1 b2 HRN2
            go_region_law (first | (refine step_call rfl 90 _ _ rfl #[SetV (sl1, sl2)] (by simp [Act.eval]) (callTurned _) ?_; refine (turned_any sl1 sl2 _).mono ?_; rintro e v1 ⟨rfl, y1⟩; refine ⟨_, rfl, ?_⟩; have x1 : Below wq.heap.size wq v1 := Below.trans (by first | exact Below.refl _ _ | exact (Below.refl _ _).drew) (y1.mono (by simp)); have hr_v1 := (x1.block _ lrr).trans hr; have l_v1 := blk_lt hr_v1; have v1c0 : v1.cell? ⟨lr, 0, none⟩ = some (.int .i64 (sl1 : Int)) := (by rw [blk_cell hr_v1]; rfl); have v1c1 : v1.cell? ⟨lr, 1, none⟩ = some (.int .i64 (sl2 : Int)) := (by rw [blk_cell hr_v1]; rfl); have v1c2 : v1.cell? ⟨lr, 2, none⟩ = some (.int .i64 (d1 : Int)) := (by rw [blk_cell hr_v1]; rfl); have v1c3 : v1.cell? ⟨lr, 3, none⟩ = some (.int .i64 (d2 : Int)) := (by rw [blk_cell hr_v1]; rfl); have v1z0 := blk_free hr_v1 0; have v1z1 := blk_free hr_v1 1; have v1z2 := blk_free hr_v1 2; have v1z3 := blk_free hr_v1 3) | (refine step_call rfl 90 _ _ rfl #[SetV (d1, d2)] (by simp [Act.eval]) (callTurned _) ?_; refine (turned_any d1 d2 _).mono ?_; rintro e v2 ⟨rfl, y2⟩; refine ⟨_, rfl, ?_⟩; have x2 : Below v1.heap.size v1 v2 := Below.trans (by first | exact Below.refl _ _ | exact (Below.refl _ _).drew) (y2.mono (by simp)); have hr_v2 := ((x1.trans (x2.mono x1.size)).block _ lrr).trans hr; have l_v2 := blk_lt hr_v2; have v2c0 : v2.cell? ⟨lr, 0, none⟩ = some (.int .i64 (sl1 : Int)) := (by rw [blk_cell hr_v2]; rfl); have v2c1 : v2.cell? ⟨lr, 1, none⟩ = some (.int .i64 (sl2 : Int)) := (by rw [blk_cell hr_v2]; rfl); have v2c2 : v2.cell? ⟨lr, 2, none⟩ = some (.int .i64 (d1 : Int)) := (by rw [blk_cell hr_v2]; rfl); have v2c3 : v2.cell? ⟨lr, 3, none⟩ = some (.int .i64 (d2 : Int)) := (by rw [blk_cell hr_v2]; rfl); have v2z0 := blk_free hr_v2 0; have v2z1 := blk_free hr_v2 1; have v2z2 := blk_free hr_v2 2; have v2z3 := blk_free hr_v2 3))
            all_goals
              go_wp2_with fail
              go_meet
              have xx := hbc.trans ((x1.trans (x2.mono x1.size)).mono hbc.size)
              exact ⟨(((xx.setCell (p := ⟨lr, 0, none⟩) hlr _).setCell (p := ⟨lr, 1, none⟩) hlr _).setCell (p := ⟨lr, 2, none⟩) hlr _).setCell (p := ⟨lr, 3, none⟩) hlr _, blk_set (blk_set (blk_set (blk_set hr_v2 0 _) 1 _) 2 _) 3 _⟩
          case rest =>
          obtain ⟨hbd, hrd⟩ := hcut
          clear r0 r1 r2 r3 lrr pc0 lpc hpc hbc hr
          have r0 : wc.cell? ⟨lr, 0, none⟩ = some (.int .i64 (sl2 : Int)) := by rw [blk_cell hrd]; rfl
          have r1 : wc.cell? ⟨lr, 1, none⟩ = some (.int .i64 (sl1 : Int)) := by rw [blk_cell hrd]; rfl
          have r2 : wc.cell? ⟨lr, 2, none⟩ = some (.int .i64 (d2 : Int)) := by rw [blk_cell hrd]; rfl
          have r3 : wc.cell? ⟨lr, 3, none⟩ = some (.int .i64 (d1 : Int)) := by rw [blk_cell hrd]; rfl
          have lrr := blk_lt hrd
          have hrl : (rulesTo 1 ss k).length ≤ 9000 := by omega
          have hownc := own_below howna hbd
          have lc : w.heap.size + 1 ≤ wc.heap.size := by have := hbd.size; have := howlt; omega
          have hBc := hB.trans (hbd.mono hB.size)
          have HSN := hide (ruleCells_snoc (rulesTo 1 ss k) ((sl2, sl1), (d2, d1)))
          go_wp2_with (at_builtin; refine wpList_append_new rfl _ _ 97 rfl (w.heap.size + 1) i1 (.agg #[.int .i64 0, .int .i64 0, .int .i64 0, .int .i64 0]) 4 32 Tryz.underlying97 hi1 hz10 hz11 hz12 rfl (by decide) _ _ _ hownc rfl rfl rfl (by simp [Value.oneCell']) (by unfold maxLen; omega) (by omega) lc ?_; intro v4 w4 hown4 hgrow4 hnn4)
          have hB4 : Below w.heap.size w w4 := below_grown hBc hgrow4 hownc (Nat.le_succ _) hBc.size
          have hp4 : w4.heap[w.heap.size]? = some (.cells #[.int .i64 ((1 : Nat) : Int), .slice (some ⟨g, 0, none⟩) ss.length cS] 51 (0, 0)) := (hgrow4.block _ (blk_lt ((hbd.block _ (blk_lt hpa)).trans hpa)) (fun e => by have := (hownc.lt _ e.symm).1; omega)).trans ((hbd.block _ (blk_lt hpa)).trans hpa)
          obtain ⟨a4, c4, rfl⟩ := own_form hown4
          go_wp2_with fail
          go_roundg (gk - 1)
          case measure => omega
          case rel => exact ⟨k + 1, by go_num, by omega, by rw [unhide HRN2, unhide HSN]; simpa using hown4, hB4, hp4⟩
        · have HRN2 : Hid (rulesTo 2 ss (k + 1) = rulesTo 2 ss k ++ [((sl1, sl2), (d1, d2))]) := hide (by rw [unhide HRN, if_neg (by decide)])
          have r0 : wc.cell? ⟨lr, 0, none⟩ = some (.int .i64 (sl1 : Int)) := by rw [blk_cell hr]; rfl
          have r1 : wc.cell? ⟨lr, 1, none⟩ = some (.int .i64 (sl2 : Int)) := by rw [blk_cell hr]; rfl
          have r2 : wc.cell? ⟨lr, 2, none⟩ = some (.int .i64 (d1 : Int)) := by rw [blk_cell hr]; rfl
          have r3 : wc.cell? ⟨lr, 3, none⟩ = some (.int .i64 (d2 : Int)) := by rw [blk_cell hr]; rfl
          have lrr := blk_lt hr
          have hrl : (rulesTo 2 ss k).length ≤ 9000 := by omega
          have hownc := own_below howna hbc
          have lc : w.heap.size + 1 ≤ wc.heap.size := by have := hbc.size; have := howlt; omega
          have hBc := hB.trans (hbc.mono hB.size)
          have HSN := hide (ruleCells_snoc (rulesTo 2 ss k) ((sl1, sl2), (d1, d2)))
          go_wp2_with (at_builtin; refine wpList_append_new rfl _ _ 97 rfl (w.heap.size + 1) i1 (.agg #[.int .i64 0, .int .i64 0, .int .i64 0, .int .i64 0]) 4 32 Tryz.underlying97 hi1 hz10 hz11 hz12 rfl (by decide) _ _ _ hownc rfl rfl rfl (by simp [Value.oneCell']) (by unfold maxLen; omega) (by omega) lc ?_; intro v4 w4 hown4 hgrow4 hnn4)
          have hB4 : Below w.heap.size w w4 := below_grown hBc hgrow4 hownc (Nat.le_succ _) hBc.size
          have hp4 : w4.heap[w.heap.size]? = some (.cells #[.int .i64 ((2 : Nat) : Int), .slice (some ⟨g, 0, none⟩) ss.length cS] 51 (0, 0)) := (hgrow4.block _ (blk_lt ((hbc.block _ (blk_lt hpa)).trans hpa)) (fun e => by have := (hownc.lt _ e.symm).1; omega)).trans ((hbc.block _ (blk_lt hpa)).trans hpa)
          obtain ⟨a4, c4, rfl⟩ := own_form hown4
          go_wp2_with fail
          go_roundg (gk - 1)
          case measure => omega
          case rel => exact ⟨k + 1, by go_num, by omega, by rw [unhide HRN2, unhide HSN]; simpa using hown4, hB4, hp4⟩
      · have hne : ((sr : Int) != 4) = true := by rw [bne_iff_ne]; omega
        have HRN : Hid (rulesTo kind ss (k + 1) = rulesTo kind ss k) := hide (by rw [unhide HRS, if_neg (by simpa using hr4), List.append_nil])
        clear HRS HRW hr4
        go_wp2_with fail
        go_roundg (gk - 1)
        case measure => omega
        case rel => exact ⟨k + 1, by go_num, by omega, by rw [unhide HRN]; exact howna, hBa, hpa⟩
    · have hke : k = ss.length := by omega
      subst hke
      have HR : Hid (rulesW kind ss = rulesTo kind ss ss.length) := hide (by unfold rulesW rulesTo; rw [List.take_length])
      go_wp2_with fail
      go_ret
      exact ⟨_, rfl, by rw [unhide HR]; exact own_lo hown (by omega), hb⟩
end Go.Proofs.YtgipjjhkhfihpabGreatDoor

namespace Go.Proofs.YtgipjjhkhfihpabGreatDoor
open Go.RowKit

/-! ### A duel's Turn, Move, Values -/
set_option maxRecDepth 100000 in
set_option maxHeartbeats 1600000 in
theorem dturn_any (b : Nat) (t : TypeId) (bl : BL) (rs : List RuleP) (g : GS) (gv : GV) (w : World) (hG : GameAt w b t bl rs g gv) :
    Calls Tryz.prog 21 #[.pointer (some ⟨b, 0, none⟩)] w fun e w' => e = .returned (.int .i64 (g.turn : Int)) ∧ w' = w := by
  have lb := blk_lt hG.fb
  go_enter Tryz.func21, Tryz.ntmps21
  go_wp2_with fail
  refine (gturn_any b t bl rs g gv w hG).mono ?_
  rintro e w1 ⟨rfl, hw1⟩
  subst hw1
  go_wp2_with fail
  go_ret
  exact ⟨rfl, rfl⟩
set_option maxRecDepth 100000 in
set_option maxHeartbeats 1600000 in
theorem dvalues_any (b : Nat) (t : TypeId) (bl : BL) (rs : List RuleP) (g : GS) (gv : GV) (w : World) (hG : GameAt w b t bl rs g gv) (hp : g.vals.1 < 512 ∧ g.vals.2 < 512) :
    Calls Tryz.prog 23 #[.pointer (some ⟨b, 0, none⟩)] w fun e w' => ∃ k, e = .returned (.slice (some ⟨k, 0, none⟩) 8 8) ∧ w.heap.size ≤ k ∧ w'.heap[k]? = some (.cells (valTo g.vals 8).toArray 3 (0, 0)) ∧ Below w.heap.size w w' := by
  have lb := blk_lt hG.fb
  go_enter Tryz.func23, Tryz.ntmps23
  go_wp2_with fail
  refine (gvalues_any b t bl rs g gv w hG hp).mono ?_
  rintro e w1 ⟨k, rfl, h1, h2, h3⟩
  go_wp2_with fail
  go_ret
  exact ⟨k, rfl, h1, h2, h3⟩
set_option maxRecDepth 100000 in
set_option maxHeartbeats 1600000 in
theorem dmove_any (b : Nat) (t : TypeId) (bl : BL) (rs : List RuleP) (g : GS) (gv : GV) (bits : Int) (w : World) (hG : GameAt w b t bl rs g gv) (hR : RBd rs) (hB : BBd bl) (hp : g.vals.1 < 512 ∧ g.vals.2 < 512) (ht : g.turn ≤ bl.length) (hbi : i64ok bits) :
    Calls Tryz.prog 19 #[.pointer (some ⟨b, 0, none⟩), .int .i64 bits] w fun e w' => e = .returned (.int .i64 (MoveE bl g bits : Nat)) ∧ GameAt w' b t bl rs (MoveG rs bl g bits) gv ∧ Only (· = b) w w' := by
  have lb := blk_lt hG.fb
  go_enter Tryz.func19, Tryz.ntmps19
  go_wp2_with fail
  refine (gmove_any b t bl rs g gv bits w hG hR hB hp ht hbi).mono ?_
  rintro e w1 ⟨rfl, h2, h3⟩
  go_wp2_with fail
  go_ret
  exact ⟨rfl, h2, h3⟩
end Go.Proofs.YtgipjjhkhfihpabGreatDoor

namespace Go.Proofs.YtgipjjhkhfihpabGreatDoor
open Go.RowKit

/-! ### Open -/
def GFresh (n : Nat) (gv : GV) : Prop := (∀ k, gv.vB.ownBlock = some k → n ≤ k) ∧ (∀ k, gv.vR.ownBlock = some k → n ≤ k) ∧ ∀ j (hj : j < gv.hdrs.length) k, gv.hdrs[j].ownBlock = some k → n ≤ k
def GameV (g : GS) (gv : GV) : Value := .agg #[gv.vB, gv.vR, .int .i64 (g.turn : Int), .int .i64 (g.vals.1 : Int), .int .i64 (g.vals.2 : Int)]
def OpenPost (q : QS) (kind : Nat) (ss : List Stp) (w : World) (e : Ending) (w' : World) : Prop :=
  ∃ gv, e = .returned (GameV (openW q kind ss) gv) ∧ GRows w' (blW q kind) (rulesW kind ss) gv ∧ GFresh w.heap.size gv ∧ Below w.heap.size w w'
theorem flat_len (bs : List (List Nat)) (h : ∀ b ∈ bs, b ≠ []) : bs.length ≤ bs.flatten.length := by
  induction bs with
  | nil => simp
  | cons b bs ih =>
    have h1 := ih (fun x hx => h x (List.mem_cons_of_mem _ hx))
    have h2 : 0 < b.length := List.length_pos_iff.2 (h b (by simp))
    simp only [List.flatten_cons, List.length_append, List.length_cons]
    omega
theorem blocks_le (vs : List (Nat × Bool)) (h : vs.length ≤ 8) : (progBlocks vs).length ≤ 8 := by
  have := flat_len (progBlocks vs) (fun b hb => (progBlocks_kind vs b hb).1)
  rw [progBlocks_flat, List.length_map] at this
  omega
theorem block_len (vs : List (Nat × Bool)) (h : vs.length ≤ 8) (b : List Nat) (hb : b ∈ progBlocks vs) : b.length ≤ 8 := by
  have h1 : b.length ≤ (progBlocks vs).flatten.length := by
    have := (List.sublist_flatten_of_mem hb).length_le
    exact this
  rw [progBlocks_flat, List.length_map] at h1
  omega
theorem bbd_of {q : QS} (hQ : QB q) (kind : Nat) : BBd (blW q kind) := by
  refine ⟨by rw [blW_length]; exact blocks_le q.vars hQ.vl, fun x hx => ?_⟩
  obtain ⟨b, hb, rfl⟩ := List.mem_map.1 (show x ∈ (progBlocks q.vars).map _ from hx)
  refine ⟨block_len q.vars hQ.vl b hb, fun v hv => ?_⟩
  have hm : v ∈ (progBlocks q.vars).flatten := List.mem_flatten.2 ⟨b, hb, hv⟩
  rw [progBlocks_flat] at hm
  obtain ⟨y, hy, rfl⟩ := List.mem_map.1 hm
  exact hQ.names y hy
theorem rbd_of {ss : List Stp} (h : SBs ss) (kind : Nat) : RBd (rulesW kind ss) := by
  refine ⟨?_, fun r hr => ?_⟩
  · unfold rulesW
    rw [List.length_map]
    exact Nat.le_trans (List.length_filter_le _ _) h.len
  · unfold rulesW at hr
    obtain ⟨s, hs, rfl⟩ := List.mem_map.1 hr
    have hs' := h.bits s (List.mem_filter.1 hs).1
    have hm := minus_lt (litsAt ss s.first) s.lits (litsAt_lt ss h.bits s.first)
    unfold ruleW swapL
    split
    · exact ⟨⟨hs'.2, hs'.1⟩, hm.2, hm.1⟩
    · exact ⟨hs', hm⟩
/-- While the blocks are gathered. -/
structure OAt (u wx : World) (gb : Nat) (bl : BL) (hdrs : List Value) (vR : Value) (k : Nat) (vB : Value) : Prop where
  gg : wx.heap[gb]? = some (.cells #[vB, vR, .int .i64 0, .int .i64 0, .int .i64 0] 99 (0, 0))
  oB : wx.ownsRow u.heap.size 131 2 vB k (blCells (bl.take k) (hdrs.take k))
  only : Only (· = gb) u wx
theorem blCells_snoc (bl : BL) (hdrs : List Value) (k : Nat) (h : k < bl.length) (hh : k < hdrs.length) : blCells (bl.take (k + 1)) (hdrs.take (k + 1)) = blCells (bl.take k) (hdrs.take k) ++ [hdrs[k], .bool bl[k].2] := by
  unfold blCells
  rw [List.take_succ_eq_append_getElem h, List.take_succ_eq_append_getElem hh, List.zip_append (by simp; omega), List.flatMap_append]
  simp
set_option maxRecDepth 100000 in
set_option maxHeartbeats 3200000 in
theorem popen_any (q : QS) (ss : List Stp) (aV aC aS : Option Addr) (cV cC cS kind : Nat) (w : World) (hV : w.ownsRow 0 109 2 (.slice aV q.vars.length cV) q.vars.length (varCells q.vars)) (hl : q.vars.length ≤ 8)
    (hS : w.ownsRow 0 91 6 (.slice aS ss.length cS) ss.length (psCells ss)) (hSB : SBs ss) (hk : kind = 1 ∨ kind = 2) (hQ : QB q) :
    Calls Tryz.prog 35 #[.agg #[.slice aV q.vars.length cV, .slice aC q.cl.length cC], .agg #[.int .i64 (kind : Int), .slice aS ss.length cS]] w fun e w' => OpenPost q kind ss w e w' := by
  obtain ⟨i1, hi1, hz10, hz11, hz12⟩ := info_parts infoBlock
  go_enter Tryz.func35, Tryz.ntmps35
  go_wp2_with fail
  generalize hw0 : (((w.alloc (.cells #[.slice aV q.vars.length cV, .slice aC q.cl.length cC] 44)).alloc (.cells #[.int .i64 (kind : Int), .slice aS ss.length cS] 51)).alloc (.cells #[.slice none 0 0, .slice none 0 0, .int .i64 0, .int .i64 0, .int .i64 0] 99)) = u1
  have hB : Below w.heap.size w u1 := by rw [← hw0]; exact (((Below.refl _ _).alloc (Nat.le_refl _) _).alloc (by simp; try omega) _).alloc (by simp; try omega) _
  have hff : u1.heap[w.heap.size]? = some (.cells #[.slice aV q.vars.length cV, .slice aC q.cl.length cC] 44 (0, 0)) := by rw [← hw0, heap_alloc_old _ _ (by simp; try omega), heap_alloc_old _ _ (by simp; try omega)]; exact alloc_new_at (by simp)
  have hpp : u1.heap[w.heap.size + 1]? = some (.cells #[.int .i64 (kind : Int), .slice aS ss.length cS] 51 (0, 0)) := by rw [← hw0, heap_alloc_old _ _ (by simp; try omega)]; exact alloc_new_at (by simp)
  have hrs : u1.heap[w.heap.size + 1 + 1]? = some (.cells #[.slice none 0 0, .slice none 0 0, .int .i64 0, .int .i64 0, .int .i64 0] 99 (0, 0)) := by rw [← hw0]; exact alloc_new_at (by simp)
  clear hw0
  have cff0 : u1.cell? ⟨w.heap.size, 0, none⟩ = some (.slice aV q.vars.length cV) := by rw [blk_cell hff]; rfl
  have cff1 : u1.cell? ⟨w.heap.size, 1, none⟩ = some (.slice aC q.cl.length cC) := by rw [blk_cell hff]; rfl
  have lff := blk_lt hff
  have cpp0 : u1.cell? ⟨w.heap.size + 1, 0, none⟩ = some (.int .i64 (kind : Int)) := by rw [blk_cell hpp]; rfl
  have cpp1 : u1.cell? ⟨w.heap.size + 1, 1, none⟩ = some (.slice aS ss.length cS) := by rw [blk_cell hpp]; rfl
  have lpp := blk_lt hpp
  have crs0 : u1.cell? ⟨w.heap.size + 1 + 1, 0, none⟩ = some (.slice none 0 0) := by rw [blk_cell hrs]; rfl
  have crs1 : u1.cell? ⟨w.heap.size + 1 + 1, 1, none⟩ = some (.slice none 0 0) := by rw [blk_cell hrs]; rfl
  have crs2 : u1.cell? ⟨w.heap.size + 1 + 1, 2, none⟩ = some (.int .i64 0) := by rw [blk_cell hrs]; rfl
  have crs3 : u1.cell? ⟨w.heap.size + 1 + 1, 3, none⟩ = some (.int .i64 0) := by rw [blk_cell hrs]; rfl
  have crs4 : u1.cell? ⟨w.heap.size + 1 + 1, 4, none⟩ = some (.int .i64 0) := by rw [blk_cell hrs]; rfl
  have lrs := blk_lt hrs
  have hsz1 : w.heap.size ≤ u1.heap.size := hB.size
  refine (rulesOf_any ss aS cS kind _ (own_below hS hB) hSB hk).mono ?_
  rintro e u2 ⟨vR, rfl, hoR, b2⟩
  replace hB := hB.trans (b2.mono hB.size)
  replace hff := (b2.block _ (blk_lt hff)).trans hff
  replace cff0 : u2.cell? ⟨w.heap.size, 0, none⟩ = some (.slice aV q.vars.length cV) := by rw [blk_cell hff]; rfl
  replace cff1 : u2.cell? ⟨w.heap.size, 1, none⟩ = some (.slice aC q.cl.length cC) := by rw [blk_cell hff]; rfl
  replace lff := blk_lt hff
  replace hpp := (b2.block _ (blk_lt hpp)).trans hpp
  replace cpp0 : u2.cell? ⟨w.heap.size + 1, 0, none⟩ = some (.int .i64 (kind : Int)) := by rw [blk_cell hpp]; rfl
  replace cpp1 : u2.cell? ⟨w.heap.size + 1, 1, none⟩ = some (.slice aS ss.length cS) := by rw [blk_cell hpp]; rfl
  replace lpp := blk_lt hpp
  replace hrs := (b2.block _ (blk_lt hrs)).trans hrs
  replace crs0 : u2.cell? ⟨w.heap.size + 1 + 1, 0, none⟩ = some (.slice none 0 0) := by rw [blk_cell hrs]; rfl
  replace crs1 : u2.cell? ⟨w.heap.size + 1 + 1, 1, none⟩ = some (.slice none 0 0) := by rw [blk_cell hrs]; rfl
  replace crs2 : u2.cell? ⟨w.heap.size + 1 + 1, 2, none⟩ = some (.int .i64 0) := by rw [blk_cell hrs]; rfl
  replace crs3 : u2.cell? ⟨w.heap.size + 1 + 1, 3, none⟩ = some (.int .i64 0) := by rw [blk_cell hrs]; rfl
  replace crs4 : u2.cell? ⟨w.heap.size + 1 + 1, 4, none⟩ = some (.int .i64 0) := by rw [blk_cell hrs]; rfl
  replace lrs := blk_lt hrs
  have hsz2 : w.heap.size + 1 + 1 < u2.heap.size := lrs
  obtain ⟨aR, cR, rfl⟩ := own_form hoR
  have HRlt : Hid (∀ k, (Value.slice aR (rulesW kind ss).length cR).ownBlock = some k → u1.heap.size ≤ k ∧ k < u2.heap.size) := hide (fun k hk => hoR.lt k hk)
  have hRl : (rulesW kind ss).length ≤ 9000 := by have h1 := rulesTo_len kind ss ss.length; have h2 := hSB.len; unfold rulesTo at h1; rw [List.take_length] at h1; unfold rulesW; omega
  generalize hrw : rulesW kind ss = rs at *
  have HRW := hide hrw
  clear hrw
  go_wp2_with fail
  generalize hw0 : u2.alloc (.cells #[.slice none 0 0, .slice aR rs.length cR, .int .i64 0, .int .i64 0, .int .i64 0] 99) = u3
  have b3 : Below u2.heap.size u2 u3 := by rw [← hw0]; exact (Below.refl _ _).alloc (Nat.le_refl _) _
  have hgg : u3.heap[u2.heap.size]? = some (.cells #[.slice none 0 0, .slice aR rs.length cR, .int .i64 0, .int .i64 0, .int .i64 0] 99 (0, 0)) := by rw [← hw0]; exact heap_alloc_new _ _
  clear hw0
  replace hB := hB.trans (b3.mono hB.size)
  replace hff := (b3.block _ (blk_lt hff)).trans hff
  replace cff0 : u3.cell? ⟨w.heap.size, 0, none⟩ = some (.slice aV q.vars.length cV) := by rw [blk_cell hff]; rfl
  replace cff1 : u3.cell? ⟨w.heap.size, 1, none⟩ = some (.slice aC q.cl.length cC) := by rw [blk_cell hff]; rfl
  replace lff := blk_lt hff
  replace hpp := (b3.block _ (blk_lt hpp)).trans hpp
  replace cpp0 : u3.cell? ⟨w.heap.size + 1, 0, none⟩ = some (.int .i64 (kind : Int)) := by rw [blk_cell hpp]; rfl
  replace cpp1 : u3.cell? ⟨w.heap.size + 1, 1, none⟩ = some (.slice aS ss.length cS) := by rw [blk_cell hpp]; rfl
  replace lpp := blk_lt hpp
  replace hrs := (b3.block _ (blk_lt hrs)).trans hrs
  replace crs0 : u3.cell? ⟨w.heap.size + 1 + 1, 0, none⟩ = some (.slice none 0 0) := by rw [blk_cell hrs]; rfl
  replace crs1 : u3.cell? ⟨w.heap.size + 1 + 1, 1, none⟩ = some (.slice none 0 0) := by rw [blk_cell hrs]; rfl
  replace crs2 : u3.cell? ⟨w.heap.size + 1 + 1, 2, none⟩ = some (.int .i64 0) := by rw [blk_cell hrs]; rfl
  replace crs3 : u3.cell? ⟨w.heap.size + 1 + 1, 3, none⟩ = some (.int .i64 0) := by rw [blk_cell hrs]; rfl
  replace crs4 : u3.cell? ⟨w.heap.size + 1 + 1, 4, none⟩ = some (.int .i64 0) := by rw [blk_cell hrs]; rfl
  replace lrs := blk_lt hrs
  replace hoR := own_below hoR b3
  have cgg0 : u3.cell? ⟨u2.heap.size, 0, none⟩ = some (.slice none 0 0) := by rw [blk_cell hgg]; rfl
  have cgg1 : u3.cell? ⟨u2.heap.size, 1, none⟩ = some (.slice aR rs.length cR) := by rw [blk_cell hgg]; rfl
  have cgg2 : u3.cell? ⟨u2.heap.size, 2, none⟩ = some (.int .i64 0) := by rw [blk_cell hgg]; rfl
  have cgg3 : u3.cell? ⟨u2.heap.size, 3, none⟩ = some (.int .i64 0) := by rw [blk_cell hgg]; rfl
  have cgg4 : u3.cell? ⟨u2.heap.size, 4, none⟩ = some (.int .i64 0) := by rw [blk_cell hgg]; rfl
  have lgg := blk_lt hgg
  have hsz3 : u2.heap.size < u3.heap.size := lgg
  refine (qblocks_any 0 w.heap.size q _ aV cV cff0 lff (own_below hV hB) (by omega)).mono ?_
  rintro e u4 ⟨v, hdrs, rfl, hoH, hRA, b4⟩
  replace hB := hB.trans (b4.mono hB.size)
  replace hff := (b4.block _ (blk_lt hff)).trans hff
  replace cff0 : u4.cell? ⟨w.heap.size, 0, none⟩ = some (.slice aV q.vars.length cV) := by rw [blk_cell hff]; rfl
  replace cff1 : u4.cell? ⟨w.heap.size, 1, none⟩ = some (.slice aC q.cl.length cC) := by rw [blk_cell hff]; rfl
  replace lff := blk_lt hff
  replace hpp := (b4.block _ (blk_lt hpp)).trans hpp
  replace cpp0 : u4.cell? ⟨w.heap.size + 1, 0, none⟩ = some (.int .i64 (kind : Int)) := by rw [blk_cell hpp]; rfl
  replace cpp1 : u4.cell? ⟨w.heap.size + 1, 1, none⟩ = some (.slice aS ss.length cS) := by rw [blk_cell hpp]; rfl
  replace lpp := blk_lt hpp
  replace hrs := (b4.block _ (blk_lt hrs)).trans hrs
  replace crs0 : u4.cell? ⟨w.heap.size + 1 + 1, 0, none⟩ = some (.slice none 0 0) := by rw [blk_cell hrs]; rfl
  replace crs1 : u4.cell? ⟨w.heap.size + 1 + 1, 1, none⟩ = some (.slice none 0 0) := by rw [blk_cell hrs]; rfl
  replace crs2 : u4.cell? ⟨w.heap.size + 1 + 1, 2, none⟩ = some (.int .i64 0) := by rw [blk_cell hrs]; rfl
  replace crs3 : u4.cell? ⟨w.heap.size + 1 + 1, 3, none⟩ = some (.int .i64 0) := by rw [blk_cell hrs]; rfl
  replace crs4 : u4.cell? ⟨w.heap.size + 1 + 1, 4, none⟩ = some (.int .i64 0) := by rw [blk_cell hrs]; rfl
  replace lrs := blk_lt hrs
  replace hgg := (b4.block _ (blk_lt hgg)).trans hgg
  replace cgg0 : u4.cell? ⟨u2.heap.size, 0, none⟩ = some (.slice none 0 0) := by rw [blk_cell hgg]; rfl
  replace cgg1 : u4.cell? ⟨u2.heap.size, 1, none⟩ = some (.slice aR rs.length cR) := by rw [blk_cell hgg]; rfl
  replace cgg2 : u4.cell? ⟨u2.heap.size, 2, none⟩ = some (.int .i64 0) := by rw [blk_cell hgg]; rfl
  replace cgg3 : u4.cell? ⟨u2.heap.size, 3, none⟩ = some (.int .i64 0) := by rw [blk_cell hgg]; rfl
  replace cgg4 : u4.cell? ⟨u2.heap.size, 4, none⟩ = some (.int .i64 0) := by rw [blk_cell hgg]; rfl
  replace lgg := blk_lt hgg
  replace hoR := own_below hoR b4
  obtain ⟨aH, cH, rfl⟩ := own_form hoH
  go_wp2_with fail
  have hHl := hRA.len
  have hbl : (progBlocks q.vars).length ≤ 8 := blocks_le q.vars hl
  obtain ⟨bl, hbl0⟩ : ∃ bl, blW q kind = bl := ⟨_, rfl⟩
  have hbll : bl.length = (progBlocks q.vars).length := by rw [← hbl0, blW_length]
  have HBL := hide hbl0
  clear hbl0
  go_loopg [13] ((progBlocks q.vars).length) (fun m i wx => ∃ (k : Nat) (vB : Value), i = .int .i64 k ∧ k + m = (progBlocks q.vars).length ∧ OAt u4 wx u2.heap.size bl hdrs (.slice aR rs.length cR) k vB)
  case atStart => exact ⟨0, .slice none 0 0, rfl, by omega, hgg, World.ownsRow_nil _ _ _ _, Only.refl _ _⟩
  case round =>
    obtain ⟨k, vB, rfl, hkm, ⟨hgr, hoB, hon⟩⟩ := hrel
    have lgr := blk_lt hgr
    have hBr : Below w.heap.size w wr := hB.trans (hon.below (B := w.heap.size) hB.size (fun j hj e => by omega))
    have hffr := (hon.block _ lff (by omega)).trans hff
    have hppr := (hon.block _ lpp (by omega)).trans hpp
    have f0 : wr.cell? ⟨w.heap.size, 0, none⟩ = some (.slice aV q.vars.length cV) := by rw [blk_cell hffr]; rfl
    have f1 : wr.cell? ⟨w.heap.size, 1, none⟩ = some (.slice aC q.cl.length cC) := by rw [blk_cell hffr]; rfl
    have p0 : wr.cell? ⟨w.heap.size + 1, 0, none⟩ = some (.int .i64 (kind : Int)) := by rw [blk_cell hppr]; rfl
    have p1 : wr.cell? ⟨w.heap.size + 1, 1, none⟩ = some (.slice aS ss.length cS) := by rw [blk_cell hppr]; rfl
    have lf := blk_lt hffr
    have lp := blk_lt hppr
    obtain ⟨aB, cB, rfl⟩ := own_form hoB
    have g0 : wr.cell? ⟨u2.heap.size, 0, none⟩ = some (.slice aB k cB) := by rw [blk_cell hgr]; rfl
    have hoHr := own_keep hoH hon (fun j hj e => by have := (hoH.lt j hj).1; omega)
    by_cases hlt : k < (progBlocks q.vars).length
    · have hkh : k < hdrs.length := by omega
      have hkb : k < bl.length := by omega
      have hXr := own_keep (hRA.row k hlt).1 hon (fun j hj e => by have := ((hRA.row k hlt).1.lt j hj).1; omega)
      have hb8 := block_len q.vars hl _ (List.getElem_mem hlt)
      have HSN := hide (blCells_snoc bl hdrs k hkb hkh)
      have HWN : Hid (bl[k].2 = winsW q kind (progBlocks q.vars)[k]) := hide (by
        have h := blW_at q kind k hlt
        rw [unhide HBL] at h
        rw [show bl.getD k ([], false) = bl[k] from by simp [List.getD, hkb]] at h
        rw [h])
      obtain ⟨gH, cap, hVe, hg, hg', _, hcell⟩ := own_pos hoHr (by omega)
      injection hVe with hVe _ hV2
      subst hVe hV2
      have hxk : wr.cell? ⟨gH, k, none⟩ = some hdrs[k] := hcell _ _ (by simp [hkh])
      obtain ⟨aX, cX, hXf⟩ := own_form hXr
      rw [hXf] at hxk hXr
      have HXF := hide hXf
      clear hcell hXf
      have hX0 := own_lo (lo := 0) hXr (Nat.zero_le _)
      have hne0 := own_type_ne hoB hgr (by decide)
      have HNE := hide hne0
      clear hne0
      have hVr := own_below hV hBr
      obtain ⟨wo, rfl⟩ : ∃ wo, wo = wr := ⟨_, rfl⟩
      go_upto_region 30 with fail
      go_region_law (first | (refine step_call rfl 63 _ _ rfl #[.agg #[.slice aV q.vars.length cV, .slice aC q.cl.length cC], .agg #[.int .i64 (kind : Int), .slice aS ss.length cS], .slice aX (progBlocks q.vars)[k].length cX] (by simp [Act.eval]) (callWins _) ?_; refine (wins_any q aV aC aS cV q.cl.length cC ss.length cS kind (progBlocks q.vars)[k] _ _ (own_below hVr (Below.refl _ wo).drew) hl hk (own_below hX0 (Below.refl _ wo).drew) hb8).mono ?_; rintro e v1 ⟨rfl, y1⟩; refine ⟨_, rfl, ?_⟩; have x1 : Below wo.heap.size wo v1 := Below.trans (Below.refl _ wo).drew y1; have hgv := (x1.block _ lgr).trans hgr; have gv0 : v1.cell? ⟨u2.heap.size, 0, none⟩ = some (.slice aB k cB) := (by rw [blk_cell hgv]; rfl); have lgv := blk_lt hgv) | (refine step_append_at rfl (.tmp 18) (.tmp 25) 96 rfl u4.heap.size 131 i1 (.agg #[.slice none 0 0, .bool false]) 2 32 Tryz.underlying96 hi1 hz10 hz11 hz12 rfl (by decide) (.slice aB k cB) k (blCells (bl.take k) (hdrs.take k)) ((own_below hoB x1).alloc _) (by simp [Act.eval]) ⟨v1.heap.size, 0, none⟩ 1 1 [.slice aX (progBlocks q.vars)[k].length cX, .bool (winsW q kind (progBlocks q.vars)[k])] (by simp [Act.eval]) rfl (new_cells v1 [.slice aX (progBlocks q.vars)[k].length cX, .bool (winsW q kind (progBlocks q.vars)[k])] 131) (by simp [Value.oneCell']) (by decide) (by unfold maxLen; omega) (by omega) (by have := x1.size; have := hon.size; simp; omega) ?_; intro v' w' hown' hgrow hmv; obtain ⟨g4, cap4, rfl, hg4, hg4', hcap4, hcell4⟩ := own_pos hown' (by omega); have hgg' : w'.heap[u2.heap.size]? = some (.cells #[.slice aB k cB, .slice aR rs.length cR, .int .i64 0, .int .i64 0, .int .i64 0] 99 (0, 0)) := (hgrow.block _ (by simp; omega) (fun e => unhide HNE e.symm)).trans ((heap_alloc_old v1 _ lgv).trans hgv); have gw0 : w'.cell? ⟨u2.heap.size, 0, none⟩ = some (.slice aB k cB) := (by rw [blk_cell hgg']; rfl); have gz0 := blk_free hgg' 0; have lgw := blk_lt hgg'))
      all_goals
        have hns := own_type_ne hown' hgg' (by decide)
        have HO : Hid (OAt u4 (w'.setCell ⟨u2.heap.size, 0, none⟩ (.slice (some ⟨g4, 0, none⟩) (k + 1) cap4)) u2.heap.size bl hdrs (.slice aR rs.length cR) (k + 1) (.slice (some ⟨g4, 0, none⟩) (k + 1) cap4)) := hide ⟨blk_set hgg' 0 _, by rw [unhide HSN, unhide HXF, unhide HWN]; exact own_set_ne hown' (p := ⟨u2.heap.size, 0, none⟩) hns _, (((hon.trans (Only.of_below x1)).alloc _).grown hgrow (fun j hj => Or.inr (hoB.lt j hj).1)).setAt 0 _⟩
        clear hown' hgrow hmv hcell4 hns
        go_wp2_with fail
        go_roundg (gk - 1)
        case measure => omega
        case rel => exact ⟨k + 1, _, by go_num, by omega, unhide HO⟩
    · have hkn : k = (progBlocks q.vars).length := by omega
      subst hkn
      have hdk : decide (((progBlocks q.vars).length : Int) < ((progBlocks q.vars).length : Int)) = false := by simp
      have hRr := own_keep hoR hon (fun j hj e => by have := (unhide HRlt j hj).2; omega)
      have hG : GameAt wr u2.heap.size 99 bl rs ⟨0, (0, 0)⟩ ⟨.slice aB (progBlocks q.vars).length cB, .slice aR rs.length cR, hdrs⟩ := by
        refine ⟨hgr, Or.inl rfl, ?_, own_lo hRr (Nat.zero_le _), by rw [hbll]; exact hHl, fun j hj => ?_⟩
        · have h := own_lo (lo := 0) hoB (Nat.zero_le _)
          rw [List.take_of_length_le (by omega), List.take_of_length_le (by omega)] at h
          rw [hbll]; exact h
        · have hj' : j < (progBlocks q.vars).length := by omega
          have h := own_lo (lo := 0) (own_keep (hRA.row j hj').1 hon (fun i hi e => by have := ((hRA.row j hj').1.lt i hi).1; omega)) (Nat.zero_le _)
          have hrow : bl[j].1 = (progBlocks q.vars)[j] := by
            have h2 := blW_at q kind j hj'
            rw [unhide HBL] at h2
            rw [show bl.getD j ([], false) = bl[j] from by simp [List.getD, hj]] at h2
            rw [h2]
          rw [hrow]; exact h
      have hFr : GFresh w.heap.size ⟨.slice aB (progBlocks q.vars).length cB, .slice aR rs.length cR, hdrs⟩ := by
        refine ⟨fun j hj => ?_, fun j hj => ?_, fun i hi j hj => ?_⟩
        · have := (hoB.lt j hj).1; have := hB.size; omega
        · have := (unhide HRlt j hj).1; omega
        · have hi' : i < (progBlocks q.vars).length := by rw [← hHl]; exact hi
          have := ((hRA.row i hi').1.lt j hj).1; omega
      have HFR := hide hFr
      have hbd := bbd_of hQ kind
      rw [unhide HBL] at hbd
      have hrbd := rbd_of hSB kind
      rw [unhide HRW] at hrbd
      have hrsr := (hon.block _ lrs (by omega)).trans hrs
      clear hFr hRr hoHr f0 f1 p0 p1 g0
      go_wp2_with fail
      refine (answer_any u2.heap.size _ bl rs ⟨0, (0, 0)⟩ _ _ hG hrbd hbd ⟨by decide, by decide⟩ (Nat.zero_le _)).mono ?_
      rintro e w8 ⟨rfl, hG8, ho8⟩
      have HOW : Hid (openW q kind ss = ansW rs bl ⟨0, (0, 0)⟩) := hide (by unfold openW; rw [unhide HRW, unhide HBL])
      generalize ansW rs bl ⟨0, (0, 0)⟩ = g8 at *
      obtain ⟨t8, v1, v2⟩ := g8
      have hrs8 := (ho8.block _ (blk_lt hrsr) (by omega)).trans hrsr
      have x0 : w8.cell? ⟨u2.heap.size, 0, none⟩ = some (.slice aB (progBlocks q.vars).length cB) := by rw [blk_cell hG8.fb]; rfl
      have x1 : w8.cell? ⟨u2.heap.size, 1, none⟩ = some (.slice aR rs.length cR) := by rw [blk_cell hG8.fb]; rfl
      have x2 : w8.cell? ⟨u2.heap.size, 2, none⟩ = some (.int .i64 (t8 : Int)) := by rw [blk_cell hG8.fb]; rfl
      have x3 : w8.cell? ⟨u2.heap.size, 3, none⟩ = some (.int .i64 (v1 : Int)) := by rw [blk_cell hG8.fb]; rfl
      have x4 : w8.cell? ⟨u2.heap.size, 4, none⟩ = some (.int .i64 (v2 : Int)) := by rw [blk_cell hG8.fb]; rfl
      have lx := blk_lt hG8.fb
      have ly := blk_lt hrs8
      have y0 : w8.cell? ⟨w.heap.size + 1 + 1, 0, none⟩ = some (.slice none 0 0) := by rw [blk_cell hrs8]; rfl
      have y1 : w8.cell? ⟨w.heap.size + 1 + 1, 1, none⟩ = some (.slice none 0 0) := by rw [blk_cell hrs8]; rfl
      have y2 : w8.cell? ⟨w.heap.size + 1 + 1, 2, none⟩ = some (.int .i64 0) := by rw [blk_cell hrs8]; rfl
      have y3 : w8.cell? ⟨w.heap.size + 1 + 1, 3, none⟩ = some (.int .i64 0) := by rw [blk_cell hrs8]; rfl
      have y4 : w8.cell? ⟨w.heap.size + 1 + 1, 4, none⟩ = some (.int .i64 0) := by rw [blk_cell hrs8]; rfl
      have z0 := blk_free hrs8 0
      have z1 := blk_free hrs8 1
      have z2 := blk_free hrs8 2
      have z3 := blk_free hrs8 3
      have z4 := blk_free hrs8 4
      have hR := blk_set (blk_set (blk_set (blk_set (blk_set hrs8 0 (.slice aB (progBlocks q.vars).length cB)) 1 (.slice aR rs.length cR)) 2 (.int .i64 (t8 : Int))) 3 (.int .i64 (v1 : Int))) 4 (.int .i64 (v2 : Int))
      have j0 := blk_cell hR 0
      have j1 := blk_cell hR 1
      have j2 := blk_cell hR 2
      have j3 := blk_cell hR 3
      have j4 := blk_cell hR 4
      have hB8 : Below w.heap.size w w8 := hBr.trans (ho8.below (B := w.heap.size) hBr.size (fun j hj e => by omega))
      go_wp2_with fail
      refine bodyPost_ret (v := GameV ⟨t8, (v1, v2)⟩ ⟨.slice aB (progBlocks q.vars).length cB, .slice aR rs.length cR, hdrs⟩) (by simp [results, Tryz.results35, go_sem, j0, j1, j2, j3, j4, GameV]) rfl ⟨⟨.slice aB (progBlocks q.vars).length cB, .slice aR rs.length cR, hdrs⟩, by rw [unhide HOW], ?_, unhide HFR, ?_⟩
      · rw [unhide HBL, unhide HRW]
        have ho9 : Only (· = w.heap.size + 1 + 1) w8 (((((w8.setCell ⟨w.heap.size + 1 + 1, 0, none⟩ (.slice aB (progBlocks q.vars).length cB)).setCell ⟨w.heap.size + 1 + 1, 1, none⟩ (.slice aR rs.length cR)).setCell ⟨w.heap.size + 1 + 1, 2, none⟩ (.int .i64 (t8 : Int))).setCell ⟨w.heap.size + 1 + 1, 3, none⟩ (.int .i64 (v1 : Int))).setCell ⟨w.heap.size + 1 + 1, 4, none⟩ (.int .i64 (v2 : Int))) := (((((Only.refl (· = w.heap.size + 1 + 1) w8).setAt 0 _).setAt 1 _).setAt 2 _).setAt 3 _).setAt 4 _
        refine hG8.rows.keep ho9 (fun j cs e hj ht hjb => ?_)
        subst hjb
        have he := blk_type hj hrs8
        rcases ht with h2 | h2 | ⟨h2, _⟩ <;> (rw [he] at h2; revert h2; decide)
      · exact ((((hB8.setCell (p := ⟨w.heap.size + 1 + 1, 0, none⟩) (by show w.heap.size ≤ w.heap.size + 1 + 1; omega) _).setCell (p := ⟨w.heap.size + 1 + 1, 1, none⟩) (by show w.heap.size ≤ w.heap.size + 1 + 1; omega) _).setCell (p := ⟨w.heap.size + 1 + 1, 2, none⟩) (by show w.heap.size ≤ w.heap.size + 1 + 1; omega) _).setCell (p := ⟨w.heap.size + 1 + 1, 3, none⟩) (by show w.heap.size ≤ w.heap.size + 1 + 1; omega) _).setCell (p := ⟨w.heap.size + 1 + 1, 4, none⟩) (by show w.heap.size ≤ w.heap.size + 1 + 1; omega) _
end Go.Proofs.YtgipjjhkhfihpabGreatDoor

namespace Go.Proofs.YtgipjjhkhfihpabGreatDoor
open Go.RowKit

/-! ### A duel is opened -/
def DOpenPost (q : QS) (l : List UInt8) (w : World) (e : Ending) (w' : World) : Prop :=
  Below w.heap.size w w' ∧ match readQ q l with
    | .inl (x, i) => e = .returned (.tuple #[.pointer none, .int .i64 (x : Int), .int .i64 (i : Int)])
    | .inr (kind, ls) => ∃ ss db gv, litsL ss = ls ∧ Tagged q kind l ss ∧ SBs ss ∧ e = .returned (.tuple #[.pointer (some ⟨db, 0, none⟩), .int .i64 0, .int .i64 0]) ∧
      GameAt w' db 102 (blW q kind) (rulesW kind ss) (openW q kind ss) gv ∧ w.heap.size ≤ db ∧ GFresh w.heap.size gv
theorem readQ_pos {q : QS} {l : List UInt8} {x i : Nat} (h : readQ q l = .inl (x, i)) : 0 < x := by
  unfold readQ at h
  split at h
  · injection h with h; injection h with h1 h2; omega
  · unfold firstQ at h
    split at h
    · injection h with h; injection h with h1 h2; omega
    · split at h
      · unfold goQ at h
        split at h
        · injection h with h; injection h with h1 h2; omega
        · split at h
          · cases h
          · injection h with h; injection h with h1 h2; omega
      · injection h with h; injection h with h1 h2; omega
theorem readQ_kind {q : QS} {l : List UInt8} {kind : Nat} {ls : List (Nat × Nat)} (h : readQ q l = .inr (kind, ls)) : kind = 1 ∨ kind = 2 := by
  unfold readQ at h
  split at h
  · cases h
  · unfold firstQ at h
    split at h
    · cases h
    · split at h
      · unfold goQ at h
        split at h
        · cases h
        · split at h
          · injection h with h
            injection h with h1 h2
            rw [← h1]; unfold kindOf; split
            · exact Or.inr rfl
            · exact Or.inl rfl
          · cases h
      · cases h
set_option maxRecDepth 100000 in
set_option maxHeartbeats 1600000 in
theorem dopen_any (lo b : Nat) (q : QS) (l : List UInt8) (w : World) (hP : ProgAt lo w b q) (hQ : QB q) :
    Calls Tryz.prog 18 #[.pointer (some ⟨b, 0, none⟩), .string ⟨l.toArray⟩] w fun e w' => DOpenPost q l w e w' := by
  obtain ⟨_, vV, vC, hfb, hV, hC⟩ := hP
  have hbw := blk_lt hfb
  have k0 : w.cell? ⟨b, 0, none⟩ = some vV := by rw [blk_cell hfb]; rfl
  have k1 : w.cell? ⟨b, 1, none⟩ = some vC := by rw [blk_cell hfb]; rfl
  obtain ⟨aV, cV, rfl⟩ := own_form hV
  obtain ⟨aC, cC, rfl⟩ := own_form hC
  go_enter Tryz.func18, Tryz.ntmps18
  go_wp2_with fail
  refine (formula_any b _ _ aV aC _ cV _ cC rfl rfl w hfb).mono ?_
  rintro e w0 ⟨rfl, hA⟩
  go_wp2_with fail
  have hfm := heap_alloc_new w0 (.cells #[.slice aV q.vars.length cV, .slice aC q.cl.length cC] 44)
  have hA1 : Below w.heap.size w (w0.alloc (.cells #[.slice aV q.vars.length cV, .slice aC q.cl.length cC] 44)) := hA.alloc hA.size _
  generalize w0.alloc (.cells #[.slice aV q.vars.length cV, .slice aC q.cl.length cC] 44) = u1 at *
  refine (pread_any q _ _ l _ (own_lo (lo := 0) (own_below hV hA1) (Nat.zero_le _)) (own_lo (lo := 0) (own_below hC hA1) (Nat.zero_le _)) hQ).mono ?_
  rintro e w1 ⟨hb1, hp⟩
  have hB1 : Below w.heap.size w w1 := hA1.trans (hb1.mono hA1.size)
  cases hq : readQ q l with
  | inl xi =>
    obtain ⟨x, i⟩ := xi
    rw [hq] at hp
    have hp' : e = .returned (.tuple #[.agg #[.int .i64 0, .slice none 0 0], .int .i64 (x : Int), .int .i64 (i : Int)]) := hp
    subst hp'
    have HC := hide hq
    have hx := readQ_pos hq
    have hxb : ((x : Int) != 0) = true := by rw [bne_iff_ne]; omega
    clear hp hq
    go_wp2_with fail
    go_ret3
    exact ⟨hB1.alloc hB1.size _, by rw [unhide HC]; rfl⟩
  | inr ks =>
    obtain ⟨kind, ls⟩ := ks
    rw [hq] at hp
    obtain ⟨ss, vS, hls, htg, hsb, rfl, hS⟩ := hp
    have HC := hide hq
    have hk := readQ_kind hq
    clear hq
    obtain ⟨aS, cS, rfl⟩ := own_form hS
    have hA2 : Below w1.heap.size w1 (w1.alloc (.cells #[.int .i64 (kind : Int), .slice aS ss.length cS] 51)) := (Below.refl _ _).alloc (Nat.le_refl _) _
    have hpr := heap_alloc_new w1 (.cells #[.int .i64 (kind : Int), .slice aS ss.length cS] 51)
    have hfm1 := (hb1.block _ (blk_lt hfm)).trans hfm
    have hfm2 := (hA2.block _ (blk_lt hfm1)).trans hfm1
    have hB2 := hB1.trans (hA2.mono hB1.size)
    have hV2 := own_lo (lo := 0) (own_below hV hB2) (Nat.zero_le _)
    have hS2 := own_lo (lo := 0) (own_below hS hA2) (Nat.zero_le _)
    have f0 : (w1.alloc (.cells #[.int .i64 (kind : Int), .slice aS ss.length cS] 51)).cell? ⟨w0.heap.size, 0, none⟩ = some (.slice aV q.vars.length cV) := by rw [blk_cell hfm2]; rfl
    have f1 : (w1.alloc (.cells #[.int .i64 (kind : Int), .slice aS ss.length cS] 51)).cell? ⟨w0.heap.size, 1, none⟩ = some (.slice aC q.cl.length cC) := by rw [blk_cell hfm2]; rfl
    have p0 : (w1.alloc (.cells #[.int .i64 (kind : Int), .slice aS ss.length cS] 51)).cell? ⟨w1.heap.size, 0, none⟩ = some (.int .i64 (kind : Int)) := by rw [blk_cell hpr]; rfl
    have p1 : (w1.alloc (.cells #[.int .i64 (kind : Int), .slice aS ss.length cS] 51)).cell? ⟨w1.heap.size, 1, none⟩ = some (.slice aS ss.length cS) := by rw [blk_cell hpr]; rfl
    have lf := blk_lt hfm2
    have lp := blk_lt hpr
    go_wp2_with fail
    refine (popen_any q ss aV aC aS cV cC cS kind _ hV2 hQ.vl hS2 hsb hk hQ).mono ?_
    rintro e w3 ⟨⟨vB, vR, hdrs⟩, rfl, hrows, hfr, hb3⟩
    have hB3 := hB2.trans (hb3.mono hB2.size)
    obtain ⟨aB, cB, hBf⟩ := own_form hrows.oB
    obtain ⟨aR, cR, hRf⟩ := own_form hrows.oR
    dsimp only at hBf hRf
    subst hBf hRf
    have HRO : Hid (∀ w', Below w3.heap.size w3 w' → GRows w' (blW q kind) (rulesW kind ss) ⟨.slice aB (blW q kind).length cB, .slice aR (rulesW kind ss).length cR, hdrs⟩) := hide (fun w' h => hrows.later h)
    have HFR : Hid (GFresh w.heap.size ⟨.slice aB (blW q kind).length cB, .slice aR (rulesW kind ss).length cR, hdrs⟩) := hide ⟨fun k hk => Nat.le_trans hB2.size (hfr.1 k hk), fun k hk => Nat.le_trans hB2.size (hfr.2.1 k hk), fun j hj k hk => Nat.le_trans hB2.size (hfr.2.2 j hj k hk)⟩
    have hs3 := hB3.size
    have HT := hide htg
    have HS := hide hsb
    clear hrows hfr htg hsb
    generalize hgo : openW q kind ss = go at *
    have HGO := hide hgo
    clear hgo
    obtain ⟨t0, v0, v1⟩ := go
    unfold GameV
    dsimp only
    go_wp2_with fail
    go_ret3
    have hA3 : Below w3.heap.size w3 (w3.alloc (.cells #[.slice aB (blW q kind).length cB, .slice aR (rulesW kind ss).length cR, .int .i64 (t0 : Int), .int .i64 (v0 : Int), .int .i64 (v1 : Int)] 102)) := (Below.refl _ _).alloc (Nat.le_refl _) _
    refine ⟨hB3.trans (hA3.mono hB3.size), ?_⟩
    rw [unhide HC]
    exact ⟨ss, w3.heap.size, ⟨.slice aB (blW q kind).length cB, .slice aR (rulesW kind ss).length cR, hdrs⟩, hls, unhide HT, unhide HS, rfl, by rw [unhide HGO]; exact ⟨heap_alloc_new _ _, Or.inr rfl, unhide HRO _ hA3⟩, hs3, unhide HFR⟩
end Go.Proofs.YtgipjjhkhfihpabGreatDoor

namespace Go.Proofs.YtgipjjhkhfihpabGreatDoor
open Go.RowKit

/-! ### A game behind some moves -/
theorem kvals_lt (vs : List Nat) : ∀ bs : List Bool, (valsTo vs bs).1 < 512 ∧ (valsTo vs bs).2 < 512 := by
  intro bs
  induction bs with
  | nil => exact zero_lt9
  | cons b bs ih => exact withLit_lt _ _ ih.1 ih.2
def winsL (q : QS) (kind : Nat) : List Bool := (progBlocks q.vars).map (winsW q kind)
theorem winsL_len (q : QS) (kind : Nat) : (winsL q kind).length = (progBlocks q.vars).length := by unfold winsL; rw [List.length_map]
theorem winsL_at (q : QS) (kind j : Nat) (h : j < (progBlocks q.vars).length) (h' : j < (winsL q kind).length) : (winsL q kind)[j] = winsW q kind (progBlocks q.vars)[j] := List.getElem_map _
theorem cnt_succ (ws : List Bool) (t : Nat) (h : t < ws.length) : (ws.take (t + 1)).count false = (ws.take t).count false + (if ws[t] = false then 1 else 0) := by
  rw [List.take_succ_eq_append_getElem h, List.count_append]
  congr 1
  cases ws[t] <;> rfl
theorem cnt_stay (ws : List Bool) (t : Nat) : ∀ m, t + m ≤ ws.length → (∀ j (hj : j < ws.length), t ≤ j → j < t + m → ws[j] = true) → (ws.take (t + m)).count false = (ws.take t).count false := by
  intro m
  induction m with
  | zero => intro _ _; rfl
  | succ m ih =>
    intro hl hw
    rw [← Nat.add_assoc, cnt_succ ws (t + m) (by omega), ih (by omega) (fun j hj h1 h2 => hw j hj h1 (by omega)), hw (t + m) (by omega) (by omega) (by omega)]
    rfl
structure After (q : QS) (kind : Nat) (rs : List RuleP) (g : GS) (n : Nat) : Prop where
  run : ∃ bs, Run q kind rs g bs
  stands : Stands q kind g
  cnt : ((winsL q kind).take g.turn).count false = n
theorem After.lt {q : QS} {kind : Nat} {rs : List RuleP} {g : GS} {n : Nat} (h : After q kind rs g n) : g.vals.1 < 512 ∧ g.vals.2 < 512 := by
  obtain ⟨bs, h⟩ := h.run
  rw [h.vals]; exact kvals_lt _ _
theorem After.turn {q : QS} {kind : Nat} {rs : List RuleP} {g : GS} {n : Nat} (h : After q kind rs g n) : turnTo (winsL q kind) n = g.turn := by
  refine turnTo_of _ _ _ (by rw [winsL_len]; exact h.stands.le) (fun hh => ?_) h.cnt
  rw [winsL_len] at hh
  rw [winsL_at q kind _ hh]
  exact h.stands.lose hh
theorem after_open {q : QS} (hq : QGood q) {kind : Nat} (hk : kind = 1 ∨ kind = 2) (ss : List Stp) : After q kind (rulesW kind ss) (openW q kind ss) 0 := by
  obtain ⟨bs, h1, h2, h3⟩ := open_run hq hk ss
  refine ⟨⟨bs, h1⟩, h2, ?_⟩
  have := cnt_stay (winsL q kind) 0 (openW q kind ss).turn (by rw [winsL_len, Nat.zero_add]; exact h2.le) (fun j hj _ hlt => by
    have hj' : j < (progBlocks q.vars).length := by rw [← winsL_len q kind]; exact hj
    rw [winsL_at q kind j hj']
    exact h3 j hj' (by omega))
  rw [Nat.zero_add] at this
  rw [this]; simp
theorem after_move {q : QS} (hq : QGood q) {kind : Nat} (hk : kind = 1 ∨ kind = 2) {rs : List RuleP} {g : GS} {n : Nat} (h : After q kind rs g n) (ht : g.turn < (progBlocks q.vars).length) (bits : Nat) : After q kind rs (moveW rs (blW q kind) g bits) (n + 1) := by
  obtain ⟨bs, hr⟩ := h.run
  obtain ⟨b2, h1, h2, h3, h4, _⟩ := move_run hq hk hr h.stands ht bits
  refine ⟨⟨_, h1⟩, h2, ?_⟩
  generalize moveW rs (blW q kind) g bits = g' at *
  obtain ⟨m, hm⟩ : ∃ m, g'.turn = g.turn + 1 + m := ⟨g'.turn - (g.turn + 1), by omega⟩
  have hle := h2.le
  have ht' : g.turn < (winsL q kind).length := by rw [winsL_len]; exact ht
  have := cnt_stay (winsL q kind) (g.turn + 1) m (by rw [winsL_len]; omega) (fun j hj h5 h6 => by
    have hj' : j < (progBlocks q.vars).length := by rw [← winsL_len q kind]; exact hj
    rw [winsL_at q kind j hj']
    exact h4 j hj' h5 (by omega))
  rw [hm, this, cnt_succ _ _ ht', h.cnt, winsL_at q kind _ ht, h.stands.lose ht]
  rfl
/-- Moves that may be played one after another. -/
def Legal (q : QS) (kind : Nat) (ms : List Nat) : Prop := ∀ i (hi : i < ms.length), ∃ ht : turnTo (winsL q kind) i < (progBlocks q.vars).length, ms[i] < 2 ^ (progBlocks q.vars)[turnTo (winsL q kind) i].length
theorem legal_nil (q : QS) (kind : Nat) : Legal q kind [] := fun i hi => by cases hi
theorem legal_snoc {q : QS} {kind : Nat} {ms : List Nat} (h : Legal q kind ms) (k : Nat) (ht : turnTo (winsL q kind) ms.length < (progBlocks q.vars).length) (hk : k < 2 ^ (progBlocks q.vars)[turnTo (winsL q kind) ms.length].length) : Legal q kind (ms ++ [k]) := by
  intro i hi
  rw [List.length_append, List.length_singleton] at hi
  by_cases hlt : i < ms.length
  · obtain ⟨a, b⟩ := h i hlt
    exact ⟨a, by rw [List.getElem_append_left hlt]; exact b⟩
  · have e : i = ms.length := by omega
    subst e
    exact ⟨ht, by simpa using hk⟩
theorem moveE_zero {q : QS} {kind : Nat} {g : GS} (ht : g.turn < (progBlocks q.vars).length) {b : Nat} (hb : b < 2 ^ (progBlocks q.vars)[g.turn].length) : MoveE (blW q kind) g (b : Int) = 0 := by
  unfold MoveE
  rw [blW_length, if_neg (by omega), blW_at q kind _ ht, if_neg]
  rintro (h | h)
  · omega
  · have : ((2 ^ (progBlocks q.vars)[g.turn].length : Nat) : Int) ≤ (b : Int) := by simpa using h
    omega
theorem moveE_bad {q : QS} {kind : Nat} {g : GS} (ht : g.turn < (progBlocks q.vars).length) (b : Int) (hb : b < 0 ∨ b = ((2 ^ (progBlocks q.vars)[g.turn].length : Nat) : Int)) : MoveE (blW q kind) g b = 6 := by
  unfold MoveE
  rw [blW_length, if_neg (by omega), blW_at q kind _ ht, if_pos]
  rcases hb with hb | hb
  · exact Or.inl hb
  · right; rw [hb]; simp
theorem moveE_over {q : QS} {kind : Nat} {g : GS} (ht : g.turn = (progBlocks q.vars).length) (b : Int) : MoveE (blW q kind) g b = 7 := by
  unfold MoveE
  rw [blW_length, if_pos (by omega)]
theorem moveG_zero {q : QS} {kind : Nat} {rs : List RuleP} {g : GS} {b : Nat} (h : MoveE (blW q kind) g (b : Int) = 0) : MoveG rs (blW q kind) g (b : Int) = moveW rs (blW q kind) g b := by
  unfold MoveG; rw [if_pos h, Int.toNat_natCast]
theorem moveG_bad {q : QS} {kind : Nat} {rs : List RuleP} {g : GS} {b : Int} (h : MoveE (blW q kind) g b ≠ 0) : MoveG rs (blW q kind) g b = g := by
  unfold MoveG; rw [if_neg h]
/-- The formula of a text, a proof of it. -/
structure KP (l p : List UInt8) (q : QS) (kind : Nat) : Prop where
  good : QGood q
  text : ∃ P C qs cs, TextIs l P C qs cs ∧ FQ (formN qs cs) q ∧ FOk (formN qs cs)
  read : ∃ ls, readQ q p = .inr (kind, ls)
theorem KP.kind {l p : List UInt8} {q : QS} {kind : Nat} (h : KP l p q kind) : kind = 1 ∨ kind = 2 := by
  obtain ⟨ls, h⟩ := h.read
  exact readQ_kind h
theorem text_load {l : List UInt8} {q : QS} (h : loadSpec l = .inr q) : QGood q ∧ ∃ P C qs cs, TextIs l P C qs cs ∧ FQ (formN qs cs) q ∧ FOk (formN qs cs) := by
  obtain ⟨hg, F, h1, h2, h3⟩ := load_good h
  obtain ⟨P, C, qs, cs, h4, rfl⟩ := text_of l F h1
  exact ⟨hg, P, C, qs, cs, h4, h2, h3⟩
theorem kp_uni {l p : List UInt8} {q : QS} {kind : Nat} (h : KP l p q kind) (b : List Nat) (hb : b ∈ progBlocks q.vars) (v : Nat) (hv : b.head? = some v) : (kuni l (v : Int) == (kind == 2)) = !winsW q kind b := by
  obtain ⟨P, C, qs, cs, hT, hF, hO⟩ := h.text
  have hvb : v ∈ b := List.mem_of_mem_head? (by rw [hv]; simp)
  have hm : v ∈ (progBlocks q.vars).flatten := List.mem_flatten.2 ⟨b, hb, hvb⟩
  rw [progBlocks_flat] at hm
  obtain ⟨x, hx, rfl⟩ := List.mem_map.1 hm
  have h1 := wins_all h.good h.kind hb hx hvb
  rw [← h1, kuni_all hT x.1 (h.good.qb.names x hx).1]
  have h2 : (allN qs).testBit x.1 = x.2 := hF.kinds x hx
  rw [h2]
  rfl
theorem kp_won {l p : List UInt8} {q : QS} {kind : Nat} (h : KP l p q kind) {ss : List Stp} (hr : readQ q p = .inr (kind, litsL ss)) (ht : Tags q kind ss) (hb : SBs ss) {g : GS} {n : Nat} (ha : After q kind (rulesW kind ss) g n) (he : g.turn = (progBlocks q.vars).length) : satT (fun v => valV g.vals v) l = (kind == 2) := by
  obtain ⟨P, C, qs, cs, hT, hF, hO⟩ := h.text
  obtain ⟨s1, s2, _⟩ := steps_of hF hO hr ht hb
  obtain ⟨bs, hrun⟩ := ha.run
  have hw := won_end h.good h.kind s1 s2 hrun he
  have hs := won_sat h.good hrun hw
  have hcl : cs = q.cl := hF.cl
  have hl : bs.length = q.vars.length := by rw [hrun.len, he, offs_all, progBlocks_flat, List.length_map]
  rw [satT_eq hT (fun v => valV g.vals v) g.vals.1, hcl, hs]
  intro c hc v hv
  have hm : v ∈ (formN qs cs).order := by
    refine hF.vars c (by rw [← hcl]; exact hc) v ?_
    rw [Nat.testBit_or, Bool.or_eq_true] at hv
    exact hv
  rw [hF.order] at hm
  obtain ⟨x, hx, rfl⟩ := List.mem_map.1 hm
  obtain ⟨j, hj, rfl⟩ := List.getElem_of_mem hx
  have hval := run_val h.good hrun hj (by omega)
  have hL : L g.vals true q.vars[j].1 = g.vals.1.testBit q.vars[j].1 := rfl
  unfold Agrees
  dsimp only
  rw [← hL]
  cases h0 : L g.vals false q.vars[j].1 with
  | true =>
    have hu := run_uniq h.good hrun h0
    have e : valV g.vals q.vars[j].1 = -1 := by unfold valV; rw [h0]; rfl
    rw [hu, e]
    exact ⟨rfl, rfl⟩
  | false =>
    cases h1 : L g.vals true q.vars[j].1 with
    | true =>
      have e : valV g.vals q.vars[j].1 = 1 := by unfold valV; rw [h0, h1]; rfl
      rw [e]
      exact ⟨rfl, rfl⟩
    | false =>
      exfalso
      have e : valV g.vals q.vars[j].1 = 0 := by unfold valV; rw [h0, h1]; rfl
      rw [e] at hval
      split at hval <;> cases hval
theorem turnTo_le (ws : List Bool) : ∀ k, turnTo ws k ≤ ws.length := by
  induction ws with
  | nil => intro k; exact Nat.le_refl _
  | cons b ws ih =>
    intro k
    rw [List.length_cons]
    cases b with
    | true => rw [turnTo]; have := ih k; omega
    | false =>
      rw [turnTo]
      split
      · omega
      · have := ih (k - 1); omega
theorem turnTo_up (ws : List Bool) : ∀ k, turnTo ws k < ws.length → turnTo ws k + 1 ≤ turnTo ws (k + 1) := by
  induction ws with
  | nil => intro k h; simp [turnTo] at h
  | cons b ws ih =>
    intro k h
    rw [List.length_cons] at h
    cases b with
    | true =>
      rw [turnTo] at h ⊢
      rw [turnTo]
      have := ih k (by omega)
      omega
    | false =>
      rw [turnTo] at h ⊢
      rw [turnTo, if_neg (show k + 1 ≠ 0 by omega), Nat.add_sub_cancel]
      by_cases hk : k = 0
      · rw [if_pos hk]; omega
      · rw [if_neg hk] at h ⊢
        have := ih (k - 1) (by omega)
        rw [show k - 1 + 1 = k from by omega] at this
        omega
end Go.Proofs.YtgipjjhkhfihpabGreatDoor

namespace Go.Proofs.YtgipjjhkhfihpabGreatDoor
open Go.RowKit

/-! ### duelkeep: universal -/
theorem ktail_next (r : List UInt8) (k : Nat) (h : k < r.length) (h1 : 1 ≤ k) : (r.take (k + 1)).drop 1 = (r.take k).drop 1 ++ [r[k]] := by
  rw [List.take_succ_eq_append_getElem h, List.drop_append_of_le_length (by rw [List.length_take]; omega)]
theorem ktail_all (r : List UInt8) (k : Nat) (h : r.length ≤ k) : (r.take k).drop 1 = r.tail := by rw [List.take_of_length_le h, List.drop_one]
theorem kany_next {α : Type} (l : List α) (p : α → Bool) (k : Nat) (h : k < l.length) (h0 : (l.take k).any p = false) (h1 : p l[k] = false) : (l.take (k + 1)).any p = false := by
  rw [List.take_succ_eq_append_getElem h, List.any_append, h0, List.any_cons, h1]; rfl
theorem kany_hit {α : Type} (l : List α) (p : α → Bool) (k : Nat) (h : k < l.length) (h1 : p l[k] = true) : l.any p = true := List.any_eq_true.2 ⟨l[k], List.getElem_mem h, h1⟩
attribute [local go_sem] ba_get
set_option maxRecDepth 100000 in
set_option maxHeartbeats 1600000 in
theorem kuniversal_any (l : List UInt8) (v : Nat) (w : World) (hl : l.length ≤ 8192) :
    Calls Tryz.prog 39 #[.string ⟨l.toArray⟩, .int .i64 (v : Int)] w fun e w' => e = .returned (.bool (kuni l (v : Int))) ∧ Below w.heap.size w w' := by
  go_enter Tryz.func39, Tryz.ntmps39
  go_wp2_with fail
  refine (klines_any l w (by omega)).mono ?_
  rintro e u1 ⟨vl, rfl, hown, b1⟩
  have hrl : (klinesOf l).length ≤ 8192 := by have := (cutTo_size 10 l).1; unfold klinesOf; omega
  have hrr : ∀ r ∈ klinesOf l, r.length ≤ 8192 := fun r hr => by have := cutAt_len 10 l r (by unfold cutAt; exact List.mem_append_left _ hr); omega
  have HU : Hid (kuni l (v : Int) = (klinesOf l).any (fun r => uniRow r (v : Int))) := hide rfl
  generalize klinesOf l = rows at *
  have HRR := hide hrr
  clear hrr
  obtain ⟨aL, cL, rfl⟩ := own_form hown
  go_wp2_with fail
  --@
  go_loopg [6] (rows.length) (fun m vi wx => ∃ (i : Nat), vi = .int .i64 (i : Int) ∧ i + m = rows.length ∧ (rows.take i).any (fun r => uniRow r (v : Int)) = false ∧ Below u1.heap.size u1 wx)
  case atStart => exact ⟨0, rfl, by omega, by simp, Below.refl _ _⟩
  case round =>
    obtain ⟨i, rfl, him, hno, hb⟩ := hrel
    have HNO := hide hno
    clear hno
    by_cases hlt : i < rows.length
    · have hd3 : decide ((i : Int) < (rows.length : Int)) = true := decide_eq_true (by omega)
      have hd4 : decide (i < rows.length) = true := decide_eq_true hlt
      obtain ⟨g, cap, hVe, hgl, hg', hg'', hcell⟩ := own_pos (own_below hown hb) (by omega)
      injection hVe with hVe _ hV2
      subst hVe hV2
      have hx := hcell _ _ (mapS_at rows i hlt)
      have hr0 := unhide HRR rows[i] (List.getElem_mem hlt)
      have HN := hide (fun h => kany_next rows (fun r => uniRow r (v : Int)) i hlt (unhide HNO) h)
      have HH := hide (fun h => kany_hit rows (fun r => uniRow r (v : Int)) i hlt h)
      have HOW : Hid (∀ wx, Below wr.heap.size wr wx → wx.cell? ⟨g, i, none⟩ = some (S rows[i])) := hide (fun wx hbx => by
        obtain ⟨g2, cap2, hVe2, _, _, _, hcell2⟩ := own_pos (own_below (own_below hown hb) hbx) (by omega)
        injection hVe2 with hVe2 _ _
        injection hVe2 with hVe2
        injection hVe2 with hVe2
        subst hVe2
        exact hcell2 _ _ (mapS_at rows i hlt))
      clear hcell HRR HNO
      generalize rows[i] = r at *
      go_wp2_with fail
      --@
      refine (kstarts_any r 97 wr (by omega)).mono ?_
      rintro e u2 ⟨rfl, b2⟩
      have hb2 := hb.trans (b2.mono hb.size)
      have hx2 := unhide HOW u2 b2
      obtain ⟨go, rfl⟩ : ∃ go, go = gk := ⟨_, rfl⟩
      by_cases hst : (r.head? == some 97) = true
      · have HUR : Hid (uniRow r (v : Int) = r.tail.any (fun b => (b.toNat : Int) - 48 == (v : Int))) := hide (by unfold uniRow; rw [hst, Bool.true_and])
        have hrp : 1 ≤ r.length := by cases r with | nil => cases hst | cons x xs => simp
        rw [hst]
        clear hst
        go_wp2_with fail
        --@
        go_loopg [8] (r.length) (fun m vk wx => ∃ (k : Nat), vk = .int .i64 (k : Int) ∧ k + m = r.length + 1 ∧ 1 ≤ k ∧ k ≤ r.length ∧ ((r.take k).drop 1).any (fun b => (b.toNat : Int) - 48 == (v : Int)) = false ∧ wx = u2)
        case atStart => exact ⟨1, rfl, by omega, by omega, hrp, by rw [List.drop_of_length_le (by rw [List.length_take]; omega)]; rfl, rfl⟩
        case round =>
          obtain ⟨k, rfl, hkm, hk1, hkr, hnk, rfl⟩ := hrel
          have HNK := hide hnk
          clear hnk
          by_cases hlt2 : k < r.length
          · have hd5 : decide ((k : Int) < (r.length : Int)) = true := decide_eq_true (by omega)
            have hd6 : decide (k < r.length) = true := decide_eq_true hlt2
            have hx256 := r[k].toNat_lt
            by_cases hbv : ((r[k].toNat : Int) - 48 == (v : Int)) = true
            · have HA : Hid (r.tail.any (fun b => (b.toNat : Int) - 48 == (v : Int)) = true) := hide (by
                refine List.any_eq_true.2 ⟨r[k], ?_, hbv⟩
                rw [← List.drop_one]
                refine List.mem_iff_getElem.2 ⟨k - 1, by rw [List.length_drop]; omega, ?_⟩
                rw [List.getElem_drop]
                congr 1
                omega)
              --@
              go_wp2_with fail
              go_ret
              exact ⟨by rw [unhide HU, unhide HH (by rw [unhide HUR]; exact unhide HA)]; rfl, b1.trans (hb2.mono b1.size)⟩
            · have hbv2 : ((r[k].toNat : Int) - 48 == (v : Int)) = false := by simpa using hbv
              have HNK2 : Hid (((r.take (k + 1)).drop 1).any (fun b => (b.toNat : Int) - 48 == (v : Int)) = false) := hide (by rw [ktail_next r k hlt2 hk1, List.any_append, unhide HNK, List.any_cons, hbv2]; rfl)
              clear hbv
              --@
              go_wp2_with fail
              go_roundg (gk - 1)
              case measure => omega
              case rel => exact ⟨k + 1, by go_num, by omega, by omega, by omega, unhide HNK2, rfl⟩
          · have hd5 : decide ((k : Int) < (r.length : Int)) = false := decide_eq_false (by omega)
            have hd6 : decide (k < r.length) = false := decide_eq_false hlt2
            have HF : Hid (uniRow r (v : Int) = false) := hide (by rw [unhide HUR, ← ktail_all r k (by omega)]; exact unhide HNK)
            clear HNK
            --@
            go_wp2_with fail
            go_roundg (go - 1)
            case measure => omega
            case rel => exact ⟨i + 1, by go_num, by omega, unhide HN (unhide HF), hb2⟩
      · have hst2 : (r.head? == some 97) = false := by simpa using hst
        have HF : Hid (uniRow r (v : Int) = false) := hide (by unfold uniRow; rw [hst2, Bool.false_and])
        rw [hst2]
        clear hst hst2
        go_wp2_with fail
        --@
        go_loopg [8] 0 (fun m vk wx => vk = .int .i64 1 ∧ wx = u2)
        case atStart => exact ⟨rfl, rfl⟩
        case round =>
          obtain ⟨rfl, rfl⟩ := hrel
          go_wp2_with fail
          --@
          go_roundg (go - 1)
          case measure => omega
          case rel => exact ⟨i + 1, by go_num, by omega, unhide HN (unhide HF), hb2⟩
    · have hd3 : decide ((i : Int) < (rows.length : Int)) = false := decide_eq_false (by omega)
      have hd4 : decide (i < rows.length) = false := decide_eq_false hlt
      have HF : Hid (kuni l (v : Int) = false) := hide (by rw [unhide HU]; have := unhide HNO; rw [List.take_of_length_le (by omega)] at this; exact this)
      go_wp2_with fail
      go_ret
      exact ⟨by rw [unhide HF]; rfl, b1.trans (hb.mono b1.size)⟩
end Go.Proofs.YtgipjjhkhfihpabGreatDoor

namespace Go.Proofs.YtgipjjhkhfihpabGreatDoor
open Go.RowKit

/-! ### duelkeep: satisfied -/
/-- The bytes behind a clause's first. -/
def ClB (b : UInt8) : Prop := b = 32 ∨ b = 45 ∨ (49 ≤ b.toNat ∧ b.toNat ≤ 56)
theorem text_clb {l : List UInt8} {P C : List (List UInt8)} {qs : List (Bool × List Nat)} {cs : List (Nat × Nat)} (h : TextIs l P C qs cs) : ∀ r ∈ klinesOf l, (r.head? == some 99) = true → ∀ k (hk : k < r.length), 1 ≤ k → ClB r[k] := by
  intro r hr h99 k hk h1
  rw [lines_text h] at hr
  rcases List.mem_append.1 hr with hr | hr
  · obtain ⟨x, xs, rfl, hx⟩ := (pref_rows_first h).1 r hr
    exact absurd (by simpa using h99) hx
  · obtain ⟨c, hc⟩ := cls_rows h.cls r hr
    obtain ⟨tl, rfl, hw, _, _⟩ := cl_words hc
    have hm : ((99 : UInt8) :: joinB tl)[k] ∈ joinB tl := by
      obtain ⟨j, rfl⟩ : ∃ j, k = j + 1 := ⟨k - 1, by omega⟩
      rw [List.getElem_cons_succ]
      exact List.getElem_mem _
    generalize ((99 : UInt8) :: joinB tl)[k] = b at hm
    obtain ⟨w, hwm, hb⟩ := List.mem_flatMap.1 hm
    rcases List.mem_cons.1 hb with rfl | hb
    · exact Or.inl rfl
    · obtain ⟨d, g1, g2, rfl | rfl⟩ := hw w hwm
      · have : b = d := by simpa using hb
        subst this
        exact Or.inr (Or.inr ⟨g1, g2⟩)
      · rcases List.mem_cons.1 hb with rfl | hb
        · exact Or.inr (Or.inl rfl)
        · have : b = d := by simpa using hb
          subst this
          exact Or.inr (Or.inr ⟨g1, g2⟩)
theorem kall_next {α : Type} (l : List α) (p : α → Bool) (k : Nat) (h : k < l.length) (h0 : (l.take k).all p = true) (h1 : p l[k] = true) : (l.take (k + 1)).all p = true := by
  rw [List.take_succ_eq_append_getElem h, List.all_append, h0, List.all_cons, h1]; rfl
theorem kall_miss {α : Type} (l : List α) (p : α → Bool) (k : Nat) (h : k < l.length) (h1 : p l[k] = false) : l.all p = false := by
  rw [List.all_eq_false]
  exact ⟨l[k], List.getElem_mem h, by rw [h1]; decide⟩
theorem valV_three (c : Nat × Nat) (v : Nat) : valV c v = -1 ∨ valV c v = 0 ∨ valV c v = 1 := by
  unfold valV
  split
  · exact Or.inl rfl
  · split
    · exact Or.inr (Or.inr rfl)
    · exact Or.inr (Or.inl rfl)
attribute [local go_sem] ba_get
set_option maxRecDepth 100000 in
set_option maxHeartbeats 3200000 in
theorem ksatisfied_any (l : List UInt8) (c : Nat × Nat) (kb : Nat) (w : World) (hl : l.length ≤ 8192) (hvb : w.heap[kb]? = some (.cells (valTo c 8).toArray 3 (0, 0))) (hcb : ∀ r ∈ klinesOf l, (r.head? == some 99) = true → ∀ k (hk : k < r.length), 1 ≤ k → ClB r[k]) :
    Calls Tryz.prog 24 #[.string ⟨l.toArray⟩, .slice (some ⟨kb, 0, none⟩) 8 8] w fun e w' => e = .returned (.bool (satT (fun v => valV c v) l)) ∧ Below w.heap.size w w' := by
  have hkw := blk_lt hvb
  go_enter Tryz.func24, Tryz.ntmps24
  go_wp2_with fail
  refine (klines_any l w (by omega)).mono ?_
  rintro e u1 ⟨vl, rfl, hown, b1⟩
  replace hvb := (b1.block _ hkw).trans hvb
  have hkw1 := blk_lt hvb
  have hrl : (klinesOf l).length ≤ 8192 := by have := (cutTo_size 10 l).1; unfold klinesOf; omega
  have hrr : ∀ r ∈ klinesOf l, r.length ≤ 8192 := fun r hr => by have := cutAt_len 10 l r (by unfold cutAt; exact List.mem_append_left _ hr); omega
  have HU : Hid (satT (fun v => valV c v) l = (klinesOf l).all (fun r => !(r.head? == some 99) || satRow (fun v => valV c v) r)) := hide rfl
  generalize klinesOf l = rows at *
  have HRR := hide hrr
  have HCB := hide hcb
  clear hrr hcb
  obtain ⟨aL, cL, rfl⟩ := own_form hown
  go_wp2_with fail
  --@
  go_loopg [6] (rows.length) (fun m vi wx => ∃ (i : Nat), vi = .int .i64 (i : Int) ∧ i + m = rows.length ∧ (rows.take i).all (fun r => !(r.head? == some 99) || satRow (fun v => valV c v) r) = true ∧ Below u1.heap.size u1 wx)
  case atStart => exact ⟨0, rfl, by omega, by simp, Below.refl _ _⟩
  case round =>
    obtain ⟨i, rfl, him, hno, hb⟩ := hrel
    have HNO := hide hno
    clear hno
    by_cases hlt : i < rows.length
    · have hd3 : decide ((i : Int) < (rows.length : Int)) = true := decide_eq_true (by omega)
      have hd4 : decide (i < rows.length) = true := decide_eq_true hlt
      obtain ⟨g, cap, hVe, hgl, hg', hg'', hcell⟩ := own_pos (own_below hown hb) (by omega)
      injection hVe with hVe _ hV2
      subst hVe hV2
      have hx := hcell _ _ (mapS_at rows i hlt)
      have hr0 := unhide HRR rows[i] (List.getElem_mem hlt)
      have HCR := hide (unhide HCB rows[i] (List.getElem_mem hlt))
      have HN := hide (fun h => kall_next rows (fun r => !(r.head? == some 99) || satRow (fun v => valV c v) r) i hlt (unhide HNO) h)
      have HH := hide (fun h => kall_miss rows (fun r => !(r.head? == some 99) || satRow (fun v => valV c v) r) i hlt h)
      have HOW : Hid (∀ wx, Below wr.heap.size wr wx → wx.cell? ⟨g, i, none⟩ = some (S rows[i])) := hide (fun wx hbx => by
        obtain ⟨g2, cap2, hVe2, _, _, _, hcell2⟩ := own_pos (own_below (own_below hown hb) hbx) (by omega)
        injection hVe2 with hVe2 _ _
        injection hVe2 with hVe2
        injection hVe2 with hVe2
        subst hVe2
        exact hcell2 _ _ (mapS_at rows i hlt))
      clear hcell HRR HCB HNO
      generalize rows[i] = r at *
      go_wp2_with fail
      --@
      refine (kstarts_any r 99 wr (by omega)).mono ?_
      rintro e u2 ⟨rfl, b2⟩
      have hb2 := hb.trans (b2.mono hb.size)
      have hx2 := unhide HOW u2 b2
      have hvb2 := (hb2.block _ hkw1).trans hvb
      have HV2 : Hid (∀ j, j < 8 → u2.cell? ⟨kb, j, none⟩ = some (.int .i64 (valV c (j + 1)))) := hide (fun j hj => by rw [blk_cell hvb2, valTo_at c 8 j hj, if_pos hj])
      obtain ⟨go, rfl⟩ : ∃ go, go = gk := ⟨_, rfl⟩
      by_cases hst : (r.head? == some 99) = true
      · have HUR : Hid ((!(r.head? == some 99) || satRow (fun v => valV c v) r) = satRow (fun v => valV c v) r) := hide (by rw [hst]; rfl)
        have HSR : Hid (satRow (fun v => valV c v) r = (r.tail.foldl (satStep (fun v => valV c v)) (false, false)).1) := hide rfl
        have hrp : 1 ≤ r.length := by cases r with | nil => cases hst | cons x xs => simp
        have HCR2 := hide (unhide HCR hst)
        rw [hst]
        clear hst HCR
        go_wp2_with fail
        --@
        go_loopg [8, 9, 10] (r.length) (fun m vo vn vk wx => ∃ (k : Nat) (o n : Bool), vo = .bool o ∧ vn = .bool n ∧ vk = .int .i64 (k : Int) ∧ k + m = r.length + 1 ∧ 1 ≤ k ∧ k ≤ r.length ∧ ((r.take k).drop 1).foldl (satStep (fun v => valV c v)) (false, false) = (o, n) ∧ wx = u2)
        case atStart => exact ⟨1, false, false, rfl, rfl, rfl, by omega, by omega, hrp, by rw [List.drop_of_length_le (by rw [List.length_take]; omega)]; rfl, rfl⟩
        case round =>
          obtain ⟨k, o, n, rfl, rfl, rfl, hkm, hk1, hkr, hnk, rfl⟩ := hrel
          have HNK := hide hnk
          clear hnk
          by_cases hlt2 : k < r.length
          · have hd5 : decide ((k : Int) < (r.length : Int)) = true := decide_eq_true (by omega)
            have hd6 : decide (k < r.length) = true := decide_eq_true hlt2
            have HNX : Hid (((r.take (k + 1)).drop 1).foldl (satStep (fun v => valV c v)) (false, false) = satStep (fun v => valV c v) (o, n) r[k]) := hide (by rw [ktail_next r k hlt2 hk1, List.foldl_append, unhide HNK]; rfl)
            have hx256 := r[k].toNat_lt
            rcases unhide HCR2 k hlt2 hk1 with hb32 | hb45 | ⟨h49, h56⟩
            · have c1 : ((r[k].toNat : Int) == 32) = true := by rw [hb32]; rfl
              have c1n : (r[k].toNat == 32) = true := by rw [hb32]; rfl
              have HNX2 : Hid (((r.take (k + 1)).drop 1).foldl (satStep (fun v => valV c v)) (false, false) = (o, false)) := hide (by rw [unhide HNX]; unfold satStep; rw [if_pos hb32])
              clear hb32 HNX
              --@
              go_wp2_with fail
              go_roundg (gk - 1)
              case measure => omega
              case rel => exact ⟨k + 1, o, false, rfl, rfl, by go_num, by omega, by omega, by omega, unhide HNX2, rfl⟩
            · have c1 : ((r[k].toNat : Int) == 32) = false := by rw [hb45]; rfl
              have c1n : (r[k].toNat == 32) = false := by rw [hb45]; rfl
              have c2 : ((r[k].toNat : Int) == 45) = true := by rw [hb45]; rfl
              have c2n : (r[k].toNat == 45) = true := by rw [hb45]; rfl
              have HNX2 : Hid (((r.take (k + 1)).drop 1).foldl (satStep (fun v => valV c v)) (false, false) = (o, true)) := hide (by rw [unhide HNX]; unfold satStep; rw [hb45, if_neg (by decide), if_pos rfl])
              clear hb45 HNX
              --@
              go_wp2_with fail
              go_roundg (gk - 1)
              case measure => omega
              case rel => exact ⟨k + 1, o, true, rfl, rfl, by go_num, by omega, by omega, by omega, unhide HNX2, rfl⟩
            · have n32 : r[k] ≠ 32 := fun e => by rw [e] at h49; revert h49; decide
              have n45 : r[k] ≠ 45 := fun e => by rw [e] at h49; revert h49; decide
              have c1 : ((r[k].toNat : Int) == 32) = false := by rw [beq_eq_false_iff_ne]; omega
              have c1n : (r[k].toNat == 32) = false := by rw [beq_eq_false_iff_ne]; omega
              have c2 : ((r[k].toNat : Int) == 45) = false := by rw [beq_eq_false_iff_ne]; omega
              have c2n : (r[k].toNat == 45) = false := by rw [beq_eq_false_iff_ne]; omega
              have hcv := unhide HV2 (r[k].toNat - 49) (by omega)
              rw [show r[k].toNat - 49 + 1 = r[k].toNat - 48 from by omega] at hcv
              have hix : ((r[k].toNat : Int) - 49).toNat = r[k].toNat - 49 := by omega
              have HNX2 : Hid (((r.take (k + 1)).drop 1).foldl (satStep (fun v => valV c v)) (false, false) = ((o || (valV c (r[k].toNat - 48) == 1 && !n)) || (valV c (r[k].toNat - 48) == -1 && n), n)) := hide (by rw [unhide HNX]; unfold satStep; rw [if_neg n32, if_neg n45])
              have h3 := valV_three c (r[k].toNat - 48)
              clear HNX n32 n45
              generalize valV c (r[k].toNat - 48) = vv at *
              have p1 : ((-1 : Int) == 1) = false := rfl
              have p2 : ((0 : Int) == 1) = false := rfl
              have p3 : ((0 : Int) == -1) = false := rfl
              have p4 : ((1 : Int) == -1) = false := rfl
              rcases h3 with rfl | rfl | rfl <;> cases o <;> cases n
              all_goals (
                --@
                go_wp2_with fail
                go_roundg (gk - 1)
                case measure => omega
                case rel => exact ⟨k + 1, _, _, rfl, rfl, by go_num, by omega, by omega, by omega, unhide HNX2, rfl⟩)
          · have hd5 : decide ((k : Int) < (r.length : Int)) = false := decide_eq_false (by omega)
            have hd6 : decide (k < r.length) = false := decide_eq_false hlt2
            have HF : Hid (satRow (fun v => valV c v) r = o) := hide (by rw [unhide HSR, ← ktail_all r k (by omega), unhide HNK])
            clear HNK
            cases o with
            | true =>
              --@
              go_wp2_with fail
              go_roundg (go - 1)
              case measure => omega
              case rel => exact ⟨i + 1, by go_num, by omega, unhide HN (by rw [unhide HUR]; exact unhide HF), hb2⟩
            | false =>
              --@
              go_wp2_with fail
              go_ret
              exact ⟨by rw [unhide HU, unhide HH (by rw [unhide HUR]; exact unhide HF)]; rfl, b1.trans (hb2.mono b1.size)⟩
      · have hst2 : (r.head? == some 99) = false := by simpa using hst
        have HF : Hid ((!(r.head? == some 99) || satRow (fun v => valV c v) r) = true) := hide (by rw [hst2]; rfl)
        rw [hst2]
        clear hst hst2
        --@
        go_wp2_with fail
        go_roundg (go - 1)
        case measure => omega
        case rel => exact ⟨i + 1, by go_num, by omega, unhide HN (unhide HF), hb2⟩
    · have hd3 : decide ((i : Int) < (rows.length : Int)) = false := decide_eq_false (by omega)
      have hd4 : decide (i < rows.length) = false := decide_eq_false hlt
      have HF : Hid (satT (fun v => valV c v) l = true) := hide (by rw [unhide HU]; have := unhide HNO; rw [List.take_of_length_le (by omega)] at this; exact this)
      go_wp2_with fail
      go_ret
      exact ⟨by rw [unhide HF]; rfl, b1.trans (hb.mono b1.size)⟩
end Go.Proofs.YtgipjjhkhfihpabGreatDoor

namespace Go.Proofs.YtgipjjhkhfihpabGreatDoor
open Go.RowKit

theorem qblocks_before {vs : List (Nat × Bool)} {w w0 w' : World} {e : Ending} (h : QBlocksPost vs w0 e w') (hb : Below w.heap.size w w0) : QBlocksPost vs w e w' := by
  obtain ⟨v, hdrs, h0, h1, h2, h3⟩ := h
  exact ⟨v, hdrs, h0, own_lo h1 hb.size, ⟨h2.len, fun j hj => ⟨own_lo (h2.row j hj).1 hb.size, (h2.row j hj).2⟩, h2.apart⟩, hb.trans (h3.mono hb.size)⟩
set_option maxRecDepth 100000 in
set_option maxHeartbeats 800000 in
theorem dblocks_any (lo b : Nat) (q : QS) (w : World) (hP : ProgAt lo w b q) (hl : q.vars.length ≤ 1048576) :
    Calls Tryz.prog 20 #[.pointer (some ⟨b, 0, none⟩)] w fun e w' => QBlocksPost q.vars w e w' := by
  obtain ⟨_, vV, vC, hb, hV, hC⟩ := hP
  obtain ⟨aV, cV, rfl⟩ := own_form hV
  obtain ⟨aC, cC, rfl⟩ := own_form hC
  have hbl := blk_lt hb
  go_enter Tryz.func20, Tryz.ntmps20
  go_wp2_with fail
  refine (formula_any b _ _ aV aC _ cV _ cC rfl rfl w hb).mono ?_
  rintro e w0 ⟨rfl, hb0⟩
  go_wp2_with fail
  have hB : Below w.heap.size w (w0.alloc (.cells #[.slice aV q.vars.length cV, .slice aC q.cl.length cC] 44)) := hb0.alloc hb0.size _
  have hf : (w0.alloc (.cells #[.slice aV q.vars.length cV, .slice aC q.cl.length cC] 44)).cell? ⟨w0.heap.size, 0, none⟩ = some (.slice aV q.vars.length cV) := by rw [blk_cell (heap_alloc_new _ _)]; rfl
  refine (qblocks_any lo w0.heap.size q _ aV cV hf (by simp) (own_below hV hB) hl).mono ?_
  intro e w1 hp
  have hp := qblocks_before hp hB
  obtain ⟨v, hdrs, rfl, h1, h2, h3⟩ := hp
  obtain ⟨av, cv, rfl⟩ := own_form h1
  go_wp2_with fail
  go_ret
  exact ⟨_, hdrs, rfl, h1, h2, h3⟩
end Go.Proofs.YtgipjjhkhfihpabGreatDoor

namespace Go.Proofs.YtgipjjhkhfihpabGreatDoor
open Go.RowKit

/-! ### duelkeep: turn -/
theorem turnTo_win (ws : List Bool) (i k : Nat) (h : i < ws.length) (hw : ws[i] = true) : turnTo (ws.drop i) k = 1 + turnTo (ws.drop (i + 1)) k := by
  rw [List.drop_eq_getElem_cons h, hw, turnTo]
theorem turnTo_here (ws : List Bool) (i : Nat) (h : i < ws.length) (hw : ws[i] = false) : turnTo (ws.drop i) 0 = 0 := by
  rw [List.drop_eq_getElem_cons h, hw, turnTo, if_pos rfl]
theorem turnTo_lose (ws : List Bool) (i k : Nat) (h : i < ws.length) (hw : ws[i] = false) : turnTo (ws.drop i) (k + 1) = 1 + turnTo (ws.drop (i + 1)) k := by
  rw [List.drop_eq_getElem_cons h, hw, turnTo, if_neg (by omega)]
  rfl
theorem turnTo_end (ws : List Bool) (i k : Nat) (h : ws.length ≤ i) : turnTo (ws.drop i) k = 0 := by
  rw [List.drop_of_length_le h]; rfl
set_option maxRecDepth 100000 in
set_option maxHeartbeats 3200000 in
theorem kturn_any (l p : List UInt8) (q : QS) (kind : Nat) (hK : KP l p q kind) (base : Nat) (hdrs : List Value) (aB : Option Addr) (cB : Nat) (tr : Bool) (htr : tr = (kind == 2)) (n : Nat) (hn : n ≤ 1048576) (w : World) (hll : l.length ≤ 8192) (hB : w.ownsRow base 59 1 (.slice aB (progBlocks q.vars).length cB) (progBlocks q.vars).length hdrs) (hR : RowsAt base w (progBlocks q.vars) hdrs) :
    Calls Tryz.prog 22 #[.string ⟨l.toArray⟩, .slice aB (progBlocks q.vars).length cB, .bool tr, .int .i64 (n : Int)] w fun e w' => e = .returned (.int .i64 (turnTo (winsL q kind) n : Nat)) ∧ Below w.heap.size w w' := by
  have hws := winsL_len q kind
  have HWL : Hid (∀ i (hi : i < (progBlocks q.vars).length) (hi' : i < (winsL q kind).length) v, (progBlocks q.vars)[i].head? = some v → (kuni l (v : Int) == tr) = !(winsL q kind)[i]) := hide (fun i hi hi' v hv => by rw [winsL_at q kind i hi hi', htr]; exact kp_uni hK _ (List.getElem_mem hi) v hv)
  have hbl : (progBlocks q.vars).length ≤ 8 := blocks_le _ hK.good.qb.vl
  have hbr : ∀ b ∈ progBlocks q.vars, b.length ≤ 8 := block_len _ hK.good.qb.vl
  generalize winsL q kind = ws at *
  clear hK htr
  generalize progBlocks q.vars = bs at *
  have HBR := hide hbr
  have HWS := hide hws
  clear hbr hws
  have HRW := hide hR
  have hhl := hR.len
  clear hR
  go_enter Tryz.func22, Tryz.ntmps22
  go_wp2_with fail
  --@
  go_loopg [3, 9] (bs.length) (fun m vk vi wx => ∃ (i kk : Nat), vk = .int .i64 (kk : Int) ∧ vi = .int .i64 (i : Int) ∧ i + m = bs.length ∧ kk ≤ n ∧ turnTo ws n = i + turnTo (ws.drop i) kk ∧ Below w.heap.size w wx)
  case atStart => exact ⟨0, n, rfl, rfl, by omega, Nat.le_refl _, by simp, Below.refl _ _⟩
  case round =>
    obtain ⟨i, kk, rfl, rfl, him, hkn, htt, hb⟩ := hrel
    have HTT := hide htt
    clear htt
    by_cases hlt : i < bs.length
    · have hd3 : decide ((i : Int) < (bs.length : Int)) = true := decide_eq_true (by omega)
      have hd4 : decide (i < bs.length) = true := decide_eq_true hlt
      have hlw : i < ws.length := by rw [unhide HWS]; exact hlt
      obtain ⟨g, cap, hVe, hgl, hg', hg'', hcell⟩ := own_pos (own_below hB hb) (by omega)
      injection hVe with hVe _ hV2
      subst hVe hV2
      have hih : i < hdrs.length := by omega
      have hx := hcell i hdrs[i] (List.getElem?_eq_getElem hih)
      obtain ⟨hrow, hne⟩ := (unhide HRW).row i hlt
      have hrp : 0 < bs[i].length := List.length_pos_iff.2 hne
      have hr8 := unhide HBR bs[i] (List.getElem_mem hlt)
      obtain ⟨gX, cX, hXe, hX1, hX2, hX3, hcX⟩ := own_pos (own_below hrow hb) hrp
      have hv0 := hcX 0 (.int .i64 (bs[i][0] : Int)) (by simp [ints, hrp])
      have HUB := hide (unhide HWL i hlt hlw bs[i][0] (by rw [List.head?_eq_getElem?, List.getElem?_eq_getElem hrp]))
      have HW1 := hide (fun h k => turnTo_win ws i k hlw h)
      have HW2 := hide (fun h => turnTo_here ws i hlw h)
      have HW3 := hide (fun h k => turnTo_lose ws i k hlw h)
      rw [hXe] at hx
      generalize hwi : ws[i] = wi at *
      generalize bs[i][0] = v at *
      generalize bs[i].length = rl at *
      have hz1 : ((rl : Int) == 0) = false := by rw [beq_eq_false_iff_ne]; omega
      have hz2 : (rl == 0) = false := by rw [beq_eq_false_iff_ne]; omega
      clear hcell hcX HBR HRW HWL hne hrow hXe hwi
      --@
      go_wp2_with fail
      --@
      refine (kuniversal_any l v wr hll).mono ?_
      rintro e u2 ⟨rfl, b2⟩
      have hb2 := hb.trans (b2.mono hb.size)
      generalize kuni l (v : Int) = u at *
      by_cases hut : (u == tr) = true
      · have hwf : wi = false := by have := unhide HUB; rw [hut] at this; cases wi with | false => rfl | true => cases this
        have hu2 : (u != tr) = false := by rw [bne, hut]; rfl
        have hu3 : u = tr := by simpa using hut
        subst hu3
        by_cases hk0 : kk = 0
        · have hk1 : ((kk : Int) == 0) = true := by rw [beq_iff_eq]; omega
          have HF : Hid (turnTo ws n = i) := hide (by rw [unhide HTT, hk0, unhide HW2 hwf]; rfl)
          clear hk0 hut HUB hwf
          --@
          go_wp2_with fail
          go_ret
          exact ⟨by rw [unhide HF]; rfl, hb2⟩
        · have hk1 : ((kk : Int) == 0) = false := by rw [beq_eq_false_iff_ne]; omega
          have hk2 : (kk == 0) = false := by rw [beq_eq_false_iff_ne]; omega
          have HF : Hid (turnTo ws n = i + 1 + turnTo (ws.drop (i + 1)) (kk - 1)) := hide (by
            have := unhide HW3 hwf (kk - 1)
            rw [show kk - 1 + 1 = kk from by omega] at this
            rw [unhide HTT, this]
            omega)
          have hkc : ((kk - 1 : Nat) : Int) = (kk : Int) - 1 := by omega
          clear hut HUB hwf
          --@
          go_wp2_with fail
          --@
          go_roundg (gk - 1)
          case measure => omega
          case rel => exact ⟨i + 1, kk - 1, by rw [hkc], by go_num, by omega, by omega, unhide HF, hb2⟩
      · have hut2 : (u == tr) = false := by simpa using hut
        have hwt : wi = true := by have := unhide HUB; rw [hut2] at this; cases wi with | true => rfl | false => cases this
        have hu2 : (u != tr) = true := by rw [bne, hut2]; rfl
        have HF : Hid (turnTo ws n = i + 1 + turnTo (ws.drop (i + 1)) kk) := hide (by rw [unhide HTT, unhide HW1 hwt]; omega)
        clear hut HUB hwt
        --@
        go_wp2_with fail
        --@
        go_roundg (gk - 1)
        case measure => omega
        case rel => exact ⟨i + 1, kk, rfl, by go_num, by omega, hkn, unhide HF, hb2⟩
    · have hd3 : decide ((i : Int) < (bs.length : Int)) = false := decide_eq_false (by omega)
      have hd4 : decide (i < bs.length) = false := decide_eq_false hlt
      have HF : Hid (turnTo ws n = bs.length) := hide (by rw [unhide HTT, turnTo_end ws i kk (by rw [unhide HWS]; omega)]; omega)
      go_wp2_with fail
      go_ret
      exact ⟨by rw [unhide HF]; rfl, hb⟩
end Go.Proofs.YtgipjjhkhfihpabGreatDoor
