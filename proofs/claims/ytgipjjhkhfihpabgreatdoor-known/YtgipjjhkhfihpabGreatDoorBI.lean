import Derived.Test.YtgipjjhkhfihpabGreatDoorBH
namespace Go.Proofs.YtgipjjhkhfihpabGreatDoor
open Go.RowKit

/-! ### rulesOf -/
theorem callWithout (args : Array Value) (w : World) : (callFunc 89 args).run Tryz.prog w = .ok (.enter 89 args) w := by kernel_rfl
theorem callTurned (args : Array Value) (w : World) : (callFunc 90 args).run Tryz.prog w = .ok (.enter 90 args) w := by kernel_rfl
theorem infoRule : (Tryz.prog.info? 151).map (fun i => (i.zero, i.size, i.bytes)) = some (some (.agg #[.int .i64 0, .int .i64 0, .int .i64 0, .int .i64 0]), 4, 32) := by kernel_rfl
theorem infoBlock : (Tryz.prog.info? 131).map (fun i => (i.zero, i.size, i.bytes)) = some (some (.agg #[.slice none 0 0, .bool false]), 2, 32) := by kernel_rfl
def rulesTo (kind : Nat) (p : List Stp) (k : Nat) : List RuleP := ((p.take k).filter (fun s => s.rule == 4)).map (ruleW kind p)
theorem rulesTo_succ (kind : Nat) (p : List Stp) (k : Nat) (h : k < p.length) : rulesTo kind p (k + 1) = rulesTo kind p k ++ (if p[k].rule == 4 then [ruleW kind p p[k]] else []) := by
  unfold rulesTo
  rw [List.take_succ_eq_append_getElem h, List.filter_append, List.map_append, List.filter_cons]
  congr 1
  split <;> rfl
theorem rulesTo_len (kind : Nat) (p : List Stp) (k : Nat) : (rulesTo kind p k).length ≤ k := by
  unfold rulesTo
  rw [List.length_map]
  exact Nat.le_trans (List.length_filter_le _ _) (by simp; omega)
theorem ruleCells_snoc (l : List RuleP) (r : RuleP) : ruleCells (l ++ [r]) = ruleCells l ++ [Value.int .i64 (r.1.1 : Int), Value.int .i64 (r.1.2 : Int), Value.int .i64 (r.2.1 : Int), Value.int .i64 (r.2.2 : Int)] := by simp [ruleCells]
def RulesPost (kind : Nat) (ss : List Stp) (w : World) (e : Ending) (w' : World) : Prop := ∃ vR, e = .returned vR ∧ w'.ownsRow w.heap.size 151 4 vR (rulesW kind ss).length (ruleCells (rulesW kind ss)) ∧ Below w.heap.size w w'
set_option maxRecDepth 100000 in
set_option maxHeartbeats 3200000 in
theorem rulesOf_any (ss : List Stp) (aS : Option Addr) (cS kind : Nat) (w : World) (hS : w.ownsRow 0 91 6 (.slice aS ss.length cS) ss.length (psCells ss)) (hSB : SBs ss) (hk : kind = 1 ∨ kind = 2) :
    Calls Tryz.prog 62 #[.agg #[.int .i64 (kind : Int), .slice aS ss.length cS]] w fun e w' => RulesPost kind ss w e w' := by
  obtain ⟨i1, hi1, hz10, hz11, hz12⟩ := info_parts infoRule
  have hsl := hSB.len
  go_enter Tryz.func62, Tryz.ntmps62
  go_wp2_with fail
  go_loopg [3, 11] (ss.length) (fun m vl i wx => ∃ (k : Nat), i = .int .i64 k ∧ k + m = ss.length ∧ wx.ownsRow (w.heap.size + 1) 151 4 vl (rulesTo kind ss k).length (ruleCells (rulesTo kind ss k)) ∧ Below w.heap.size w wx ∧ wx.heap[w.heap.size]? = some (.cells #[.int .i64 (kind : Int), .slice aS ss.length cS] 51 (0, 0)))
  case atStart => exact ⟨0, rfl, by omega, World.ownsRow_nil _ _ _ _, (Below.refl _ _).alloc (Nat.le_refl _) _, heap_alloc_new _ _⟩
  case round =>
    obtain ⟨k, rfl, hkm, hown, hb, hpb⟩ := hrel
    have lp := blk_lt hpb
    have hln := rulesTo_len kind ss k
    obtain ⟨aL, cL, rfl⟩ := own_form hown
    by_cases hlt : k < ss.length
    · have HRS := hide (rulesTo_succ kind ss k hlt)
      have hsb := hSB.bits _ (List.getElem_mem hlt)
      obtain ⟨g, cap, hVe, hg, hg', _, hcell⟩ := own_pos hS (by omega)
      injection hVe with hVe _ hV2
      subst hVe hV2
      have hc : ∀ j (hj : j < 6) u, [Value.int .i64 (ss[k].rule : Int), Value.int .i64 (ss[k].first : Int), Value.int .i64 (ss[k].second : Int), Value.int .i64 (ss[k].var : Int), Value.int .i64 (ss[k].lits.1 : Int), Value.int .i64 (ss[k].lits.2 : Int)][j]? = some u → wr.cell? ⟨g, k * 6 + j, none⟩ = some u := fun j hj u hu => by
        rw [hb.cell (p := ⟨g, k * 6 + j, none⟩) hg']
        exact hcell _ _ (by rw [psCells_at ss k j hlt hj]; exact hu)
      have hx0 : wr.cell? ⟨g, k * 6, none⟩ = some (.int .i64 (ss[k].rule : Int)) := hc 0 (by omega) _ rfl
      have hx1 : wr.cell? ⟨g, k * 6 + 1, none⟩ = some (.int .i64 (ss[k].first : Int)) := hc 1 (by omega) _ rfl
      have hx2 : wr.cell? ⟨g, k * 6 + 2, none⟩ = some (.int .i64 (ss[k].second : Int)) := hc 2 (by omega) _ rfl
      have hx3 : wr.cell? ⟨g, k * 6 + 3, none⟩ = some (.int .i64 (ss[k].var : Int)) := hc 3 (by omega) _ rfl
      have hx4 : wr.cell? ⟨g, k * 6 + 4, none⟩ = some (.int .i64 (ss[k].lits.1 : Int)) := hc 4 (by omega) _ rfl
      have hx5 : wr.cell? ⟨g, k * 6 + 5, none⟩ = some (.int .i64 (ss[k].lits.2 : Int)) := hc 5 (by omega) _ rfl
      have hgw : g < wr.heap.size := Nat.lt_of_lt_of_le hg' hb.size
      clear hc hcell
      have HRW : Hid (∀ s, ss[k] = s → ruleW kind ss ss[k] = if kind = 1 then (swapL s.lits, swapL (minus (litsAt ss s.first) s.lits)) else (s.lits, minus (litsAt ss s.first) s.lits)) := hide (fun s e => by rw [e]; rfl)
      generalize hsk : ss[k] = st at *
      have HSK := hide hsk
      clear hsk
      obtain ⟨sr, sf, s2, sv, sl1, sl2⟩ := st
      dsimp only at *
      have hA : Below wr.heap.size wr (wr.alloc (.cells #[.int .i64 (sr : Int), .int .i64 (sf : Int), .int .i64 (s2 : Int), .int .i64 (sv : Int), .int .i64 (sl1 : Int), .int .i64 (sl2 : Int)] 91)) := (Below.refl _ _).alloc (Nat.le_refl _) _
      have hst := heap_alloc_new wr (.cells #[.int .i64 (sr : Int), .int .i64 (sf : Int), .int .i64 (s2 : Int), .int .i64 (sv : Int), .int .i64 (sl1 : Int), .int .i64 (sl2 : Int)] 91)
      have hpa := (hA.block _ lp).trans hpb
      have hBa := hb.trans (hA.mono hb.size)
      have howna := own_below hown hA
      by_cases hr4 : sr = 4
      · subst hr4
        have HRN : Hid (rulesTo kind ss (k + 1) = rulesTo kind ss k ++ [if kind = 1 then (swapL (sl1, sl2), swapL (minus (litsAt ss sf) (sl1, sl2))) else ((sl1, sl2), minus (litsAt ss sf) (sl1, sl2))]) := hide (by rw [unhide HRS, unhide HRW _ rfl]; rfl)
        clear HRS HRW
        -- WALK
        go_wp2_with fail
        generalize wr.alloc (.cells #[.int .i64 4, .int .i64 (sf : Int), .int .i64 (s2 : Int), .int .i64 (sv : Int), .int .i64 (sl1 : Int), .int .i64 (sl2 : Int)] 91) = wz at *
        have hB := hBa
        have cst0 : wz.cell? ⟨wr.heap.size, 0, none⟩ = some (.int .i64 4) := by rw [blk_cell hst]; rfl
        have cst1 : wz.cell? ⟨wr.heap.size, 1, none⟩ = some (.int .i64 (sf : Int)) := by rw [blk_cell hst]; rfl
        have cst2 : wz.cell? ⟨wr.heap.size, 2, none⟩ = some (.int .i64 (s2 : Int)) := by rw [blk_cell hst]; rfl
        have cst3 : wz.cell? ⟨wr.heap.size, 3, none⟩ = some (.int .i64 (sv : Int)) := by rw [blk_cell hst]; rfl
        have cst4 : wz.cell? ⟨wr.heap.size, 4, none⟩ = some (.int .i64 (sl1 : Int)) := by rw [blk_cell hst]; rfl
        have cst5 : wz.cell? ⟨wr.heap.size, 5, none⟩ = some (.int .i64 (sl2 : Int)) := by rw [blk_cell hst]; rfl
        have lst := blk_lt hst
        have cpa0 : wz.cell? ⟨w.heap.size, 0, none⟩ = some (.int .i64 (kind : Int)) := by rw [blk_cell hpa]; rfl
        have cpa1 : wz.cell? ⟨w.heap.size, 1, none⟩ = some (.slice (some ⟨g, 0, none⟩) ss.length cS) := by rw [blk_cell hpa]; rfl
        have lpa := blk_lt hpa
        refine (plits_any 0 w.heap.size 0 ss _ sf _ (by rw [blk_cell hpa]; rfl) (own_below hS hB) (by omega)).mono ?_
        rintro e u1 ⟨rfl, b1⟩
        replace hB := hB.trans (b1.mono hB.size)
        replace hst := (b1.block _ (blk_lt hst)).trans hst
        replace cst0 : u1.cell? ⟨wr.heap.size, 0, none⟩ = some (.int .i64 4) := by rw [blk_cell hst]; rfl
        replace cst1 : u1.cell? ⟨wr.heap.size, 1, none⟩ = some (.int .i64 (sf : Int)) := by rw [blk_cell hst]; rfl
        replace cst2 : u1.cell? ⟨wr.heap.size, 2, none⟩ = some (.int .i64 (s2 : Int)) := by rw [blk_cell hst]; rfl
        replace cst3 : u1.cell? ⟨wr.heap.size, 3, none⟩ = some (.int .i64 (sv : Int)) := by rw [blk_cell hst]; rfl
        replace cst4 : u1.cell? ⟨wr.heap.size, 4, none⟩ = some (.int .i64 (sl1 : Int)) := by rw [blk_cell hst]; rfl
        replace cst5 : u1.cell? ⟨wr.heap.size, 5, none⟩ = some (.int .i64 (sl2 : Int)) := by rw [blk_cell hst]; rfl
        replace lst := blk_lt hst
        replace hpa := (b1.block _ (blk_lt hpa)).trans hpa
        replace cpa0 : u1.cell? ⟨w.heap.size, 0, none⟩ = some (.int .i64 (kind : Int)) := by rw [blk_cell hpa]; rfl
        replace cpa1 : u1.cell? ⟨w.heap.size, 1, none⟩ = some (.slice (some ⟨g, 0, none⟩) ss.length cS) := by rw [blk_cell hpa]; rfl
        replace lpa := blk_lt hpa
        replace howna := own_below howna b1
        have hla := litsAt_lt ss hSB.bits sf
        generalize litsAt ss sf = c at *
        obtain ⟨c1, c2⟩ := c
        dsimp only at hla
        go_wp2_with fail
        generalize hw0 : u1.alloc (.cells #[.int .i64 (c1 : Int), .int .i64 (c2 : Int)] 77) = u2
        have b2 : Below u1.heap.size u1 u2 := by rw [← hw0]; exact (Below.refl _ _).alloc (Nat.le_refl _) _
        have hwh : u2.heap[u1.heap.size]? = some (.cells #[.int .i64 (c1 : Int), .int .i64 (c2 : Int)] 77 (0, 0)) := by rw [← hw0]; exact heap_alloc_new _ _
        clear hw0
        replace hB := hB.trans (b2.mono hB.size)
        replace hst := (b2.block _ (blk_lt hst)).trans hst
        replace cst0 : u2.cell? ⟨wr.heap.size, 0, none⟩ = some (.int .i64 4) := by rw [blk_cell hst]; rfl
        replace cst1 : u2.cell? ⟨wr.heap.size, 1, none⟩ = some (.int .i64 (sf : Int)) := by rw [blk_cell hst]; rfl
        replace cst2 : u2.cell? ⟨wr.heap.size, 2, none⟩ = some (.int .i64 (s2 : Int)) := by rw [blk_cell hst]; rfl
        replace cst3 : u2.cell? ⟨wr.heap.size, 3, none⟩ = some (.int .i64 (sv : Int)) := by rw [blk_cell hst]; rfl
        replace cst4 : u2.cell? ⟨wr.heap.size, 4, none⟩ = some (.int .i64 (sl1 : Int)) := by rw [blk_cell hst]; rfl
        replace cst5 : u2.cell? ⟨wr.heap.size, 5, none⟩ = some (.int .i64 (sl2 : Int)) := by rw [blk_cell hst]; rfl
        replace lst := blk_lt hst
        replace hpa := (b2.block _ (blk_lt hpa)).trans hpa
        replace cpa0 : u2.cell? ⟨w.heap.size, 0, none⟩ = some (.int .i64 (kind : Int)) := by rw [blk_cell hpa]; rfl
        replace cpa1 : u2.cell? ⟨w.heap.size, 1, none⟩ = some (.slice (some ⟨g, 0, none⟩) ss.length cS) := by rw [blk_cell hpa]; rfl
        replace lpa := blk_lt hpa
        replace howna := own_below howna b2
        have cwh0 : u2.cell? ⟨u1.heap.size, 0, none⟩ = some (.int .i64 (c1 : Int)) := by rw [blk_cell hwh]; rfl
        have cwh1 : u2.cell? ⟨u1.heap.size, 1, none⟩ = some (.int .i64 (c2 : Int)) := by rw [blk_cell hwh]; rfl
        have lwh := blk_lt hwh
        have hm := minus_lt (c1, c2) (sl1, sl2) hla
        obtain ⟨wo, rfl⟩ : ∃ wo, wo = wr := ⟨_, rfl⟩
        go_cut [7] (fun s7 wx => ∃ lr, s7 = .pointer (some ⟨lr, 0, none⟩) ∧ u2.heap.size ≤ lr ∧ Below u2.heap.size u2 wx ∧ wx.heap[lr]? = some (.cells #[.int .i64 (sl1 : Int), .int .i64 (sl2 : Int), .int .i64 ((minus (c1, c2) (sl1, sl2)).1 : Int), .int .i64 ((minus (c1, c2) (sl1, sl2)).2 : Int)] 151 (0, 0)))
        case first =>
          clear hx0 hx1 hx2 hx3 hx4 hx5 hg hg' hgw hS hi1 hz10 hz11 hz12 hsl hln hown howna hb hpb lp hA hBa hB hpa cpa0 cpa1 lpa HSK HRN hkm b1 b2
          go_region_law (refine step_call rfl 89 _ _ rfl #[SetV (c1, c2), SetV (sl1, sl2)] (by simp [Act.eval]) (callWithout _) ?_; refine (lwithout_any c1 c2 sl1 sl2 _ hla.1 hla.2 hsb.1 hsb.2).mono ?_; rintro e v1 ⟨rfl, y1⟩; refine ⟨_, rfl, ?_⟩; have x1 : Below u2.heap.size u2 v1 := Below.trans (by first | exact Below.refl _ _ | exact (Below.refl _ _).drew | exact (Below.refl _ _).alloc (Nat.le_refl _) _ | exact ((Below.refl _ _).alloc (Nat.le_refl _) _).drew | exact ((Below.refl _ _).drew).alloc (Nat.le_refl _) _) (y1.mono (by simp)); have hst1 := (x1.block _ (blk_lt hst)).trans hst; have lst1 := blk_lt hst1; have e4 : v1.cell? ⟨wo.heap.size, 4, none⟩ = some (.int .i64 (sl1 : Int)) := (by rw [blk_cell hst1]; rfl); have e5 : v1.cell? ⟨wo.heap.size, 5, none⟩ = some (.int .i64 (sl2 : Int)) := (by rw [blk_cell hst1]; rfl); (try (have hq : v1.heap[u2.heap.size]? = some (.cells #[.int .i64 0, .int .i64 0, .int .i64 0, .int .i64 0] 151 (0, 0)) := (by first | exact (y1.block u2.heap.size (by simp)).trans (heap_alloc_new u2 _) | exact (y1.block u2.heap.size (by simp)).trans (heap_alloc_new u2.drew _)); have lq := blk_lt hq; have q0 : v1.cell? ⟨u2.heap.size, 0, none⟩ = some (.int .i64 0) := (by rw [blk_cell hq]; rfl); have q1 : v1.cell? ⟨u2.heap.size, 1, none⟩ = some (.int .i64 0) := (by rw [blk_cell hq]; rfl); have q2 : v1.cell? ⟨u2.heap.size, 2, none⟩ = some (.int .i64 0) := (by rw [blk_cell hq]; rfl); have q3 : v1.cell? ⟨u2.heap.size, 3, none⟩ = some (.int .i64 0) := (by rw [blk_cell hq]; rfl); have z0 := blk_free hq 0; have z1 := blk_free hq 1; have z2 := blk_free hq 2; have z3 := blk_free hq 3)))
          all_goals
            go_wp2_with fail
            go_meet
            first
              | exact ⟨_, rfl, x1.size, x1.alloc x1.size _, heap_alloc_new _ _⟩
              | exact ⟨_, rfl, Nat.le_refl _, (((x1.setCell (p := ⟨u2.heap.size, 0, none⟩) (Nat.le_refl _) _).setCell (p := ⟨u2.heap.size, 1, none⟩) (Nat.le_refl _) _).setCell (p := ⟨u2.heap.size, 2, none⟩) (Nat.le_refl _) _).setCell (p := ⟨u2.heap.size, 3, none⟩) (Nat.le_refl _) _, blk_set (blk_set (blk_set (blk_set hq 0 _) 1 _) 2 _) 3 _⟩
        case rest =>
        obtain ⟨lr, rfl, hlr, hbc, hr⟩ := hcut
        have hpc := (hbc.block _ (blk_lt hpa)).trans hpa
        have pc0 : wc.cell? ⟨w.heap.size, 0, none⟩ = some (.int .i64 (kind : Int)) := by rw [blk_cell hpc]; rfl
        have lpc := blk_lt hpc
        generalize minus (c1, c2) (sl1, sl2) = cm at *
        obtain ⟨d1, d2⟩ := cm
        dsimp only at hm hr
        have howlt : w.heap.size < u2.heap.size := lpa
        rcases hk with rfl | rfl
        · have HRN2 : Hid (rulesTo 1 ss (k + 1) = rulesTo 1 ss k ++ [((sl2, sl1), (d2, d1))]) := hide (by rw [unhide HRN, if_pos rfl]; rfl)
          have r0 : wc.cell? ⟨lr, 0, none⟩ = some (.int .i64 (sl1 : Int)) := by rw [blk_cell hr]; rfl
          have r1 : wc.cell? ⟨lr, 1, none⟩ = some (.int .i64 (sl2 : Int)) := by rw [blk_cell hr]; rfl
          have r2 : wc.cell? ⟨lr, 2, none⟩ = some (.int .i64 (d1 : Int)) := by rw [blk_cell hr]; rfl
          have r3 : wc.cell? ⟨lr, 3, none⟩ = some (.int .i64 (d2 : Int)) := by rw [blk_cell hr]; rfl
          have lrr := blk_lt hr
          clear HRN
          obtain ⟨wq, rfl⟩ : ∃ x, x = wc := ⟨_, rfl⟩
          go_upto_region 20 with fail
          go_cut [] (fun wx => Below u2.heap.size u2 wx ∧ wx.heap[lr]? = some (.cells #[.int .i64 (sl2 : Int), .int .i64 (sl1 : Int), .int .i64 (d2 : Int), .int .i64 (d1 : Int)] 151 (0, 0)))
          case first =>
            clear hx0 hx1 hx2 hx3 hx4 hx5 hg hg' hgw hS hi1 hz10 hz11 hz12 hsl hln hown howna hb hpb lp hA hBa hB hpa cpa0 cpa1 lpa HSK hkm b1 b2 HRN2
            go_region_law (first | (refine step_call rfl 90 _ _ rfl #[SetV (sl1, sl2)] (by simp [Act.eval]) (callTurned _) ?_; refine (turned_any sl1 sl2 _).mono ?_; rintro e v1 ⟨rfl, y1⟩; refine ⟨_, rfl, ?_⟩; have x1 : Below wq.heap.size wq v1 := Below.trans (by first | exact Below.refl _ _ | exact (Below.refl _ _).drew) (y1.mono (by simp)); have hr_v1 := (x1.block _ lrr).trans hr; have l_v1 := blk_lt hr_v1; have v1c0 : v1.cell? ⟨lr, 0, none⟩ = some (.int .i64 (sl1 : Int)) := (by rw [blk_cell hr_v1]; rfl); have v1c1 : v1.cell? ⟨lr, 1, none⟩ = some (.int .i64 (sl2 : Int)) := (by rw [blk_cell hr_v1]; rfl); have v1c2 : v1.cell? ⟨lr, 2, none⟩ = some (.int .i64 (d1 : Int)) := (by rw [blk_cell hr_v1]; rfl); have v1c3 : v1.cell? ⟨lr, 3, none⟩ = some (.int .i64 (d2 : Int)) := (by rw [blk_cell hr_v1]; rfl); have v1z0 := blk_free hr_v1 0; have v1z1 := blk_free hr_v1 1; have v1z2 := blk_free hr_v1 2; have v1z3 := blk_free hr_v1 3) | (refine step_call rfl 90 _ _ rfl #[SetV (d1, d2)] (by simp [Act.eval]) (callTurned _) ?_; refine (turned_any d1 d2 _).mono ?_; rintro e v2 ⟨rfl, y2⟩; refine ⟨_, rfl, ?_⟩; have x2 : Below v1.heap.size v1 v2 := Below.trans (by first | exact Below.refl _ _ | exact (Below.refl _ _).drew) (y2.mono (by simp)); have hr_v2 := ((x1.trans (x2.mono x1.size)).block _ lrr).trans hr; have l_v2 := blk_lt hr_v2; have v2c0 : v2.cell? ⟨lr, 0, none⟩ = some (.int .i64 (sl1 : Int)) := (by rw [blk_cell hr_v2]; rfl); have v2c1 : v2.cell? ⟨lr, 1, none⟩ = some (.int .i64 (sl2 : Int)) := (by rw [blk_cell hr_v2]; rfl); have v2c2 : v2.cell? ⟨lr, 2, none⟩ = some (.int .i64 (d1 : Int)) := (by rw [blk_cell hr_v2]; rfl); have v2c3 : v2.cell? ⟨lr, 3, none⟩ = some (.int .i64 (d2 : Int)) := (by rw [blk_cell hr_v2]; rfl); have v2z0 := blk_free hr_v2 0; have v2z1 := blk_free hr_v2 1; have v2z2 := blk_free hr_v2 2; have v2z3 := blk_free hr_v2 3))
            all_goals
              go_wp2_with fail
              go_meet
              have xx := hbc.trans ((x1.trans (x2.mono x1.size)).mono hbc.size)
              exact ⟨(((xx.setCell (p := ⟨lr, 0, none⟩) hlr _).setCell (p := ⟨lr, 1, none⟩) hlr _).setCell (p := ⟨lr, 2, none⟩) hlr _).setCell (p := ⟨lr, 3, none⟩) hlr _, blk_set (blk_set (blk_set (blk_set hr_v2 0 _) 1 _) 2 _) 3 _⟩
          case rest =>
          obtain ⟨hbd, hrd⟩ := hcut
          clear r0 r1 r2 r3 lrr pc0 lpc hpc hbc hr
          have r0 : wc.cell? ⟨lr, 0, none⟩ = some (.int .i64 (sl2 : Int)) := by rw [blk_cell hrd]; rfl
          have r1 : wc.cell? ⟨lr, 1, none⟩ = some (.int .i64 (sl1 : Int)) := by rw [blk_cell hrd]; rfl
          have r2 : wc.cell? ⟨lr, 2, none⟩ = some (.int .i64 (d2 : Int)) := by rw [blk_cell hrd]; rfl
          have r3 : wc.cell? ⟨lr, 3, none⟩ = some (.int .i64 (d1 : Int)) := by rw [blk_cell hrd]; rfl
          have lrr := blk_lt hrd
          have hrl : (rulesTo 1 ss k).length ≤ 9000 := by omega
          have hownc := own_below howna hbd
          have lc : w.heap.size + 1 ≤ wc.heap.size := by have := hbd.size; have := howlt; omega
          have hBc := hB.trans (hbd.mono hB.size)
          have HSN := hide (ruleCells_snoc (rulesTo 1 ss k) ((sl2, sl1), (d2, d1)))
          go_wp2_with (at_builtin; refine wpList_append_new rfl _ _ 97 rfl (w.heap.size + 1) i1 (.agg #[.int .i64 0, .int .i64 0, .int .i64 0, .int .i64 0]) 4 32 Tryz.underlying97 hi1 hz10 hz11 hz12 rfl (by decide) _ _ _ hownc rfl rfl rfl (by simp [Value.oneCell']) (by unfold maxLen; omega) (by omega) lc ?_; intro v4 w4 hown4 hgrow4 hnn4)
          have hB4 : Below w.heap.size w w4 := below_grown hBc hgrow4 hownc (Nat.le_succ _) hBc.size
          have hp4 : w4.heap[w.heap.size]? = some (.cells #[.int .i64 ((1 : Nat) : Int), .slice (some ⟨g, 0, none⟩) ss.length cS] 51 (0, 0)) := (hgrow4.block _ (blk_lt ((hbd.block _ (blk_lt hpa)).trans hpa)) (fun e => by have := (hownc.lt _ e.symm).1; omega)).trans ((hbd.block _ (blk_lt hpa)).trans hpa)
          obtain ⟨a4, c4, rfl⟩ := own_form hown4
          go_wp2_with fail
          go_roundg (gk - 1)
          case measure => omega
          case rel => exact ⟨k + 1, by go_num, by omega, by rw [unhide HRN2, unhide HSN]; simpa using hown4, hB4, hp4⟩
        · have HRN2 : Hid (rulesTo 2 ss (k + 1) = rulesTo 2 ss k ++ [((sl1, sl2), (d1, d2))]) := hide (by rw [unhide HRN, if_neg (by decide)])
          have r0 : wc.cell? ⟨lr, 0, none⟩ = some (.int .i64 (sl1 : Int)) := by rw [blk_cell hr]; rfl
          have r1 : wc.cell? ⟨lr, 1, none⟩ = some (.int .i64 (sl2 : Int)) := by rw [blk_cell hr]; rfl
          have r2 : wc.cell? ⟨lr, 2, none⟩ = some (.int .i64 (d1 : Int)) := by rw [blk_cell hr]; rfl
          have r3 : wc.cell? ⟨lr, 3, none⟩ = some (.int .i64 (d2 : Int)) := by rw [blk_cell hr]; rfl
          have lrr := blk_lt hr
          have hrl : (rulesTo 2 ss k).length ≤ 9000 := by omega
          have hownc := own_below howna hbc
          have lc : w.heap.size + 1 ≤ wc.heap.size := by have := hbc.size; have := howlt; omega
          have hBc := hB.trans (hbc.mono hB.size)
          have HSN := hide (ruleCells_snoc (rulesTo 2 ss k) ((sl1, sl2), (d1, d2)))
          go_wp2_with (at_builtin; refine wpList_append_new rfl _ _ 97 rfl (w.heap.size + 1) i1 (.agg #[.int .i64 0, .int .i64 0, .int .i64 0, .int .i64 0]) 4 32 Tryz.underlying97 hi1 hz10 hz11 hz12 rfl (by decide) _ _ _ hownc rfl rfl rfl (by simp [Value.oneCell']) (by unfold maxLen; omega) (by omega) lc ?_; intro v4 w4 hown4 hgrow4 hnn4)
          have hB4 : Below w.heap.size w w4 := below_grown hBc hgrow4 hownc (Nat.le_succ _) hBc.size
          have hp4 : w4.heap[w.heap.size]? = some (.cells #[.int .i64 ((2 : Nat) : Int), .slice (some ⟨g, 0, none⟩) ss.length cS] 51 (0, 0)) := (hgrow4.block _ (blk_lt ((hbc.block _ (blk_lt hpa)).trans hpa)) (fun e => by have := (hownc.lt _ e.symm).1; omega)).trans ((hbc.block _ (blk_lt hpa)).trans hpa)
          obtain ⟨a4, c4, rfl⟩ := own_form hown4
          go_wp2_with fail
          go_roundg (gk - 1)
          case measure => omega
          case rel => exact ⟨k + 1, by go_num, by omega, by rw [unhide HRN2, unhide HSN]; simpa using hown4, hB4, hp4⟩
      · have hne : ((sr : Int) != 4) = true := by rw [bne_iff_ne]; omega
        have HRN : Hid (rulesTo kind ss (k + 1) = rulesTo kind ss k) := hide (by rw [unhide HRS, if_neg (by simpa using hr4), List.append_nil])
        clear HRS HRW hr4
        go_wp2_with fail
        go_roundg (gk - 1)
        case measure => omega
        case rel => exact ⟨k + 1, by go_num, by omega, by rw [unhide HRN]; exact howna, hBa, hpa⟩
    · have hke : k = ss.length := by omega
      subst hke
      have HR : Hid (rulesW kind ss = rulesTo kind ss ss.length) := hide (by unfold rulesW rulesTo; rw [List.take_length])
      go_wp2_with fail
      go_ret
      exact ⟨_, rfl, by rw [unhide HR]; exact own_lo hown (by omega), hb⟩
end Go.Proofs.YtgipjjhkhfihpabGreatDoor
