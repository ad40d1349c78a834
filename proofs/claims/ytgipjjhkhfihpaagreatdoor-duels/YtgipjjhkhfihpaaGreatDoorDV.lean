import Derived.Test.YtgipjjhkhfihpaaGreatDoorDU
namespace Go.Proofs.YtgipjjhkhfihpaaGreatDoor
open Go.RowKit

theorem valsTo_lt (vs : List Nat) : ∀ bs : List Bool, (valsTo vs bs).1 < 512 ∧ (valsTo vs bs).2 < 512 := by
  intro bs
  induction bs with
  | nil => exact zero_lt9
  | cons b bs ih => exact withLit_lt _ _ ih.1 ih.2
theorem Run.lt {q : QS} {kind : Nat} {rs : List RuleP} {g : GS} {bs : List Bool} (h : Run q kind rs g bs) : g.vals.1 < 512 ∧ g.vals.2 < 512 := by rw [h.vals]; exact valsTo_lt _ _
theorem or_nat (n v : Nat) (hn : n < 512) (hv : v ≤ 8) : bits .or .i64 (n : Int) (wrap64 (2 ^ v)) = ((n ||| 2 ^ v : Nat) : Int) := or_bit n hn v (by omega) (by omega)
/-- The variables ahead of a place. -/
def nmTo (q : QS) (p : Nat) : List Nat := (q.vars.map (·.1)).take p
theorem nmTo_succ {q : QS} (t i : Nat) (h : t < (progBlocks q.vars).length) (hi : i < (progBlocks q.vars)[t].length) : nmTo q (offs (progBlocks q.vars) t + i + 1) = nmTo q (offs (progBlocks q.vars) t + i) ++ [(progBlocks q.vars)[t][i]] := by
  have hlt := offs_lt t i h hi
  unfold nmTo
  rw [List.take_succ_eq_append_getElem (by simpa using hlt)]
  congr 1
  have := names_at t i h hi
  rw [name_at _ hlt] at this
  simpa using this
theorem nmTo_le {q : QS} (hq : QGood q) (p : Nat) : ∀ v ∈ nmTo q p, 1 ≤ v ∧ v ≤ 8 := fun _ hv => hq.name (List.mem_of_mem_take hv)
theorem offs_mono (bs : List (List Nat)) (a b : Nat) (h : a ≤ b) : offs bs a ≤ offs bs b := by
  unfold offs
  have e : bs.take b = bs.take a ++ (bs.take b).drop a := by
    have := List.take_append_drop a (bs.take b)
    rw [List.take_take, Nat.min_eq_left h] at this
    exact this.symm
  rw [e, List.flatten_append]
  simp
theorem cell_of_block {w w' : World} {k o : Nat} (h : w'.heap[k]? = w.heap[k]?) : w'.cell? ⟨k, o, none⟩ = w.cell? ⟨k, o, none⟩ := by
  unfold World.cell?
  rw [h]
theorem intsV_set (l : List Int) (u : Nat) (y : Int) : (intsV (l.set u y)).toArray = (intsV l).toArray.setIfInBounds u (.int .i64 y) := by
  unfold intsV
  rw [List.map_set]
  simp
theorem shr_zero (a v : Nat) (ha : a < 512) (hv : v ≤ 8) : (bits .and .i64 ((a : Int) / 2 ^ v) 1 == 0) = !a.testBit v := by
  rw [shr_bit a v ha hv]; cases a.testBit v <;> rfl
/-! ### stands -/
structure StandsPost (bw : Nat) (G : GG) (text : List UInt8) (px pf : Option Addr) (proof : List UInt8) (v4 v5 v6 : Value) (h5s : List Value) (w : World) (e : Ending) (w' : World) : Prop where
  ret : e = .returned (.bool true)
  only : Only (fun k => k = G.vb ∨ k = bw ∨ v5.ownBlock = some k) w w'
  val : w'.heap[G.vb]? = some (.cells (intsV (valsL G.g.vals)).toArray 3 (0, 0))
  at_ : ∃ kL v5', w.heap.size ≤ kL ∧ w'.heap[kL]? = some (.cells (marks 8 (-10 - (h5s.length : Int))) 3 (0, 0)) ∧ WAt w' bw text px pf proof v4 v5' v6 ∧ w'.ownsRow (bw + 1) 25 1 v5' (h5s.length + 1) (h5s ++ [.slice (some ⟨kL, 0, none⟩) 8 8]) ∧ (v5'.ownBlock = v5.ownBlock ∨ ∃ k, v5'.ownBlock = some k ∧ w.heap.size ≤ k)
set_option maxRecDepth 100000 in
set_option maxHeartbeats 6400000 in
theorem stands_raw (Z : Nat → Prop) (bw : Nat) (G : GG) (text : List UInt8) (px pf : Option Addr) (proof : List UInt8) (v4 v5 v6 : Value) (h5s : List Value) (w : World) (hG : GInv Z w G) (hw : WAt w bw text px pf proof v4 v5 v6) (h5 : w.ownsRow (bw + 1) 25 1 v5 h5s.length h5s) (hn5 : h5s.length ≤ 1073741824) (hzv : ¬ Z G.vb) (hzb : ¬ Z bw) (hz5 : ∀ k, v5.ownBlock = some k → ¬ Z k) :
    Calls Tryz.prog 21 #[.pointer (some ⟨G.gb, 0, none⟩), .pointer (some ⟨bw, 0, none⟩)] w fun e w' => StandsPost bw G text px pf proof v4 v5 v6 h5s w e w' := by
  have hPr := hG.pure.pair
  have hQg := hPr.qg
  have lg := blk_lt hG.fb
  have lbw := blk_lt hw
  obtain ⟨hgd, hgv, hdv, hM1, hM2⟩ := hG.apart
  have hrun : Run (qFinish G.q0) G.kind G.rs G.g G.bs := hG.pure.run
  have hvl := hrun.lt
  have g0 : w.cell? ⟨G.gb, 0, none⟩ = some (.pointer (some ⟨G.db, 0, none⟩)) := by rw [blk_cell hG.fb]; rfl
  go_enter Tryz.func21, Tryz.ntmps21
  go_wp2_with fail
  refine (dturn_any G.db _ G.bl G.rs G.g G.gv w hG.game).mono ?_
  rintro e w1 ⟨rfl, hw1⟩
  rw [hw1]
  clear hw1 w1
  go_wp2_with fail
  refine (dvalues_any G.db _ G.bl G.rs G.g G.gv _ hG.game hvl).mono ?_
  rintro e w1 ⟨kL, rfl, hkL, hL, hb1⟩
  have hfb1 := (hb1.block _ lg).trans hG.fb
  have hF1 := hG.firm.now.2.1.later hb1
  have q2 : w1.cell? ⟨G.gb, 2, none⟩ = some (.pointer (some ⟨G.b2, 0, none⟩)) := by rw [blk_cell hfb1]; rfl
  have q6 : w1.cell? ⟨G.gb, 6, none⟩ = some (.int .i64 (G.g.turn : Int)) := by rw [blk_cell hfb1]; rfl
  have lg1 := blk_lt hfb1
  obtain ⟨aE, cE, hE, lb⟩ := ref_ends hF1
  rw [hPr.ends] at hE
  go_wp2_with fail
  have HS := hide hG
  have htl := hrun.turn
  have hn8 := blocks_le (qFinish G.q0).vars (vars_le hPr.nice)
  have hne : kL ≠ G.vb := by have := blk_lt hG.val; omega
  have hF : Hid (∀ wx, Only (· = G.vb) w wx → RefAt 0 wx G.b2 (finish G.st) ∧ wx.heap[G.gb]? = some (.cells #[.pointer (some ⟨G.db, 0, none⟩), .pointer (some ⟨G.b1, 0, none⟩), .pointer (some ⟨G.b2, 0, none⟩), S G.proof, .int .i64 (G.kind : Int), G.vM, .int .i64 (G.g.turn : Int), .slice (some ⟨G.vb, 0, none⟩) 8 8] 87 (0, 0))) := hide (fun wx ho => ⟨(hG.firm _ wx ho (fun k hk e => hzv (e ▸ hk))).2.1, (ho.block _ lg (fun e => hgv e)).trans hG.fb⟩)
  have ho1 : Only (· = G.vb) w w1 := Only.of_below hb1
  have hval1 := (hb1.block _ (blk_lt hG.val)).trans hG.val
  clear q2 q6 hE hfb1 hF1 g0
  go_loopg [8, 9, 10] (G.g.turn) (fun m told tru kk wx => ∃ (k : Nat), kk = .int .i64 k ∧ k + m = G.g.turn ∧ told = .int .i64 (toldB (nmTo (qFinish G.q0) (offs (progBlocks (qFinish G.q0).vars) k)) : Nat) ∧ tru = .int .i64 (trueB G.g.vals (nmTo (qFinish G.q0) (offs (progBlocks (qFinish G.q0).vars) k)) : Nat) ∧
    wx.heap[G.vb]? = some (.cells (intsV (valB G.g.vals G.val (nmTo (qFinish G.q0) (offs (progBlocks (qFinish G.q0).vars) k)))).toArray 3 (0, 0)) ∧ wx.heap[kL]? = some (.cells (valTo G.g.vals 8).toArray 3 (0, 0)) ∧ Only (· = G.vb) w wx)
  case atStart => exact ⟨0, rfl, by omega, rfl, rfl, hval1, hL, ho1⟩
  case round =>
    obtain ⟨k, rfl, hkm, rfl, rfl, hval, hLr, hor⟩ := hrel
    obtain ⟨hFr, hfbr⟩ := unhide hF wr hor
    have d2 : wr.cell? ⟨G.gb, 2, none⟩ = some (.pointer (some ⟨G.b2, 0, none⟩)) := by rw [blk_cell hfbr]; rfl
    have lgr := blk_lt hfbr
    by_cases hlt : k < G.g.turn
    · have hkn : k < (progBlocks (qFinish G.q0).vars).length := by omega
      go_wp2_with fail
      refine (blockP_any hPr hFr hkn).mono ?_
      rintro e w2 ⟨vX, rfl, hI, hb2, hIO⟩
      have hne2 := (progBlocks_kind (qFinish G.q0).vars _ (List.getElem_mem hkn)).1
      have hgO : ∀ ad n c, vX = .slice (some ad) n c → ad.block ≠ G.vb := fun ad n c e => by
        obtain ⟨gO, n0, c0, h0, h1⟩ := hIO
        rw [h1 ad n c e]
        exact order_apart (Z := Z) (fun T w' ho hT => ((hG.firm.step hor (fun k hk e => hzv (e ▸ hk))) T w' ho hT).2.1) hzv hval h0 (by rw [order_eq hPr.same]; have := offs_lt k 0 hkn (List.length_pos_iff.2 hne2); simp; omega)
      have hnx : ∀ i (hi : i < (progBlocks (qFinish G.q0).vars)[k].length), nmTo (qFinish G.q0) (offs (progBlocks (qFinish G.q0).vars) k + i + 1) = nmTo (qFinish G.q0) (offs (progBlocks (qFinish G.q0).vars) k + i) ++ [(progBlocks (qFinish G.q0).vars)[k][i]] := fun i hi => nmTo_succ k i hkn hi
      have hos : offs (progBlocks (qFinish G.q0).vars) (k + 1) = offs (progBlocks (qFinish G.q0).vars) k + (progBlocks (qFinish G.q0).vars)[k].length := offs_succ _ k hkn
      have hpm : ∀ i (hi : i < (progBlocks (qFinish G.q0).vars)[k].length), valV G.g.vals (progBlocks (qFinish G.q0).vars)[k][i] = 1 ∨ valV G.g.vals (progBlocks (qFinish G.q0).vars)[k][i] = -1 := fun i hi => by
        have hlt2 := offs_lt k i hkn hi
        have hx : ((qFinish G.q0).vars[offs (progBlocks (qFinish G.q0).vars) k + i]'hlt2).1 = (progBlocks (qFinish G.q0).vars)[k][i] := by rw [← name_at _ hlt2]; exact names_at k i hkn hi
        rw [← hx, run_val hQg hrun hlt2 (by rw [hrun.len]; have := offs_mono (progBlocks (qFinish G.q0).vars) (k + 1) G.g.turn (by omega); omega)]
        split
        · exact Or.inl rfl
        · exact Or.inr rfl
      have hr8 : ∀ v ∈ (progBlocks (qFinish G.q0).vars)[k], 1 ≤ v ∧ v ≤ 8 := fun v hv => ((bbd_of hPr.qb 1).row ((progBlocks (qFinish G.q0).vars)[k], _) (List.mem_map.2 ⟨_, List.getElem_mem hkn, rfl⟩)).2 v hv
      have hrl := block_len _ (vars_le hPr.nice) _ (List.getElem_mem hkn)
      generalize (progBlocks (qFinish G.q0).vars)[k] = row at *
      generalize offs (progBlocks (qFinish G.q0).vars) k = p at *
      have HOS := hide hos
      have HNX := hide hnx
      have HPM := hide hpm
      have HR8 := hide hr8
      clear hos hnx hpm hr8
      obtain ⟨ao, cap, rfl, hcI⟩ := hI
      obtain ⟨gX, off, rfl, _⟩ := hcI 0 (List.length_pos_iff.2 hne2)
      have hgX : gX ≠ G.vb := hgO _ _ _ rfl
      have hcI2 : ∀ i (hi : i < row.length), w2.cell? ⟨gX, off + i, none⟩ = some (.int .i64 (row[i] : Int)) := fun i hi => by
        obtain ⟨g', o', e1, e2⟩ := hcI i hi
        injection e1 with e1
        injection e1 with e1 e3
        subst e1 e3
        exact e2
      have ho2 := hor.trans (Only.of_below (T := (· = G.vb)) hb2)
      have hval2 := (hb2.block _ (blk_lt hval)).trans hval
      have hL2 := (hb2.block _ (blk_lt hLr)).trans hLr
      clear hcI hgO hIO
      have HG := hide hG
      go_wp2_with fail
      obtain ⟨wo, rfl⟩ : ∃ wo, wo = wr := ⟨_, rfl⟩
      obtain ⟨gko, rfl⟩ : ∃ x, x = gk := ⟨_, rfl⟩
      go_loopg [8, 9, 12] (row.length) (fun m told tru ii wx => ∃ (i : Nat), ii = .int .i64 i ∧ i + m = row.length ∧ told = .int .i64 (toldB (nmTo (qFinish G.q0) (p + i)) : Nat) ∧ tru = .int .i64 (trueB G.g.vals (nmTo (qFinish G.q0) (p + i)) : Nat) ∧
        wx.heap[G.vb]? = some (.cells (intsV (valB G.g.vals G.val (nmTo (qFinish G.q0) (p + i)))).toArray 3 (0, 0)) ∧ wx.heap[kL]? = some (.cells (valTo G.g.vals 8).toArray 3 (0, 0)) ∧ Only (· = G.vb) w wx ∧ ∀ i (hi : i < row.length), wx.cell? ⟨gX, off + i, none⟩ = some (.int .i64 (row[i] : Int)))
      case atStart => exact ⟨0, rfl, by omega, rfl, rfl, hval2, hL2, ho2, hcI2⟩
      case round =>
        obtain ⟨i, rfl, him, rfl, rfl, hval3, hL3, ho3, hc3⟩ := hrel
        obtain ⟨hF3, hfb3⟩ := unhide hF wr ho3
        have lg3 := blk_lt hfb3
        have lv3 := blk_lt hval3
        have lL3 := blk_lt hL3
        by_cases hil : i < row.length
        · have hv18 := unhide HR8 _ (List.getElem_mem hil)
          have hnx := unhide HNX i hil
          have hpm := unhide HPM i hil
          have hri := hc3 i hil
          generalize row[i] = v at hv18 hnx hpm hri
          obtain ⟨u, rfl⟩ : ∃ u, v = u + 1 := ⟨v - 1, by omega⟩
          have hu8 : u < 8 := by omega
          have hri' : wr.cell? ⟨gX, off + i, none⟩ = some (.int .i64 ((u : Int) + 1)) := by rw [hri]; rfl
          have hlu : wr.cell? ⟨kL, u, none⟩ = some (.int .i64 (valV G.g.vals (u + 1))) := by rw [blk_cell hL3, valTo_at _ _ _ hu8, if_pos hu8]
          have d7 : wr.cell? ⟨G.gb, 7, none⟩ = some (.slice (some ⟨G.vb, 0, none⟩) 8 8) := by rw [blk_cell hfb3]; rfl
          have hvB := valB_at G.g.vals (nmTo (qFinish G.q0) (p + i)) (nmTo_le hQg _) (u + 1) (by omega) (by omega) G.val hG.pure.vlen
          have hvk := hG.pure.vok (u + 1) (by omega) (by omega)
          have hx0 : (valB G.g.vals G.val (nmTo (qFinish G.q0) (p + i))).getD u 0 = 0 ∨ (valB G.g.vals G.val (nmTo (qFinish G.q0) (p + i))).getD u 0 = valV G.g.vals (u + 1) := by
            rw [Nat.add_sub_cancel] at hvB hvk
            rw [hvB]
            split
            · exact Or.inr rfl
            · exact hvk
          have hvl8 : (valB G.g.vals G.val (nmTo (qFinish G.q0) (p + i))).length = 8 := by rw [valB_len]; exact hG.pure.vlen
          have hvu : wr.cell? ⟨G.vb, u, none⟩ = some (.int .i64 ((valB G.g.vals G.val (nmTo (qFinish G.q0) (p + i))).getD u 0)) := by
            rw [blk_cell hval3]
            simp [intsV, List.getD, show u < (valB G.g.vals G.val (nmTo (qFinish G.q0) (p + i))).length by omega]
          have ht9 := toldB_lt (nmTo (qFinish G.q0) (p + i)) (fun v hv => (nmTo_le hQg _ v hv).2)
          have hr9 := trueB_lt G.g.vals (nmTo (qFinish G.q0) (p + i)) (fun v hv => (nmTo_le hQg _ v hv).2)
          have hT1 := or_nat _ (u + 1) ht9 (by omega)
          have hT2 := or_nat _ (u + 1) hr9 (by omega)
          have HTS : Hid (toldB (nmTo (qFinish G.q0) (p + i + 1)) = toldB (nmTo (qFinish G.q0) (p + i)) ||| 2 ^ (u + 1)) := hide (by rw [hnx, toldB_snoc])
          have HRS := hide (trueB_snoc G.g.vals (nmTo (qFinish G.q0) (p + i)) (u + 1))
          have HVS : Hid (valB G.g.vals G.val (nmTo (qFinish G.q0) (p + i + 1)) = (valB G.g.vals G.val (nmTo (qFinish G.q0) (p + i))).set u (valV G.g.vals (u + 1))) := hide (by rw [hnx, valB_snoc]; rfl)
          have HNI := hide hnx
          have HC3 := hide hc3
          clear hvB hvk hri hnx hc3 hcI2
          generalize toldB (nmTo (qFinish G.q0) (p + i)) = tb at *
          generalize trueB G.g.vals (nmTo (qFinish G.q0) (p + i)) = rb at *
          generalize valB G.g.vals G.val (nmTo (qFinish G.q0) (p + i)) = vB at *
          generalize hx : vB.getD u 0 = x at *
          generalize hy : valV G.g.vals (u + 1) = y at *
          have HX := hide hx
          have HY := hide hy
          clear hx hy
          have lX := cell_lt hri'
          have z0 := blk_free hval3 u
          have HRS2 : Hid (∀ b, (y == 1) = b → trueB G.g.vals (nmTo (qFinish G.q0) (p + i + 1)) = if b then rb ||| 2 ^ (u + 1) else rb) := hide (fun b hb => by
            rw [unhide HNI, unhide HRS]
            cases b with
            | true => rw [if_pos (by simpa using hb)]; rfl
            | false => rw [if_neg (by simpa using hb)]; rfl)
          clear HRS HNI
          have hcases : ((y != 1) = false ∧ (y == 1) = true ∨ (y != 1) = true ∧ (y != -1) = false ∧ (y == 1) = false) ∧ ((x != 0) = false ∨ (x != 0) = true ∧ (x != y) = false) := by
            rcases hpm with rfl | rfl <;> rcases hx0 with rfl | rfl <;> simp
          clear hpm hx0
          obtain ⟨hc1, hc2⟩ := hcases
          rcases hc1 with ⟨hy1, hy2⟩ | ⟨hy1, hy3, hy2⟩ <;> rcases hc2 with hx1 | ⟨hx1, hx2⟩
          all_goals
            go_wp2_with fail
            go_quiet (fail)
            have b5 : Below wr.heap.size wr (wr.drewN nq) := below_drewN (Below.refl _ _) nq
            have hval5 := (b5.block _ lv3).trans hval3
            have hL5 := (b5.block _ lL3).trans hL3
            have ho5 := ho3.trans (Only.of_below (T := (· = G.vb)) b5)
            have lg5 := Nat.lt_of_lt_of_le lg3 b5.size
            have r5 : (wr.drewN nq).cell? ⟨gX, off + i, none⟩ = _ := (b5.cell (p := ⟨gX, off + i, none⟩) lX).trans hri'
            have e7 : (wr.drewN nq).cell? ⟨G.gb, 7, none⟩ = _ := (b5.cell (p := ⟨G.gb, 7, none⟩) lg3).trans d7
            have v5u : (wr.drewN nq).cell? ⟨G.vb, u, none⟩ = _ := (b5.cell (p := ⟨G.vb, u, none⟩) lv3).trans hvu
            have HC5 : Hid (∀ i (hi : i < row.length), (wr.drewN nq).cell? ⟨gX, off + i, none⟩ = some (.int .i64 (row[i] : Int))) := hide (fun i hi => by rw [b5.cell (p := ⟨gX, off + i, none⟩) (cell_lt (unhide HC3 i hi))]; exact unhide HC3 i hi)
            clear hval3 hL3 ho3 hri' d7 hvu HC3 z0 lX hlu
            generalize wr.drewN nq = w5 at *
            have z5 := blk_free hval5 u
            have l5 := blk_lt hval5
            have lX := cell_lt r5
            go_wp2_with fail
            go_region
            have hval6 : (w5.setCell ⟨G.vb, u, none⟩ (.int .i64 y)).drew.heap[G.vb]? = _ := blk_set hval5 u (.int .i64 y)
            have hL6 : (w5.setCell ⟨G.vb, u, none⟩ (.int .i64 y)).drew.heap[kL]? = _ := (Below.heap_setCell _ _ _ _ hne).trans hL5
            have ho6 : Only (· = G.vb) w (w5.setCell ⟨G.vb, u, none⟩ (.int .i64 y)).drew := (ho5.setAt u _).drew
            have HC6 : Hid (∀ i (hi : i < row.length), (w5.setCell ⟨G.vb, u, none⟩ (.int .i64 y)).drew.cell? ⟨gX, off + i, none⟩ = some (.int .i64 (row[i] : Int))) := hide (fun i hi => by
              have h := unhide HC5 i hi
              have hb := Below.heap_setCell w5 ⟨G.vb, u, none⟩ (.int .i64 y) gX hgX
              show (w5.setCell ⟨G.vb, u, none⟩ (.int .i64 y)).cell? ⟨gX, off + i, none⟩ = _
              rw [cell_of_block hb]; exact h)
            have r6 : (w5.setCell ⟨G.vb, u, none⟩ (.int .i64 y)).drew.cell? ⟨gX, off + i, none⟩ = some (.int .i64 ((u : Int) + 1)) := by
              have hb := Below.heap_setCell w5 ⟨G.vb, u, none⟩ (.int .i64 y) gX hgX
              show (w5.setCell ⟨G.vb, u, none⟩ (.int .i64 y)).cell? ⟨gX, off + i, none⟩ = _
              rw [cell_of_block hb]; exact r5
            clear hval5 hL5 ho5 r5 e7 v5u HC5 z5 l5 lX lg5
            generalize (w5.setCell ⟨G.vb, u, none⟩ (.int .i64 y)).drew = w6 at *
            have lX := cell_lt r6
            have HV6 : Hid (w6.heap[G.vb]? = some (.cells (intsV (valB G.g.vals G.val (nmTo (qFinish G.q0) (p + (i + 1))))).toArray 3 (0, 0))) := hide (by
              show w6.heap[G.vb]? = some (.cells (intsV (valB G.g.vals G.val (nmTo (qFinish G.q0) (p + i + 1)))).toArray 3 (0, 0))
              rw [unhide HVS, intsV_set]; exact hval6)
            have HR6 := hide (unhide HRS2 _ hy2)
            clear hval6
            go_wp2_with fail
            go_roundg (gk - 1)
            case measure => omega
            case rel => exact ⟨i + 1, by go_num, by omega, congrArg (fun n : Nat => Value.int .i64 (n : Int)) (unhide HTS).symm, congrArg (fun n : Nat => Value.int .i64 (n : Int)) (unhide HR6).symm, unhide HV6, hL6, ho6, unhide HC6⟩
        · have hie : i = row.length := by omega
          subst hie
          have HO : Hid (offs (progBlocks (qFinish G.q0).vars) (k + 1) = p + row.length) := HOS
          have hdi : decide ((row.length : Int) < (row.length : Int)) = false := by simp
          clear hc3
          go_wp2_with fail
          go_roundg (gko - 1)
          case measure => omega
          case rel => exact ⟨k + 1, by go_num, by omega, by rw [unhide HO], by rw [unhide HO], by rw [unhide HO]; exact hval3, hL3, ho3⟩
    · have hke : k = G.g.turn := by omega
      subst hke
      have hdk : decide ((G.g.turn : Int) < (G.g.turn : Int)) = false := by simp
      have hlen : offs (progBlocks (qFinish G.q0).vars) G.g.turn = G.bs.length := hrun.len.symm
      rw [hlen] at hval ⊢
      have hva : valB G.g.vals G.val (nmTo (qFinish G.q0) G.bs.length) = valsL G.g.vals := valB_all hQg hrun hG.pure.vlen hG.pure.vok
      rw [hva] at hval
      have HTB : Hid (∀ v, (toldB (nmTo (qFinish G.q0) G.bs.length)).testBit v = false → valV G.g.vals v = 0) := hide (fun v hv => by
        rw [toldB_at] at hv
        refine run_none hQg hrun (fun j hj hjb e => ?_)
        have hm : v ∈ nmTo (qFinish G.q0) G.bs.length := by
          unfold nmTo
          rw [List.mem_take_iff_getElem]
          exact ⟨j, by simp; omega, by simpa using e⟩
        rw [decide_eq_true hm] at hv
        cases hv)
      have HTR : Hid (G.g.turn = (progBlocks (qFinish G.q0).vars).length → trueB G.g.vals (nmTo (qFinish G.q0) G.bs.length) = G.g.vals.1) := hide (fun ht => by
        have hl : G.bs.length = (qFinish G.q0).vars.length := by rw [hrun.len, ht, offs_all, progBlocks_flat, List.length_map]
        unfold nmTo
        rw [hl, List.take_of_length_le (by simp)]
        exact trueB_all hQg hrun ht)
      have ht9 := toldB_lt (nmTo (qFinish G.q0) G.bs.length) (fun v hv => (nmTo_le hQg _ v hv).2)
      have hr9 := trueB_lt G.g.vals (nmTo (qFinish G.q0) G.bs.length) (fun v hv => (nmTo_le hQg _ v hv).2)
      generalize toldB (nmTo (qFinish G.q0) G.bs.length) = tb at *
      generalize trueB G.g.vals (nmTo (qFinish G.q0) G.bs.length) = rb at *
      clear hva hlen
      go_wp2_with fail
      obtain ⟨wo, rfl⟩ : ∃ wo, wo = wr := ⟨_, rfl⟩
      have lLo := blk_lt hLr
      go_loopg [14] 8 (fun m vv wx => ∃ (j : Nat), vv = .int .i64 ((j : Int) + 1) ∧ j + m = 8 ∧ Below wo.heap.size wo wx)
      case atStart => exact ⟨0, rfl, by omega, Below.refl _ _⟩
      case round =>
        obtain ⟨j, rfl, hjm, hbo⟩ := hrel
        have hLx := (hbo.block _ lLo).trans hLr
        have lLx := blk_lt hLx
        by_cases hj8 : j < 8
        · have hd : decide ((j : Int) + 1 ≤ 8) = true := decide_eq_true (by omega)
          have hlj : wr.cell? ⟨kL, j, none⟩ = some (.int .i64 (valV G.g.vals (j + 1))) := by rw [blk_cell hLx, valTo_at _ _ _ hj8, if_pos hj8]
          have hsb := shr_zero tb (j + 1) ht9 (by omega)
          have HZ := hide (unhide HTB (j + 1))
          cases hbit : tb.testBit (j + 1) with
          | true =>
            rw [hbit] at hsb
            go_wp2_with fail
            go_roundg (gk - 1)
            case measure => omega
            case rel => exact ⟨j + 1, by go_num, by omega, hbo⟩
          | false =>
            rw [hbit] at hsb
            rw [unhide HZ hbit] at hlj
            go_wp2_with fail
            go_roundg (gk - 1)
            case measure => omega
            case rel => exact ⟨j + 1, by go_num, by omega, hbo⟩
        · have hj : j = 8 := by omega
          subst hj
          have hor2 := hor.trans (Only.of_below (T := (· = G.vb)) hbo)
          have hbv : bw ≠ G.vb := fun e => by
            have h1 := hG.val
            rw [← e] at h1
            unfold WAt at hw
            exact absurd (blk_type hw h1) (by decide)
          have h5v : ∀ k, v5.ownBlock = some k → k ≠ G.vb := fun k hk e => by
            obtain ⟨c, hc⟩ := own_bk h5 k hk
            rw [e] at hc
            exact absurd (blk_type hc hG.val) (by decide)
          have hwr : WAt wr bw text px pf proof v4 v5 v6 := (hor2.block _ lbw hbv).trans hw
          have h5r := own_keep h5 hor2 (fun k hk e => h5v k hk e)
          have hvr := (hbo.block _ (blk_lt hval)).trans hval
          have HMN : Hid (∀ e w3, MinePost bw kL 8 h5s.length h5s v5 text px pf proof v4 v6 wr e w3 → e = .returned (.tuple #[]) ∧ RefAt 0 w3 G.b2 (finish G.st) ∧ w3.heap[G.gb]? = some (.cells #[.pointer (some ⟨G.db, 0, none⟩), .pointer (some ⟨G.b1, 0, none⟩), .pointer (some ⟨G.b2, 0, none⟩), S G.proof, .int .i64 (G.kind : Int), G.vM, .int .i64 (G.g.turn : Int), .slice (some ⟨G.vb, 0, none⟩) 8 8] 87 (0, 0)) ∧ ∀ w4, Below w3.heap.size w3 w4 → StandsPost bw G text px pf proof v4 v5 v6 h5s w (.returned (.bool true)) w4) := hide (fun e w3 hm => by
            have hsz := hor2.size
            have hO : Only (fun k => k = G.vb ∨ k = bw ∨ v5.ownBlock = some k) w w3 := (hor2.join hm.only).mono (fun k hk ht => by
              rcases ht with h | h | h | h
              · exact Or.inl h
              · exact Or.inr (Or.inl h)
              · omega
              · exact Or.inr (Or.inr h))
            have hZ : ∀ k, Z k → ¬ (k = G.vb ∨ k = bw ∨ v5.ownBlock = some k) := fun k hk h => by
              rcases h with rfl | rfl | h
              · exact hzv hk
              · exact hzb hk
              · exact hz5 k h hk
            have hgT : ¬ (G.gb = G.vb ∨ G.gb = bw ∨ v5.ownBlock = some G.gb) := fun h => by
              rcases h with h | h | h
              · exact hgv h
              · have h1 := hG.fb
                rw [h] at h1
                unfold WAt at hw
                exact absurd (blk_type hw h1) (by decide)
              · obtain ⟨c, hc⟩ := own_bk h5 _ h
                exact absurd (blk_type hc hG.fb) (by decide)
            refine ⟨hm.ret, (hG.firm _ w3 hO hZ).2.1, (hO.block _ lg hgT).trans hG.fb, fun w4 hb4 => ?_⟩
            obtain ⟨vls', a1, a2, a3⟩ := hm.at_
            refine ⟨rfl, (hO.join (Only.of_below (T := fun _ => False) hb4)).mono (fun k hk ht => ht.elim id False.elim), ?_, kL, vls', hkL, (hb4.block _ (blk_lt hm.row)).trans hm.row, a1.later hb4, own_below a2 hb4, ?_⟩
            · have hvT : ¬ (G.vb = bw ∨ G.vb = kL ∨ v5.ownBlock = some G.vb) := fun h => by
                rcases h with h | h | h
                · exact hbv h.symm
                · exact hne h.symm
                · exact h5v _ h rfl
              have h3 := (hm.only.block _ (blk_lt hvr) hvT).trans hvr
              exact (hb4.block _ (blk_lt h3)).trans h3
            · rcases a3 with h | ⟨k, h1, h2⟩
              · exact Or.inl h
              · exact Or.inr ⟨k, h1, by omega⟩)
          have hk2 := readQ_kind hG.pure.read
          have HWN : Hid (G.g.turn = (progBlocks (qFinish G.q0).vars).length → satB (finish G.st).cl G.g.vals.1 = (G.kind == 2)) := hide (fun ht => by
            obtain ⟨s2, hcl, _⟩ := steps_of hPr.fq hPr.fo hG.pure.read hG.pure.tags.1 hG.pure.sbs
            rw [hPr.fq.cl]
            exact won_sat hQg hrun (won_end hQg hk2 s2 hcl hrun ht))
          have hcl9 : ∀ c ∈ (finish G.st).cl, c.1 < 512 ∧ c.2 < 512 := by rw [hPr.fq.cl]; exact hPr.fq.bits
          have hcln : (finish G.st).cl.length ≤ 1073741824 := by rw [hPr.fq.cl]; have := hPr.fq.clen; omega
          go_wp2_with fail
          refine (mine_any bw kL 8 8 _ h5s.length h5s v5 text px pf proof v4 v6 _ hwr hLx (by simp [valTo]) (Nat.le_refl _) (by unfold maxLen; omega) h5r hn5).mono ?_
          intro e w3 hm
          obtain ⟨rfl, hR3, hfb3, HPO⟩ := unhide HMN _ _ hm
          have HPO := hide HPO
          clear HMN hm hwr h5r hvr
          by_cases htn : G.g.turn < (progBlocks (qFinish G.q0).vars).length
          · have hd1 : decide ((G.g.turn : Int) < ((progBlocks (qFinish G.q0).vars).length : Int)) = true := decide_eq_true (by omega)
            have hd2 : decide (G.g.turn < (progBlocks (qFinish G.q0).vars).length) = true := decide_eq_true htn
            go_wp2_with fail
            go_ret
            exact unhide HPO _ (Below.refl _ _)
          · have hte : G.g.turn = (progBlocks (qFinish G.q0).vars).length := by omega
            have HRB := hide (unhide HTR hte)
            have HSA := hide (unhide HWN hte)
            have hd1 : decide ((G.g.turn : Int) < ((progBlocks (qFinish G.q0).vars).length : Int)) = false := decide_eq_false (by omega)
            have hd2 : decide (G.g.turn < (progBlocks (qFinish G.q0).vars).length) = false := decide_eq_false htn
            have c2 : w3.cell? ⟨G.gb, 2, none⟩ = some (.pointer (some ⟨G.b2, 0, none⟩)) := by rw [blk_cell hfb3]; rfl
            have l3 := blk_lt hfb3
            clear hte htn
            go_wp2_with fail
            refine (satisfied_any 0 G.b2 rb (finish G.st) _ hR3 hr9 hcl9 hcln).mono ?_
            rintro e w4 ⟨rfl, hb4⟩
            have hfb4 := (hb4.block _ l3).trans hfb3
            have c4 : w4.cell? ⟨G.gb, 4, none⟩ = some (.int .i64 (G.kind : Int)) := by rw [blk_cell hfb4]; rfl
            have l4 := blk_lt hfb4
            rw [unhide HRB, unhide HSA]
            have HFI := hide (unhide HPO w4 hb4)
            rcases hk2 with hk2 | hk2
            · rw [hk2] at c4 ⊢
              go_wp2_with fail
              go_ret
              exact unhide HFI
            · rw [hk2] at c4 ⊢
              go_wp2_with fail
              go_ret
              exact unhide HFI
end Go.Proofs.YtgipjjhkhfihpaaGreatDoor

namespace Go.Proofs.YtgipjjhkhfihpaaGreatDoor
open Go.RowKit

/-! ### One game is changed -/
theorem GInv.mut_type {Z : Nat → Prop} {w : World} {G : GG} (h : GInv Z w G) {k : Nat} (hk : G.mut k) : ∃ cs t, w.heap[k]? = some (.cells cs t (0, 0)) ∧ (t = 87 ∨ t = 79 ∨ t = 3) := by
  rcases hk with rfl | rfl | rfl | hk
  · exact ⟨_, _, h.fb, Or.inl rfl⟩
  · exact ⟨_, _, h.db, Or.inr (Or.inl rfl)⟩
  · exact ⟨_, _, h.val, Or.inr (Or.inr rfl)⟩
  · obtain ⟨c, hc⟩ := own_bk h.oM k hk
    exact ⟨c, _, hc, Or.inr (Or.inr rfl)⟩
theorem mut_not {Z : Nat → Prop} {w : World} {G : GG} (h : GInv Z w G) {k : Nat} {c : Array Value} {t : TypeId} (hk : w.heap[k]? = some (.cells c t (0, 0))) (h1 : t ≠ 87) (h2 : t ≠ 79) (h3 : t ≠ 3) : ¬ G.mut k := fun hm => by
  obtain ⟨cs, t', hb, ht⟩ := h.mut_type hm
  have e := blk_type hk hb
  rcases ht with e1 | e1 | e1
  · exact h1 (e.trans e1)
  · exact h2 (e.trans e1)
  · exact h3 (e.trans e1)
theorem DInv.upd {bw : Nat} {w w' : World} {D : DW} (hD : DInv bw w D) (i : Nat) (hi : i < D.gs.length) (G' : GG) (v5' : Value) (h5s' : List Value) (Z' : Nat → Prop) (T : Nat → Prop) (ho : Only T w w')
    (hT : ∀ k, k < w.heap.size → T k → D.gs[i].mut k ∨ k = bw ∨ D.v5.ownBlock = some k) (hw' : WAt w' bw D.text D.px D.pf D.proof D.v4 v5' D.v6) (h5' : w'.ownsRow (bw + 1) 25 1 v5' h5s'.length h5s')
    (hZ1 : ∀ k, D.Z k → Z' k) (hZ2 : ∀ k, Z' k → D.Z k ∨ (w.heap.size ≤ k ∧ k < w'.heap.size)) (hls : Firm Z' (fun w => LsAt w h5s') w') (hn5' : ∀ k, v5'.ownBlock = some k → ¬ Z' k)
    (hgb : G'.gb = D.gs[i].gb) (hG' : GInv Z' w' G') (hm : ∀ k, G'.mut k → (D.gs[i].mut k ∨ w.heap.size ≤ k) ∧ ¬ Z' k) :
    DInv bw w' { D with v5 := v5', h5s := h5s', gs := D.gs.set i G', Z := Z' } := by
  have ho' : Only (fun k => T k ∧ k < w.heap.size) w w' := ho.mono (fun k hk ht => ⟨ht, hk⟩)
  have hGi := hD.games _ (List.getElem_mem hi)
  have hbw := blk_lt hD.wat
  have hsz := ho.size
  have hTZ : ∀ k, D.Z k → ¬ (T k ∧ k < w.heap.size) := fun k hk ht => by
    rcases hT k ht.2 ht.1 with h | h | h
    · exact (hD.gz _ (List.getElem_mem hi) k h).2 hk
    · have := (hD.zin k hk).1; omega
    · exact hD.n5 k h hk
  have hT4 : ∀ k, D.v4.ownBlock = some k → ¬ (T k ∧ k < w.heap.size) := fun k hk ht => by
    obtain ⟨c, hc⟩ := own_bk hD.o4 k hk
    rcases hT k ht.2 ht.1 with h | h | h
    · exact mut_not hGi hc (by decide) (by decide) (by decide) h
    · have := (hD.o4.lt k hk).1; omega
    · obtain ⟨c', hc'⟩ := own_bk hD.o5 k h; exact absurd (blk_type hc hc') (by decide)
  have hT6 : ∀ k, D.v6.ownBlock = some k → ¬ (T k ∧ k < w.heap.size) := fun k hk ht => by
    obtain ⟨c, hc⟩ := own_bk hD.o6 k hk
    rcases hT k ht.2 ht.1 with h | h | h
    · exact mut_not hGi hc (by decide) (by decide) (by decide) h
    · have := (hD.o6.lt k hk).1; omega
    · obtain ⟨c', hc'⟩ := own_bk hD.o5 k h; exact absurd (blk_type hc hc') (by decide)
  have hnz : ∀ k, k < w.heap.size → ¬ D.Z k → ¬ Z' k := fun k hk hz h => by
    rcases hZ2 k h with h | h
    · exact hz h
    · omega
  have hmap : (D.gs.set i G').map gptr = D.gs.map gptr := by
    rw [List.map_set]
    apply List.ext_getElem (by simp)
    intro j h1 h2
    rw [List.getElem_set]
    split
    · next e => subst e; simp [gptr, hgb]
    · rfl
  have hother : ∀ j (hj : j < D.gs.length), j ≠ i → GInv Z' w' D.gs[j] := fun j hj hji => by
    refine ((hD.games _ (List.getElem_mem hj)).keep ho' hTZ (fun k hk ht => ?_)).grow hZ1
    rcases hT k ht.2 ht.1 with h | h | h
    · exact hD.gap j i hj hi hji k hk h
    · have := (hD.gz _ (List.getElem_mem hj) k hk).1; omega
    · obtain ⟨c', hc'⟩ := own_bk hD.o5 k h
      exact mut_not (hD.games _ (List.getElem_mem hj)) hc' (by decide) (by decide) (by decide) hk
  have hat : ∀ j (hj : j < (D.gs.set i G').length), (D.gs.set i G')[j] = if i = j then G' else D.gs[j]'(by simpa using hj) := fun j hj => List.getElem_set _
  have hlt : ∀ j (hj : j < D.gs.length) k, D.gs[j].mut k → k < w.heap.size := fun j hj k hk => (hD.games _ (List.getElem_mem hj)).lt hk
  refine ⟨hw', ?_, h5', own_keep hD.o6 ho' hT6, ?_, (hD.form.step ho' hTZ).grow hZ1, hls, (hD.lss.step ho' hTZ).grow hZ1, fun k hk => ?_, hn5', fun k hk => ?_, ?_, ?_, ?_⟩
  · have h := own_keep hD.o4 ho' hT4
    show w'.ownsRow (bw + 1) _ 1 D.v4 (D.gs.set i G').length ((D.gs.set i G').map gptr)
    rw [hmap, List.length_set]; exact h
  · intro k hk
    rcases hZ2 k hk with h | h
    · have := hD.zin k h; omega
    · omega
  · exact hnz k (hD.o4.lt k hk).2 (hD.n4 k hk)
  · exact hnz k (hD.o6.lt k hk).2 (hD.n6 k hk)
  · intro G hG
    obtain ⟨j, hj, rfl⟩ := List.mem_iff_getElem.1 hG
    rw [hat j hj]
    split
    · exact hG'
    · next e => exact hother j (by simpa using hj) (fun h => e h.symm)
  · intro G hG k hk
    obtain ⟨j, hj, rfl⟩ := List.mem_iff_getElem.1 hG
    rw [hat j hj] at hk
    have hj' : j < D.gs.length := by simpa using hj
    split at hk
    · refine ⟨?_, (hm k hk).2⟩
      rcases (hm k hk).1 with h | h
      · exact (hD.gz _ (List.getElem_mem hi) k h).1
      · omega
    · exact ⟨(hD.gz _ (List.getElem_mem hj') k hk).1, hnz k (hlt j hj' k hk) (hD.gz _ (List.getElem_mem hj') k hk).2⟩
  · intro a b ha hb hab k hka hkb
    have ha' : a < D.gs.length := by simpa using ha
    have hb' : b < D.gs.length := by simpa using hb
    have e1 := hat a ha
    have e2 := hat b hb
    dsimp only at hka hkb
    rw [e1] at hka
    rw [e2] at hkb
    split at hka <;> split at hkb
    · omega
    · next h1 h2 =>
      subst h1
      rcases (hm k hka).1 with h | h
      · exact hD.gap i b hi hb' (fun e => h2 e) k h hkb
      · have := hlt b hb' k hkb; omega
    · next h1 h2 =>
      subst h2
      rcases (hm k hkb).1 with h | h
      · exact hD.gap a i ha' hi (fun e => h1 e.symm) k hka h
      · have := hlt a ha' k hka; omega
    · exact hD.gap a b ha' hb' hab k hka hkb
theorem ls_snoc {w : World} {hdrs : List Value} {k n : Nat} (h : LsAt w hdrs) (hn : n ≤ maxLen) (hk : w.heap[k]? = some (.cells (marks n (-10 - (hdrs.length : Int))) 3 (0, 0))) : LsAt w (hdrs ++ [.slice (some ⟨k, 0, none⟩) n n]) := by
  intro j hj
  by_cases e : j < hdrs.length
  · obtain ⟨g, m, h1, h2, h3⟩ := h j e
    exact ⟨g, m, by rw [List.getElem_append_left e]; exact h1, h2, h3⟩
  · have e2 : j = hdrs.length := by simp at hj; omega
    subst e2
    exact ⟨k, n, by simp, hn, hk⟩

/-! ### stands, in the law's world -/
def GG.told (G : GG) : GG := { G with val := valsL G.g.vals }
theorem told_pure {G : GG} (h : GPure G) : GPure G.told :=
  ⟨h.same, h.cl, h.nice, h.read, h.tags, h.sbs, h.play, h.ok, h.run, h.stands, h.mlen, by simp [GG.told, valsL], fun v h1 h8 => Or.inr (valsL_at _ v h1 h8)⟩
structure StandsD (bw i : Nat) (D : DW) (w : World) (e : Ending) (w' : World) : Prop where
  ret : e = .returned (.bool true)
  below : Below bw w w'
  at_ : ∃ (hi : i < D.gs.length) (v5' hdr : Value) (Z' : Nat → Prop), DInv bw w' { D with v5 := v5', h5s := D.h5s ++ [hdr], gs := D.gs.set i D.gs[i].told, Z := Z' }
theorem stands_d (bw i : Nat) (D : DW) (w : World) (hD : DInv bw w D) (hi : i < D.gs.length) (hn5 : D.h5s.length ≤ 1073741824) :
    Calls Tryz.prog 21 #[.pointer (some ⟨D.gs[i].gb, 0, none⟩), .pointer (some ⟨bw, 0, none⟩)] w fun e w' => StandsD bw i D w e w' := by
  have hG := hD.games _ (List.getElem_mem hi)
  have hz := hD.gz _ (List.getElem_mem hi)
  have hbw := blk_lt hD.wat
  refine (stands_raw D.Z bw D.gs[i] D.text D.px D.pf D.proof D.v4 D.v5 D.v6 D.h5s w hG hD.wat hD.o5 hn5 (hz _ (Or.inr (Or.inr (Or.inl rfl)))).2 (fun h => by have := (hD.zin _ h).1; omega) hD.n5).mono ?_
  rintro e w' ⟨he, ho, hval, kL, v5', hkL, hmk, hw', h5', hv5⟩
  have hsz := ho.size
  have hT : ∀ k, k < w.heap.size → (k = D.gs[i].vb ∨ k = bw ∨ D.v5.ownBlock = some k) → D.gs[i].mut k ∨ k = bw ∨ D.v5.ownBlock = some k := fun k _ h => by
    rcases h with h | h
    · exact Or.inl (Or.inr (Or.inr (Or.inl h)))
    · exact Or.inr h
  have hZT : ∀ k, D.Z k → ¬ (k = D.gs[i].vb ∨ k = bw ∨ D.v5.ownBlock = some k) := fun k hk h => by
    rcases h with h | h | h
    · exact (hz k (Or.inr (Or.inr (Or.inl h)))).2 hk
    · have := (hD.zin k hk).1; omega
    · exact hD.n5 k h hk
  obtain ⟨q1, q2, q3, q4, q5⟩ := hG.apart
  have hTg : ∀ k c t, w.heap[k]? = some (.cells c t (0, 0)) → t ≠ 3 → t ≠ 48 → t ≠ 25 → ¬ (k = D.gs[i].vb ∨ k = bw ∨ D.v5.ownBlock = some k) := fun k c t hk h1 h2 h3 h => by
    rcases h with rfl | rfl | h
    · exact h1 (blk_type hk hG.val)
    · exact h2 (blk_type hk hD.wat)
    · obtain ⟨c', hc'⟩ := own_bk hD.o5 k h; exact h3 (blk_type hk hc')
  refine ⟨he, ho.below (Nat.le_of_lt hbw) (fun k hk h => ?_), hi, v5', .slice (some ⟨kL, 0, none⟩) 8 8, fun k => D.Z k ∨ k = kL, ?_⟩
  · rcases h with h | h | h
    · have := (hz k (Or.inr (Or.inr (Or.inl h)))).1; omega
    · omega
    · have := (hD.o5.lt k h).1; omega
  refine hD.upd i hi D.gs[i].told v5' _ (fun k => D.Z k ∨ k = kL) _ ho hT hw' (by simpa using h5') (fun k hk => Or.inl hk) (fun k hk => ?_) ?_ (fun k hk h => ?_) rfl ?_ (fun k hk => ?_)
  · rcases hk with h | h
    · exact Or.inl h
    · exact Or.inr ⟨by omega, by rw [h]; exact blk_lt hmk⟩
  · intro T2 w2 ho2 hT2
    refine ls_snoc ((hD.ls.step ho hZT) T2 w2 ho2 (fun k hk => hT2 k (Or.inl hk))) (by unfold maxLen; omega) ?_
    exact (ho2.block _ (blk_lt hmk) (hT2 kL (Or.inr rfl))).trans hmk
  · rcases hv5 with e | ⟨k', e, hk'⟩
    · rw [e] at hk
      rcases h with h | h
      · exact hD.n5 k hk h
      · have := (hD.o5.lt k hk).2; omega
    · rw [e] at hk
      injection hk with hk
      subst hk
      rcases h with h | h
      · have := (hD.zin _ h).2; omega
      · subst h
        obtain ⟨c', hc'⟩ := own_bk h5' _ e
        exact absurd (blk_type hmk hc') (by decide)
  · refine ⟨(ho.block _ (blk_lt hG.fb) (hTg _ _ _ hG.fb (by decide) (by decide) (by decide))).trans hG.fb, (ho.block _ (blk_lt hG.db) (hTg _ _ _ hG.db (by decide) (by decide) (by decide))).trans hG.db, (hG.firm.step ho hZT).grow (fun k hk => Or.inl hk), own_keep hG.oM ho (fun k hk h => ?_), hval, hG.mvb, told_pure hG.pure⟩
    rcases h with h | h | h
    · exact hG.mvb (by rw [← h]; exact hk)
    · have := (hz k (Or.inr (Or.inr (Or.inr hk)))).1; omega
    · obtain ⟨c1, hc1⟩ := own_bk hG.oM k hk
      obtain ⟨c2, hc2⟩ := own_bk hD.o5 k h
      exact absurd (blk_type hc1 hc2) (by decide)
  · have hk' : D.gs[i].mut k := hk
    refine ⟨Or.inl hk', fun h => ?_⟩
    rcases h with h | h
    · exact (hz k hk').2 h
    · have := hG.lt hk'; omega
end Go.Proofs.YtgipjjhkhfihpaaGreatDoor

namespace Go.Proofs.YtgipjjhkhfihpaaGreatDoor
open Go.RowKit

/-! ### The law's world, when texts change, and when a game is new -/
theorem DInv.base {bw : Nat} {w w' : World} {D : DW} (hD : DInv bw w D) (ho : Only (· = bw) w w') {text' proof' : List UInt8} {px' pf' : Option Addr} (hw' : WAt w' bw text' px' pf' proof' D.v4 D.v5 D.v6) (hp : (text' = D.text ∧ px' = D.px ∧ pf' = D.pf) ∨ FTxt w.heap.size w' text' px' pf') :
    DInv bw w' { D with text := text', px := px', pf := pf', proof := proof', Z := fun k => D.Z k ∨ (w.heap.size ≤ k ∧ k < w'.heap.size) } := by
  have hbw := blk_lt hD.wat
  have hsz := ho.size
  have hz : ∀ k, D.Z k → ¬ k = bw := fun k hk e => by have := (hD.zin k hk).1; omega
  have hlt : ∀ G ∈ D.gs, ∀ k, G.mut k → k < w.heap.size := fun G hG k hk => (hD.games G hG).lt hk
  refine ⟨hw', own_keep hD.o4 ho (fun k hk e => by have := (hD.o4.lt k hk).1; omega), own_keep hD.o5 ho (fun k hk e => by have := (hD.o5.lt k hk).1; omega), own_keep hD.o6 ho (fun k hk e => by have := (hD.o6.lt k hk).1; omega), ?_, ?_,
    (hD.ls.step ho hz).grow (fun k hk => Or.inl hk), (hD.lss.step ho hz).grow (fun k hk => Or.inl hk), ?_, ?_, ?_, ?_, ?_, hD.gap⟩
  · intro k hk
    rcases hk with hk | hk
    · have := hD.zin k hk; omega
    · omega
  · rcases hp with ⟨rfl, rfl, rfl⟩ | hp
    · exact (hD.form.step ho hz).grow (fun k hk => Or.inl hk)
    · exact FPairF.new hp hbw (fun k a b => Or.inr ⟨a, b⟩)
  · intro k hk h
    rcases h with h | h
    · exact hD.n4 k hk h
    · have := (hD.o4.lt k hk).2; omega
  · intro k hk h
    rcases h with h | h
    · exact hD.n5 k hk h
    · have := (hD.o5.lt k hk).2; omega
  · intro k hk h
    rcases h with h | h
    · exact hD.n6 k hk h
    · have := (hD.o6.lt k hk).2; omega
  · intro G hG
    exact ((hD.games G hG).keep ho hz (fun k hk e => by have := (hD.gz G hG k hk).1; omega)).grow (fun k hk => Or.inl hk)
  · intro G hG k hk
    refine ⟨(hD.gz G hG k hk).1, fun h => ?_⟩
    rcases h with h | h
    · exact (hD.gz G hG k hk).2 h
    · have := hlt G hG k hk; omega
theorem DInv.push {bw : Nat} {w w' : World} {D : DW} (hD : DInv bw w D) (G : GG) (v4' : Value) (Z' T : Nat → Prop) (ho : Only T w w') (hT : ∀ k, k < w.heap.size → T k → k = bw ∨ D.v4.ownBlock = some k) (hw' : WAt w' bw D.text D.px D.pf D.proof v4' D.v5 D.v6)
    (h4' : w'.ownsRow (bw + 1) 51 1 v4' (D.gs.length + 1) (D.gs.map gptr ++ [gptr G])) (hZ1 : ∀ k, D.Z k → Z' k) (hZ2 : ∀ k, Z' k → D.Z k ∨ (w.heap.size ≤ k ∧ k < w'.heap.size)) (hn4' : ∀ k, v4'.ownBlock = some k → ¬ Z' k)
    (hG : GInv Z' w' G) (hm : ∀ k, G.mut k → w.heap.size ≤ k ∧ ¬ Z' k) : DInv bw w' { D with v4 := v4', gs := D.gs ++ [G], Z := Z' } := by
  have ho' : Only (fun k => T k ∧ k < w.heap.size) w w' := ho.mono (fun k hk ht => ⟨ht, hk⟩)
  have hbw := blk_lt hD.wat
  have hsz := ho.size
  have hlt : ∀ G ∈ D.gs, ∀ k, G.mut k → k < w.heap.size := fun G hG k hk => (hD.games G hG).lt hk
  have hTZ : ∀ k, D.Z k → ¬ (T k ∧ k < w.heap.size) := fun k hk ht => by
    rcases hT k ht.2 ht.1 with h | h
    · have := (hD.zin k hk).1; omega
    · exact hD.n4 k h hk
  have hT5 : ∀ k, D.v5.ownBlock = some k → ¬ (T k ∧ k < w.heap.size) := fun k hk ht => by
    obtain ⟨c, hc⟩ := own_bk hD.o5 k hk
    rcases hT k ht.2 ht.1 with h | h
    · have := (hD.o5.lt k hk).1; omega
    · obtain ⟨c', hc'⟩ := own_bk hD.o4 k h; exact absurd (blk_type hc hc') (by decide)
  have hT6 : ∀ k, D.v6.ownBlock = some k → ¬ (T k ∧ k < w.heap.size) := fun k hk ht => by
    obtain ⟨c, hc⟩ := own_bk hD.o6 k hk
    rcases hT k ht.2 ht.1 with h | h
    · have := (hD.o6.lt k hk).1; omega
    · obtain ⟨c', hc'⟩ := own_bk hD.o4 k h; exact absurd (blk_type hc hc') (by decide)
  have hnz : ∀ k, k < w.heap.size → ¬ D.Z k → ¬ Z' k := fun k hk hz h => by
    rcases hZ2 k h with h | h
    · exact hz h
    · omega
  have hold : ∀ G0 ∈ D.gs, GInv Z' w' G0 := fun G0 hG0 => by
    refine ((hD.games _ hG0).keep ho' hTZ (fun k hk ht => ?_)).grow hZ1
    rcases hT k ht.2 ht.1 with h | h
    · have := (hD.gz _ hG0 k hk).1; omega
    · obtain ⟨c', hc'⟩ := own_bk hD.o4 k h
      exact mut_not (hD.games _ hG0) hc' (by decide) (by decide) (by decide) hk
  refine ⟨hw', by simpa using h4', own_keep hD.o5 ho' hT5, own_keep hD.o6 ho' hT6, ?_, (hD.form.step ho' hTZ).grow hZ1, (hD.ls.step ho' hTZ).grow hZ1, (hD.lss.step ho' hTZ).grow hZ1, hn4', fun k hk => hnz k (hD.o5.lt k hk).2 (hD.n5 k hk), fun k hk => hnz k (hD.o6.lt k hk).2 (hD.n6 k hk), ?_, ?_, ?_⟩
  · intro k hk
    rcases hZ2 k hk with h | h
    · have := hD.zin k h; omega
    · omega
  · intro G0 hG0
    rcases List.mem_append.1 hG0 with h | h
    · exact hold G0 h
    · simp at h; subst h; exact hG
  · intro G0 hG0 k hk
    rcases List.mem_append.1 hG0 with h | h
    · exact ⟨(hD.gz G0 h k hk).1, hnz k (hlt G0 h k hk) (hD.gz G0 h k hk).2⟩
    · simp at h; subst h
      have := hm k hk
      exact ⟨by omega, this.2⟩
  · intro i j hi hj hij k h1 h2
    simp only [List.length_append, List.length_cons, List.length_nil] at hi hj
    dsimp only at h1 h2
    by_cases ei : i < D.gs.length
    · rw [List.getElem_append_left ei] at h1
      by_cases ej : j < D.gs.length
      · rw [List.getElem_append_left ej] at h2
        exact hD.gap i j ei ej hij k h1 h2
      · have e2 : j = D.gs.length := by omega
        subst e2
        have h2' : G.mut k := by simpa using h2
        have := hlt _ (List.getElem_mem ei) k h1
        have := (hm k h2').1
        omega
    · have e1 : i = D.gs.length := by omega
      subst e1
      have h1' : G.mut k := by simpa using h1
      by_cases ej : j < D.gs.length
      · rw [List.getElem_append_left ej] at h2
        have := hlt _ (List.getElem_mem ej) k h2
        have := (hm k h1').1
        omega
      · omega

/-! ### A move, apart from memory -/
def bitV (bits i : Nat) : Int := if bits.testBit i then 1 else -1
def mvTo (row : List Nat) (bits : Nat) (val : List Int) : Nat → List Int
  | 0 => val
  | i + 1 => (mvTo row bits val i).set (row.getD i 0 - 1) (bitV bits i)
theorem mvTo_len (row : List Nat) (bits : Nat) (val : List Int) : ∀ i, (mvTo row bits val i).length = val.length := by
  intro i
  induction i with
  | zero => rfl
  | succ i ih => rw [mvTo, List.length_set, ih]
theorem mvTo_in {row : List Nat} {bits : Nat} {val : List Int} (hr : ∀ v ∈ row, 1 ≤ v ∧ v ≤ 8) : ∀ i, i ≤ row.length → ∀ j (_ : j < i) (hjl : j < row.length), val.length = 8 → row.Nodup → (mvTo row bits val i).getD (row[j] - 1) 0 = bitV bits j := by
  intro i
  induction i with
  | zero => intro _ j hj; omega
  | succ i ih =>
    intro hi j hj hjl hl hnd
    have hil : i < row.length := by omega
    have hgi : row.getD i 0 = row[i] := by simp [List.getD, hil]
    have h1 := hr _ (List.getElem_mem hjl)
    have h2 := hr _ (List.getElem_mem hil)
    rw [mvTo, hgi]
    by_cases e : j = i
    · subst e
      rw [List.getD, List.getElem?_set_self (by rw [mvTo_len]; omega)]; rfl
    · have hne : row[j] ≠ row[i] := fun h => e ((List.getElem_inj hnd).1 h)
      rw [List.getD, List.getElem?_set_ne (by omega)]
      exact ih (by omega) j (by omega) hjl hl hnd
theorem mvTo_out {row : List Nat} {bits : Nat} {val : List Int} (hr : ∀ v ∈ row, 1 ≤ v ∧ v ≤ 8) {v : Nat} (h1 : 1 ≤ v) (hv : v ∉ row) : ∀ i, i ≤ row.length → (mvTo row bits val i).getD (v - 1) 0 = val.getD (v - 1) 0 := by
  intro i
  induction i with
  | zero => intro _; rfl
  | succ i ih =>
    intro hi
    have hil : i < row.length := by omega
    have hgi : row.getD i 0 = row[i] := by simp [List.getD, hil]
    have h2 := hr _ (List.getElem_mem hil)
    have hne : row[i] ≠ v := fun e => hv (by rw [← e]; exact List.getElem_mem hil)
    rw [mvTo, hgi, List.getD, List.getElem?_set_ne (by omega)]
    exact ih (by omega)
theorem block_nodup {q : QS} (hq : QGood q) {b : List Nat} (hb : b ∈ progBlocks q.vars) : b.Nodup := by
  have h : (progBlocks q.vars).flatten.Nodup := by rw [progBlocks_flat]; exact hq.nodup
  exact (List.pairwise_flatten.1 h).1 b hb
theorem moveE_zero {bl : BL} {g : GS} {b : Nat} (ht : g.turn < bl.length) (hb : b < 2 ^ (bl.getD g.turn ([], false)).1.length) : MoveE bl g (b : Int) = 0 := by
  unfold MoveE
  rw [if_neg (by omega), if_neg]
  rintro (h | h)
  · omega
  · have h' : ((2 ^ (bl.getD g.turn ([], false)).1.length : Nat) : Int) ≤ (b : Int) := by push_cast; exact h
    omega
/-- The game behind a move. -/
def GG.moved (G : GG) (b : Nat) (bs' : List Bool) (v' : Value) : GG :=
  { G with mv := G.mv ++ [b], bs := bs', g := moveW G.rs G.bl G.g b, vM := v', val := mvTo ((progBlocks G.q.vars).getD G.g.turn []) b G.val ((progBlocks G.q.vars).getD G.g.turn []).length }
theorem moved_pure {G : GG} (h : GPure G) (ht : G.g.turn < (progBlocks G.q.vars).length) (b : Nat) (hb : b < 2 ^ ((progBlocks G.q.vars).getD G.g.turn []).length) (v' : Value) :
    ∃ bs', GPure (G.moved b bs' v') ∧ nextP G.q G.kind (G.g.turn + 1) = (moveW G.rs G.bl G.g b).turn := by
  have hq : QGood G.q := h.pair.qg
  have hk : G.kind = 1 ∨ G.kind = 2 := readQ_kind h.read
  have hgd : (progBlocks G.q.vars).getD G.g.turn [] = (progBlocks G.q.vars)[G.g.turn] := by simp [List.getD, ht]
  have hbl : (blW G.q G.kind).getD G.g.turn ([], false) = _ := blW_at G.q G.kind G.g.turn ht
  obtain ⟨b2, r1, r2, r3, r4, r5⟩ := move_run hq hk h.run h.stands ht b
  have hr8 : ∀ v ∈ (progBlocks G.q.vars)[G.g.turn], 1 ≤ v ∧ v ≤ 8 := fun v hv => by
    have hm : v ∈ (progBlocks G.q.vars).flatten := List.mem_flatten.2 ⟨_, List.getElem_mem ht, hv⟩
    rw [progBlocks_flat] at hm
    exact hq.name hm
  refine ⟨b2 ++ G.bs, ⟨h.same, h.cl, h.nice, h.read, h.tags, h.sbs, ?_, ?_, r1, r2, ?_, ?_, ?_⟩, ?_⟩
  · show moveW G.rs G.bl G.g b = (G.mv ++ [b]).foldl _ _
    rw [List.foldl_append]
    show _ = moveW G.rs G.bl (G.mv.foldl _ _) b
    exact congrArg (fun g => moveW G.rs G.bl g b) h.play
  · intro i hi
    have hi' : i < (G.mv ++ [b]).length := hi
    show MoveE G.bl (((G.mv ++ [b]).take i).foldl _ _) (((G.mv ++ [b]).getD i 0 : Nat) : Int) = 0
    by_cases e : i < G.mv.length
    · have h1 := h.ok i e
      rw [List.take_append_of_le_length (by omega)]
      rw [show (G.mv ++ [b]).getD i 0 = G.mv.getD i 0 from by simp [List.getD, List.getElem?_append_left e]]
      exact h1
    · have e2 : i = G.mv.length := by simp at hi'; omega
      subst e2
      rw [List.take_append_of_le_length (Nat.le_refl _), List.take_length]
      show MoveE G.bl (G.mv.foldl (fun g m => moveW G.rs G.bl g m) (openW G.q G.kind G.ss)) (((G.mv ++ [b]).getD G.mv.length 0 : Nat) : Int) = 0
      rw [← h.play]
      rw [show (G.mv ++ [b]).getD G.mv.length 0 = b from by simp [List.getD]]
      refine moveE_zero ?_ ?_
      · show G.g.turn < (blW G.q G.kind).length
        rw [blW_length]; exact ht
      · show b < 2 ^ ((blW G.q G.kind).getD G.g.turn ([], false)).1.length
        rw [hbl]; rw [hgd] at hb; exact hb
  · show (G.mv ++ [b]).length ≤ (moveW G.rs G.bl G.g b).turn
    have h1 := h.mlen
    have h2 : G.g.turn + 1 ≤ (moveW G.rs G.bl G.g b).turn := r3
    simp; omega
  · show (mvTo _ _ _ _).length = 8
    rw [mvTo_len]; exact h.vlen
  · intro v h1 h8
    show (mvTo _ _ _ _).getD (v - 1) 0 = 0 ∨ (mvTo _ _ _ _).getD (v - 1) 0 = valV (moveW G.rs G.bl G.g b).vals v
    rw [hgd]
    by_cases hv : v ∈ (progBlocks G.q.vars)[G.g.turn]
    · obtain ⟨j, hj, rfl⟩ := List.mem_iff_getElem.1 hv
      refine Or.inr ?_
      rw [mvTo_in hr8 _ (Nat.le_refl _) j hj hj h.vlen (block_nodup hq (List.getElem_mem ht))]
      exact (r5 j hj).symm
    · rw [mvTo_out hr8 h1 hv _ (Nat.le_refl _)]
      rcases h.vok v h1 h8 with e | e
      · exact Or.inl e
      · rcases run_stay hq h.run r1 v with e2 | e2
        · exact Or.inl (by rw [e, e2])
        · exact Or.inr (by rw [e, ← e2]; rfl)
  · exact nextP_eq G.q G.kind _ _ r3 r2.le r4 r2.lose
end Go.Proofs.YtgipjjhkhfihpaaGreatDoor
