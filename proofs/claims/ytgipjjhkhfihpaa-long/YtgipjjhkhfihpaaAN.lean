import Derived.Test.YtgipjjhkhfihpaaAM
import Derived.Test.YtgipjjhkhfihpaaAL
import Derived.Test.YtgipjjhkhfihpaaAA
import Derived.Deep.LoopGhost
import Derived.Deep.QuietTactic
import Derived.BigQuiet
namespace Go.Proofs.Ytgipjjhkhfihpaa
open Go.RowKit

/-! ### Open -/
def GFresh (n : Nat) (gv : GV) : Prop := (∀ k, gv.vB.ownBlock = some k → n ≤ k) ∧ (∀ k, gv.vR.ownBlock = some k → n ≤ k) ∧ ∀ j (hj : j < gv.hdrs.length) k, gv.hdrs[j].ownBlock = some k → n ≤ k
def GameV (g : GS) (gv : GV) : Value := .agg #[gv.vB, gv.vR, .int .i64 (g.turn : Int), .int .i64 (g.vals.1 : Int), .int .i64 (g.vals.2 : Int)]
def OpenPost (q : QS) (kind : Nat) (ss : List Stp) (w : World) (e : Ending) (w' : World) : Prop :=
  ∃ gv, e = .returned (GameV (openW q kind ss) gv) ∧ GRows w' (blW q kind) (rulesW kind ss) gv ∧ GFresh w.heap.size gv ∧ Below w.heap.size w w'
theorem flat_len (bs : List (List Nat)) (h : ∀ b ∈ bs, b ≠ []) : bs.length ≤ bs.flatten.length := by
  induction bs with
  | nil => simp
  | cons b bs ih =>
    have h1 := ih (fun x hx => h x (List.mem_cons_of_mem _ hx))
    have h2 : 0 < b.length := List.length_pos_iff.2 (h b (by simp))
    simp only [List.flatten_cons, List.length_append, List.length_cons]
    omega
theorem blocks_le (vs : List (Nat × Bool)) (h : vs.length ≤ 8) : (progBlocks vs).length ≤ 8 := by
  have := flat_len (progBlocks vs) (fun b hb => (progBlocks_kind vs b hb).1)
  rw [progBlocks_flat, List.length_map] at this
  omega
theorem block_len (vs : List (Nat × Bool)) (h : vs.length ≤ 8) (b : List Nat) (hb : b ∈ progBlocks vs) : b.length ≤ 8 := by
  have h1 : b.length ≤ (progBlocks vs).flatten.length := by
    have := (List.sublist_flatten_of_mem hb).length_le
    exact this
  rw [progBlocks_flat, List.length_map] at h1
  omega
theorem bbd_of {q : QS} (hQ : QB q) (kind : Nat) : BBd (blW q kind) := by
  refine ⟨by rw [blW_length]; exact blocks_le q.vars hQ.vl, fun x hx => ?_⟩
  obtain ⟨b, hb, rfl⟩ := List.mem_map.1 (show x ∈ (progBlocks q.vars).map _ from hx)
  refine ⟨block_len q.vars hQ.vl b hb, fun v hv => ?_⟩
  have hm : v ∈ (progBlocks q.vars).flatten := List.mem_flatten.2 ⟨b, hb, hv⟩
  rw [progBlocks_flat] at hm
  obtain ⟨y, hy, rfl⟩ := List.mem_map.1 hm
  exact hQ.names y hy
theorem rbd_of {ss : List Stp} (h : SBs ss) (kind : Nat) : RBd (rulesW kind ss) := by
  refine ⟨?_, fun r hr => ?_⟩
  · unfold rulesW
    rw [List.length_map]
    exact Nat.le_trans (List.length_filter_le _ _) h.len
  · unfold rulesW at hr
    obtain ⟨s, hs, rfl⟩ := List.mem_map.1 hr
    have hs' := h.bits s (List.mem_filter.1 hs).1
    have hm := minus_lt (litsAt ss s.first) s.lits (litsAt_lt ss h.bits s.first)
    unfold ruleW swapL
    split
    · exact ⟨⟨hs'.2, hs'.1⟩, hm.2, hm.1⟩
    · exact ⟨hs', hm⟩
theorem ans_lt (rs : List RuleP) (bl : BL) : ∀ (m : Nat) (g : GS), g.vals.1 < 512 ∧ g.vals.2 < 512 → (ansGo rs bl m g).vals.1 < 512 ∧ (ansGo rs bl m g).vals.2 < 512 := by
  have hblk : ∀ (vs : List Nat) (c : Nat × Nat), c.1 < 512 ∧ c.2 < 512 → (ansBlock rs vs c).1 < 512 ∧ (ansBlock rs vs c).2 < 512 := by
    intro vs
    induction vs with
    | nil => intro c h; exact h
    | cons v vs ih => intro c h; exact ih _ (withLit_lt _ _ h.1 h.2)
  intro m
  induction m with
  | zero => intro g h; exact h
  | succ m ih =>
    intro g h
    rw [ansGo]
    split
    · exact ih _ (hblk _ _ h)
    · exact h
/-- While the blocks are gathered. -/
structure OAt (u wx : World) (gb : Nat) (bl : BL) (hdrs : List Value) (vR : Value) (k : Nat) (vB : Value) : Prop where
  gg : wx.heap[gb]? = some (.cells #[vB, vR, .int .i64 0, .int .i64 0, .int .i64 0] 60 (0, 0))
  oB : wx.ownsRow u.heap.size 79 2 vB k (blCells (bl.take k) (hdrs.take k))
  only : Only (· = gb) u wx
theorem blCells_snoc (bl : BL) (hdrs : List Value) (k : Nat) (h : k < bl.length) (hh : k < hdrs.length) : blCells (bl.take (k + 1)) (hdrs.take (k + 1)) = blCells (bl.take k) (hdrs.take k) ++ [hdrs[k], .bool bl[k].2] := by
  unfold blCells
  rw [List.take_succ_eq_append_getElem h, List.take_succ_eq_append_getElem hh, List.zip_append (by simp; omega), List.flatMap_append]
  simp
set_option maxRecDepth 100000 in
set_option maxHeartbeats 3200000 in
theorem popen_any (q : QS) (ss : List Stp) (aV aC aS : Option Addr) (cV cC cS kind : Nat) (w : World) (hV : w.ownsRow 0 84 2 (.slice aV q.vars.length cV) q.vars.length (varCells q.vars)) (hl : q.vars.length ≤ 8)
    (hS : w.ownsRow 0 89 6 (.slice aS ss.length cS) ss.length (psCells ss)) (hSB : SBs ss) (hk : kind = 1 ∨ kind = 2) (hQ : QB q) :
    Calls Try.prog 15 #[.agg #[.slice aV q.vars.length cV, .slice aC q.cl.length cC], .agg #[.int .i64 (kind : Int), .slice aS ss.length cS]] w fun e w' => OpenPost q kind ss w e w' := by
  obtain ⟨i1, hi1, hz10, hz11, hz12⟩ := info_parts infoBlock
  go_enter Try.func15, Try.ntmps15
  go_wp2_with fail
  generalize hw0 : (((w.alloc (.cells #[.slice aV q.vars.length cV, .slice aC q.cl.length cC] 44)).alloc (.cells #[.int .i64 (kind : Int), .slice aS ss.length cS] 51)).alloc (.cells #[.slice none 0 0, .slice none 0 0, .int .i64 0, .int .i64 0, .int .i64 0] 60)) = u1
  have hB : Below w.heap.size w u1 := by rw [← hw0]; exact (((Below.refl _ _).alloc (Nat.le_refl _) _).alloc (by simp; try omega) _).alloc (by simp; try omega) _
  have hff : u1.heap[w.heap.size]? = some (.cells #[.slice aV q.vars.length cV, .slice aC q.cl.length cC] 44 (0, 0)) := by rw [← hw0, heap_alloc_old _ _ (by simp; try omega), heap_alloc_old _ _ (by simp; try omega)]; exact alloc_new_at (by simp)
  have hpp : u1.heap[w.heap.size + 1]? = some (.cells #[.int .i64 (kind : Int), .slice aS ss.length cS] 51 (0, 0)) := by rw [← hw0, heap_alloc_old _ _ (by simp; try omega)]; exact alloc_new_at (by simp)
  have hrs : u1.heap[w.heap.size + 1 + 1]? = some (.cells #[.slice none 0 0, .slice none 0 0, .int .i64 0, .int .i64 0, .int .i64 0] 60 (0, 0)) := by rw [← hw0]; exact alloc_new_at (by simp)
  clear hw0
  have cff0 : u1.cell? ⟨w.heap.size, 0, none⟩ = some (.slice aV q.vars.length cV) := by rw [blk_cell hff]; rfl
  have cff1 : u1.cell? ⟨w.heap.size, 1, none⟩ = some (.slice aC q.cl.length cC) := by rw [blk_cell hff]; rfl
  have lff := blk_lt hff
  have cpp0 : u1.cell? ⟨w.heap.size + 1, 0, none⟩ = some (.int .i64 (kind : Int)) := by rw [blk_cell hpp]; rfl
  have cpp1 : u1.cell? ⟨w.heap.size + 1, 1, none⟩ = some (.slice aS ss.length cS) := by rw [blk_cell hpp]; rfl
  have lpp := blk_lt hpp
  have crs0 : u1.cell? ⟨w.heap.size + 1 + 1, 0, none⟩ = some (.slice none 0 0) := by rw [blk_cell hrs]; rfl
  have crs1 : u1.cell? ⟨w.heap.size + 1 + 1, 1, none⟩ = some (.slice none 0 0) := by rw [blk_cell hrs]; rfl
  have crs2 : u1.cell? ⟨w.heap.size + 1 + 1, 2, none⟩ = some (.int .i64 0) := by rw [blk_cell hrs]; rfl
  have crs3 : u1.cell? ⟨w.heap.size + 1 + 1, 3, none⟩ = some (.int .i64 0) := by rw [blk_cell hrs]; rfl
  have crs4 : u1.cell? ⟨w.heap.size + 1 + 1, 4, none⟩ = some (.int .i64 0) := by rw [blk_cell hrs]; rfl
  have lrs := blk_lt hrs
  have hsz1 : w.heap.size ≤ u1.heap.size := hB.size
  refine (rulesOf_any ss aS cS kind _ (own_below hS hB) hSB hk).mono ?_
  rintro e u2 ⟨vR, rfl, hoR, b2⟩
  replace hB := hB.trans (b2.mono hB.size)
  replace hff := (b2.block _ (blk_lt hff)).trans hff
  replace cff0 : u2.cell? ⟨w.heap.size, 0, none⟩ = some (.slice aV q.vars.length cV) := by rw [blk_cell hff]; rfl
  replace cff1 : u2.cell? ⟨w.heap.size, 1, none⟩ = some (.slice aC q.cl.length cC) := by rw [blk_cell hff]; rfl
  replace lff := blk_lt hff
  replace hpp := (b2.block _ (blk_lt hpp)).trans hpp
  replace cpp0 : u2.cell? ⟨w.heap.size + 1, 0, none⟩ = some (.int .i64 (kind : Int)) := by rw [blk_cell hpp]; rfl
  replace cpp1 : u2.cell? ⟨w.heap.size + 1, 1, none⟩ = some (.slice aS ss.length cS) := by rw [blk_cell hpp]; rfl
  replace lpp := blk_lt hpp
  replace hrs := (b2.block _ (blk_lt hrs)).trans hrs
  replace crs0 : u2.cell? ⟨w.heap.size + 1 + 1, 0, none⟩ = some (.slice none 0 0) := by rw [blk_cell hrs]; rfl
  replace crs1 : u2.cell? ⟨w.heap.size + 1 + 1, 1, none⟩ = some (.slice none 0 0) := by rw [blk_cell hrs]; rfl
  replace crs2 : u2.cell? ⟨w.heap.size + 1 + 1, 2, none⟩ = some (.int .i64 0) := by rw [blk_cell hrs]; rfl
  replace crs3 : u2.cell? ⟨w.heap.size + 1 + 1, 3, none⟩ = some (.int .i64 0) := by rw [blk_cell hrs]; rfl
  replace crs4 : u2.cell? ⟨w.heap.size + 1 + 1, 4, none⟩ = some (.int .i64 0) := by rw [blk_cell hrs]; rfl
  replace lrs := blk_lt hrs
  have hsz2 : w.heap.size + 1 + 1 < u2.heap.size := lrs
  obtain ⟨aR, cR, rfl⟩ := own_form hoR
  have HRlt : Hid (∀ k, (Value.slice aR (rulesW kind ss).length cR).ownBlock = some k → u1.heap.size ≤ k ∧ k < u2.heap.size) := hide (fun k hk => hoR.lt k hk)
  have hRl : (rulesW kind ss).length ≤ 9000 := by have h1 := rulesTo_len kind ss ss.length; have h2 := hSB.len; unfold rulesTo at h1; rw [List.take_length] at h1; unfold rulesW; omega
  generalize hrw : rulesW kind ss = rs at *
  have HRW := hide hrw
  clear hrw
  go_wp2_with fail
  generalize hw0 : u2.alloc (.cells #[.slice none 0 0, .slice aR rs.length cR, .int .i64 0, .int .i64 0, .int .i64 0] 60) = u3
  have b3 : Below u2.heap.size u2 u3 := by rw [← hw0]; exact (Below.refl _ _).alloc (Nat.le_refl _) _
  have hgg : u3.heap[u2.heap.size]? = some (.cells #[.slice none 0 0, .slice aR rs.length cR, .int .i64 0, .int .i64 0, .int .i64 0] 60 (0, 0)) := by rw [← hw0]; exact heap_alloc_new _ _
  clear hw0
  replace hB := hB.trans (b3.mono hB.size)
  replace hff := (b3.block _ (blk_lt hff)).trans hff
  replace cff0 : u3.cell? ⟨w.heap.size, 0, none⟩ = some (.slice aV q.vars.length cV) := by rw [blk_cell hff]; rfl
  replace cff1 : u3.cell? ⟨w.heap.size, 1, none⟩ = some (.slice aC q.cl.length cC) := by rw [blk_cell hff]; rfl
  replace lff := blk_lt hff
  replace hpp := (b3.block _ (blk_lt hpp)).trans hpp
  replace cpp0 : u3.cell? ⟨w.heap.size + 1, 0, none⟩ = some (.int .i64 (kind : Int)) := by rw [blk_cell hpp]; rfl
  replace cpp1 : u3.cell? ⟨w.heap.size + 1, 1, none⟩ = some (.slice aS ss.length cS) := by rw [blk_cell hpp]; rfl
  replace lpp := blk_lt hpp
  replace hrs := (b3.block _ (blk_lt hrs)).trans hrs
  replace crs0 : u3.cell? ⟨w.heap.size + 1 + 1, 0, none⟩ = some (.slice none 0 0) := by rw [blk_cell hrs]; rfl
  replace crs1 : u3.cell? ⟨w.heap.size + 1 + 1, 1, none⟩ = some (.slice none 0 0) := by rw [blk_cell hrs]; rfl
  replace crs2 : u3.cell? ⟨w.heap.size + 1 + 1, 2, none⟩ = some (.int .i64 0) := by rw [blk_cell hrs]; rfl
  replace crs3 : u3.cell? ⟨w.heap.size + 1 + 1, 3, none⟩ = some (.int .i64 0) := by rw [blk_cell hrs]; rfl
  replace crs4 : u3.cell? ⟨w.heap.size + 1 + 1, 4, none⟩ = some (.int .i64 0) := by rw [blk_cell hrs]; rfl
  replace lrs := blk_lt hrs
  replace hoR := own_below hoR b3
  have cgg0 : u3.cell? ⟨u2.heap.size, 0, none⟩ = some (.slice none 0 0) := by rw [blk_cell hgg]; rfl
  have cgg1 : u3.cell? ⟨u2.heap.size, 1, none⟩ = some (.slice aR rs.length cR) := by rw [blk_cell hgg]; rfl
  have cgg2 : u3.cell? ⟨u2.heap.size, 2, none⟩ = some (.int .i64 0) := by rw [blk_cell hgg]; rfl
  have cgg3 : u3.cell? ⟨u2.heap.size, 3, none⟩ = some (.int .i64 0) := by rw [blk_cell hgg]; rfl
  have cgg4 : u3.cell? ⟨u2.heap.size, 4, none⟩ = some (.int .i64 0) := by rw [blk_cell hgg]; rfl
  have lgg := blk_lt hgg
  have hsz3 : u2.heap.size < u3.heap.size := lgg
  refine (qblocks_any 0 w.heap.size q _ aV cV cff0 lff (own_below hV hB) (by omega)).mono ?_
  rintro e u4 ⟨v, hdrs, rfl, hoH, hRA, b4⟩
  replace hB := hB.trans (b4.mono hB.size)
  replace hff := (b4.block _ (blk_lt hff)).trans hff
  replace cff0 : u4.cell? ⟨w.heap.size, 0, none⟩ = some (.slice aV q.vars.length cV) := by rw [blk_cell hff]; rfl
  replace cff1 : u4.cell? ⟨w.heap.size, 1, none⟩ = some (.slice aC q.cl.length cC) := by rw [blk_cell hff]; rfl
  replace lff := blk_lt hff
  replace hpp := (b4.block _ (blk_lt hpp)).trans hpp
  replace cpp0 : u4.cell? ⟨w.heap.size + 1, 0, none⟩ = some (.int .i64 (kind : Int)) := by rw [blk_cell hpp]; rfl
  replace cpp1 : u4.cell? ⟨w.heap.size + 1, 1, none⟩ = some (.slice aS ss.length cS) := by rw [blk_cell hpp]; rfl
  replace lpp := blk_lt hpp
  replace hrs := (b4.block _ (blk_lt hrs)).trans hrs
  replace crs0 : u4.cell? ⟨w.heap.size + 1 + 1, 0, none⟩ = some (.slice none 0 0) := by rw [blk_cell hrs]; rfl
  replace crs1 : u4.cell? ⟨w.heap.size + 1 + 1, 1, none⟩ = some (.slice none 0 0) := by rw [blk_cell hrs]; rfl
  replace crs2 : u4.cell? ⟨w.heap.size + 1 + 1, 2, none⟩ = some (.int .i64 0) := by rw [blk_cell hrs]; rfl
  replace crs3 : u4.cell? ⟨w.heap.size + 1 + 1, 3, none⟩ = some (.int .i64 0) := by rw [blk_cell hrs]; rfl
  replace crs4 : u4.cell? ⟨w.heap.size + 1 + 1, 4, none⟩ = some (.int .i64 0) := by rw [blk_cell hrs]; rfl
  replace lrs := blk_lt hrs
  replace hgg := (b4.block _ (blk_lt hgg)).trans hgg
  replace cgg0 : u4.cell? ⟨u2.heap.size, 0, none⟩ = some (.slice none 0 0) := by rw [blk_cell hgg]; rfl
  replace cgg1 : u4.cell? ⟨u2.heap.size, 1, none⟩ = some (.slice aR rs.length cR) := by rw [blk_cell hgg]; rfl
  replace cgg2 : u4.cell? ⟨u2.heap.size, 2, none⟩ = some (.int .i64 0) := by rw [blk_cell hgg]; rfl
  replace cgg3 : u4.cell? ⟨u2.heap.size, 3, none⟩ = some (.int .i64 0) := by rw [blk_cell hgg]; rfl
  replace cgg4 : u4.cell? ⟨u2.heap.size, 4, none⟩ = some (.int .i64 0) := by rw [blk_cell hgg]; rfl
  replace lgg := blk_lt hgg
  replace hoR := own_below hoR b4
  obtain ⟨aH, cH, rfl⟩ := own_form hoH
  go_wp2_with fail
  have hHl := hRA.len
  have hbl : (progBlocks q.vars).length ≤ 8 := blocks_le q.vars hl
  obtain ⟨bl, hbl0⟩ : ∃ bl, blW q kind = bl := ⟨_, rfl⟩
  have hbll : bl.length = (progBlocks q.vars).length := by rw [← hbl0, blW_length]
  have HBL := hide hbl0
  clear hbl0
  go_loopg [13] ((progBlocks q.vars).length) (fun m i wx => ∃ (k : Nat) (vB : Value), i = .int .i64 k ∧ k + m = (progBlocks q.vars).length ∧ OAt u4 wx u2.heap.size bl hdrs (.slice aR rs.length cR) k vB)
  case atStart => exact ⟨0, .slice none 0 0, rfl, by omega, hgg, World.ownsRow_nil _ _ _ _, Only.refl _ _⟩
  case round =>
    obtain ⟨k, vB, rfl, hkm, ⟨hgr, hoB, hon⟩⟩ := hrel
    have lgr := blk_lt hgr
    have hBr : Below w.heap.size w wr := hB.trans (hon.below (B := w.heap.size) hB.size (fun j hj e => by omega))
    have hffr := (hon.block _ lff (by omega)).trans hff
    have hppr := (hon.block _ lpp (by omega)).trans hpp
    have f0 : wr.cell? ⟨w.heap.size, 0, none⟩ = some (.slice aV q.vars.length cV) := by rw [blk_cell hffr]; rfl
    have f1 : wr.cell? ⟨w.heap.size, 1, none⟩ = some (.slice aC q.cl.length cC) := by rw [blk_cell hffr]; rfl
    have p0 : wr.cell? ⟨w.heap.size + 1, 0, none⟩ = some (.int .i64 (kind : Int)) := by rw [blk_cell hppr]; rfl
    have p1 : wr.cell? ⟨w.heap.size + 1, 1, none⟩ = some (.slice aS ss.length cS) := by rw [blk_cell hppr]; rfl
    have lf := blk_lt hffr
    have lp := blk_lt hppr
    obtain ⟨aB, cB, rfl⟩ := own_form hoB
    have g0 : wr.cell? ⟨u2.heap.size, 0, none⟩ = some (.slice aB k cB) := by rw [blk_cell hgr]; rfl
    have hoHr := own_keep hoH hon (fun j hj e => by have := (hoH.lt j hj).1; omega)
    by_cases hlt : k < (progBlocks q.vars).length
    · have hkh : k < hdrs.length := by omega
      have hkb : k < bl.length := by omega
      have hXr := own_keep (hRA.row k hlt).1 hon (fun j hj e => by have := ((hRA.row k hlt).1.lt j hj).1; omega)
      have hb8 := block_len q.vars hl _ (List.getElem_mem hlt)
      have HSN := hide (blCells_snoc bl hdrs k hkb hkh)
      have HWN : Hid (bl[k].2 = winsW q kind (progBlocks q.vars)[k]) := hide (by
        have h := blW_at q kind k hlt
        rw [unhide HBL] at h
        rw [show bl.getD k ([], false) = bl[k] from by simp [List.getD, hkb]] at h
        rw [h])
      obtain ⟨gH, cap, hVe, hg, hg', _, hcell⟩ := own_pos hoHr (by omega)
      injection hVe with hVe _ hV2
      subst hVe hV2
      have hxk : wr.cell? ⟨gH, k, none⟩ = some hdrs[k] := hcell _ _ (by simp [hkh])
      obtain ⟨aX, cX, hXf⟩ := own_form hXr
      rw [hXf] at hxk hXr
      have HXF := hide hXf
      clear hcell hXf
      have hX0 := own_lo (lo := 0) hXr (Nat.zero_le _)
      have hne0 := own_type_ne hoB hgr (by decide)
      have HNE := hide hne0
      clear hne0
      have hVr := own_below hV hBr
      obtain ⟨wo, rfl⟩ : ∃ wo, wo = wr := ⟨_, rfl⟩
      go_upto_region 30 with fail
      go_region_law (first | (refine step_call rfl 23 _ _ rfl #[.agg #[.slice aV q.vars.length cV, .slice aC q.cl.length cC], .agg #[.int .i64 (kind : Int), .slice aS ss.length cS], .slice aX (progBlocks q.vars)[k].length cX] (by simp [Act.eval]) (callWins _) ?_; refine (wins_any q aV aC aS cV q.cl.length cC ss.length cS kind (progBlocks q.vars)[k] _ _ (own_below hVr (Below.refl _ wo).drew) hl hk (own_below hX0 (Below.refl _ wo).drew) hb8).mono ?_; rintro e v1 ⟨rfl, y1⟩; refine ⟨_, rfl, ?_⟩; have x1 : Below wo.heap.size wo v1 := Below.trans (Below.refl _ wo).drew y1; have hgv := (x1.block _ lgr).trans hgr; have gv0 : v1.cell? ⟨u2.heap.size, 0, none⟩ = some (.slice aB k cB) := (by rw [blk_cell hgv]; rfl); have lgv := blk_lt hgv) | (refine step_append_at rfl (.tmp 18) (.tmp 25) 55 rfl u4.heap.size 79 i1 (.agg #[.slice none 0 0, .bool false]) 2 32 Try.underlying55 hi1 hz10 hz11 hz12 rfl (by decide) (.slice aB k cB) k (blCells (bl.take k) (hdrs.take k)) ((own_below hoB x1).alloc _) (by simp [Act.eval]) ⟨v1.heap.size, 0, none⟩ 1 1 [.slice aX (progBlocks q.vars)[k].length cX, .bool (winsW q kind (progBlocks q.vars)[k])] (by simp [Act.eval]) rfl (new_cells v1 [.slice aX (progBlocks q.vars)[k].length cX, .bool (winsW q kind (progBlocks q.vars)[k])] 79) (by simp [Value.oneCell']) (by decide) (by unfold maxLen; omega) (by omega) (by have := x1.size; have := hon.size; simp; omega) ?_; intro v' w' hown' hgrow hmv; obtain ⟨g4, cap4, rfl, hg4, hg4', hcap4, hcell4⟩ := own_pos hown' (by omega); have hgg' : w'.heap[u2.heap.size]? = some (.cells #[.slice aB k cB, .slice aR rs.length cR, .int .i64 0, .int .i64 0, .int .i64 0] 60 (0, 0)) := (hgrow.block _ (by simp; omega) (fun e => unhide HNE e.symm)).trans ((heap_alloc_old v1 _ lgv).trans hgv); have gw0 : w'.cell? ⟨u2.heap.size, 0, none⟩ = some (.slice aB k cB) := (by rw [blk_cell hgg']; rfl); have gz0 := blk_free hgg' 0; have lgw := blk_lt hgg'))
      all_goals
        have hns := own_type_ne hown' hgg' (by decide)
        have HO : Hid (OAt u4 (w'.setCell ⟨u2.heap.size, 0, none⟩ (.slice (some ⟨g4, 0, none⟩) (k + 1) cap4)) u2.heap.size bl hdrs (.slice aR rs.length cR) (k + 1) (.slice (some ⟨g4, 0, none⟩) (k + 1) cap4)) := hide ⟨blk_set hgg' 0 _, by rw [unhide HSN, unhide HXF, unhide HWN]; exact own_set_ne hown' (p := ⟨u2.heap.size, 0, none⟩) hns _, (((hon.trans (Only.of_below x1)).alloc _).grown hgrow (fun j hj => Or.inr (hoB.lt j hj).1)).setAt 0 _⟩
        clear hown' hgrow hmv hcell4 hns
        go_wp2_with fail
        go_roundg (gk - 1)
        case measure => omega
        case rel => exact ⟨k + 1, _, by go_num, by omega, unhide HO⟩
    · have hkn : k = (progBlocks q.vars).length := by omega
      subst hkn
      have hdk : decide (((progBlocks q.vars).length : Int) < ((progBlocks q.vars).length : Int)) = false := by simp
      have hRr := own_keep hoR hon (fun j hj e => by have := (unhide HRlt j hj).2; omega)
      have hG : GameAt wr u2.heap.size 60 bl rs ⟨0, (0, 0)⟩ ⟨.slice aB (progBlocks q.vars).length cB, .slice aR rs.length cR, hdrs⟩ := by
        refine ⟨hgr, Or.inl rfl, ?_, own_lo hRr (Nat.zero_le _), by rw [hbll]; exact hHl, fun j hj => ?_⟩
        · have h := own_lo (lo := 0) hoB (Nat.zero_le _)
          rw [List.take_of_length_le (by omega), List.take_of_length_le (by omega)] at h
          rw [hbll]; exact h
        · have hj' : j < (progBlocks q.vars).length := by omega
          have h := own_lo (lo := 0) (own_keep (hRA.row j hj').1 hon (fun i hi e => by have := ((hRA.row j hj').1.lt i hi).1; omega)) (Nat.zero_le _)
          have hrow : bl[j].1 = (progBlocks q.vars)[j] := by
            have h2 := blW_at q kind j hj'
            rw [unhide HBL] at h2
            rw [show bl.getD j ([], false) = bl[j] from by simp [List.getD, hj]] at h2
            rw [h2]
          rw [hrow]; exact h
      have hFr : GFresh w.heap.size ⟨.slice aB (progBlocks q.vars).length cB, .slice aR rs.length cR, hdrs⟩ := by
        refine ⟨fun j hj => ?_, fun j hj => ?_, fun i hi j hj => ?_⟩
        · have := (hoB.lt j hj).1; have := hB.size; omega
        · have := (unhide HRlt j hj).1; omega
        · have hi' : i < (progBlocks q.vars).length := by rw [← hHl]; exact hi
          have := ((hRA.row i hi').1.lt j hj).1; omega
      have HFR := hide hFr
      have hbd := bbd_of hQ kind
      rw [unhide HBL] at hbd
      have hrbd := rbd_of hSB kind
      rw [unhide HRW] at hrbd
      have hrsr := (hon.block _ lrs (by omega)).trans hrs
      clear hFr hRr hoHr f0 f1 p0 p1 g0
      go_wp2_with fail
      refine (answer_any u2.heap.size _ bl rs ⟨0, (0, 0)⟩ _ _ hG hrbd hbd ⟨by decide, by decide⟩ (Nat.zero_le _)).mono ?_
      rintro e w8 ⟨rfl, hG8, ho8⟩
      have HOW : Hid (openW q kind ss = ansW rs bl ⟨0, (0, 0)⟩) := hide (by unfold openW; rw [unhide HRW, unhide HBL])
      generalize ansW rs bl ⟨0, (0, 0)⟩ = g8 at *
      obtain ⟨t8, v1, v2⟩ := g8
      have hrs8 := (ho8.block _ (blk_lt hrsr) (by omega)).trans hrsr
      have x0 : w8.cell? ⟨u2.heap.size, 0, none⟩ = some (.slice aB (progBlocks q.vars).length cB) := by rw [blk_cell hG8.fb]; rfl
      have x1 : w8.cell? ⟨u2.heap.size, 1, none⟩ = some (.slice aR rs.length cR) := by rw [blk_cell hG8.fb]; rfl
      have x2 : w8.cell? ⟨u2.heap.size, 2, none⟩ = some (.int .i64 (t8 : Int)) := by rw [blk_cell hG8.fb]; rfl
      have x3 : w8.cell? ⟨u2.heap.size, 3, none⟩ = some (.int .i64 (v1 : Int)) := by rw [blk_cell hG8.fb]; rfl
      have x4 : w8.cell? ⟨u2.heap.size, 4, none⟩ = some (.int .i64 (v2 : Int)) := by rw [blk_cell hG8.fb]; rfl
      have lx := blk_lt hG8.fb
      have ly := blk_lt hrs8
      have y0 : w8.cell? ⟨w.heap.size + 1 + 1, 0, none⟩ = some (.slice none 0 0) := by rw [blk_cell hrs8]; rfl
      have y1 : w8.cell? ⟨w.heap.size + 1 + 1, 1, none⟩ = some (.slice none 0 0) := by rw [blk_cell hrs8]; rfl
      have y2 : w8.cell? ⟨w.heap.size + 1 + 1, 2, none⟩ = some (.int .i64 0) := by rw [blk_cell hrs8]; rfl
      have y3 : w8.cell? ⟨w.heap.size + 1 + 1, 3, none⟩ = some (.int .i64 0) := by rw [blk_cell hrs8]; rfl
      have y4 : w8.cell? ⟨w.heap.size + 1 + 1, 4, none⟩ = some (.int .i64 0) := by rw [blk_cell hrs8]; rfl
      have z0 := blk_free hrs8 0
      have z1 := blk_free hrs8 1
      have z2 := blk_free hrs8 2
      have z3 := blk_free hrs8 3
      have z4 := blk_free hrs8 4
      have hR := blk_set (blk_set (blk_set (blk_set (blk_set hrs8 0 (.slice aB (progBlocks q.vars).length cB)) 1 (.slice aR rs.length cR)) 2 (.int .i64 (t8 : Int))) 3 (.int .i64 (v1 : Int))) 4 (.int .i64 (v2 : Int))
      have j0 := blk_cell hR 0
      have j1 := blk_cell hR 1
      have j2 := blk_cell hR 2
      have j3 := blk_cell hR 3
      have j4 := blk_cell hR 4
      have hB8 : Below w.heap.size w w8 := hBr.trans (ho8.below (B := w.heap.size) hBr.size (fun j hj e => by omega))
      go_wp2_with fail
      refine bodyPost_ret (v := GameV ⟨t8, (v1, v2)⟩ ⟨.slice aB (progBlocks q.vars).length cB, .slice aR rs.length cR, hdrs⟩) (by simp [results, Try.results15, go_sem, j0, j1, j2, j3, j4, GameV]) rfl ⟨⟨.slice aB (progBlocks q.vars).length cB, .slice aR rs.length cR, hdrs⟩, by rw [unhide HOW], ?_, unhide HFR, ?_⟩
      · rw [unhide HBL, unhide HRW]
        have ho9 : Only (· = w.heap.size + 1 + 1) w8 (((((w8.setCell ⟨w.heap.size + 1 + 1, 0, none⟩ (.slice aB (progBlocks q.vars).length cB)).setCell ⟨w.heap.size + 1 + 1, 1, none⟩ (.slice aR rs.length cR)).setCell ⟨w.heap.size + 1 + 1, 2, none⟩ (.int .i64 (t8 : Int))).setCell ⟨w.heap.size + 1 + 1, 3, none⟩ (.int .i64 (v1 : Int))).setCell ⟨w.heap.size + 1 + 1, 4, none⟩ (.int .i64 (v2 : Int))) := (((((Only.refl (· = w.heap.size + 1 + 1) w8).setAt 0 _).setAt 1 _).setAt 2 _).setAt 3 _).setAt 4 _
        refine hG8.rows.keep ho9 (fun j cs e hj ht hjb => ?_)
        subst hjb
        have he := blk_type hj hrs8
        rcases ht with h2 | h2 | ⟨h2, _⟩ <;> (rw [he] at h2; revert h2; decide)
      · exact ((((hB8.setCell (p := ⟨w.heap.size + 1 + 1, 0, none⟩) (by show w.heap.size ≤ w.heap.size + 1 + 1; omega) _).setCell (p := ⟨w.heap.size + 1 + 1, 1, none⟩) (by show w.heap.size ≤ w.heap.size + 1 + 1; omega) _).setCell (p := ⟨w.heap.size + 1 + 1, 2, none⟩) (by show w.heap.size ≤ w.heap.size + 1 + 1; omega) _).setCell (p := ⟨w.heap.size + 1 + 1, 3, none⟩) (by show w.heap.size ≤ w.heap.size + 1 + 1; omega) _).setCell (p := ⟨w.heap.size + 1 + 1, 4, none⟩) (by show w.heap.size ≤ w.heap.size + 1 + 1; omega) _
end Go.Proofs.Ytgipjjhkhfihpaa

namespace Go.Proofs.Ytgipjjhkhfihpaa
open Go.RowKit

/-! ### A duel is opened -/
def DOpenPost (q : QS) (l : List UInt8) (w : World) (e : Ending) (w' : World) : Prop :=
  Below w.heap.size w w' ∧ match readQ q l with
    | .inl (x, i) => e = .returned (.tuple #[.pointer none, .int .i64 (x : Int), .int .i64 (i : Int)])
    | .inr (kind, ls) => ∃ ss db gv, litsL ss = ls ∧ Tagged q kind l ss ∧ SBs ss ∧ e = .returned (.tuple #[.pointer (some ⟨db, 0, none⟩), .int .i64 0, .int .i64 0]) ∧
      GameAt w' db 63 (blW q kind) (rulesW kind ss) (openW q kind ss) gv ∧ w.heap.size ≤ db ∧ GFresh w.heap.size gv
theorem readQ_pos {q : QS} {l : List UInt8} {x i : Nat} (h : readQ q l = .inl (x, i)) : 0 < x := by
  unfold readQ at h
  split at h
  · injection h with h; injection h with h1 h2; omega
  · unfold firstQ at h
    split at h
    · injection h with h; injection h with h1 h2; omega
    · split at h
      · unfold goQ at h
        split at h
        · injection h with h; injection h with h1 h2; omega
        · split at h
          · cases h
          · injection h with h; injection h with h1 h2; omega
      · injection h with h; injection h with h1 h2; omega
theorem readQ_kind {q : QS} {l : List UInt8} {kind : Nat} {ls : List (Nat × Nat)} (h : readQ q l = .inr (kind, ls)) : kind = 1 ∨ kind = 2 := by
  unfold readQ at h
  split at h
  · cases h
  · unfold firstQ at h
    split at h
    · cases h
    · split at h
      · unfold goQ at h
        split at h
        · cases h
        · split at h
          · injection h with h
            injection h with h1 h2
            rw [← h1]; unfold kindOf; split
            · exact Or.inr rfl
            · exact Or.inl rfl
          · cases h
      · cases h
set_option maxRecDepth 100000 in
set_option maxHeartbeats 1600000 in
theorem dopen_any (lo b : Nat) (q : QS) (l : List UInt8) (w : World) (hP : ProgAt lo w b q) (hQ : QB q) :
    Calls Try.prog 9 #[.pointer (some ⟨b, 0, none⟩), .string ⟨l.toArray⟩] w fun e w' => DOpenPost q l w e w' := by
  obtain ⟨_, vV, vC, hfb, hV, hC⟩ := hP
  have hbw := blk_lt hfb
  have k0 : w.cell? ⟨b, 0, none⟩ = some vV := by rw [blk_cell hfb]; rfl
  have k1 : w.cell? ⟨b, 1, none⟩ = some vC := by rw [blk_cell hfb]; rfl
  obtain ⟨aV, cV, rfl⟩ := own_form hV
  obtain ⟨aC, cC, rfl⟩ := own_form hC
  go_enter Try.func9, Try.ntmps9
  go_wp2_with fail
  refine (formula_any b _ _ aV aC _ cV _ cC rfl rfl w hfb).mono ?_
  rintro e w0 ⟨rfl, hA⟩
  go_wp2_with fail
  have hfm := heap_alloc_new w0 (.cells #[.slice aV q.vars.length cV, .slice aC q.cl.length cC] 44)
  have hA1 : Below w.heap.size w (w0.alloc (.cells #[.slice aV q.vars.length cV, .slice aC q.cl.length cC] 44)) := hA.alloc hA.size _
  generalize w0.alloc (.cells #[.slice aV q.vars.length cV, .slice aC q.cl.length cC] 44) = u1 at *
  refine (pread_any q _ _ l _ (own_lo (lo := 0) (own_below hV hA1) (Nat.zero_le _)) (own_lo (lo := 0) (own_below hC hA1) (Nat.zero_le _)) hQ).mono ?_
  rintro e w1 ⟨hb1, hp⟩
  have hB1 : Below w.heap.size w w1 := hA1.trans (hb1.mono hA1.size)
  cases hq : readQ q l with
  | inl xi =>
    obtain ⟨x, i⟩ := xi
    rw [hq] at hp
    have hp' : e = .returned (.tuple #[.agg #[.int .i64 0, .slice none 0 0], .int .i64 (x : Int), .int .i64 (i : Int)]) := hp
    subst hp'
    have HC := hide hq
    have hx := readQ_pos hq
    have hxb : ((x : Int) != 0) = true := by rw [bne_iff_ne]; omega
    clear hp hq
    go_wp2_with fail
    go_ret3
    exact ⟨hB1.alloc hB1.size _, by rw [unhide HC]; rfl⟩
  | inr ks =>
    obtain ⟨kind, ls⟩ := ks
    rw [hq] at hp
    obtain ⟨ss, vS, hls, htg, hsb, rfl, hS⟩ := hp
    have HC := hide hq
    have hk := readQ_kind hq
    clear hq
    obtain ⟨aS, cS, rfl⟩ := own_form hS
    have hA2 : Below w1.heap.size w1 (w1.alloc (.cells #[.int .i64 (kind : Int), .slice aS ss.length cS] 51)) := (Below.refl _ _).alloc (Nat.le_refl _) _
    have hpr := heap_alloc_new w1 (.cells #[.int .i64 (kind : Int), .slice aS ss.length cS] 51)
    have hfm1 := (hb1.block _ (blk_lt hfm)).trans hfm
    have hfm2 := (hA2.block _ (blk_lt hfm1)).trans hfm1
    have hB2 := hB1.trans (hA2.mono hB1.size)
    have hV2 := own_lo (lo := 0) (own_below hV hB2) (Nat.zero_le _)
    have hS2 := own_lo (lo := 0) (own_below hS hA2) (Nat.zero_le _)
    have f0 : (w1.alloc (.cells #[.int .i64 (kind : Int), .slice aS ss.length cS] 51)).cell? ⟨w0.heap.size, 0, none⟩ = some (.slice aV q.vars.length cV) := by rw [blk_cell hfm2]; rfl
    have f1 : (w1.alloc (.cells #[.int .i64 (kind : Int), .slice aS ss.length cS] 51)).cell? ⟨w0.heap.size, 1, none⟩ = some (.slice aC q.cl.length cC) := by rw [blk_cell hfm2]; rfl
    have p0 : (w1.alloc (.cells #[.int .i64 (kind : Int), .slice aS ss.length cS] 51)).cell? ⟨w1.heap.size, 0, none⟩ = some (.int .i64 (kind : Int)) := by rw [blk_cell hpr]; rfl
    have p1 : (w1.alloc (.cells #[.int .i64 (kind : Int), .slice aS ss.length cS] 51)).cell? ⟨w1.heap.size, 1, none⟩ = some (.slice aS ss.length cS) := by rw [blk_cell hpr]; rfl
    have lf := blk_lt hfm2
    have lp := blk_lt hpr
    go_wp2_with fail
    refine (popen_any q ss aV aC aS cV cC cS kind _ hV2 hQ.vl hS2 hsb hk hQ).mono ?_
    rintro e w3 ⟨⟨vB, vR, hdrs⟩, rfl, hrows, hfr, hb3⟩
    have hB3 := hB2.trans (hb3.mono hB2.size)
    obtain ⟨aB, cB, hBf⟩ := own_form hrows.oB
    obtain ⟨aR, cR, hRf⟩ := own_form hrows.oR
    dsimp only at hBf hRf
    subst hBf hRf
    have HRO : Hid (∀ w', Below w3.heap.size w3 w' → GRows w' (blW q kind) (rulesW kind ss) ⟨.slice aB (blW q kind).length cB, .slice aR (rulesW kind ss).length cR, hdrs⟩) := hide (fun w' h => hrows.later h)
    have HFR : Hid (GFresh w.heap.size ⟨.slice aB (blW q kind).length cB, .slice aR (rulesW kind ss).length cR, hdrs⟩) := hide ⟨fun k hk => Nat.le_trans hB2.size (hfr.1 k hk), fun k hk => Nat.le_trans hB2.size (hfr.2.1 k hk), fun j hj k hk => Nat.le_trans hB2.size (hfr.2.2 j hj k hk)⟩
    have hs3 := hB3.size
    have HT := hide htg
    have HS := hide hsb
    clear hrows hfr htg hsb
    generalize hgo : openW q kind ss = go at *
    have HGO := hide hgo
    clear hgo
    obtain ⟨t0, v0, v1⟩ := go
    unfold GameV
    dsimp only
    go_wp2_with fail
    go_ret3
    have hA3 : Below w3.heap.size w3 (w3.alloc (.cells #[.slice aB (blW q kind).length cB, .slice aR (rulesW kind ss).length cR, .int .i64 (t0 : Int), .int .i64 (v0 : Int), .int .i64 (v1 : Int)] 63)) := (Below.refl _ _).alloc (Nat.le_refl _) _
    refine ⟨hB3.trans (hA3.mono hB3.size), ?_⟩
    rw [unhide HC]
    exact ⟨ss, w3.heap.size, ⟨.slice aB (blW q kind).length cB, .slice aR (rulesW kind ss).length cR, hdrs⟩, hls, unhide HT, unhide HS, rfl, by rw [unhide HGO]; exact ⟨heap_alloc_new _ _, Or.inr rfl, unhide HRO _ hA3⟩, hs3, unhide HFR⟩
end Go.Proofs.Ytgipjjhkhfihpaa

namespace Go.Proofs.Ytgipjjhkhfihpaa
open Go.RowKit

/-! ### A text, n times -/
def rep (s : List UInt8) (n : Nat) : List UInt8 := (List.replicate n s).flatten
theorem rep_zero (s : List UInt8) : rep s 0 = [] := rfl
theorem rep_succ (s : List UInt8) (n : Nat) : rep s (n + 1) = s ++ rep s n := by unfold rep; rw [List.replicate_succ, List.flatten_cons]
theorem rep_len (s : List UInt8) (n : Nat) : (rep s n).length = n * s.length := by
  induction n with
  | zero => simp [rep]
  | succ n ih => rw [rep_succ, List.length_append, ih]; rw [Nat.add_mul]; omega
theorem rep_add (s : List UInt8) (a b : Nat) : rep s (a + b) = rep s a ++ rep s b := by
  induction a with
  | zero => simp [rep]
  | succ a ih => rw [show a + 1 + b = (a + b) + 1 from by omega, rep_succ, rep_succ, ih, List.append_assoc]
theorem rep_two (s : List UInt8) (n : Nat) : rep (s ++ s) n = rep s (2 * n) := by
  induction n with
  | zero => rfl
  | succ n ih => rw [rep_succ, ih, show 2 * (n + 1) = (2 * n + 1) + 1 from by omega, rep_succ, rep_succ, List.append_assoc]
theorem rep_half (s t : List UInt8) (n : Nat) : t ++ rep s n = (if n % 2 = 1 then t ++ s else t) ++ rep (s ++ s) (n / 2) := by
  rw [rep_two]
  split
  · next h =>
    conv => lhs; rw [show n = 1 + 2 * (n / 2) from by omega, rep_add]
    rw [show rep s 1 = s from by simp [rep], List.append_assoc]
  · next h => conv => lhs; rw [show n = 2 * (n / 2) from by omega]

end Go.Proofs.Ytgipjjhkhfihpaa

namespace Go.Proofs.Ytgipjjhkhfihpaa
open Go.RowKit

/-! ### Texts without a newline, and of one line again and again -/
theorem cut_none (l : List UInt8) (h : (10 : UInt8) ∉ l) : ∀ a b, l.foldl (cutStep 10) (a, b) = (a, b ++ l) := by
  induction l with
  | nil => intro a b; simp
  | cons x l ih =>
    intro a b
    have hx : x ≠ 10 := fun e => h (by simp [e])
    rw [List.foldl_cons, show cutStep 10 (a, b) x = (a, b ++ [x]) from by unfold cutStep; simp [hx], ih (fun e => h (by simp [e]))]
    simp
theorem cut_line (r : List UInt8) (h : (10 : UInt8) ∉ r) (a : List (List UInt8)) (b : List UInt8) : (r ++ [10]).foldl (cutStep 10) (a, b) = (a ++ [b ++ r], []) := by
  rw [List.foldl_append, cut_none r h]
  unfold cutStep
  simp
theorem cut_lines (r : List UInt8) (h : (10 : UInt8) ∉ r) (n : Nat) : ∀ a, (rep (r ++ [10]) n).foldl (cutStep 10) (a, []) = (a ++ List.replicate n r, []) := by
  induction n with
  | zero => intro a; simp [rep]
  | succ n ih =>
    intro a
    rw [rep_succ, List.foldl_append, cut_line r h, ih, List.nil_append, List.replicate_succ, List.append_assoc]
    rfl
theorem cut_proof (h r : List UInt8) (h1 : (10 : UInt8) ∉ h) (h2 : (10 : UInt8) ∉ r) (n : Nat) : cutTo 10 (h ++ [10] ++ rep (r ++ [10]) n) = (h :: List.replicate n r, []) := by
  unfold cutTo
  rw [List.foldl_append, cut_line h h1, cut_lines r h2]
  simp
theorem rows_same (q : QS) (kind : Nat) (r : List UInt8) (c : Nat × Nat) (hl : ∀ ss : List (Nat × Nat), ss.length < 9000 → lineQ q kind ss r = some c) (hn : ∀ ss : List (Nat × Nat), 9000 ≤ ss.length → lineQ q kind ss r = none) : ∀ (m k n : Nat), k ≤ 9000 →
    rowsQ q kind (List.replicate k c) n (List.replicate m r) = if k + m ≤ 9000 then .inl (List.replicate (k + m) c) else .inr (n + (9000 - k) + 1) := by
  intro m
  induction m with
  | zero => intro k n hk; rw [List.replicate_zero, rowsQ, if_pos (by omega)]; rfl
  | succ m ih =>
    intro k n hk
    rw [List.replicate_succ, rowsQ]
    by_cases hlt : k < 9000
    · rw [hl _ (by simpa using hlt)]
      dsimp only
      rw [← List.replicate_succ', ih (k + 1) (n + 1) (by omega)]
      rw [show k + 1 + m = k + (m + 1) from by omega]
      split
      · rfl
      · congr 1; omega
    · have hk9 : k = 9000 := by omega
      subst hk9
      rw [hn _ (Nat.le_of_eq List.length_replicate.symm), if_neg (by omega)]
theorem line_out (q : QS) (kind : Nat) (r : List UInt8) (ss : List (Nat × Nat)) (h : 9000 ≤ ss.length) : lineQ q kind ss r = none := by unfold lineQ; rw [if_pos h]
/-- The formula of the empty clause, and the empty one. -/
def qC : QS := qFinish ⟨[], [(0, 0)]⟩
theorem line_a (ss : List (Nat × Nat)) (h : ss.length < 9000) (q : QS) (hq : q.cl = [(0, 0)]) : lineQ q 1 ss [97, 32, 49] = some (0, 0) := by
  unfold lineQ
  rw [if_neg (by omega), if_pos (by decide), show cutAt 32 [97, 32, 49] = [[97], [49]] from by decide]
  show stepQ q 1 ss [97] [[49]] = some (0, 0)
  unfold stepQ
  rw [if_pos rfl]
  unfold axiomQ
  rw [if_pos rfl, hq]
  decide
theorem line_c (ss : List (Nat × Nat)) (h : ss.length < 9000) (q : QS) (hq : q.cl = []) : lineQ q 2 ss [99] = some (0, 0) := by
  unfold lineQ
  rw [if_neg (by omega), if_pos (by decide), show cutAt 32 [99] = [[99]] from by decide]
  show stepQ q 2 ss [99] [] = some (0, 0)
  unfold stepQ
  rw [if_neg (by decide), if_pos rfl]
  unfold cubeStepQ
  rw [if_pos rfl, cubeQ, hq]
  rfl
theorem closed_rep (n : Nat) (hn : 0 < n) : closedQ (List.replicate n ((0, 0) : Nat × Nat)) = true := by
  unfold closedQ
  rw [List.getLast?_replicate, if_neg (by omega)]
  rfl
theorem read_rep (q : QS) (kind : Nat) (hd r : List UInt8) (hk : (kind = 1 ∧ hd = sFalse) ∨ (kind = 2 ∧ hd = sTrue)) (hr : (10 : UInt8) ∉ r) (hl : ∀ ss : List (Nat × Nat), ss.length < 9000 → lineQ q kind ss r = some (0, 0)) (n : Nat) (hn : 0 < n) (hlen : (hd ++ [10] ++ rep (r ++ [10]) n).length ≤ 262144) :
    readQ q (hd ++ [10] ++ rep (r ++ [10]) n) = if n ≤ 9000 then .inr (kind, List.replicate n (0, 0)) else .inl (5, 9002) := by
  have hh : (10 : UInt8) ∉ hd := by rcases hk with ⟨_, rfl⟩ | ⟨_, rfl⟩ <;> decide
  have hkd : kindOf hd = kind := by rcases hk with ⟨rfl, rfl⟩ | ⟨rfl, rfl⟩ <;> decide
  have hor : hd = sTrue ∨ hd = sFalse := by rcases hk with ⟨_, h⟩ | ⟨_, h⟩ <;> simp [h]
  unfold readQ
  rw [if_neg (by omega), cut_proof hd r hh hr n]
  show (if hd = sTrue ∨ hd = sFalse then goQ q (decide (([] : List UInt8) = [])) ((List.replicate n r).length + 1) (kindOf hd) [] 1 (List.replicate n r) else .inl (5, 1)) = _
  rw [if_pos hor, hkd]
  unfold goQ
  have h := rows_same q kind r (0, 0) hl (fun ss h => line_out q kind r ss h) n 0 1 (by omega)
  rw [List.replicate_zero] at h
  rw [h, Nat.zero_add]
  by_cases h9 : n ≤ 9000
  · rw [if_pos h9, if_pos h9]
    dsimp only
    rw [if_pos ⟨by decide, closed_rep n hn⟩]
  · rw [if_neg h9, if_neg h9]
theorem read_x (q : QS) (n : Nat) (_ : 0 < n) : readQ q (rep [120] n) = if 262144 < n then .inl (1, 0) else .inl (5, 1) := by
  have hl : (rep [120] n).length = n := by rw [rep_len]; simp
  have hno : (10 : UInt8) ∉ rep [120] n := by
    unfold rep
    intro h
    obtain ⟨l, hl, hx⟩ := List.mem_flatten.1 h
    rw [List.mem_replicate] at hl
    rw [hl.2] at hx
    revert hx; decide
  unfold readQ
  rw [hl]
  split
  · rfl
  · unfold cutTo
    rw [cut_none _ hno]
    rfl
end Go.Proofs.Ytgipjjhkhfihpaa

namespace Go.Proofs.Ytgipjjhkhfihpaa
open Go.RowKit

set_option maxRecDepth 100000 in
set_option maxHeartbeats 1600000 in
theorem times_any (s : List UInt8) (n : Nat) (w : World) (hs : s.length ≤ 16) (hn : n ≤ 1048576) :
    Calls Try.prog 11 #[.string ⟨s.toArray⟩, .int .i64 n] w fun e w' => e = .returned (.string ⟨(rep s n).toArray⟩) ∧ w' = w := by
  go_enter Try.func11, Try.ntmps11
  go_wp2_with fail

  go_loopg [0, 1, 5] (n + 1) (fun m sv nv tv wx => ∃ (k : Nat) (s' t' : List UInt8), sv = .string ⟨s'.toArray⟩ ∧ nv = .int .i64 k ∧ tv = .string ⟨t'.toArray⟩ ∧ k + 1 ≤ m ∧ k ≤ 1048576 ∧ rep s n = t' ++ rep s' k ∧ s'.length * k ≤ 16777216 ∧ s'.length ≤ 33554432 ∧ t'.length + s'.length * k ≤ 16777216 ∧ wx = w)
  case atStart => exact ⟨n, s, [], rfl, rfl, rfl, by omega, hn, rfl, Nat.le_trans (Nat.mul_le_mul hs hn) (by decide), by omega, by simpa using Nat.le_trans (Nat.mul_le_mul hs hn) (by decide), rfl⟩
  case round =>
    obtain ⟨k, s', t', rfl, rfl, rfl, hkm, hk6, hrep, hsk, hs', ht', hwx⟩ := hrel
    subst hwx
    have HREP := hide hrep
    clear hrep
    by_cases hk0 : k = 0
    · subst hk0
      have HF : Hid (rep s n = t') := hide (by rw [unhide HREP, rep_zero, List.append_nil])
      go_wp2_with fail
      go_ret
      exact ⟨by rw [unhide HF]; rfl, rfl⟩
    · have hd : decide ((0 : Int) < (k : Int)) = true := decide_eq_true (by omega)
      have hd2 : decide (0 < k) = true := decide_eq_true (by omega)
      have HHF := hide (rep_half s' t' k)
      have hkl : s'.length ≤ s'.length * k := Nat.le_mul_of_pos_right _ (by omega)
      have hsum : (s' ++ s').length * (k / 2) ≤ s'.length * k := by
        rw [List.length_append, ← Nat.two_mul, Nat.mul_comm 2, Nat.mul_assoc]
        exact Nat.mul_le_mul_left _ (by omega)
      have HA1 := hide (ba_append s' s')
      have HA2 := hide (ba_append t' s')
      by_cases hodd : k % 2 = 1
      · have hq : ((k : Int) % 2 == 1) = true := by rw [beq_iff_eq]; omega
        have HR : Hid (rep s n = (t' ++ s') ++ rep (s' ++ s') (k / 2)) := hide (by rw [unhide HREP, unhide HHF, if_pos hodd])
        have hsum2 : (t' ++ s').length + (s' ++ s').length * (k / 2) ≤ 16777216 := by
          have e1 : s'.length * k = s'.length + s'.length * (2 * (k / 2)) := by
            conv => lhs; rw [show k = 1 + 2 * (k / 2) from by omega, Nat.mul_add, Nat.mul_one]
          have e2 : (s' ++ s').length * (k / 2) = s'.length * (2 * (k / 2)) := by
            rw [List.length_append, ← Nat.two_mul, Nat.mul_comm 2 s'.length, Nat.mul_assoc]
          rw [List.length_append, e2]; omega
        clear hodd
        go_wp2_with fail

        go_roundg (k / 2 + 1)
        case measure => omega
        case rel => exact ⟨k / 2, s' ++ s', t' ++ s', by rw [unhide HA1], congrArg (Value.int .i64) (by omega), by rw [unhide HA2], by omega, by omega, unhide HR, by omega, by simp; omega, hsum2, rfl⟩
      · have hq : ((k : Int) % 2 == 1) = false := by rw [beq_eq_false_iff_ne]; omega
        have HR : Hid (rep s n = t' ++ rep (s' ++ s') (k / 2)) := hide (by rw [unhide HREP, unhide HHF, if_neg hodd])
        clear hodd
        go_wp2_with fail
        go_roundg (k / 2 + 1)
        case measure => omega
        case rel => exact ⟨k / 2, s' ++ s', t', by rw [unhide HA1], congrArg (Value.int .i64) (by omega), rfl, by omega, by omega, unhide HR, by omega, by simp; omega, by omega, rfl⟩
end Go.Proofs.Ytgipjjhkhfihpaa

namespace Go.Proofs.Ytgipjjhkhfihpaa
open Go.RowKit

structure Lim where
  s : List UInt8
  proof : List UInt8
  kind : Nat
  e : Nat
  line : Nat
def hFalse : List UInt8 := [112, 114, 111, 111, 102, 32, 102, 97, 108, 115, 101, 10]
def hTrue : List UInt8 := [112, 114, 111, 111, 102, 32, 116, 114, 117, 101, 10]
def limOf (r : Nat) : Lim :=
  if r = 0 then ⟨[], rep [120] 262144, 0, 5, 1⟩ else if r = 1 then ⟨[], rep [120] 262145, 0, 1, 0⟩ else if r = 2 then ⟨[99, 10], hFalse ++ rep [97, 32, 49, 10] 9000, 1, 0, 0⟩
  else if r = 3 then ⟨[99, 10], hFalse ++ rep [97, 32, 49, 10] 9001, 0, 5, 9002⟩ else if r = 4 then ⟨[], hTrue ++ rep [99, 10] 9000, 2, 0, 0⟩ else ⟨[], hTrue ++ rep [99, 10] 9001, 0, 5, 9002⟩
def LimV (l : Lim) : Value := .agg #[.string ⟨l.s.toArray⟩, .string ⟨l.proof.toArray⟩, .int .i64 (l.kind : Int), .int .i64 (l.e : Int), .int .i64 (l.line : Int)]
theorem lim_0 : limOf 0 = ⟨[], rep [120] 262144, 0, 5, 1⟩ := rfl
set_option maxRecDepth 100000 in
set_option maxHeartbeats 1600000 in
theorem limits_0 (w : World) : Calls Try.prog 5 #[.int .i64 0] w fun e w' => e = .returned (LimV (limOf 0)) ∧ Below w.heap.size w w' := by
  have hA : Below w.heap.size w (w.alloc (.cells #[.string ⟨#[]⟩, .string ⟨#[]⟩, .int .i64 0, .int .i64 0, .int .i64 0] 24)) := (Below.refl _ _).alloc (Nat.le_refl _) _
  have hrs := heap_alloc_new w (.cells #[.string ⟨#[]⟩, .string ⟨#[]⟩, .int .i64 0, .int .i64 0, .int .i64 0] 24)
  have HL := hide lim_0
  have HT : Hid (∀ w, Calls Try.prog 11 #[.string ⟨#[120]⟩, .int .i64 262144] w fun e w' => e = .returned (.string ⟨(rep [120] 262144).toArray⟩) ∧ w' = w) := hide (fun w => times_any [120] 262144 w (by decide) (by decide))
  have hTl : (rep [120] 262144).length ≤ 1048576 := by rw [rep_len]; decide
  generalize rep [120] 262144 = T at *
  go_enter Try.func5, Try.ntmps5
  go_wp2_with fail
  refine (unhide HT _).mono ?_
  rintro e w1 ⟨rfl, hw1⟩
  subst hw1
  have r0 := blk_cell hrs 0
  have r1 := blk_cell hrs 1
  have r2 := blk_cell hrs 2
  have r3 := blk_cell hrs 3
  have r4 := blk_cell hrs 4
  have z0 := blk_free hrs 0
  have z1 := blk_free hrs 1
  have z2 := blk_free hrs 2
  have z3 := blk_free hrs 3
  have z4 := blk_free hrs 4
  have lrs := blk_lt hrs
  go_wp2_with fail
  have hN := heap_alloc_new w (.cells #[.string ⟨#[]⟩, .string ⟨T.toArray⟩, .int .i64 0, .int .i64 5, .int .i64 1] 24)
  have j0 := blk_cell hN 0
  have j1 := blk_cell hN 1
  have j2 := blk_cell hN 2
  have j3 := blk_cell hN 3
  have j4 := blk_cell hN 4
  refine bodyPost_ret (v := LimV ⟨[], T, 0, 5, 1⟩) (by simp [results, Try.results5, go_sem, LimV, j0, j1, j2, j3, j4]) rfl ⟨by rw [unhide HL], (Below.refl _ _).alloc (Nat.le_refl _) _⟩
theorem lim_1 : limOf 1 = ⟨[], rep [120] 262145, 0, 1, 0⟩ := rfl
set_option maxRecDepth 100000 in
set_option maxHeartbeats 1600000 in
theorem limits_1 (w : World) : Calls Try.prog 5 #[.int .i64 1] w fun e w' => e = .returned (LimV (limOf 1)) ∧ Below w.heap.size w w' := by
  have hA : Below w.heap.size w (w.alloc (.cells #[.string ⟨#[]⟩, .string ⟨#[]⟩, .int .i64 0, .int .i64 0, .int .i64 0] 24)) := (Below.refl _ _).alloc (Nat.le_refl _) _
  have hrs := heap_alloc_new w (.cells #[.string ⟨#[]⟩, .string ⟨#[]⟩, .int .i64 0, .int .i64 0, .int .i64 0] 24)
  have HL := hide lim_1
  have HT : Hid (∀ w, Calls Try.prog 11 #[.string ⟨#[120]⟩, .int .i64 262145] w fun e w' => e = .returned (.string ⟨(rep [120] 262145).toArray⟩) ∧ w' = w) := hide (fun w => times_any [120] 262145 w (by decide) (by decide))
  have hTl : (rep [120] 262145).length ≤ 1048576 := by rw [rep_len]; decide
  generalize rep [120] 262145 = T at *
  go_enter Try.func5, Try.ntmps5
  go_wp2_with fail
  refine (unhide HT _).mono ?_
  rintro e w1 ⟨rfl, hw1⟩
  subst hw1
  have r0 := blk_cell hrs 0
  have r1 := blk_cell hrs 1
  have r2 := blk_cell hrs 2
  have r3 := blk_cell hrs 3
  have r4 := blk_cell hrs 4
  have z0 := blk_free hrs 0
  have z1 := blk_free hrs 1
  have z2 := blk_free hrs 2
  have z3 := blk_free hrs 3
  have z4 := blk_free hrs 4
  have lrs := blk_lt hrs
  go_wp2_with fail
  have hN := heap_alloc_new w (.cells #[.string ⟨#[]⟩, .string ⟨T.toArray⟩, .int .i64 0, .int .i64 1, .int .i64 0] 24)
  have j0 := blk_cell hN 0
  have j1 := blk_cell hN 1
  have j2 := blk_cell hN 2
  have j3 := blk_cell hN 3
  have j4 := blk_cell hN 4
  refine bodyPost_ret (v := LimV ⟨[], T, 0, 1, 0⟩) (by simp [results, Try.results5, go_sem, LimV, j0, j1, j2, j3, j4]) rfl ⟨by rw [unhide HL], (Below.refl _ _).alloc (Nat.le_refl _) _⟩
theorem lim_2 : limOf 2 = ⟨[99, 10], hFalse ++ rep [97, 32, 49, 10] 9000, 1, 0, 0⟩ := rfl
set_option maxRecDepth 100000 in
set_option maxHeartbeats 1600000 in
theorem limits_2 (w : World) : Calls Try.prog 5 #[.int .i64 2] w fun e w' => e = .returned (LimV (limOf 2)) ∧ Below w.heap.size w w' := by
  have hA : Below w.heap.size w (w.alloc (.cells #[.string ⟨#[]⟩, .string ⟨#[]⟩, .int .i64 0, .int .i64 0, .int .i64 0] 24)) := (Below.refl _ _).alloc (Nat.le_refl _) _
  have hrs := heap_alloc_new w (.cells #[.string ⟨#[]⟩, .string ⟨#[]⟩, .int .i64 0, .int .i64 0, .int .i64 0] 24)
  have HL := hide lim_2
  have HT : Hid (∀ w, Calls Try.prog 11 #[.string ⟨#[97, 32, 49, 10]⟩, .int .i64 9000] w fun e w' => e = .returned (.string ⟨(rep [97, 32, 49, 10] 9000).toArray⟩) ∧ w' = w) := hide (fun w => times_any [97, 32, 49, 10] 9000 w (by decide) (by decide))
  have hTl : (rep [97, 32, 49, 10] 9000).length ≤ 1048576 := by rw [rep_len]; decide
  generalize rep [97, 32, 49, 10] 9000 = T at *
  have HAP : Hid (ByteArray.mk #[112, 114, 111, 111, 102, 32, 102, 97, 108, 115, 101, 10] ++ ByteArray.mk T.toArray = ⟨(hFalse ++ T).toArray⟩) := hide (ba_append hFalse T)
  go_enter Try.func5, Try.ntmps5
  go_wp2_with fail
  refine (unhide HT _).mono ?_
  rintro e w1 ⟨rfl, hw1⟩
  subst hw1
  have r0 := blk_cell hrs 0
  have r1 := blk_cell hrs 1
  have r2 := blk_cell hrs 2
  have r3 := blk_cell hrs 3
  have r4 := blk_cell hrs 4
  have z0 := blk_free hrs 0
  have z1 := blk_free hrs 1
  have z2 := blk_free hrs 2
  have z3 := blk_free hrs 3
  have z4 := blk_free hrs 4
  have lrs := blk_lt hrs
  go_wp2_with fail
  rw [unhide HAP]
  have hN := heap_alloc_new w (.cells #[.string ⟨#[99, 10]⟩, .string ⟨(hFalse ++ T).toArray⟩, .int .i64 1, .int .i64 0, .int .i64 0] 24)
  have j0 := blk_cell hN 0
  have j1 := blk_cell hN 1
  have j2 := blk_cell hN 2
  have j3 := blk_cell hN 3
  have j4 := blk_cell hN 4
  refine bodyPost_ret (v := LimV ⟨[99, 10], (hFalse ++ T), 1, 0, 0⟩) (by simp [results, Try.results5, go_sem, LimV, j0, j1, j2, j3, j4]) rfl ⟨by rw [unhide HL], (Below.refl _ _).alloc (Nat.le_refl _) _⟩
theorem lim_3 : limOf 3 = ⟨[99, 10], hFalse ++ rep [97, 32, 49, 10] 9001, 0, 5, 9002⟩ := rfl
set_option maxRecDepth 100000 in
set_option maxHeartbeats 1600000 in
theorem limits_3 (w : World) : Calls Try.prog 5 #[.int .i64 3] w fun e w' => e = .returned (LimV (limOf 3)) ∧ Below w.heap.size w w' := by
  have hA : Below w.heap.size w (w.alloc (.cells #[.string ⟨#[]⟩, .string ⟨#[]⟩, .int .i64 0, .int .i64 0, .int .i64 0] 24)) := (Below.refl _ _).alloc (Nat.le_refl _) _
  have hrs := heap_alloc_new w (.cells #[.string ⟨#[]⟩, .string ⟨#[]⟩, .int .i64 0, .int .i64 0, .int .i64 0] 24)
  have HL := hide lim_3
  have HT : Hid (∀ w, Calls Try.prog 11 #[.string ⟨#[97, 32, 49, 10]⟩, .int .i64 9001] w fun e w' => e = .returned (.string ⟨(rep [97, 32, 49, 10] 9001).toArray⟩) ∧ w' = w) := hide (fun w => times_any [97, 32, 49, 10] 9001 w (by decide) (by decide))
  have hTl : (rep [97, 32, 49, 10] 9001).length ≤ 1048576 := by rw [rep_len]; decide
  generalize rep [97, 32, 49, 10] 9001 = T at *
  have HAP : Hid (ByteArray.mk #[112, 114, 111, 111, 102, 32, 102, 97, 108, 115, 101, 10] ++ ByteArray.mk T.toArray = ⟨(hFalse ++ T).toArray⟩) := hide (ba_append hFalse T)
  go_enter Try.func5, Try.ntmps5
  go_wp2_with fail
  refine (unhide HT _).mono ?_
  rintro e w1 ⟨rfl, hw1⟩
  subst hw1
  have r0 := blk_cell hrs 0
  have r1 := blk_cell hrs 1
  have r2 := blk_cell hrs 2
  have r3 := blk_cell hrs 3
  have r4 := blk_cell hrs 4
  have z0 := blk_free hrs 0
  have z1 := blk_free hrs 1
  have z2 := blk_free hrs 2
  have z3 := blk_free hrs 3
  have z4 := blk_free hrs 4
  have lrs := blk_lt hrs
  go_wp2_with fail
  rw [unhide HAP]
  have hN := heap_alloc_new w (.cells #[.string ⟨#[99, 10]⟩, .string ⟨(hFalse ++ T).toArray⟩, .int .i64 0, .int .i64 5, .int .i64 9002] 24)
  have j0 := blk_cell hN 0
  have j1 := blk_cell hN 1
  have j2 := blk_cell hN 2
  have j3 := blk_cell hN 3
  have j4 := blk_cell hN 4
  refine bodyPost_ret (v := LimV ⟨[99, 10], (hFalse ++ T), 0, 5, 9002⟩) (by simp [results, Try.results5, go_sem, LimV, j0, j1, j2, j3, j4]) rfl ⟨by rw [unhide HL], (Below.refl _ _).alloc (Nat.le_refl _) _⟩
theorem lim_4 : limOf 4 = ⟨[], hTrue ++ rep [99, 10] 9000, 2, 0, 0⟩ := rfl
set_option maxRecDepth 100000 in
set_option maxHeartbeats 1600000 in
theorem limits_4 (w : World) : Calls Try.prog 5 #[.int .i64 4] w fun e w' => e = .returned (LimV (limOf 4)) ∧ Below w.heap.size w w' := by
  have hA : Below w.heap.size w (w.alloc (.cells #[.string ⟨#[]⟩, .string ⟨#[]⟩, .int .i64 0, .int .i64 0, .int .i64 0] 24)) := (Below.refl _ _).alloc (Nat.le_refl _) _
  have hrs := heap_alloc_new w (.cells #[.string ⟨#[]⟩, .string ⟨#[]⟩, .int .i64 0, .int .i64 0, .int .i64 0] 24)
  have HL := hide lim_4
  have HT : Hid (∀ w, Calls Try.prog 11 #[.string ⟨#[99, 10]⟩, .int .i64 9000] w fun e w' => e = .returned (.string ⟨(rep [99, 10] 9000).toArray⟩) ∧ w' = w) := hide (fun w => times_any [99, 10] 9000 w (by decide) (by decide))
  have hTl : (rep [99, 10] 9000).length ≤ 1048576 := by rw [rep_len]; decide
  generalize rep [99, 10] 9000 = T at *
  have HAP : Hid (ByteArray.mk #[112, 114, 111, 111, 102, 32, 116, 114, 117, 101, 10] ++ ByteArray.mk T.toArray = ⟨(hTrue ++ T).toArray⟩) := hide (ba_append hTrue T)
  go_enter Try.func5, Try.ntmps5
  go_wp2_with fail
  refine (unhide HT _).mono ?_
  rintro e w1 ⟨rfl, hw1⟩
  subst hw1
  have r0 := blk_cell hrs 0
  have r1 := blk_cell hrs 1
  have r2 := blk_cell hrs 2
  have r3 := blk_cell hrs 3
  have r4 := blk_cell hrs 4
  have z0 := blk_free hrs 0
  have z1 := blk_free hrs 1
  have z2 := blk_free hrs 2
  have z3 := blk_free hrs 3
  have z4 := blk_free hrs 4
  have lrs := blk_lt hrs
  go_wp2_with fail
  rw [unhide HAP]
  have hN := heap_alloc_new w (.cells #[.string ⟨#[]⟩, .string ⟨(hTrue ++ T).toArray⟩, .int .i64 2, .int .i64 0, .int .i64 0] 24)
  have j0 := blk_cell hN 0
  have j1 := blk_cell hN 1
  have j2 := blk_cell hN 2
  have j3 := blk_cell hN 3
  have j4 := blk_cell hN 4
  refine bodyPost_ret (v := LimV ⟨[], (hTrue ++ T), 2, 0, 0⟩) (by simp [results, Try.results5, go_sem, LimV, j0, j1, j2, j3, j4]) rfl ⟨by rw [unhide HL], (Below.refl _ _).alloc (Nat.le_refl _) _⟩
theorem lim_5 : limOf 5 = ⟨[], hTrue ++ rep [99, 10] 9001, 0, 5, 9002⟩ := rfl
set_option maxRecDepth 100000 in
set_option maxHeartbeats 1600000 in
theorem limits_5 (w : World) : Calls Try.prog 5 #[.int .i64 5] w fun e w' => e = .returned (LimV (limOf 5)) ∧ Below w.heap.size w w' := by
  have hA : Below w.heap.size w (w.alloc (.cells #[.string ⟨#[]⟩, .string ⟨#[]⟩, .int .i64 0, .int .i64 0, .int .i64 0] 24)) := (Below.refl _ _).alloc (Nat.le_refl _) _
  have hrs := heap_alloc_new w (.cells #[.string ⟨#[]⟩, .string ⟨#[]⟩, .int .i64 0, .int .i64 0, .int .i64 0] 24)
  have HL := hide lim_5
  have HT : Hid (∀ w, Calls Try.prog 11 #[.string ⟨#[99, 10]⟩, .int .i64 9001] w fun e w' => e = .returned (.string ⟨(rep [99, 10] 9001).toArray⟩) ∧ w' = w) := hide (fun w => times_any [99, 10] 9001 w (by decide) (by decide))
  have hTl : (rep [99, 10] 9001).length ≤ 1048576 := by rw [rep_len]; decide
  generalize rep [99, 10] 9001 = T at *
  have HAP : Hid (ByteArray.mk #[112, 114, 111, 111, 102, 32, 116, 114, 117, 101, 10] ++ ByteArray.mk T.toArray = ⟨(hTrue ++ T).toArray⟩) := hide (ba_append hTrue T)
  go_enter Try.func5, Try.ntmps5
  go_wp2_with fail
  refine (unhide HT _).mono ?_
  rintro e w1 ⟨rfl, hw1⟩
  subst hw1
  have r0 := blk_cell hrs 0
  have r1 := blk_cell hrs 1
  have r2 := blk_cell hrs 2
  have r3 := blk_cell hrs 3
  have r4 := blk_cell hrs 4
  have z0 := blk_free hrs 0
  have z1 := blk_free hrs 1
  have z2 := blk_free hrs 2
  have z3 := blk_free hrs 3
  have z4 := blk_free hrs 4
  have lrs := blk_lt hrs
  go_wp2_with fail
  rw [unhide HAP]
  have hN := heap_alloc_new w (.cells #[.string ⟨#[]⟩, .string ⟨(hTrue ++ T).toArray⟩, .int .i64 0, .int .i64 5, .int .i64 9002] 24)
  have j0 := blk_cell hN 0
  have j1 := blk_cell hN 1
  have j2 := blk_cell hN 2
  have j3 := blk_cell hN 3
  have j4 := blk_cell hN 4
  refine bodyPost_ret (v := LimV ⟨[], (hTrue ++ T), 0, 5, 9002⟩) (by simp [results, Try.results5, go_sem, LimV, j0, j1, j2, j3, j4]) rfl ⟨by rw [unhide HL], (Below.refl _ _).alloc (Nat.le_refl _) _⟩
theorem limits_any (r : Nat) (hr : r < 6) (w : World) :
    Calls Try.prog 5 #[.int .i64 r] w fun e w' => e = .returned (LimV (limOf r)) ∧ Below w.heap.size w w' := by
  match r, hr with
  | 0, _ => exact limits_0 w
  | 1, _ => exact limits_1 w
  | 2, _ => exact limits_2 w
  | 3, _ => exact limits_3 w
  | 4, _ => exact limits_4 w
  | 5, _ => exact limits_5 w
end Go.Proofs.Ytgipjjhkhfihpaa

namespace Go.Proofs.Ytgipjjhkhfihpaa
open Go.RowKit

/-! ### What is answered at the limits -/
structure LimOk (l : Lim) (q : QS) : Prop where
  load : loadSpec l.s = .inr q
  read : (0 < l.e ∧ l.kind = 0 ∧ readQ q l.proof = .inl (l.e, l.line)) ∨ (l.e = 0 ∧ l.line = 0 ∧ ∃ ls, readQ q l.proof = .inr (l.kind, ls))
theorem load_e : loadSpec [] = .inr ⟨[], []⟩ := by rfl
theorem load_c : loadSpec [99, 10] = .inr ⟨[], [(0, 0)]⟩ := by rfl
theorem rep_a (n : Nat) : hFalse ++ rep [97, 32, 49, 10] n = sFalse ++ [10] ++ rep ([97, 32, 49] ++ [10]) n := rfl
theorem rep_c (n : Nat) : hTrue ++ rep [99, 10] n = sTrue ++ [10] ++ rep ([99] ++ [10]) n := rfl
theorem lim_ok (r : Nat) (hr : r < 6) : ∃ q, LimOk (limOf r) q := by
  match r, hr with
  | 0, _ =>
    refine ⟨⟨[], []⟩, ⟨?_, Or.inl ⟨?_, ?_, ?_⟩⟩⟩ <;> rw [lim_0]
    · exact load_e
    · decide
    · rw [read_x _ _ (by decide), if_neg (by decide)]
  | 1, _ =>
    refine ⟨⟨[], []⟩, ⟨?_, Or.inl ⟨?_, ?_, ?_⟩⟩⟩ <;> rw [lim_1]
    · exact load_e
    · decide
    · rw [read_x _ _ (by decide), if_pos (by decide)]
  | 2, _ =>
    refine ⟨⟨[], [(0, 0)]⟩, ⟨?_, Or.inr ⟨?_, ?_, List.replicate 9000 (0, 0), ?_⟩⟩⟩ <;> rw [lim_2]
    · exact load_c
    · rw [rep_a, read_rep _ 1 sFalse _ (Or.inl ⟨rfl, rfl⟩) (by decide) (fun ss h => line_a ss h _ rfl) 9000 (by decide) (by rw [List.length_append, rep_len]; decide), if_pos (by decide)]
  | 3, _ =>
    refine ⟨⟨[], [(0, 0)]⟩, ⟨?_, Or.inl ⟨?_, ?_, ?_⟩⟩⟩ <;> rw [lim_3]
    · exact load_c
    · decide
    · rw [rep_a, read_rep _ 1 sFalse _ (Or.inl ⟨rfl, rfl⟩) (by decide) (fun ss h => line_a ss h _ rfl) 9001 (by decide) (by rw [List.length_append, rep_len]; decide), if_neg (by decide)]
  | 4, _ =>
    refine ⟨⟨[], []⟩, ⟨?_, Or.inr ⟨?_, ?_, List.replicate 9000 (0, 0), ?_⟩⟩⟩ <;> rw [lim_4]
    · exact load_e
    · rw [rep_c, read_rep _ 2 sTrue _ (Or.inr ⟨rfl, rfl⟩) (by decide) (fun ss h => line_c ss h _ rfl) 9000 (by decide) (by rw [List.length_append, rep_len]; decide), if_pos (by decide)]
  | 5, _ =>
    refine ⟨⟨[], []⟩, ⟨?_, Or.inl ⟨?_, ?_, ?_⟩⟩⟩ <;> rw [lim_5]
    · exact load_e
    · decide
    · rw [rep_c, read_rep _ 2 sTrue _ (Or.inr ⟨rfl, rfl⟩) (by decide) (fun ss h => line_c ss h _ rfl) 9001 (by decide) (by rw [List.length_append, rep_len]; decide), if_neg (by decide)]
end Go.Proofs.Ytgipjjhkhfihpaa
