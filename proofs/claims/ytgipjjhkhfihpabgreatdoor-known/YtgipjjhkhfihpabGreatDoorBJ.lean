import Derived.Test.YtgipjjhkhfihpabGreatDoorBH
import Derived.Test.YtgipjjhkhfihpabGreatDoorBI
import Derived.Test.YtgipjjhkhfihpabGreatDoorBF
import Derived.Test.YtgipjjhkhfihpabGreatDoorBB
import Derived.Test.YtgipjjhkhfihpabGreatDoorBG
namespace Go.Proofs.YtgipjjhkhfihpabGreatDoor
open Go.RowKit

/-! ### A duel's Turn, Move, Values -/
set_option maxRecDepth 100000 in
set_option maxHeartbeats 1600000 in
theorem dturn_any (b : Nat) (t : TypeId) (bl : BL) (rs : List RuleP) (g : GS) (gv : GV) (w : World) (hG : GameAt w b t bl rs g gv) :
    Calls Tryz.prog 21 #[.pointer (some ⟨b, 0, none⟩)] w fun e w' => e = .returned (.int .i64 (g.turn : Int)) ∧ w' = w := by
  have lb := blk_lt hG.fb
  go_enter Tryz.func21, Tryz.ntmps21
  go_wp2_with fail
  refine (gturn_any b t bl rs g gv w hG).mono ?_
  rintro e w1 ⟨rfl, hw1⟩
  subst hw1
  go_wp2_with fail
  go_ret
  exact ⟨rfl, rfl⟩
set_option maxRecDepth 100000 in
set_option maxHeartbeats 1600000 in
theorem dvalues_any (b : Nat) (t : TypeId) (bl : BL) (rs : List RuleP) (g : GS) (gv : GV) (w : World) (hG : GameAt w b t bl rs g gv) (hp : g.vals.1 < 512 ∧ g.vals.2 < 512) :
    Calls Tryz.prog 23 #[.pointer (some ⟨b, 0, none⟩)] w fun e w' => ∃ k, e = .returned (.slice (some ⟨k, 0, none⟩) 8 8) ∧ w.heap.size ≤ k ∧ w'.heap[k]? = some (.cells (valTo g.vals 8).toArray 3 (0, 0)) ∧ Below w.heap.size w w' := by
  have lb := blk_lt hG.fb
  go_enter Tryz.func23, Tryz.ntmps23
  go_wp2_with fail
  refine (gvalues_any b t bl rs g gv w hG hp).mono ?_
  rintro e w1 ⟨k, rfl, h1, h2, h3⟩
  go_wp2_with fail
  go_ret
  exact ⟨k, rfl, h1, h2, h3⟩
set_option maxRecDepth 100000 in
set_option maxHeartbeats 1600000 in
theorem dmove_any (b : Nat) (t : TypeId) (bl : BL) (rs : List RuleP) (g : GS) (gv : GV) (bits : Int) (w : World) (hG : GameAt w b t bl rs g gv) (hR : RBd rs) (hB : BBd bl) (hp : g.vals.1 < 512 ∧ g.vals.2 < 512) (ht : g.turn ≤ bl.length) (hbi : i64ok bits) :
    Calls Tryz.prog 19 #[.pointer (some ⟨b, 0, none⟩), .int .i64 bits] w fun e w' => e = .returned (.int .i64 (MoveE bl g bits : Nat)) ∧ GameAt w' b t bl rs (MoveG rs bl g bits) gv ∧ Only (· = b) w w' := by
  have lb := blk_lt hG.fb
  go_enter Tryz.func19, Tryz.ntmps19
  go_wp2_with fail
  refine (gmove_any b t bl rs g gv bits w hG hR hB hp ht hbi).mono ?_
  rintro e w1 ⟨rfl, h2, h3⟩
  go_wp2_with fail
  go_ret
  exact ⟨rfl, h2, h3⟩
end Go.Proofs.YtgipjjhkhfihpabGreatDoor

namespace Go.Proofs.YtgipjjhkhfihpabGreatDoor
open Go.RowKit

/-! ### Open -/
def GFresh (n : Nat) (gv : GV) : Prop := (∀ k, gv.vB.ownBlock = some k → n ≤ k) ∧ (∀ k, gv.vR.ownBlock = some k → n ≤ k) ∧ ∀ j (hj : j < gv.hdrs.length) k, gv.hdrs[j].ownBlock = some k → n ≤ k
def GameV (g : GS) (gv : GV) : Value := .agg #[gv.vB, gv.vR, .int .i64 (g.turn : Int), .int .i64 (g.vals.1 : Int), .int .i64 (g.vals.2 : Int)]
def OpenPost (q : QS) (kind : Nat) (ss : List Stp) (w : World) (e : Ending) (w' : World) : Prop :=
  ∃ gv, e = .returned (GameV (openW q kind ss) gv) ∧ GRows w' (blW q kind) (rulesW kind ss) gv ∧ GFresh w.heap.size gv ∧ Below w.heap.size w w'
theorem flat_len (bs : List (List Nat)) (h : ∀ b ∈ bs, b ≠ []) : bs.length ≤ bs.flatten.length := by
  induction bs with
  | nil => simp
  | cons b bs ih =>
    have h1 := ih (fun x hx => h x (List.mem_cons_of_mem _ hx))
    have h2 : 0 < b.length := List.length_pos_iff.2 (h b (by simp))
    simp only [List.flatten_cons, List.length_append, List.length_cons]
    omega
theorem blocks_le (vs : List (Nat × Bool)) (h : vs.length ≤ 8) : (progBlocks vs).length ≤ 8 := by
  have := flat_len (progBlocks vs) (fun b hb => (progBlocks_kind vs b hb).1)
  rw [progBlocks_flat, List.length_map] at this
  omega
theorem block_len (vs : List (Nat × Bool)) (h : vs.length ≤ 8) (b : List Nat) (hb : b ∈ progBlocks vs) : b.length ≤ 8 := by
  have h1 : b.length ≤ (progBlocks vs).flatten.length := by
    have := (List.sublist_flatten_of_mem hb).length_le
    exact this
  rw [progBlocks_flat, List.length_map] at h1
  omega
theorem bbd_of {q : QS} (hQ : QB q) (kind : Nat) : BBd (blW q kind) := by
  refine ⟨by rw [blW_length]; exact blocks_le q.vars hQ.vl, fun x hx => ?_⟩
  obtain ⟨b, hb, rfl⟩ := List.mem_map.1 (show x ∈ (progBlocks q.vars).map _ from hx)
  refine ⟨block_len q.vars hQ.vl b hb, fun v hv => ?_⟩
  have hm : v ∈ (progBlocks q.vars).flatten := List.mem_flatten.2 ⟨b, hb, hv⟩
  rw [progBlocks_flat] at hm
  obtain ⟨y, hy, rfl⟩ := List.mem_map.1 hm
  exact hQ.names y hy
theorem rbd_of {ss : List Stp} (h : SBs ss) (kind : Nat) : RBd (rulesW kind ss) := by
  refine ⟨?_, fun r hr => ?_⟩
  · unfold rulesW
    rw [List.length_map]
    exact Nat.le_trans (List.length_filter_le _ _) h.len
  · unfold rulesW at hr
    obtain ⟨s, hs, rfl⟩ := List.mem_map.1 hr
    have hs' := h.bits s (List.mem_filter.1 hs).1
    have hm := minus_lt (litsAt ss s.first) s.lits (litsAt_lt ss h.bits s.first)
    unfold ruleW swapL
    split
    · exact ⟨⟨hs'.2, hs'.1⟩, hm.2, hm.1⟩
    · exact ⟨hs', hm⟩
/-- While the blocks are gathered. -/
structure OAt (u wx : World) (gb : Nat) (bl : BL) (hdrs : List Value) (vR : Value) (k : Nat) (vB : Value) : Prop where
  gg : wx.heap[gb]? = some (.cells #[vB, vR, .int .i64 0, .int .i64 0, .int .i64 0] 99 (0, 0))
  oB : wx.ownsRow u.heap.size 131 2 vB k (blCells (bl.take k) (hdrs.take k))
  only : Only (· = gb) u wx
theorem blCells_snoc (bl : BL) (hdrs : List Value) (k : Nat) (h : k < bl.length) (hh : k < hdrs.length) : blCells (bl.take (k + 1)) (hdrs.take (k + 1)) = blCells (bl.take k) (hdrs.take k) ++ [hdrs[k], .bool bl[k].2] := by
  unfold blCells
  rw [List.take_succ_eq_append_getElem h, List.take_succ_eq_append_getElem hh, List.zip_append (by simp; omega), List.flatMap_append]
  simp
set_option maxRecDepth 100000 in
set_option maxHeartbeats 3200000 in
theorem popen_any (q : QS) (ss : List Stp) (aV aC aS : Option Addr) (cV cC cS kind : Nat) (w : World) (hV : w.ownsRow 0 109 2 (.slice aV q.vars.length cV) q.vars.length (varCells q.vars)) (hl : q.vars.length ≤ 8)
    (hS : w.ownsRow 0 91 6 (.slice aS ss.length cS) ss.length (psCells ss)) (hSB : SBs ss) (hk : kind = 1 ∨ kind = 2) (hQ : QB q) :
    Calls Tryz.prog 35 #[.agg #[.slice aV q.vars.length cV, .slice aC q.cl.length cC], .agg #[.int .i64 (kind : Int), .slice aS ss.length cS]] w fun e w' => OpenPost q kind ss w e w' := by
  obtain ⟨i1, hi1, hz10, hz11, hz12⟩ := info_parts infoBlock
  go_enter Tryz.func35, Tryz.ntmps35
  go_wp2_with fail
  generalize hw0 : (((w.alloc (.cells #[.slice aV q.vars.length cV, .slice aC q.cl.length cC] 44)).alloc (.cells #[.int .i64 (kind : Int), .slice aS ss.length cS] 51)).alloc (.cells #[.slice none 0 0, .slice none 0 0, .int .i64 0, .int .i64 0, .int .i64 0] 99)) = u1
  have hB : Below w.heap.size w u1 := by rw [← hw0]; exact (((Below.refl _ _).alloc (Nat.le_refl _) _).alloc (by simp; try omega) _).alloc (by simp; try omega) _
  have hff : u1.heap[w.heap.size]? = some (.cells #[.slice aV q.vars.length cV, .slice aC q.cl.length cC] 44 (0, 0)) := by rw [← hw0, heap_alloc_old _ _ (by simp; try omega), heap_alloc_old _ _ (by simp; try omega)]; exact alloc_new_at (by simp)
  have hpp : u1.heap[w.heap.size + 1]? = some (.cells #[.int .i64 (kind : Int), .slice aS ss.length cS] 51 (0, 0)) := by rw [← hw0, heap_alloc_old _ _ (by simp; try omega)]; exact alloc_new_at (by simp)
  have hrs : u1.heap[w.heap.size + 1 + 1]? = some (.cells #[.slice none 0 0, .slice none 0 0, .int .i64 0, .int .i64 0, .int .i64 0] 99 (0, 0)) := by rw [← hw0]; exact alloc_new_at (by simp)
  clear hw0
  have cff0 : u1.cell? ⟨w.heap.size, 0, none⟩ = some (.slice aV q.vars.length cV) := by rw [blk_cell hff]; rfl
  have cff1 : u1.cell? ⟨w.heap.size, 1, none⟩ = some (.slice aC q.cl.length cC) := by rw [blk_cell hff]; rfl
  have lff := blk_lt hff
  have cpp0 : u1.cell? ⟨w.heap.size + 1, 0, none⟩ = some (.int .i64 (kind : Int)) := by rw [blk_cell hpp]; rfl
  have cpp1 : u1.cell? ⟨w.heap.size + 1, 1, none⟩ = some (.slice aS ss.length cS) := by rw [blk_cell hpp]; rfl
  have lpp := blk_lt hpp
  have crs0 : u1.cell? ⟨w.heap.size + 1 + 1, 0, none⟩ = some (.slice none 0 0) := by rw [blk_cell hrs]; rfl
  have crs1 : u1.cell? ⟨w.heap.size + 1 + 1, 1, none⟩ = some (.slice none 0 0) := by rw [blk_cell hrs]; rfl
  have crs2 : u1.cell? ⟨w.heap.size + 1 + 1, 2, none⟩ = some (.int .i64 0) := by rw [blk_cell hrs]; rfl
  have crs3 : u1.cell? ⟨w.heap.size + 1 + 1, 3, none⟩ = some (.int .i64 0) := by rw [blk_cell hrs]; rfl
  have crs4 : u1.cell? ⟨w.heap.size + 1 + 1, 4, none⟩ = some (.int .i64 0) := by rw [blk_cell hrs]; rfl
  have lrs := blk_lt hrs
  have hsz1 : w.heap.size ≤ u1.heap.size := hB.size
  refine (rulesOf_any ss aS cS kind _ (own_below hS hB) hSB hk).mono ?_
  rintro e u2 ⟨vR, rfl, hoR, b2⟩
  replace hB := hB.trans (b2.mono hB.size)
  replace hff := (b2.block _ (blk_lt hff)).trans hff
  replace cff0 : u2.cell? ⟨w.heap.size, 0, none⟩ = some (.slice aV q.vars.length cV) := by rw [blk_cell hff]; rfl
  replace cff1 : u2.cell? ⟨w.heap.size, 1, none⟩ = some (.slice aC q.cl.length cC) := by rw [blk_cell hff]; rfl
  replace lff := blk_lt hff
  replace hpp := (b2.block _ (blk_lt hpp)).trans hpp
  replace cpp0 : u2.cell? ⟨w.heap.size + 1, 0, none⟩ = some (.int .i64 (kind : Int)) := by rw [blk_cell hpp]; rfl
  replace cpp1 : u2.cell? ⟨w.heap.size + 1, 1, none⟩ = some (.slice aS ss.length cS) := by rw [blk_cell hpp]; rfl
  replace lpp := blk_lt hpp
  replace hrs := (b2.block _ (blk_lt hrs)).trans hrs
  replace crs0 : u2.cell? ⟨w.heap.size + 1 + 1, 0, none⟩ = some (.slice none 0 0) := by rw [blk_cell hrs]; rfl
  replace crs1 : u2.cell? ⟨w.heap.size + 1 + 1, 1, none⟩ = some (.slice none 0 0) := by rw [blk_cell hrs]; rfl
  replace crs2 : u2.cell? ⟨w.heap.size + 1 + 1, 2, none⟩ = some (.int .i64 0) := by rw [blk_cell hrs]; rfl
  replace crs3 : u2.cell? ⟨w.heap.size + 1 + 1, 3, none⟩ = some (.int .i64 0) := by rw [blk_cell hrs]; rfl
  replace crs4 : u2.cell? ⟨w.heap.size + 1 + 1, 4, none⟩ = some (.int .i64 0) := by rw [blk_cell hrs]; rfl
  replace lrs := blk_lt hrs
  have hsz2 : w.heap.size + 1 + 1 < u2.heap.size := lrs
  obtain ⟨aR, cR, rfl⟩ := own_form hoR
  have HRlt : Hid (∀ k, (Value.slice aR (rulesW kind ss).length cR).ownBlock = some k → u1.heap.size ≤ k ∧ k < u2.heap.size) := hide (fun k hk => hoR.lt k hk)
  have hRl : (rulesW kind ss).length ≤ 9000 := by have h1 := rulesTo_len kind ss ss.length; have h2 := hSB.len; unfold rulesTo at h1; rw [List.take_length] at h1; unfold rulesW; omega
  generalize hrw : rulesW kind ss = rs at *
  have HRW := hide hrw
  clear hrw
  go_wp2_with fail
  generalize hw0 : u2.alloc (.cells #[.slice none 0 0, .slice aR rs.length cR, .int .i64 0, .int .i64 0, .int .i64 0] 99) = u3
  have b3 : Below u2.heap.size u2 u3 := by rw [← hw0]; exact (Below.refl _ _).alloc (Nat.le_refl _) _
  have hgg : u3.heap[u2.heap.size]? = some (.cells #[.slice none 0 0, .slice aR rs.length cR, .int .i64 0, .int .i64 0, .int .i64 0] 99 (0, 0)) := by rw [← hw0]; exact heap_alloc_new _ _
  clear hw0
  replace hB := hB.trans (b3.mono hB.size)
  replace hff := (b3.block _ (blk_lt hff)).trans hff
  replace cff0 : u3.cell? ⟨w.heap.size, 0, none⟩ = some (.slice aV q.vars.length cV) := by rw [blk_cell hff]; rfl
  replace cff1 : u3.cell? ⟨w.heap.size, 1, none⟩ = some (.slice aC q.cl.length cC) := by rw [blk_cell hff]; rfl
  replace lff := blk_lt hff
  replace hpp := (b3.block _ (blk_lt hpp)).trans hpp
  replace cpp0 : u3.cell? ⟨w.heap.size + 1, 0, none⟩ = some (.int .i64 (kind : Int)) := by rw [blk_cell hpp]; rfl
  replace cpp1 : u3.cell? ⟨w.heap.size + 1, 1, none⟩ = some (.slice aS ss.length cS) := by rw [blk_cell hpp]; rfl
  replace lpp := blk_lt hpp
  replace hrs := (b3.block _ (blk_lt hrs)).trans hrs
  replace crs0 : u3.cell? ⟨w.heap.size + 1 + 1, 0, none⟩ = some (.slice none 0 0) := by rw [blk_cell hrs]; rfl
  replace crs1 : u3.cell? ⟨w.heap.size + 1 + 1, 1, none⟩ = some (.slice none 0 0) := by rw [blk_cell hrs]; rfl
  replace crs2 : u3.cell? ⟨w.heap.size + 1 + 1, 2, none⟩ = some (.int .i64 0) := by rw [blk_cell hrs]; rfl
  replace crs3 : u3.cell? ⟨w.heap.size + 1 + 1, 3, none⟩ = some (.int .i64 0) := by rw [blk_cell hrs]; rfl
  replace crs4 : u3.cell? ⟨w.heap.size + 1 + 1, 4, none⟩ = some (.int .i64 0) := by rw [blk_cell hrs]; rfl
  replace lrs := blk_lt hrs
  replace hoR := own_below hoR b3
  have cgg0 : u3.cell? ⟨u2.heap.size, 0, none⟩ = some (.slice none 0 0) := by rw [blk_cell hgg]; rfl
  have cgg1 : u3.cell? ⟨u2.heap.size, 1, none⟩ = some (.slice aR rs.length cR) := by rw [blk_cell hgg]; rfl
  have cgg2 : u3.cell? ⟨u2.heap.size, 2, none⟩ = some (.int .i64 0) := by rw [blk_cell hgg]; rfl
  have cgg3 : u3.cell? ⟨u2.heap.size, 3, none⟩ = some (.int .i64 0) := by rw [blk_cell hgg]; rfl
  have cgg4 : u3.cell? ⟨u2.heap.size, 4, none⟩ = some (.int .i64 0) := by rw [blk_cell hgg]; rfl
  have lgg := blk_lt hgg
  have hsz3 : u2.heap.size < u3.heap.size := lgg
  refine (qblocks_any 0 w.heap.size q _ aV cV cff0 lff (own_below hV hB) (by omega)).mono ?_
  rintro e u4 ⟨v, hdrs, rfl, hoH, hRA, b4⟩
  replace hB := hB.trans (b4.mono hB.size)
  replace hff := (b4.block _ (blk_lt hff)).trans hff
  replace cff0 : u4.cell? ⟨w.heap.size, 0, none⟩ = some (.slice aV q.vars.length cV) := by rw [blk_cell hff]; rfl
  replace cff1 : u4.cell? ⟨w.heap.size, 1, none⟩ = some (.slice aC q.cl.length cC) := by rw [blk_cell hff]; rfl
  replace lff := blk_lt hff
  replace hpp := (b4.block _ (blk_lt hpp)).trans hpp
  replace cpp0 : u4.cell? ⟨w.heap.size + 1, 0, none⟩ = some (.int .i64 (kind : Int)) := by rw [blk_cell hpp]; rfl
  replace cpp1 : u4.cell? ⟨w.heap.size + 1, 1, none⟩ = some (.slice aS ss.length cS) := by rw [blk_cell hpp]; rfl
  replace lpp := blk_lt hpp
  replace hrs := (b4.block _ (blk_lt hrs)).trans hrs
  replace crs0 : u4.cell? ⟨w.heap.size + 1 + 1, 0, none⟩ = some (.slice none 0 0) := by rw [blk_cell hrs]; rfl
  replace crs1 : u4.cell? ⟨w.heap.size + 1 + 1, 1, none⟩ = some (.slice none 0 0) := by rw [blk_cell hrs]; rfl
  replace crs2 : u4.cell? ⟨w.heap.size + 1 + 1, 2, none⟩ = some (.int .i64 0) := by rw [blk_cell hrs]; rfl
  replace crs3 : u4.cell? ⟨w.heap.size + 1 + 1, 3, none⟩ = some (.int .i64 0) := by rw [blk_cell hrs]; rfl
  replace crs4 : u4.cell? ⟨w.heap.size + 1 + 1, 4, none⟩ = some (.int .i64 0) := by rw [blk_cell hrs]; rfl
  replace lrs := blk_lt hrs
  replace hgg := (b4.block _ (blk_lt hgg)).trans hgg
  replace cgg0 : u4.cell? ⟨u2.heap.size, 0, none⟩ = some (.slice none 0 0) := by rw [blk_cell hgg]; rfl
  replace cgg1 : u4.cell? ⟨u2.heap.size, 1, none⟩ = some (.slice aR rs.length cR) := by rw [blk_cell hgg]; rfl
  replace cgg2 : u4.cell? ⟨u2.heap.size, 2, none⟩ = some (.int .i64 0) := by rw [blk_cell hgg]; rfl
  replace cgg3 : u4.cell? ⟨u2.heap.size, 3, none⟩ = some (.int .i64 0) := by rw [blk_cell hgg]; rfl
  replace cgg4 : u4.cell? ⟨u2.heap.size, 4, none⟩ = some (.int .i64 0) := by rw [blk_cell hgg]; rfl
  replace lgg := blk_lt hgg
  replace hoR := own_below hoR b4
  obtain ⟨aH, cH, rfl⟩ := own_form hoH
  go_wp2_with fail
  have hHl := hRA.len
  have hbl : (progBlocks q.vars).length ≤ 8 := blocks_le q.vars hl
  obtain ⟨bl, hbl0⟩ : ∃ bl, blW q kind = bl := ⟨_, rfl⟩
  have hbll : bl.length = (progBlocks q.vars).length := by rw [← hbl0, blW_length]
  have HBL := hide hbl0
  clear hbl0
  go_loopg [13] ((progBlocks q.vars).length) (fun m i wx => ∃ (k : Nat) (vB : Value), i = .int .i64 k ∧ k + m = (progBlocks q.vars).length ∧ OAt u4 wx u2.heap.size bl hdrs (.slice aR rs.length cR) k vB)
  case atStart => exact ⟨0, .slice none 0 0, rfl, by omega, hgg, World.ownsRow_nil _ _ _ _, Only.refl _ _⟩
  case round =>
    obtain ⟨k, vB, rfl, hkm, ⟨hgr, hoB, hon⟩⟩ := hrel
    have lgr := blk_lt hgr
    have hBr : Below w.heap.size w wr := hB.trans (hon.below (B := w.heap.size) hB.size (fun j hj e => by omega))
    have hffr := (hon.block _ lff (by omega)).trans hff
    have hppr := (hon.block _ lpp (by omega)).trans hpp
    have f0 : wr.cell? ⟨w.heap.size, 0, none⟩ = some (.slice aV q.vars.length cV) := by rw [blk_cell hffr]; rfl
    have f1 : wr.cell? ⟨w.heap.size, 1, none⟩ = some (.slice aC q.cl.length cC) := by rw [blk_cell hffr]; rfl
    have p0 : wr.cell? ⟨w.heap.size + 1, 0, none⟩ = some (.int .i64 (kind : Int)) := by rw [blk_cell hppr]; rfl
    have p1 : wr.cell? ⟨w.heap.size + 1, 1, none⟩ = some (.slice aS ss.length cS) := by rw [blk_cell hppr]; rfl
    have lf := blk_lt hffr
    have lp := blk_lt hppr
    obtain ⟨aB, cB, rfl⟩ := own_form hoB
    have g0 : wr.cell? ⟨u2.heap.size, 0, none⟩ = some (.slice aB k cB) := by rw [blk_cell hgr]; rfl
    have hoHr := own_keep hoH hon (fun j hj e => by have := (hoH.lt j hj).1; omega)
    by_cases hlt : k < (progBlocks q.vars).length
    · have hkh : k < hdrs.length := by omega
      have hkb : k < bl.length := by omega
      have hXr := own_keep (hRA.row k hlt).1 hon (fun j hj e => by have := ((hRA.row k hlt).1.lt j hj).1; omega)
      have hb8 := block_len q.vars hl _ (List.getElem_mem hlt)
      have HSN := hide (blCells_snoc bl hdrs k hkb hkh)
      have HWN : Hid (bl[k].2 = winsW q kind (progBlocks q.vars)[k]) := hide (by
        have h := blW_at q kind k hlt
        rw [unhide HBL] at h
        rw [show bl.getD k ([], false) = bl[k] from by simp [List.getD, hkb]] at h
        rw [h])
      obtain ⟨gH, cap, hVe, hg, hg', _, hcell⟩ := own_pos hoHr (by omega)
      injection hVe with hVe _ hV2
      subst hVe hV2
      have hxk : wr.cell? ⟨gH, k, none⟩ = some hdrs[k] := hcell _ _ (by simp [hkh])
      obtain ⟨aX, cX, hXf⟩ := own_form hXr
      rw [hXf] at hxk hXr
      have HXF := hide hXf
      clear hcell hXf
      have hX0 := own_lo (lo := 0) hXr (Nat.zero_le _)
      have hne0 := own_type_ne hoB hgr (by decide)
      have HNE := hide hne0
      clear hne0
      have hVr := own_below hV hBr
      obtain ⟨wo, rfl⟩ : ∃ wo, wo = wr := ⟨_, rfl⟩
      go_upto_region 30 with fail
      go_region_law (first | (refine step_call rfl 63 _ _ rfl #[.agg #[.slice aV q.vars.length cV, .slice aC q.cl.length cC], .agg #[.int .i64 (kind : Int), .slice aS ss.length cS], .slice aX (progBlocks q.vars)[k].length cX] (by simp [Act.eval]) (callWins _) ?_; refine (wins_any q aV aC aS cV q.cl.length cC ss.length cS kind (progBlocks q.vars)[k] _ _ (own_below hVr (Below.refl _ wo).drew) hl hk (own_below hX0 (Below.refl _ wo).drew) hb8).mono ?_; rintro e v1 ⟨rfl, y1⟩; refine ⟨_, rfl, ?_⟩; have x1 : Below wo.heap.size wo v1 := Below.trans (Below.refl _ wo).drew y1; have hgv := (x1.block _ lgr).trans hgr; have gv0 : v1.cell? ⟨u2.heap.size, 0, none⟩ = some (.slice aB k cB) := (by rw [blk_cell hgv]; rfl); have lgv := blk_lt hgv) | (refine step_append_at rfl (.tmp 18) (.tmp 25) 96 rfl u4.heap.size 131 i1 (.agg #[.slice none 0 0, .bool false]) 2 32 Tryz.underlying96 hi1 hz10 hz11 hz12 rfl (by decide) (.slice aB k cB) k (blCells (bl.take k) (hdrs.take k)) ((own_below hoB x1).alloc _) (by simp [Act.eval]) ⟨v1.heap.size, 0, none⟩ 1 1 [.slice aX (progBlocks q.vars)[k].length cX, .bool (winsW q kind (progBlocks q.vars)[k])] (by simp [Act.eval]) rfl (new_cells v1 [.slice aX (progBlocks q.vars)[k].length cX, .bool (winsW q kind (progBlocks q.vars)[k])] 131) (by simp [Value.oneCell']) (by decide) (by unfold maxLen; omega) (by omega) (by have := x1.size; have := hon.size; simp; omega) ?_; intro v' w' hown' hgrow hmv; obtain ⟨g4, cap4, rfl, hg4, hg4', hcap4, hcell4⟩ := own_pos hown' (by omega); have hgg' : w'.heap[u2.heap.size]? = some (.cells #[.slice aB k cB, .slice aR rs.length cR, .int .i64 0, .int .i64 0, .int .i64 0] 99 (0, 0)) := (hgrow.block _ (by simp; omega) (fun e => unhide HNE e.symm)).trans ((heap_alloc_old v1 _ lgv).trans hgv); have gw0 : w'.cell? ⟨u2.heap.size, 0, none⟩ = some (.slice aB k cB) := (by rw [blk_cell hgg']; rfl); have gz0 := blk_free hgg' 0; have lgw := blk_lt hgg'))
      all_goals
        have hns := own_type_ne hown' hgg' (by decide)
        have HO : Hid (OAt u4 (w'.setCell ⟨u2.heap.size, 0, none⟩ (.slice (some ⟨g4, 0, none⟩) (k + 1) cap4)) u2.heap.size bl hdrs (.slice aR rs.length cR) (k + 1) (.slice (some ⟨g4, 0, none⟩) (k + 1) cap4)) := hide ⟨blk_set hgg' 0 _, by rw [unhide HSN, unhide HXF, unhide HWN]; exact own_set_ne hown' (p := ⟨u2.heap.size, 0, none⟩) hns _, (((hon.trans (Only.of_below x1)).alloc _).grown hgrow (fun j hj => Or.inr (hoB.lt j hj).1)).setAt 0 _⟩
        clear hown' hgrow hmv hcell4 hns
        go_wp2_with fail
        go_roundg (gk - 1)
        case measure => omega
        case rel => exact ⟨k + 1, _, by go_num, by omega, unhide HO⟩
    · have hkn : k = (progBlocks q.vars).length := by omega
      subst hkn
      have hdk : decide (((progBlocks q.vars).length : Int) < ((progBlocks q.vars).length : Int)) = false := by simp
      have hRr := own_keep hoR hon (fun j hj e => by have := (unhide HRlt j hj).2; omega)
      have hG : GameAt wr u2.heap.size 99 bl rs ⟨0, (0, 0)⟩ ⟨.slice aB (progBlocks q.vars).length cB, .slice aR rs.length cR, hdrs⟩ := by
        refine ⟨hgr, Or.inl rfl, ?_, own_lo hRr (Nat.zero_le _), by rw [hbll]; exact hHl, fun j hj => ?_⟩
        · have h := own_lo (lo := 0) hoB (Nat.zero_le _)
          rw [List.take_of_length_le (by omega), List.take_of_length_le (by omega)] at h
          rw [hbll]; exact h
        · have hj' : j < (progBlocks q.vars).length := by omega
          have h := own_lo (lo := 0) (own_keep (hRA.row j hj').1 hon (fun i hi e => by have := ((hRA.row j hj').1.lt i hi).1; omega)) (Nat.zero_le _)
          have hrow : bl[j].1 = (progBlocks q.vars)[j] := by
            have h2 := blW_at q kind j hj'
            rw [unhide HBL] at h2
            rw [show bl.getD j ([], false) = bl[j] from by simp [List.getD, hj]] at h2
            rw [h2]
          rw [hrow]; exact h
      have hFr : GFresh w.heap.size ⟨.slice aB (progBlocks q.vars).length cB, .slice aR rs.length cR, hdrs⟩ := by
        refine ⟨fun j hj => ?_, fun j hj => ?_, fun i hi j hj => ?_⟩
        · have := (hoB.lt j hj).1; have := hB.size; omega
        · have := (unhide HRlt j hj).1; omega
        · have hi' : i < (progBlocks q.vars).length := by rw [← hHl]; exact hi
          have := ((hRA.row i hi').1.lt j hj).1; omega
      have HFR := hide hFr
      have hbd := bbd_of hQ kind
      rw [unhide HBL] at hbd
      have hrbd := rbd_of hSB kind
      rw [unhide HRW] at hrbd
      have hrsr := (hon.block _ lrs (by omega)).trans hrs
      clear hFr hRr hoHr f0 f1 p0 p1 g0
      go_wp2_with fail
      refine (answer_any u2.heap.size _ bl rs ⟨0, (0, 0)⟩ _ _ hG hrbd hbd ⟨by decide, by decide⟩ (Nat.zero_le _)).mono ?_
      rintro e w8 ⟨rfl, hG8, ho8⟩
      have HOW : Hid (openW q kind ss = ansW rs bl ⟨0, (0, 0)⟩) := hide (by unfold openW; rw [unhide HRW, unhide HBL])
      generalize ansW rs bl ⟨0, (0, 0)⟩ = g8 at *
      obtain ⟨t8, v1, v2⟩ := g8
      have hrs8 := (ho8.block _ (blk_lt hrsr) (by omega)).trans hrsr
      have x0 : w8.cell? ⟨u2.heap.size, 0, none⟩ = some (.slice aB (progBlocks q.vars).length cB) := by rw [blk_cell hG8.fb]; rfl
      have x1 : w8.cell? ⟨u2.heap.size, 1, none⟩ = some (.slice aR rs.length cR) := by rw [blk_cell hG8.fb]; rfl
      have x2 : w8.cell? ⟨u2.heap.size, 2, none⟩ = some (.int .i64 (t8 : Int)) := by rw [blk_cell hG8.fb]; rfl
      have x3 : w8.cell? ⟨u2.heap.size, 3, none⟩ = some (.int .i64 (v1 : Int)) := by rw [blk_cell hG8.fb]; rfl
      have x4 : w8.cell? ⟨u2.heap.size, 4, none⟩ = some (.int .i64 (v2 : Int)) := by rw [blk_cell hG8.fb]; rfl
      have lx := blk_lt hG8.fb
      have ly := blk_lt hrs8
      have y0 : w8.cell? ⟨w.heap.size + 1 + 1, 0, none⟩ = some (.slice none 0 0) := by rw [blk_cell hrs8]; rfl
      have y1 : w8.cell? ⟨w.heap.size + 1 + 1, 1, none⟩ = some (.slice none 0 0) := by rw [blk_cell hrs8]; rfl
      have y2 : w8.cell? ⟨w.heap.size + 1 + 1, 2, none⟩ = some (.int .i64 0) := by rw [blk_cell hrs8]; rfl
      have y3 : w8.cell? ⟨w.heap.size + 1 + 1, 3, none⟩ = some (.int .i64 0) := by rw [blk_cell hrs8]; rfl
      have y4 : w8.cell? ⟨w.heap.size + 1 + 1, 4, none⟩ = some (.int .i64 0) := by rw [blk_cell hrs8]; rfl
      have z0 := blk_free hrs8 0
      have z1 := blk_free hrs8 1
      have z2 := blk_free hrs8 2
      have z3 := blk_free hrs8 3
      have z4 := blk_free hrs8 4
      have hR := blk_set (blk_set (blk_set (blk_set (blk_set hrs8 0 (.slice aB (progBlocks q.vars).length cB)) 1 (.slice aR rs.length cR)) 2 (.int .i64 (t8 : Int))) 3 (.int .i64 (v1 : Int))) 4 (.int .i64 (v2 : Int))
      have j0 := blk_cell hR 0
      have j1 := blk_cell hR 1
      have j2 := blk_cell hR 2
      have j3 := blk_cell hR 3
      have j4 := blk_cell hR 4
      have hB8 : Below w.heap.size w w8 := hBr.trans (ho8.below (B := w.heap.size) hBr.size (fun j hj e => by omega))
      go_wp2_with fail
      refine bodyPost_ret (v := GameV ⟨t8, (v1, v2)⟩ ⟨.slice aB (progBlocks q.vars).length cB, .slice aR rs.length cR, hdrs⟩) (by simp [results, Tryz.results35, go_sem, j0, j1, j2, j3, j4, GameV]) rfl ⟨⟨.slice aB (progBlocks q.vars).length cB, .slice aR rs.length cR, hdrs⟩, by rw [unhide HOW], ?_, unhide HFR, ?_⟩
      · rw [unhide HBL, unhide HRW]
        have ho9 : Only (· = w.heap.size + 1 + 1) w8 (((((w8.setCell ⟨w.heap.size + 1 + 1, 0, none⟩ (.slice aB (progBlocks q.vars).length cB)).setCell ⟨w.heap.size + 1 + 1, 1, none⟩ (.slice aR rs.length cR)).setCell ⟨w.heap.size + 1 + 1, 2, none⟩ (.int .i64 (t8 : Int))).setCell ⟨w.heap.size + 1 + 1, 3, none⟩ (.int .i64 (v1 : Int))).setCell ⟨w.heap.size + 1 + 1, 4, none⟩ (.int .i64 (v2 : Int))) := (((((Only.refl (· = w.heap.size + 1 + 1) w8).setAt 0 _).setAt 1 _).setAt 2 _).setAt 3 _).setAt 4 _
        refine hG8.rows.keep ho9 (fun j cs e hj ht hjb => ?_)
        subst hjb
        have he := blk_type hj hrs8
        rcases ht with h2 | h2 | ⟨h2, _⟩ <;> (rw [he] at h2; revert h2; decide)
      · exact ((((hB8.setCell (p := ⟨w.heap.size + 1 + 1, 0, none⟩) (by show w.heap.size ≤ w.heap.size + 1 + 1; omega) _).setCell (p := ⟨w.heap.size + 1 + 1, 1, none⟩) (by show w.heap.size ≤ w.heap.size + 1 + 1; omega) _).setCell (p := ⟨w.heap.size + 1 + 1, 2, none⟩) (by show w.heap.size ≤ w.heap.size + 1 + 1; omega) _).setCell (p := ⟨w.heap.size + 1 + 1, 3, none⟩) (by show w.heap.size ≤ w.heap.size + 1 + 1; omega) _).setCell (p := ⟨w.heap.size + 1 + 1, 4, none⟩) (by show w.heap.size ≤ w.heap.size + 1 + 1; omega) _
end Go.Proofs.YtgipjjhkhfihpabGreatDoor

namespace Go.Proofs.YtgipjjhkhfihpabGreatDoor
open Go.RowKit

/-! ### A duel is opened -/
def DOpenPost (q : QS) (l : List UInt8) (w : World) (e : Ending) (w' : World) : Prop :=
  Below w.heap.size w w' ∧ match readQ q l with
    | .inl (x, i) => e = .returned (.tuple #[.pointer none, .int .i64 (x : Int), .int .i64 (i : Int)])
    | .inr (kind, ls) => ∃ ss db gv, litsL ss = ls ∧ Tagged q kind l ss ∧ SBs ss ∧ e = .returned (.tuple #[.pointer (some ⟨db, 0, none⟩), .int .i64 0, .int .i64 0]) ∧
      GameAt w' db 102 (blW q kind) (rulesW kind ss) (openW q kind ss) gv ∧ w.heap.size ≤ db ∧ GFresh w.heap.size gv
theorem readQ_pos {q : QS} {l : List UInt8} {x i : Nat} (h : readQ q l = .inl (x, i)) : 0 < x := by
  unfold readQ at h
  split at h
  · injection h with h; injection h with h1 h2; omega
  · unfold firstQ at h
    split at h
    · injection h with h; injection h with h1 h2; omega
    · split at h
      · unfold goQ at h
        split at h
        · injection h with h; injection h with h1 h2; omega
        · split at h
          · cases h
          · injection h with h; injection h with h1 h2; omega
      · injection h with h; injection h with h1 h2; omega
theorem readQ_kind {q : QS} {l : List UInt8} {kind : Nat} {ls : List (Nat × Nat)} (h : readQ q l = .inr (kind, ls)) : kind = 1 ∨ kind = 2 := by
  unfold readQ at h
  split at h
  · cases h
  · unfold firstQ at h
    split at h
    · cases h
    · split at h
      · unfold goQ at h
        split at h
        · cases h
        · split at h
          · injection h with h
            injection h with h1 h2
            rw [← h1]; unfold kindOf; split
            · exact Or.inr rfl
            · exact Or.inl rfl
          · cases h
      · cases h
set_option maxRecDepth 100000 in
set_option maxHeartbeats 1600000 in
theorem dopen_any (lo b : Nat) (q : QS) (l : List UInt8) (w : World) (hP : ProgAt lo w b q) (hQ : QB q) :
    Calls Tryz.prog 18 #[.pointer (some ⟨b, 0, none⟩), .string ⟨l.toArray⟩] w fun e w' => DOpenPost q l w e w' := by
  obtain ⟨_, vV, vC, hfb, hV, hC⟩ := hP
  have hbw := blk_lt hfb
  have k0 : w.cell? ⟨b, 0, none⟩ = some vV := by rw [blk_cell hfb]; rfl
  have k1 : w.cell? ⟨b, 1, none⟩ = some vC := by rw [blk_cell hfb]; rfl
  obtain ⟨aV, cV, rfl⟩ := own_form hV
  obtain ⟨aC, cC, rfl⟩ := own_form hC
  go_enter Tryz.func18, Tryz.ntmps18
  go_wp2_with fail
  refine (formula_any b _ _ aV aC _ cV _ cC rfl rfl w hfb).mono ?_
  rintro e w0 ⟨rfl, hA⟩
  go_wp2_with fail
  have hfm := heap_alloc_new w0 (.cells #[.slice aV q.vars.length cV, .slice aC q.cl.length cC] 44)
  have hA1 : Below w.heap.size w (w0.alloc (.cells #[.slice aV q.vars.length cV, .slice aC q.cl.length cC] 44)) := hA.alloc hA.size _
  generalize w0.alloc (.cells #[.slice aV q.vars.length cV, .slice aC q.cl.length cC] 44) = u1 at *
  refine (pread_any q _ _ l _ (own_lo (lo := 0) (own_below hV hA1) (Nat.zero_le _)) (own_lo (lo := 0) (own_below hC hA1) (Nat.zero_le _)) hQ).mono ?_
  rintro e w1 ⟨hb1, hp⟩
  have hB1 : Below w.heap.size w w1 := hA1.trans (hb1.mono hA1.size)
  cases hq : readQ q l with
  | inl xi =>
    obtain ⟨x, i⟩ := xi
    rw [hq] at hp
    have hp' : e = .returned (.tuple #[.agg #[.int .i64 0, .slice none 0 0], .int .i64 (x : Int), .int .i64 (i : Int)]) := hp
    subst hp'
    have HC := hide hq
    have hx := readQ_pos hq
    have hxb : ((x : Int) != 0) = true := by rw [bne_iff_ne]; omega
    clear hp hq
    go_wp2_with fail
    go_ret3
    exact ⟨hB1.alloc hB1.size _, by rw [unhide HC]; rfl⟩
  | inr ks =>
    obtain ⟨kind, ls⟩ := ks
    rw [hq] at hp
    obtain ⟨ss, vS, hls, htg, hsb, rfl, hS⟩ := hp
    have HC := hide hq
    have hk := readQ_kind hq
    clear hq
    obtain ⟨aS, cS, rfl⟩ := own_form hS
    have hA2 : Below w1.heap.size w1 (w1.alloc (.cells #[.int .i64 (kind : Int), .slice aS ss.length cS] 51)) := (Below.refl _ _).alloc (Nat.le_refl _) _
    have hpr := heap_alloc_new w1 (.cells #[.int .i64 (kind : Int), .slice aS ss.length cS] 51)
    have hfm1 := (hb1.block _ (blk_lt hfm)).trans hfm
    have hfm2 := (hA2.block _ (blk_lt hfm1)).trans hfm1
    have hB2 := hB1.trans (hA2.mono hB1.size)
    have hV2 := own_lo (lo := 0) (own_below hV hB2) (Nat.zero_le _)
    have hS2 := own_lo (lo := 0) (own_below hS hA2) (Nat.zero_le _)
    have f0 : (w1.alloc (.cells #[.int .i64 (kind : Int), .slice aS ss.length cS] 51)).cell? ⟨w0.heap.size, 0, none⟩ = some (.slice aV q.vars.length cV) := by rw [blk_cell hfm2]; rfl
    have f1 : (w1.alloc (.cells #[.int .i64 (kind : Int), .slice aS ss.length cS] 51)).cell? ⟨w0.heap.size, 1, none⟩ = some (.slice aC q.cl.length cC) := by rw [blk_cell hfm2]; rfl
    have p0 : (w1.alloc (.cells #[.int .i64 (kind : Int), .slice aS ss.length cS] 51)).cell? ⟨w1.heap.size, 0, none⟩ = some (.int .i64 (kind : Int)) := by rw [blk_cell hpr]; rfl
    have p1 : (w1.alloc (.cells #[.int .i64 (kind : Int), .slice aS ss.length cS] 51)).cell? ⟨w1.heap.size, 1, none⟩ = some (.slice aS ss.length cS) := by rw [blk_cell hpr]; rfl
    have lf := blk_lt hfm2
    have lp := blk_lt hpr
    go_wp2_with fail
    refine (popen_any q ss aV aC aS cV cC cS kind _ hV2 hQ.vl hS2 hsb hk hQ).mono ?_
    rintro e w3 ⟨⟨vB, vR, hdrs⟩, rfl, hrows, hfr, hb3⟩
    have hB3 := hB2.trans (hb3.mono hB2.size)
    obtain ⟨aB, cB, hBf⟩ := own_form hrows.oB
    obtain ⟨aR, cR, hRf⟩ := own_form hrows.oR
    dsimp only at hBf hRf
    subst hBf hRf
    have HRO : Hid (∀ w', Below w3.heap.size w3 w' → GRows w' (blW q kind) (rulesW kind ss) ⟨.slice aB (blW q kind).length cB, .slice aR (rulesW kind ss).length cR, hdrs⟩) := hide (fun w' h => hrows.later h)
    have HFR : Hid (GFresh w.heap.size ⟨.slice aB (blW q kind).length cB, .slice aR (rulesW kind ss).length cR, hdrs⟩) := hide ⟨fun k hk => Nat.le_trans hB2.size (hfr.1 k hk), fun k hk => Nat.le_trans hB2.size (hfr.2.1 k hk), fun j hj k hk => Nat.le_trans hB2.size (hfr.2.2 j hj k hk)⟩
    have hs3 := hB3.size
    have HT := hide htg
    have HS := hide hsb
    clear hrows hfr htg hsb
    generalize hgo : openW q kind ss = go at *
    have HGO := hide hgo
    clear hgo
    obtain ⟨t0, v0, v1⟩ := go
    unfold GameV
    dsimp only
    go_wp2_with fail
    go_ret3
    have hA3 : Below w3.heap.size w3 (w3.alloc (.cells #[.slice aB (blW q kind).length cB, .slice aR (rulesW kind ss).length cR, .int .i64 (t0 : Int), .int .i64 (v0 : Int), .int .i64 (v1 : Int)] 102)) := (Below.refl _ _).alloc (Nat.le_refl _) _
    refine ⟨hB3.trans (hA3.mono hB3.size), ?_⟩
    rw [unhide HC]
    exact ⟨ss, w3.heap.size, ⟨.slice aB (blW q kind).length cB, .slice aR (rulesW kind ss).length cR, hdrs⟩, hls, unhide HT, unhide HS, rfl, by rw [unhide HGO]; exact ⟨heap_alloc_new _ _, Or.inr rfl, unhide HRO _ hA3⟩, hs3, unhide HFR⟩
end Go.Proofs.YtgipjjhkhfihpabGreatDoor

namespace Go.Proofs.YtgipjjhkhfihpabGreatDoor
open Go.RowKit

/-! ### A game behind some moves -/
theorem kvals_lt (vs : List Nat) : ∀ bs : List Bool, (valsTo vs bs).1 < 512 ∧ (valsTo vs bs).2 < 512 := by
  intro bs
  induction bs with
  | nil => exact zero_lt9
  | cons b bs ih => exact withLit_lt _ _ ih.1 ih.2
def winsL (q : QS) (kind : Nat) : List Bool := (progBlocks q.vars).map (winsW q kind)
theorem winsL_len (q : QS) (kind : Nat) : (winsL q kind).length = (progBlocks q.vars).length := by unfold winsL; rw [List.length_map]
theorem winsL_at (q : QS) (kind j : Nat) (h : j < (progBlocks q.vars).length) (h' : j < (winsL q kind).length) : (winsL q kind)[j] = winsW q kind (progBlocks q.vars)[j] := List.getElem_map _
theorem cnt_succ (ws : List Bool) (t : Nat) (h : t < ws.length) : (ws.take (t + 1)).count false = (ws.take t).count false + (if ws[t] = false then 1 else 0) := by
  rw [List.take_succ_eq_append_getElem h, List.count_append]
  congr 1
  cases ws[t] <;> rfl
theorem cnt_stay (ws : List Bool) (t : Nat) : ∀ m, t + m ≤ ws.length → (∀ j (hj : j < ws.length), t ≤ j → j < t + m → ws[j] = true) → (ws.take (t + m)).count false = (ws.take t).count false := by
  intro m
  induction m with
  | zero => intro _ _; rfl
  | succ m ih =>
    intro hl hw
    rw [← Nat.add_assoc, cnt_succ ws (t + m) (by omega), ih (by omega) (fun j hj h1 h2 => hw j hj h1 (by omega)), hw (t + m) (by omega) (by omega) (by omega)]
    rfl
structure After (q : QS) (kind : Nat) (rs : List RuleP) (g : GS) (n : Nat) : Prop where
  run : ∃ bs, Run q kind rs g bs
  stands : Stands q kind g
  cnt : ((winsL q kind).take g.turn).count false = n
theorem After.lt {q : QS} {kind : Nat} {rs : List RuleP} {g : GS} {n : Nat} (h : After q kind rs g n) : g.vals.1 < 512 ∧ g.vals.2 < 512 := by
  obtain ⟨bs, h⟩ := h.run
  rw [h.vals]; exact kvals_lt _ _
theorem After.turn {q : QS} {kind : Nat} {rs : List RuleP} {g : GS} {n : Nat} (h : After q kind rs g n) : turnTo (winsL q kind) n = g.turn := by
  refine turnTo_of _ _ _ (by rw [winsL_len]; exact h.stands.le) (fun hh => ?_) h.cnt
  rw [winsL_len] at hh
  rw [winsL_at q kind _ hh]
  exact h.stands.lose hh
theorem after_open {q : QS} (hq : QGood q) {kind : Nat} (hk : kind = 1 ∨ kind = 2) (ss : List Stp) : After q kind (rulesW kind ss) (openW q kind ss) 0 := by
  obtain ⟨bs, h1, h2, h3⟩ := open_run hq hk ss
  refine ⟨⟨bs, h1⟩, h2, ?_⟩
  have := cnt_stay (winsL q kind) 0 (openW q kind ss).turn (by rw [winsL_len, Nat.zero_add]; exact h2.le) (fun j hj _ hlt => by
    have hj' : j < (progBlocks q.vars).length := by rw [← winsL_len q kind]; exact hj
    rw [winsL_at q kind j hj']
    exact h3 j hj' (by omega))
  rw [Nat.zero_add] at this
  rw [this]; simp
theorem after_move {q : QS} (hq : QGood q) {kind : Nat} (hk : kind = 1 ∨ kind = 2) {rs : List RuleP} {g : GS} {n : Nat} (h : After q kind rs g n) (ht : g.turn < (progBlocks q.vars).length) (bits : Nat) : After q kind rs (moveW rs (blW q kind) g bits) (n + 1) := by
  obtain ⟨bs, hr⟩ := h.run
  obtain ⟨b2, h1, h2, h3, h4, _⟩ := move_run hq hk hr h.stands ht bits
  refine ⟨⟨_, h1⟩, h2, ?_⟩
  generalize moveW rs (blW q kind) g bits = g' at *
  obtain ⟨m, hm⟩ : ∃ m, g'.turn = g.turn + 1 + m := ⟨g'.turn - (g.turn + 1), by omega⟩
  have hle := h2.le
  have ht' : g.turn < (winsL q kind).length := by rw [winsL_len]; exact ht
  have := cnt_stay (winsL q kind) (g.turn + 1) m (by rw [winsL_len]; omega) (fun j hj h5 h6 => by
    have hj' : j < (progBlocks q.vars).length := by rw [← winsL_len q kind]; exact hj
    rw [winsL_at q kind j hj']
    exact h4 j hj' h5 (by omega))
  rw [hm, this, cnt_succ _ _ ht', h.cnt, winsL_at q kind _ ht, h.stands.lose ht]
  rfl
/-- Moves that may be played one after another. -/
def Legal (q : QS) (kind : Nat) (ms : List Nat) : Prop := ∀ i (hi : i < ms.length), ∃ ht : turnTo (winsL q kind) i < (progBlocks q.vars).length, ms[i] < 2 ^ (progBlocks q.vars)[turnTo (winsL q kind) i].length
theorem legal_nil (q : QS) (kind : Nat) : Legal q kind [] := fun i hi => by cases hi
theorem legal_snoc {q : QS} {kind : Nat} {ms : List Nat} (h : Legal q kind ms) (k : Nat) (ht : turnTo (winsL q kind) ms.length < (progBlocks q.vars).length) (hk : k < 2 ^ (progBlocks q.vars)[turnTo (winsL q kind) ms.length].length) : Legal q kind (ms ++ [k]) := by
  intro i hi
  rw [List.length_append, List.length_singleton] at hi
  by_cases hlt : i < ms.length
  · obtain ⟨a, b⟩ := h i hlt
    exact ⟨a, by rw [List.getElem_append_left hlt]; exact b⟩
  · have e : i = ms.length := by omega
    subst e
    exact ⟨ht, by simpa using hk⟩
theorem moveE_zero {q : QS} {kind : Nat} {g : GS} (ht : g.turn < (progBlocks q.vars).length) {b : Nat} (hb : b < 2 ^ (progBlocks q.vars)[g.turn].length) : MoveE (blW q kind) g (b : Int) = 0 := by
  unfold MoveE
  rw [blW_length, if_neg (by omega), blW_at q kind _ ht, if_neg]
  rintro (h | h)
  · omega
  · have : ((2 ^ (progBlocks q.vars)[g.turn].length : Nat) : Int) ≤ (b : Int) := by simpa using h
    omega
theorem moveE_bad {q : QS} {kind : Nat} {g : GS} (ht : g.turn < (progBlocks q.vars).length) (b : Int) (hb : b < 0 ∨ b = ((2 ^ (progBlocks q.vars)[g.turn].length : Nat) : Int)) : MoveE (blW q kind) g b = 6 := by
  unfold MoveE
  rw [blW_length, if_neg (by omega), blW_at q kind _ ht, if_pos]
  rcases hb with hb | hb
  · exact Or.inl hb
  · right; rw [hb]; simp
theorem moveE_over {q : QS} {kind : Nat} {g : GS} (ht : g.turn = (progBlocks q.vars).length) (b : Int) : MoveE (blW q kind) g b = 7 := by
  unfold MoveE
  rw [blW_length, if_pos (by omega)]
theorem moveG_zero {q : QS} {kind : Nat} {rs : List RuleP} {g : GS} {b : Nat} (h : MoveE (blW q kind) g (b : Int) = 0) : MoveG rs (blW q kind) g (b : Int) = moveW rs (blW q kind) g b := by
  unfold MoveG; rw [if_pos h, Int.toNat_natCast]
theorem moveG_bad {q : QS} {kind : Nat} {rs : List RuleP} {g : GS} {b : Int} (h : MoveE (blW q kind) g b ≠ 0) : MoveG rs (blW q kind) g b = g := by
  unfold MoveG; rw [if_neg h]
/-- The formula of a text, a proof of it. -/
structure KP (l p : List UInt8) (q : QS) (kind : Nat) : Prop where
  good : QGood q
  text : ∃ P C qs cs, TextIs l P C qs cs ∧ FQ (formN qs cs) q ∧ FOk (formN qs cs)
  read : ∃ ls, readQ q p = .inr (kind, ls)
theorem KP.kind {l p : List UInt8} {q : QS} {kind : Nat} (h : KP l p q kind) : kind = 1 ∨ kind = 2 := by
  obtain ⟨ls, h⟩ := h.read
  exact readQ_kind h
theorem text_load {l : List UInt8} {q : QS} (h : loadSpec l = .inr q) : QGood q ∧ ∃ P C qs cs, TextIs l P C qs cs ∧ FQ (formN qs cs) q ∧ FOk (formN qs cs) := by
  obtain ⟨hg, F, h1, h2, h3⟩ := load_good h
  obtain ⟨P, C, qs, cs, h4, rfl⟩ := text_of l F h1
  exact ⟨hg, P, C, qs, cs, h4, h2, h3⟩
theorem kp_uni {l p : List UInt8} {q : QS} {kind : Nat} (h : KP l p q kind) (b : List Nat) (hb : b ∈ progBlocks q.vars) (v : Nat) (hv : b.head? = some v) : (kuni l (v : Int) == (kind == 2)) = !winsW q kind b := by
  obtain ⟨P, C, qs, cs, hT, hF, hO⟩ := h.text
  have hvb : v ∈ b := List.mem_of_mem_head? (by rw [hv]; simp)
  have hm : v ∈ (progBlocks q.vars).flatten := List.mem_flatten.2 ⟨b, hb, hvb⟩
  rw [progBlocks_flat] at hm
  obtain ⟨x, hx, rfl⟩ := List.mem_map.1 hm
  have h1 := wins_all h.good h.kind hb hx hvb
  rw [← h1, kuni_all hT x.1 (h.good.qb.names x hx).1]
  have h2 : (allN qs).testBit x.1 = x.2 := hF.kinds x hx
  rw [h2]
  rfl
theorem kp_won {l p : List UInt8} {q : QS} {kind : Nat} (h : KP l p q kind) {ss : List Stp} (hr : readQ q p = .inr (kind, litsL ss)) (ht : Tags q kind ss) (hb : SBs ss) {g : GS} {n : Nat} (ha : After q kind (rulesW kind ss) g n) (he : g.turn = (progBlocks q.vars).length) : satT (fun v => valV g.vals v) l = (kind == 2) := by
  obtain ⟨P, C, qs, cs, hT, hF, hO⟩ := h.text
  obtain ⟨s1, s2, _⟩ := steps_of hF hO hr ht hb
  obtain ⟨bs, hrun⟩ := ha.run
  have hw := won_end h.good h.kind s1 s2 hrun he
  have hs := won_sat h.good hrun hw
  have hcl : cs = q.cl := hF.cl
  have hl : bs.length = q.vars.length := by rw [hrun.len, he, offs_all, progBlocks_flat, List.length_map]
  rw [satT_eq hT (fun v => valV g.vals v) g.vals.1, hcl, hs]
  intro c hc v hv
  have hm : v ∈ (formN qs cs).order := by
    refine hF.vars c (by rw [← hcl]; exact hc) v ?_
    rw [Nat.testBit_or, Bool.or_eq_true] at hv
    exact hv
  rw [hF.order] at hm
  obtain ⟨x, hx, rfl⟩ := List.mem_map.1 hm
  obtain ⟨j, hj, rfl⟩ := List.getElem_of_mem hx
  have hval := run_val h.good hrun hj (by omega)
  have hL : L g.vals true q.vars[j].1 = g.vals.1.testBit q.vars[j].1 := rfl
  unfold Agrees
  dsimp only
  rw [← hL]
  cases h0 : L g.vals false q.vars[j].1 with
  | true =>
    have hu := run_uniq h.good hrun h0
    have e : valV g.vals q.vars[j].1 = -1 := by unfold valV; rw [h0]; rfl
    rw [hu, e]
    exact ⟨rfl, rfl⟩
  | false =>
    cases h1 : L g.vals true q.vars[j].1 with
    | true =>
      have e : valV g.vals q.vars[j].1 = 1 := by unfold valV; rw [h0, h1]; rfl
      rw [e]
      exact ⟨rfl, rfl⟩
    | false =>
      exfalso
      have e : valV g.vals q.vars[j].1 = 0 := by unfold valV; rw [h0, h1]; rfl
      rw [e] at hval
      split at hval <;> cases hval
theorem turnTo_le (ws : List Bool) : ∀ k, turnTo ws k ≤ ws.length := by
  induction ws with
  | nil => intro k; exact Nat.le_refl _
  | cons b ws ih =>
    intro k
    rw [List.length_cons]
    cases b with
    | true => rw [turnTo]; have := ih k; omega
    | false =>
      rw [turnTo]
      split
      · omega
      · have := ih (k - 1); omega
theorem turnTo_up (ws : List Bool) : ∀ k, turnTo ws k < ws.length → turnTo ws k + 1 ≤ turnTo ws (k + 1) := by
  induction ws with
  | nil => intro k h; simp [turnTo] at h
  | cons b ws ih =>
    intro k h
    rw [List.length_cons] at h
    cases b with
    | true =>
      rw [turnTo] at h ⊢
      rw [turnTo]
      have := ih k (by omega)
      omega
    | false =>
      rw [turnTo] at h ⊢
      rw [turnTo, if_neg (show k + 1 ≠ 0 by omega), Nat.add_sub_cancel]
      by_cases hk : k = 0
      · rw [if_pos hk]; omega
      · rw [if_neg hk] at h ⊢
        have := ih (k - 1) (by omega)
        rw [show k - 1 + 1 = k from by omega] at this
        omega
end Go.Proofs.YtgipjjhkhfihpabGreatDoor

namespace Go.Proofs.YtgipjjhkhfihpabGreatDoor
open Go.RowKit

/-! ### duelkeep: universal -/
theorem ktail_next (r : List UInt8) (k : Nat) (h : k < r.length) (h1 : 1 ≤ k) : (r.take (k + 1)).drop 1 = (r.take k).drop 1 ++ [r[k]] := by
  rw [List.take_succ_eq_append_getElem h, List.drop_append_of_le_length (by rw [List.length_take]; omega)]
theorem ktail_all (r : List UInt8) (k : Nat) (h : r.length ≤ k) : (r.take k).drop 1 = r.tail := by rw [List.take_of_length_le h, List.drop_one]
theorem kany_next {α : Type} (l : List α) (p : α → Bool) (k : Nat) (h : k < l.length) (h0 : (l.take k).any p = false) (h1 : p l[k] = false) : (l.take (k + 1)).any p = false := by
  rw [List.take_succ_eq_append_getElem h, List.any_append, h0, List.any_cons, h1]; rfl
theorem kany_hit {α : Type} (l : List α) (p : α → Bool) (k : Nat) (h : k < l.length) (h1 : p l[k] = true) : l.any p = true := List.any_eq_true.2 ⟨l[k], List.getElem_mem h, h1⟩
attribute [local go_sem] ba_get
set_option maxRecDepth 100000 in
set_option maxHeartbeats 1600000 in
theorem kuniversal_any (l : List UInt8) (v : Nat) (w : World) (hl : l.length ≤ 8192) :
    Calls Tryz.prog 39 #[.string ⟨l.toArray⟩, .int .i64 (v : Int)] w fun e w' => e = .returned (.bool (kuni l (v : Int))) ∧ Below w.heap.size w w' := by
  go_enter Tryz.func39, Tryz.ntmps39
  go_wp2_with fail
  refine (klines_any l w (by omega)).mono ?_
  rintro e u1 ⟨vl, rfl, hown, b1⟩
  have hrl : (klinesOf l).length ≤ 8192 := by have := (cutTo_size 10 l).1; unfold klinesOf; omega
  have hrr : ∀ r ∈ klinesOf l, r.length ≤ 8192 := fun r hr => by have := cutAt_len 10 l r (by unfold cutAt; exact List.mem_append_left _ hr); omega
  have HU : Hid (kuni l (v : Int) = (klinesOf l).any (fun r => uniRow r (v : Int))) := hide rfl
  generalize klinesOf l = rows at *
  have HRR := hide hrr
  clear hrr
  obtain ⟨aL, cL, rfl⟩ := own_form hown
  go_wp2_with fail
  go_loopg [6] (rows.length) (fun m vi wx => ∃ (i : Nat), vi = .int .i64 (i : Int) ∧ i + m = rows.length ∧ (rows.take i).any (fun r => uniRow r (v : Int)) = false ∧ Below u1.heap.size u1 wx)
  case atStart => exact ⟨0, rfl, by omega, by simp, Below.refl _ _⟩
  case round =>
    obtain ⟨i, rfl, him, hno, hb⟩ := hrel
    have HNO := hide hno
    clear hno
    by_cases hlt : i < rows.length
    · have hd3 : decide ((i : Int) < (rows.length : Int)) = true := decide_eq_true (by omega)
      have hd4 : decide (i < rows.length) = true := decide_eq_true hlt
      obtain ⟨g, cap, hVe, hgl, hg', hg'', hcell⟩ := own_pos (own_below hown hb) (by omega)
      injection hVe with hVe _ hV2
      subst hVe hV2
      have hx := hcell _ _ (mapS_at rows i hlt)
      have hr0 := unhide HRR rows[i] (List.getElem_mem hlt)
      have HN := hide (fun h => kany_next rows (fun r => uniRow r (v : Int)) i hlt (unhide HNO) h)
      have HH := hide (fun h => kany_hit rows (fun r => uniRow r (v : Int)) i hlt h)
      have HOW : Hid (∀ wx, Below wr.heap.size wr wx → wx.cell? ⟨g, i, none⟩ = some (S rows[i])) := hide (fun wx hbx => by
        obtain ⟨g2, cap2, hVe2, _, _, _, hcell2⟩ := own_pos (own_below (own_below hown hb) hbx) (by omega)
        injection hVe2 with hVe2 _ _
        injection hVe2 with hVe2
        injection hVe2 with hVe2
        subst hVe2
        exact hcell2 _ _ (mapS_at rows i hlt))
      clear hcell HRR HNO
      generalize rows[i] = r at *
      go_wp2_with fail
      refine (kstarts_any r 97 wr (by omega)).mono ?_
      rintro e u2 ⟨rfl, b2⟩
      have hb2 := hb.trans (b2.mono hb.size)
      have hx2 := unhide HOW u2 b2
      obtain ⟨go, rfl⟩ : ∃ go, go = gk := ⟨_, rfl⟩
      by_cases hst : (r.head? == some 97) = true
      · have HUR : Hid (uniRow r (v : Int) = r.tail.any (fun b => (b.toNat : Int) - 48 == (v : Int))) := hide (by unfold uniRow; rw [hst, Bool.true_and])
        have hrp : 1 ≤ r.length := by cases r with | nil => cases hst | cons x xs => simp
        rw [hst]
        clear hst
        go_wp2_with fail
        go_loopg [8] (r.length) (fun m vk wx => ∃ (k : Nat), vk = .int .i64 (k : Int) ∧ k + m = r.length + 1 ∧ 1 ≤ k ∧ k ≤ r.length ∧ ((r.take k).drop 1).any (fun b => (b.toNat : Int) - 48 == (v : Int)) = false ∧ wx = u2)
        case atStart => exact ⟨1, rfl, by omega, by omega, hrp, by rw [List.drop_of_length_le (by rw [List.length_take]; omega)]; rfl, rfl⟩
        case round =>
          obtain ⟨k, rfl, hkm, hk1, hkr, hnk, rfl⟩ := hrel
          have HNK := hide hnk
          clear hnk
          by_cases hlt2 : k < r.length
          · have hd5 : decide ((k : Int) < (r.length : Int)) = true := decide_eq_true (by omega)
            have hd6 : decide (k < r.length) = true := decide_eq_true hlt2
            have hx256 := r[k].toNat_lt
            by_cases hbv : ((r[k].toNat : Int) - 48 == (v : Int)) = true
            · have HA : Hid (r.tail.any (fun b => (b.toNat : Int) - 48 == (v : Int)) = true) := hide (by
                refine List.any_eq_true.2 ⟨r[k], ?_, hbv⟩
                rw [← List.drop_one]
                refine List.mem_iff_getElem.2 ⟨k - 1, by rw [List.length_drop]; omega, ?_⟩
                rw [List.getElem_drop]
                congr 1
                omega)
              go_wp2_with fail
              go_ret
              exact ⟨by rw [unhide HU, unhide HH (by rw [unhide HUR]; exact unhide HA)]; rfl, b1.trans (hb2.mono b1.size)⟩
            · have hbv2 : ((r[k].toNat : Int) - 48 == (v : Int)) = false := by simpa using hbv
              have HNK2 : Hid (((r.take (k + 1)).drop 1).any (fun b => (b.toNat : Int) - 48 == (v : Int)) = false) := hide (by rw [ktail_next r k hlt2 hk1, List.any_append, unhide HNK, List.any_cons, hbv2]; rfl)
              clear hbv
              go_wp2_with fail
              go_roundg (gk - 1)
              case measure => omega
              case rel => exact ⟨k + 1, by go_num, by omega, by omega, by omega, unhide HNK2, rfl⟩
          · have hd5 : decide ((k : Int) < (r.length : Int)) = false := decide_eq_false (by omega)
            have hd6 : decide (k < r.length) = false := decide_eq_false hlt2
            have HF : Hid (uniRow r (v : Int) = false) := hide (by rw [unhide HUR, ← ktail_all r k (by omega)]; exact unhide HNK)
            clear HNK
            go_wp2_with fail
            go_roundg (go - 1)
            case measure => omega
            case rel => exact ⟨i + 1, by go_num, by omega, unhide HN (unhide HF), hb2⟩
      · have hst2 : (r.head? == some 97) = false := by simpa using hst
        have HF : Hid (uniRow r (v : Int) = false) := hide (by unfold uniRow; rw [hst2, Bool.false_and])
        rw [hst2]
        clear hst hst2
        go_wp2_with fail
        go_loopg [8] 0 (fun m vk wx => vk = .int .i64 1 ∧ wx = u2)
        case atStart => exact ⟨rfl, rfl⟩
        case round =>
          obtain ⟨rfl, rfl⟩ := hrel
          go_wp2_with fail
          go_roundg (go - 1)
          case measure => omega
          case rel => exact ⟨i + 1, by go_num, by omega, unhide HN (unhide HF), hb2⟩
    · have hd3 : decide ((i : Int) < (rows.length : Int)) = false := decide_eq_false (by omega)
      have hd4 : decide (i < rows.length) = false := decide_eq_false hlt
      have HF : Hid (kuni l (v : Int) = false) := hide (by rw [unhide HU]; have := unhide HNO; rw [List.take_of_length_le (by omega)] at this; exact this)
      go_wp2_with fail
      go_ret
      exact ⟨by rw [unhide HF]; rfl, b1.trans (hb.mono b1.size)⟩
end Go.Proofs.YtgipjjhkhfihpabGreatDoor
