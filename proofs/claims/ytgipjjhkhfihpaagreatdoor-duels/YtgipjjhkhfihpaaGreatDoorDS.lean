import Derived.Test.YtgipjjhkhfihpaaGreatDoorDQ
import Derived.Test.YtgipjjhkhfihpaaGreatDoorDR
import Derived.Test.YtgipjjhkhfihpaaGreatDoorDO
import Derived.Test.YtgipjjhkhfihpaaGreatDoorDF
namespace Go.Proofs.YtgipjjhkhfihpaaGreatDoor
open Go.RowKit

/-! ### A duel's Turn, Move, Values -/
set_option maxRecDepth 100000 in
set_option maxHeartbeats 1600000 in
theorem dturn_any (b : Nat) (t : TypeId) (bl : BL) (rs : List RuleP) (g : GS) (gv : GV) (w : World) (hG : GameAt w b t bl rs g gv) :
    Calls Tryz.prog 36 #[.pointer (some ⟨b, 0, none⟩)] w fun e w' => e = .returned (.int .i64 (g.turn : Int)) ∧ w' = w := by
  have lb := blk_lt hG.fb
  go_enter Tryz.func36, Tryz.ntmps36
  go_wp2_with fail
  refine (gturn_any b t bl rs g gv w hG).mono ?_
  rintro e w1 ⟨rfl, hw1⟩
  subst hw1
  go_wp2_with fail
  go_ret
  exact ⟨rfl, rfl⟩
set_option maxRecDepth 100000 in
set_option maxHeartbeats 1600000 in
theorem dvalues_any (b : Nat) (t : TypeId) (bl : BL) (rs : List RuleP) (g : GS) (gv : GV) (w : World) (hG : GameAt w b t bl rs g gv) (hp : g.vals.1 < 512 ∧ g.vals.2 < 512) :
    Calls Tryz.prog 37 #[.pointer (some ⟨b, 0, none⟩)] w fun e w' => ∃ k, e = .returned (.slice (some ⟨k, 0, none⟩) 8 8) ∧ w.heap.size ≤ k ∧ w'.heap[k]? = some (.cells (valTo g.vals 8).toArray 3 (0, 0)) ∧ Below w.heap.size w w' := by
  have lb := blk_lt hG.fb
  go_enter Tryz.func37, Tryz.ntmps37
  go_wp2_with fail
  refine (gvalues_any b t bl rs g gv w hG hp).mono ?_
  rintro e w1 ⟨k, rfl, h1, h2, h3⟩
  go_wp2_with fail
  go_ret
  exact ⟨k, rfl, h1, h2, h3⟩
set_option maxRecDepth 100000 in
set_option maxHeartbeats 1600000 in
theorem dmove_any (b : Nat) (t : TypeId) (bl : BL) (rs : List RuleP) (g : GS) (gv : GV) (bits : Int) (w : World) (hG : GameAt w b t bl rs g gv) (hR : RBd rs) (hB : BBd bl) (hp : g.vals.1 < 512 ∧ g.vals.2 < 512) (ht : g.turn ≤ bl.length) (hbi : i64ok bits) :
    Calls Tryz.prog 53 #[.pointer (some ⟨b, 0, none⟩), .int .i64 bits] w fun e w' => e = .returned (.int .i64 (MoveE bl g bits : Nat)) ∧ GameAt w' b t bl rs (MoveG rs bl g bits) gv ∧ Only (· = b) w w' := by
  have lb := blk_lt hG.fb
  go_enter Tryz.func53, Tryz.ntmps53
  go_wp2_with fail
  refine (gmove_any b t bl rs g gv bits w hG hR hB hp ht hbi).mono ?_
  rintro e w1 ⟨rfl, h2, h3⟩
  go_wp2_with fail
  go_ret
  exact ⟨rfl, h2, h3⟩
end Go.Proofs.YtgipjjhkhfihpaaGreatDoor

namespace Go.Proofs.YtgipjjhkhfihpaaGreatDoor
open Go.RowKit

/-! ### Open -/
def GFresh (n : Nat) (gv : GV) : Prop := (∀ k, gv.vB.ownBlock = some k → n ≤ k) ∧ (∀ k, gv.vR.ownBlock = some k → n ≤ k) ∧ ∀ j (hj : j < gv.hdrs.length) k, gv.hdrs[j].ownBlock = some k → n ≤ k
def GameV (g : GS) (gv : GV) : Value := .agg #[gv.vB, gv.vR, .int .i64 (g.turn : Int), .int .i64 (g.vals.1 : Int), .int .i64 (g.vals.2 : Int)]
def OpenPost (q : QS) (kind : Nat) (ss : List Stp) (w : World) (e : Ending) (w' : World) : Prop :=
  ∃ gv, e = .returned (GameV (openW q kind ss) gv) ∧ GRows w' (blW q kind) (rulesW kind ss) gv ∧ GFresh w.heap.size gv ∧ Below w.heap.size w w'
theorem flat_len (bs : List (List Nat)) (h : ∀ b ∈ bs, b ≠ []) : bs.length ≤ bs.flatten.length := by
  induction bs with
  | nil => simp
  | cons b bs ih =>
    have h1 := ih (fun x hx => h x (List.mem_cons_of_mem _ hx))
    have h2 : 0 < b.length := List.length_pos_iff.2 (h b (by simp))
    simp only [List.flatten_cons, List.length_append, List.length_cons]
    omega
theorem blocks_le (vs : List (Nat × Bool)) (h : vs.length ≤ 8) : (progBlocks vs).length ≤ 8 := by
  have := flat_len (progBlocks vs) (fun b hb => (progBlocks_kind vs b hb).1)
  rw [progBlocks_flat, List.length_map] at this
  omega
theorem block_len (vs : List (Nat × Bool)) (h : vs.length ≤ 8) (b : List Nat) (hb : b ∈ progBlocks vs) : b.length ≤ 8 := by
  have h1 : b.length ≤ (progBlocks vs).flatten.length := by
    have := (List.sublist_flatten_of_mem hb).length_le
    exact this
  rw [progBlocks_flat, List.length_map] at h1
  omega
theorem bbd_of {q : QS} (hQ : QB q) (kind : Nat) : BBd (blW q kind) := by
  refine ⟨by rw [blW_length]; exact blocks_le q.vars hQ.vl, fun x hx => ?_⟩
  obtain ⟨b, hb, rfl⟩ := List.mem_map.1 (show x ∈ (progBlocks q.vars).map _ from hx)
  refine ⟨block_len q.vars hQ.vl b hb, fun v hv => ?_⟩
  have hm : v ∈ (progBlocks q.vars).flatten := List.mem_flatten.2 ⟨b, hb, hv⟩
  rw [progBlocks_flat] at hm
  obtain ⟨y, hy, rfl⟩ := List.mem_map.1 hm
  exact hQ.names y hy
theorem rbd_of {ss : List Stp} (h : SBs ss) (kind : Nat) : RBd (rulesW kind ss) := by
  refine ⟨?_, fun r hr => ?_⟩
  · unfold rulesW
    rw [List.length_map]
    exact Nat.le_trans (List.length_filter_le _ _) h.len
  · unfold rulesW at hr
    obtain ⟨s, hs, rfl⟩ := List.mem_map.1 hr
    have hs' := h.bits s (List.mem_filter.1 hs).1
    have hm := minus_lt (litsAt ss s.first) s.lits (litsAt_lt ss h.bits s.first)
    unfold ruleW swapL
    split
    · exact ⟨⟨hs'.2, hs'.1⟩, hm.2, hm.1⟩
    · exact ⟨hs', hm⟩
theorem ans_lt (rs : List RuleP) (bl : BL) : ∀ (m : Nat) (g : GS), g.vals.1 < 512 ∧ g.vals.2 < 512 → (ansGo rs bl m g).vals.1 < 512 ∧ (ansGo rs bl m g).vals.2 < 512 := by
  have hblk : ∀ (vs : List Nat) (c : Nat × Nat), c.1 < 512 ∧ c.2 < 512 → (ansBlock rs vs c).1 < 512 ∧ (ansBlock rs vs c).2 < 512 := by
    intro vs
    induction vs with
    | nil => intro c h; exact h
    | cons v vs ih => intro c h; exact ih _ (withLit_lt _ _ h.1 h.2)
  intro m
  induction m with
  | zero => intro g h; exact h
  | succ m ih =>
    intro g h
    rw [ansGo]
    split
    · exact ih _ (hblk _ _ h)
    · exact h
/-- While the blocks are gathered. -/
structure OAt (u wx : World) (gb : Nat) (bl : BL) (hdrs : List Value) (vR : Value) (k : Nat) (vB : Value) : Prop where
  gg : wx.heap[gb]? = some (.cells #[vB, vR, .int .i64 0, .int .i64 0, .int .i64 0] 76 (0, 0))
  oB : wx.ownsRow u.heap.size 111 2 vB k (blCells (bl.take k) (hdrs.take k))
  only : Only (· = gb) u wx
theorem blCells_snoc (bl : BL) (hdrs : List Value) (k : Nat) (h : k < bl.length) (hh : k < hdrs.length) : blCells (bl.take (k + 1)) (hdrs.take (k + 1)) = blCells (bl.take k) (hdrs.take k) ++ [hdrs[k], .bool bl[k].2] := by
  unfold blCells
  rw [List.take_succ_eq_append_getElem h, List.take_succ_eq_append_getElem hh, List.zip_append (by simp; omega), List.flatMap_append]
  simp
set_option maxRecDepth 100000 in
set_option maxHeartbeats 3200000 in
theorem popen_any (q : QS) (ss : List Stp) (aV aC aS : Option Addr) (cV cC cS kind : Nat) (w : World) (hV : w.ownsRow 0 139 2 (.slice aV q.vars.length cV) q.vars.length (varCells q.vars)) (hl : q.vars.length ≤ 8)
    (hS : w.ownsRow 0 134 6 (.slice aS ss.length cS) ss.length (psCells ss)) (hSB : SBs ss) (hk : kind = 1 ∨ kind = 2) (hQ : QB q) :
    Calls Tryz.prog 26 #[.agg #[.slice aV q.vars.length cV, .slice aC q.cl.length cC], .agg #[.int .i64 (kind : Int), .slice aS ss.length cS]] w fun e w' => OpenPost q kind ss w e w' := by
  obtain ⟨i1, hi1, hz10, hz11, hz12⟩ := info_parts infoBlock
  go_enter Tryz.func26, Tryz.ntmps26
  go_wp2_with fail
  generalize hw0 : (((w.alloc (.cells #[.slice aV q.vars.length cV, .slice aC q.cl.length cC] 60)).alloc (.cells #[.int .i64 (kind : Int), .slice aS ss.length cS] 67)).alloc (.cells #[.slice none 0 0, .slice none 0 0, .int .i64 0, .int .i64 0, .int .i64 0] 76)) = u1
  have hB : Below w.heap.size w u1 := by rw [← hw0]; exact (((Below.refl _ _).alloc (Nat.le_refl _) _).alloc (by simp; try omega) _).alloc (by simp; try omega) _
  have hff : u1.heap[w.heap.size]? = some (.cells #[.slice aV q.vars.length cV, .slice aC q.cl.length cC] 60 (0, 0)) := by rw [← hw0, heap_alloc_old _ _ (by simp; try omega), heap_alloc_old _ _ (by simp; try omega)]; exact alloc_new_at (by simp)
  have hpp : u1.heap[w.heap.size + 1]? = some (.cells #[.int .i64 (kind : Int), .slice aS ss.length cS] 67 (0, 0)) := by rw [← hw0, heap_alloc_old _ _ (by simp; try omega)]; exact alloc_new_at (by simp)
  have hrs : u1.heap[w.heap.size + 1 + 1]? = some (.cells #[.slice none 0 0, .slice none 0 0, .int .i64 0, .int .i64 0, .int .i64 0] 76 (0, 0)) := by rw [← hw0]; exact alloc_new_at (by simp)
  clear hw0
  have cff0 : u1.cell? ⟨w.heap.size, 0, none⟩ = some (.slice aV q.vars.length cV) := by rw [blk_cell hff]; rfl
  have cff1 : u1.cell? ⟨w.heap.size, 1, none⟩ = some (.slice aC q.cl.length cC) := by rw [blk_cell hff]; rfl
  have lff := blk_lt hff
  have cpp0 : u1.cell? ⟨w.heap.size + 1, 0, none⟩ = some (.int .i64 (kind : Int)) := by rw [blk_cell hpp]; rfl
  have cpp1 : u1.cell? ⟨w.heap.size + 1, 1, none⟩ = some (.slice aS ss.length cS) := by rw [blk_cell hpp]; rfl
  have lpp := blk_lt hpp
  have crs0 : u1.cell? ⟨w.heap.size + 1 + 1, 0, none⟩ = some (.slice none 0 0) := by rw [blk_cell hrs]; rfl
  have crs1 : u1.cell? ⟨w.heap.size + 1 + 1, 1, none⟩ = some (.slice none 0 0) := by rw [blk_cell hrs]; rfl
  have crs2 : u1.cell? ⟨w.heap.size + 1 + 1, 2, none⟩ = some (.int .i64 0) := by rw [blk_cell hrs]; rfl
  have crs3 : u1.cell? ⟨w.heap.size + 1 + 1, 3, none⟩ = some (.int .i64 0) := by rw [blk_cell hrs]; rfl
  have crs4 : u1.cell? ⟨w.heap.size + 1 + 1, 4, none⟩ = some (.int .i64 0) := by rw [blk_cell hrs]; rfl
  have lrs := blk_lt hrs
  have hsz1 : w.heap.size ≤ u1.heap.size := hB.size
  refine (rulesOf_any ss aS cS kind _ (own_below hS hB) hSB hk).mono ?_
  rintro e u2 ⟨vR, rfl, hoR, b2⟩
  replace hB := hB.trans (b2.mono hB.size)
  replace hff := (b2.block _ (blk_lt hff)).trans hff
  replace cff0 : u2.cell? ⟨w.heap.size, 0, none⟩ = some (.slice aV q.vars.length cV) := by rw [blk_cell hff]; rfl
  replace cff1 : u2.cell? ⟨w.heap.size, 1, none⟩ = some (.slice aC q.cl.length cC) := by rw [blk_cell hff]; rfl
  replace lff := blk_lt hff
  replace hpp := (b2.block _ (blk_lt hpp)).trans hpp
  replace cpp0 : u2.cell? ⟨w.heap.size + 1, 0, none⟩ = some (.int .i64 (kind : Int)) := by rw [blk_cell hpp]; rfl
  replace cpp1 : u2.cell? ⟨w.heap.size + 1, 1, none⟩ = some (.slice aS ss.length cS) := by rw [blk_cell hpp]; rfl
  replace lpp := blk_lt hpp
  replace hrs := (b2.block _ (blk_lt hrs)).trans hrs
  replace crs0 : u2.cell? ⟨w.heap.size + 1 + 1, 0, none⟩ = some (.slice none 0 0) := by rw [blk_cell hrs]; rfl
  replace crs1 : u2.cell? ⟨w.heap.size + 1 + 1, 1, none⟩ = some (.slice none 0 0) := by rw [blk_cell hrs]; rfl
  replace crs2 : u2.cell? ⟨w.heap.size + 1 + 1, 2, none⟩ = some (.int .i64 0) := by rw [blk_cell hrs]; rfl
  replace crs3 : u2.cell? ⟨w.heap.size + 1 + 1, 3, none⟩ = some (.int .i64 0) := by rw [blk_cell hrs]; rfl
  replace crs4 : u2.cell? ⟨w.heap.size + 1 + 1, 4, none⟩ = some (.int .i64 0) := by rw [blk_cell hrs]; rfl
  replace lrs := blk_lt hrs
  have hsz2 : w.heap.size + 1 + 1 < u2.heap.size := lrs
  obtain ⟨aR, cR, rfl⟩ := own_form hoR
  have HRlt : Hid (∀ k, (Value.slice aR (rulesW kind ss).length cR).ownBlock = some k → u1.heap.size ≤ k ∧ k < u2.heap.size) := hide (fun k hk => hoR.lt k hk)
  have hRl : (rulesW kind ss).length ≤ 9000 := by have h1 := rulesTo_len kind ss ss.length; have h2 := hSB.len; unfold rulesTo at h1; rw [List.take_length] at h1; unfold rulesW; omega
  generalize hrw : rulesW kind ss = rs at *
  have HRW := hide hrw
  clear hrw
  go_wp2_with fail
  generalize hw0 : u2.alloc (.cells #[.slice none 0 0, .slice aR rs.length cR, .int .i64 0, .int .i64 0, .int .i64 0] 76) = u3
  have b3 : Below u2.heap.size u2 u3 := by rw [← hw0]; exact (Below.refl _ _).alloc (Nat.le_refl _) _
  have hgg : u3.heap[u2.heap.size]? = some (.cells #[.slice none 0 0, .slice aR rs.length cR, .int .i64 0, .int .i64 0, .int .i64 0] 76 (0, 0)) := by rw [← hw0]; exact heap_alloc_new _ _
  clear hw0
  replace hB := hB.trans (b3.mono hB.size)
  replace hff := (b3.block _ (blk_lt hff)).trans hff
  replace cff0 : u3.cell? ⟨w.heap.size, 0, none⟩ = some (.slice aV q.vars.length cV) := by rw [blk_cell hff]; rfl
  replace cff1 : u3.cell? ⟨w.heap.size, 1, none⟩ = some (.slice aC q.cl.length cC) := by rw [blk_cell hff]; rfl
  replace lff := blk_lt hff
  replace hpp := (b3.block _ (blk_lt hpp)).trans hpp
  replace cpp0 : u3.cell? ⟨w.heap.size + 1, 0, none⟩ = some (.int .i64 (kind : Int)) := by rw [blk_cell hpp]; rfl
  replace cpp1 : u3.cell? ⟨w.heap.size + 1, 1, none⟩ = some (.slice aS ss.length cS) := by rw [blk_cell hpp]; rfl
  replace lpp := blk_lt hpp
  replace hrs := (b3.block _ (blk_lt hrs)).trans hrs
  replace crs0 : u3.cell? ⟨w.heap.size + 1 + 1, 0, none⟩ = some (.slice none 0 0) := by rw [blk_cell hrs]; rfl
  replace crs1 : u3.cell? ⟨w.heap.size + 1 + 1, 1, none⟩ = some (.slice none 0 0) := by rw [blk_cell hrs]; rfl
  replace crs2 : u3.cell? ⟨w.heap.size + 1 + 1, 2, none⟩ = some (.int .i64 0) := by rw [blk_cell hrs]; rfl
  replace crs3 : u3.cell? ⟨w.heap.size + 1 + 1, 3, none⟩ = some (.int .i64 0) := by rw [blk_cell hrs]; rfl
  replace crs4 : u3.cell? ⟨w.heap.size + 1 + 1, 4, none⟩ = some (.int .i64 0) := by rw [blk_cell hrs]; rfl
  replace lrs := blk_lt hrs
  replace hoR := own_below hoR b3
  have cgg0 : u3.cell? ⟨u2.heap.size, 0, none⟩ = some (.slice none 0 0) := by rw [blk_cell hgg]; rfl
  have cgg1 : u3.cell? ⟨u2.heap.size, 1, none⟩ = some (.slice aR rs.length cR) := by rw [blk_cell hgg]; rfl
  have cgg2 : u3.cell? ⟨u2.heap.size, 2, none⟩ = some (.int .i64 0) := by rw [blk_cell hgg]; rfl
  have cgg3 : u3.cell? ⟨u2.heap.size, 3, none⟩ = some (.int .i64 0) := by rw [blk_cell hgg]; rfl
  have cgg4 : u3.cell? ⟨u2.heap.size, 4, none⟩ = some (.int .i64 0) := by rw [blk_cell hgg]; rfl
  have lgg := blk_lt hgg
  have hsz3 : u2.heap.size < u3.heap.size := lgg
  refine (qblocks_any 0 w.heap.size q _ aV cV cff0 lff (own_below hV hB) (by omega)).mono ?_
  rintro e u4 ⟨v, hdrs, rfl, hoH, hRA, b4⟩
  replace hB := hB.trans (b4.mono hB.size)
  replace hff := (b4.block _ (blk_lt hff)).trans hff
  replace cff0 : u4.cell? ⟨w.heap.size, 0, none⟩ = some (.slice aV q.vars.length cV) := by rw [blk_cell hff]; rfl
  replace cff1 : u4.cell? ⟨w.heap.size, 1, none⟩ = some (.slice aC q.cl.length cC) := by rw [blk_cell hff]; rfl
  replace lff := blk_lt hff
  replace hpp := (b4.block _ (blk_lt hpp)).trans hpp
  replace cpp0 : u4.cell? ⟨w.heap.size + 1, 0, none⟩ = some (.int .i64 (kind : Int)) := by rw [blk_cell hpp]; rfl
  replace cpp1 : u4.cell? ⟨w.heap.size + 1, 1, none⟩ = some (.slice aS ss.length cS) := by rw [blk_cell hpp]; rfl
  replace lpp := blk_lt hpp
  replace hrs := (b4.block _ (blk_lt hrs)).trans hrs
  replace crs0 : u4.cell? ⟨w.heap.size + 1 + 1, 0, none⟩ = some (.slice none 0 0) := by rw [blk_cell hrs]; rfl
  replace crs1 : u4.cell? ⟨w.heap.size + 1 + 1, 1, none⟩ = some (.slice none 0 0) := by rw [blk_cell hrs]; rfl
  replace crs2 : u4.cell? ⟨w.heap.size + 1 + 1, 2, none⟩ = some (.int .i64 0) := by rw [blk_cell hrs]; rfl
  replace crs3 : u4.cell? ⟨w.heap.size + 1 + 1, 3, none⟩ = some (.int .i64 0) := by rw [blk_cell hrs]; rfl
  replace crs4 : u4.cell? ⟨w.heap.size + 1 + 1, 4, none⟩ = some (.int .i64 0) := by rw [blk_cell hrs]; rfl
  replace lrs := blk_lt hrs
  replace hgg := (b4.block _ (blk_lt hgg)).trans hgg
  replace cgg0 : u4.cell? ⟨u2.heap.size, 0, none⟩ = some (.slice none 0 0) := by rw [blk_cell hgg]; rfl
  replace cgg1 : u4.cell? ⟨u2.heap.size, 1, none⟩ = some (.slice aR rs.length cR) := by rw [blk_cell hgg]; rfl
  replace cgg2 : u4.cell? ⟨u2.heap.size, 2, none⟩ = some (.int .i64 0) := by rw [blk_cell hgg]; rfl
  replace cgg3 : u4.cell? ⟨u2.heap.size, 3, none⟩ = some (.int .i64 0) := by rw [blk_cell hgg]; rfl
  replace cgg4 : u4.cell? ⟨u2.heap.size, 4, none⟩ = some (.int .i64 0) := by rw [blk_cell hgg]; rfl
  replace lgg := blk_lt hgg
  replace hoR := own_below hoR b4
  obtain ⟨aH, cH, rfl⟩ := own_form hoH
  go_wp2_with fail
  have hHl := hRA.len
  have hbl : (progBlocks q.vars).length ≤ 8 := blocks_le q.vars hl
  obtain ⟨bl, hbl0⟩ : ∃ bl, blW q kind = bl := ⟨_, rfl⟩
  have hbll : bl.length = (progBlocks q.vars).length := by rw [← hbl0, blW_length]
  have HBL := hide hbl0
  clear hbl0
  go_loopg [13] ((progBlocks q.vars).length) (fun m i wx => ∃ (k : Nat) (vB : Value), i = .int .i64 k ∧ k + m = (progBlocks q.vars).length ∧ OAt u4 wx u2.heap.size bl hdrs (.slice aR rs.length cR) k vB)
  case atStart => exact ⟨0, .slice none 0 0, rfl, by omega, hgg, World.ownsRow_nil _ _ _ _, Only.refl _ _⟩
  case round =>
    obtain ⟨k, vB, rfl, hkm, ⟨hgr, hoB, hon⟩⟩ := hrel
    have lgr := blk_lt hgr
    have hBr : Below w.heap.size w wr := hB.trans (hon.below (B := w.heap.size) hB.size (fun j hj e => by omega))
    have hffr := (hon.block _ lff (by omega)).trans hff
    have hppr := (hon.block _ lpp (by omega)).trans hpp
    have f0 : wr.cell? ⟨w.heap.size, 0, none⟩ = some (.slice aV q.vars.length cV) := by rw [blk_cell hffr]; rfl
    have f1 : wr.cell? ⟨w.heap.size, 1, none⟩ = some (.slice aC q.cl.length cC) := by rw [blk_cell hffr]; rfl
    have p0 : wr.cell? ⟨w.heap.size + 1, 0, none⟩ = some (.int .i64 (kind : Int)) := by rw [blk_cell hppr]; rfl
    have p1 : wr.cell? ⟨w.heap.size + 1, 1, none⟩ = some (.slice aS ss.length cS) := by rw [blk_cell hppr]; rfl
    have lf := blk_lt hffr
    have lp := blk_lt hppr
    obtain ⟨aB, cB, rfl⟩ := own_form hoB
    have g0 : wr.cell? ⟨u2.heap.size, 0, none⟩ = some (.slice aB k cB) := by rw [blk_cell hgr]; rfl
    have hoHr := own_keep hoH hon (fun j hj e => by have := (hoH.lt j hj).1; omega)
    by_cases hlt : k < (progBlocks q.vars).length
    · have hkh : k < hdrs.length := by omega
      have hkb : k < bl.length := by omega
      have hXr := own_keep (hRA.row k hlt).1 hon (fun j hj e => by have := ((hRA.row k hlt).1.lt j hj).1; omega)
      have hb8 := block_len q.vars hl _ (List.getElem_mem hlt)
      have HSN := hide (blCells_snoc bl hdrs k hkb hkh)
      have HWN : Hid (bl[k].2 = winsW q kind (progBlocks q.vars)[k]) := hide (by
        have h := blW_at q kind k hlt
        rw [unhide HBL] at h
        rw [show bl.getD k ([], false) = bl[k] from by simp [List.getD, hkb]] at h
        rw [h])
      obtain ⟨gH, cap, hVe, hg, hg', _, hcell⟩ := own_pos hoHr (by omega)
      injection hVe with hVe _ hV2
      subst hVe hV2
      have hxk : wr.cell? ⟨gH, k, none⟩ = some hdrs[k] := hcell _ _ (by simp [hkh])
      obtain ⟨aX, cX, hXf⟩ := own_form hXr
      rw [hXf] at hxk hXr
      have HXF := hide hXf
      clear hcell hXf
      have hX0 := own_lo (lo := 0) hXr (Nat.zero_le _)
      have hne0 := own_type_ne hoB hgr (by decide)
      have HNE := hide hne0
      clear hne0
      have hVr := own_below hV hBr
      obtain ⟨wo, rfl⟩ : ∃ wo, wo = wr := ⟨_, rfl⟩
      go_upto_region 30 with fail
      go_region_law (first | (refine step_call rfl 50 _ _ rfl #[.agg #[.slice aV q.vars.length cV, .slice aC q.cl.length cC], .agg #[.int .i64 (kind : Int), .slice aS ss.length cS], .slice aX (progBlocks q.vars)[k].length cX] (by simp [Act.eval]) (callWins _) ?_; refine (wins_any q aV aC aS cV q.cl.length cC ss.length cS kind (progBlocks q.vars)[k] _ _ (own_below hVr (Below.refl _ wo).drew) hl hk (own_below hX0 (Below.refl _ wo).drew) hb8).mono ?_; rintro e v1 ⟨rfl, y1⟩; refine ⟨_, rfl, ?_⟩; have x1 : Below wo.heap.size wo v1 := Below.trans (Below.refl _ wo).drew y1; have hgv := (x1.block _ lgr).trans hgr; have gv0 : v1.cell? ⟨u2.heap.size, 0, none⟩ = some (.slice aB k cB) := (by rw [blk_cell hgv]; rfl); have lgv := blk_lt hgv) | (refine step_append_at rfl (.tmp 18) (.tmp 25) 71 rfl u4.heap.size 111 i1 (.agg #[.slice none 0 0, .bool false]) 2 32 Tryz.underlying71 hi1 hz10 hz11 hz12 rfl (by decide) (.slice aB k cB) k (blCells (bl.take k) (hdrs.take k)) ((own_below hoB x1).alloc _) (by simp [Act.eval]) ⟨v1.heap.size, 0, none⟩ 1 1 [.slice aX (progBlocks q.vars)[k].length cX, .bool (winsW q kind (progBlocks q.vars)[k])] (by simp [Act.eval]) rfl (new_cells v1 [.slice aX (progBlocks q.vars)[k].length cX, .bool (winsW q kind (progBlocks q.vars)[k])] 111) (by simp [Value.oneCell']) (by decide) (by unfold maxLen; omega) (by omega) (by have := x1.size; have := hon.size; simp; omega) ?_; intro v' w' hown' hgrow hmv; obtain ⟨g4, cap4, rfl, hg4, hg4', hcap4, hcell4⟩ := own_pos hown' (by omega); have hgg' : w'.heap[u2.heap.size]? = some (.cells #[.slice aB k cB, .slice aR rs.length cR, .int .i64 0, .int .i64 0, .int .i64 0] 76 (0, 0)) := (hgrow.block _ (by simp; omega) (fun e => unhide HNE e.symm)).trans ((heap_alloc_old v1 _ lgv).trans hgv); have gw0 : w'.cell? ⟨u2.heap.size, 0, none⟩ = some (.slice aB k cB) := (by rw [blk_cell hgg']; rfl); have gz0 := blk_free hgg' 0; have lgw := blk_lt hgg'))
      all_goals
        have hns := own_type_ne hown' hgg' (by decide)
        have HO : Hid (OAt u4 (w'.setCell ⟨u2.heap.size, 0, none⟩ (.slice (some ⟨g4, 0, none⟩) (k + 1) cap4)) u2.heap.size bl hdrs (.slice aR rs.length cR) (k + 1) (.slice (some ⟨g4, 0, none⟩) (k + 1) cap4)) := hide ⟨blk_set hgg' 0 _, by rw [unhide HSN, unhide HXF, unhide HWN]; exact own_set_ne hown' (p := ⟨u2.heap.size, 0, none⟩) hns _, (((hon.trans (Only.of_below x1)).alloc _).grown hgrow (fun j hj => Or.inr (hoB.lt j hj).1)).setAt 0 _⟩
        clear hown' hgrow hmv hcell4 hns
        go_wp2_with fail
        go_roundg (gk - 1)
        case measure => omega
        case rel => exact ⟨k + 1, _, by go_num, by omega, unhide HO⟩
    · have hkn : k = (progBlocks q.vars).length := by omega
      subst hkn
      have hdk : decide (((progBlocks q.vars).length : Int) < ((progBlocks q.vars).length : Int)) = false := by simp
      have hRr := own_keep hoR hon (fun j hj e => by have := (unhide HRlt j hj).2; omega)
      have hG : GameAt wr u2.heap.size 76 bl rs ⟨0, (0, 0)⟩ ⟨.slice aB (progBlocks q.vars).length cB, .slice aR rs.length cR, hdrs⟩ := by
        refine ⟨hgr, Or.inl rfl, ?_, own_lo hRr (Nat.zero_le _), by rw [hbll]; exact hHl, fun j hj => ?_⟩
        · have h := own_lo (lo := 0) hoB (Nat.zero_le _)
          rw [List.take_of_length_le (by omega), List.take_of_length_le (by omega)] at h
          rw [hbll]; exact h
        · have hj' : j < (progBlocks q.vars).length := by omega
          have h := own_lo (lo := 0) (own_keep (hRA.row j hj').1 hon (fun i hi e => by have := ((hRA.row j hj').1.lt i hi).1; omega)) (Nat.zero_le _)
          have hrow : bl[j].1 = (progBlocks q.vars)[j] := by
            have h2 := blW_at q kind j hj'
            rw [unhide HBL] at h2
            rw [show bl.getD j ([], false) = bl[j] from by simp [List.getD, hj]] at h2
            rw [h2]
          rw [hrow]; exact h
      have hFr : GFresh w.heap.size ⟨.slice aB (progBlocks q.vars).length cB, .slice aR rs.length cR, hdrs⟩ := by
        refine ⟨fun j hj => ?_, fun j hj => ?_, fun i hi j hj => ?_⟩
        · have := (hoB.lt j hj).1; have := hB.size; omega
        · have := (unhide HRlt j hj).1; omega
        · have hi' : i < (progBlocks q.vars).length := by rw [← hHl]; exact hi
          have := ((hRA.row i hi').1.lt j hj).1; omega
      have HFR := hide hFr
      have hbd := bbd_of hQ kind
      rw [unhide HBL] at hbd
      have hrbd := rbd_of hSB kind
      rw [unhide HRW] at hrbd
      have hrsr := (hon.block _ lrs (by omega)).trans hrs
      clear hFr hRr hoHr f0 f1 p0 p1 g0
      go_wp2_with fail
      refine (answer_any u2.heap.size _ bl rs ⟨0, (0, 0)⟩ _ _ hG hrbd hbd ⟨by decide, by decide⟩ (Nat.zero_le _)).mono ?_
      rintro e w8 ⟨rfl, hG8, ho8⟩
      have HOW : Hid (openW q kind ss = ansW rs bl ⟨0, (0, 0)⟩) := hide (by unfold openW; rw [unhide HRW, unhide HBL])
      generalize ansW rs bl ⟨0, (0, 0)⟩ = g8 at *
      obtain ⟨t8, v1, v2⟩ := g8
      have hrs8 := (ho8.block _ (blk_lt hrsr) (by omega)).trans hrsr
      have x0 : w8.cell? ⟨u2.heap.size, 0, none⟩ = some (.slice aB (progBlocks q.vars).length cB) := by rw [blk_cell hG8.fb]; rfl
      have x1 : w8.cell? ⟨u2.heap.size, 1, none⟩ = some (.slice aR rs.length cR) := by rw [blk_cell hG8.fb]; rfl
      have x2 : w8.cell? ⟨u2.heap.size, 2, none⟩ = some (.int .i64 (t8 : Int)) := by rw [blk_cell hG8.fb]; rfl
      have x3 : w8.cell? ⟨u2.heap.size, 3, none⟩ = some (.int .i64 (v1 : Int)) := by rw [blk_cell hG8.fb]; rfl
      have x4 : w8.cell? ⟨u2.heap.size, 4, none⟩ = some (.int .i64 (v2 : Int)) := by rw [blk_cell hG8.fb]; rfl
      have lx := blk_lt hG8.fb
      have ly := blk_lt hrs8
      have y0 : w8.cell? ⟨w.heap.size + 1 + 1, 0, none⟩ = some (.slice none 0 0) := by rw [blk_cell hrs8]; rfl
      have y1 : w8.cell? ⟨w.heap.size + 1 + 1, 1, none⟩ = some (.slice none 0 0) := by rw [blk_cell hrs8]; rfl
      have y2 : w8.cell? ⟨w.heap.size + 1 + 1, 2, none⟩ = some (.int .i64 0) := by rw [blk_cell hrs8]; rfl
      have y3 : w8.cell? ⟨w.heap.size + 1 + 1, 3, none⟩ = some (.int .i64 0) := by rw [blk_cell hrs8]; rfl
      have y4 : w8.cell? ⟨w.heap.size + 1 + 1, 4, none⟩ = some (.int .i64 0) := by rw [blk_cell hrs8]; rfl
      have z0 := blk_free hrs8 0
      have z1 := blk_free hrs8 1
      have z2 := blk_free hrs8 2
      have z3 := blk_free hrs8 3
      have z4 := blk_free hrs8 4
      have hR := blk_set (blk_set (blk_set (blk_set (blk_set hrs8 0 (.slice aB (progBlocks q.vars).length cB)) 1 (.slice aR rs.length cR)) 2 (.int .i64 (t8 : Int))) 3 (.int .i64 (v1 : Int))) 4 (.int .i64 (v2 : Int))
      have j0 := blk_cell hR 0
      have j1 := blk_cell hR 1
      have j2 := blk_cell hR 2
      have j3 := blk_cell hR 3
      have j4 := blk_cell hR 4
      have hB8 : Below w.heap.size w w8 := hBr.trans (ho8.below (B := w.heap.size) hBr.size (fun j hj e => by omega))
      go_wp2_with fail
      refine bodyPost_ret (v := GameV ⟨t8, (v1, v2)⟩ ⟨.slice aB (progBlocks q.vars).length cB, .slice aR rs.length cR, hdrs⟩) (by simp [results, Tryz.results26, go_sem, j0, j1, j2, j3, j4, GameV]) rfl ⟨⟨.slice aB (progBlocks q.vars).length cB, .slice aR rs.length cR, hdrs⟩, by rw [unhide HOW], ?_, unhide HFR, ?_⟩
      · rw [unhide HBL, unhide HRW]
        have ho9 : Only (· = w.heap.size + 1 + 1) w8 (((((w8.setCell ⟨w.heap.size + 1 + 1, 0, none⟩ (.slice aB (progBlocks q.vars).length cB)).setCell ⟨w.heap.size + 1 + 1, 1, none⟩ (.slice aR rs.length cR)).setCell ⟨w.heap.size + 1 + 1, 2, none⟩ (.int .i64 (t8 : Int))).setCell ⟨w.heap.size + 1 + 1, 3, none⟩ (.int .i64 (v1 : Int))).setCell ⟨w.heap.size + 1 + 1, 4, none⟩ (.int .i64 (v2 : Int))) := (((((Only.refl (· = w.heap.size + 1 + 1) w8).setAt 0 _).setAt 1 _).setAt 2 _).setAt 3 _).setAt 4 _
        refine hG8.rows.keep ho9 (fun j cs e hj ht hjb => ?_)
        subst hjb
        have he := blk_type hj hrs8
        rcases ht with h2 | h2 | ⟨h2, _⟩ <;> (rw [he] at h2; revert h2; decide)
      · exact ((((hB8.setCell (p := ⟨w.heap.size + 1 + 1, 0, none⟩) (by show w.heap.size ≤ w.heap.size + 1 + 1; omega) _).setCell (p := ⟨w.heap.size + 1 + 1, 1, none⟩) (by show w.heap.size ≤ w.heap.size + 1 + 1; omega) _).setCell (p := ⟨w.heap.size + 1 + 1, 2, none⟩) (by show w.heap.size ≤ w.heap.size + 1 + 1; omega) _).setCell (p := ⟨w.heap.size + 1 + 1, 3, none⟩) (by show w.heap.size ≤ w.heap.size + 1 + 1; omega) _).setCell (p := ⟨w.heap.size + 1 + 1, 4, none⟩) (by show w.heap.size ≤ w.heap.size + 1 + 1; omega) _
end Go.Proofs.YtgipjjhkhfihpaaGreatDoor

namespace Go.Proofs.YtgipjjhkhfihpaaGreatDoor
open Go.RowKit

/-! ### A duel is opened -/
def DOpenPost (q : QS) (l : List UInt8) (w : World) (e : Ending) (w' : World) : Prop :=
  Below w.heap.size w w' ∧ match readQ q l with
    | .inl (x, i) => e = .returned (.tuple #[.pointer none, .int .i64 (x : Int), .int .i64 (i : Int)])
    | .inr (kind, ls) => ∃ ss db gv, litsL ss = ls ∧ Tagged q kind l ss ∧ SBs ss ∧ e = .returned (.tuple #[.pointer (some ⟨db, 0, none⟩), .int .i64 0, .int .i64 0]) ∧
      GameAt w' db 79 (blW q kind) (rulesW kind ss) (openW q kind ss) gv ∧ w.heap.size ≤ db ∧ GFresh w.heap.size gv
theorem readQ_pos {q : QS} {l : List UInt8} {x i : Nat} (h : readQ q l = .inl (x, i)) : 0 < x := by
  unfold readQ at h
  split at h
  · injection h with h; injection h with h1 h2; omega
  · unfold firstQ at h
    split at h
    · injection h with h; injection h with h1 h2; omega
    · split at h
      · unfold goQ at h
        split at h
        · injection h with h; injection h with h1 h2; omega
        · split at h
          · cases h
          · injection h with h; injection h with h1 h2; omega
      · injection h with h; injection h with h1 h2; omega
theorem readQ_kind {q : QS} {l : List UInt8} {kind : Nat} {ls : List (Nat × Nat)} (h : readQ q l = .inr (kind, ls)) : kind = 1 ∨ kind = 2 := by
  unfold readQ at h
  split at h
  · cases h
  · unfold firstQ at h
    split at h
    · cases h
    · split at h
      · unfold goQ at h
        split at h
        · cases h
        · split at h
          · injection h with h
            injection h with h1 h2
            rw [← h1]; unfold kindOf; split
            · exact Or.inr rfl
            · exact Or.inl rfl
          · cases h
      · cases h
set_option maxRecDepth 100000 in
set_option maxHeartbeats 1600000 in
theorem dopen_any (lo b : Nat) (q : QS) (l : List UInt8) (w : World) (hP : ProgAt lo w b q) (hQ : QB q) :
    Calls Tryz.prog 18 #[.pointer (some ⟨b, 0, none⟩), .string ⟨l.toArray⟩] w fun e w' => DOpenPost q l w e w' := by
  obtain ⟨_, vV, vC, hfb, hV, hC⟩ := hP
  have hbw := blk_lt hfb
  have k0 : w.cell? ⟨b, 0, none⟩ = some vV := by rw [blk_cell hfb]; rfl
  have k1 : w.cell? ⟨b, 1, none⟩ = some vC := by rw [blk_cell hfb]; rfl
  obtain ⟨aV, cV, rfl⟩ := own_form hV
  obtain ⟨aC, cC, rfl⟩ := own_form hC
  go_enter Tryz.func18, Tryz.ntmps18
  go_wp2_with fail
  refine (formula_any b _ _ aV aC _ cV _ cC rfl rfl w hfb).mono ?_
  rintro e w0 ⟨rfl, hA⟩
  go_wp2_with fail
  have hfm := heap_alloc_new w0 (.cells #[.slice aV q.vars.length cV, .slice aC q.cl.length cC] 60)
  have hA1 : Below w.heap.size w (w0.alloc (.cells #[.slice aV q.vars.length cV, .slice aC q.cl.length cC] 60)) := hA.alloc hA.size _
  generalize w0.alloc (.cells #[.slice aV q.vars.length cV, .slice aC q.cl.length cC] 60) = u1 at *
  refine (pread_any q _ _ l _ (own_lo (lo := 0) (own_below hV hA1) (Nat.zero_le _)) (own_lo (lo := 0) (own_below hC hA1) (Nat.zero_le _)) hQ).mono ?_
  rintro e w1 ⟨hb1, hp⟩
  have hB1 : Below w.heap.size w w1 := hA1.trans (hb1.mono hA1.size)
  cases hq : readQ q l with
  | inl xi =>
    obtain ⟨x, i⟩ := xi
    rw [hq] at hp
    have hp' : e = .returned (.tuple #[.agg #[.int .i64 0, .slice none 0 0], .int .i64 (x : Int), .int .i64 (i : Int)]) := hp
    subst hp'
    have HC := hide hq
    have hx := readQ_pos hq
    have hxb : ((x : Int) != 0) = true := by rw [bne_iff_ne]; omega
    clear hp hq
    go_wp2_with fail
    go_ret3
    exact ⟨hB1.alloc hB1.size _, by rw [unhide HC]; rfl⟩
  | inr ks =>
    obtain ⟨kind, ls⟩ := ks
    rw [hq] at hp
    obtain ⟨ss, vS, hls, htg, hsb, rfl, hS⟩ := hp
    have HC := hide hq
    have hk := readQ_kind hq
    clear hq
    obtain ⟨aS, cS, rfl⟩ := own_form hS
    have hA2 : Below w1.heap.size w1 (w1.alloc (.cells #[.int .i64 (kind : Int), .slice aS ss.length cS] 67)) := (Below.refl _ _).alloc (Nat.le_refl _) _
    have hpr := heap_alloc_new w1 (.cells #[.int .i64 (kind : Int), .slice aS ss.length cS] 67)
    have hfm1 := (hb1.block _ (blk_lt hfm)).trans hfm
    have hfm2 := (hA2.block _ (blk_lt hfm1)).trans hfm1
    have hB2 := hB1.trans (hA2.mono hB1.size)
    have hV2 := own_lo (lo := 0) (own_below hV hB2) (Nat.zero_le _)
    have hS2 := own_lo (lo := 0) (own_below hS hA2) (Nat.zero_le _)
    have f0 : (w1.alloc (.cells #[.int .i64 (kind : Int), .slice aS ss.length cS] 67)).cell? ⟨w0.heap.size, 0, none⟩ = some (.slice aV q.vars.length cV) := by rw [blk_cell hfm2]; rfl
    have f1 : (w1.alloc (.cells #[.int .i64 (kind : Int), .slice aS ss.length cS] 67)).cell? ⟨w0.heap.size, 1, none⟩ = some (.slice aC q.cl.length cC) := by rw [blk_cell hfm2]; rfl
    have p0 : (w1.alloc (.cells #[.int .i64 (kind : Int), .slice aS ss.length cS] 67)).cell? ⟨w1.heap.size, 0, none⟩ = some (.int .i64 (kind : Int)) := by rw [blk_cell hpr]; rfl
    have p1 : (w1.alloc (.cells #[.int .i64 (kind : Int), .slice aS ss.length cS] 67)).cell? ⟨w1.heap.size, 1, none⟩ = some (.slice aS ss.length cS) := by rw [blk_cell hpr]; rfl
    have lf := blk_lt hfm2
    have lp := blk_lt hpr
    go_wp2_with fail
    refine (popen_any q ss aV aC aS cV cC cS kind _ hV2 hQ.vl hS2 hsb hk hQ).mono ?_
    rintro e w3 ⟨⟨vB, vR, hdrs⟩, rfl, hrows, hfr, hb3⟩
    have hB3 := hB2.trans (hb3.mono hB2.size)
    obtain ⟨aB, cB, hBf⟩ := own_form hrows.oB
    obtain ⟨aR, cR, hRf⟩ := own_form hrows.oR
    dsimp only at hBf hRf
    subst hBf hRf
    have HRO : Hid (∀ w', Below w3.heap.size w3 w' → GRows w' (blW q kind) (rulesW kind ss) ⟨.slice aB (blW q kind).length cB, .slice aR (rulesW kind ss).length cR, hdrs⟩) := hide (fun w' h => hrows.later h)
    have HFR : Hid (GFresh w.heap.size ⟨.slice aB (blW q kind).length cB, .slice aR (rulesW kind ss).length cR, hdrs⟩) := hide ⟨fun k hk => Nat.le_trans hB2.size (hfr.1 k hk), fun k hk => Nat.le_trans hB2.size (hfr.2.1 k hk), fun j hj k hk => Nat.le_trans hB2.size (hfr.2.2 j hj k hk)⟩
    have hs3 := hB3.size
    have HT := hide htg
    have HS := hide hsb
    clear hrows hfr htg hsb
    generalize hgo : openW q kind ss = go at *
    have HGO := hide hgo
    clear hgo
    obtain ⟨t0, v0, v1⟩ := go
    unfold GameV
    dsimp only
    go_wp2_with fail
    go_ret3
    have hA3 : Below w3.heap.size w3 (w3.alloc (.cells #[.slice aB (blW q kind).length cB, .slice aR (rulesW kind ss).length cR, .int .i64 (t0 : Int), .int .i64 (v0 : Int), .int .i64 (v1 : Int)] 79)) := (Below.refl _ _).alloc (Nat.le_refl _) _
    refine ⟨hB3.trans (hA3.mono hB3.size), ?_⟩
    rw [unhide HC]
    exact ⟨ss, w3.heap.size, ⟨.slice aB (blW q kind).length cB, .slice aR (rulesW kind ss).length cR, hdrs⟩, hls, unhide HT, unhide HS, rfl, by rw [unhide HGO]; exact ⟨heap_alloc_new _ _, Or.inr rfl, unhide HRO _ hA3⟩, hs3, unhide HFR⟩
end Go.Proofs.YtgipjjhkhfihpaaGreatDoor

namespace Go.Proofs.YtgipjjhkhfihpaaGreatDoor
open Go.RowKit

/-- A row of n numbers, all of them x. -/
def marks (n : Nat) (x : Int) : Array Value := (List.replicate n (Value.int .i64 x)).toArray
def halfMarks (cur : Array Value) (i : Nat) (x : Int) : Array Value := (List.replicate i (Value.int .i64 x) ++ cur.toList.drop i).toArray
theorem halfMarks_zero (cur : Array Value) (x : Int) : halfMarks cur 0 x = cur := by simp [halfMarks]
theorem halfMarks_all (cur : Array Value) (x : Int) : halfMarks cur cur.size x = marks cur.size x := by
  unfold halfMarks marks
  rw [List.drop_of_length_le (by simp)]; simp
theorem halfMarks_size (cur : Array Value) (i : Nat) (x : Int) (h : i ≤ cur.size) : (halfMarks cur i x).size = cur.size := by
  simp [halfMarks]; omega
theorem halfMarks_succ (cur : Array Value) (i : Nat) (x : Int) (h : i < cur.size) : (halfMarks cur i x).setIfInBounds i (.int .i64 x) = halfMarks cur (i + 1) x := by
  unfold halfMarks
  apply Array.ext'
  rw [Array.toList_setIfInBounds]
  simp only
  rw [List.set_append_right _ _ (by simp)]
  simp only [List.length_replicate, Nat.sub_self]
  rw [List.drop_eq_getElem_cons (by simpa using h), List.set_cons_zero, List.replicate_succ', List.append_assoc]
  rfl

theorem Tryz.info25 : (Tryz.prog.info? 25).map (fun i => (i.zero, i.size, i.bytes)) = some (some (.slice none 0 0), 1, 24) := by kernel_rfl

/-- What 'mine' leaves. -/
structure MinePost (bw g : Nat) (cap : Nat) (nls : Nat) (hdrs : List Value) (vls : Value) (text : List UInt8) (px pf : Option Addr) (proof : List UInt8) (c4 c6 : Value) (w : World) (e : Ending) (w' : World) : Prop where
  ret : e = .returned (.tuple #[])
  only : Only (fun k => k = bw ∨ k = g ∨ vls.ownBlock = some k) w w'
  row : w'.heap[g]? = some (.cells (marks cap (-10 - (nls : Int))) 3 (0, 0))
  at_ : ∃ vls', WAt w' bw text px pf proof c4 vls' c6 ∧ w'.ownsRow (bw + 1) 25 1 vls' (nls + 1) (hdrs ++ [.slice (some ⟨g, 0, none⟩) cap cap]) ∧ (vls'.ownBlock = vls.ownBlock ∨ ∃ k, vls'.ownBlock = some k ∧ w.heap.size ≤ k)

set_option maxRecDepth 100000 in
set_option maxHeartbeats 1600000 in
theorem mine_any (bw g n cap : Nat) (cur : Array Value) (nls : Nat) (hdrs : List Value) (vls : Value) (text : List UInt8) (px pf : Option Addr) (proof : List UInt8) (c4 c6 : Value) (w : World)
    (hw : WAt w bw text px pf proof c4 vls c6) (hg : w.heap[g]? = some (.cells cur 3 (0, 0))) (hcs : cur.size = cap) (hnc : n ≤ cap) (hcm : cap ≤ maxLen) (hls : w.ownsRow (bw + 1) 25 1 vls nls hdrs) (hnl : nls ≤ 1073741824) :
    Calls Tryz.prog 39 #[.pointer (some ⟨bw, 0, none⟩), .slice (some ⟨g, 0, none⟩) n cap] w fun e w' => MinePost bw g cap nls hdrs vls text px pf proof c4 c6 w e w' := by
  have hbw : bw < w.heap.size := blk_lt hw
  have hgs : g < w.heap.size := blk_lt hg
  have hne : g ≠ bw := by
    intro e; subst e
    unfold WAt at hw
    rw [hg] at hw
    simp at hw
  have hapart : vls.ownBlock ≠ some g := fun e => by
    rcases hls.2 with ⟨rfl, _⟩ | ⟨g', c', cur', rfl, _, hh, _⟩
    · simp [Value.ownBlock] at e
    · simp [Value.ownBlock] at e
      subst e
      rw [hg] at hh
      simp at hh
  have hapw : vls.ownBlock ≠ some bw := fun e => by have := hls.lt _ e; omega
  have HCS := hide hcs; clear hcs
  obtain ⟨al, cl, rfl⟩ := own_form hls
  have hcm' := hcm
  unfold maxLen at hcm
  obtain ⟨i0, hi, hz0, hz1, hz2⟩ := info_parts Tryz.info25
  have h5 : w.cell? ⟨bw, 5, none⟩ = some (.slice al nls cl) := by rw [blk_cell hw]; rfl
  go_enter Tryz.func39, Tryz.ntmps39
  go_wp2_with fail
  go_loopg [4] cap (fun q i wx => ∃ k : Nat, i = .int .i64 k ∧ k + q = cap ∧ Only (· = g) w wx ∧ wx.heap[g]? = some (.cells (halfMarks cur k (-10 - (nls : Int))) 3 (0, 0)))
  case atStart => exact ⟨0, rfl, by omega, Only.refl _ _, by rw [halfMarks_zero]; exact hg⟩
  case round =>
    obtain ⟨k, rfl, hk, ho, hgx⟩ := hrel
    have hwx : WAt wr bw text px pf proof c4 (.slice al nls cl) c6 := (ho.block bw hbw (fun e => hne e.symm)).trans hw
    have k5 : wr.cell? ⟨bw, 5, none⟩ = some (.slice al nls cl) := by rw [blk_cell hwx]; rfl
    by_cases hlt : k < cap
    · have hsz := halfMarks_size cur k (-10 - (nls : Int)) (by have := unhide HCS; omega)
      obtain ⟨u, hu⟩ : ∃ u, wr.cell? ⟨g, k, none⟩ = some u := by
        rw [blk_cell hgx]
        exact ⟨_, Array.getElem?_eq_getElem (by rw [hsz]; have := unhide HCS; omega)⟩
      have hz := blk_free hgx k
      have HHS := hide (halfMarks_succ cur k (-10 - (nls : Int)) (by have := unhide HCS; omega))
      have HST := hide (blk_set hgx k (.int .i64 (-10 - (nls : Int))))
      clear hsz
      go_wp2_with fail
      go_roundg (gk - 1)
      case measure => omega
      case rel => exact ⟨k + 1, by go_num, by omega, ho.setAt _ _, by rw [← unhide HHS]; exact unhide HST⟩
    · have hkl : k = cap := by omega
      subst hkl
      have hgm : wr.heap[g]? = some (.cells (marks k (-10 - (nls : Int))) 3 (0, 0)) := by
        have h1 := halfMarks_all cur (-10 - (nls : Int))
        rw [unhide HCS] at h1
        rw [← h1]; exact hgx
      have hlsx : wr.ownsRow (bw + 1) 25 1 (.slice al nls cl) nls hdrs := hls.kept (row := some g) ⟨ho.os, ho.tape, ho.output, ho.size, fun j hj hne => ho.block j hj (fun e => hne (by rw [e]))⟩ (Or.inr hapart)
      have hbs : bw + 1 ≤ wr.heap.size := by have := ho.size; omega
      go_wp2_with (at_builtin; refine wpList_append_at rfl (.tmp 28) (.tmp 30) 45 rfl (bw + 1) i0 (.slice none 0 0) 1 24 Tryz.underlying45 hi hz0 hz1 hz2 rfl (by decide) _ _ _ hlsx rfl rfl rfl (by simp [Value.oneCell']) (by unfold maxLen; omega) (by omega) hbs ?_; intro v' w4 hown4 hgrow hat; have hw4 : WAt w4 bw text px pf proof c4 (.slice al nls cl) c6 := (hgrow.block bw (blk_lt hwx) (fun e => hapw e.symm)).trans hwx; obtain ⟨g3, cap3, rfl, hg3, hg3', hcap3, hcell3⟩ := own_pos hown4 (by omega); have hq5 : w4.cell? ⟨bw, 5, none⟩ = some (.slice al nls cl) := (by rw [blk_cell hw4]; rfl); have hqz := blk_free hw4 5)
      go_end0
      refine ⟨rfl, ?_, ?_, _, blk_set hw4 5 _, ownsRow_setCell_below hown4 (a := ⟨bw, 5, none⟩) (Nat.lt_succ_self bw) _, ?_⟩
      · refine Only.setCell ?_ (p := ⟨bw, 5, none⟩) (Or.inl (Or.inl rfl)) _
        exact (ho.mono (fun k _ h => Or.inr (Or.inl h))).grown hgrow (fun k hk => Or.inl (Or.inr (Or.inr hk)))
      · rw [Below.heap_setCell _ _ _ _ hne]
        rw [hgrow.block g (blk_lt hgm) (fun e => hapart e.symm)]
        exact hgm
      · rcases hat with h | ⟨k', h1, h2⟩
        · exact Or.inl h
        · exact Or.inr ⟨k', h1, by have := ho.size; omega⟩
end Go.Proofs.YtgipjjhkhfihpaaGreatDoor

namespace Go.Proofs.YtgipjjhkhfihpaaGreatDoor
open Go.RowKit

/-- Lists that were handed out, each with its own mark. -/
def LsAt (w : World) (hdrs : List Value) : Prop := ∀ i (hi : i < hdrs.length), ∃ g n, hdrs[i] = .slice (some ⟨g, 0, none⟩) n n ∧ n ≤ maxLen ∧ w.heap[g]? = some (.cells (marks n (-10 - (i : Int))) 3 (0, 0))
/-- Lists of lists that were handed out. -/
def LssAt (w : World) (hdrs : List Value) : Prop := ∀ i (hi : i < hdrs.length), hdrs[i] = .slice none 0 0 ∨ ∃ h n cs, hdrs[i] = .slice (some ⟨h, 0, none⟩) n n ∧ n ≤ maxLen ∧ w.heap[h]? = some (.cells cs 25 (0, 0)) ∧
  ∀ k, k < n → ∃ x, cs[k]? = some (.slice (some ⟨x, 0, none⟩) 2 2) ∧ w.heap[x]? = some (.cells #[.int .i64 (i : Int), .int .i64 (k : Int)] 3 (0, 0))
theorem marks_at (n : Nat) (x : Int) (k : Nat) (h : k < n) : (marks n x)[k]? = some (.int .i64 x) := by
  unfold marks; simp [h]

set_option maxRecDepth 100000 in
set_option maxHeartbeats 3200000 in
theorem looks_any (bw : Nat) (text : List UInt8) (px pf : Option Addr) (proof : List UInt8) (c4 v5 v6 : Value) (h5s h6s : List Value) (b5 b6 : Nat) (w : World) (hw : WAt w bw text px pf proof c4 v5 v6)
    (h5 : w.ownsRow b5 25 1 v5 h5s.length h5s) (h6 : w.ownsRow b6 45 1 v6 h6s.length h6s) (hls : LsAt w h5s) (hlss : LssAt w h6s) (hn5 : h5s.length ≤ 1073741824) (hn6 : h6s.length ≤ 1073741824) :
    Calls Tryz.prog 20 #[.pointer (some ⟨bw, 0, none⟩)] w fun e w' => e = .returned (.bool true) ∧ w' = w := by
  have k5 : w.cell? ⟨bw, 5, none⟩ = some v5 := by rw [blk_cell hw]; rfl
  have k6 : w.cell? ⟨bw, 6, none⟩ = some v6 := by rw [blk_cell hw]; rfl
  have HLS := hide hls
  have HLSS := hide hlss
  clear hls hlss
  obtain ⟨a5, c5, rfl⟩ := own_form h5
  obtain ⟨a6, c6, rfl⟩ := own_form h6
  go_enter Tryz.func20, Tryz.ntmps20
  go_wp2_with fail
  go_loopg [3] (h5s.length) (fun q i wx => ∃ k : Nat, i = .int .i64 k ∧ k + q = h5s.length ∧ wx = w)
  case atStart => exact ⟨0, rfl, by omega, rfl⟩
  case round =>
    obtain ⟨k, rfl, hk, hwx⟩ := hrel
    subst hwx
    obtain ⟨go, rfl⟩ : ∃ go, go = gk := ⟨_, rfl⟩
    by_cases hlt : k < h5s.length
    · obtain ⟨g5, c5', hV, hg5, hg5', _, hcell⟩ := own_pos h5 (by omega)
      injection hV with hV _ hV2
      subst hV hV2
      obtain ⟨g, n, he, hnm, hg⟩ := unhide HLS k hlt
      have hck : wr.cell? ⟨g5, k, none⟩ = some (.slice (some ⟨g, 0, none⟩) n n) := hcell k _ (by rw [List.getElem?_eq_getElem hlt, he])
      have hdk : decide ((k : Int) < (h5s.length : Int)) = true := by simp; omega
      have HE := hide he
      clear he hcell
      unfold maxLen at hnm
      go_wp2_with fail
      go_loopg [4] n (fun q i wx => ∃ j : Nat, i = .int .i64 j ∧ j + q = n ∧ wx = wr)
      case atStart => exact ⟨0, rfl, by omega, rfl⟩
      case round =>
        obtain ⟨j, rfl, hj, hwx⟩ := hrel
        subst hwx
        by_cases hjl : j < n
        · have hcj : wr.cell? ⟨g, j, none⟩ = some (.int .i64 (-10 - (k : Int))) := by rw [blk_cell hg]; exact marks_at n _ j hjl
          have hdj : decide ((j : Int) < (n : Int)) = true := by simp; omega
          have hmk : (-10 - (k : Int) != -10 - (k : Int)) = false := by simp
          go_wp2_with fail
          go_roundg (gk - 1)
          case measure => omega
          case rel => exact ⟨j + 1, by go_num, by omega, rfl⟩
        · have hdj : decide ((j : Int) < (n : Int)) = false := by simp; omega
          have hjn : j ≤ n := by omega
          go_wp2_with fail
          go_roundg (go - 1)
          case measure => omega
          case rel => exact ⟨k + 1, by go_num, by omega, rfl⟩
    · have hkl : k = h5s.length := by omega
      subst hkl
      have hdk : decide ((h5s.length : Int) < (h5s.length : Int)) = false := by simp
      go_wp2_with fail
      go_loopg [5] (h6s.length) (fun q i wx => ∃ k : Nat, i = .int .i64 k ∧ k + q = h6s.length ∧ wx = wr)
      case atStart => exact ⟨0, rfl, by omega, rfl⟩
      case round =>
        obtain ⟨k, rfl, hk6, hwx⟩ := hrel
        subst hwx
        obtain ⟨go6, rfl⟩ : ∃ go6, go6 = gk := ⟨_, rfl⟩
        by_cases hlt6 : k < h6s.length
        · obtain ⟨g6, c6', hV, hg6, hg6', _, hcell⟩ := own_pos h6 (by omega)
          injection hV with hV _ hV2
          subst hV hV2
          have hdk6 : decide ((k : Int) < (h6s.length : Int)) = true := by simp; omega
          rcases unhide HLSS k hlt6 with he | ⟨h, n, cs, he, hnm, hh, hx⟩
          · have hck : wr.cell? ⟨g6, k, none⟩ = some (.slice none 0 0) := hcell k _ (by rw [List.getElem?_eq_getElem hlt6, he])
            clear he hcell
            go_wp2_with fail
            refine wp_loop_rounds 1 ?_
            rw [rounds_succ]
            go_wp2_with fail
            go_roundg (go6 - 1)
            case measure => omega
            case rel => exact ⟨k + 1, by go_num, by omega, rfl⟩
          · have hck : wr.cell? ⟨g6, k, none⟩ = some (.slice (some ⟨h, 0, none⟩) n n) := hcell k _ (by rw [List.getElem?_eq_getElem hlt6, he])
            have HX := hide hx
            clear he hcell hx
            unfold maxLen at hnm
            go_wp2_with fail
            go_loopg [6] n (fun q i wx => ∃ j : Nat, i = .int .i64 j ∧ j + q = n ∧ wx = wr)
            case atStart => exact ⟨0, rfl, by omega, rfl⟩
            case round =>
              obtain ⟨j, rfl, hj, hwx⟩ := hrel
              subst hwx
              by_cases hjl : j < n
              · obtain ⟨x, hx1, hx2⟩ := unhide HX j hjl
                have hcj : wr.cell? ⟨h, j, none⟩ = some (.slice (some ⟨x, 0, none⟩) 2 2) := by rw [blk_cell hh]; exact hx1
                have hy0 : wr.cell? ⟨x, 0, none⟩ = some (.int .i64 (k : Int)) := by rw [blk_cell hx2]; rfl
                have hy1 : wr.cell? ⟨x, 1, none⟩ = some (.int .i64 (j : Int)) := by rw [blk_cell hx2]; rfl
                have hdj : decide ((j : Int) < (n : Int)) = true := by simp; omega
                have hm1 : ((k : Int) != (k : Int)) = false := by simp
                have hm2 : ((j : Int) != (j : Int)) = false := by simp
                go_wp2_with fail
                go_roundg (gk - 1)
                case measure => omega
                case rel => exact ⟨j + 1, by go_num, by omega, rfl⟩
              · have hdj : decide ((j : Int) < (n : Int)) = false := by simp; omega
                have hjn : j ≤ n := by omega
                go_wp2_with fail
                go_roundg (go6 - 1)
                case measure => omega
                case rel => exact ⟨k + 1, by go_num, by omega, rfl⟩
        · have hkl : k = h6s.length := by omega
          subst hkl
          have hdk6 : decide ((h6s.length : Int) < (h6s.length : Int)) = false := by simp
          go_wp2_with fail
          go_ret
          exact ⟨rfl, rfl⟩
end Go.Proofs.YtgipjjhkhfihpaaGreatDoor
