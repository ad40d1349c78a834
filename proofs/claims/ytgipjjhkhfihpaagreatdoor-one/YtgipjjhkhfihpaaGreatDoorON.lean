import Derived.Test.YtgipjjhkhfihpaaGreatDoorOA
import Derived.Test.YtgipjjhkhfihpaaGreatDoorOD
import Derived.Deep.QuietTactic
import Derived.BigQuiet
import Derived.Test.YtgipjjhkhfihpaaGreatDoorOM
import Derived.Test.YtgipjjhkhfihpaaGreatDoorOE
import Derived.Deep.DeepCutAuto
import Derived.Deep.RegionWith
import Derived.Test.YtgipjjhkhfihpaaGreatDoorOL
import Derived.Test.YtgipjjhkhfihpaaGreatDoorOC
namespace Go.Proofs.YtgipjjhkhfihpaaGreatDoor
open Go.RowKit

theorem Tryz.infoInts : (Tryz.prog.info? 25).map (fun i => (i.zero, i.size, i.bytes)) = some (some (.slice none 0 0), 1, 24) := by kernel_rfl

/-- Lists of numbers, each in a row of its own; their headers in a row. -/
structure RowsAt (base : Nat) (w : World) (bs : List (List Nat)) (hdrs : List Value) : Prop where
  len : hdrs.length = bs.length
  row : ∀ j (hj : j < bs.length), w.ownsRow base 3 1 (hdrs[j]'(by omega)) bs[j].length (ints bs[j]) ∧ bs[j] ≠ []
  apart : ∀ i j (hi : i < hdrs.length) (hj : j < hdrs.length), i ≠ j → apart hdrs[i] hdrs[j]
structure BInv (base : Nat) (w : World) (bs : List (List Nat)) (cur : List Nat) (hdrs : List Value) (vB vb : Value) : Prop where
  rows : RowsAt base w bs hdrs
  oB : w.ownsRow base 25 1 vB bs.length hdrs
  ob : w.ownsRow base 3 1 vb cur.length (ints cur)
  ap : ∀ j (hj : j < hdrs.length), apart vb hdrs[j]

theorem RowsAt.later {base : Nat} {w w' : World} {bs : List (List Nat)} {hdrs : List Value} (h : RowsAt base w bs hdrs) (hb : Below w.heap.size w w') : RowsAt base w' bs hdrs :=
  ⟨h.len, fun j hj => ⟨own_below (h.row j hj).1 hb, (h.row j hj).2⟩, h.apart⟩
theorem BInv.later {base : Nat} {w w' : World} {bs : List (List Nat)} {cur : List Nat} {hdrs : List Value} {vB vb : Value} (h : BInv base w bs cur hdrs vB vb) (hb : Below w.heap.size w w') : BInv base w' bs cur hdrs vB vb :=
  ⟨h.rows.later hb, own_below h.oB hb, own_below h.ob hb, h.ap⟩

theorem BInv.push_block {base : Nat} {w w' : World} {bs : List (List Nat)} {cur : List Nat} {hdrs : List Value} {vB vb v' : Value} (h : BInv base w bs cur hdrs vB vb) (hc : cur ≠ []) (hg : w.grownBy w' vB.ownBlock)
    (hown : w'.ownsRow base 25 1 v' (bs.length + 1) (hdrs ++ [vb])) : BInv base w' (bs ++ [cur]) [] (hdrs ++ [vb]) v' (.slice none 0 0) := by
  have hl := h.rows.len
  have kb := own_kept h.ob (Below.refl _ _) h.oB hg (by decide)
  refine ⟨⟨by simp [hl], ?_, ?_⟩, by simpa using hown, World.ownsRow_nil _ _ _ _, fun _ _ => apart_nil _⟩
  · intro j hj
    by_cases hjl : j < bs.length
    · have := h.rows.row j hjl
      simp only [List.getElem_append_left hjl, List.getElem_append_left (show j < hdrs.length by omega)]
      exact ⟨own_kept this.1 (Below.refl _ _) h.oB hg (by decide), this.2⟩
    · have hje : j = bs.length := by simp at hj; omega
      subst hje
      simp only [List.getElem_concat_length]
      rw [show (hdrs ++ [vb])[bs.length]'(by simp; omega) = vb from by simp [← hl]]
      exact ⟨kb, hc⟩
  · intro i j hi hj hij
    by_cases hil : i < hdrs.length
    · by_cases hjl : j < hdrs.length
      · simp only [List.getElem_append_left hil, List.getElem_append_left hjl]
        exact h.rows.apart i j hil hjl hij
      · have hje : j = hdrs.length := by simp at hj; omega
        subst hje
        simp only [List.getElem_append_left hil, List.getElem_concat_length]
        exact (h.ap i hil).symm
    · have hie : i = hdrs.length := by simp at hi; omega
      subst hie
      have hjl : j < hdrs.length := by simp at hj; omega
      simp only [List.getElem_append_left hjl, List.getElem_concat_length]
      exact h.ap j hjl
theorem BInv.push_var {base : Nat} {w w' : World} {bs : List (List Nat)} {cur : List Nat} {hdrs : List Value} {vB vb v' : Value} {x : Nat} (h : BInv base w bs cur hdrs vB vb) (hg : w.grownBy w' vb.ownBlock)
    (hown : w'.ownsRow base 3 1 v' (cur.length + 1) (ints cur ++ [.int .i64 (x : Int)])) (hat : v'.ownBlock = vb.ownBlock ∨ ∃ k, v'.ownBlock = some k ∧ w.heap.size ≤ k) : BInv base w' bs (cur ++ [x]) hdrs vB v' := by
  refine ⟨⟨h.rows.len, fun j hj => ⟨?_, (h.rows.row j hj).2⟩, h.rows.apart⟩, own_kept h.oB (Below.refl _ _) h.ob hg (by decide), by simpa [ints] using hown, fun j hj => ?_⟩
  · have hl := h.rows.len
    exact (h.rows.row j hj).1.kept hg (h.ap j (by omega)).symm.keep
  · have hl := h.rows.len
    exact (h.ap j hj).grown (h.rows.row j (by omega)).1 hat

/-- A block of another kind is as it was behind an append. -/
theorem blk_kept {w w' : World} {v : Value} {base n size g : Nat} {e t : TypeId} {xs : List Value} {cs : Array Value} (hg : w.grownBy w' v.ownBlock) (ho : w.ownsRow base e size v n xs) (hb : w.heap[g]? = some (.cells cs t (0, 0))) (he : t ≠ e) : w'.heap[g]? = some (.cells cs t (0, 0)) := by
  rw [hg.block g (blk_lt hb) (fun eq => by
    rcases ho.2 with ⟨rfl, _⟩ | ⟨g', cap, cur', rfl, _, hh, _⟩
    · simp [Value.ownBlock] at eq
    · simp [Value.ownBlock] at eq
      subst eq
      rw [hb] at hh
      simp at hh
      exact he hh.2)]
  exact hb

theorem gather_len (vs : List (Nat × Bool)) (k : Nat) : (gather vs k).1.length ≤ k ∧ (gather vs k).2.length ≤ k := by
  induction k with
  | zero => simp [gather]
  | succ k ih =>
    rw [gather]
    split <;> simp <;> omega

def QBlocksPost (vs : List (Nat × Bool)) (w : World) (e : Ending) (w' : World) : Prop :=
  ∃ v hdrs, e = .returned v ∧ w'.ownsRow w.heap.size 25 1 v (progBlocks vs).length hdrs ∧ RowsAt w.heap.size w' (progBlocks vs) hdrs ∧ Below w.heap.size w w'

set_option maxRecDepth 100000 in
set_option maxHeartbeats 3200000 in
theorem qblocks_any (base b : Nat) (q : QS) (w : World) (aV : Option Addr) (cV : Nat) (hf : w.cell? ⟨b, 0, none⟩ = some (.slice aV q.vars.length cV)) (hb : b < w.heap.size) (hV : w.ownsRow base 139 2 (.slice aV q.vars.length cV) q.vars.length (varCells q.vars)) (hl : q.vars.length ≤ 1048576) :
    Calls Tryz.prog 49 #[.pointer (some ⟨b, 0, none⟩)] w fun e w' => QBlocksPost q.vars w e w' := by
  obtain ⟨i3, hi3, hz30, hz31, hz32⟩ := info_parts Tryz.info3
  obtain ⟨i5, hi5, hz50, hz51, hz52⟩ := info_parts Tryz.infoInts
  go_enter Tryz.func49, Tryz.ntmps49
  go_wp2_with fail
  go_loopg [3, 4, 12] (q.vars.length) (fun n vB vb i wx => ∃ (k : Nat) (hdrs : List Value), i = .int .i64 k ∧ k + n = q.vars.length ∧ BInv w.heap.size wx (gather q.vars k).1 (gather q.vars k).2 hdrs vB vb ∧ Below w.heap.size w wx)
  case atStart => exact ⟨0, [], rfl, by omega, ⟨⟨rfl, fun j hj => by simp [gather] at hj, fun i j hi => by simp at hi⟩, World.ownsRow_nil _ _ _ _, World.ownsRow_nil _ _ _ _, fun j hj => by simp at hj⟩, Below.refl _ _⟩
  case round =>
    obtain ⟨k, hdrs, rfl, hk, hB, hbx⟩ := hrel
    have hbs := hbx.size
    obtain ⟨gl1, gl2⟩ := gather_len q.vars k
    by_cases hlt : k < q.vars.length
    · obtain ⟨g, cap, hVe, hg, hg', _, hcell⟩ := own_pos hV (by omega)
      injection hVe with hVe _ hV2
      subst hVe hV2
      have hgw : g < wr.heap.size := by omega
      have hbw : b < wr.heap.size := by omega
      obtain ⟨ha, hb'⟩ := varCells_at q.vars k hlt
      have hx0 : wr.cell? ⟨g, k * 2, none⟩ = some (.int .i64 (q.vars[k].1 : Int)) := by rw [hbx.cell (p := ⟨g, k * 2, none⟩) hg']; exact hcell _ _ ha
      have hx1 : wr.cell? ⟨g, k * 2 + 1, none⟩ = some (.bool q.vars[k].2) := by rw [hbx.cell (p := ⟨g, k * 2 + 1, none⟩) hg']; exact hcell _ _ hb'
      have hf1 : wr.cell? ⟨b, 0, none⟩ = some (.slice (some ⟨g, 0, none⟩) q.vars.length cV) := by rw [hbx.cell (p := ⟨b, 0, none⟩) hb]; exact hf
      have hdk : decide ((k : Int) < (q.vars.length : Int)) = true := by simp; omega
      have HG : Hid (gather q.vars (k + 1) = if newAt q.vars k then ((gather q.vars k).1 ++ [(gather q.vars k).2], [q.vars[k].1]) else ((gather q.vars k).1, (gather q.vars k).2 ++ [q.vars[k].1])) := hide (by
        rw [gather]; simp [List.getD, hlt])
      by_cases h0 : 0 < k
      · obtain ⟨ha1, hb1⟩ := varCells_at q.vars (k - 1) (by omega)
        have hy1 : wr.cell? ⟨g, (k - 1) * 2 + 1, none⟩ = some (.bool q.vars[k - 1].2) := by rw [hbx.cell (p := ⟨g, (k - 1) * 2 + 1, none⟩) hg']; exact hcell _ _ hb1
        have hd0 : decide (0 < k) = true := by simpa using h0
        have HN : Hid (newAt q.vars k = (q.vars[k].2 != q.vars[k - 1].2)) := hide (by
          unfold newAt kindAt; simp [List.getD, hlt, show k - 1 < q.vars.length by omega, h0])
        have hcur : (gather q.vars k).2 ≠ [] := by
          intro e
          have := gather_pos q.vars (k - 1)
          rw [show k - 1 + 1 = k from by omega, e] at this
          simp at this
        clear hcell ha hb' ha1 hb1
        generalize gather q.vars k = G at *
        obtain ⟨bs, cur⟩ := G
        dsimp only at hB gl1 gl2 hcur
        generalize q.vars[k - 1] = y at *
        generalize q.vars[k] = x at *
        obtain ⟨x1, x2⟩ := x
        obtain ⟨y1, y2⟩ := y
        dsimp only at hx0 hx1 hy1
        have hbelA : ∀ nq, Below wr.heap.size wr ((wr.alloc (.cells #[.int .i64 (x1 : Int), .bool x2] 139)).drewN nq) := fun nq => below_drewN ((Below.refl _ _).alloc (Nat.le_refl _) _) nq
        have hcvA : ∀ nq, ((wr.alloc (.cells #[.int .i64 (x1 : Int), .bool x2] 139)).drewN nq).heap[wr.heap.size]? = some (.cells #[.int .i64 (x1 : Int), .bool x2] 139 (0, 0)) := fun nq => heap_alloc_new wr _
        have HBA := hide hbelA
        have HCA := hide hcvA
        clear hbelA hcvA
        cases hxy : (x2 != y2) with
        | false =>
          have HN2 : Hid (newAt q.vars k = false) := hide (by rw [unhide HN]; exact hxy)
          have HXY := hide hxy
          clear hxy
          cases x2 <;> cases y2 <;> first | (exfalso; exact absurd (unhide HXY) (by decide)) | skip
          all_goals
            go_wp2_with fail
            go_quiet (fail)
            have hb1 := unhide HBA nq
            have hc1 := unhide HCA nq
            generalize World.drewN _ nq = W at *
            have hBW := hB.later hb1
            have hbW : Below w.heap.size w W := hbx.trans (hb1.mono hbs)
            have hbWs := hbW.size
            have hcv : W.cell? ⟨wr.heap.size, 0, none⟩ = some (.int .i64 (x1 : Int)) := by rw [blk_cell hc1]; rfl
            go_wp2_with (at_builtin; refine wpList_append_at rfl (.tmp 37) (.tmp 40) 25 rfl w.heap.size i3 (.int .i64 0) 1 8 Tryz.underlying25 hi3 hz30 hz31 hz32 rfl (by decide) _ _ _ hBW.ob rfl rfl rfl (by simp [Value.oneCell']) (by unfold maxLen; omega) (by omega) hbWs ?_; intro v5 w5 hown5 hgrow5 hat5)
            go_roundg (gk - 1)
            case measure => omega
            case rel =>
              refine ⟨k + 1, hdrs, by go_num, by omega, ?_, below_grown hbW hgrow5 hBW.ob (Nat.le_refl _) hbWs⟩
              rw [unhide HG, unhide HN2, if_neg (by decide)]
              exact hBW.push_var hgrow5 hown5 hat5
        | true =>
          have HN2 : Hid (newAt q.vars k = true) := hide (by rw [unhide HN]; exact hxy)
          have HXY := hide hxy
          clear hxy
          have hcl : 0 < cur.length := List.length_pos_iff.2 hcur
          cases x2 <;> cases y2 <;> first | (exfalso; exact absurd (unhide HXY) (by decide)) | skip
          all_goals
            go_wp2_with fail
            go_quiet (fail)
            have hb1 := unhide HBA nq
            have hc1 := unhide HCA nq
            generalize World.drewN _ nq = W at *
            have hBW := hB.later hb1
            have hbW : Below w.heap.size w W := hbx.trans (hb1.mono hbs)
            have hbWs := hbW.size
            obtain ⟨gb, capb, rfl, _, _, _, _⟩ := own_pos hBW.ob hcl
            go_wp2_with (first | (at_builtin; refine wpList_append_at rfl (.tmp 33) (.tmp 35) 45 rfl w.heap.size i5 (.slice none 0 0) 1 24 Tryz.underlying45 hi5 hz50 hz51 hz52 rfl (by decide) _ _ _ hBW.oB rfl rfl rfl (by simp [Value.oneCell']) (by unfold maxLen; omega) (by omega) hbWs ?_; intro v4 w4 hown4 hgrow4 hat4; have hB4 := hBW.push_block hcur hgrow4 hown4; have hc4 := blk_kept hgrow4 hBW.oB hc1 (by decide); have hcv : w4.cell? ⟨wr.heap.size, 0, none⟩ = some (.int .i64 (x1 : Int)) := (by rw [blk_cell hc4]; rfl); have hb4 := below_grown hbW hgrow4 hBW.oB (Nat.le_refl _) hbWs; have hb4s := hb4.size) | (at_builtin; refine wpList_append_at rfl (.tmp 37) (.tmp 40) 25 rfl w.heap.size i3 (.int .i64 0) 1 8 Tryz.underlying25 hi3 hz30 hz31 hz32 rfl (by decide) _ _ _ hB4.ob rfl rfl rfl (by simp [Value.oneCell']) (by unfold maxLen; simp) (by simp) hb4s ?_; intro v5 w5 hown5 hgrow5 hat5))
            go_roundg (gk - 1)
            case measure => omega
            case rel =>
              refine ⟨k + 1, hdrs ++ [.slice (some ⟨gb, 0, none⟩) cur.length capb], by go_num, by omega, ?_, below_grown hb4 hgrow5 hB4.ob (Nat.le_refl _) hb4s⟩
              rw [unhide HG, unhide HN2, if_pos rfl]
              exact hB4.push_var hgrow5 hown5 hat5
      · have hd0 : decide (0 < k) = false := by simpa using h0
        have HN2 : Hid (newAt q.vars k = false) := hide (by unfold newAt; rw [hd0]; rfl)
        clear hcell ha hb' h0
        generalize gather q.vars k = G at *
        obtain ⟨bs, cur⟩ := G
        dsimp only at hB gl1 gl2
        generalize q.vars[k] = x at *
        obtain ⟨x1, x2⟩ := x
        dsimp only at hx0 hx1
        have HBA : Hid (∀ nq, Below wr.heap.size wr ((wr.alloc (.cells #[.int .i64 (x1 : Int), .bool x2] 139)).drewN nq)) := hide (fun nq => below_drewN ((Below.refl _ _).alloc (Nat.le_refl _) _) nq)
        have HCA : Hid (∀ nq, ((wr.alloc (.cells #[.int .i64 (x1 : Int), .bool x2] 139)).drewN nq).heap[wr.heap.size]? = some (.cells #[.int .i64 (x1 : Int), .bool x2] 139 (0, 0))) := hide (fun nq => heap_alloc_new wr _)
        go_wp2_with fail
        go_quiet (fail)
        have hb1 := unhide HBA nq
        have hc1 := unhide HCA nq
        generalize World.drewN _ nq = W at *
        have hBW := hB.later hb1
        have hbW : Below w.heap.size w W := hbx.trans (hb1.mono hbs)
        have hbWs := hbW.size
        have hcv : W.cell? ⟨wr.heap.size, 0, none⟩ = some (.int .i64 (x1 : Int)) := by rw [blk_cell hc1]; rfl
        go_wp2_with (at_builtin; refine wpList_append_at rfl (.tmp 37) (.tmp 40) 25 rfl w.heap.size i3 (.int .i64 0) 1 8 Tryz.underlying25 hi3 hz30 hz31 hz32 rfl (by decide) _ _ _ hBW.ob rfl rfl rfl (by simp [Value.oneCell']) (by unfold maxLen; omega) (by omega) hbWs ?_; intro v5 w5 hown5 hgrow5 hat5)
        go_roundg (gk - 1)
        case measure => omega
        case rel =>
          refine ⟨k + 1, hdrs, by go_num, by omega, ?_, below_grown hbW hgrow5 hBW.ob (Nat.le_refl _) hbWs⟩
          rw [unhide HG, unhide HN2, if_neg (by decide)]
          exact hBW.push_var hgrow5 hown5 hat5
    · have hkl : k = q.vars.length := by omega
      subst hkl
      have hdk : decide ((q.vars.length : Int) < (q.vars.length : Int)) = false := by simp
      obtain ⟨pb, hpb⟩ : ∃ pb, progBlocks q.vars = pb := ⟨_, rfl⟩
      have hpb2 := hpb
      unfold progBlocks at hpb2
      have HPB := hide hpb
      have HPB2 := hide hpb2
      clear hpb hpb2
      generalize gather q.vars q.vars.length = G at *
      obtain ⟨bs, cur⟩ := G
      dsimp only at hB gl1 gl2
      by_cases hc : 0 < cur.length
      · have hdc : decide (0 < cur.length) = true := by simpa using hc
        have HP : Hid (progBlocks q.vars = bs ++ [cur]) := hide (by rw [unhide HPB, ← unhide HPB2]; exact if_pos hc)
        obtain ⟨gb, capb, rfl, _, _, _, _⟩ := own_pos hB.ob hc
        have hcur : cur ≠ [] := List.length_pos_iff.1 hc
        go_wp2_with (at_builtin; refine wpList_append_at rfl (.tmp 46) (.tmp 48) 45 rfl w.heap.size i5 (.slice none 0 0) 1 24 Tryz.underlying45 hi5 hz50 hz51 hz52 rfl (by decide) _ _ _ hB.oB rfl rfl rfl (by simp [Value.oneCell']) (by unfold maxLen; omega) (by omega) hbs ?_; intro v4 w4 hown4 hgrow4 hat4)
        go_ret
        have hB4 := hB.push_block hcur hgrow4 hown4
        refine ⟨v4, hdrs ++ [.slice (some ⟨gb, 0, none⟩) cur.length capb], rfl, ?_, ?_, below_grown hbx hgrow4 hB.oB (Nat.le_refl _) hbs⟩
        · rw [unhide HP]; exact hB4.oB
        · rw [unhide HP]; exact hB4.rows
      · have hdc : decide (0 < cur.length) = false := by simpa using hc
        have HP : Hid (progBlocks q.vars = bs) := hide (by rw [unhide HPB, ← unhide HPB2]; exact if_neg hc)
        obtain ⟨ab, cb, rfl⟩ := own_form hB.ob
        go_wp2_with fail
        go_ret
        refine ⟨_, hdrs, rfl, ?_, ?_, hbx⟩
        · rw [unhide HP]; exact hB.oB
        · rw [unhide HP]; exact hB.rows
end Go.Proofs.YtgipjjhkhfihpaaGreatDoor

namespace Go.Proofs.YtgipjjhkhfihpaaGreatDoor
open Go.RowKit

/-! ### A game in memory -/
def ruleCells (l : List RuleP) : List Value := l.flatMap (fun r => [Value.int .i64 (r.1.1 : Int), Value.int .i64 (r.1.2 : Int), Value.int .i64 (r.2.1 : Int), Value.int .i64 (r.2.2 : Int)])
theorem ruleCells_at (l : List RuleP) (k j : Nat) (h : k < l.length) (hj : j < 4) : (ruleCells l)[k * 4 + j]? = [Value.int .i64 (l[k].1.1 : Int), Value.int .i64 (l[k].1.2 : Int), Value.int .i64 (l[k].2.1 : Int), Value.int .i64 (l[k].2.2 : Int)][j]? := by
  induction l generalizing k with
  | nil => simp at h
  | cons a l ih =>
    cases k with
    | zero =>
      simp only [ruleCells, List.flatMap_cons, Nat.zero_mul, Nat.zero_add, List.getElem_cons_zero]
      rw [List.getElem?_append_left (by simpa using hj)]
    | succ k =>
      have := ih k (by simpa using h)
      simp only [ruleCells, List.flatMap_cons] at this ⊢
      rw [show (k + 1) * 4 + j = (k * 4 + j) + 4 from by omega, List.getElem?_append_right (by simp)]
      simpa using this
def blCells (l : BL) (hdrs : List Value) : List Value := (l.zip hdrs).flatMap (fun x => [x.2, Value.bool x.1.2])
theorem blCells_at (l : BL) (hdrs : List Value) (k : Nat) (h : k < l.length) (hh : k < hdrs.length) : (blCells l hdrs)[k * 2]? = some hdrs[k] ∧ (blCells l hdrs)[k * 2 + 1]? = some (.bool l[k].2) := by
  induction l generalizing k hdrs with
  | nil => simp at h
  | cons a l ih =>
    match hdrs, hh with
    | b :: hs, hh =>
      cases k with
      | zero => simp [blCells]
      | succ k =>
        have := ih hs k (by simpa using h) (by simpa using hh)
        simp only [blCells, List.zip_cons_cons, List.flatMap_cons] at this ⊢
        rw [show (k + 1) * 2 = k * 2 + 2 from by omega, show k * 2 + 2 + 1 = (k * 2 + 1) + 2 from by omega, List.getElem?_append_right (by simp), List.getElem?_append_right (by simp)]
        simpa using this
structure RBd (rs : List RuleP) : Prop where
  len : rs.length ≤ 9000
  bits : ∀ r ∈ rs, (r.1.1 < 512 ∧ r.1.2 < 512) ∧ r.2.1 < 512 ∧ r.2.2 < 512
structure GV where
  vB : Value
  vR : Value
  hdrs : List Value
/-- The rows of a game, which no one writes. -/
structure GRows (w : World) (bl : BL) (rs : List RuleP) (v : GV) : Prop where
  oB : w.ownsRow 0 111 2 v.vB bl.length (blCells bl v.hdrs)
  oR : w.ownsRow 0 149 4 v.vR rs.length (ruleCells rs)
  len : v.hdrs.length = bl.length
  row : ∀ j (hj : j < bl.length), w.ownsRow 0 3 1 (v.hdrs[j]'(by omega)) bl[j].1.length (ints bl[j].1)
structure GameAt (w : World) (b : Nat) (t : TypeId) (bl : BL) (rs : List RuleP) (g : GS) (v : GV) : Prop where
  fb : w.heap[b]? = some (.cells #[v.vB, v.vR, .int .i64 (g.turn : Int), .int .i64 (g.vals.1 : Int), .int .i64 (g.vals.2 : Int)] t (0, 0))
  tt : t = 76 ∨ t = 79
  rows : GRows w bl rs v
theorem GRows.keep {T : Nat → Prop} {w w' : World} {bl : BL} {rs : List RuleP} {v : GV} (h : GRows w bl rs v) (ho : Only T w w') (hT : ∀ k cs e, w.heap[k]? = some (.cells cs e (0, 0)) → e = 111 ∨ e = 149 ∨ (e = 3 ∧ ∃ j, ∃ hj : j < v.hdrs.length, v.hdrs[j].ownBlock = some k) → ¬ T k) : GRows w' bl rs v := by
  have hl := h.len
  refine ⟨own_keep h.oB ho (fun k hk => ?_), own_keep h.oR ho (fun k hk => ?_), h.len, fun j hj => own_keep (h.row j hj) ho (fun k hk => ?_)⟩
  · obtain ⟨c, hc⟩ := own_bk h.oB k hk; exact hT k _ _ hc (Or.inl rfl)
  · obtain ⟨c, hc⟩ := own_bk h.oR k hk; exact hT k _ _ hc (Or.inr (Or.inl rfl))
  · obtain ⟨c, hc⟩ := own_bk (h.row j hj) k hk; exact hT k _ _ hc (Or.inr (Or.inr ⟨rfl, j, by omega, hk⟩))
theorem GRows.later {w w' : World} {bl : BL} {rs : List RuleP} {v : GV} (h : GRows w bl rs v) (hb : Below w.heap.size w w') : GRows w' bl rs v :=
  h.keep (T := fun _ => False) (Only.of_below hb) (fun _ _ _ _ _ h => h)
theorem GameAt.later {w w' : World} {b : Nat} {t : TypeId} {bl : BL} {rs : List RuleP} {g : GS} {v : GV} (h : GameAt w b t bl rs g v) (hb : Below w.heap.size w w') : GameAt w' b t bl rs g v :=
  ⟨(hb.block b (blk_lt h.fb)).trans h.fb, h.tt, h.rows.later hb⟩
/-- Stores into the game's own block leave its rows. -/
theorem GameAt.rest {w w' : World} {b : Nat} {t : TypeId} {bl : BL} {rs : List RuleP} {g : GS} {v : GV} (h : GameAt w b t bl rs g v) (ho : Only (· = b) w w') : GRows w' bl rs v :=
  h.rows.keep ho (fun k cs e hk ht hkb => by
    subst hkb
    have he := blk_type hk h.fb
    rcases h.tt with h1 | h1 <;> rcases ht with h2 | h2 | ⟨h2, _⟩ <;> (rw [he, h1] at h2; revert h2; decide))
/-! ### fits, wanted, set -/
set_option maxRecDepth 100000 in
set_option maxHeartbeats 1600000 in
theorem fits_any (r1 r2 t1 t2 v p n : Nat) (w : World) (hr : (r1 < 512 ∧ r2 < 512) ∧ t1 < 512 ∧ t2 < 512) (hp : p < 512 ∧ n < 512) :
    Calls Tryz.prog 104 #[.agg #[.int .i64 (r1 : Int), .int .i64 (r2 : Int), .int .i64 (t1 : Int), .int .i64 (t2 : Int)], .int .i64 (v : Int), SetV (p, n)] w fun e w' => e = .returned (.bool (fitsW v (p, n) ((r1, r2), (t1, t2)))) ∧ Below w.heap.size w w' := by
  have HF : Hid (fitsW v (p, n) ((r1, r2), (t1, t2)) = (emptyB (minus (r1, r2) (p, n)) && hasVarB (t1, t2) v)) := hide rfl
  go_enter Tryz.func104, Tryz.ntmps104
  go_wp2_with fail
  generalize hw0 : ((w.alloc (.cells #[.int .i64 (r1 : Int), .int .i64 (r2 : Int), .int .i64 (t1 : Int), .int .i64 (t2 : Int)] 149)).alloc (.cells #[.int .i64 (p : Int), .int .i64 (n : Int)] 74)) = u1
  have hB : Below w.heap.size w u1 := by rw [← hw0]; exact ((Below.refl _ _).alloc (Nat.le_refl _) _).alloc (by simp) _
  have hru : u1.heap[w.heap.size]? = some (.cells #[.int .i64 (r1 : Int), .int .i64 (r2 : Int), .int .i64 (t1 : Int), .int .i64 (t2 : Int)] 149 (0, 0)) := by rw [← hw0, heap_alloc_old _ _ (by simp)]; exact alloc_new_at (by simp)
  have hva : u1.heap[w.heap.size + 1]? = some (.cells #[.int .i64 (p : Int), .int .i64 (n : Int)] 74 (0, 0)) := by rw [← hw0]; exact alloc_new_at (by simp)
  clear hw0
  have cru0 : u1.cell? ⟨w.heap.size, 0, none⟩ = some (.int .i64 (r1 : Int)) := by rw [blk_cell hru]; rfl
  have cru1 : u1.cell? ⟨w.heap.size, 1, none⟩ = some (.int .i64 (r2 : Int)) := by rw [blk_cell hru]; rfl
  have cru2 : u1.cell? ⟨w.heap.size, 2, none⟩ = some (.int .i64 (t1 : Int)) := by rw [blk_cell hru]; rfl
  have cru3 : u1.cell? ⟨w.heap.size, 3, none⟩ = some (.int .i64 (t2 : Int)) := by rw [blk_cell hru]; rfl
  have lru := blk_lt hru
  have cva0 : u1.cell? ⟨w.heap.size + 1, 0, none⟩ = some (.int .i64 (p : Int)) := by rw [blk_cell hva]; rfl
  have cva1 : u1.cell? ⟨w.heap.size + 1, 1, none⟩ = some (.int .i64 (n : Int)) := by rw [blk_cell hva]; rfl
  have lva := blk_lt hva
  refine (lwithout_any r1 r2 p n _ hr.1.1 hr.1.2 hp.1 hp.2).mono ?_
  rintro e u2 ⟨rfl, b2⟩
  replace hB := hB.trans (b2.mono hB.size)
  replace hru := (b2.block _ (blk_lt hru)).trans hru
  replace cru0 : u2.cell? ⟨w.heap.size, 0, none⟩ = some (.int .i64 (r1 : Int)) := by rw [blk_cell hru]; rfl
  replace cru1 : u2.cell? ⟨w.heap.size, 1, none⟩ = some (.int .i64 (r2 : Int)) := by rw [blk_cell hru]; rfl
  replace cru2 : u2.cell? ⟨w.heap.size, 2, none⟩ = some (.int .i64 (t1 : Int)) := by rw [blk_cell hru]; rfl
  replace cru3 : u2.cell? ⟨w.heap.size, 3, none⟩ = some (.int .i64 (t2 : Int)) := by rw [blk_cell hru]; rfl
  replace lru := blk_lt hru
  replace hva := (b2.block _ (blk_lt hva)).trans hva
  replace cva0 : u2.cell? ⟨w.heap.size + 1, 0, none⟩ = some (.int .i64 (p : Int)) := by rw [blk_cell hva]; rfl
  replace cva1 : u2.cell? ⟨w.heap.size + 1, 1, none⟩ = some (.int .i64 (n : Int)) := by rw [blk_cell hva]; rfl
  replace lva := blk_lt hva
  have hm := minus_lt (r1, r2) (p, n) hr.1
  generalize hea : minus (r1, r2) (p, n) = c at *
  clear hea
  obtain ⟨d1, d2⟩ := c
  dsimp only at hm
  go_wp2_with fail
  generalize hw0 : u2.alloc (.cells #[.int .i64 (d1 : Int), .int .i64 (d2 : Int)] 74) = u3
  have b3 : Below u2.heap.size u2 u3 := by rw [← hw0]; exact (Below.refl _ _).alloc (Nat.le_refl _) _
  have hop : u3.heap[u2.heap.size]? = some (.cells #[.int .i64 (d1 : Int), .int .i64 (d2 : Int)] 74 (0, 0)) := by rw [← hw0]; exact heap_alloc_new _ _
  clear hw0
  replace hB := hB.trans (b3.mono hB.size)
  replace hru := (b3.block _ (blk_lt hru)).trans hru
  replace cru0 : u3.cell? ⟨w.heap.size, 0, none⟩ = some (.int .i64 (r1 : Int)) := by rw [blk_cell hru]; rfl
  replace cru1 : u3.cell? ⟨w.heap.size, 1, none⟩ = some (.int .i64 (r2 : Int)) := by rw [blk_cell hru]; rfl
  replace cru2 : u3.cell? ⟨w.heap.size, 2, none⟩ = some (.int .i64 (t1 : Int)) := by rw [blk_cell hru]; rfl
  replace cru3 : u3.cell? ⟨w.heap.size, 3, none⟩ = some (.int .i64 (t2 : Int)) := by rw [blk_cell hru]; rfl
  replace lru := blk_lt hru
  replace hva := (b3.block _ (blk_lt hva)).trans hva
  replace cva0 : u3.cell? ⟨w.heap.size + 1, 0, none⟩ = some (.int .i64 (p : Int)) := by rw [blk_cell hva]; rfl
  replace cva1 : u3.cell? ⟨w.heap.size + 1, 1, none⟩ = some (.int .i64 (n : Int)) := by rw [blk_cell hva]; rfl
  replace lva := blk_lt hva
  have cop0 : u3.cell? ⟨u2.heap.size, 0, none⟩ = some (.int .i64 (d1 : Int)) := by rw [blk_cell hop]; rfl
  have cop1 : u3.cell? ⟨u2.heap.size, 1, none⟩ = some (.int .i64 (d2 : Int)) := by rw [blk_cell hop]; rfl
  have lop := blk_lt hop
  refine (empty_any d1 d2 _ hm.1 hm.2).mono ?_
  rintro e u4 ⟨rfl, b4⟩
  replace hB := hB.trans (b4.mono hB.size)
  replace hru := (b4.block _ (blk_lt hru)).trans hru
  replace cru0 : u4.cell? ⟨w.heap.size, 0, none⟩ = some (.int .i64 (r1 : Int)) := by rw [blk_cell hru]; rfl
  replace cru1 : u4.cell? ⟨w.heap.size, 1, none⟩ = some (.int .i64 (r2 : Int)) := by rw [blk_cell hru]; rfl
  replace cru2 : u4.cell? ⟨w.heap.size, 2, none⟩ = some (.int .i64 (t1 : Int)) := by rw [blk_cell hru]; rfl
  replace cru3 : u4.cell? ⟨w.heap.size, 3, none⟩ = some (.int .i64 (t2 : Int)) := by rw [blk_cell hru]; rfl
  replace lru := blk_lt hru
  replace hva := (b4.block _ (blk_lt hva)).trans hva
  replace cva0 : u4.cell? ⟨w.heap.size + 1, 0, none⟩ = some (.int .i64 (p : Int)) := by rw [blk_cell hva]; rfl
  replace cva1 : u4.cell? ⟨w.heap.size + 1, 1, none⟩ = some (.int .i64 (n : Int)) := by rw [blk_cell hva]; rfl
  replace lva := blk_lt hva
  replace hop := (b4.block _ (blk_lt hop)).trans hop
  replace cop0 : u4.cell? ⟨u2.heap.size, 0, none⟩ = some (.int .i64 (d1 : Int)) := by rw [blk_cell hop]; rfl
  replace cop1 : u4.cell? ⟨u2.heap.size, 1, none⟩ = some (.int .i64 (d2 : Int)) := by rw [blk_cell hop]; rfl
  replace lop := blk_lt hop
  cases hem : (d1 ||| d2 == 0) with
  | false =>
    have HF2 : Hid (fitsW v (p, n) ((r1, r2), (t1, t2)) = false) := hide (by rw [unhide HF]; show ((d1 ||| d2 == 0) && _) = _; rw [hem]; rfl)
    go_wp2_with fail
    go_ret
    exact ⟨by rw [unhide HF2]; rfl, hB⟩
  | true =>
    have HF2 : Hid (fitsW v (p, n) ((r1, r2), (t1, t2)) = ((t1 ||| t2) &&& bitOf (v : Int) != 0)) := hide (by rw [unhide HF]; show ((d1 ||| d2 == 0) && _) = _; rw [hem]; rfl)
    go_wp2_with fail
    refine (hasVar_any t1 t2 v _ hr.2.1 hr.2.2).mono ?_
    rintro e u9 ⟨rfl, b9⟩
    go_wp2_with fail
    go_ret
    exact ⟨by rw [unhide HF2]; rfl, hB.trans (b9.mono hB.size)⟩

theorem wanted_step (rs : List RuleP) (vals : Nat × Nat) (v k : Nat) (h : k < rs.length) : wantedW (rs.drop k) vals v = if fitsW v vals rs[k] then hasLit rs[k].2 (v : Int) else wantedW (rs.drop (k + 1)) vals v := by
  unfold wantedW
  rw [List.drop_eq_getElem_cons h, List.find?_cons]
  cases fitsW v vals rs[k] <;> rfl
set_option maxRecDepth 100000 in
set_option maxHeartbeats 1600000 in
theorem wanted_any (b : Nat) (t : TypeId) (bl : BL) (rs : List RuleP) (g : GS) (gv : GV) (v : Nat) (w : World) (hG : GameAt w b t bl rs g gv) (hR : RBd rs) (hp : g.vals.1 < 512 ∧ g.vals.2 < 512) (hv : v ≤ 8) :
    Calls Tryz.prog 77 #[.pointer (some ⟨b, 0, none⟩), .int .i64 (v : Int)] w fun e w' => e = .returned (.bool (wantedW rs g.vals v)) ∧ Below w.heap.size w w' := by
  obtain ⟨turn, p, n⟩ := g
  have hbw := blk_lt hG.fb
  obtain ⟨aR, cR, hRf⟩ := own_form hG.rows.oR
  have hoR := hG.rows.oR
  rw [hRf] at hoR
  have k1 : w.cell? ⟨b, 1, none⟩ = some (.slice aR rs.length cR) := by rw [blk_cell hG.fb]; exact congrArg some hRf
  have hrl := hR.len
  go_enter Tryz.func77, Tryz.ntmps77
  go_wp2_with fail
  go_loopg [12] (rs.length) (fun m i wx => ∃ (k : Nat), i = .int .i64 k ∧ k + m = rs.length ∧ wantedW rs (p, n) v = wantedW (rs.drop k) (p, n) v ∧ Below w.heap.size w wx)
  case atStart => exact ⟨0, rfl, by omega, rfl, Below.refl _ _⟩
  case round =>
    obtain ⟨k, rfl, hk, hwt, hb⟩ := hrel
    have hGr := hG.later hb
    have lb := blk_lt hGr.fb
    have m3 : wr.cell? ⟨b, 3, none⟩ = some (.int .i64 (p : Int)) := by rw [blk_cell hGr.fb]; rfl
    have m4 : wr.cell? ⟨b, 4, none⟩ = some (.int .i64 (n : Int)) := by rw [blk_cell hGr.fb]; rfl
    by_cases hlt : k < rs.length
    · have HW : Hid (wantedW rs (p, n) v = if fitsW v (p, n) rs[k] then hasLit rs[k].2 (v : Int) else wantedW (rs.drop (k + 1)) (p, n) v) := hide (by rw [hwt]; exact wanted_step rs (p, n) v k hlt)
      have hbd := hR.bits _ (List.getElem_mem hlt)
      obtain ⟨g, cap, hVe, hg, hg', _, hcell⟩ := own_pos hoR (by omega)
      injection hVe with hVe _ hV2
      subst hVe hV2
      have hc : ∀ j (hj : j < 4) u, [Value.int .i64 (rs[k].1.1 : Int), Value.int .i64 (rs[k].1.2 : Int), Value.int .i64 (rs[k].2.1 : Int), Value.int .i64 (rs[k].2.2 : Int)][j]? = some u → wr.cell? ⟨g, k * 4 + j, none⟩ = some u := fun j hj u hu => by
        rw [hb.cell (p := ⟨g, k * 4 + j, none⟩) hg']
        exact hcell _ _ (by rw [ruleCells_at rs k j hlt hj]; exact hu)
      have hx0 : wr.cell? ⟨g, k * 4, none⟩ = some (.int .i64 (rs[k].1.1 : Int)) := hc 0 (by omega) _ rfl
      have hx1 : wr.cell? ⟨g, k * 4 + 1, none⟩ = some (.int .i64 (rs[k].1.2 : Int)) := hc 1 (by omega) _ rfl
      have hx2 : wr.cell? ⟨g, k * 4 + 2, none⟩ = some (.int .i64 (rs[k].2.1 : Int)) := hc 2 (by omega) _ rfl
      have hx3 : wr.cell? ⟨g, k * 4 + 3, none⟩ = some (.int .i64 (rs[k].2.2 : Int)) := hc 3 (by omega) _ rfl
      have hgw : g < wr.heap.size := Nat.lt_of_lt_of_le hg' hb.size
      clear hc hcell hwt
      generalize rs[k] = r at *
      obtain ⟨⟨r1, r2⟩, t1, t2⟩ := r
      dsimp only at *
      go_wp2_with fail
      have hA : Below wr.heap.size wr (wr.alloc (.cells #[.int .i64 (r1 : Int), .int .i64 (r2 : Int), .int .i64 (t1 : Int), .int .i64 (t2 : Int)] 149)) := (Below.refl _ _).alloc (Nat.le_refl _) _
      have hru := heap_alloc_new wr (.cells #[.int .i64 (r1 : Int), .int .i64 (r2 : Int), .int .i64 (t1 : Int), .int .i64 (t2 : Int)] 149)
      have hGa := hGr.later hA
      have hBa := hb.trans (hA.mono hb.size)
      generalize wr.alloc (.cells #[.int .i64 (r1 : Int), .int .i64 (r2 : Int), .int .i64 (t1 : Int), .int .i64 (t2 : Int)] 149) = wa at *
      have cru0 : wa.cell? ⟨wr.heap.size, 0, none⟩ = some (.int .i64 (r1 : Int)) := by rw [blk_cell hru]; rfl
      have cru1 : wa.cell? ⟨wr.heap.size, 1, none⟩ = some (.int .i64 (r2 : Int)) := by rw [blk_cell hru]; rfl
      have cru2 : wa.cell? ⟨wr.heap.size, 2, none⟩ = some (.int .i64 (t1 : Int)) := by rw [blk_cell hru]; rfl
      have cru3 : wa.cell? ⟨wr.heap.size, 3, none⟩ = some (.int .i64 (t2 : Int)) := by rw [blk_cell hru]; rfl
      have lru := blk_lt hru
      have lba := blk_lt hGa.fb
      have n3 : wa.cell? ⟨b, 3, none⟩ = some (.int .i64 (p : Int)) := by rw [blk_cell hGa.fb]; rfl
      have n4 : wa.cell? ⟨b, 4, none⟩ = some (.int .i64 (n : Int)) := by rw [blk_cell hGa.fb]; rfl
      obtain ⟨wo, rfl⟩ : ∃ wo, wo = wr := ⟨_, rfl⟩
      go_cut [22] (fun s22 wx => s22 = .bool (fitsW v (p, n) ((r1, r2), (t1, t2))) ∧ Below wa.heap.size wa wx)
      case first =>
        go_region_with (go_at_call 104; refine (fits_any r1 r2 t1 t2 v p n _ hbd hp).mono ?_; rintro e v1 ⟨rfl, y1⟩; have x1 : Below wa.heap.size wa v1 := Below.trans (by first | exact Below.refl _ _ | exact (Below.refl _ _).drew) (y1.mono (by simp)))
        all_goals
          go_wp2_with fail
          go_meet
          exact ⟨rfl, x1⟩
      case rest =>
      obtain ⟨rfl, hbc⟩ := hcut
      have hBc := hBa.trans (hbc.mono hBa.size)
      have hru2 := (hbc.block _ (blk_lt hru)).trans hru
      have d0 : wc.cell? ⟨wo.heap.size, 0, none⟩ = some (.int .i64 (r1 : Int)) := by rw [blk_cell hru2]; rfl
      have d1 : wc.cell? ⟨wo.heap.size, 1, none⟩ = some (.int .i64 (r2 : Int)) := by rw [blk_cell hru2]; rfl
      have d2 : wc.cell? ⟨wo.heap.size, 2, none⟩ = some (.int .i64 (t1 : Int)) := by rw [blk_cell hru2]; rfl
      have d3 : wc.cell? ⟨wo.heap.size, 3, none⟩ = some (.int .i64 (t2 : Int)) := by rw [blk_cell hru2]; rfl
      have lru2 := blk_lt hru2
      cases hft : fitsW v (p, n) ((r1, r2), (t1, t2)) with
      | true =>
        have HW2 : Hid (wantedW rs (p, n) v = hasLit (t1, t2) (v : Int)) := hide (by rw [unhide HW, hft]; rfl)
        go_wp2_with fail
        refine (has_any t1 t2 (v : Int) _ hbd.2.1 hbd.2.2 (by omega) (by omega)).mono ?_
        rintro e w9 ⟨rfl, b9⟩
        go_wp2_with fail
        go_ret
        exact ⟨by rw [unhide HW2]; rfl, hBc.trans (b9.mono hBc.size)⟩
      | false =>
        have HW2 : Hid (wantedW rs (p, n) v = wantedW (rs.drop (k + 1)) (p, n) v) := hide (by rw [unhide HW, hft]; rfl)
        go_wp2_with fail
        go_roundg (gk - 1)
        case measure => omega
        case rel => exact ⟨k + 1, by go_num, by omega, unhide HW2, hBc⟩
    · have hkl : k = rs.length := by omega
      subst hkl
      have HW : Hid (wantedW rs (p, n) v = false) := hide (by rw [hwt, List.drop_length]; rfl)
      clear hwt
      go_wp2_with fail
      go_ret
      exact ⟨by rw [unhide HW]; rfl, hb⟩

set_option maxRecDepth 100000 in
set_option maxHeartbeats 1600000 in
theorem set_any (b : Nat) (t : TypeId) (bl : BL) (rs : List RuleP) (g : GS) (gv : GV) (v : Nat) (x : Bool) (w : World) (hG : GameAt w b t bl rs g gv) (hp : g.vals.1 < 512 ∧ g.vals.2 < 512) (hv : v ≤ 8) :
    Calls Tryz.prog 78 #[.pointer (some ⟨b, 0, none⟩), .int .i64 (v : Int), .bool x] w fun e w' => e = .returned (.tuple #[]) ∧ GameAt w' b t bl rs ⟨g.turn, setW g.vals v x⟩ gv ∧ Only (· = b) w w' := by
  obtain ⟨turn, p, n⟩ := g
  dsimp only at hp
  have lb := blk_lt hG.fb
  have m3 : w.cell? ⟨b, 3, none⟩ = some (.int .i64 (p : Int)) := by rw [blk_cell hG.fb]; rfl
  have m4 : w.cell? ⟨b, 4, none⟩ = some (.int .i64 (n : Int)) := by rw [blk_cell hG.fb]; rfl
  have hwn : IntKind.i64.wrap (-(v : Int)) = -(v : Int) := wrap_neg_small' v hv
  have HS : Hid (setW (p, n) v x = withLit (p, n) (litI v x)) := hide rfl
  go_enter Tryz.func78, Tryz.ntmps78
  cases x with
  | true =>
    have HS2 : Hid (setW (p, n) v true = withLit (p, n) ((v : Int))) := hide rfl
    go_wp2_with fail
    refine (with_any p n ((v : Int)) _ hp.1 hp.2 (by omega) (by omega)).mono ?_
    rintro e w1 ⟨rfl, hb1⟩
    have hG1 := hG.later hb1
    have lb1 := blk_lt hG1.fb
    have k3 : w1.cell? ⟨b, 3, none⟩ = some (.int .i64 (p : Int)) := by rw [blk_cell hG1.fb]; rfl
    have k4 : w1.cell? ⟨b, 4, none⟩ = some (.int .i64 (n : Int)) := by rw [blk_cell hG1.fb]; rfl
    have z3 := blk_free hG1.fb 3
    have z4 := blk_free hG1.fb 4
    generalize withLit (p, n) ((v : Int)) = c at *
    obtain ⟨d1, d2⟩ := c
    go_wp2_with fail
    go_end0
    have ho : Only (· = b) w1 ((w1.setCell ⟨b, 3, none⟩ (.int .i64 (d1 : Int))).setCell ⟨b, 4, none⟩ (.int .i64 (d2 : Int))) := ((Only.refl (· = b) w1).setCell (p := ⟨b, 3, none⟩) (Or.inl rfl) _).setCell (p := ⟨b, 4, none⟩) (Or.inl rfl) _
    refine ⟨rfl, ⟨?_, hG.tt, hG1.rest ho⟩, (Only.of_below hb1).trans ho⟩
    rw [unhide HS2]
    exact blk_set (blk_set hG1.fb 3 _) 4 _
  | false =>
    have HS2 : Hid (setW (p, n) v false = withLit (p, n) (-(v : Int))) := hide rfl
    go_wp2_with fail
    refine (with_any p n (-(v : Int)) _ hp.1 hp.2 (by omega) (by omega)).mono ?_
    rintro e w1 ⟨rfl, hb1⟩
    have hG1 := hG.later hb1
    have lb1 := blk_lt hG1.fb
    have k3 : w1.cell? ⟨b, 3, none⟩ = some (.int .i64 (p : Int)) := by rw [blk_cell hG1.fb]; rfl
    have k4 : w1.cell? ⟨b, 4, none⟩ = some (.int .i64 (n : Int)) := by rw [blk_cell hG1.fb]; rfl
    have z3 := blk_free hG1.fb 3
    have z4 := blk_free hG1.fb 4
    generalize withLit (p, n) (-(v : Int)) = c at *
    obtain ⟨d1, d2⟩ := c
    go_wp2_with fail
    go_end0
    have ho : Only (· = b) w1 ((w1.setCell ⟨b, 3, none⟩ (.int .i64 (d1 : Int))).setCell ⟨b, 4, none⟩ (.int .i64 (d2 : Int))) := ((Only.refl (· = b) w1).setCell (p := ⟨b, 3, none⟩) (Or.inl rfl) _).setCell (p := ⟨b, 4, none⟩) (Or.inl rfl) _
    refine ⟨rfl, ⟨?_, hG.tt, hG1.rest ho⟩, (Only.of_below hb1).trans ho⟩
    rw [unhide HS2]
    exact blk_set (blk_set hG1.fb 3 _) 4 _
end Go.Proofs.YtgipjjhkhfihpaaGreatDoor

namespace Go.Proofs.YtgipjjhkhfihpaaGreatDoor
open Go.RowKit

/-! ### answer -/
structure BBd (bl : BL) : Prop where
  len : bl.length ≤ 8
  row : ∀ x ∈ bl, x.1.length ≤ 8 ∧ ∀ v ∈ x.1, 1 ≤ v ∧ v ≤ 8
set_option maxRecDepth 100000 in
set_option maxHeartbeats 1600000 in
theorem answer_any (b : Nat) (t : TypeId) (bl : BL) (rs : List RuleP) (g : GS) (gv : GV) (w : World) (hG : GameAt w b t bl rs g gv) (hR : RBd rs) (hB : BBd bl) (hp : g.vals.1 < 512 ∧ g.vals.2 < 512) (ht : g.turn ≤ bl.length) :
    Calls Tryz.prog 51 #[.pointer (some ⟨b, 0, none⟩)] w fun e w' => e = .returned (.tuple #[]) ∧ GameAt w' b t bl rs (ansW rs bl g) gv ∧ Only (· = b) w w' := by
  have lb := blk_lt hG.fb
  have hbl := hB.len
  go_enter Tryz.func51, Tryz.ntmps51
  go_wp2_with fail
  have HB := hide hB
  clear hB
  go_loopg [] (bl.length + 1 - g.turn) (fun m wx => ∃ (g' : GS), g'.turn ≤ bl.length ∧ m + g'.turn = bl.length + 1 ∧ (g'.vals.1 < 512 ∧ g'.vals.2 < 512) ∧ ansW rs bl g = ansW rs bl g' ∧ GameAt wx b t bl rs g' gv ∧ Only (· = b) w wx)
  case atStart => exact ⟨g, ht, by omega, hp, rfl, hG, Only.refl _ _⟩
  case round =>
    obtain ⟨⟨turn, p, n⟩, hle, hm, hlt, hans, hGr, ho⟩ := hrel
    dsimp only at hle hm hlt
    have HA := hide hans
    clear hans
    have lbr := blk_lt hGr.fb
    obtain ⟨aB, cB, hBf⟩ := own_form hGr.rows.oB
    have c0 : wr.cell? ⟨b, 0, none⟩ = some (.slice aB bl.length cB) := by rw [blk_cell hGr.fb]; exact congrArg some hBf
    have c2 : wr.cell? ⟨b, 2, none⟩ = some (.int .i64 (turn : Int)) := by rw [blk_cell hGr.fb]; rfl
    by_cases hl : turn < bl.length
    · have hd1 : decide ((turn : Int) < (bl.length : Int)) = true := decide_eq_true (by omega)
      have hd2 : decide (turn < bl.length) = true := decide_eq_true hl
      have hhl : turn < gv.hdrs.length := by rw [hGr.rows.len]; exact hl
      obtain ⟨e0, e1⟩ := blCells_at bl gv.hdrs turn hl hhl
      have hoB := hGr.rows.oB
      rw [hBf] at hoB
      obtain ⟨gB, cap, hVe, hg, hg', _, hcell⟩ := own_pos hoB (by omega)
      injection hVe with hVe _ hV2
      subst hVe hV2
      have hx0 := hcell _ _ e0
      have hx1 := hcell _ _ e1
      have hrow := hGr.rows.row turn hl
      obtain ⟨aX, cX, hXf⟩ := own_form hrow
      rw [hXf] at hx0
      have HAG : Hid (bl[turn].2 = true → ansW rs bl ⟨turn, (p, n)⟩ = ansW rs bl ⟨turn + 1, ansBlock rs bl[turn].1 (p, n)⟩) := hide (fun h => by
        unfold ansW
        rw [show bl.length - (GS.mk turn (p, n)).turn = (bl.length - (turn + 1)) + 1 from by show bl.length - turn = _; omega, ansGo]
        rw [show bl.getD (GS.mk turn (p, n)).turn ([], false) = bl[turn] from by simp [List.getD, hl], if_pos h])
      have HAS : Hid (bl[turn].2 = false → ansW rs bl ⟨turn, (p, n)⟩ = ⟨turn, (p, n)⟩) := hide (fun h => by
        unfold ansW
        rw [show bl.length - (GS.mk turn (p, n)).turn = (bl.length - (turn + 1)) + 1 from by show bl.length - turn = _; omega, ansGo]
        rw [show bl.getD (GS.mk turn (p, n)).turn ([], false) = bl[turn] from by simp [List.getD, hl], if_neg (by rw [h]; decide)])
      have hbd := (unhide HB).row _ (List.getElem_mem hl)
      have HRW := hide hrow
      clear hcell e0 e1 hrow hoB
      cases hw : bl[turn].2 with
      | true =>
        rw [hw] at hx1
        have HF : Hid (ansW rs bl g = ansW rs bl ⟨turn + 1, ansBlock rs bl[turn].1 (p, n)⟩) := hide (by rw [unhide HA]; exact unhide HAG hw)
        go_wp2_with fail
        go_quiet (fail)
        have b1 : Below wr.heap.size wr (wr.drewN nq) := below_drewN (Below.refl _ _) nq
        have hG1 := hGr.later b1
        have ho1 : Only (· = b) w (wr.drewN nq) := ho.trans (Only.of_below b1)
        have hgw : gB < (wr.drewN nq).heap.size := Nat.lt_of_lt_of_le hg' b1.size
        replace hx0 : (wr.drewN nq).cell? ⟨gB, turn * 2, none⟩ = _ := (b1.cell (p := ⟨gB, turn * 2, none⟩) hg').trans hx0
        replace c0 : (wr.drewN nq).cell? ⟨b, 0, none⟩ = _ := (b1.cell (p := ⟨b, 0, none⟩) lbr).trans c0
        replace c2 : (wr.drewN nq).cell? ⟨b, 2, none⟩ = _ := (b1.cell (p := ⟨b, 2, none⟩) lbr).trans c2
        generalize wr.drewN nq = w1 at *
        have lb1 := blk_lt hG1.fb
        clear hx1
        go_wp2_with fail
        go_quiet (fail)
        have b2 : Below w1.heap.size w1 (w1.drewN nq) := below_drewN (Below.refl _ _) nq
        have hG2 := hG1.later b2
        have ho2 : Only (· = b) w (w1.drewN nq) := ho1.trans (Only.of_below b2)
        generalize w1.drewN nq = w2 at *
        clear hG1 ho1 b2 b1 hgw lb1 hx0 c0 c2
        go_wp2_with fail
        obtain ⟨wo, rfl⟩ : ∃ wo, wo = wr := ⟨_, rfl⟩
        obtain ⟨gko, rfl⟩ : ∃ x, x = gk := ⟨_, rfl⟩
        obtain ⟨row, hrow⟩ : ∃ row, bl[turn].1 = row := ⟨_, rfl⟩
        rw [hrow] at hbd HF ⊢
        have HRO := hide hrow
        clear hrow HAG HAS
        go_loopg [40] (row.length) (fun m i wx => ∃ (k : Nat) (vals : Nat × Nat), i = .int .i64 k ∧ k + m = row.length ∧ (vals.1 < 512 ∧ vals.2 < 512) ∧ ansBlock rs row (p, n) = ansBlock rs (row.drop k) vals ∧ GameAt wx b t bl rs ⟨turn, vals⟩ gv ∧ Only (· = b) w wx)
        case atStart => exact ⟨0, (p, n), rfl, by omega, hlt, rfl, hG2, ho2⟩
        case round =>
          obtain ⟨k, vals, rfl, hk, hv9, hab, hG3, ho3⟩ := hrel
          have HAB := hide hab
          clear hab
          have lb3 := blk_lt hG3.fb
          by_cases hkl : k < row.length
          · have hr3 := hG3.rows.row turn hl
            rw [hXf] at hr3
            have hvv := hbd.2 _ (List.getElem_mem hkl)
            have hlen : bl[turn].1.length = row.length := by rw [unhide HRO]
            obtain ⟨gX, cap, hVe, hgx, hgx', _, hcell⟩ := own_pos hr3 (by omega)
            injection hVe with hVe hV1 hV2
            subst hVe hV2
            have hxk : wr.cell? ⟨gX, k, none⟩ = some (.int .i64 (row[k] : Int)) := hcell _ _ (by rw [unhide HRO]; simp [ints, hkl])
            have HST : Hid (ansBlock rs (row.drop k) vals = ansBlock rs (row.drop (k + 1)) (setW vals row[k] (wantedW rs vals row[k]))) := hide (by rw [List.drop_eq_getElem_cons hkl]; rfl)
            clear hcell hr3
            generalize row[k] = v at *
            go_wp2_with fail
            refine (wanted_any b t bl rs ⟨turn, vals⟩ gv v _ hG3 hR hv9 hvv.2).mono ?_
            rintro e w4 ⟨rfl, hb4⟩
            have hG4 := hG3.later hb4
            have ho4 := ho3.trans (Only.of_below hb4)
            dsimp only
            generalize wantedW rs vals v = wx at *
            go_wp2_with fail
            refine (set_any b t bl rs ⟨turn, vals⟩ gv v wx _ hG4 hv9 hvv.2).mono ?_
            rintro e w5 ⟨rfl, hG5, ho5⟩
            have hv5 := withLit_lt vals (litI v wx) hv9.1 hv9.2
            go_wp2_with fail
            go_roundg (gk - 1)
            case measure => omega
            case rel => exact ⟨k + 1, setW vals v wx, by go_num, by omega, hv5, by rw [unhide HAB, unhide HST], hG5, ho4.trans ho5⟩
          · have hke : k = row.length := by omega
            have HE : Hid (ansBlock rs row (p, n) = vals) := hide (by rw [unhide HAB, hke, List.drop_length]; rfl)
            have d2 : wr.cell? ⟨b, 2, none⟩ = some (.int .i64 (turn : Int)) := by rw [blk_cell hG3.fb]; rfl
            have z2 := blk_free hG3.fb 2
            have hdk : decide ((k : Int) < (row.length : Int)) = false := decide_eq_false (by omega)
            have ho6 : Only (· = b) wr (wr.setCell ⟨b, 2, none⟩ (.int .i64 ((turn : Int) + 1))) := (Only.refl (· = b) wr).setCell (p := ⟨b, 2, none⟩) (Or.inl rfl) _
            have hG6 : GameAt (wr.setCell ⟨b, 2, none⟩ (.int .i64 ((turn : Int) + 1))) b t bl rs ⟨turn + 1, vals⟩ gv := ⟨blk_set hG3.fb 2 _, hG3.tt, hG3.rest ho6⟩
            have ho7 := ho3.trans ho6
            have HG6 := hide hG6
            have HO7 := hide ho7
            clear hG6 ho6 ho7
            go_wp2_with fail
            go_roundg (gko - 1)
            case measure => omega
            case rel => exact ⟨⟨turn + 1, vals⟩, by show turn + 1 ≤ _; omega, by show _ + (turn + 1) = _; omega, hv9, by rw [unhide HF, unhide HE], unhide HG6, unhide HO7⟩
      | false =>
        rw [hw] at hx1
        have HF : Hid (ansW rs bl g = ⟨turn, (p, n)⟩) := hide (by rw [unhide HA]; exact unhide HAS hw)
        go_wp2_with fail
        go_quiet (fail)
        have b1 : Below wr.heap.size wr (wr.drewN nq) := below_drewN (Below.refl _ _) nq
        have hG1 := hGr.later b1
        have ho1 : Only (· = b) w (wr.drewN nq) := ho.trans (Only.of_below b1)
        generalize wr.drewN nq = w1 at *
        go_wp2_with fail
        go_end0
        exact ⟨rfl, by rw [unhide HF]; exact hG1, ho1⟩
    · have hd1 : decide ((turn : Int) < (bl.length : Int)) = false := decide_eq_false (by omega)
      have hd2 : decide (turn < bl.length) = false := decide_eq_false hl
      have HF : Hid (ansW rs bl g = ⟨turn, (p, n)⟩) := hide (by
        rw [unhide HA]
        unfold ansW
        rw [show bl.length - (GS.mk turn (p, n)).turn = 0 from by show bl.length - turn = _; omega, ansGo])
      go_wp2_with fail
      go_quiet (fail)
      have b1 : Below wr.heap.size wr (wr.drewN nq) := below_drewN (Below.refl _ _) nq
      have hG1 := hGr.later b1
      have ho1 : Only (· = b) w (wr.drewN nq) := ho.trans (Only.of_below b1)
      generalize wr.drewN nq = w1 at *
      go_wp2_with fail
      go_end0
      exact ⟨rfl, by rw [unhide HF]; exact hG1, ho1⟩
end Go.Proofs.YtgipjjhkhfihpaaGreatDoor

namespace Go.Proofs.YtgipjjhkhfihpaaGreatDoor
open Go.RowKit

/-! ### readLine -/
def lineQ (q : QS) (kind : Nat) (ss : List (Nat × Nat)) (line : List UInt8) : Option (Nat × Nat) :=
  if 9000 ≤ ss.length then none else if splitOk line then (match cutAt 32 line with | [] => none | hd :: tl => stepQ q kind ss hd tl) else none
theorem lineQ_eq (q : QS) (kind : Nat) (ss : List (Nat × Nat)) (line hd : List UInt8) (tl : List (List UInt8)) (hl : ¬ 9000 ≤ ss.length) (hs : splitOk line = true) (h : cutAt 32 line = hd :: tl) : lineQ q kind ss line = stepQ q kind ss hd tl := by
  unfold lineQ; rw [if_neg hl, if_pos hs, h]
theorem litsL_snoc (ss : List Stp) (s : Stp) : litsL (ss ++ [s]) = litsL ss ++ [s.lits] := by simp [litsL]
theorem PInv.push {w w' : World} {b : Nat} {q : QS} {kind : Nat} {ss : List Stp} {vV vC vS : Value} {s : Stp} {e : Ending} (h : PInv w b q kind ss vV vC vS) (ha : AddPost (b + 1) b 2 ss vS s #[vV, vC, .int .i64 kind, vS] 105 w e w') : e = .returned (.int .i64 ((ss.length : Int) + 1)) ∧ (∃ v', PInv w' b q kind (ss ++ [s]) vV vC v') ∧ Below b w w' := by
  obtain ⟨v', h0, h1, h2, h3, h4⟩ := ha
  have hb : Below b w w' := h3.below (Nat.le_of_lt (blk_lt h.fb)) (fun k hk hh => by
    rcases hh with e | e
    · omega
    · have := (h.oS.lt k e).1; omega)
  exact ⟨h0, ⟨v', h2, own_under h.oV h.lV hb, own_under h.oC h.lC hb, by simpa using h1, h.lV, h.lC⟩, hb⟩
def PLinePost (b : Nat) (q : QS) (kind : Nat) (ss : List Stp) (vV vC : Value) (line : List UInt8) (w : World) (e : Ending) (w' : World) : Prop :=
  Below b w w' ∧ match lineQ q kind (litsL ss) line with
    | none => e = .returned (.bool false)
    | some c => e = .returned (.bool true) ∧ (c.1 < 512 ∧ c.2 < 512) ∧ ∃ s vS', s.lits = c ∧ TagM q kind ss (cutAt 32 line) s ∧ PInv w' b q kind (ss ++ [s]) vV vC vS'

set_option maxRecDepth 100000 in
set_option maxHeartbeats 3200000 in
theorem preadLine_any (b : Nat) (q : QS) (kind : Nat) (ss : List Stp) (vV vC vS : Value) (k : Nat) (line : List UInt8) (w : World) (hP : PInv w b q kind ss vV vC vS) (hQ : QB q) (hS : SBs ss) (hk : 1 ≤ k) (hl : line.length ≤ 1048570) :
    Calls Tryz.prog 46 #[.pointer (some ⟨b, 0, none⟩), .int .i64 k, .string ⟨line.toArray⟩] w fun e w' => PLinePost b q kind ss vV vC line w e w' := by
  have hbw := blk_lt hP.fb
  have hsl := hS.len
  obtain ⟨aS, cS, rfl⟩ := own_form hP.oS
  have k3 : w.cell? ⟨b, 3, none⟩ = some (.slice aS ss.length cS) := by rw [blk_cell hP.fb]; rfl
  have hkb : ((k : Int) == 0) = false := by rw [beq_eq_false_iff_ne]; omega
  by_cases h9 : 9000 ≤ ss.length
  · have hd9 : decide ((9000 : Int) ≤ (ss.length : Int)) = true := by simp; omega
    have HF : Hid (lineQ q kind (litsL ss) line = none) := hide (by unfold lineQ; rw [if_pos (by simpa [litsL] using h9)])
    clear h9
    go_enter Tryz.func46, Tryz.ntmps46
    go_wp2_with fail
    go_ret
    exact ⟨Below.refl _ _, by rw [unhide HF]; rfl⟩
  · have hd9 : decide ((9000 : Int) ≤ (ss.length : Int)) = false := by simp; omega
    have H9 := hide h9
    clear h9
    go_enter Tryz.func46, Tryz.ntmps46
    go_wp2_with fail
    refine (split_any line w (by omega)).mono ?_
    rintro e w2 ⟨hb, hsp⟩
    cases hok : splitOk line with
    | false =>
      rw [hok, if_neg (by decide)] at hsp
      subst hsp
      have HF : Hid (lineQ q kind (litsL ss) line = none) := hide (by unfold lineQ; rw [if_neg (by simpa [litsL] using unhide H9), hok]; rfl)
      go_wp2_with fail
      go_ret
      exact ⟨hb.mono (Nat.le_of_lt hbw), by rw [unhide HF]; rfl⟩
    | true =>
      rw [hok, if_pos rfl] at hsp
      obtain ⟨v, rfl, hown⟩ := hsp
      have hwl : (cutAt 32 line).length ≤ 1048571 := by have := cutTo_size 32 line; simp [cutAt]; omega
      have hwl2 : ∀ x ∈ cutAt 32 line, x.length ≤ 1048576 := fun x hx => by have := cutAt_len 32 line x hx; omega
      obtain ⟨hd, tl, hws⟩ : ∃ hd tl, cutAt 32 line = hd :: tl := by
        cases h : cutAt 32 line with
        | nil => simp [cutAt] at h
        | cons a b => exact ⟨a, b, rfl⟩
      have HQ := hide (lineQ_eq q kind (litsL ss) line hd tl (by simpa [litsL] using unhide H9) hok hws)
      have HWE := hide hws
      rw [hws] at hown hwl hwl2
      clear hws hok
      rcases hown.2 with ⟨_, h0⟩ | ⟨g, cap, cur, rfl, hbg, hg, hnc, hcm, hcs, htake⟩
      · simp at h0
      simp only [List.length_cons] at hwl hnc
      have hST : StrsAt w2 (some ⟨g, 0, none⟩) (hd :: tl) := fun _ => ⟨g, 0, cur, rfl, hg, fun j hj => by
        have h1 := hown.cellAt j (by simpa using hj)
        rw [blk_cell hg] at h1
        rw [Nat.zero_add, h1, List.getElem?_map, List.getElem?_eq_getElem hj]; rfl⟩
      have HWL : Hid (∀ x ∈ tl, x.length ≤ 1048576) := hide (fun x hx => hwl2 x (List.mem_cons_of_mem _ hx))
      have hP2 := hP.later hb
      clear hwl2 htake hcs hcm
      simp only [List.length_cons]
      go_wp2_with fail
      refine (readStep_any b q kind ss vV vC _ hd tl g 0 cap w2 hP2 hQ hS hST (by omega) (by omega) (unhide HWL)).mono ?_
      rintro e w3 ⟨hb3, s, ok, rfl, hlt, hok⟩
      obtain ⟨sr, sf, ss2, sv, sl⟩ := s
      obtain ⟨p, n⟩ := sl
      have hb03 : Below w.heap.size w w3 := below_trans hb hb3
      have hP3 := hP2.later hb3
      have hA3 : Below w3.heap.size w3 (w3.alloc (.cells #[.int .i64 (sr : Int), .int .i64 (sf : Int), .int .i64 (ss2 : Int), .int .i64 (sv : Int), .int .i64 (p : Int), .int .i64 (n : Int)] 134)) := (Below.refl _ _).alloc (Nat.le_refl _) _
      have hf3 := heap_alloc_new w3 (.cells #[.int .i64 (sr : Int), .int .i64 (sf : Int), .int .i64 (ss2 : Int), .int .i64 (sv : Int), .int .i64 (p : Int), .int .i64 (n : Int)] 134)
      have hbz : Below w.heap.size w (w3.alloc (.cells #[.int .i64 (sr : Int), .int .i64 (sf : Int), .int .i64 (ss2 : Int), .int .i64 (sv : Int), .int .i64 (p : Int), .int .i64 (n : Int)] 134)) := below_trans hb03 hA3
      have hP4 := hP3.later hA3
      rcases hok with ⟨rfl, hok, htag⟩ | ⟨rfl, hok⟩
      · have HF : Hid (lineQ q kind (litsL ss) line = some (p, n)) := hide (by rw [unhide HQ]; exact hok)
        have HTAG := hide htag
        clear hok htag
        go_wp2_with fail
        generalize w3.alloc (.cells #[.int .i64 (sr : Int), .int .i64 (sf : Int), .int .i64 (ss2 : Int), .int .i64 (sv : Int), .int .i64 (p : Int), .int .i64 (n : Int)] 134) = wz at *
        have q0 : wz.cell? ⟨w3.heap.size, 0, none⟩ = some (.int .i64 (sr : Int)) := by rw [blk_cell hf3]; rfl
        have q1 : wz.cell? ⟨w3.heap.size, 1, none⟩ = some (.int .i64 (sf : Int)) := by rw [blk_cell hf3]; rfl
        have q2 : wz.cell? ⟨w3.heap.size, 2, none⟩ = some (.int .i64 (ss2 : Int)) := by rw [blk_cell hf3]; rfl
        have q3 : wz.cell? ⟨w3.heap.size, 3, none⟩ = some (.int .i64 (sv : Int)) := by rw [blk_cell hf3]; rfl
        have q4 : wz.cell? ⟨w3.heap.size, 4, none⟩ = some (.int .i64 (p : Int)) := by rw [blk_cell hf3]; rfl
        have q5 : wz.cell? ⟨w3.heap.size, 5, none⟩ = some (.int .i64 (n : Int)) := by rw [blk_cell hf3]; rfl
        have lf3 := blk_lt hf3
        have lb4 := blk_lt hP4.fb
        have hd9 : Below wz.heap.size wz wz.drew := (Below.refl _ wz).drew
        go_region_with (go_at_call 72; refine (add_any (b + 1) b 2 ss (.slice aS ss.length cS) ⟨sr, sf, ss2, sv, (p, n)⟩ _ _ _ (hP4.later hd9).fb rfl (by decide) (hP4.later hd9).oS (by omega) (blk_lt (hP4.later hd9).fb)).mono ?_; intro e w4 hadd; obtain ⟨he4, hJ4, hbJ⟩ := (hP4.later hd9).push hadd; subst he4; clear hadd)
        all_goals
          obtain ⟨v', hJ⟩ := hJ4
          go_wp2_with fail
          go_ret
          refine ⟨((hbz.mono (Nat.le_of_lt hbw)).trans (hd9.mono (Nat.le_of_lt lb4))).trans hbJ, ?_⟩
          rw [unhide HF]
          exact ⟨rfl, hlt, ⟨sr, sf, ss2, sv, (p, n)⟩, v', rfl, by rw [unhide HWE]; exact unhide HTAG, hJ⟩
      · have HF : Hid (lineQ q kind (litsL ss) line = none) := hide (by rw [unhide HQ]; exact hok)
        clear hok
        go_wp2_with fail
        go_ret
        exact ⟨hbz.mono (Nat.le_of_lt hbw), by rw [unhide HF]; rfl⟩
end Go.Proofs.YtgipjjhkhfihpaaGreatDoor

namespace Go.Proofs.YtgipjjhkhfihpaaGreatDoor
open Go.RowKit

/-! ### Read -/
def rowsQ (q : QS) (kind : Nat) : List (Nat × Nat) → Nat → List (List UInt8) → List (Nat × Nat) ⊕ Nat
  | ss, _, [] => .inl ss
  | ss, n, r :: rs => match lineQ q kind ss r with
    | none => .inr (n + 1)
    | some c => rowsQ q kind (ss ++ [c]) (n + 1) rs
def goQ (q : QS) (ended : Bool) (total : Nat) (kind : Nat) (ss : List (Nat × Nat)) (n : Nat) (rs : List (List UInt8)) : (Nat × Nat) ⊕ (Nat × List (Nat × Nat)) :=
  match rowsQ q kind ss n rs with
  | .inr i => .inl (5, i)
  | .inl ss' => if ended = true ∧ closedQ ss' = true then .inr (kind, ss') else .inl (5, total + 1)
def kindOf (r0 : List UInt8) : Nat := if r0 = sTrue then 2 else 1
def firstQ (q : QS) (ended : Bool) (rows : List (List UInt8)) : (Nat × Nat) ⊕ (Nat × List (Nat × Nat)) :=
  match rows with
  | [] => .inl (5, 1)
  | r0 :: rs => if r0 = sTrue ∨ r0 = sFalse then goQ q ended (rs.length + 1) (kindOf r0) [] 1 rs else .inl (5, 1)
def readQ (q : QS) (l : List UInt8) : (Nat × Nat) ⊕ (Nat × List (Nat × Nat)) :=
  if 262144 < l.length then .inl (1, 0) else firstQ q (decide ((cutTo 10 l).2 = [])) (cutTo 10 l).1
theorem rows_first (q : QS) (ended : Bool) (rows : List (List UInt8)) (h : 0 < rows.length) : firstQ q ended rows = if rows[0] = sTrue ∨ rows[0] = sFalse then goQ q ended rows.length (kindOf rows[0]) [] 1 (rows.drop 1) else .inl (5, 1) := by
  cases rows with
  | nil => simp at h
  | cons r0 rs => rfl
theorem PInv.setKind {w : World} {b : Nat} {q : QS} {kind : Nat} {ss : List Stp} {vV vC vS : Value} (h : PInv w b q kind ss vV vC vS) (kd : Nat) : PInv (w.setCell ⟨b, 2, none⟩ (.int .i64 kd)) b q kd ss vV vC vS := by
  have hb : Below b w (w.setCell ⟨b, 2, none⟩ (.int .i64 kd)) := (Below.refl b w).setCell (p := ⟨b, 2, none⟩) (Nat.le_refl _) _
  exact ⟨blk_set h.fb 2 _, own_under h.oV h.lV hb, own_under h.oC h.lC hb, ownsRow_setCell_below h.oS (a := ⟨b, 2, none⟩) (Nat.lt_succ_self b) _, h.lV, h.lC⟩
/-- Which steps reduce which, by the lines. -/
def Marks (rows : List (List UInt8)) (ss : List Stp) : Prop := ∀ i (h : i < ss.length), stMark ss[i] = markOf i (cutAt 32 (rows.getD (i + 1) []))
theorem marks_nil (rows : List (List UInt8)) : Marks rows [] := fun i h => by simp at h
theorem Marks.snoc {rows : List (List UInt8)} {ss : List Stp} {s : Stp} (h : Marks rows ss) (hs : stMark s = markOf ss.length (cutAt 32 (rows.getD (ss.length + 1) []))) : Marks rows (ss ++ [s]) := by
  intro i hi
  by_cases e : i < ss.length
  · rw [List.getElem_append_left e]
    exact h i e
  · have e2 : i = ss.length := by simp at hi; omega
    subst e2
    simpa using hs
def Tagged (q : QS) (kind : Nat) (l : List UInt8) (ss : List Stp) : Prop := Tags q kind ss ∧ Marks (cutTo 10 l).1 ss
def PReadPost (q : QS) (l : List UInt8) (w : World) (e : Ending) (w' : World) : Prop :=
  Below w.heap.size w w' ∧ match readQ q l with
    | .inl (x, i) => e = .returned (.tuple #[.agg #[.int .i64 0, .slice none 0 0], .int .i64 (x : Int), .int .i64 (i : Int)])
    | .inr (kind, ls) => ∃ ss vS, litsL ss = ls ∧ Tagged q kind l ss ∧ SBs ss ∧ e = .returned (.tuple #[.agg #[.int .i64 (kind : Int), vS], .int .i64 0, .int .i64 0]) ∧ w'.ownsRow w.heap.size 134 6 vS ss.length (psCells ss)

set_option maxRecDepth 100000 in
set_option maxHeartbeats 1600000 in
theorem preadFirst_any (b : Nat) (vV vC vS : Value) (kind : Nat) (l : List UInt8) (w : World) (hfb : w.heap[b]? = some (.cells #[vV, vC, .int .i64 kind, vS] 105 (0, 0))) :
    Calls Tryz.prog 46 #[.pointer (some ⟨b, 0, none⟩), .int .i64 0, .string ⟨l.toArray⟩] w fun e w' => KindPost b l w e w' := by
  go_enter Tryz.func46, Tryz.ntmps46
  go_wp2_with fail
  refine (readKind_any b vV vC vS kind l w hfb).mono ?_
  intro e w1 hk
  have hr : ∃ o, e = .returned (.bool o) := by
    rcases hk with h | h | h
    · exact ⟨_, h.2.1⟩
    · exact ⟨_, h.2.1⟩
    · exact ⟨_, h.2.2.1⟩
  obtain ⟨o, rfl⟩ := hr
  have HK := hide hk
  clear hk
  go_wp2_with fail
  go_ret
  exact unhide HK

set_option maxRecDepth 100000 in
set_option maxHeartbeats 3200000 in
theorem pread_any (q : QS) (vV vC : Value) (l : List UInt8) (w : World) (hV : w.ownsRow 0 139 2 vV q.vars.length (varCells q.vars)) (hC : w.ownsRow 0 74 2 vC q.cl.length (pairs q.cl)) (hQ : QB q) :
    Calls Tryz.prog 24 #[.agg #[vV, vC], .string ⟨l.toArray⟩] w fun e w' => PReadPost q l w e w' := by
  by_cases hlong : 262144 < l.length
  · have hd : decide ((262144 : Int) < (l.length : Int)) = true := by simp; omega
    have HF : Hid (readQ q l = .inl (1, 0)) := hide (by unfold readQ; rw [if_pos hlong])
    clear hlong
    obtain ⟨aV, cV, rfl⟩ := own_form hV
    obtain ⟨aC, cC, rfl⟩ := own_form hC
    go_enter Tryz.func24, Tryz.ntmps24
    go_wp2_with fail
    refine bodyPost_ret (v := .tuple #[.agg #[.int .i64 0, .slice none 0 0], .int .i64 1, .int .i64 0]) (by simp [results, Tryz.results24, go_sem]) rfl ⟨((Below.refl _ _).alloc (Nat.le_refl _) _).alloc (by simp) _, ?_⟩
    rw [unhide HF]; rfl
  · have hl : l.length ≤ 262144 := by omega
    have hd : decide ((262144 : Int) < (l.length : Int)) = false := by simp; omega
    have hdr := cutTo_size 10 l
    have HSP : Hid (readQ q l = firstQ q (decide ((cutTo 10 l).2 = [])) (cutTo 10 l).1) := hide (by unfold readQ; rw [if_neg hlong])
    clear hlong
    have HlV : Hid (∀ k, vV.ownBlock = some k → k < w.heap.size) := hide (fun k hk => (hV.lt k hk).2)
    have HlC : Hid (∀ k, vC.ownBlock = some k → k < w.heap.size) := hide (fun k hk => (hC.lt k hk).2)
    obtain ⟨aV, cV, rfl⟩ := own_form hV
    obtain ⟨aC, cC, rfl⟩ := own_form hC
    have hA0 : Below w.heap.size w ((w.alloc (.cells #[.slice aV q.vars.length cV, .slice aC q.cl.length cC] 60)).alloc (.cells #[.int .i64 0, .slice none 0 0] 67)) := ((Below.refl _ _).alloc (Nat.le_refl _) _).alloc (by simp) _
    have hf0 : ((w.alloc (.cells #[.slice aV q.vars.length cV, .slice aC q.cl.length cC] 60)).alloc (.cells #[.int .i64 0, .slice none 0 0] 67)).heap[w.heap.size]? = some (.cells #[.slice aV q.vars.length cV, .slice aC q.cl.length cC] 60 (0, 0)) := by
      rw [heap_alloc_old _ _ (by simp)]; exact heap_alloc_new _ _
    have hr0 : ((w.alloc (.cells #[.slice aV q.vars.length cV, .slice aC q.cl.length cC] 60)).alloc (.cells #[.int .i64 0, .slice none 0 0] 67)).heap[w.heap.size + 1]? = some (.cells #[.int .i64 0, .slice none 0 0] 67 (0, 0)) := alloc_new_at (by simp)
    go_enter Tryz.func24, Tryz.ntmps24
    go_wp2_with fail
    refine (lines_any l _ (by omega)).mono ?_
    rintro e w1 ⟨v, rfl, hown, hb1⟩
    have hB1 : Below w.heap.size w w1 := hA0.trans (hb1.mono hA0.size)
    have hf1 := (hb1.block _ (blk_lt hf0)).trans hf0
    have hr1 := (hb1.block _ (blk_lt hr0)).trans hr0
    have hsz1 : w.heap.size + 1 < w1.heap.size := blk_lt hr1
    have f10 : w1.cell? ⟨w.heap.size, 0, none⟩ = some (.slice aV q.vars.length cV) := by rw [blk_cell hf1]; rfl
    have f11 : w1.cell? ⟨w.heap.size, 1, none⟩ = some (.slice aC q.cl.length cC) := by rw [blk_cell hf1]; rfl
    have HRL : Hid (∀ r ∈ (cutTo 10 l).1, r.length ≤ 262144) := hide (fun r hr => by
      have := cutAt_len 10 l r (by unfold cutAt; exact List.mem_append_left _ hr); omega)
    have hoV1 := own_below hV hB1
    have hoC1 := own_below hC hB1
    generalize hrows : (cutTo 10 l).1 = rows at *
    obtain ⟨aL, cL, rfl⟩ := own_form hown
    obtain ⟨ended, hended⟩ : ∃ o, decide ((cutTo 10 l).2 = []) = o := ⟨_, rfl⟩
    rw [hended] at HSP ⊢
    have hown1 := own_lo (lo := 0) hown (Nat.zero_le _)
    have HROWS := hide hrows
    clear hown hrows hended
    have hrows2 : rows.length ≤ 262144 := by omega
    clear hdr
    go_wp2_with fail
    go_loopg [25] (rows.length) (fun m i wx => ∃ (k kind : Nat) (ss : List Stp) (vS : Value), i = .int .i64 k ∧ k + m = rows.length ∧ SBs ss ∧ (Tags q kind ss ∧ Marks rows ss) ∧ PInv wx w1.heap.size q kind ss (.slice aV q.vars.length cV) (.slice aC q.cl.length cC) vS ∧ Below w1.heap.size w1 wx ∧
      ((k = 0 ∧ kind = 0 ∧ ss = []) ∨ (1 ≤ k ∧ ss.length + 1 = k ∧ readQ q l = goQ q ended rows.length kind (litsL ss) k (rows.drop k))))
    case atStart =>
      refine ⟨0, 0, [], _, rfl, by omega, ⟨by simp, by simp⟩, ⟨tags_nil q 0, marks_nil rows⟩, ⟨heap_alloc_new _ _, hoV1.alloc _, hoC1.alloc _, World.ownsRow_nil _ _ _ _, fun k hk => Nat.lt_of_lt_of_le (unhide HlV k hk) hB1.size, fun k hk => Nat.lt_of_lt_of_le (unhide HlC k hk) hB1.size⟩, (Below.refl _ _).alloc (Nat.le_refl _) _, Or.inl ⟨rfl, rfl, rfl⟩⟩
    case round =>
      obtain ⟨k, kind, ss, vS, rfl, hk, hSB, hTg, hP, hbx, hph⟩ := hrel
      have HTG := hide hTg
      clear hTg
      have HPH := hide hph
      clear hph
      have hBx : Below w.heap.size w wr := hB1.trans (hbx.mono hB1.size)
      have hrx := (hbx.block _ hsz1).trans hr1
      have r0 : wr.cell? ⟨w.heap.size + 1, 0, none⟩ = some (.int .i64 0) := by rw [blk_cell hrx]; rfl
      have r1 : wr.cell? ⟨w.heap.size + 1, 1, none⟩ = some (.slice none 0 0) := by rw [blk_cell hrx]; rfl
      by_cases hlt : k < rows.length
      · obtain ⟨g, cap, hVe, hg, hg', _, hcell⟩ := own_pos hown1 (by omega)
        injection hVe with hVe _ hV2
        subst hVe hV2
        have hcj : wr.cell? ⟨g, k, none⟩ = some (S rows[k]) := by
          rw [hbx.cell (p := ⟨g, k, none⟩) hg']; exact hcell k _ (by simp [hlt])
        have hrl := unhide HRL _ (List.getElem_mem hlt)
        clear hcell
        go_wp2_with fail
        rcases unhide HPH with ⟨hk0, hkd, hss⟩ | ⟨hk1, hsk, hrq⟩
        · have HK0 := hide hk0
          subst hk0 hkd hss
          have HRQ : Hid (readQ q l = if rows[0] = sTrue ∨ rows[0] = sFalse then goQ q ended rows.length (kindOf rows[0]) [] 1 (rows.drop 1) else .inl (5, 1)) := hide (by
            rw [unhide HSP]
            exact rows_first q ended rows hlt)
          refine (preadFirst_any w1.heap.size _ _ vS 0 rows[0] wr hP.fb).mono ?_
          intro e w2 hkp
          have hkind : ∀ kd : Nat, PInv (wr.setCell ⟨w1.heap.size, 2, none⟩ (.int .i64 kd)) w1.heap.size q kd [] (.slice aV q.vars.length cV) (.slice aC q.cl.length cC) vS ∧ Below w1.heap.size w1 (wr.setCell ⟨w1.heap.size, 2, none⟩ (.int .i64 kd)) := fun kd => ⟨hP.setKind kd, hbx.setCell (p := ⟨w1.heap.size, 2, none⟩) (Nat.le_refl _) _⟩
          rcases hkp with ⟨h1, rfl, rfl⟩ | ⟨h1, rfl, rfl⟩ | ⟨h1, h2, rfl, hw2⟩
          · have HG : Hid (readQ q l = goQ q ended rows.length 1 [] 1 (rows.drop 1)) := hide (by
              rw [unhide HRQ, if_pos (Or.inr h1), h1]; rfl)
            obtain ⟨hPk, hbk⟩ := hkind 1
            have HPk := hide hPk
            have HBk := hide hbk
            clear h1 hPk hbk hkind
            go_wp2_with fail
            go_roundg (gk - 1)
            case measure => omega
            case rel => exact ⟨1, 1, [], vS, by go_num, by omega, hSB, ⟨tags_nil q 1, marks_nil rows⟩, unhide HPk, unhide HBk, Or.inr ⟨by omega, rfl, unhide HG⟩⟩
          · have HG : Hid (readQ q l = goQ q ended rows.length 2 [] 1 (rows.drop 1)) := hide (by
              rw [unhide HRQ, if_pos (Or.inl h1), h1]; rfl)
            obtain ⟨hPk, hbk⟩ := hkind 2
            have HPk := hide hPk
            have HBk := hide hbk
            clear h1 hPk hbk hkind
            go_wp2_with fail
            go_roundg (gk - 1)
            case measure => omega
            case rel => exact ⟨1, 2, [], vS, by go_num, by omega, hSB, ⟨tags_nil q 2, marks_nil rows⟩, unhide HPk, unhide HBk, Or.inr ⟨by omega, rfl, unhide HG⟩⟩
          · have HG : Hid (readQ q l = .inl (5, 1)) := hide (by rw [unhide HRQ, if_neg (fun h => h.elim h1 h2)])
            subst hw2
            clear h1 h2 hkind
            have hz := hrx
            have r20 : w2.cell? ⟨w.heap.size + 1, 0, none⟩ = some (.int .i64 0) := by rw [blk_cell hz]; rfl
            have r21 : w2.cell? ⟨w.heap.size + 1, 1, none⟩ = some (.slice none 0 0) := by rw [blk_cell hz]; rfl
            have y20 := blk_free hz 0
            have y21 := blk_free hz 1
            have hR := blk_set (blk_set hz 0 (.int .i64 0)) 1 (.slice none 0 0)
            have j0 := blk_cell hR 0
            have j1 := blk_cell hR 1
            go_wp2_with fail
            refine bodyPost_ret (v := .tuple #[.agg #[.int .i64 0, .slice none 0 0], .int .i64 5, .int .i64 1]) (by simp [results, Tryz.results24, go_sem, j0, j1]) rfl ⟨?_, ?_⟩
            · exact (hBx.setCell (p := ⟨w.heap.size + 1, 0, none⟩) (Nat.le_succ _) _).setCell (p := ⟨w.heap.size + 1, 1, none⟩) (Nat.le_succ _) _
            · rw [unhide HG]; exact congrArg (fun m : Int => Ending.returned (.tuple #[.agg #[.int .i64 0, .slice none 0 0], .int .i64 5, .int .i64 m])) (by omega)
        · have HSK := hide hsk
          clear hsk
          have hrq2 : readQ q l = match lineQ q kind (litsL ss) rows[k] with
              | none => .inl (5, k + 1)
              | some c => goQ q ended rows.length kind (litsL ss ++ [c]) (k + 1) (rows.drop (k + 1)) := by
            rw [hrq]
            unfold goQ
            rw [List.drop_eq_getElem_cons hlt, rowsQ]
            cases lineQ q kind (litsL ss) rows[k] <;> rfl
          have HRQ := hide hrq2
          clear hrq2 hrq
          refine (preadLine_any w1.heap.size q kind ss _ _ vS k rows[k] wr hP hQ hSB hk1 (by omega)).mono ?_
          rintro e w2 ⟨hb2, hp⟩
          have hb3 : Below w1.heap.size w1 w2 := hbx.trans hb2
          have hB3 : Below w.heap.size w w2 := hB1.trans (hb3.mono hB1.size)
          cases hq : lineQ q kind (litsL ss) rows[k] with
          | none =>
            rw [hq] at hp
            have hp' : e = .returned (.bool false) := hp
            subst hp'
            have HF : Hid (readQ q l = .inl (5, k + 1)) := hide (by rw [unhide HRQ, hq])
            clear hp hq
            have hz := (hb3.block _ hsz1).trans hr1
            have r20 : w2.cell? ⟨w.heap.size + 1, 0, none⟩ = some (.int .i64 0) := by rw [blk_cell hz]; rfl
            have r21 : w2.cell? ⟨w.heap.size + 1, 1, none⟩ = some (.slice none 0 0) := by rw [blk_cell hz]; rfl
            have y20 := blk_free hz 0
            have y21 := blk_free hz 1
            have hR := blk_set (blk_set hz 0 (.int .i64 0)) 1 (.slice none 0 0)
            have j0 := blk_cell hR 0
            have j1 := blk_cell hR 1
            go_wp2_with fail
            refine bodyPost_ret (v := .tuple #[.agg #[.int .i64 0, .slice none 0 0], .int .i64 5, .int .i64 ((k : Int) + 1)]) (by simp [results, Tryz.results24, go_sem, j0, j1]) rfl ⟨?_, ?_⟩
            · exact (hB3.setCell (p := ⟨w.heap.size + 1, 0, none⟩) (Nat.le_succ _) _).setCell (p := ⟨w.heap.size + 1, 1, none⟩) (Nat.le_succ _) _
            · rw [unhide HF]; exact congrArg (fun m : Int => Ending.returned (.tuple #[.agg #[.int .i64 0, .slice none 0 0], .int .i64 5, .int .i64 m])) (by omega)
          | some c =>
            rw [hq] at hp
            have hp' : e = .returned (.bool true) ∧ (c.1 < 512 ∧ c.2 < 512) ∧ ∃ s vS', s.lits = c ∧ TagM q kind ss (cutAt 32 rows[k]) s ∧ PInv w2 w1.heap.size q kind (ss ++ [s]) (.slice aV q.vars.length cV) (.slice aC q.cl.length cC) vS' := hp
            obtain ⟨rfl, hlt2, s, vS', hsc, htg, hP'⟩ := hp'
            have HTN : Hid (Tags q kind (ss ++ [s]) ∧ Marks rows (ss ++ [s])) := hide ⟨(unhide HTG).1.snoc htg.1, (unhide HTG).2.snoc (by
              rw [htg.2, unhide HSK]; simp [List.getD, hlt])⟩
            clear htg
            have HF : Hid (readQ q l = goQ q ended rows.length kind (litsL (ss ++ [s])) (k + 1) (rows.drop (k + 1))) := hide (by rw [unhide HRQ, hq, litsL_snoc, hsc])
            have hSB' : SBs (ss ++ [s]) := ⟨by
              have : ¬ 9000 ≤ ss.length := fun h9 => by unfold lineQ at hq; rw [if_pos (by simpa [litsL] using h9)] at hq; cases hq
              simp; omega, fun c' hc' => by
              rcases List.mem_append.1 hc' with hc' | hc'
              · exact hSB.bits c' hc'
              · simp at hc'; subst hc'; rw [hsc]; exact hlt2⟩
            have HS := hide hSB'
            clear hp hq hSB' hsc
            go_wp2_with fail
            go_roundg (gk - 1)
            case measure => omega
            case rel => exact ⟨k + 1, kind, ss ++ [s], vS', by go_num, by omega, unhide HS, unhide HTN, hP', hb3, Or.inr ⟨by omega, by have := unhide HSK; simp; omega, unhide HF⟩⟩
      · have hkl : k = rows.length := by omega
        have HRQ : Hid (readQ q l = if ended = true ∧ closedQ (litsL ss) = true then .inr (kind, litsL ss) else .inl (5, rows.length + 1)) := hide (by
          rcases unhide HPH with ⟨hk0, hkd, hss⟩ | ⟨hk1, _, hrq⟩
          · have : rows = [] := List.eq_nil_of_length_eq_zero (by omega)
            rw [unhide HSP, this, hss, if_neg (by intro h; cases h.2)]
            rfl
          · rw [hrq, hkl, List.drop_length]; rfl)
        subst hkl
        cases ended with
        | false =>
          have HF : Hid (readQ q l = .inl (5, rows.length + 1)) := hide (by rw [unhide HRQ, if_neg (by intro h; cases h.1)])
          have hz := hrx
          have r20 : wr.cell? ⟨w.heap.size + 1, 0, none⟩ = some (.int .i64 0) := by rw [blk_cell hz]; rfl
          have r21 : wr.cell? ⟨w.heap.size + 1, 1, none⟩ = some (.slice none 0 0) := by rw [blk_cell hz]; rfl
          have y20 := blk_free hz 0
          have y21 := blk_free hz 1
          have hR := blk_set (blk_set hz 0 (.int .i64 0)) 1 (.slice none 0 0)
          have j0 := blk_cell hR 0
          have j1 := blk_cell hR 1
          go_wp2_with fail
          refine bodyPost_ret (v := .tuple #[.agg #[.int .i64 0, .slice none 0 0], .int .i64 5, .int .i64 ((rows.length : Int) + 1)]) (by simp [results, Tryz.results24, go_sem, j0, j1]) rfl ⟨?_, ?_⟩
          · exact (hBx.setCell (p := ⟨w.heap.size + 1, 0, none⟩) (Nat.le_succ _) _).setCell (p := ⟨w.heap.size + 1, 1, none⟩) (Nat.le_succ _) _
          · rw [unhide HF]; exact congrArg (fun m : Int => Ending.returned (.tuple #[.agg #[.int .i64 0, .slice none 0 0], .int .i64 5, .int .i64 m])) (by omega)
        | true =>
          go_wp2_with fail
          refine (closed_any w1.heap.size q kind ss _ _ vS wr hP hSB).mono ?_
          rintro e w2 ⟨rfl, hb2⟩
          have hP2 := hP.later hb2
          have hb3 : Below w1.heap.size w1 w2 := hbx.trans (hb2.mono hbx.size)
          have hB3 : Below w.heap.size w w2 := hB1.trans (hb3.mono hB1.size)
          cases hcl : closedQ (litsL ss) with
          | false =>
            have HF : Hid (readQ q l = .inl (5, rows.length + 1)) := hide (by rw [unhide HRQ, if_neg (by rw [hcl]; intro h; cases h.2)])
            clear hcl
            have hz := (hb3.block _ hsz1).trans hr1
            have r20 : w2.cell? ⟨w.heap.size + 1, 0, none⟩ = some (.int .i64 0) := by rw [blk_cell hz]; rfl
            have r21 : w2.cell? ⟨w.heap.size + 1, 1, none⟩ = some (.slice none 0 0) := by rw [blk_cell hz]; rfl
            have y20 := blk_free hz 0
            have y21 := blk_free hz 1
            have hR := blk_set (blk_set hz 0 (.int .i64 0)) 1 (.slice none 0 0)
            have j0 := blk_cell hR 0
            have j1 := blk_cell hR 1
            go_wp2_with fail
            refine bodyPost_ret (v := .tuple #[.agg #[.int .i64 0, .slice none 0 0], .int .i64 5, .int .i64 ((rows.length : Int) + 1)]) (by simp [results, Tryz.results24, go_sem, j0, j1]) rfl ⟨?_, ?_⟩
            · exact (hB3.setCell (p := ⟨w.heap.size + 1, 0, none⟩) (Nat.le_succ _) _).setCell (p := ⟨w.heap.size + 1, 1, none⟩) (Nat.le_succ _) _
            · rw [unhide HF]; exact congrArg (fun m : Int => Ending.returned (.tuple #[.agg #[.int .i64 0, .slice none 0 0], .int .i64 5, .int .i64 m])) (by omega)
          | true =>
            have HSBH := hide hSB
            have HF : Hid (readQ q l = .inr (kind, litsL ss)) := hide (by rw [unhide HRQ, if_pos (by simp [hcl])])
            clear hcl
            have hz := (hb3.block _ hsz1).trans hr1
            have r20 : w2.cell? ⟨w.heap.size + 1, 0, none⟩ = some (.int .i64 0) := by rw [blk_cell hz]; rfl
            have r21 : w2.cell? ⟨w.heap.size + 1, 1, none⟩ = some (.slice none 0 0) := by rw [blk_cell hz]; rfl
            have y20 := blk_free hz 0
            have y21 := blk_free hz 1
            have p2 : w2.cell? ⟨w1.heap.size, 2, none⟩ = some (.int .i64 kind) := by rw [blk_cell hP2.fb]; rfl
            have p3 : w2.cell? ⟨w1.heap.size, 3, none⟩ = some vS := by rw [blk_cell hP2.fb]; rfl
            obtain ⟨aS, cS, rfl⟩ := own_form hP2.oS
            have hO := ownsRow_setCell_below (ownsRow_setCell_below hP2.oS (a := ⟨w.heap.size + 1, 0, none⟩) (show w.heap.size + 1 < w1.heap.size + 1 by omega) (.int .i64 kind)) (a := ⟨w.heap.size + 1, 1, none⟩) (show w.heap.size + 1 < w1.heap.size + 1 by omega) (.slice aS ss.length cS)
            have HO := hide (own_lo (lo := w.heap.size) hO (by omega))
            clear hO
            have hR := blk_set (blk_set hz 0 (.int .i64 kind)) 1 (.slice aS ss.length cS)
            have j0 := blk_cell hR 0
            have j1 := blk_cell hR 1
            go_wp2_with fail
            refine bodyPost_ret (v := .tuple #[.agg #[.int .i64 kind, .slice aS ss.length cS], .int .i64 0, .int .i64 0]) (by simp [results, Tryz.results24, go_sem, j0, j1]) rfl ⟨?_, ?_⟩
            · exact (hB3.setCell (p := ⟨w.heap.size + 1, 0, none⟩) (Nat.le_succ _) _).setCell (p := ⟨w.heap.size + 1, 1, none⟩) (Nat.le_succ _) _
            · rw [unhide HF]; exact ⟨ss, _, rfl, ⟨(unhide HTG).1, by rw [unhide HROWS]; exact (unhide HTG).2⟩, unhide HSBH, rfl, unhide HO⟩
end Go.Proofs.YtgipjjhkhfihpaaGreatDoor

namespace Go.Proofs.YtgipjjhkhfihpaaGreatDoor
open Go.RowKit

/-! ### Check -/
def checkQ (q : QS) (l : List UInt8) : Nat × Nat × Nat := match readQ q l with
  | .inl (x, i) => (0, x, i)
  | .inr (kind, _) => (kind, 0, 0)
def CheckPost (q : QS) (l : List UInt8) (w : World) (e : Ending) (w' : World) : Prop :=
  Below w.heap.size w w' ∧ e = .returned (.tuple #[.int .i64 ((checkQ q l).1 : Int), .int .i64 ((checkQ q l).2.1 : Int), .int .i64 ((checkQ q l).2.2 : Int)])

set_option maxRecDepth 100000 in
set_option maxHeartbeats 1600000 in
theorem check_any (lo b : Nat) (q : QS) (l : List UInt8) (w : World) (hP : ProgAt lo w b q) (hQ : QB q) :
    Calls Tryz.prog 17 #[.pointer (some ⟨b, 0, none⟩), .string ⟨l.toArray⟩] w fun e w' => CheckPost q l w e w' := by
  obtain ⟨_, vV, vC, hfb, hV, hC⟩ := hP
  have hbw := blk_lt hfb
  have k0 : w.cell? ⟨b, 0, none⟩ = some vV := by rw [blk_cell hfb]; rfl
  have k1 : w.cell? ⟨b, 1, none⟩ = some vC := by rw [blk_cell hfb]; rfl
  obtain ⟨aV, cV, rfl⟩ := own_form hV
  obtain ⟨aC, cC, rfl⟩ := own_form hC
  go_enter Tryz.func17, Tryz.ntmps17
  go_wp2_with fail
  refine (formula_any b _ _ aV aC _ cV _ cC rfl rfl w hfb).mono ?_
  rintro e w0 ⟨rfl, hA⟩
  go_wp2_with fail
  refine (pread_any q _ _ l _ (own_lo (lo := 0) (own_below hV hA) (Nat.zero_le _)) (own_lo (lo := 0) (own_below hC hA) (Nat.zero_le _)) hQ).mono ?_
  rintro e w1 ⟨hb1, hp⟩
  have hB1 : Below w.heap.size w w1 := hA.trans (hb1.mono hA.size)
  cases hq : readQ q l with
  | inl xi =>
    obtain ⟨x, i⟩ := xi
    rw [hq] at hp
    have hp' : e = .returned (.tuple #[.agg #[.int .i64 0, .slice none 0 0], .int .i64 (x : Int), .int .i64 (i : Int)]) := hp
    subst hp'
    have HC : Hid (checkQ q l = (0, x, i)) := hide (by unfold checkQ; rw [hq])
    clear hp hq
    go_wp2_with fail
    go_ret3
    exact ⟨hB1.alloc hB1.size _, by rw [unhide HC]; rfl⟩
  | inr ks =>
    obtain ⟨kind, ls⟩ := ks
    rw [hq] at hp
    obtain ⟨ss, vS, _, _, _, rfl, hS⟩ := hp
    have HC : Hid (checkQ q l = (kind, 0, 0)) := hide (by unfold checkQ; rw [hq])
    clear hq
    obtain ⟨aS, cS, rfl⟩ := own_form hS
    go_wp2_with fail
    go_ret3
    exact ⟨hB1.alloc hB1.size _, by rw [unhide HC]; rfl⟩
end Go.Proofs.YtgipjjhkhfihpaaGreatDoor

namespace Go.Proofs.YtgipjjhkhfihpaaGreatDoor
open Go.RowKit

/-! Steps -/
theorem ahead_eq (ss : List (Nat × Nat)) (w : List UInt8) (hs : ss.length ≤ 9000) : aheadQ ss w = if cnt w big < 1 ∨ ss.length < cnt w big then none else some (ss.getD (cnt w big - 1) (0, 0)) := by
  unfold aheadQ
  rw [num_cnt w ss.length (by omega)]
  by_cases h : cnt w big < 1 ∨ ss.length < cnt w big
  · rw [if_pos h, if_neg (by omega)]; rfl
  · rw [if_neg h, if_pos (by omega)]
    have hlt : cnt w big - 1 < ss.length := by omega
    simp only [Option.bind_some]
    rw [List.getElem?_eq_getElem hlt, getD_at _ _ _ hlt]
theorem axiom_eq {F : Form} {q : QS} (h : FQ F q) (x : List UInt8) : axiomQ q 1 [x] = axR F (cnt x big) := by
  unfold axiomQ axR
  rw [if_pos rfl, h.cl]
  dsimp only
  rw [num_cnt x q.cl.length (by have := h.clen; omega)]
  by_cases hb : cnt x big < 1 ∨ q.cl.length < cnt x big
  · rw [if_pos hb, if_neg (by omega)]; rfl
  · rw [if_neg hb, if_pos (by omega)]
    have hlt : cnt x big - 1 < q.cl.length := by omega
    simp only [Option.bind_some]
    rw [List.getElem?_eq_getElem hlt, getD_at _ _ _ hlt]
    simp only [Option.bind_some]
    unfold apartO
    by_cases hz : q.cl[cnt x big - 1].1 &&& q.cl[cnt x big - 1].2 = 0
    · rw [if_pos hz, if_neg (by simp [hz])]
    · rw [if_neg hz, if_pos (by simpa using hz)]
theorem reduct_eq {F : Form} {q : QS} (h : FQ F q) (hF : FOk F) (truth : Bool) (ss : List (Nat × Nat)) (hs : ss.length ≤ 9000) (x : List UInt8) : reductQ q (kd truth) ss [x] = reductR F truth ss (cnt x big) := by
  unfold reductQ reductR
  dsimp only
  rw [ahead_eq ss x hs]
  by_cases hb : cnt x big < 1 ∨ ss.length < cnt x big
  · rw [if_pos hb, if_pos hb]; rfl
  · rw [if_neg hb, if_neg hb]
    simp only [Option.map_some]
    rw [redQ_eq h hF truth]
theorem piv_eq {F : Form} {q : QS} (h : FQ F q) (truth : Bool) (z : List UInt8) : pivQ q (kd truth) z = if 1 ≤ cnt z big ∧ cnt z big ≤ 8 ∧ cnt z big ∈ F.order ∧ F.all.testBit (cnt z big) = truth then some (cnt z big) else none := by
  have hd := dig_num z
  rw [num_cnt z 8 (by omega)] at hd
  unfold pivQ
  have hbd := dig_bd z
  by_cases h0 : dig z = 0
  · rw [if_pos h0] at hd
    rw [if_neg (by omega), if_neg]
    rintro ⟨h1, h2, _⟩
    rw [if_pos ⟨h1, h2⟩] at hd; cases hd
  · rw [if_neg h0] at hd
    have hc : 1 ≤ cnt z big ∧ cnt z big ≤ 8 := by
      apply Classical.byContradiction
      intro hn
      rw [if_neg hn] at hd; cases hd
    rw [if_pos hc] at hd
    have he : cnt z big = (dig z).toNat := Option.some.inj hd
    rw [if_pos (by omega), ← he]
    rcases find_mem h (cnt z big) with ⟨x, h1, h2, h3, h4⟩ | ⟨h1, h2⟩
    · rw [h1]
      simp only [Option.bind_some]
      have hk := h.kinds x h3
      rw [h2] at hk
      have hp : pivotB (kd truth) x.2 = (F.all.testBit (cnt z big) == truth) := by
        rw [hk]; unfold pivotB kd; cases truth <;> cases x.2 <;> rfl
      rw [hp]
      by_cases hb : F.all.testBit (cnt z big) = truth
      · rw [if_pos (by simpa using hb), if_pos ⟨hc.1, hc.2, h4, hb⟩]
      · rw [if_neg (by simpa using hb), if_neg (fun hh => hb hh.2.2.2)]
    · rw [h1, if_neg (fun hh => h2 hh.2.2.1)]; rfl
theorem resQ2_eq {F : Form} (a b : Nat × Nat) (v : Nat) (h1 : 1 ≤ v) (h8 : v ≤ 8) (sa : SI F a) (sb : SI F b) : resQ2 a b v = if a.1.testBit v = false ∨ b.2.testBit v = false then none else apartO (resolve2 a b v) := by
  by_cases ha : a.1.testBit v = true
  · by_cases hb : b.2.testBit v = true
    · have e : without2 a b v = resolve2 a b v := by
        have na : a.2.testBit v = false := by
          cases hh : a.2.testBit v with
          | false => rfl
          | true => exact (bits_apart sa.apart v ha hh).elim
        have nb : b.1.testBit v = false := by
          cases hh : b.1.testBit v with
          | false => rfl
          | true => exact (bits_apart sb.apart v hh hb).elim
        unfold without2 without resolve2
        rw [bitOf_nat v h1 h8]
        apply pair_ext
        · intro u
          show (less (a.1 ||| b.1) (2 ^ v)).testBit u = (less a.1 (2 ^ v) ||| b.1).testBit u
          rw [testBit_less, Nat.testBit_or, Nat.testBit_or, testBit_less, Nat.testBit_two_pow]
          by_cases e : v = u
          · subst e; simp [nb]
          · simp [e]
        · intro u
          show (less (a.2 ||| b.2) (2 ^ v)).testBit u = (a.2 ||| less b.2 (2 ^ v)).testBit u
          rw [testBit_less, Nat.testBit_or, Nat.testBit_or, testBit_less, Nat.testBit_two_pow]
          by_cases e : v = u
          · subst e; simp [na]
          · simp [e]
      have e1 : resQ2 a b v = (if (without2 a b v).1 &&& (without2 a b v).2 != 0 then none else some (without2 a b v)) := by
        unfold resQ2; rw [hasLit_pos a v h1 h8, hasLit_neg b v h1 h8, if_pos ⟨ha, hb⟩]
      rw [e1, e, if_neg (show ¬ (a.1.testBit v = false ∨ b.2.testBit v = false) by rw [ha, hb]; simp)]
      unfold apartO
      by_cases hz2 : (resolve2 a b v).1 &&& (resolve2 a b v).2 = 0
      · rw [if_pos hz2, if_neg (by simp [hz2])]
      · rw [if_neg hz2, if_pos (by simpa using hz2)]
    · have hb' : b.2.testBit v = false := by simpa using hb
      rw [if_pos (Or.inr hb')]
      unfold resQ2; rw [hasLit_neg b v h1 h8, if_neg (fun hh => hb hh.2)]
  · have ha' : a.1.testBit v = false := by simpa using ha
    rw [if_pos (Or.inl ha')]
    unfold resQ2; rw [hasLit_pos a v h1 h8, if_neg (fun hh => ha hh.1)]
theorem res_eq {F : Form} {q : QS} (h : FQ F q) (truth : Bool) (ss : List (Nat × Nat)) (hs : ss.length ≤ 9000) (hSI : ∀ c ∈ ss, SI F c) (x y z : List UInt8) : resQ q (kd truth) ss [x, y, z] = resR F truth ss (cnt x big) (cnt y big) (cnt z big) := by
  have LQ : resQ q (kd truth) ss [x, y, z] = (aheadQ ss x).bind fun a => (aheadQ ss y).bind fun b => (pivQ q (kd truth) z).bind fun v => resQ2 a b v := rfl
  have RN : (cnt x big < 1 ∨ ss.length < cnt x big ∨ cnt y big < 1 ∨ ss.length < cnt y big ∨ cnt z big < 1 ∨ 8 < cnt z big) → resR F truth ss (cnt x big) (cnt y big) (cnt z big) = none := fun hh => by unfold resR; rw [if_pos hh]
  rw [LQ]
  by_cases hx : cnt x big < 1 ∨ ss.length < cnt x big
  · rw [ahead_eq ss x hs, if_pos hx, RN (by omega)]; rfl
  · rw [ahead_eq ss x hs, if_neg hx, Option.bind_some]
    by_cases hy : cnt y big < 1 ∨ ss.length < cnt y big
    · rw [ahead_eq ss y hs, if_pos hy, RN (by omega)]; rfl
    · rw [ahead_eq ss y hs, if_neg hy, Option.bind_some]
      by_cases hz : cnt z big < 1 ∨ 8 < cnt z big
      · rw [piv_eq h truth z, if_neg (by omega), RN (by omega)]; rfl
      · have h1 : 1 ≤ cnt z big := by omega
        have h8 : cnt z big ≤ 8 := by omega
        have ia : cnt x big - 1 < ss.length := by omega
        have ib : cnt y big - 1 < ss.length := by omega
        have hR : resR F truth ss (cnt x big) (cnt y big) (cnt z big) = if F.all.testBit (cnt z big) ≠ truth ∨ ss[cnt x big - 1].1.testBit (cnt z big) = false ∨ ss[cnt y big - 1].2.testBit (cnt z big) = false then none else apartO (resolve2 ss[cnt x big - 1] ss[cnt y big - 1] (cnt z big)) := by
          unfold resR
          rw [if_neg (by omega), getD_at _ _ _ ia, getD_at _ _ _ ib]
        rw [hR, getD_at _ _ _ ia, getD_at _ _ _ ib, piv_eq h truth z]
        have sa := hSI _ (List.getElem_mem ia)
        have sb := hSI _ (List.getElem_mem ib)
        clear RN LQ hR
        generalize ss[cnt x big - 1] = a at *
        generalize ss[cnt y big - 1] = b at *
        generalize cnt z big = v at *
        by_cases hk : F.all.testBit v = truth
        · by_cases hm : v ∈ F.order
          · have hc : (1 ≤ v ∧ v ≤ 8 ∧ v ∈ F.order ∧ F.all.testBit v = truth) := ⟨h1, h8, hm, hk⟩
            rw [if_pos hc, Option.bind_some, resQ2_eq a b v h1 h8 sa sb]
            by_cases hh : a.1.testBit v = false ∨ b.2.testBit v = false
            · rw [if_pos hh, if_pos (Or.inr hh)]
            · rw [if_neg hh, if_neg (by rintro (h' | h'); exact h' hk; exact hh h')]
          · have hc : ¬ (1 ≤ v ∧ v ≤ 8 ∧ v ∈ F.order ∧ F.all.testBit v = truth) := fun hh => hm hh.2.2.1
            have ha : a.1.testBit v = false := by
              cases hh : a.1.testBit v with
              | false => rfl
              | true => exact absurd (sa.vars v (Or.inl hh)) hm
            rw [if_neg hc, if_pos (Or.inr (Or.inl ha))]; rfl
        · have hc : ¬ (1 ≤ v ∧ v ≤ 8 ∧ v ∈ F.order ∧ F.all.testBit v = truth) := fun hh => hk hh.2.2.2
          rw [if_neg hc, if_pos (Or.inl hk)]; rfl

/-! Cubes -/
theorem lit_eq (c : Nat × Nat) (w : List UInt8) : (litInto c w).2 = litGood w ∧ (litGood w = true → (litInto c w).1 = withLit c (litNum w) ∧ (litNum w).natAbs = litVar w) := by
  obtain ⟨h1, h2⟩ := litInto_good c w
  refine ⟨h1, fun hg => ⟨h2 hg, ?_⟩⟩
  unfold litGood at hg
  unfold litNum litVar
  by_cases hh : w.head? = some 45
  · rw [if_pos hh] at hg ⊢
    have hd : 0 < dig w.tail := of_decide_eq_true hg
    have h0 : dig w = 0 := by
      cases w with
      | nil => simp at hh
      | cons a r =>
        simp at hh; subst hh
        cases r with
        | nil => rfl
        | cons b r => rfl
    rw [if_pos h0]; omega
  · rw [if_neg hh] at hg ⊢
    have hd : 0 < dig w := of_decide_eq_true hg
    rw [if_neg (by omega)]; omega
theorem cube_eq {F : Form} {q : QS} (h : FQ F q) (ws : List (List UInt8)) : ∀ (c : Nat × Nat) (last : Nat), cubeQ q.vars c last ws = cubeTo F.order c last ws := by
  induction ws with
  | nil => intro c last; rfl
  | cons w ws ih =>
    intro c last
    obtain ⟨h1, h2⟩ := lit_eq c w
    rw [cubeQ, cubeTo, h1]
    cases hg : litGood w with
    | false => rw [if_neg (by decide), if_neg (fun hh => by cases hh.1)]
    | true =>
      obtain ⟨h3, h4⟩ := h2 hg
      rw [if_pos rfl, h4, h3]
      rcases find_mem h (litVar w) with ⟨x, f1, f2, f3, f4⟩ | ⟨f1, f2⟩
      · rw [f1]
        dsimp only
        rw [f2]
        by_cases hle : litVar w ≤ last
        · rw [if_pos hle, if_neg (fun hh => by have := hh.2.1; omega)]
        · rw [if_neg hle, if_pos ⟨rfl, by omega, f4⟩, ih]
      · rw [f1]
        dsimp only
        rw [if_neg (fun hh => f2 hh.2.2)]
theorem cubeStep_eq {F : Form} {q : QS} (h : FQ F q) (ws : List (List UInt8)) : cubeStepQ q 2 ws = cubeR F ws := by
  unfold cubeStepQ cubeR
  rw [if_pos rfl, cube_eq h, h.cl]
  congr 1
  funext c
  have : satQ q.cl c = satR q.cl c := by
    unfold satQ satR
    congr 1
    funext x
    exact okC_eq x c
  rw [this]

/-! Lines -/
theorem step_eq {F : Form} {q : QS} (h : FQ F q) (hF : FOk F) (truth : Bool) (ss : List (Nat × Nat)) (hs : ss.length ≤ 9000) (hSI : ∀ c ∈ ss, SI F c) (hd : List UInt8) (tl : List (List UInt8)) : stepQ q (kd truth) ss hd tl = stepR F truth ss hd tl := by
  unfold stepQ
  by_cases ha : hd = [97]
  · subst ha
    rw [if_pos rfl]
    cases truth with
    | true =>
      have e1 : stepR F true ss [97] tl = none := rfl
      rw [e1]; rfl
    | false =>
      by_cases hl : tl.length = 1
      · obtain ⟨x, rfl⟩ := List.length_eq_one_iff.1 hl
        exact axiom_eq h x
      · have e1 : stepR F false ss [97] tl = none := by unfold stepR; rw [if_neg (fun h => hl h.2.2), if_neg (by simp), if_neg (by simp), if_neg (by simp)]
        rw [e1]
        unfold axiomQ
        split
        · split
          · simp at hl
          · rfl
        · rfl
  · rw [if_neg ha]
    by_cases hc : hd = [99]
    · subst hc
      rw [if_pos rfl]
      cases truth with
      | false =>
        have e1 : stepR F false ss [99] tl = none := rfl
        rw [e1]; rfl
      | true =>
        have e1 : stepR F true ss [99] tl = cubeR F tl := rfl
        rw [e1]; exact cubeStep_eq h tl
    · rw [if_neg hc]
      by_cases hr : hd = [114]
      · subst hr
        rw [if_pos rfl]
        by_cases hl : tl.length = 3
        · obtain ⟨x, y, z, rfl⟩ := len_three hl
          rw [res_eq h truth ss hs hSI]
          unfold stepR; rw [if_neg (by simp), if_neg (by simp), if_pos ⟨rfl, rfl⟩]; rfl
        · have e1 : stepR F truth ss [114] tl = none := by unfold stepR; rw [if_neg (by simp), if_neg (by simp), if_neg (fun h => hl h.2), if_neg (by simp)]
          rw [e1]
          unfold resQ
          split
          · simp at hl
          · rfl
      · rw [if_neg hr]
        by_cases hdd : hd = [100]
        · subst hdd
          rw [if_pos rfl]
          by_cases hl : tl.length = 1
          · obtain ⟨x, rfl⟩ := List.length_eq_one_iff.1 hl
            rw [reduct_eq h hF truth ss hs]
            unfold stepR; rw [if_neg (by simp), if_neg (by simp), if_neg (by simp), if_pos ⟨rfl, rfl⟩]; rfl
          · have e1 : stepR F truth ss [100] tl = none := by unfold stepR; rw [if_neg (by simp), if_neg (by simp), if_neg (by simp), if_neg (fun h => hl h.2)]
            rw [e1]
            unfold reductQ
            split
            · simp at hl
            · rfl
        · rw [if_neg hdd]
          unfold stepR; rw [if_neg (fun h => ha h.1), if_neg (fun h => hc h.1), if_neg (fun h => hr h.1), if_neg (fun h => hdd h.1)]
end Go.Proofs.YtgipjjhkhfihpaaGreatDoor

namespace Go.Proofs.YtgipjjhkhfihpaaGreatDoor
open Go.RowKit

theorem cnt_nil : cnt [] big = 0 := rfl
theorem cubeTo_bad (order : List Nat) (ws : List (List UInt8)) (h : [] ∈ ws) : ∀ c last, cubeTo order c last ws = none := by
  induction ws with
  | nil => simp at h
  | cons w ws ih =>
    intro c last
    rw [cubeTo]
    rcases List.mem_cons.1 h with h | h
    · subst h; rw [if_neg]; rintro ⟨h1, _⟩; cases h1
    · split
      · exact ih h _ _
      · rfl
theorem step_bad (F : Form) (truth : Bool) (ss : List (Nat × Nat)) (hd : List UInt8) (tl : List (List UInt8)) (h : hd = [] ∨ [] ∈ tl) : stepR F truth ss hd tl = none := by
  rcases h with h | h
  · subst h
    unfold stepR; rw [if_neg (by simp), if_neg (by simp), if_neg (by simp), if_neg (by simp)]
  · unfold stepR
    split
    · next hc =>
      obtain ⟨x, rfl⟩ := List.length_eq_one_iff.1 hc.2.2
      have hx : x = [] := by simpa using h
      subst hx
      show axR F (cnt [] big) = none
      rw [cnt_nil]; rfl
    · split
      · unfold cubeR; rw [cubeTo_bad _ _ h]; rfl
      · split
        · next hc =>
          obtain ⟨x, y, z, rfl⟩ := len_three hc.2
          show resR F truth ss (cnt x big) (cnt y big) (cnt z big) = none
          unfold resR
          rw [if_pos]
          simp at h
          rcases h with h | h | h
          · left; rw [h, cnt_nil]; omega
          · right; right; left; rw [h, cnt_nil]; omega
          · right; right; right; right; left; rw [h, cnt_nil]; omega
        · split
          · next hc =>
            obtain ⟨x, rfl⟩ := List.length_eq_one_iff.1 hc.2
            have hx : x = [] := by simpa using h
            subst hx
            show reductR F truth ss (cnt [] big) = none
            rw [cnt_nil]; rfl
          · rfl
theorem line_eq {F : Form} {q : QS} (h : FQ F q) (hF : FOk F) (truth : Bool) (ss : List (Nat × Nat)) (hs : ss.length ≤ 9000) (hSI : ∀ c ∈ ss, SI F c) (row : List UInt8) : lineQ q (kd truth) ss row = lineR F truth ss row := by
  obtain ⟨hd, tl, hws⟩ : ∃ hd tl, cutAt 32 row = hd :: tl := by
    cases h : cutAt 32 row with
    | nil => simp [cutAt] at h
    | cons a b => exact ⟨a, b, rfl⟩
  rw [lineR_eq F truth ss row hd tl hws]
  by_cases h9 : 9000 ≤ ss.length
  · rw [if_pos (by omega)]
    unfold lineQ; rw [if_pos h9]
  · rw [if_neg (by omega)]
    cases hsp : splitOk row with
    | true => rw [lineQ_eq q (kd truth) ss row hd tl h9 hsp hws, step_eq h hF truth ss hs hSI]
    | false =>
      rw [step_bad F truth ss hd tl (split_words row hd tl hws hsp)]
      unfold lineQ; rw [if_neg h9, hsp]; rfl
theorem si_of {F : Form} {truth : Bool} {c : Nat × Nat} (hg : Good (satB F.cl) F.all (!truth) F.order c) (hb : Bd c) : SI F c := ⟨hb, apart_bits hg.apart, hg.vars⟩
theorem lineR_good {F : Form} (hF : FOk F) (truth : Bool) (ss : List (Nat × Nat)) (hg : ∀ c ∈ ss, Good (satB F.cl) F.all (!truth) F.order c) (hb : ∀ c ∈ ss, Bd c) (row : List UInt8) (c : Nat × Nat) (h : lineR F truth ss row = some c) : Good (satB F.cl) F.all (!truth) F.order c ∧ Bd c ∧ ss.length < 9000 ∨ 9000 < ss.length := by
  unfold lineR at h
  split at h
  · cases h
  · split at h
    · cases h
    · next h9 =>
      by_cases hh : 9000 < ss.length
      · exact Or.inr hh
      · exact Or.inl ⟨good_stepR hF truth ss _ _ _ hg h, stepR_bd F truth ss _ _ c hF.bits hb h, by omega⟩
theorem rowsQ_eq {F : Form} {q : QS} (h : FQ F q) (hF : FOk F) (truth : Bool) (rs : List (List UInt8)) : ∀ (ss : List (Nat × Nat)) (n : Nat), ss.length ≤ 9000 → (∀ c ∈ ss, Good (satB F.cl) F.all (!truth) F.order c) → (∀ c ∈ ss, Bd c) → rowsQ q (kd truth) ss n rs = rowsR F truth ss n rs := by
  induction rs with
  | nil => intro ss n _ _ _; rfl
  | cons r rs ih =>
    intro ss n hs hg hb
    rw [rowsQ, rowsR, line_eq h hF truth ss hs (fun c hc => si_of (hg c hc) (hb c hc)) r]
    cases hl : lineR F truth ss r with
    | none => rfl
    | some c =>
      dsimp only
      rcases lineR_good hF truth ss hg hb r c hl with ⟨h1, h2, h3⟩ | h9
      · apply ih
        · simp; omega
        · intro c' hc'
          rcases List.mem_append.1 hc' with hc' | hc'
          · exact hg c' hc'
          · simp at hc'; subst hc'; exact h1
        · intro c' hc'
          rcases List.mem_append.1 hc' with hc' | hc'
          · exact hb c' hc'
          · simp at hc'; subst hc'; exact h2
      · omega
theorem check_eq {F : Form} {q : QS} (h : FQ F q) (hF : FOk F) (l : List UInt8) : checkQ q l = match provesR F l with
    | .inl (x, i) => (0, x, i)
    | .inr (truth, _) => (kd truth, 0, 0) := by
  unfold checkQ readQ provesR
  by_cases hl : 262144 < l.length
  · rw [if_pos hl, if_pos hl]
  · rw [if_neg hl, if_neg hl]
    cases hrows : (cutTo 10 l).1 with
    | nil => rfl
    | cons r0 rs =>
      unfold firstQ
      dsimp only
      by_cases hr : r0 = sTrue ∨ r0 = sFalse
      · rw [if_pos hr, if_pos hr]
        have hk : kindOf r0 = kd (r0 == sTrue) := by
          unfold kindOf kd
          by_cases e : r0 = sTrue
          · rw [if_pos e, if_pos (by simpa using e)]
          · rw [if_neg e, if_neg (by simpa using e)]
        unfold goQ
        rw [hk, rowsQ_eq h hF (r0 == sTrue) rs [] 1 (by simp) (by simp) (by simp)]
        cases rowsR F (r0 == sTrue) [] 1 rs with
        | inr i => rfl
        | inl ss =>
          dsimp only
          have he : closedQ ss = emptyLast ss := rfl
          rw [he]
          by_cases hc : (cutTo 10 l).2 = [] ∧ emptyLast ss = true
          · rw [if_pos hc, if_pos ⟨by simpa using hc.1, hc.2⟩]
          · rw [if_neg hc, if_neg (fun hh => hc ⟨by simpa using hh.1, hh.2⟩)]
      · rw [if_neg hr, if_neg hr]

end Go.Proofs.YtgipjjhkhfihpaaGreatDoor

namespace Go.Proofs.YtgipjjhkhfihpaaGreatDoor
open Go.RowKit

/-! ### The values of a game -/
/-! ### At the end the side that wins has won -/
/-! ### Of proofs that were read -/
end Go.Proofs.YtgipjjhkhfihpaaGreatDoor

namespace Go.Proofs.YtgipjjhkhfihpaaGreatDoor
open Go.RowKit

/-- One step of a script. -/
structure OpV where
  kind : Int
  a : Int
  b : Int
  c : Int
  s : List UInt8
  t : List UInt8
def OpV.cells (o : OpV) : List Value := [.int .i64 o.kind, .int .i64 o.a, .int .i64 o.b, .int .i64 o.c, S o.s, S o.t]
theorem Only.pre {T : Nat → Prop} {a b c : World} (h : Below a.heap.size a b) (k : Only T b c) : Only T a c := (Only.of_below h).trans k

end Go.Proofs.YtgipjjhkhfihpaaGreatDoor

namespace Go.Proofs.YtgipjjhkhfihpaaGreatDoor
open Go.RowKit

/-! ### Move, Values, Turn -/
end Go.Proofs.YtgipjjhkhfihpaaGreatDoor

namespace Go.Proofs.YtgipjjhkhfihpaaGreatDoor
open Go.RowKit

/-! ### Values, Turn -/
end Go.Proofs.YtgipjjhkhfihpaaGreatDoor
