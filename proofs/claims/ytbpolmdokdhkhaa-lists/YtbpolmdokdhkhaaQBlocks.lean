import Derived.Test.YtbpolmdokdhkhaaQbf1
import Derived.Test.YtbpolmdokdhkhaaBlocksSpec
import Derived.Deep.QuietTactic
import Derived.BigQuiet
namespace Go.Proofs.Ytbpolmdokdhkhaa
open Go.RowKit

theorem Try.infoInts : (Try.prog.info? 25).map (fun i => (i.zero, i.size, i.bytes)) = some (some (.slice none 0 0), 1, 24) := by kernel_rfl

/-- Lists of numbers, each in a row of its own; their headers in a row. -/
structure RowsAt (base : Nat) (w : World) (bs : List (List Nat)) (hdrs : List Value) : Prop where
  len : hdrs.length = bs.length
  row : ∀ j (hj : j < bs.length), w.ownsRow base 3 1 (hdrs[j]'(by omega)) bs[j].length (ints bs[j]) ∧ bs[j] ≠ []
  apart : ∀ i j (hi : i < hdrs.length) (hj : j < hdrs.length), i ≠ j → apart hdrs[i] hdrs[j]
structure BInv (base : Nat) (w : World) (bs : List (List Nat)) (cur : List Nat) (hdrs : List Value) (vB vb : Value) : Prop where
  rows : RowsAt base w bs hdrs
  oB : w.ownsRow base 25 1 vB bs.length hdrs
  ob : w.ownsRow base 3 1 vb cur.length (ints cur)
  ap : ∀ j (hj : j < hdrs.length), apart vb hdrs[j]

theorem RowsAt.later {base : Nat} {w w' : World} {bs : List (List Nat)} {hdrs : List Value} (h : RowsAt base w bs hdrs) (hb : Below w.heap.size w w') : RowsAt base w' bs hdrs :=
  ⟨h.len, fun j hj => ⟨own_below (h.row j hj).1 hb, (h.row j hj).2⟩, h.apart⟩
theorem BInv.later {base : Nat} {w w' : World} {bs : List (List Nat)} {cur : List Nat} {hdrs : List Value} {vB vb : Value} (h : BInv base w bs cur hdrs vB vb) (hb : Below w.heap.size w w') : BInv base w' bs cur hdrs vB vb :=
  ⟨h.rows.later hb, own_below h.oB hb, own_below h.ob hb, h.ap⟩

theorem BInv.push_block {base : Nat} {w w' : World} {bs : List (List Nat)} {cur : List Nat} {hdrs : List Value} {vB vb v' : Value} (h : BInv base w bs cur hdrs vB vb) (hc : cur ≠ []) (hg : w.grownBy w' vB.ownBlock)
    (hown : w'.ownsRow base 25 1 v' (bs.length + 1) (hdrs ++ [vb])) : BInv base w' (bs ++ [cur]) [] (hdrs ++ [vb]) v' (.slice none 0 0) := by
  have hl := h.rows.len
  have kb := own_kept h.ob (Below.refl _ _) h.oB hg (by decide)
  refine ⟨⟨by simp [hl], ?_, ?_⟩, by simpa using hown, World.ownsRow_nil _ _ _ _, fun _ _ => apart_nil _⟩
  · intro j hj
    by_cases hjl : j < bs.length
    · have := h.rows.row j hjl
      simp only [List.getElem_append_left hjl, List.getElem_append_left (show j < hdrs.length by omega)]
      exact ⟨own_kept this.1 (Below.refl _ _) h.oB hg (by decide), this.2⟩
    · have hje : j = bs.length := by simp at hj; omega
      subst hje
      simp only [List.getElem_concat_length]
      rw [show (hdrs ++ [vb])[bs.length]'(by simp; omega) = vb from by simp [← hl]]
      exact ⟨kb, hc⟩
  · intro i j hi hj hij
    by_cases hil : i < hdrs.length
    · by_cases hjl : j < hdrs.length
      · simp only [List.getElem_append_left hil, List.getElem_append_left hjl]
        exact h.rows.apart i j hil hjl hij
      · have hje : j = hdrs.length := by simp at hj; omega
        subst hje
        simp only [List.getElem_append_left hil, List.getElem_concat_length]
        exact (h.ap i hil).symm
    · have hie : i = hdrs.length := by simp at hi; omega
      subst hie
      have hjl : j < hdrs.length := by simp at hj; omega
      simp only [List.getElem_append_left hjl, List.getElem_concat_length]
      exact h.ap j hjl
theorem BInv.push_var {base : Nat} {w w' : World} {bs : List (List Nat)} {cur : List Nat} {hdrs : List Value} {vB vb v' : Value} {x : Nat} (h : BInv base w bs cur hdrs vB vb) (hg : w.grownBy w' vb.ownBlock)
    (hown : w'.ownsRow base 3 1 v' (cur.length + 1) (ints cur ++ [.int .i64 (x : Int)])) (hat : v'.ownBlock = vb.ownBlock ∨ ∃ k, v'.ownBlock = some k ∧ w.heap.size ≤ k) : BInv base w' bs (cur ++ [x]) hdrs vB v' := by
  refine ⟨⟨h.rows.len, fun j hj => ⟨?_, (h.rows.row j hj).2⟩, h.rows.apart⟩, own_kept h.oB (Below.refl _ _) h.ob hg (by decide), by simpa [ints] using hown, fun j hj => ?_⟩
  · have hl := h.rows.len
    exact (h.rows.row j hj).1.kept hg (h.ap j (by omega)).symm.keep
  · have hl := h.rows.len
    exact (h.ap j hj).grown (h.rows.row j (by omega)).1 hat

/-- A block of another kind is as it was behind an append. -/
theorem blk_kept {w w' : World} {v : Value} {base n size g : Nat} {e t : TypeId} {xs : List Value} {cs : Array Value} (hg : w.grownBy w' v.ownBlock) (ho : w.ownsRow base e size v n xs) (hb : w.heap[g]? = some (.cells cs t (0, 0))) (he : t ≠ e) : w'.heap[g]? = some (.cells cs t (0, 0)) := by
  rw [hg.block g (blk_lt hb) (fun eq => by
    rcases ho.2 with ⟨rfl, _⟩ | ⟨g', cap, cur', rfl, _, hh, _⟩
    · simp [Value.ownBlock] at eq
    · simp [Value.ownBlock] at eq
      subst eq
      rw [hb] at hh
      simp at hh
      exact he hh.2)]
  exact hb

theorem gather_len (vs : List (Nat × Bool)) (k : Nat) : (gather vs k).1.length ≤ k ∧ (gather vs k).2.length ≤ k := by
  induction k with
  | zero => simp [gather]
  | succ k ih =>
    rw [gather]
    split <;> simp <;> omega

def QBlocksPost (vs : List (Nat × Bool)) (w : World) (e : Ending) (w' : World) : Prop :=
  ∃ v hdrs, e = .returned v ∧ w'.ownsRow w.heap.size 25 1 v (progBlocks vs).length hdrs ∧ RowsAt w.heap.size w' (progBlocks vs) hdrs ∧ Below w.heap.size w w'

set_option maxRecDepth 100000 in
set_option maxHeartbeats 3200000 in
theorem qblocks_any (base b : Nat) (q : QS) (w : World) (aV : Option Addr) (cV : Nat) (hf : w.cell? ⟨b, 0, none⟩ = some (.slice aV q.vars.length cV)) (hb : b < w.heap.size) (hV : w.ownsRow base 91 2 (.slice aV q.vars.length cV) q.vars.length (varCells q.vars)) (hl : q.vars.length ≤ 1048576) :
    Calls Try.prog 71 #[.pointer (some ⟨b, 0, none⟩)] w fun e w' => QBlocksPost q.vars w e w' := by
  obtain ⟨i3, hi3, hz30, hz31, hz32⟩ := info_parts Try.info3
  obtain ⟨i5, hi5, hz50, hz51, hz52⟩ := info_parts Try.infoInts
  go_enter Try.func71, Try.ntmps71
  go_wp2_with fail
  go_loopg [3, 4, 12] (q.vars.length) (fun n vB vb i wx => ∃ (k : Nat) (hdrs : List Value), i = .int .i64 k ∧ k + n = q.vars.length ∧ BInv w.heap.size wx (gather q.vars k).1 (gather q.vars k).2 hdrs vB vb ∧ Below w.heap.size w wx)
  case atStart => exact ⟨0, [], rfl, by omega, ⟨⟨rfl, fun j hj => by simp [gather] at hj, fun i j hi => by simp at hi⟩, World.ownsRow_nil _ _ _ _, World.ownsRow_nil _ _ _ _, fun j hj => by simp at hj⟩, Below.refl _ _⟩
  case round =>
    obtain ⟨k, hdrs, rfl, hk, hB, hbx⟩ := hrel
    have hbs := hbx.size
    obtain ⟨gl1, gl2⟩ := gather_len q.vars k
    by_cases hlt : k < q.vars.length
    · obtain ⟨g, cap, hVe, hg, hg', _, hcell⟩ := own_pos hV (by omega)
      injection hVe with hVe _ hV2
      subst hVe hV2
      have hgw : g < wr.heap.size := by omega
      have hbw : b < wr.heap.size := by omega
      obtain ⟨ha, hb'⟩ := varCells_at q.vars k hlt
      have hx0 : wr.cell? ⟨g, k * 2, none⟩ = some (.int .i64 (q.vars[k].1 : Int)) := by rw [hbx.cell (p := ⟨g, k * 2, none⟩) hg']; exact hcell _ _ ha
      have hx1 : wr.cell? ⟨g, k * 2 + 1, none⟩ = some (.bool q.vars[k].2) := by rw [hbx.cell (p := ⟨g, k * 2 + 1, none⟩) hg']; exact hcell _ _ hb'
      have hf1 : wr.cell? ⟨b, 0, none⟩ = some (.slice (some ⟨g, 0, none⟩) q.vars.length cV) := by rw [hbx.cell (p := ⟨b, 0, none⟩) hb]; exact hf
      have hdk : decide ((k : Int) < (q.vars.length : Int)) = true := by simp; omega
      have HG : Hid (gather q.vars (k + 1) = if newAt q.vars k then ((gather q.vars k).1 ++ [(gather q.vars k).2], [q.vars[k].1]) else ((gather q.vars k).1, (gather q.vars k).2 ++ [q.vars[k].1])) := hide (by
        rw [gather]; simp [List.getD, hlt])
      by_cases h0 : 0 < k
      · obtain ⟨ha1, hb1⟩ := varCells_at q.vars (k - 1) (by omega)
        have hy1 : wr.cell? ⟨g, (k - 1) * 2 + 1, none⟩ = some (.bool q.vars[k - 1].2) := by rw [hbx.cell (p := ⟨g, (k - 1) * 2 + 1, none⟩) hg']; exact hcell _ _ hb1
        have hd0 : decide (0 < k) = true := by simpa using h0
        have HN : Hid (newAt q.vars k = (q.vars[k].2 != q.vars[k - 1].2)) := hide (by
          unfold newAt kindAt; simp [List.getD, hlt, show k - 1 < q.vars.length by omega, h0])
        have hcur : (gather q.vars k).2 ≠ [] := by
          intro e
          have := gather_pos q.vars (k - 1)
          rw [show k - 1 + 1 = k from by omega, e] at this
          simp at this
        clear hcell ha hb' ha1 hb1
        generalize gather q.vars k = G at *
        obtain ⟨bs, cur⟩ := G
        dsimp only at hB gl1 gl2 hcur
        generalize q.vars[k - 1] = y at *
        generalize q.vars[k] = x at *
        obtain ⟨x1, x2⟩ := x
        obtain ⟨y1, y2⟩ := y
        dsimp only at hx0 hx1 hy1
        have hbelA : ∀ nq, Below wr.heap.size wr ((wr.alloc (.cells #[.int .i64 (x1 : Int), .bool x2] 91)).drewN nq) := fun nq => below_drewN ((Below.refl _ _).alloc (Nat.le_refl _) _) nq
        have hcvA : ∀ nq, ((wr.alloc (.cells #[.int .i64 (x1 : Int), .bool x2] 91)).drewN nq).heap[wr.heap.size]? = some (.cells #[.int .i64 (x1 : Int), .bool x2] 91 (0, 0)) := fun nq => heap_alloc_new wr _
        have HBA := hide hbelA
        have HCA := hide hcvA
        clear hbelA hcvA
        cases hxy : (x2 != y2) with
        | false =>
          have HN2 : Hid (newAt q.vars k = false) := hide (by rw [unhide HN]; exact hxy)
          have HXY := hide hxy
          clear hxy
          cases x2 <;> cases y2 <;> first | (exfalso; exact absurd (unhide HXY) (by decide)) | skip
          all_goals
            go_wp2_with fail
            go_quiet (fail)
            have hb1 := unhide HBA nq
            have hc1 := unhide HCA nq
            generalize World.drewN _ nq = W at *
            have hBW := hB.later hb1
            have hbW : Below w.heap.size w W := hbx.trans (hb1.mono hbs)
            have hbWs := hbW.size
            have hcv : W.cell? ⟨wr.heap.size, 0, none⟩ = some (.int .i64 (x1 : Int)) := by rw [blk_cell hc1]; rfl
            go_wp2_with (at_builtin; refine wpList_append_at rfl (.tmp 37) (.tmp 40) 25 rfl w.heap.size i3 (.int .i64 0) 1 8 Try.underlying25 hi3 hz30 hz31 hz32 rfl (by decide) _ _ _ hBW.ob rfl rfl rfl (by simp [Value.oneCell']) (by unfold maxLen; omega) (by omega) hbWs ?_; intro v5 w5 hown5 hgrow5 hat5)
            go_roundg (gk - 1)
            case measure => omega
            case rel =>
              refine ⟨k + 1, hdrs, by go_num, by omega, ?_, below_grown hbW hgrow5 hBW.ob (Nat.le_refl _) hbWs⟩
              rw [unhide HG, unhide HN2, if_neg (by decide)]
              exact hBW.push_var hgrow5 hown5 hat5
        | true =>
          have HN2 : Hid (newAt q.vars k = true) := hide (by rw [unhide HN]; exact hxy)
          have HXY := hide hxy
          clear hxy
          have hcl : 0 < cur.length := List.length_pos_iff.2 hcur
          cases x2 <;> cases y2 <;> first | (exfalso; exact absurd (unhide HXY) (by decide)) | skip
          all_goals
            go_wp2_with fail
            go_quiet (fail)
            have hb1 := unhide HBA nq
            have hc1 := unhide HCA nq
            generalize World.drewN _ nq = W at *
            have hBW := hB.later hb1
            have hbW : Below w.heap.size w W := hbx.trans (hb1.mono hbs)
            have hbWs := hbW.size
            obtain ⟨gb, capb, rfl, _, _, _, _⟩ := own_pos hBW.ob hcl
            go_wp2_with (first | (at_builtin; refine wpList_append_at rfl (.tmp 33) (.tmp 35) 56 rfl w.heap.size i5 (.slice none 0 0) 1 24 Try.underlying56 hi5 hz50 hz51 hz52 rfl (by decide) _ _ _ hBW.oB rfl rfl rfl (by simp [Value.oneCell']) (by unfold maxLen; omega) (by omega) hbWs ?_; intro v4 w4 hown4 hgrow4 hat4; have hB4 := hBW.push_block hcur hgrow4 hown4; have hc4 := blk_kept hgrow4 hBW.oB hc1 (by decide); have hcv : w4.cell? ⟨wr.heap.size, 0, none⟩ = some (.int .i64 (x1 : Int)) := (by rw [blk_cell hc4]; rfl); have hb4 := below_grown hbW hgrow4 hBW.oB (Nat.le_refl _) hbWs; have hb4s := hb4.size) | (at_builtin; refine wpList_append_at rfl (.tmp 37) (.tmp 40) 25 rfl w.heap.size i3 (.int .i64 0) 1 8 Try.underlying25 hi3 hz30 hz31 hz32 rfl (by decide) _ _ _ hB4.ob rfl rfl rfl (by simp [Value.oneCell']) (by unfold maxLen; simp) (by simp) hb4s ?_; intro v5 w5 hown5 hgrow5 hat5))
            go_roundg (gk - 1)
            case measure => omega
            case rel =>
              refine ⟨k + 1, hdrs ++ [.slice (some ⟨gb, 0, none⟩) cur.length capb], by go_num, by omega, ?_, below_grown hb4 hgrow5 hB4.ob (Nat.le_refl _) hb4s⟩
              rw [unhide HG, unhide HN2, if_pos rfl]
              exact hB4.push_var hgrow5 hown5 hat5
      · have hd0 : decide (0 < k) = false := by simpa using h0
        have HN2 : Hid (newAt q.vars k = false) := hide (by unfold newAt; rw [hd0]; rfl)
        clear hcell ha hb' h0
        generalize gather q.vars k = G at *
        obtain ⟨bs, cur⟩ := G
        dsimp only at hB gl1 gl2
        generalize q.vars[k] = x at *
        obtain ⟨x1, x2⟩ := x
        dsimp only at hx0 hx1
        have HBA : Hid (∀ nq, Below wr.heap.size wr ((wr.alloc (.cells #[.int .i64 (x1 : Int), .bool x2] 91)).drewN nq)) := hide (fun nq => below_drewN ((Below.refl _ _).alloc (Nat.le_refl _) _) nq)
        have HCA : Hid (∀ nq, ((wr.alloc (.cells #[.int .i64 (x1 : Int), .bool x2] 91)).drewN nq).heap[wr.heap.size]? = some (.cells #[.int .i64 (x1 : Int), .bool x2] 91 (0, 0))) := hide (fun nq => heap_alloc_new wr _)
        go_wp2_with fail
        go_quiet (fail)
        have hb1 := unhide HBA nq
        have hc1 := unhide HCA nq
        generalize World.drewN _ nq = W at *
        have hBW := hB.later hb1
        have hbW : Below w.heap.size w W := hbx.trans (hb1.mono hbs)
        have hbWs := hbW.size
        have hcv : W.cell? ⟨wr.heap.size, 0, none⟩ = some (.int .i64 (x1 : Int)) := by rw [blk_cell hc1]; rfl
        go_wp2_with (at_builtin; refine wpList_append_at rfl (.tmp 37) (.tmp 40) 25 rfl w.heap.size i3 (.int .i64 0) 1 8 Try.underlying25 hi3 hz30 hz31 hz32 rfl (by decide) _ _ _ hBW.ob rfl rfl rfl (by simp [Value.oneCell']) (by unfold maxLen; omega) (by omega) hbWs ?_; intro v5 w5 hown5 hgrow5 hat5)
        go_roundg (gk - 1)
        case measure => omega
        case rel =>
          refine ⟨k + 1, hdrs, by go_num, by omega, ?_, below_grown hbW hgrow5 hBW.ob (Nat.le_refl _) hbWs⟩
          rw [unhide HG, unhide HN2, if_neg (by decide)]
          exact hBW.push_var hgrow5 hown5 hat5
    · have hkl : k = q.vars.length := by omega
      subst hkl
      have hdk : decide ((q.vars.length : Int) < (q.vars.length : Int)) = false := by simp
      obtain ⟨pb, hpb⟩ : ∃ pb, progBlocks q.vars = pb := ⟨_, rfl⟩
      have hpb2 := hpb
      unfold progBlocks at hpb2
      have HPB := hide hpb
      have HPB2 := hide hpb2
      clear hpb hpb2
      generalize gather q.vars q.vars.length = G at *
      obtain ⟨bs, cur⟩ := G
      dsimp only at hB gl1 gl2
      by_cases hc : 0 < cur.length
      · have hdc : decide (0 < cur.length) = true := by simpa using hc
        have HP : Hid (progBlocks q.vars = bs ++ [cur]) := hide (by rw [unhide HPB, ← unhide HPB2]; exact if_pos hc)
        obtain ⟨gb, capb, rfl, _, _, _, _⟩ := own_pos hB.ob hc
        have hcur : cur ≠ [] := List.length_pos_iff.1 hc
        go_wp2_with (at_builtin; refine wpList_append_at rfl (.tmp 46) (.tmp 48) 56 rfl w.heap.size i5 (.slice none 0 0) 1 24 Try.underlying56 hi5 hz50 hz51 hz52 rfl (by decide) _ _ _ hB.oB rfl rfl rfl (by simp [Value.oneCell']) (by unfold maxLen; omega) (by omega) hbs ?_; intro v4 w4 hown4 hgrow4 hat4)
        go_ret
        have hB4 := hB.push_block hcur hgrow4 hown4
        refine ⟨v4, hdrs ++ [.slice (some ⟨gb, 0, none⟩) cur.length capb], rfl, ?_, ?_, below_grown hbx hgrow4 hB.oB (Nat.le_refl _) hbs⟩
        · rw [unhide HP]; exact hB4.oB
        · rw [unhide HP]; exact hB4.rows
      · have hdc : decide (0 < cur.length) = false := by simpa using hc
        have HP : Hid (progBlocks q.vars = bs) := hide (by rw [unhide HPB, ← unhide HPB2]; exact if_neg hc)
        obtain ⟨ab, cb, rfl⟩ := own_form hB.ob
        go_wp2_with fail
        go_ret
        refine ⟨_, hdrs, rfl, ?_, ?_, hbx⟩
        · rw [unhide HP]; exact hB.oB
        · rw [unhide HP]; exact hB.rows
end Go.Proofs.Ytbpolmdokdhkhaa
