import Derived.Test.YtgipjjhkhfihpabGreatDoorAB
import Derived.Test.YtgipjjhkhfihpabGreatDoorAE
import Derived.Test.YtgipjjhkhfihpabGreatDoorAA
import Derived.Test.YtgipjjhkhfihpabGreatDoorAD
import Derived.Deep.QuietTactic
import Derived.BigQuiet
import Derived.Test.YtgipjjhkhfihpabGreatDoorAG
import Derived.Deep.DeepCutAuto
import Derived.Deep.RegionWith
import Derived.Deep.RegionLaw
namespace Go.Proofs.YtgipjjhkhfihpabGreatDoor
open Go.RowKit

theorem minus_lt (a b : Nat × Nat) (h : a.1 < 512 ∧ a.2 < 512) : (minus a b).1 < 512 ∧ (minus a b).2 < 512 := ⟨less_lt9 _ _ h.1, less_lt9 _ _ h.2⟩
set_option maxRecDepth 100000 in
set_option maxHeartbeats 800000 in
theorem lwithout_any (p n p2 n2 : Nat) (w : World) (hp : p < 512) (hn : n < 512) (hp2 : p2 < 512) (hn2 : n2 < 512) :
    Calls Tryz.prog 89 #[SetV (p, n), SetV (p2, n2)] w fun e w' => e = .returned (SetV (minus (p, n) (p2, n2))) ∧ Below w.heap.size w w' := by
  have h1 : bits .andNot .i64 (p : Int) (p2 : Int) = ((less p p2 : Nat) : Int) := i64_andNot _ _ (by omega) (by omega)
  have h2 : bits .andNot .i64 (n : Int) (n2 : Int) = ((less n n2 : Nat) : Int) := i64_andNot _ _ (by omega) (by omega)
  go_enter Tryz.func89, Tryz.ntmps89
  go_wp2_with fail
  refine bodyPost_ret (v := SetV (minus (p, n) (p2, n2))) (by simp [results, Tryz.results89, go_sem, minus]) rfl ⟨rfl, ?_⟩
  exact ((((Below.refl _ _).alloc (Nat.le_refl _) _).alloc (by simp) _)).alloc (by simp; omega) _

set_option maxRecDepth 100000 in
set_option maxHeartbeats 800000 in
theorem turned_any (p n : Nat) (w : World) :
    Calls Tryz.prog 90 #[SetV (p, n)] w fun e w' => e = .returned (SetV (swapL (p, n))) ∧ Below w.heap.size w w' := by
  go_enter Tryz.func90, Tryz.ntmps90
  go_wp2_with fail
  refine bodyPost_ret (v := SetV (swapL (p, n))) (by simp [results, Tryz.results90, go_sem, swapL]) rfl ⟨rfl, ?_⟩
  exact ((Below.refl _ _).alloc (Nat.le_refl _) _).alloc (by simp) _

/-! ### The list of literals -/
def intsI (l : List Int) : List Value := l.map (fun x => .int .i64 x)
theorem listFrom_len (c : Nat × Nat) : ∀ k v, (listFrom c k v).length ≤ 2 * k := by
  intro k
  induction k with
  | zero => intro v; simp [listFrom]
  | succ k ih =>
    intro v
    rw [listFrom]
    have := ih (v + 1)
    simp only [List.length_append]
    split <;> split <;> simp <;> omega
/-- The literals of the variables ahead of v. -/
def listTo (c : Nat × Nat) : Nat → List Int
  | 0 => []
  | k + 1 => listTo c k ++ ((if hasLit c ((k + 1 : Nat) : Int) then [((k + 1 : Nat) : Int)] else []) ++ (if hasLit c (-((k + 1 : Nat) : Int)) then [-((k + 1 : Nat) : Int)] else []))
theorem listTo_from (c : Nat × Nat) : ∀ m k, listTo c k ++ listFrom c m (k + 1) = listTo c (k + m) := by
  intro m
  induction m with
  | zero => intro k; simp [listFrom]
  | succ m ih =>
    intro k
    rw [listFrom, show k + (m + 1) = (k + 1) + m from by omega, ← ih (k + 1), listTo]
    simp only [List.append_assoc]
theorem listTo_all (c : Nat × Nat) : listTo c 8 = listOf c := by
  have := listTo_from c 8 0
  simpa [listTo, listOf] using this.symm
theorem listTo_len (c : Nat × Nat) (k : Nat) : (listTo c k).length ≤ 2 * k := by
  induction k with
  | zero => simp [listTo]
  | succ k ih =>
    rw [listTo]
    simp only [List.length_append]
    split <;> split <;> simp <;> omega
theorem wrap_neg_small' (v : Nat) (h : v ≤ 8) : IntKind.i64.wrap (-(v : Int)) = -(v : Int) := by
  have : ∀ v : Fin 9, IntKind.i64.wrap (-(v.val : Int)) = -(v.val : Int) := by decide
  exact this ⟨v, by omega⟩
def ListPost (c : Nat × Nat) (w : World) (e : Ending) (w' : World) : Prop := ∃ v, e = .returned v ∧ w'.ownsRow w.heap.size 3 1 v (listOf c).length (intsI (listOf c)) ∧ Below w.heap.size w w'

set_option maxRecDepth 100000 in
set_option maxHeartbeats 1600000 in
theorem list_any (p n : Nat) (w : World) (hp : p < 512) (hn : n < 512) :
    Calls Tryz.prog 84 #[SetV (p, n)] w fun e w' => ListPost (p, n) w e w' := by
  obtain ⟨i3, hi3, hz30, hz31, hz32⟩ := info_parts Tryz.info3
  go_enter Tryz.func84, Tryz.ntmps84
  go_wp2_with fail
  go_loopg [3, 4] 8 (fun m vl iv wx => ∃ (k : Nat), iv = .int .i64 ((k : Int) + 1) ∧ k + m = 8 ∧ wx.ownsRow (w.heap.size + 1) 3 1 vl (listTo (p, n) k).length (intsI (listTo (p, n) k)) ∧ Below w.heap.size w wx ∧ wx.heap[w.heap.size]? = some (.cells #[.int .i64 (p : Int), .int .i64 (n : Int)] 77 (0, 0)))
  case atStart => exact ⟨0, rfl, by omega, World.ownsRow_nil _ _ _ _, (Below.refl _ _).alloc (Nat.le_refl _) _, heap_alloc_new _ _⟩
  case round =>
    obtain ⟨k, rfl, hk, hown, hb, hset⟩ := hrel
    have HLN := hide (listTo_len (p, n) k)
    have hln := listTo_len (p, n) k
    have hbs := blk_lt hset
    obtain ⟨aL, cL, rfl⟩ := own_form hown
    have c0 : wr.cell? ⟨w.heap.size, 0, none⟩ = some (.int .i64 (p : Int)) := by rw [blk_cell hset]; rfl
    have c1 : wr.cell? ⟨w.heap.size, 1, none⟩ = some (.int .i64 (n : Int)) := by rw [blk_cell hset]; rfl
    by_cases hlt : k < 8
    · have hd : decide ((k : Int) + 1 ≤ 8) = true := by simp; omega
      have hwn : IntKind.i64.wrap (-((k : Int) + 1)) = -((k : Int) + 1) := wrap_neg_small' (k + 1) (by omega)
      have HT : Hid (listTo (p, n) (k + 1) = listTo (p, n) k ++ ((if hasLit (p, n) ((k : Int) + 1) then [(k : Int) + 1] else []) ++ (if hasLit (p, n) (-((k : Int) + 1)) then [-((k : Int) + 1)] else []))) := hide rfl
      generalize listTo (p, n) k = l at *
      go_wp2_with fail
      refine (has_any p n ((k : Int) + 1) wr hp hn (by omega) (by omega)).mono ?_
      rintro e w1 ⟨rfl, hb1⟩
      have hset1 := (hb1.block _ hbs).trans hset
      have hB1 : Below w.heap.size w w1 := hb.trans (hb1.mono hb.size)
      have hown1 := own_below hown hb1
      have d0 : w1.cell? ⟨w.heap.size, 0, none⟩ = some (.int .i64 (p : Int)) := by rw [blk_cell hset1]; rfl
      have d1 : w1.cell? ⟨w.heap.size, 1, none⟩ = some (.int .i64 (n : Int)) := by rw [blk_cell hset1]; rfl
      have hbs1 := blk_lt hset1
      cases h1 : hasLit (p, n) ((k : Int) + 1) with
      | false =>
        go_wp2_with fail
        refine (has_any p n (-((k : Int) + 1)) w1 hp hn (by omega) (by omega)).mono ?_
        rintro e w3 ⟨rfl, hb3⟩
        have hset3 := (hb3.block _ (blk_lt hset1)).trans hset1
        have hB3 : Below w.heap.size w w3 := hB1.trans (hb3.mono hB1.size)
        have hown3 := own_below hown1 hb3
        have hbs3 := blk_lt hset3
        cases h2 : hasLit (p, n) (-((k : Int) + 1)) with
        | false =>
          have HL : Hid (listTo (p, n) (k + 1) = l) := hide (by rw [unhide HT, h1, h2]; simp)
          go_wp2_with fail
          go_roundg (gk - 1)
          case measure => omega
          case rel => exact ⟨k + 1, by go_num, by omega, by rw [unhide HL]; simpa [intsI] using hown3, hB3, hset3⟩
        | true =>
          have HL : Hid (listTo (p, n) (k + 1) = l ++ [-((k : Int) + 1)]) := hide (by rw [unhide HT, h1, h2]; simp)
          go_wp2_with (at_builtin; refine wpList_append_new rfl _ _ 59 rfl (w.heap.size + 1) i3 (.int .i64 0) 1 8 Tryz.underlying59 hi3 hz30 hz31 hz32 rfl (by decide) _ _ _ hown3 rfl rfl rfl (by simp [Value.oneCell']) (by unfold maxLen; omega) (by omega) hbs3 ?_; intro v4 w4 hown4 hgrow4 hnn4)
          have hB4 : Below w.heap.size w w4 := below_grown hB3 hgrow4 hown3 (Nat.le_succ _) hB3.size
          have hset4 : w4.heap[w.heap.size]? = some (.cells #[.int .i64 (p : Int), .int .i64 (n : Int)] 77 (0, 0)) := (hgrow4.block _ hbs3 (fun e => by have := (hown3.lt _ e.symm).1; omega)).trans hset3
          obtain ⟨a4, c4, rfl⟩ := own_form hown4
          go_wp2_with fail
          go_roundg (gk - 1)
          case measure => omega
          case rel => exact ⟨k + 1, by go_num, by omega, by rw [unhide HL]; simpa [intsI] using hown4, hB4, hset4⟩
      | true =>
        go_wp2_with (at_builtin; refine wpList_append_new rfl _ _ 59 rfl (w.heap.size + 1) i3 (.int .i64 0) 1 8 Tryz.underlying59 hi3 hz30 hz31 hz32 rfl (by decide) _ _ _ hown1 rfl rfl rfl (by simp [Value.oneCell']) (by unfold maxLen; omega) (by omega) hbs1 ?_; intro v2 w2 hown2 hgrow2 hnn2; have hB2 : Below w.heap.size w w2 := below_grown hB1 hgrow2 hown1 (Nat.le_succ _) hB1.size; have hset2 : w2.heap[w.heap.size]? = some (.cells #[.int .i64 (p : Int), .int .i64 (n : Int)] 77 (0, 0)) := (hgrow2.block _ hbs1 (fun e => by have := (hown1.lt _ e.symm).1; omega)).trans hset1; obtain ⟨a2, c2, rfl⟩ := own_form hown2; have hbs2 := blk_lt hset2; have f0 : w2.cell? ⟨w.heap.size, 0, none⟩ = some (.int .i64 (p : Int)) := (by rw [blk_cell hset2]; rfl); have f1 : w2.cell? ⟨w.heap.size, 1, none⟩ = some (.int .i64 (n : Int)) := (by rw [blk_cell hset2]; rfl))
        refine (has_any p n (-((k : Int) + 1)) w2 hp hn (by omega) (by omega)).mono ?_
        rintro e w3 ⟨rfl, hb3⟩
        have hset3 := (hb3.block _ (blk_lt hset2)).trans hset2
        have hB3 : Below w.heap.size w w3 := hB2.trans (hb3.mono hB2.size)
        have hown3 := own_below hown2 hb3
        have hbs3 := blk_lt hset3
        cases h2 : hasLit (p, n) (-((k : Int) + 1)) with
        | false =>
          have HL : Hid (listTo (p, n) (k + 1) = (l ++ [(k : Int) + 1])) := hide (by rw [unhide HT, h1, h2]; simp)
          go_wp2_with fail
          go_roundg (gk - 1)
          case measure => omega
          case rel => exact ⟨k + 1, by go_num, by omega, by rw [unhide HL]; simpa [intsI] using hown3, hB3, hset3⟩
        | true =>
          have HL : Hid (listTo (p, n) (k + 1) = (l ++ [(k : Int) + 1]) ++ [-((k : Int) + 1)]) := hide (by rw [unhide HT, h1, h2]; simp)
          go_wp2_with (at_builtin; refine wpList_append_new rfl _ _ 59 rfl (w.heap.size + 1) i3 (.int .i64 0) 1 8 Tryz.underlying59 hi3 hz30 hz31 hz32 rfl (by decide) _ _ _ hown3 rfl rfl rfl (by simp [Value.oneCell']) (by unfold maxLen; omega) (by omega) hbs3 ?_; intro v4 w4 hown4 hgrow4 hnn4)
          have hB4 : Below w.heap.size w w4 := below_grown hB3 hgrow4 hown3 (Nat.le_succ _) hB3.size
          have hset4 : w4.heap[w.heap.size]? = some (.cells #[.int .i64 (p : Int), .int .i64 (n : Int)] 77 (0, 0)) := (hgrow4.block _ hbs3 (fun e => by have := (hown3.lt _ e.symm).1; omega)).trans hset3
          obtain ⟨a4, c4, rfl⟩ := own_form hown4
          go_wp2_with fail
          go_roundg (gk - 1)
          case measure => omega
          case rel => exact ⟨k + 1, by go_num, by omega, by rw [unhide HL]; simpa [intsI] using hown4, hB4, hset4⟩
    · have hk8 : k = 8 := by omega
      subst hk8
      have HA := hide (listTo_all (p, n))
      go_wp2_with fail
      go_ret
      exact ⟨_, rfl, by rw [← unhide HA]; exact own_lo hown (Nat.le_succ _), hb⟩
end Go.Proofs.YtgipjjhkhfihpabGreatDoor

namespace Go.Proofs.YtgipjjhkhfihpabGreatDoor
open Go.RowKit

theorem Tryz.infoInts : (Tryz.prog.info? 59).map (fun i => (i.zero, i.size, i.bytes)) = some (some (.slice none 0 0), 1, 24) := by kernel_rfl

/-- Lists of numbers, each in a row of its own; their headers in a row. -/
structure RowsAt (base : Nat) (w : World) (bs : List (List Nat)) (hdrs : List Value) : Prop where
  len : hdrs.length = bs.length
  row : ∀ j (hj : j < bs.length), w.ownsRow base 3 1 (hdrs[j]'(by omega)) bs[j].length (ints bs[j]) ∧ bs[j] ≠ []
  apart : ∀ i j (hi : i < hdrs.length) (hj : j < hdrs.length), i ≠ j → apart hdrs[i] hdrs[j]
structure BInv (base : Nat) (w : World) (bs : List (List Nat)) (cur : List Nat) (hdrs : List Value) (vB vb : Value) : Prop where
  rows : RowsAt base w bs hdrs
  oB : w.ownsRow base 59 1 vB bs.length hdrs
  ob : w.ownsRow base 3 1 vb cur.length (ints cur)
  ap : ∀ j (hj : j < hdrs.length), apart vb hdrs[j]

theorem RowsAt.later {base : Nat} {w w' : World} {bs : List (List Nat)} {hdrs : List Value} (h : RowsAt base w bs hdrs) (hb : Below w.heap.size w w') : RowsAt base w' bs hdrs :=
  ⟨h.len, fun j hj => ⟨own_below (h.row j hj).1 hb, (h.row j hj).2⟩, h.apart⟩
theorem BInv.later {base : Nat} {w w' : World} {bs : List (List Nat)} {cur : List Nat} {hdrs : List Value} {vB vb : Value} (h : BInv base w bs cur hdrs vB vb) (hb : Below w.heap.size w w') : BInv base w' bs cur hdrs vB vb :=
  ⟨h.rows.later hb, own_below h.oB hb, own_below h.ob hb, h.ap⟩

theorem BInv.push_block {base : Nat} {w w' : World} {bs : List (List Nat)} {cur : List Nat} {hdrs : List Value} {vB vb v' : Value} (h : BInv base w bs cur hdrs vB vb) (hc : cur ≠ []) (hg : w.grownBy w' vB.ownBlock)
    (hown : w'.ownsRow base 59 1 v' (bs.length + 1) (hdrs ++ [vb])) : BInv base w' (bs ++ [cur]) [] (hdrs ++ [vb]) v' (.slice none 0 0) := by
  have hl := h.rows.len
  have kb := own_kept h.ob (Below.refl _ _) h.oB hg (by decide)
  refine ⟨⟨by simp [hl], ?_, ?_⟩, by simpa using hown, World.ownsRow_nil _ _ _ _, fun _ _ => apart_nil _⟩
  · intro j hj
    by_cases hjl : j < bs.length
    · have := h.rows.row j hjl
      simp only [List.getElem_append_left hjl, List.getElem_append_left (show j < hdrs.length by omega)]
      exact ⟨own_kept this.1 (Below.refl _ _) h.oB hg (by decide), this.2⟩
    · have hje : j = bs.length := by simp at hj; omega
      subst hje
      simp only [List.getElem_concat_length]
      rw [show (hdrs ++ [vb])[bs.length]'(by simp; omega) = vb from by simp [← hl]]
      exact ⟨kb, hc⟩
  · intro i j hi hj hij
    by_cases hil : i < hdrs.length
    · by_cases hjl : j < hdrs.length
      · simp only [List.getElem_append_left hil, List.getElem_append_left hjl]
        exact h.rows.apart i j hil hjl hij
      · have hje : j = hdrs.length := by simp at hj; omega
        subst hje
        simp only [List.getElem_append_left hil, List.getElem_concat_length]
        exact (h.ap i hil).symm
    · have hie : i = hdrs.length := by simp at hi; omega
      subst hie
      have hjl : j < hdrs.length := by simp at hj; omega
      simp only [List.getElem_append_left hjl, List.getElem_concat_length]
      exact h.ap j hjl
theorem BInv.push_var {base : Nat} {w w' : World} {bs : List (List Nat)} {cur : List Nat} {hdrs : List Value} {vB vb v' : Value} {x : Nat} (h : BInv base w bs cur hdrs vB vb) (hg : w.grownBy w' vb.ownBlock)
    (hown : w'.ownsRow base 3 1 v' (cur.length + 1) (ints cur ++ [.int .i64 (x : Int)])) (hat : v'.ownBlock = vb.ownBlock ∨ ∃ k, v'.ownBlock = some k ∧ w.heap.size ≤ k) : BInv base w' bs (cur ++ [x]) hdrs vB v' := by
  refine ⟨⟨h.rows.len, fun j hj => ⟨?_, (h.rows.row j hj).2⟩, h.rows.apart⟩, own_kept h.oB (Below.refl _ _) h.ob hg (by decide), by simpa [ints] using hown, fun j hj => ?_⟩
  · have hl := h.rows.len
    exact (h.rows.row j hj).1.kept hg (h.ap j (by omega)).symm.keep
  · have hl := h.rows.len
    exact (h.ap j hj).grown (h.rows.row j (by omega)).1 hat

/-- A block of another kind is as it was behind an append. -/
theorem blk_kept {w w' : World} {v : Value} {base n size g : Nat} {e t : TypeId} {xs : List Value} {cs : Array Value} (hg : w.grownBy w' v.ownBlock) (ho : w.ownsRow base e size v n xs) (hb : w.heap[g]? = some (.cells cs t (0, 0))) (he : t ≠ e) : w'.heap[g]? = some (.cells cs t (0, 0)) := by
  rw [hg.block g (blk_lt hb) (fun eq => by
    rcases ho.2 with ⟨rfl, _⟩ | ⟨g', cap, cur', rfl, _, hh, _⟩
    · simp [Value.ownBlock] at eq
    · simp [Value.ownBlock] at eq
      subst eq
      rw [hb] at hh
      simp at hh
      exact he hh.2)]
  exact hb

theorem gather_len (vs : List (Nat × Bool)) (k : Nat) : (gather vs k).1.length ≤ k ∧ (gather vs k).2.length ≤ k := by
  induction k with
  | zero => simp [gather]
  | succ k ih =>
    rw [gather]
    split <;> simp <;> omega

def QBlocksPost (vs : List (Nat × Bool)) (w : World) (e : Ending) (w' : World) : Prop :=
  ∃ v hdrs, e = .returned v ∧ w'.ownsRow w.heap.size 59 1 v (progBlocks vs).length hdrs ∧ RowsAt w.heap.size w' (progBlocks vs) hdrs ∧ Below w.heap.size w w'

set_option maxRecDepth 100000 in
set_option maxHeartbeats 3200000 in
theorem qblocks_any (base b : Nat) (q : QS) (w : World) (aV : Option Addr) (cV : Nat) (hf : w.cell? ⟨b, 0, none⟩ = some (.slice aV q.vars.length cV)) (hb : b < w.heap.size) (hV : w.ownsRow base 109 2 (.slice aV q.vars.length cV) q.vars.length (varCells q.vars)) (hl : q.vars.length ≤ 1048576) :
    Calls Tryz.prog 37 #[.pointer (some ⟨b, 0, none⟩)] w fun e w' => QBlocksPost q.vars w e w' := by
  obtain ⟨i3, hi3, hz30, hz31, hz32⟩ := info_parts Tryz.info3
  obtain ⟨i5, hi5, hz50, hz51, hz52⟩ := info_parts Tryz.infoInts
  go_enter Tryz.func37, Tryz.ntmps37
  go_wp2_with fail
  go_loopg [3, 4, 12] (q.vars.length) (fun n vB vb i wx => ∃ (k : Nat) (hdrs : List Value), i = .int .i64 k ∧ k + n = q.vars.length ∧ BInv w.heap.size wx (gather q.vars k).1 (gather q.vars k).2 hdrs vB vb ∧ Below w.heap.size w wx)
  case atStart => exact ⟨0, [], rfl, by omega, ⟨⟨rfl, fun j hj => by simp [gather] at hj, fun i j hi => by simp at hi⟩, World.ownsRow_nil _ _ _ _, World.ownsRow_nil _ _ _ _, fun j hj => by simp at hj⟩, Below.refl _ _⟩
  case round =>
    obtain ⟨k, hdrs, rfl, hk, hB, hbx⟩ := hrel
    have hbs := hbx.size
    obtain ⟨gl1, gl2⟩ := gather_len q.vars k
    by_cases hlt : k < q.vars.length
    · obtain ⟨g, cap, hVe, hg, hg', _, hcell⟩ := own_pos hV (by omega)
      injection hVe with hVe _ hV2
      subst hVe hV2
      have hgw : g < wr.heap.size := by omega
      have hbw : b < wr.heap.size := by omega
      obtain ⟨ha, hb'⟩ := varCells_at q.vars k hlt
      have hx0 : wr.cell? ⟨g, k * 2, none⟩ = some (.int .i64 (q.vars[k].1 : Int)) := by rw [hbx.cell (p := ⟨g, k * 2, none⟩) hg']; exact hcell _ _ ha
      have hx1 : wr.cell? ⟨g, k * 2 + 1, none⟩ = some (.bool q.vars[k].2) := by rw [hbx.cell (p := ⟨g, k * 2 + 1, none⟩) hg']; exact hcell _ _ hb'
      have hf1 : wr.cell? ⟨b, 0, none⟩ = some (.slice (some ⟨g, 0, none⟩) q.vars.length cV) := by rw [hbx.cell (p := ⟨b, 0, none⟩) hb]; exact hf
      have hdk : decide ((k : Int) < (q.vars.length : Int)) = true := by simp; omega
      have HG : Hid (gather q.vars (k + 1) = if newAt q.vars k then ((gather q.vars k).1 ++ [(gather q.vars k).2], [q.vars[k].1]) else ((gather q.vars k).1, (gather q.vars k).2 ++ [q.vars[k].1])) := hide (by
        rw [gather]; simp [List.getD, hlt])
      by_cases h0 : 0 < k
      · obtain ⟨ha1, hb1⟩ := varCells_at q.vars (k - 1) (by omega)
        have hy1 : wr.cell? ⟨g, (k - 1) * 2 + 1, none⟩ = some (.bool q.vars[k - 1].2) := by rw [hbx.cell (p := ⟨g, (k - 1) * 2 + 1, none⟩) hg']; exact hcell _ _ hb1
        have hd0 : decide (0 < k) = true := by simpa using h0
        have HN : Hid (newAt q.vars k = (q.vars[k].2 != q.vars[k - 1].2)) := hide (by
          unfold newAt kindAt; simp [List.getD, hlt, show k - 1 < q.vars.length by omega, h0])
        have hcur : (gather q.vars k).2 ≠ [] := by
          intro e
          have := gather_pos q.vars (k - 1)
          rw [show k - 1 + 1 = k from by omega, e] at this
          simp at this
        clear hcell ha hb' ha1 hb1
        generalize gather q.vars k = G at *
        obtain ⟨bs, cur⟩ := G
        dsimp only at hB gl1 gl2 hcur
        generalize q.vars[k - 1] = y at *
        generalize q.vars[k] = x at *
        obtain ⟨x1, x2⟩ := x
        obtain ⟨y1, y2⟩ := y
        dsimp only at hx0 hx1 hy1
        have hbelA : ∀ nq, Below wr.heap.size wr ((wr.alloc (.cells #[.int .i64 (x1 : Int), .bool x2] 109)).drewN nq) := fun nq => below_drewN ((Below.refl _ _).alloc (Nat.le_refl _) _) nq
        have hcvA : ∀ nq, ((wr.alloc (.cells #[.int .i64 (x1 : Int), .bool x2] 109)).drewN nq).heap[wr.heap.size]? = some (.cells #[.int .i64 (x1 : Int), .bool x2] 109 (0, 0)) := fun nq => heap_alloc_new wr _
        have HBA := hide hbelA
        have HCA := hide hcvA
        clear hbelA hcvA
        cases hxy : (x2 != y2) with
        | false =>
          have HN2 : Hid (newAt q.vars k = false) := hide (by rw [unhide HN]; exact hxy)
          have HXY := hide hxy
          clear hxy
          cases x2 <;> cases y2 <;> first | (exfalso; exact absurd (unhide HXY) (by decide)) | skip
          all_goals
            go_wp2_with fail
            go_quiet (fail)
            have hb1 := unhide HBA nq
            have hc1 := unhide HCA nq
            generalize World.drewN _ nq = W at *
            have hBW := hB.later hb1
            have hbW : Below w.heap.size w W := hbx.trans (hb1.mono hbs)
            have hbWs := hbW.size
            have hcv : W.cell? ⟨wr.heap.size, 0, none⟩ = some (.int .i64 (x1 : Int)) := by rw [blk_cell hc1]; rfl
            go_wp2_with (at_builtin; refine wpList_append_at rfl (.tmp 37) (.tmp 40) 59 rfl w.heap.size i3 (.int .i64 0) 1 8 Tryz.underlying59 hi3 hz30 hz31 hz32 rfl (by decide) _ _ _ hBW.ob rfl rfl rfl (by simp [Value.oneCell']) (by unfold maxLen; omega) (by omega) hbWs ?_; intro v5 w5 hown5 hgrow5 hat5)
            go_roundg (gk - 1)
            case measure => omega
            case rel =>
              refine ⟨k + 1, hdrs, by go_num, by omega, ?_, below_grown hbW hgrow5 hBW.ob (Nat.le_refl _) hbWs⟩
              rw [unhide HG, unhide HN2, if_neg (by decide)]
              exact hBW.push_var hgrow5 hown5 hat5
        | true =>
          have HN2 : Hid (newAt q.vars k = true) := hide (by rw [unhide HN]; exact hxy)
          have HXY := hide hxy
          clear hxy
          have hcl : 0 < cur.length := List.length_pos_iff.2 hcur
          cases x2 <;> cases y2 <;> first | (exfalso; exact absurd (unhide HXY) (by decide)) | skip
          all_goals
            go_wp2_with fail
            go_quiet (fail)
            have hb1 := unhide HBA nq
            have hc1 := unhide HCA nq
            generalize World.drewN _ nq = W at *
            have hBW := hB.later hb1
            have hbW : Below w.heap.size w W := hbx.trans (hb1.mono hbs)
            have hbWs := hbW.size
            obtain ⟨gb, capb, rfl, _, _, _, _⟩ := own_pos hBW.ob hcl
            go_wp2_with (first | (at_builtin; refine wpList_append_at rfl (.tmp 33) (.tmp 35) 64 rfl w.heap.size i5 (.slice none 0 0) 1 24 Tryz.underlying64 hi5 hz50 hz51 hz52 rfl (by decide) _ _ _ hBW.oB rfl rfl rfl (by simp [Value.oneCell']) (by unfold maxLen; omega) (by omega) hbWs ?_; intro v4 w4 hown4 hgrow4 hat4; have hB4 := hBW.push_block hcur hgrow4 hown4; have hc4 := blk_kept hgrow4 hBW.oB hc1 (by decide); have hcv : w4.cell? ⟨wr.heap.size, 0, none⟩ = some (.int .i64 (x1 : Int)) := (by rw [blk_cell hc4]; rfl); have hb4 := below_grown hbW hgrow4 hBW.oB (Nat.le_refl _) hbWs; have hb4s := hb4.size) | (at_builtin; refine wpList_append_at rfl (.tmp 37) (.tmp 40) 59 rfl w.heap.size i3 (.int .i64 0) 1 8 Tryz.underlying59 hi3 hz30 hz31 hz32 rfl (by decide) _ _ _ hB4.ob rfl rfl rfl (by simp [Value.oneCell']) (by unfold maxLen; simp) (by simp) hb4s ?_; intro v5 w5 hown5 hgrow5 hat5))
            go_roundg (gk - 1)
            case measure => omega
            case rel =>
              refine ⟨k + 1, hdrs ++ [.slice (some ⟨gb, 0, none⟩) cur.length capb], by go_num, by omega, ?_, below_grown hb4 hgrow5 hB4.ob (Nat.le_refl _) hb4s⟩
              rw [unhide HG, unhide HN2, if_pos rfl]
              exact hB4.push_var hgrow5 hown5 hat5
      · have hd0 : decide (0 < k) = false := by simpa using h0
        have HN2 : Hid (newAt q.vars k = false) := hide (by unfold newAt; rw [hd0]; rfl)
        clear hcell ha hb' h0
        generalize gather q.vars k = G at *
        obtain ⟨bs, cur⟩ := G
        dsimp only at hB gl1 gl2
        generalize q.vars[k] = x at *
        obtain ⟨x1, x2⟩ := x
        dsimp only at hx0 hx1
        have HBA : Hid (∀ nq, Below wr.heap.size wr ((wr.alloc (.cells #[.int .i64 (x1 : Int), .bool x2] 109)).drewN nq)) := hide (fun nq => below_drewN ((Below.refl _ _).alloc (Nat.le_refl _) _) nq)
        have HCA : Hid (∀ nq, ((wr.alloc (.cells #[.int .i64 (x1 : Int), .bool x2] 109)).drewN nq).heap[wr.heap.size]? = some (.cells #[.int .i64 (x1 : Int), .bool x2] 109 (0, 0))) := hide (fun nq => heap_alloc_new wr _)
        go_wp2_with fail
        go_quiet (fail)
        have hb1 := unhide HBA nq
        have hc1 := unhide HCA nq
        generalize World.drewN _ nq = W at *
        have hBW := hB.later hb1
        have hbW : Below w.heap.size w W := hbx.trans (hb1.mono hbs)
        have hbWs := hbW.size
        have hcv : W.cell? ⟨wr.heap.size, 0, none⟩ = some (.int .i64 (x1 : Int)) := by rw [blk_cell hc1]; rfl
        go_wp2_with (at_builtin; refine wpList_append_at rfl (.tmp 37) (.tmp 40) 59 rfl w.heap.size i3 (.int .i64 0) 1 8 Tryz.underlying59 hi3 hz30 hz31 hz32 rfl (by decide) _ _ _ hBW.ob rfl rfl rfl (by simp [Value.oneCell']) (by unfold maxLen; omega) (by omega) hbWs ?_; intro v5 w5 hown5 hgrow5 hat5)
        go_roundg (gk - 1)
        case measure => omega
        case rel =>
          refine ⟨k + 1, hdrs, by go_num, by omega, ?_, below_grown hbW hgrow5 hBW.ob (Nat.le_refl _) hbWs⟩
          rw [unhide HG, unhide HN2, if_neg (by decide)]
          exact hBW.push_var hgrow5 hown5 hat5
    · have hkl : k = q.vars.length := by omega
      subst hkl
      have hdk : decide ((q.vars.length : Int) < (q.vars.length : Int)) = false := by simp
      obtain ⟨pb, hpb⟩ : ∃ pb, progBlocks q.vars = pb := ⟨_, rfl⟩
      have hpb2 := hpb
      unfold progBlocks at hpb2
      have HPB := hide hpb
      have HPB2 := hide hpb2
      clear hpb hpb2
      generalize gather q.vars q.vars.length = G at *
      obtain ⟨bs, cur⟩ := G
      dsimp only at hB gl1 gl2
      by_cases hc : 0 < cur.length
      · have hdc : decide (0 < cur.length) = true := by simpa using hc
        have HP : Hid (progBlocks q.vars = bs ++ [cur]) := hide (by rw [unhide HPB, ← unhide HPB2]; exact if_pos hc)
        obtain ⟨gb, capb, rfl, _, _, _, _⟩ := own_pos hB.ob hc
        have hcur : cur ≠ [] := List.length_pos_iff.1 hc
        go_wp2_with (at_builtin; refine wpList_append_at rfl (.tmp 46) (.tmp 48) 64 rfl w.heap.size i5 (.slice none 0 0) 1 24 Tryz.underlying64 hi5 hz50 hz51 hz52 rfl (by decide) _ _ _ hB.oB rfl rfl rfl (by simp [Value.oneCell']) (by unfold maxLen; omega) (by omega) hbs ?_; intro v4 w4 hown4 hgrow4 hat4)
        go_ret
        have hB4 := hB.push_block hcur hgrow4 hown4
        refine ⟨v4, hdrs ++ [.slice (some ⟨gb, 0, none⟩) cur.length capb], rfl, ?_, ?_, below_grown hbx hgrow4 hB.oB (Nat.le_refl _) hbs⟩
        · rw [unhide HP]; exact hB4.oB
        · rw [unhide HP]; exact hB4.rows
      · have hdc : decide (0 < cur.length) = false := by simpa using hc
        have HP : Hid (progBlocks q.vars = bs) := hide (by rw [unhide HPB, ← unhide HPB2]; exact if_neg hc)
        obtain ⟨ab, cb, rfl⟩ := own_form hB.ob
        go_wp2_with fail
        go_ret
        refine ⟨_, hdrs, rfl, ?_, ?_, hbx⟩
        · rw [unhide HP]; exact hB.oB
        · rw [unhide HP]; exact hB.rows
end Go.Proofs.YtgipjjhkhfihpabGreatDoor

namespace Go.Proofs.YtgipjjhkhfihpabGreatDoor
open Go.RowKit

/-! ### What a search holds in memory -/
/-- A row that may begin inside its block. -/
def RowAt (w : World) (e : TypeId) (size : Nat) (v : Value) (n : Nat) (xs : List Value) : Prop :=
  xs.length = n * size ∧ ((n = 0 ∧ ∃ a, v = .slice a 0 0 ∧ ∀ k, v.ownBlock = some k → ∃ c, w.heap[k]? = some (.cells c e (0, 0))) ∨
   ∃ g off cap cur, v = .slice (some ⟨g, off, none⟩) n cap ∧ w.heap[g]? = some (.cells cur e (0, 0)) ∧ n ≤ cap ∧ cap ≤ maxLen ∧ off + cap * size ≤ cur.size ∧ ∀ j u, xs[j]? = some u → cur[off + j]? = some u)
theorem RowAt.blk {w : World} {e : TypeId} {size : Nat} {v : Value} {n : Nat} {xs : List Value} (h : RowAt w e size v n xs) : ∀ k, v.ownBlock = some k → ∃ c, w.heap[k]? = some (.cells c e (0, 0)) := by
  rcases h.2 with ⟨_, a, _, h2⟩ | ⟨g, off, cap, cur, rfl, hg, _⟩
  · exact h2
  · intro k hk
    injection hk with hk
    subst hk
    exact ⟨cur, hg⟩
theorem RowAt.lt {w : World} {e : TypeId} {size : Nat} {v : Value} {n : Nat} {xs : List Value} (h : RowAt w e size v n xs) : ∀ k, v.ownBlock = some k → k < w.heap.size := fun k hk => by
  obtain ⟨c, hc⟩ := h.blk k hk
  exact blk_lt hc
theorem own_bk {w : World} {base : Nat} {e : TypeId} {size : Nat} {v : Value} {n : Nat} {xs : List Value} (h : w.ownsRow base e size v n xs) : ∀ k, v.ownBlock = some k → ∃ c, w.heap[k]? = some (.cells c e (0, 0)) := by
  rcases h.2 with ⟨rfl, _⟩ | ⟨g, cap, cur, rfl, _, hg, _⟩
  · intro k hk; cases hk
  · intro k hk
    injection hk with hk
    subst hk
    exact ⟨cur, hg⟩
theorem blk_type {w : World} {k : Nat} {c c' : Array Value} {e e' : TypeId} {f f' : Nat × Nat} (h : w.heap[k]? = some (.cells c e f)) (h' : w.heap[k]? = some (.cells c' e' f')) : e = e' := by
  rw [h] at h'
  injection h' with h'
  injection h' with _ h' _
theorem RowAt.form {w : World} {e : TypeId} {size : Nat} {v : Value} {n : Nat} {xs : List Value} (h : RowAt w e size v n xs) : ∃ a cap, v = .slice a n cap := by
  rcases h.2 with ⟨rfl, a, rfl, _⟩ | ⟨g, off, cap, cur, rfl, _⟩
  · exact ⟨_, _, rfl⟩
  · exact ⟨_, _, rfl⟩
theorem RowAt.cell {w : World} {e : TypeId} {size : Nat} {v : Value} {n : Nat} {xs : List Value} (h : RowAt w e size v n xs) (hn : 0 < n) : ∃ g off cap, v = .slice (some ⟨g, off, none⟩) n cap ∧ g < w.heap.size ∧ ∀ j u, xs[j]? = some u → w.cell? ⟨g, off + j, none⟩ = some u := by
  rcases h.2 with ⟨h0, _⟩ | ⟨g, off, cap, cur, rfl, hg, _, _, _, hc⟩
  · omega
  · exact ⟨g, off, cap, rfl, blk_lt hg, fun j u hj => by rw [blk_cell hg]; exact hc j u hj⟩
theorem RowAt.keep {T : Nat → Prop} {w w' : World} {e : TypeId} {size : Nat} {v : Value} {n : Nat} {xs : List Value} (h : RowAt w e size v n xs) (ho : Only T w w') (hT : ∀ k, v.ownBlock = some k → ¬ T k) : RowAt w' e size v n xs := by
  obtain ⟨h1, h2⟩ := h
  refine ⟨h1, ?_⟩
  rcases h2 with ⟨h0, a, ha, hl⟩ | ⟨g, off, cap, cur, rfl, hg, hr⟩
  · exact Or.inl ⟨h0, a, ha, fun k hk => by obtain ⟨c, hc⟩ := hl k hk; exact ⟨c, (ho.block k (blk_lt hc) (hT k hk)).trans hc⟩⟩
  · exact Or.inr ⟨g, off, cap, cur, rfl, (ho.block g (blk_lt hg) (hT g rfl)).trans hg, hr⟩
structure SV where
  v : Value
  c : Value
  r : Value
  a : Value
  k : Value
abbrev sCells (C : SC) (S : SS) (V : SV) : Array Value := #[V.v, V.c, .int .i64 (C.uni.1 : Int), .int .i64 (C.uni.2 : Int), .int .i64 (C.budget : Int), .int .i64 (S.nodes : Int), .int .i64 1, V.r, .int .i64 2, V.a, .int .i64 (C.room : Int), V.k, .int .i64 (S.most : Int)]
structure SAt (w : World) (b : Nat) (C : SC) (S : SS) (V : SV) : Prop where
  fb : w.heap[b]? = some (.cells (sCells C S V) 82 (0, 0))
  oV : w.ownsRow 0 109 2 V.v C.q.vars.length (varCells C.q.vars)
  oC : w.ownsRow 0 77 2 V.c C.q.cl.length (pairs C.q.cl)
  oR : w.ownsRow 0 91 6 V.r S.ref.length (psCells S.ref)
  oA : w.ownsRow 0 91 6 V.a S.aff.length (psCells S.aff)
  oK : RowAt w 85 2 V.k S.kept.length (pairs S.kept)
  ap : ∀ k, V.r.ownBlock = some k → V.a.ownBlock ≠ some k
/-- Bounds that the walks want. -/
structure SBd (C : SC) (S : SS) : Prop where
  qb : QB C.q
  uni : C.uni.1 < 512 ∧ C.uni.2 < 512
  ref : ∀ s ∈ S.ref, s.lits.1 < 512 ∧ s.lits.2 < 512
  aff : ∀ s ∈ S.aff, s.lits.1 < 512 ∧ s.lits.2 < 512
  rl : S.ref.length ≤ 100000
  al : S.aff.length ≤ 100000
  kept : S.kept.length ≤ 64
  kind : ∀ f ∈ S.kept, f.1 ≤ 2 ∧ f.2 ≤ 100000
  budget : C.budget ≤ 1048576
  room : C.room ≤ 64
  most : S.most ≤ 64
  nodes : S.nodes ≤ 1048576
/-- A block that is none of the search's. -/
def Far (b : Nat) (V : SV) (k : Nat) : Prop := k ≠ b ∧ V.v.ownBlock ≠ some k ∧ V.c.ownBlock ≠ some k ∧ V.r.ownBlock ≠ some k ∧ V.a.ownBlock ≠ some k ∧ V.k.ownBlock ≠ some k
/-- Blocks that the search may write. -/
def TS (b : Nat) (V : SV) (k : Nat) : Prop := k = b ∨ V.r.ownBlock = some k ∨ V.a.ownBlock = some k ∨ V.k.ownBlock = some k
theorem Far.ts {b : Nat} {V : SV} {k : Nat} (h : Far b V k) : ¬ TS b V k := by
  rintro (h1 | h1 | h1 | h1)
  · exact h.1 h1
  · exact h.2.2.2.1 h1
  · exact h.2.2.2.2.1 h1
  · exact h.2.2.2.2.2 h1
theorem SAt.fresh {w : World} {b : Nat} {C : SC} {S : SS} {V : SV} (h : SAt w b C S V) {n : Nat} (hn : w.heap.size ≤ n) : Far b V n := by
  refine ⟨fun e => ?_, fun e => ?_, fun e => ?_, fun e => ?_, fun e => ?_, fun e => ?_⟩
  · have := blk_lt h.fb; omega
  · have := (h.oV.lt n e).2; omega
  · have := (h.oC.lt n e).2; omega
  · have := (h.oR.lt n e).2; omega
  · have := (h.oA.lt n e).2; omega
  · have := h.oK.lt n e; omega
/-- A search that is where it was, or has moved on into new blocks. -/
structure SMoved (b : Nat) (w w' : World) (V V' : SV) : Prop where
  only : Only (TS b V) w w'
  v : V'.v = V.v
  c : V'.c = V.c
  r : Moved w V.r V'.r
  a : Moved w V.a V'.a
  k : Moved w V.k V'.k
theorem SMoved.of_below {b : Nat} {w w' : World} {V : SV} (h : Below w.heap.size w w') : SMoved b w w' V V := ⟨Only.of_below h, rfl, rfl, Or.inl rfl, Or.inl rfl, Or.inl rfl⟩
theorem Moved.ne {w : World} {v v' : Value} (h : Moved w v v') {k : Nat} (hk : k < w.heap.size) (hv : v.ownBlock ≠ some k) : v'.ownBlock ≠ some k := by
  rcases h with h | ⟨j, h, hj⟩
  · rw [h]; exact hv
  · rw [h]; intro e; injection e with e; omega
theorem Moved.trans {w w1 : World} {a b c : Value} (h : Moved w a b) (k : Moved w1 b c) (hs : w.heap.size ≤ w1.heap.size) : Moved w a c := by
  rcases k with k | ⟨j, k, hj⟩
  · rcases h with h | ⟨i, h, hi⟩
    · exact Or.inl (k.trans h)
    · exact Or.inr ⟨i, k.trans h, hi⟩
  · exact Or.inr ⟨j, k, by omega⟩
theorem SMoved.far {b : Nat} {w w' : World} {V V' : SV} (h : SMoved b w w' V V') {k : Nat} (hk : k < w.heap.size) (hf : Far b V k) : Far b V' k :=
  ⟨hf.1, by rw [h.v]; exact hf.2.1, by rw [h.c]; exact hf.2.2.1, h.r.ne hk hf.2.2.2.1, h.a.ne hk hf.2.2.2.2.1, h.k.ne hk hf.2.2.2.2.2⟩
theorem SMoved.blk {b : Nat} {w w' : World} {V V' : SV} (h : SMoved b w w' V V') {k : Nat} {o : Obj} (hb : w.heap[k]? = some o) (hf : Far b V k) : w'.heap[k]? = some o := (h.only.block k (blk_lt hb) hf.ts).trans hb
theorem SMoved.trans {b : Nat} {w w1 w2 : World} {V V1 V2 : SV} (h : SMoved b w w1 V V1) (k : SMoved b w1 w2 V1 V2) : SMoved b w w2 V V2 := by
  have hs := h.only.size
  refine ⟨⟨k.only.os.trans h.only.os, k.only.tape.trans h.only.tape, k.only.output.trans h.only.output, Nat.le_trans hs k.only.size, fun i hi ht => ?_⟩, k.v.trans h.v, k.c.trans h.c, h.r.trans k.r hs, h.a.trans k.a hs, h.k.trans k.k hs⟩
  refine (k.only.block i (by omega) ?_).trans (h.only.block i hi ht)
  rintro (h1 | h1 | h1 | h1)
  · exact ht (Or.inl h1)
  · exact h.r.ne hi (fun e => ht (Or.inr (Or.inl e))) h1
  · exact h.a.ne hi (fun e => ht (Or.inr (Or.inr (Or.inl e)))) h1
  · exact h.k.ne hi (fun e => ht (Or.inr (Or.inr (Or.inr e)))) h1
theorem SAt.later {w w' : World} {b : Nat} {C : SC} {S : SS} {V : SV} (h : SAt w b C S V) (hb : Below w.heap.size w w') : SAt w' b C S V :=
  ⟨(hb.block b (blk_lt h.fb)).trans h.fb, own_below h.oV hb, own_below h.oC hb, own_below h.oR hb, own_below h.oA hb, h.oK.keep (Only.of_below (T := fun _ => False) hb) (fun _ _ h => h), h.ap⟩
/-- A store into a block that is none of the search's. -/
theorem SAt.set {w : World} {b : Nat} {C : SC} {S : SS} {V : SV} (h : SAt w b C S V) {k : Nat} (hf : Far b V k) (o : Nat) (u : Value) : SAt (w.setCell ⟨k, o, none⟩ u) b C S V :=
  ⟨by rw [Below.heap_setCell _ _ _ _ (fun e => hf.1 e.symm)]; exact h.fb, own_set_ne h.oV hf.2.1 u, own_set_ne h.oC hf.2.2.1 u, own_set_ne h.oR hf.2.2.2.1 u, own_set_ne h.oA hf.2.2.2.2.1 u,
   h.oK.keep (T := fun j => j = k) ((Only.refl (fun j => j = k) w).setCell (p := ⟨k, o, none⟩) (Or.inl rfl) u) (fun j hj e => hf.2.2.2.2.2 (by rw [hj, e])), h.ap⟩
theorem SMoved.set {b : Nat} {w w' : World} {V V' : SV} (h : SMoved b w w' V V') {k : Nat} (hk : w.heap.size ≤ k) (o : Nat) (u : Value) : SMoved b w (w'.setCell ⟨k, o, none⟩ u) V V' :=
  ⟨h.only.setCell (p := ⟨k, o, none⟩) (Or.inr hk) u, h.v, h.c, h.r, h.a, h.k⟩
/-- What a call leaves of the search. -/
def SPost (b : Nat) (C : SC) (S' : SS) (V : SV) (w w' : World) : Prop := ∃ V', SAt w' b C S' V' ∧ SMoved b w w' V V'
end Go.Proofs.YtgipjjhkhfihpabGreatDoor

namespace Go.Proofs.YtgipjjhkhfihpabGreatDoor
open Go.RowKit

/-! ### A game in memory -/
def ruleCells (l : List RuleP) : List Value := l.flatMap (fun r => [Value.int .i64 (r.1.1 : Int), Value.int .i64 (r.1.2 : Int), Value.int .i64 (r.2.1 : Int), Value.int .i64 (r.2.2 : Int)])
theorem ruleCells_at (l : List RuleP) (k j : Nat) (h : k < l.length) (hj : j < 4) : (ruleCells l)[k * 4 + j]? = [Value.int .i64 (l[k].1.1 : Int), Value.int .i64 (l[k].1.2 : Int), Value.int .i64 (l[k].2.1 : Int), Value.int .i64 (l[k].2.2 : Int)][j]? := by
  induction l generalizing k with
  | nil => simp at h
  | cons a l ih =>
    cases k with
    | zero =>
      simp only [ruleCells, List.flatMap_cons, Nat.zero_mul, Nat.zero_add, List.getElem_cons_zero]
      rw [List.getElem?_append_left (by simpa using hj)]
    | succ k =>
      have := ih k (by simpa using h)
      simp only [ruleCells, List.flatMap_cons] at this ⊢
      rw [show (k + 1) * 4 + j = (k * 4 + j) + 4 from by omega, List.getElem?_append_right (by simp)]
      simpa using this
def blCells (l : BL) (hdrs : List Value) : List Value := (l.zip hdrs).flatMap (fun x => [x.2, Value.bool x.1.2])
theorem blCells_at (l : BL) (hdrs : List Value) (k : Nat) (h : k < l.length) (hh : k < hdrs.length) : (blCells l hdrs)[k * 2]? = some hdrs[k] ∧ (blCells l hdrs)[k * 2 + 1]? = some (.bool l[k].2) := by
  induction l generalizing k hdrs with
  | nil => simp at h
  | cons a l ih =>
    match hdrs, hh with
    | b :: hs, hh =>
      cases k with
      | zero => simp [blCells]
      | succ k =>
        have := ih hs k (by simpa using h) (by simpa using hh)
        simp only [blCells, List.zip_cons_cons, List.flatMap_cons] at this ⊢
        rw [show (k + 1) * 2 = k * 2 + 2 from by omega, show k * 2 + 2 + 1 = (k * 2 + 1) + 2 from by omega, List.getElem?_append_right (by simp), List.getElem?_append_right (by simp)]
        simpa using this
structure RBd (rs : List RuleP) : Prop where
  len : rs.length ≤ 9000
  bits : ∀ r ∈ rs, (r.1.1 < 512 ∧ r.1.2 < 512) ∧ r.2.1 < 512 ∧ r.2.2 < 512
structure GV where
  vB : Value
  vR : Value
  hdrs : List Value
/-- The rows of a game, which no one writes. -/
structure GRows (w : World) (bl : BL) (rs : List RuleP) (v : GV) : Prop where
  oB : w.ownsRow 0 131 2 v.vB bl.length (blCells bl v.hdrs)
  oR : w.ownsRow 0 151 4 v.vR rs.length (ruleCells rs)
  len : v.hdrs.length = bl.length
  row : ∀ j (hj : j < bl.length), w.ownsRow 0 3 1 (v.hdrs[j]'(by omega)) bl[j].1.length (ints bl[j].1)
structure GameAt (w : World) (b : Nat) (t : TypeId) (bl : BL) (rs : List RuleP) (g : GS) (v : GV) : Prop where
  fb : w.heap[b]? = some (.cells #[v.vB, v.vR, .int .i64 (g.turn : Int), .int .i64 (g.vals.1 : Int), .int .i64 (g.vals.2 : Int)] t (0, 0))
  tt : t = 99 ∨ t = 102
  rows : GRows w bl rs v
theorem GRows.keep {T : Nat → Prop} {w w' : World} {bl : BL} {rs : List RuleP} {v : GV} (h : GRows w bl rs v) (ho : Only T w w') (hT : ∀ k cs e, w.heap[k]? = some (.cells cs e (0, 0)) → e = 131 ∨ e = 151 ∨ (e = 3 ∧ ∃ j, ∃ hj : j < v.hdrs.length, v.hdrs[j].ownBlock = some k) → ¬ T k) : GRows w' bl rs v := by
  have hl := h.len
  refine ⟨own_keep h.oB ho (fun k hk => ?_), own_keep h.oR ho (fun k hk => ?_), h.len, fun j hj => own_keep (h.row j hj) ho (fun k hk => ?_)⟩
  · obtain ⟨c, hc⟩ := own_bk h.oB k hk; exact hT k _ _ hc (Or.inl rfl)
  · obtain ⟨c, hc⟩ := own_bk h.oR k hk; exact hT k _ _ hc (Or.inr (Or.inl rfl))
  · obtain ⟨c, hc⟩ := own_bk (h.row j hj) k hk; exact hT k _ _ hc (Or.inr (Or.inr ⟨rfl, j, by omega, hk⟩))
theorem GRows.later {w w' : World} {bl : BL} {rs : List RuleP} {v : GV} (h : GRows w bl rs v) (hb : Below w.heap.size w w') : GRows w' bl rs v :=
  h.keep (T := fun _ => False) (Only.of_below hb) (fun _ _ _ _ _ h => h)
theorem GameAt.later {w w' : World} {b : Nat} {t : TypeId} {bl : BL} {rs : List RuleP} {g : GS} {v : GV} (h : GameAt w b t bl rs g v) (hb : Below w.heap.size w w') : GameAt w' b t bl rs g v :=
  ⟨(hb.block b (blk_lt h.fb)).trans h.fb, h.tt, h.rows.later hb⟩
/-- Stores into the game's own block leave its rows. -/
theorem GameAt.rest {w w' : World} {b : Nat} {t : TypeId} {bl : BL} {rs : List RuleP} {g : GS} {v : GV} (h : GameAt w b t bl rs g v) (ho : Only (· = b) w w') : GRows w' bl rs v :=
  h.rows.keep ho (fun k cs e hk ht hkb => by
    subst hkb
    have he := blk_type hk h.fb
    rcases h.tt with h1 | h1 <;> rcases ht with h2 | h2 | ⟨h2, _⟩ <;> (rw [he, h1] at h2; revert h2; decide))
/-! ### fits, wanted, set -/
set_option maxRecDepth 100000 in
set_option maxHeartbeats 1600000 in
theorem fits_any (r1 r2 t1 t2 v p n : Nat) (w : World) (hr : (r1 < 512 ∧ r2 < 512) ∧ t1 < 512 ∧ t2 < 512) (hp : p < 512 ∧ n < 512) :
    Calls Tryz.prog 106 #[.agg #[.int .i64 (r1 : Int), .int .i64 (r2 : Int), .int .i64 (t1 : Int), .int .i64 (t2 : Int)], .int .i64 (v : Int), SetV (p, n)] w fun e w' => e = .returned (.bool (fitsW v (p, n) ((r1, r2), (t1, t2)))) ∧ Below w.heap.size w w' := by
  have HF : Hid (fitsW v (p, n) ((r1, r2), (t1, t2)) = (emptyB (minus (r1, r2) (p, n)) && hasVarB (t1, t2) v)) := hide rfl
  go_enter Tryz.func106, Tryz.ntmps106
  go_wp2_with fail
  generalize hw0 : ((w.alloc (.cells #[.int .i64 (r1 : Int), .int .i64 (r2 : Int), .int .i64 (t1 : Int), .int .i64 (t2 : Int)] 151)).alloc (.cells #[.int .i64 (p : Int), .int .i64 (n : Int)] 77)) = u1
  have hB : Below w.heap.size w u1 := by rw [← hw0]; exact ((Below.refl _ _).alloc (Nat.le_refl _) _).alloc (by simp) _
  have hru : u1.heap[w.heap.size]? = some (.cells #[.int .i64 (r1 : Int), .int .i64 (r2 : Int), .int .i64 (t1 : Int), .int .i64 (t2 : Int)] 151 (0, 0)) := by rw [← hw0, heap_alloc_old _ _ (by simp)]; exact alloc_new_at (by simp)
  have hva : u1.heap[w.heap.size + 1]? = some (.cells #[.int .i64 (p : Int), .int .i64 (n : Int)] 77 (0, 0)) := by rw [← hw0]; exact alloc_new_at (by simp)
  clear hw0
  have cru0 : u1.cell? ⟨w.heap.size, 0, none⟩ = some (.int .i64 (r1 : Int)) := by rw [blk_cell hru]; rfl
  have cru1 : u1.cell? ⟨w.heap.size, 1, none⟩ = some (.int .i64 (r2 : Int)) := by rw [blk_cell hru]; rfl
  have cru2 : u1.cell? ⟨w.heap.size, 2, none⟩ = some (.int .i64 (t1 : Int)) := by rw [blk_cell hru]; rfl
  have cru3 : u1.cell? ⟨w.heap.size, 3, none⟩ = some (.int .i64 (t2 : Int)) := by rw [blk_cell hru]; rfl
  have lru := blk_lt hru
  have cva0 : u1.cell? ⟨w.heap.size + 1, 0, none⟩ = some (.int .i64 (p : Int)) := by rw [blk_cell hva]; rfl
  have cva1 : u1.cell? ⟨w.heap.size + 1, 1, none⟩ = some (.int .i64 (n : Int)) := by rw [blk_cell hva]; rfl
  have lva := blk_lt hva
  refine (lwithout_any r1 r2 p n _ hr.1.1 hr.1.2 hp.1 hp.2).mono ?_
  rintro e u2 ⟨rfl, b2⟩
  replace hB := hB.trans (b2.mono hB.size)
  replace hru := (b2.block _ (blk_lt hru)).trans hru
  replace cru0 : u2.cell? ⟨w.heap.size, 0, none⟩ = some (.int .i64 (r1 : Int)) := by rw [blk_cell hru]; rfl
  replace cru1 : u2.cell? ⟨w.heap.size, 1, none⟩ = some (.int .i64 (r2 : Int)) := by rw [blk_cell hru]; rfl
  replace cru2 : u2.cell? ⟨w.heap.size, 2, none⟩ = some (.int .i64 (t1 : Int)) := by rw [blk_cell hru]; rfl
  replace cru3 : u2.cell? ⟨w.heap.size, 3, none⟩ = some (.int .i64 (t2 : Int)) := by rw [blk_cell hru]; rfl
  replace lru := blk_lt hru
  replace hva := (b2.block _ (blk_lt hva)).trans hva
  replace cva0 : u2.cell? ⟨w.heap.size + 1, 0, none⟩ = some (.int .i64 (p : Int)) := by rw [blk_cell hva]; rfl
  replace cva1 : u2.cell? ⟨w.heap.size + 1, 1, none⟩ = some (.int .i64 (n : Int)) := by rw [blk_cell hva]; rfl
  replace lva := blk_lt hva
  have hm := minus_lt (r1, r2) (p, n) hr.1
  generalize hea : minus (r1, r2) (p, n) = c at *
  clear hea
  obtain ⟨d1, d2⟩ := c
  dsimp only at hm
  go_wp2_with fail
  generalize hw0 : u2.alloc (.cells #[.int .i64 (d1 : Int), .int .i64 (d2 : Int)] 77) = u3
  have b3 : Below u2.heap.size u2 u3 := by rw [← hw0]; exact (Below.refl _ _).alloc (Nat.le_refl _) _
  have hop : u3.heap[u2.heap.size]? = some (.cells #[.int .i64 (d1 : Int), .int .i64 (d2 : Int)] 77 (0, 0)) := by rw [← hw0]; exact heap_alloc_new _ _
  clear hw0
  replace hB := hB.trans (b3.mono hB.size)
  replace hru := (b3.block _ (blk_lt hru)).trans hru
  replace cru0 : u3.cell? ⟨w.heap.size, 0, none⟩ = some (.int .i64 (r1 : Int)) := by rw [blk_cell hru]; rfl
  replace cru1 : u3.cell? ⟨w.heap.size, 1, none⟩ = some (.int .i64 (r2 : Int)) := by rw [blk_cell hru]; rfl
  replace cru2 : u3.cell? ⟨w.heap.size, 2, none⟩ = some (.int .i64 (t1 : Int)) := by rw [blk_cell hru]; rfl
  replace cru3 : u3.cell? ⟨w.heap.size, 3, none⟩ = some (.int .i64 (t2 : Int)) := by rw [blk_cell hru]; rfl
  replace lru := blk_lt hru
  replace hva := (b3.block _ (blk_lt hva)).trans hva
  replace cva0 : u3.cell? ⟨w.heap.size + 1, 0, none⟩ = some (.int .i64 (p : Int)) := by rw [blk_cell hva]; rfl
  replace cva1 : u3.cell? ⟨w.heap.size + 1, 1, none⟩ = some (.int .i64 (n : Int)) := by rw [blk_cell hva]; rfl
  replace lva := blk_lt hva
  have cop0 : u3.cell? ⟨u2.heap.size, 0, none⟩ = some (.int .i64 (d1 : Int)) := by rw [blk_cell hop]; rfl
  have cop1 : u3.cell? ⟨u2.heap.size, 1, none⟩ = some (.int .i64 (d2 : Int)) := by rw [blk_cell hop]; rfl
  have lop := blk_lt hop
  refine (empty_any d1 d2 _ hm.1 hm.2).mono ?_
  rintro e u4 ⟨rfl, b4⟩
  replace hB := hB.trans (b4.mono hB.size)
  replace hru := (b4.block _ (blk_lt hru)).trans hru
  replace cru0 : u4.cell? ⟨w.heap.size, 0, none⟩ = some (.int .i64 (r1 : Int)) := by rw [blk_cell hru]; rfl
  replace cru1 : u4.cell? ⟨w.heap.size, 1, none⟩ = some (.int .i64 (r2 : Int)) := by rw [blk_cell hru]; rfl
  replace cru2 : u4.cell? ⟨w.heap.size, 2, none⟩ = some (.int .i64 (t1 : Int)) := by rw [blk_cell hru]; rfl
  replace cru3 : u4.cell? ⟨w.heap.size, 3, none⟩ = some (.int .i64 (t2 : Int)) := by rw [blk_cell hru]; rfl
  replace lru := blk_lt hru
  replace hva := (b4.block _ (blk_lt hva)).trans hva
  replace cva0 : u4.cell? ⟨w.heap.size + 1, 0, none⟩ = some (.int .i64 (p : Int)) := by rw [blk_cell hva]; rfl
  replace cva1 : u4.cell? ⟨w.heap.size + 1, 1, none⟩ = some (.int .i64 (n : Int)) := by rw [blk_cell hva]; rfl
  replace lva := blk_lt hva
  replace hop := (b4.block _ (blk_lt hop)).trans hop
  replace cop0 : u4.cell? ⟨u2.heap.size, 0, none⟩ = some (.int .i64 (d1 : Int)) := by rw [blk_cell hop]; rfl
  replace cop1 : u4.cell? ⟨u2.heap.size, 1, none⟩ = some (.int .i64 (d2 : Int)) := by rw [blk_cell hop]; rfl
  replace lop := blk_lt hop
  cases hem : (d1 ||| d2 == 0) with
  | false =>
    have HF2 : Hid (fitsW v (p, n) ((r1, r2), (t1, t2)) = false) := hide (by rw [unhide HF]; show ((d1 ||| d2 == 0) && _) = _; rw [hem]; rfl)
    go_wp2_with fail
    go_ret
    exact ⟨by rw [unhide HF2]; rfl, hB⟩
  | true =>
    have HF2 : Hid (fitsW v (p, n) ((r1, r2), (t1, t2)) = ((t1 ||| t2) &&& bitOf (v : Int) != 0)) := hide (by rw [unhide HF]; show ((d1 ||| d2 == 0) && _) = _; rw [hem]; rfl)
    go_wp2_with fail
    refine (hasVar_any t1 t2 v _ hr.2.1 hr.2.2).mono ?_
    rintro e u9 ⟨rfl, b9⟩
    go_wp2_with fail
    go_ret
    exact ⟨by rw [unhide HF2]; rfl, hB.trans (b9.mono hB.size)⟩

theorem wanted_step (rs : List RuleP) (vals : Nat × Nat) (v k : Nat) (h : k < rs.length) : wantedW (rs.drop k) vals v = if fitsW v vals rs[k] then hasLit rs[k].2 (v : Int) else wantedW (rs.drop (k + 1)) vals v := by
  unfold wantedW
  rw [List.drop_eq_getElem_cons h, List.find?_cons]
  cases fitsW v vals rs[k] <;> rfl
set_option maxRecDepth 100000 in
set_option maxHeartbeats 1600000 in
theorem wanted_any (b : Nat) (t : TypeId) (bl : BL) (rs : List RuleP) (g : GS) (gv : GV) (v : Nat) (w : World) (hG : GameAt w b t bl rs g gv) (hR : RBd rs) (hp : g.vals.1 < 512 ∧ g.vals.2 < 512) (hv : v ≤ 8) :
    Calls Tryz.prog 91 #[.pointer (some ⟨b, 0, none⟩), .int .i64 (v : Int)] w fun e w' => e = .returned (.bool (wantedW rs g.vals v)) ∧ Below w.heap.size w w' := by
  obtain ⟨turn, p, n⟩ := g
  have hbw := blk_lt hG.fb
  obtain ⟨aR, cR, hRf⟩ := own_form hG.rows.oR
  have hoR := hG.rows.oR
  rw [hRf] at hoR
  have k1 : w.cell? ⟨b, 1, none⟩ = some (.slice aR rs.length cR) := by rw [blk_cell hG.fb]; exact congrArg some hRf
  have hrl := hR.len
  go_enter Tryz.func91, Tryz.ntmps91
  go_wp2_with fail
  go_loopg [12] (rs.length) (fun m i wx => ∃ (k : Nat), i = .int .i64 k ∧ k + m = rs.length ∧ wantedW rs (p, n) v = wantedW (rs.drop k) (p, n) v ∧ Below w.heap.size w wx)
  case atStart => exact ⟨0, rfl, by omega, rfl, Below.refl _ _⟩
  case round =>
    obtain ⟨k, rfl, hk, hwt, hb⟩ := hrel
    have hGr := hG.later hb
    have lb := blk_lt hGr.fb
    have m3 : wr.cell? ⟨b, 3, none⟩ = some (.int .i64 (p : Int)) := by rw [blk_cell hGr.fb]; rfl
    have m4 : wr.cell? ⟨b, 4, none⟩ = some (.int .i64 (n : Int)) := by rw [blk_cell hGr.fb]; rfl
    by_cases hlt : k < rs.length
    · have HW : Hid (wantedW rs (p, n) v = if fitsW v (p, n) rs[k] then hasLit rs[k].2 (v : Int) else wantedW (rs.drop (k + 1)) (p, n) v) := hide (by rw [hwt]; exact wanted_step rs (p, n) v k hlt)
      have hbd := hR.bits _ (List.getElem_mem hlt)
      obtain ⟨g, cap, hVe, hg, hg', _, hcell⟩ := own_pos hoR (by omega)
      injection hVe with hVe _ hV2
      subst hVe hV2
      have hc : ∀ j (hj : j < 4) u, [Value.int .i64 (rs[k].1.1 : Int), Value.int .i64 (rs[k].1.2 : Int), Value.int .i64 (rs[k].2.1 : Int), Value.int .i64 (rs[k].2.2 : Int)][j]? = some u → wr.cell? ⟨g, k * 4 + j, none⟩ = some u := fun j hj u hu => by
        rw [hb.cell (p := ⟨g, k * 4 + j, none⟩) hg']
        exact hcell _ _ (by rw [ruleCells_at rs k j hlt hj]; exact hu)
      have hx0 : wr.cell? ⟨g, k * 4, none⟩ = some (.int .i64 (rs[k].1.1 : Int)) := hc 0 (by omega) _ rfl
      have hx1 : wr.cell? ⟨g, k * 4 + 1, none⟩ = some (.int .i64 (rs[k].1.2 : Int)) := hc 1 (by omega) _ rfl
      have hx2 : wr.cell? ⟨g, k * 4 + 2, none⟩ = some (.int .i64 (rs[k].2.1 : Int)) := hc 2 (by omega) _ rfl
      have hx3 : wr.cell? ⟨g, k * 4 + 3, none⟩ = some (.int .i64 (rs[k].2.2 : Int)) := hc 3 (by omega) _ rfl
      have hgw : g < wr.heap.size := Nat.lt_of_lt_of_le hg' hb.size
      clear hc hcell hwt
      generalize rs[k] = r at *
      obtain ⟨⟨r1, r2⟩, t1, t2⟩ := r
      dsimp only at *
      go_wp2_with fail
      have hA : Below wr.heap.size wr (wr.alloc (.cells #[.int .i64 (r1 : Int), .int .i64 (r2 : Int), .int .i64 (t1 : Int), .int .i64 (t2 : Int)] 151)) := (Below.refl _ _).alloc (Nat.le_refl _) _
      have hru := heap_alloc_new wr (.cells #[.int .i64 (r1 : Int), .int .i64 (r2 : Int), .int .i64 (t1 : Int), .int .i64 (t2 : Int)] 151)
      have hGa := hGr.later hA
      have hBa := hb.trans (hA.mono hb.size)
      generalize wr.alloc (.cells #[.int .i64 (r1 : Int), .int .i64 (r2 : Int), .int .i64 (t1 : Int), .int .i64 (t2 : Int)] 151) = wa at *
      have cru0 : wa.cell? ⟨wr.heap.size, 0, none⟩ = some (.int .i64 (r1 : Int)) := by rw [blk_cell hru]; rfl
      have cru1 : wa.cell? ⟨wr.heap.size, 1, none⟩ = some (.int .i64 (r2 : Int)) := by rw [blk_cell hru]; rfl
      have cru2 : wa.cell? ⟨wr.heap.size, 2, none⟩ = some (.int .i64 (t1 : Int)) := by rw [blk_cell hru]; rfl
      have cru3 : wa.cell? ⟨wr.heap.size, 3, none⟩ = some (.int .i64 (t2 : Int)) := by rw [blk_cell hru]; rfl
      have lru := blk_lt hru
      have lba := blk_lt hGa.fb
      have n3 : wa.cell? ⟨b, 3, none⟩ = some (.int .i64 (p : Int)) := by rw [blk_cell hGa.fb]; rfl
      have n4 : wa.cell? ⟨b, 4, none⟩ = some (.int .i64 (n : Int)) := by rw [blk_cell hGa.fb]; rfl
      obtain ⟨wo, rfl⟩ : ∃ wo, wo = wr := ⟨_, rfl⟩
      go_cut [22] (fun s22 wx => s22 = .bool (fitsW v (p, n) ((r1, r2), (t1, t2))) ∧ Below wa.heap.size wa wx)
      case first =>
        go_region_with (go_at_call 106; refine (fits_any r1 r2 t1 t2 v p n _ hbd hp).mono ?_; rintro e v1 ⟨rfl, y1⟩; have x1 : Below wa.heap.size wa v1 := Below.trans (by first | exact Below.refl _ _ | exact (Below.refl _ _).drew) (y1.mono (by simp)))
        all_goals
          go_wp2_with fail
          go_meet
          exact ⟨rfl, x1⟩
      case rest =>
      obtain ⟨rfl, hbc⟩ := hcut
      have hBc := hBa.trans (hbc.mono hBa.size)
      have hru2 := (hbc.block _ (blk_lt hru)).trans hru
      have d0 : wc.cell? ⟨wo.heap.size, 0, none⟩ = some (.int .i64 (r1 : Int)) := by rw [blk_cell hru2]; rfl
      have d1 : wc.cell? ⟨wo.heap.size, 1, none⟩ = some (.int .i64 (r2 : Int)) := by rw [blk_cell hru2]; rfl
      have d2 : wc.cell? ⟨wo.heap.size, 2, none⟩ = some (.int .i64 (t1 : Int)) := by rw [blk_cell hru2]; rfl
      have d3 : wc.cell? ⟨wo.heap.size, 3, none⟩ = some (.int .i64 (t2 : Int)) := by rw [blk_cell hru2]; rfl
      have lru2 := blk_lt hru2
      cases hft : fitsW v (p, n) ((r1, r2), (t1, t2)) with
      | true =>
        have HW2 : Hid (wantedW rs (p, n) v = hasLit (t1, t2) (v : Int)) := hide (by rw [unhide HW, hft]; rfl)
        go_wp2_with fail
        refine (has_any t1 t2 (v : Int) _ hbd.2.1 hbd.2.2 (by omega) (by omega)).mono ?_
        rintro e w9 ⟨rfl, b9⟩
        go_wp2_with fail
        go_ret
        exact ⟨by rw [unhide HW2]; rfl, hBc.trans (b9.mono hBc.size)⟩
      | false =>
        have HW2 : Hid (wantedW rs (p, n) v = wantedW (rs.drop (k + 1)) (p, n) v) := hide (by rw [unhide HW, hft]; rfl)
        go_wp2_with fail
        go_roundg (gk - 1)
        case measure => omega
        case rel => exact ⟨k + 1, by go_num, by omega, unhide HW2, hBc⟩
    · have hkl : k = rs.length := by omega
      subst hkl
      have HW : Hid (wantedW rs (p, n) v = false) := hide (by rw [hwt, List.drop_length]; rfl)
      clear hwt
      go_wp2_with fail
      go_ret
      exact ⟨by rw [unhide HW]; rfl, hb⟩

set_option maxRecDepth 100000 in
set_option maxHeartbeats 1600000 in
theorem set_any (b : Nat) (t : TypeId) (bl : BL) (rs : List RuleP) (g : GS) (gv : GV) (v : Nat) (x : Bool) (w : World) (hG : GameAt w b t bl rs g gv) (hp : g.vals.1 < 512 ∧ g.vals.2 < 512) (hv : v ≤ 8) :
    Calls Tryz.prog 65 #[.pointer (some ⟨b, 0, none⟩), .int .i64 (v : Int), .bool x] w fun e w' => e = .returned (.tuple #[]) ∧ GameAt w' b t bl rs ⟨g.turn, setW g.vals v x⟩ gv ∧ Only (· = b) w w' := by
  obtain ⟨turn, p, n⟩ := g
  dsimp only at hp
  have lb := blk_lt hG.fb
  have m3 : w.cell? ⟨b, 3, none⟩ = some (.int .i64 (p : Int)) := by rw [blk_cell hG.fb]; rfl
  have m4 : w.cell? ⟨b, 4, none⟩ = some (.int .i64 (n : Int)) := by rw [blk_cell hG.fb]; rfl
  have hwn : IntKind.i64.wrap (-(v : Int)) = -(v : Int) := wrap_neg_small' v hv
  have HS : Hid (setW (p, n) v x = withLit (p, n) (litI v x)) := hide rfl
  go_enter Tryz.func65, Tryz.ntmps65
  cases x with
  | true =>
    have HS2 : Hid (setW (p, n) v true = withLit (p, n) ((v : Int))) := hide rfl
    go_wp2_with fail
    refine (with_any p n ((v : Int)) _ hp.1 hp.2 (by omega) (by omega)).mono ?_
    rintro e w1 ⟨rfl, hb1⟩
    have hG1 := hG.later hb1
    have lb1 := blk_lt hG1.fb
    have k3 : w1.cell? ⟨b, 3, none⟩ = some (.int .i64 (p : Int)) := by rw [blk_cell hG1.fb]; rfl
    have k4 : w1.cell? ⟨b, 4, none⟩ = some (.int .i64 (n : Int)) := by rw [blk_cell hG1.fb]; rfl
    have z3 := blk_free hG1.fb 3
    have z4 := blk_free hG1.fb 4
    generalize withLit (p, n) ((v : Int)) = c at *
    obtain ⟨d1, d2⟩ := c
    go_wp2_with fail
    go_end0
    have ho : Only (· = b) w1 ((w1.setCell ⟨b, 3, none⟩ (.int .i64 (d1 : Int))).setCell ⟨b, 4, none⟩ (.int .i64 (d2 : Int))) := ((Only.refl (· = b) w1).setCell (p := ⟨b, 3, none⟩) (Or.inl rfl) _).setCell (p := ⟨b, 4, none⟩) (Or.inl rfl) _
    refine ⟨rfl, ⟨?_, hG.tt, hG1.rest ho⟩, (Only.of_below hb1).trans ho⟩
    rw [unhide HS2]
    exact blk_set (blk_set hG1.fb 3 _) 4 _
  | false =>
    have HS2 : Hid (setW (p, n) v false = withLit (p, n) (-(v : Int))) := hide rfl
    go_wp2_with fail
    refine (with_any p n (-(v : Int)) _ hp.1 hp.2 (by omega) (by omega)).mono ?_
    rintro e w1 ⟨rfl, hb1⟩
    have hG1 := hG.later hb1
    have lb1 := blk_lt hG1.fb
    have k3 : w1.cell? ⟨b, 3, none⟩ = some (.int .i64 (p : Int)) := by rw [blk_cell hG1.fb]; rfl
    have k4 : w1.cell? ⟨b, 4, none⟩ = some (.int .i64 (n : Int)) := by rw [blk_cell hG1.fb]; rfl
    have z3 := blk_free hG1.fb 3
    have z4 := blk_free hG1.fb 4
    generalize withLit (p, n) (-(v : Int)) = c at *
    obtain ⟨d1, d2⟩ := c
    go_wp2_with fail
    go_end0
    have ho : Only (· = b) w1 ((w1.setCell ⟨b, 3, none⟩ (.int .i64 (d1 : Int))).setCell ⟨b, 4, none⟩ (.int .i64 (d2 : Int))) := ((Only.refl (· = b) w1).setCell (p := ⟨b, 3, none⟩) (Or.inl rfl) _).setCell (p := ⟨b, 4, none⟩) (Or.inl rfl) _
    refine ⟨rfl, ⟨?_, hG.tt, hG1.rest ho⟩, (Only.of_below hb1).trans ho⟩
    rw [unhide HS2]
    exact blk_set (blk_set hG1.fb 3 _) 4 _
end Go.Proofs.YtgipjjhkhfihpabGreatDoor

namespace Go.Proofs.YtgipjjhkhfihpabGreatDoor
open Go.RowKit

/-! ### answer -/
structure BBd (bl : BL) : Prop where
  len : bl.length ≤ 8
  row : ∀ x ∈ bl, x.1.length ≤ 8 ∧ ∀ v ∈ x.1, 1 ≤ v ∧ v ≤ 8
set_option maxRecDepth 100000 in
set_option maxHeartbeats 1600000 in
theorem answer_any (b : Nat) (t : TypeId) (bl : BL) (rs : List RuleP) (g : GS) (gv : GV) (w : World) (hG : GameAt w b t bl rs g gv) (hR : RBd rs) (hB : BBd bl) (hp : g.vals.1 < 512 ∧ g.vals.2 < 512) (ht : g.turn ≤ bl.length) :
    Calls Tryz.prog 64 #[.pointer (some ⟨b, 0, none⟩)] w fun e w' => e = .returned (.tuple #[]) ∧ GameAt w' b t bl rs (ansW rs bl g) gv ∧ Only (· = b) w w' := by
  have lb := blk_lt hG.fb
  have hbl := hB.len
  go_enter Tryz.func64, Tryz.ntmps64
  go_wp2_with fail
  have HB := hide hB
  clear hB
  go_loopg [] (bl.length + 1 - g.turn) (fun m wx => ∃ (g' : GS), g'.turn ≤ bl.length ∧ m + g'.turn = bl.length + 1 ∧ (g'.vals.1 < 512 ∧ g'.vals.2 < 512) ∧ ansW rs bl g = ansW rs bl g' ∧ GameAt wx b t bl rs g' gv ∧ Only (· = b) w wx)
  case atStart => exact ⟨g, ht, by omega, hp, rfl, hG, Only.refl _ _⟩
  case round =>
    obtain ⟨⟨turn, p, n⟩, hle, hm, hlt, hans, hGr, ho⟩ := hrel
    dsimp only at hle hm hlt
    have HA := hide hans
    clear hans
    have lbr := blk_lt hGr.fb
    obtain ⟨aB, cB, hBf⟩ := own_form hGr.rows.oB
    have c0 : wr.cell? ⟨b, 0, none⟩ = some (.slice aB bl.length cB) := by rw [blk_cell hGr.fb]; exact congrArg some hBf
    have c2 : wr.cell? ⟨b, 2, none⟩ = some (.int .i64 (turn : Int)) := by rw [blk_cell hGr.fb]; rfl
    by_cases hl : turn < bl.length
    · have hd1 : decide ((turn : Int) < (bl.length : Int)) = true := decide_eq_true (by omega)
      have hd2 : decide (turn < bl.length) = true := decide_eq_true hl
      have hhl : turn < gv.hdrs.length := by rw [hGr.rows.len]; exact hl
      obtain ⟨e0, e1⟩ := blCells_at bl gv.hdrs turn hl hhl
      have hoB := hGr.rows.oB
      rw [hBf] at hoB
      obtain ⟨gB, cap, hVe, hg, hg', _, hcell⟩ := own_pos hoB (by omega)
      injection hVe with hVe _ hV2
      subst hVe hV2
      have hx0 := hcell _ _ e0
      have hx1 := hcell _ _ e1
      have hrow := hGr.rows.row turn hl
      obtain ⟨aX, cX, hXf⟩ := own_form hrow
      rw [hXf] at hx0
      have HAG : Hid (bl[turn].2 = true → ansW rs bl ⟨turn, (p, n)⟩ = ansW rs bl ⟨turn + 1, ansBlock rs bl[turn].1 (p, n)⟩) := hide (fun h => by
        unfold ansW
        rw [show bl.length - (GS.mk turn (p, n)).turn = (bl.length - (turn + 1)) + 1 from by show bl.length - turn = _; omega, ansGo]
        rw [show bl.getD (GS.mk turn (p, n)).turn ([], false) = bl[turn] from by simp [List.getD, hl], if_pos h])
      have HAS : Hid (bl[turn].2 = false → ansW rs bl ⟨turn, (p, n)⟩ = ⟨turn, (p, n)⟩) := hide (fun h => by
        unfold ansW
        rw [show bl.length - (GS.mk turn (p, n)).turn = (bl.length - (turn + 1)) + 1 from by show bl.length - turn = _; omega, ansGo]
        rw [show bl.getD (GS.mk turn (p, n)).turn ([], false) = bl[turn] from by simp [List.getD, hl], if_neg (by rw [h]; decide)])
      have hbd := (unhide HB).row _ (List.getElem_mem hl)
      have HRW := hide hrow
      clear hcell e0 e1 hrow hoB
      cases hw : bl[turn].2 with
      | true =>
        rw [hw] at hx1
        have HF : Hid (ansW rs bl g = ansW rs bl ⟨turn + 1, ansBlock rs bl[turn].1 (p, n)⟩) := hide (by rw [unhide HA]; exact unhide HAG hw)
        go_wp2_with fail
        go_quiet (fail)
        have b1 : Below wr.heap.size wr (wr.drewN nq) := below_drewN (Below.refl _ _) nq
        have hG1 := hGr.later b1
        have ho1 : Only (· = b) w (wr.drewN nq) := ho.trans (Only.of_below b1)
        have hgw : gB < (wr.drewN nq).heap.size := Nat.lt_of_lt_of_le hg' b1.size
        replace hx0 : (wr.drewN nq).cell? ⟨gB, turn * 2, none⟩ = _ := (b1.cell (p := ⟨gB, turn * 2, none⟩) hg').trans hx0
        replace c0 : (wr.drewN nq).cell? ⟨b, 0, none⟩ = _ := (b1.cell (p := ⟨b, 0, none⟩) lbr).trans c0
        replace c2 : (wr.drewN nq).cell? ⟨b, 2, none⟩ = _ := (b1.cell (p := ⟨b, 2, none⟩) lbr).trans c2
        generalize wr.drewN nq = w1 at *
        have lb1 := blk_lt hG1.fb
        clear hx1
        go_wp2_with fail
        go_quiet (fail)
        have b2 : Below w1.heap.size w1 (w1.drewN nq) := below_drewN (Below.refl _ _) nq
        have hG2 := hG1.later b2
        have ho2 : Only (· = b) w (w1.drewN nq) := ho1.trans (Only.of_below b2)
        generalize w1.drewN nq = w2 at *
        clear hG1 ho1 b2 b1 hgw lb1 hx0 c0 c2
        go_wp2_with fail
        obtain ⟨wo, rfl⟩ : ∃ wo, wo = wr := ⟨_, rfl⟩
        obtain ⟨gko, rfl⟩ : ∃ x, x = gk := ⟨_, rfl⟩
        obtain ⟨row, hrow⟩ : ∃ row, bl[turn].1 = row := ⟨_, rfl⟩
        rw [hrow] at hbd HF ⊢
        have HRO := hide hrow
        clear hrow HAG HAS
        go_loopg [40] (row.length) (fun m i wx => ∃ (k : Nat) (vals : Nat × Nat), i = .int .i64 k ∧ k + m = row.length ∧ (vals.1 < 512 ∧ vals.2 < 512) ∧ ansBlock rs row (p, n) = ansBlock rs (row.drop k) vals ∧ GameAt wx b t bl rs ⟨turn, vals⟩ gv ∧ Only (· = b) w wx)
        case atStart => exact ⟨0, (p, n), rfl, by omega, hlt, rfl, hG2, ho2⟩
        case round =>
          obtain ⟨k, vals, rfl, hk, hv9, hab, hG3, ho3⟩ := hrel
          have HAB := hide hab
          clear hab
          have lb3 := blk_lt hG3.fb
          by_cases hkl : k < row.length
          · have hr3 := hG3.rows.row turn hl
            rw [hXf] at hr3
            have hvv := hbd.2 _ (List.getElem_mem hkl)
            have hlen : bl[turn].1.length = row.length := by rw [unhide HRO]
            obtain ⟨gX, cap, hVe, hgx, hgx', _, hcell⟩ := own_pos hr3 (by omega)
            injection hVe with hVe hV1 hV2
            subst hVe hV2
            have hxk : wr.cell? ⟨gX, k, none⟩ = some (.int .i64 (row[k] : Int)) := hcell _ _ (by rw [unhide HRO]; simp [ints, hkl])
            have HST : Hid (ansBlock rs (row.drop k) vals = ansBlock rs (row.drop (k + 1)) (setW vals row[k] (wantedW rs vals row[k]))) := hide (by rw [List.drop_eq_getElem_cons hkl]; rfl)
            clear hcell hr3
            generalize row[k] = v at *
            go_wp2_with fail
            refine (wanted_any b t bl rs ⟨turn, vals⟩ gv v _ hG3 hR hv9 hvv.2).mono ?_
            rintro e w4 ⟨rfl, hb4⟩
            have hG4 := hG3.later hb4
            have ho4 := ho3.trans (Only.of_below hb4)
            dsimp only
            generalize wantedW rs vals v = wx at *
            go_wp2_with fail
            refine (set_any b t bl rs ⟨turn, vals⟩ gv v wx _ hG4 hv9 hvv.2).mono ?_
            rintro e w5 ⟨rfl, hG5, ho5⟩
            have hv5 := withLit_lt vals (litI v wx) hv9.1 hv9.2
            go_wp2_with fail
            go_roundg (gk - 1)
            case measure => omega
            case rel => exact ⟨k + 1, setW vals v wx, by go_num, by omega, hv5, by rw [unhide HAB, unhide HST], hG5, ho4.trans ho5⟩
          · have hke : k = row.length := by omega
            have HE : Hid (ansBlock rs row (p, n) = vals) := hide (by rw [unhide HAB, hke, List.drop_length]; rfl)
            have d2 : wr.cell? ⟨b, 2, none⟩ = some (.int .i64 (turn : Int)) := by rw [blk_cell hG3.fb]; rfl
            have z2 := blk_free hG3.fb 2
            have hdk : decide ((k : Int) < (row.length : Int)) = false := decide_eq_false (by omega)
            have ho6 : Only (· = b) wr (wr.setCell ⟨b, 2, none⟩ (.int .i64 ((turn : Int) + 1))) := (Only.refl (· = b) wr).setCell (p := ⟨b, 2, none⟩) (Or.inl rfl) _
            have hG6 : GameAt (wr.setCell ⟨b, 2, none⟩ (.int .i64 ((turn : Int) + 1))) b t bl rs ⟨turn + 1, vals⟩ gv := ⟨blk_set hG3.fb 2 _, hG3.tt, hG3.rest ho6⟩
            have ho7 := ho3.trans ho6
            have HG6 := hide hG6
            have HO7 := hide ho7
            clear hG6 ho6 ho7
            go_wp2_with fail
            go_roundg (gko - 1)
            case measure => omega
            case rel => exact ⟨⟨turn + 1, vals⟩, by show turn + 1 ≤ _; omega, by show _ + (turn + 1) = _; omega, hv9, by rw [unhide HF, unhide HE], unhide HG6, unhide HO7⟩
      | false =>
        rw [hw] at hx1
        have HF : Hid (ansW rs bl g = ⟨turn, (p, n)⟩) := hide (by rw [unhide HA]; exact unhide HAS hw)
        go_wp2_with fail
        go_quiet (fail)
        have b1 : Below wr.heap.size wr (wr.drewN nq) := below_drewN (Below.refl _ _) nq
        have hG1 := hGr.later b1
        have ho1 : Only (· = b) w (wr.drewN nq) := ho.trans (Only.of_below b1)
        generalize wr.drewN nq = w1 at *
        go_wp2_with fail
        go_end0
        exact ⟨rfl, by rw [unhide HF]; exact hG1, ho1⟩
    · have hd1 : decide ((turn : Int) < (bl.length : Int)) = false := decide_eq_false (by omega)
      have hd2 : decide (turn < bl.length) = false := decide_eq_false hl
      have HF : Hid (ansW rs bl g = ⟨turn, (p, n)⟩) := hide (by
        rw [unhide HA]
        unfold ansW
        rw [show bl.length - (GS.mk turn (p, n)).turn = 0 from by show bl.length - turn = _; omega, ansGo])
      go_wp2_with fail
      go_quiet (fail)
      have b1 : Below wr.heap.size wr (wr.drewN nq) := below_drewN (Below.refl _ _) nq
      have hG1 := hGr.later b1
      have ho1 : Only (· = b) w (wr.drewN nq) := ho.trans (Only.of_below b1)
      generalize wr.drewN nq = w1 at *
      go_wp2_with fail
      go_end0
      exact ⟨rfl, by rw [unhide HF]; exact hG1, ho1⟩
end Go.Proofs.YtgipjjhkhfihpabGreatDoor

namespace Go.Proofs.YtgipjjhkhfihpabGreatDoor
open Go.RowKit

/-- One step of a script. -/
structure OpV where
  kind : Int
  a : Int
  b : Int
  c : Int
  s : List UInt8
  t : List UInt8
def OpV.cells (o : OpV) : List Value := [.int .i64 o.kind, .int .i64 o.a, .int .i64 o.b, .int .i64 o.c, S o.s, S o.t]
def i64ok (x : Int) : Prop := -9223372036854775808 ≤ x ∧ x ≤ 9223372036854775807
theorem Only.pre {T : Nat → Prop} {a b c : World} (h : Below a.heap.size a b) (k : Only T b c) : Only T a c := (Only.of_below h).trans k

end Go.Proofs.YtgipjjhkhfihpabGreatDoor

namespace Go.Proofs.YtgipjjhkhfihpabGreatDoor
open Go.RowKit

/-! ### Move, Values, Turn -/
def MoveE (bl : BL) (g : GS) (bits : Int) : Nat := if bl.length ≤ g.turn then 7 else if bits < 0 ∨ (2 : Int) ^ (bl.getD g.turn ([], false)).1.length ≤ bits then 6 else 0
def MoveG (rs : List RuleP) (bl : BL) (g : GS) (bits : Int) : GS := if MoveE bl g bits = 0 then moveW rs bl g bits.toNat else g
theorem pow_le8 (k : Nat) (h : k ≤ 8) : (2 : Int) ^ k ≤ 256 := by
  have : ∀ k : Fin 9, (2 : Int) ^ k.val ≤ 256 := by decide
  exact this ⟨k, by omega⟩
theorem wrap_pow8 (k : Nat) (h : k ≤ 8) : wrap64 (2 ^ k) = (2 : Int) ^ k := by
  have h1 := pow_le8 k h
  have h0 : (0 : Int) ≤ (2 : Int) ^ k := by
    have : ∀ k : Fin 9, (0 : Int) ≤ (2 : Int) ^ k.val := by decide
    exact this ⟨k, by omega⟩
  exact IntWalk.wrap64_in _ ⟨by omega, by omega⟩
theorem moveBlk_drop (row : List Nat) (bits k : Nat) (vals : Nat × Nat) (h : k < row.length) : moveBlk (row.drop k) bits k vals = moveBlk (row.drop (k + 1)) bits (k + 1) (setW vals row[k] (bits.testBit k)) := by
  rw [List.drop_eq_getElem_cons h, moveBlk]
set_option maxRecDepth 100000 in
set_option maxHeartbeats 1600000 in
theorem gmove_any (b : Nat) (t : TypeId) (bl : BL) (rs : List RuleP) (g : GS) (gv : GV) (bits : Int) (w : World) (hG : GameAt w b t bl rs g gv) (hR : RBd rs) (hB : BBd bl) (hp : g.vals.1 < 512 ∧ g.vals.2 < 512) (ht : g.turn ≤ bl.length) (hbi : i64ok bits) :
    Calls Tryz.prog 36 #[.pointer (some ⟨b, 0, none⟩), .int .i64 bits] w fun e w' => e = .returned (.int .i64 (MoveE bl g bits : Nat)) ∧ GameAt w' b t bl rs (MoveG rs bl g bits) gv ∧ Only (· = b) w w' := by
  obtain ⟨turn, p, n⟩ := g
  dsimp only at ht hp
  have lb := blk_lt hG.fb
  have hbl := hB.len
  obtain ⟨aB, cB, hBf⟩ := own_form hG.rows.oB
  have c0 : w.cell? ⟨b, 0, none⟩ = some (.slice aB bl.length cB) := by rw [blk_cell hG.fb]; exact congrArg some hBf
  have c2 : w.cell? ⟨b, 2, none⟩ = some (.int .i64 (turn : Int)) := by rw [blk_cell hG.fb]; rfl
  by_cases hl : turn < bl.length
  · have hd1 : decide ((bl.length : Int) ≤ (turn : Int)) = false := decide_eq_false (by omega)
    have hd2 : decide (bl.length ≤ turn) = false := decide_eq_false (by omega)
    have hhl : turn < gv.hdrs.length := by rw [hG.rows.len]; exact hl
    obtain ⟨e0, e1⟩ := blCells_at bl gv.hdrs turn hl hhl
    have hoB := hG.rows.oB
    rw [hBf] at hoB
    obtain ⟨gB, cap, hVe, hg, hg', _, hcell⟩ := own_pos hoB (by omega)
    injection hVe with hVe _ hV2
    subst hVe hV2
    have hx0 := hcell _ _ e0
    have hrow := hG.rows.row turn hl
    obtain ⟨aX, cX, hXf⟩ := own_form hrow
    rw [hXf] at hx0
    clear hcell e0 e1
    go_enter Tryz.func36, Tryz.ntmps36
    go_wp2_with fail
    go_quiet (fail)
    have b1 : Below w.heap.size w (w.drewN nq) := below_drewN (Below.refl _ _) nq
    have hG1 := hG.later b1
    replace hx0 : (w.drewN nq).cell? ⟨gB, turn * 2, none⟩ = _ := (b1.cell (p := ⟨gB, turn * 2, none⟩) hg').trans hx0
    replace c0 : (w.drewN nq).cell? ⟨b, 0, none⟩ = _ := (b1.cell (p := ⟨b, 0, none⟩) lb).trans c0
    replace c2 : (w.drewN nq).cell? ⟨b, 2, none⟩ = _ := (b1.cell (p := ⟨b, 2, none⟩) lb).trans c2
    have hgw : gB < (w.drewN nq).heap.size := Nat.lt_of_lt_of_le hg' b1.size
    generalize w.drewN nq = w1 at *
    have lb1 := blk_lt hG1.fb
    go_wp2_with fail
    go_quiet (fail)
    have b2 : Below w1.heap.size w1 (w1.drewN nq) := below_drewN (Below.refl _ _) nq
    have hG2 := hG1.later b2
    have hb2 : Below w.heap.size w (w1.drewN nq) := b1.trans (b2.mono b1.size)
    generalize w1.drewN nq = w2 at *
    clear hG1 b2 b1 hgw lb1 hx0 c0 c2
    have lb2 := blk_lt hG2.fb
    have hbd := hB.row _ (List.getElem_mem hl)
    obtain ⟨row, hro⟩ : ∃ row, bl[turn].1 = row := ⟨_, rfl⟩
    have hrg : (bl.getD turn ([], false)).1 = row := by rw [← hro]; simp [List.getD, hl]
    have HMG : Hid (MoveE bl ⟨turn, (p, n)⟩ bits = if bits < 0 ∨ (2 : Int) ^ row.length ≤ bits then 6 else 0) := hide (by
      unfold MoveE; rw [if_neg (by show ¬ bl.length ≤ turn; omega)]; rw [← hrg])
    have HMW : Hid (moveW rs bl ⟨turn, (p, n)⟩ bits.toNat = ansW rs bl ⟨turn + 1, moveBlk row bits.toNat 0 (p, n)⟩) := hide (by unfold moveW; rw [← hrg])
    rw [hro] at hbd ⊢
    have HRO := hide hro
    clear hro hrg
    have hlr := hbd.1
    have hw64 : wrap64 (2 ^ row.length) = (2 : Int) ^ row.length := wrap_pow8 row.length hlr
    by_cases h0 : bits < 0
    · have hd3 : decide (bits < 0) = true := decide_eq_true h0
      have HE : Hid (MoveE bl ⟨turn, (p, n)⟩ bits = 6) := hide (by rw [unhide HMG, if_pos (Or.inl h0)])
      have HF : Hid (MoveG rs bl ⟨turn, (p, n)⟩ bits = ⟨turn, (p, n)⟩) := hide (by unfold MoveG; rw [unhide HE]; rfl)
      clear h0
      go_wp2_with fail
      go_ret
      exact ⟨by rw [unhide HE]; rfl, by rw [unhide HF]; exact hG2, Only.of_below hb2⟩
    · have hd3 : decide (bits < 0) = false := decide_eq_false h0
      by_cases h1 : (2 : Int) ^ row.length ≤ bits
      · have hd4 : decide ((2 : Int) ^ row.length ≤ bits) = true := decide_eq_true h1
        have HE : Hid (MoveE bl ⟨turn, (p, n)⟩ bits = 6) := hide (by rw [unhide HMG, if_pos (Or.inr h1)])
        have HF : Hid (MoveG rs bl ⟨turn, (p, n)⟩ bits = ⟨turn, (p, n)⟩) := hide (by unfold MoveG; rw [unhide HE]; rfl)
        clear h0 h1
        go_wp2_with fail
        go_ret
        exact ⟨by rw [unhide HE]; rfl, by rw [unhide HF]; exact hG2, Only.of_below hb2⟩
      · have hd4 : decide ((2 : Int) ^ row.length ≤ bits) = false := decide_eq_false h1
        have HE : Hid (MoveE bl ⟨turn, (p, n)⟩ bits = 0) := hide (by rw [unhide HMG, if_neg (fun h => h.elim h0 h1)])
        have HF : Hid (MoveG rs bl ⟨turn, (p, n)⟩ bits = ansW rs bl ⟨turn + 1, moveBlk row bits.toNat 0 (p, n)⟩) := hide (by unfold MoveG; rw [unhide HE, if_pos rfl, unhide HMW])
        have hp9 : (2 : Int) ^ row.length ≤ 256 := pow_le8 row.length hlr
        obtain ⟨bn, rfl⟩ : ∃ bn : Nat, bits = (bn : Int) := ⟨bits.toNat, by omega⟩
        have hbn : bn < 512 := by omega
        clear h0 h1
        go_wp2_with fail
        clear hw64 hd4 hd3 hp9
        go_loopg [40] (row.length) (fun m i wx => ∃ (k : Nat) (vals : Nat × Nat), i = .int .i64 k ∧ k + m = row.length ∧ (vals.1 < 512 ∧ vals.2 < 512) ∧ moveBlk row bn 0 (p, n) = moveBlk (row.drop k) bn k vals ∧ GameAt wx b t bl rs ⟨turn, vals⟩ gv ∧ Only (· = b) w wx)
        case atStart => exact ⟨0, (p, n), rfl, by omega, hp, rfl, hG2, Only.of_below hb2⟩
        case round =>
          obtain ⟨k, vals, rfl, hk, hv9, hab, hG3, ho3⟩ := hrel
          have HAB := hide hab
          clear hab
          have lb3 := blk_lt hG3.fb
          by_cases hkl : k < row.length
          · have hr3 := hG3.rows.row turn hl
            rw [hXf] at hr3
            have hvv := hbd.2 _ (List.getElem_mem hkl)
            have hlen : bl[turn].1.length = row.length := by rw [unhide HRO]
            obtain ⟨gX, cap, hVe, hgx, hgx', _, hcell⟩ := own_pos hr3 (by omega)
            injection hVe with hVe hV1 hV2
            subst hVe hV2
            have hxk : wr.cell? ⟨gX, k, none⟩ = some (.int .i64 (row[k] : Int)) := hcell _ _ (by rw [unhide HRO]; simp [ints, hkl])
            have HST := hide (moveBlk_drop row bn k vals hkl)
            have hsb := shr_bit_eq bn k hbn (by omega)
            clear hcell hr3
            generalize row[k] = v at *
            generalize htb : bn.testBit k = x at *
            go_wp2_with fail
            refine (set_any b t bl rs ⟨turn, vals⟩ gv v x _ hG3 hv9 hvv.2).mono ?_
            rintro e w5 ⟨rfl, hG5, ho5⟩
            have hv5 := withLit_lt vals (litI v x) hv9.1 hv9.2
            go_wp2_with fail
            go_roundg (gk - 1)
            case measure => omega
            case rel => exact ⟨k + 1, setW vals v x, by go_num, by omega, hv5, by rw [unhide HAB, unhide HST], hG5, ho3.trans ho5⟩
          · have hke : k = row.length := by omega
            have HE2 : Hid (moveBlk row bn 0 (p, n) = vals) := hide (by rw [unhide HAB, hke, List.drop_length]; rfl)
            have d2 : wr.cell? ⟨b, 2, none⟩ = some (.int .i64 (turn : Int)) := by rw [blk_cell hG3.fb]; rfl
            have z2 := blk_free hG3.fb 2
            have hdk : decide ((k : Int) < (row.length : Int)) = false := decide_eq_false (by omega)
            have ho6 : Only (· = b) wr (wr.setCell ⟨b, 2, none⟩ (.int .i64 ((turn : Int) + 1))) := (Only.refl (· = b) wr).setCell (p := ⟨b, 2, none⟩) (Or.inl rfl) _
            have hG6 : GameAt (wr.setCell ⟨b, 2, none⟩ (.int .i64 ((turn : Int) + 1))) b t bl rs ⟨turn + 1, vals⟩ gv := ⟨blk_set hG3.fb 2 _, hG3.tt, hG3.rest ho6⟩
            have ho7 := ho3.trans ho6
            have HG6 := hide hG6
            have HO7 := hide ho7
            clear hG6 ho6 ho7
            go_wp2_with fail
            refine (answer_any b t bl rs ⟨turn + 1, vals⟩ gv _ (unhide HG6) hR hB hv9 (by show turn + 1 ≤ _; omega)).mono ?_
            rintro e w8 ⟨rfl, hG8, ho8⟩
            have HE3 : Hid (MoveG rs bl ⟨turn, (p, n)⟩ (bn : Int) = ansW rs bl ⟨turn + 1, vals⟩) := hide (by rw [unhide HF, Int.toNat_natCast, unhide HE2])
            go_wp2_with fail
            go_ret
            exact ⟨by rw [unhide HE]; rfl, by rw [unhide HE3]; exact hG8, (unhide HO7).trans ho8⟩
  · have hd1 : decide ((bl.length : Int) ≤ (turn : Int)) = true := decide_eq_true (by omega)
    have hd2 : decide (bl.length ≤ turn) = true := decide_eq_true (by omega)
    have HE : Hid (MoveE bl ⟨turn, (p, n)⟩ bits = 7) := hide (by unfold MoveE; rw [if_pos (by show bl.length ≤ turn; omega)])
    have HG : Hid (MoveG rs bl ⟨turn, (p, n)⟩ bits = ⟨turn, (p, n)⟩) := hide (by unfold MoveG; rw [unhide HE]; rfl)
    go_enter Tryz.func36, Tryz.ntmps36
    go_wp2_with fail
    go_quiet (fail)
    have b1 : Below w.heap.size w (w.drewN nq) := below_drewN (Below.refl _ _) nq
    have hG1 := hG.later b1
    generalize w.drewN nq = w1 at *
    go_wp2_with fail
    go_ret
    exact ⟨by rw [unhide HE]; rfl, by rw [unhide HG]; exact hG1, Only.of_below b1⟩
end Go.Proofs.YtgipjjhkhfihpabGreatDoor

namespace Go.Proofs.YtgipjjhkhfihpabGreatDoor
open Go.RowKit

/-! ### Values, Turn -/
def valTo (c : Nat × Nat) (k : Nat) : List Value := (List.range 8).map (fun i => Value.int .i64 (if i < k then valV c (i + 1) else 0))
theorem valTo_zero (c : Nat × Nat) : (valTo c 0).toArray = #[.int .i64 0, .int .i64 0, .int .i64 0, .int .i64 0, .int .i64 0, .int .i64 0, .int .i64 0, .int .i64 0] := rfl
theorem valTo_at (c : Nat × Nat) (k i : Nat) (hi : i < 8) : (valTo c k).toArray[i]? = some (.int .i64 (if i < k then valV c (i + 1) else 0)) := by
  unfold valTo; simp [hi]
theorem valTo_set (c : Nat × Nat) (k : Nat) (hk : k < 8) : (valTo c k).toArray.set! k (.int .i64 (valV c (k + 1))) = (valTo c (k + 1)).toArray := by
  apply Array.ext
  · simp [valTo]
  · intro i h1 h2
    have hi : i < 8 := by simpa [valTo] using h2
    have e2 := valTo_at c (k + 1) i hi
    rw [Array.getElem?_eq_getElem h2] at e2
    injection e2 with e2
    rw [e2]
    by_cases e : i = k
    · subst e
      simp [Array.set!]
    · have e1 := valTo_at c k i hi
      rw [Array.getElem?_eq_getElem (by simpa [valTo] using hi)] at e1
      injection e1 with e1
      simp only [Array.set!]
      rw [Array.getElem_setIfInBounds_ne (by simpa [valTo] using hi) (fun h => e h.symm), e1]
      by_cases h : i < k
      · rw [if_pos h, if_pos (by omega)]
      · rw [if_neg h, if_neg (by omega)]
theorem valTo_keep (c : Nat × Nat) (k : Nat) (h0 : valV c (k + 1) = 0) : valTo c k = valTo c (k + 1) := by
  unfold valTo
  apply List.map_congr_left
  intro i _
  by_cases e : i = k
  · subst e; rw [if_neg (by omega), if_pos (by omega), h0]
  · by_cases h : i < k
    · rw [if_pos h, if_pos (by omega)]
    · rw [if_neg h, if_neg (by omega)]
set_option maxRecDepth 100000 in
set_option maxHeartbeats 1600000 in
theorem gvalues_any (b : Nat) (t : TypeId) (bl : BL) (rs : List RuleP) (g : GS) (gv : GV) (w : World) (hG : GameAt w b t bl rs g gv) (hp : g.vals.1 < 512 ∧ g.vals.2 < 512) :
    Calls Tryz.prog 40 #[.pointer (some ⟨b, 0, none⟩)] w fun e w' => ∃ k, e = .returned (.slice (some ⟨k, 0, none⟩) 8 8) ∧ w.heap.size ≤ k ∧ w'.heap[k]? = some (.cells (valTo g.vals 8).toArray 3 (0, 0)) ∧ Below w.heap.size w w' := by
  obtain ⟨turn, p, n⟩ := g
  dsimp only at hp
  have lb := blk_lt hG.fb
  have hmk : ∀ w : World, (Instr.makeSlice 59 (.int .i64 8) (.int .i64 8)).run Tryz.prog w = .ok (.slice (some ⟨w.heap.size, 0, none⟩) 8 8) (w.alloc (.cells #[.int .i64 0, .int .i64 0, .int .i64 0, .int .i64 0, .int .i64 0, .int .i64 0, .int .i64 0, .int .i64 0] 3)) := fun _ => by kernel_rfl
  go_enter Tryz.func40, Tryz.ntmps40
  go_wp2_with fail
  clear hmk
  go_loopg [8] 8 (fun m i wx => ∃ (k : Nat), i = .int .i64 k ∧ k + m = 8 ∧ Below w.heap.size w wx ∧ wx.heap[w.heap.size]? = some (.cells (valTo (p, n) k).toArray 3 (0, 0)))
  case atStart => exact ⟨0, rfl, by omega, (Below.refl _ _).alloc (Nat.le_refl _) _, by rw [valTo_zero]; exact heap_alloc_new _ _⟩
  case round =>
    obtain ⟨k, rfl, hk, hb, hblk⟩ := hrel
    have hGr := hG.later hb
    have lbr := blk_lt hGr.fb
    have lk := blk_lt hblk
    by_cases hlt : k < 8
    · have HV : Hid (valV (p, n) (k + 1) = if hasLit (p, n) (-(k : Int) - 1) then -1 else if hasLit (p, n) ((k : Int) + 1) then 1 else 0) := hide (by
        unfold valV
        rw [← hasLit_L (p, n) (k + 1) false (by omega) (by omega), ← hasLit_L (p, n) (k + 1) true (by omega) (by omega)]
        rw [show litI (k + 1) false = -(k : Int) - 1 from by unfold litI; simp; omega, show litI (k + 1) true = (k : Int) + 1 from by unfold litI; simp])
      have m3 : wr.cell? ⟨b, 3, none⟩ = some (.int .i64 (p : Int)) := by rw [blk_cell hGr.fb]; rfl
      have m4 : wr.cell? ⟨b, 4, none⟩ = some (.int .i64 (n : Int)) := by rw [blk_cell hGr.fb]; rfl
      have hd : decide ((k : Int) < 8) = true := decide_eq_true (by omega)
      have hwn : IntKind.i64.wrap (-(k : Int)) = -(k : Int) := wrap_neg_small' k (by omega)
      go_wp2_with fail
      refine (has_any p n ((k : Int) + 1) _ hp.1 hp.2 (by omega) (by omega)).mono ?_
      rintro e w1 ⟨rfl, hb1⟩
      have hG1 := hGr.later hb1
      have hblk1 := (hb1.block _ lk).trans hblk
      have hB1 := hb.trans (hb1.mono hb.size)
      have lb1 := blk_lt hG1.fb
      have l1 := blk_lt hblk1
      have n3 : w1.cell? ⟨b, 3, none⟩ = some (.int .i64 (p : Int)) := by rw [blk_cell hG1.fb]; rfl
      have n4 : w1.cell? ⟨b, 4, none⟩ = some (.int .i64 (n : Int)) := by rw [blk_cell hG1.fb]; rfl
      have j0 : w1.cell? ⟨w.heap.size, k, none⟩ = some (.int .i64 0) := by rw [blk_cell hblk1, valTo_at _ _ _ hlt, if_neg (by omega)]
      have z0 := blk_free hblk1 k
      have hne : b ≠ w.heap.size := by omega
      cases h1 : hasLit (p, n) ((k : Int) + 1) with
      | true =>
        have hblk2 := blk_set hblk1 k (.int .i64 1)
        have hB2 := hB1.setCell (p := ⟨w.heap.size, k, none⟩) (Nat.le_refl _) (.int .i64 1)
        have hfb2 : (w1.setCell ⟨w.heap.size, k, none⟩ (.int .i64 1)).heap[b]? = _ := (Below.heap_setCell _ _ _ _ hne).trans hG1.fb
        have q3 : (w1.setCell ⟨w.heap.size, k, none⟩ (.int .i64 1)).cell? ⟨b, 3, none⟩ = some (.int .i64 (p : Int)) := by rw [blk_cell hfb2]; rfl
        have q4 : (w1.setCell ⟨w.heap.size, k, none⟩ (.int .i64 1)).cell? ⟨b, 4, none⟩ = some (.int .i64 (n : Int)) := by rw [blk_cell hfb2]; rfl
        have lb2 := blk_lt hfb2
        go_wp2_with fail
        refine (has_any p n (-(k : Int) - 1) _ hp.1 hp.2 (by omega) (by omega)).mono ?_
        rintro e w3 ⟨rfl, hb3⟩
        have hblk3 := (hb3.block _ (blk_lt hblk2)).trans hblk2
        have hB3 := hB2.trans (hb3.mono hB2.size)
        have l3 := blk_lt hblk3
        have i0 : w3.cell? ⟨w.heap.size, k, none⟩ = some (.int .i64 1) := by rw [blk_cell hblk3, Array.getElem?_setIfInBounds_self_of_lt (by simp [valTo]; omega)]
        have z3 := blk_free hblk3 k
        cases h2 : hasLit (p, n) (-(k : Int) - 1) with
        | true =>
          have HX : Hid (valV (p, n) (k + 1) = -1) := hide (by rw [unhide HV, h2]; rfl)
          have HB4 := hide (blk_set hblk3 k (.int .i64 (-1)))
          have HBB := hide (hB3.setCell (p := ⟨w.heap.size, k, none⟩) (Nat.le_refl _) (.int .i64 (-1)))
          go_wp2_with fail
          go_roundg (gk - 1)
          case measure => omega
          case rel => exact ⟨k + 1, by go_num, by omega, unhide HBB, by rw [← valTo_set _ _ hlt, unhide HX]; have h := unhide HB4; rw [show ((valTo (p, n) k).toArray.setIfInBounds k (Value.int .i64 1)).setIfInBounds k (Value.int .i64 (-1)) = (valTo (p, n) k).toArray.setIfInBounds k (Value.int .i64 (-1)) from by simp] at h; exact h⟩
        | false =>
          have HX : Hid (valV (p, n) (k + 1) = 1) := hide (by rw [unhide HV, h2, h1]; rfl)
          go_wp2_with fail
          go_roundg (gk - 1)
          case measure => omega
          case rel => exact ⟨k + 1, by go_num, by omega, hB3, by rw [← valTo_set _ _ hlt, unhide HX]; exact hblk3⟩
      | false =>
        go_wp2_with fail
        refine (has_any p n (-(k : Int) - 1) _ hp.1 hp.2 (by omega) (by omega)).mono ?_
        rintro e w3 ⟨rfl, hb3⟩
        have hblk3 := (hb3.block _ (blk_lt hblk1)).trans hblk1
        have hB3 := hB1.trans (hb3.mono hB1.size)
        have l3 := blk_lt hblk3
        have i0 : w3.cell? ⟨w.heap.size, k, none⟩ = some (.int .i64 0) := by rw [blk_cell hblk3, valTo_at _ _ _ hlt, if_neg (by omega)]
        have z3 := blk_free hblk3 k
        cases h2 : hasLit (p, n) (-(k : Int) - 1) with
        | true =>
          have HX : Hid (valV (p, n) (k + 1) = -1) := hide (by rw [unhide HV, h2]; rfl)
          have HB4 := hide (blk_set hblk3 k (.int .i64 (-1)))
          have HBB := hide (hB3.setCell (p := ⟨w.heap.size, k, none⟩) (Nat.le_refl _) (.int .i64 (-1)))
          go_wp2_with fail
          go_roundg (gk - 1)
          case measure => omega
          case rel => exact ⟨k + 1, by go_num, by omega, unhide HBB, by rw [← valTo_set _ _ hlt, unhide HX]; have h := unhide HB4; exact h⟩
        | false =>
          have HX : Hid (valV (p, n) (k + 1) = 0) := hide (by rw [unhide HV, h2, h1]; rfl)
          go_wp2_with fail
          go_roundg (gk - 1)
          case measure => omega
          case rel => exact ⟨k + 1, by go_num, by omega, hB3, by rw [← valTo_keep _ _ (unhide HX)]; exact hblk3⟩
    · have hk8 : k = 8 := by omega
      subst hk8
      go_wp2_with fail
      go_ret
      exact ⟨_, rfl, Nat.le_refl _, hblk, hb⟩
set_option maxRecDepth 100000 in
set_option maxHeartbeats 1600000 in
theorem gturn_any (b : Nat) (t : TypeId) (bl : BL) (rs : List RuleP) (g : GS) (gv : GV) (w : World) (hG : GameAt w b t bl rs g gv) :
    Calls Tryz.prog 38 #[.pointer (some ⟨b, 0, none⟩)] w fun e w' => e = .returned (.int .i64 (g.turn : Int)) ∧ w' = w := by
  have lb := blk_lt hG.fb
  have c2 : w.cell? ⟨b, 2, none⟩ = some (.int .i64 (g.turn : Int)) := by rw [blk_cell hG.fb]; rfl
  go_enter Tryz.func38, Tryz.ntmps38
  go_wp2_with fail
  go_ret
  exact ⟨rfl, rfl⟩
end Go.Proofs.YtgipjjhkhfihpabGreatDoor

namespace Go.Proofs.YtgipjjhkhfihpabGreatDoor
open Go.RowKit

/-! ### wins -/
set_option maxRecDepth 100000 in
set_option maxHeartbeats 1600000 in
theorem wins_any (q : QS) (aV aC aS : Option Addr) (cV nC cC nS cS kind : Nat) (row : List Nat) (vX : Value) (w : World) (hV : w.ownsRow 0 109 2 (.slice aV q.vars.length cV) q.vars.length (varCells q.vars)) (hl : q.vars.length ≤ 8) (hk : kind = 1 ∨ kind = 2)
    (hX : w.ownsRow 0 3 1 vX row.length (ints row)) (hr : row.length ≤ 8) :
    Calls Tryz.prog 63 #[.agg #[.slice aV q.vars.length cV, .slice aC nC cC], .agg #[.int .i64 (kind : Int), .slice aS nS cS], vX] w fun e w' => e = .returned (.bool (winsW q kind row)) ∧ Below w.heap.size w w' := by
  obtain ⟨aX, cX, rfl⟩ := own_form hX
  cases row with
  | nil =>
    go_enter Tryz.func63, Tryz.ntmps63
    go_wp2_with fail
    go_ret
    exact ⟨rfl, ((Below.refl _ _).alloc (Nat.le_refl _) _).alloc (by simp) _⟩
  | cons v r =>
    have HW : Hid (winsW q kind (v :: r) = (((findV q.vars v).getD (0, false)).2 == (kind == 1))) := hide (by
      show (uniQ q v == _) = _
      unfold uniQ
      cases findV q.vars v <;> rfl)
    obtain ⟨g, cap, hVe, hg, hg', _, hcell⟩ := own_pos hX (by simp)
    injection hVe with hVe _ hV2
    subst hVe hV2
    have hx0 : w.cell? ⟨g, 0, none⟩ = some (.int .i64 (v : Int)) := hcell 0 _ rfl
    clear hcell
    have hne0 : (((r.length + 1 : Nat) : Int) == 0) = false := by rw [beq_eq_false_iff_ne]; omega
    go_enter Tryz.func63, Tryz.ntmps63
    go_wp2_with fail
    generalize hw0 : ((w.alloc (.cells #[.slice aV q.vars.length cV, .slice aC nC cC] 44)).alloc (.cells #[.int .i64 (kind : Int), .slice aS nS cS] 51)) = u1
    have hB : Below w.heap.size w u1 := by rw [← hw0]; exact ((Below.refl _ _).alloc (Nat.le_refl _) _).alloc (by simp) _
    have hf : u1.heap[w.heap.size]? = some (.cells #[.slice aV q.vars.length cV, .slice aC nC cC] 44 (0, 0)) := by rw [← hw0, heap_alloc_old _ _ (by simp)]; exact heap_alloc_new _ _
    have hpr : u1.heap[w.heap.size + 1]? = some (.cells #[.int .i64 (kind : Int), .slice aS nS cS] 51 (0, 0)) := by rw [← hw0]; exact alloc_new_at (by simp)
    clear hw0
    refine (find_any 0 w.heap.size q.vars _ v _ (by rw [blk_cell hf]; rfl) (own_below hV hB) (by omega)).mono ?_
    rintro e u2 ⟨hb2, rfl⟩
    have hB2 := hB.trans (hb2.mono hB.size)
    have hpr2 := (hb2.block _ (blk_lt hpr)).trans hpr
    generalize (findV q.vars v).getD (0, false) = x at *
    generalize (findV q.vars v).isSome = ok at *
    obtain ⟨x1, x2⟩ := x
    have hA : Below u2.heap.size u2 (u2.alloc (.cells #[.int .i64 (x1 : Int), .bool x2] 109)) := (Below.refl _ _).alloc (Nat.le_refl _) _
    have hB3 := hB2.trans (hA.mono hB2.size)
    have hv3 := heap_alloc_new u2 (.cells #[.int .i64 (x1 : Int), .bool x2] 109)
    have hpr3 := (hA.block _ (blk_lt hpr2)).trans hpr2
    have p0 : (u2.alloc (.cells #[.int .i64 (x1 : Int), .bool x2] 109)).cell? ⟨w.heap.size + 1, 0, none⟩ = some (.int .i64 (kind : Int)) := by rw [blk_cell hpr3]; rfl
    have lp := blk_lt hpr3
    rcases hk with rfl | rfl <;> cases x2
    all_goals
      go_wp2_with fail
      go_ret
      exact ⟨by rw [unhide HW]; rfl, hB3⟩
end Go.Proofs.YtgipjjhkhfihpabGreatDoor

namespace Go.Proofs.YtgipjjhkhfihpabGreatDoor
open Go.RowKit

/-- A call of a function as one step of a region that draws. -/
theorem step_call {P : Program} {ops : Array Oper} {o : Oper} {a : Act} {w : World} {K : Act → World → Prop} {Q : Exit → Act → World → Prop} {E : Prop}
    (hg : o.guard = none) (f : FuncId) (xs : Array Operand) (ts : Array TypeId) (hop : o.op = Op.call { callee := Callee.value (Operand.func f), args := xs, argTypes := ts })
    (args : Array Value) (hargs : xs.map a.eval = args) (hcf : ∀ w, (callFunc f args).run P w = .ok (.enter f args) w) (h : Calls P f args w (fun e w' => ∃ v, e = .returned v ∧ K (a.put o.dst v) w')) :
    if Region.wanted o (yielded ops a.tmps) = true then Oper.wp P o a w K Q else E := by
  have hw : Region.wanted o (yielded ops a.tmps) = true := by simp [Region.wanted, hg]
  rw [if_pos hw]
  unfold Oper.wp
  have he : (execOp a.eval o).run P w = .ok (.enter f args) w := by
    unfold execOp
    rw [hop]
    subst hargs
    simp [go_sem]
    exact hcf w
  rw [he, Oper.upon_enter]
  refine h.mono ?_
  rintro e w' ⟨v, rfl, hk⟩
  exact hk
theorem callWins (args : Array Value) (w : World) : (callFunc 63 args).run Tryz.prog w = .ok (.enter 63 args) w := by kernel_rfl
end Go.Proofs.YtgipjjhkhfihpabGreatDoor
