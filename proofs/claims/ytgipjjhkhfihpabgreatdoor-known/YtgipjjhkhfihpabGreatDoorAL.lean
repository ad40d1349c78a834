import Derived.Test.YtgipjjhkhfihpabGreatDoorAB
import Derived.Test.YtgipjjhkhfihpabGreatDoorAK
namespace Go.Proofs.YtgipjjhkhfihpabGreatDoor
open Go.RowKit

theorem minus_lt (a b : Nat × Nat) (h : a.1 < 512 ∧ a.2 < 512) : (minus a b).1 < 512 ∧ (minus a b).2 < 512 := ⟨less_lt9 _ _ h.1, less_lt9 _ _ h.2⟩
set_option maxRecDepth 100000 in
set_option maxHeartbeats 800000 in
theorem lwithout_any (p n p2 n2 : Nat) (w : World) (hp : p < 512) (hn : n < 512) (hp2 : p2 < 512) (hn2 : n2 < 512) :
    Calls Tryz.prog 89 #[SetV (p, n), SetV (p2, n2)] w fun e w' => e = .returned (SetV (minus (p, n) (p2, n2))) ∧ Below w.heap.size w w' := by
  have h1 : bits .andNot .i64 (p : Int) (p2 : Int) = ((less p p2 : Nat) : Int) := i64_andNot _ _ (by omega) (by omega)
  have h2 : bits .andNot .i64 (n : Int) (n2 : Int) = ((less n n2 : Nat) : Int) := i64_andNot _ _ (by omega) (by omega)
  go_enter Tryz.func89, Tryz.ntmps89
  go_wp2_with fail
  refine bodyPost_ret (v := SetV (minus (p, n) (p2, n2))) (by simp [results, Tryz.results89, go_sem, minus]) rfl ⟨rfl, ?_⟩
  exact ((((Below.refl _ _).alloc (Nat.le_refl _) _).alloc (by simp) _)).alloc (by simp; omega) _

set_option maxRecDepth 100000 in
set_option maxHeartbeats 800000 in
theorem turned_any (p n : Nat) (w : World) :
    Calls Tryz.prog 90 #[SetV (p, n)] w fun e w' => e = .returned (SetV (swapL (p, n))) ∧ Below w.heap.size w w' := by
  go_enter Tryz.func90, Tryz.ntmps90
  go_wp2_with fail
  refine bodyPost_ret (v := SetV (swapL (p, n))) (by simp [results, Tryz.results90, go_sem, swapL]) rfl ⟨rfl, ?_⟩
  exact ((Below.refl _ _).alloc (Nat.le_refl _) _).alloc (by simp) _

/-! ### The list of literals -/
def intsI (l : List Int) : List Value := l.map (fun x => .int .i64 x)
theorem listFrom_len (c : Nat × Nat) : ∀ k v, (listFrom c k v).length ≤ 2 * k := by
  intro k
  induction k with
  | zero => intro v; simp [listFrom]
  | succ k ih =>
    intro v
    rw [listFrom]
    have := ih (v + 1)
    simp only [List.length_append]
    split <;> split <;> simp <;> omega
/-- The literals of the variables ahead of v. -/
def listTo (c : Nat × Nat) : Nat → List Int
  | 0 => []
  | k + 1 => listTo c k ++ ((if hasLit c ((k + 1 : Nat) : Int) then [((k + 1 : Nat) : Int)] else []) ++ (if hasLit c (-((k + 1 : Nat) : Int)) then [-((k + 1 : Nat) : Int)] else []))
theorem listTo_from (c : Nat × Nat) : ∀ m k, listTo c k ++ listFrom c m (k + 1) = listTo c (k + m) := by
  intro m
  induction m with
  | zero => intro k; simp [listFrom]
  | succ m ih =>
    intro k
    rw [listFrom, show k + (m + 1) = (k + 1) + m from by omega, ← ih (k + 1), listTo]
    simp only [List.append_assoc]
theorem listTo_all (c : Nat × Nat) : listTo c 8 = listOf c := by
  have := listTo_from c 8 0
  simpa [listTo, listOf] using this.symm
theorem listTo_len (c : Nat × Nat) (k : Nat) : (listTo c k).length ≤ 2 * k := by
  induction k with
  | zero => simp [listTo]
  | succ k ih =>
    rw [listTo]
    simp only [List.length_append]
    split <;> split <;> simp <;> omega
theorem wrap_neg_small' (v : Nat) (h : v ≤ 8) : IntKind.i64.wrap (-(v : Int)) = -(v : Int) := by
  have : ∀ v : Fin 9, IntKind.i64.wrap (-(v.val : Int)) = -(v.val : Int) := by decide
  exact this ⟨v, by omega⟩
def ListPost (c : Nat × Nat) (w : World) (e : Ending) (w' : World) : Prop := ∃ v, e = .returned v ∧ w'.ownsRow w.heap.size 3 1 v (listOf c).length (intsI (listOf c)) ∧ Below w.heap.size w w'

set_option maxRecDepth 100000 in
set_option maxHeartbeats 1600000 in
theorem list_any (p n : Nat) (w : World) (hp : p < 512) (hn : n < 512) :
    Calls Tryz.prog 84 #[SetV (p, n)] w fun e w' => ListPost (p, n) w e w' := by
  obtain ⟨i3, hi3, hz30, hz31, hz32⟩ := info_parts Tryz.info3
  go_enter Tryz.func84, Tryz.ntmps84
  go_wp2_with fail
  go_loopg [3, 4] 8 (fun m vl iv wx => ∃ (k : Nat), iv = .int .i64 ((k : Int) + 1) ∧ k + m = 8 ∧ wx.ownsRow (w.heap.size + 1) 3 1 vl (listTo (p, n) k).length (intsI (listTo (p, n) k)) ∧ Below w.heap.size w wx ∧ wx.heap[w.heap.size]? = some (.cells #[.int .i64 (p : Int), .int .i64 (n : Int)] 77 (0, 0)))
  case atStart => exact ⟨0, rfl, by omega, World.ownsRow_nil _ _ _ _, (Below.refl _ _).alloc (Nat.le_refl _) _, heap_alloc_new _ _⟩
  case round =>
    obtain ⟨k, rfl, hk, hown, hb, hset⟩ := hrel
    have HLN := hide (listTo_len (p, n) k)
    have hln := listTo_len (p, n) k
    have hbs := blk_lt hset
    obtain ⟨aL, cL, rfl⟩ := own_form hown
    have c0 : wr.cell? ⟨w.heap.size, 0, none⟩ = some (.int .i64 (p : Int)) := by rw [blk_cell hset]; rfl
    have c1 : wr.cell? ⟨w.heap.size, 1, none⟩ = some (.int .i64 (n : Int)) := by rw [blk_cell hset]; rfl
    by_cases hlt : k < 8
    · have hd : decide ((k : Int) + 1 ≤ 8) = true := by simp; omega
      have hwn : IntKind.i64.wrap (-((k : Int) + 1)) = -((k : Int) + 1) := wrap_neg_small' (k + 1) (by omega)
      have HT : Hid (listTo (p, n) (k + 1) = listTo (p, n) k ++ ((if hasLit (p, n) ((k : Int) + 1) then [(k : Int) + 1] else []) ++ (if hasLit (p, n) (-((k : Int) + 1)) then [-((k : Int) + 1)] else []))) := hide rfl
      generalize listTo (p, n) k = l at *
      go_wp2_with fail
      refine (has_any p n ((k : Int) + 1) wr hp hn (by omega) (by omega)).mono ?_
      rintro e w1 ⟨rfl, hb1⟩
      have hset1 := (hb1.block _ hbs).trans hset
      have hB1 : Below w.heap.size w w1 := hb.trans (hb1.mono hb.size)
      have hown1 := own_below hown hb1
      have d0 : w1.cell? ⟨w.heap.size, 0, none⟩ = some (.int .i64 (p : Int)) := by rw [blk_cell hset1]; rfl
      have d1 : w1.cell? ⟨w.heap.size, 1, none⟩ = some (.int .i64 (n : Int)) := by rw [blk_cell hset1]; rfl
      have hbs1 := blk_lt hset1
      cases h1 : hasLit (p, n) ((k : Int) + 1) with
      | false =>
        go_wp2_with fail
        refine (has_any p n (-((k : Int) + 1)) w1 hp hn (by omega) (by omega)).mono ?_
        rintro e w3 ⟨rfl, hb3⟩
        have hset3 := (hb3.block _ (blk_lt hset1)).trans hset1
        have hB3 : Below w.heap.size w w3 := hB1.trans (hb3.mono hB1.size)
        have hown3 := own_below hown1 hb3
        have hbs3 := blk_lt hset3
        cases h2 : hasLit (p, n) (-((k : Int) + 1)) with
        | false =>
          have HL : Hid (listTo (p, n) (k + 1) = l) := hide (by rw [unhide HT, h1, h2]; simp)
          go_wp2_with fail
          go_roundg (gk - 1)
          case measure => omega
          case rel => exact ⟨k + 1, by go_num, by omega, by rw [unhide HL]; simpa [intsI] using hown3, hB3, hset3⟩
        | true =>
          have HL : Hid (listTo (p, n) (k + 1) = l ++ [-((k : Int) + 1)]) := hide (by rw [unhide HT, h1, h2]; simp)
          go_wp2_with (at_builtin; refine wpList_append_new rfl _ _ 59 rfl (w.heap.size + 1) i3 (.int .i64 0) 1 8 Tryz.underlying59 hi3 hz30 hz31 hz32 rfl (by decide) _ _ _ hown3 rfl rfl rfl (by simp [Value.oneCell']) (by unfold maxLen; omega) (by omega) hbs3 ?_; intro v4 w4 hown4 hgrow4 hnn4)
          have hB4 : Below w.heap.size w w4 := below_grown hB3 hgrow4 hown3 (Nat.le_succ _) hB3.size
          have hset4 : w4.heap[w.heap.size]? = some (.cells #[.int .i64 (p : Int), .int .i64 (n : Int)] 77 (0, 0)) := (hgrow4.block _ hbs3 (fun e => by have := (hown3.lt _ e.symm).1; omega)).trans hset3
          obtain ⟨a4, c4, rfl⟩ := own_form hown4
          go_wp2_with fail
          go_roundg (gk - 1)
          case measure => omega
          case rel => exact ⟨k + 1, by go_num, by omega, by rw [unhide HL]; simpa [intsI] using hown4, hB4, hset4⟩
      | true =>
        go_wp2_with (at_builtin; refine wpList_append_new rfl _ _ 59 rfl (w.heap.size + 1) i3 (.int .i64 0) 1 8 Tryz.underlying59 hi3 hz30 hz31 hz32 rfl (by decide) _ _ _ hown1 rfl rfl rfl (by simp [Value.oneCell']) (by unfold maxLen; omega) (by omega) hbs1 ?_; intro v2 w2 hown2 hgrow2 hnn2; have hB2 : Below w.heap.size w w2 := below_grown hB1 hgrow2 hown1 (Nat.le_succ _) hB1.size; have hset2 : w2.heap[w.heap.size]? = some (.cells #[.int .i64 (p : Int), .int .i64 (n : Int)] 77 (0, 0)) := (hgrow2.block _ hbs1 (fun e => by have := (hown1.lt _ e.symm).1; omega)).trans hset1; obtain ⟨a2, c2, rfl⟩ := own_form hown2; have hbs2 := blk_lt hset2; have f0 : w2.cell? ⟨w.heap.size, 0, none⟩ = some (.int .i64 (p : Int)) := (by rw [blk_cell hset2]; rfl); have f1 : w2.cell? ⟨w.heap.size, 1, none⟩ = some (.int .i64 (n : Int)) := (by rw [blk_cell hset2]; rfl))
        refine (has_any p n (-((k : Int) + 1)) w2 hp hn (by omega) (by omega)).mono ?_
        rintro e w3 ⟨rfl, hb3⟩
        have hset3 := (hb3.block _ (blk_lt hset2)).trans hset2
        have hB3 : Below w.heap.size w w3 := hB2.trans (hb3.mono hB2.size)
        have hown3 := own_below hown2 hb3
        have hbs3 := blk_lt hset3
        cases h2 : hasLit (p, n) (-((k : Int) + 1)) with
        | false =>
          have HL : Hid (listTo (p, n) (k + 1) = (l ++ [(k : Int) + 1])) := hide (by rw [unhide HT, h1, h2]; simp)
          go_wp2_with fail
          go_roundg (gk - 1)
          case measure => omega
          case rel => exact ⟨k + 1, by go_num, by omega, by rw [unhide HL]; simpa [intsI] using hown3, hB3, hset3⟩
        | true =>
          have HL : Hid (listTo (p, n) (k + 1) = (l ++ [(k : Int) + 1]) ++ [-((k : Int) + 1)]) := hide (by rw [unhide HT, h1, h2]; simp)
          go_wp2_with (at_builtin; refine wpList_append_new rfl _ _ 59 rfl (w.heap.size + 1) i3 (.int .i64 0) 1 8 Tryz.underlying59 hi3 hz30 hz31 hz32 rfl (by decide) _ _ _ hown3 rfl rfl rfl (by simp [Value.oneCell']) (by unfold maxLen; omega) (by omega) hbs3 ?_; intro v4 w4 hown4 hgrow4 hnn4)
          have hB4 : Below w.heap.size w w4 := below_grown hB3 hgrow4 hown3 (Nat.le_succ _) hB3.size
          have hset4 : w4.heap[w.heap.size]? = some (.cells #[.int .i64 (p : Int), .int .i64 (n : Int)] 77 (0, 0)) := (hgrow4.block _ hbs3 (fun e => by have := (hown3.lt _ e.symm).1; omega)).trans hset3
          obtain ⟨a4, c4, rfl⟩ := own_form hown4
          go_wp2_with fail
          go_roundg (gk - 1)
          case measure => omega
          case rel => exact ⟨k + 1, by go_num, by omega, by rw [unhide HL]; simpa [intsI] using hown4, hB4, hset4⟩
    · have hk8 : k = 8 := by omega
      subst hk8
      have HA := hide (listTo_all (p, n))
      go_wp2_with fail
      go_ret
      exact ⟨_, rfl, by rw [← unhide HA]; exact own_lo hown (Nat.le_succ _), hb⟩
end Go.Proofs.YtgipjjhkhfihpabGreatDoor

namespace Go.Proofs.YtgipjjhkhfihpabGreatDoor
open Go.RowKit

set_option maxRecDepth 100000 in
set_option maxHeartbeats 1600000 in
theorem qsat_any (base b : Nat) (q : QS) (vC : Value) (p0 n0 : Nat) (w : World) (hc1 : w.cell? ⟨b, 1, none⟩ = some vC) (hoC : w.ownsRow base 77 2 vC q.cl.length (pairs q.cl)) (hQ : QB q) (hp0 : p0 < 512) (hn0 : n0 < 512) :
    Calls Tryz.prog 79 #[.pointer (some ⟨b, 0, none⟩), SetV (p0, n0)] w fun e w' => e = .returned (.bool (satQ q.cl (p0, n0))) ∧ Below w.heap.size w w' := by
  have hbw := cell_lt hc1
  have hcl := hQ.cl
  have HCL := hide hQ.bits
  obtain ⟨aC, cC, rfl⟩ := own_form hoC
  go_enter Tryz.func79, Tryz.ntmps79
  go_wp2_with fail
  go_loopg [13] (q.cl.length) (fun m i wx => ∃ k : Nat, i = .int .i64 k ∧ k + m = q.cl.length ∧ satQ (q.cl.take k) (p0, n0) = true ∧ Below w.heap.size w wx ∧ wx.heap[w.heap.size]? = some (.cells #[.int .i64 p0, .int .i64 n0] 77 (0, 0)))
  case atStart => exact ⟨0, rfl, by omega, rfl, (Below.refl _ _).alloc (Nat.le_refl _) _, heap_alloc_new _ _⟩
  case round =>
    obtain ⟨k, rfl, hk, hno, hb, hset⟩ := hrel
    have HNO := hide hno; clear hno
    have hbs := blk_lt hset
    have c0 : wr.cell? ⟨w.heap.size, 0, none⟩ = some (.int .i64 p0) := by rw [blk_cell hset]; rfl
    have c1 : wr.cell? ⟨w.heap.size, 1, none⟩ = some (.int .i64 n0) := by rw [blk_cell hset]; rfl
    by_cases hlt : k < q.cl.length
    · obtain ⟨g, cap, hV, hg, hg', _, hcell⟩ := own_pos hoC (by omega)
      injection hV with hV _ hV2
      subst hV hV2
      have hgw : g < wr.heap.size := by omega
      obtain ⟨ha, hb'⟩ := pairs_at q.cl k hlt
      have hx0 : wr.cell? ⟨g, k * 2, none⟩ = some (.int .i64 (q.cl[k].1 : Int)) := by rw [hb.cell (p := ⟨g, k * 2, none⟩) hg']; exact hcell _ _ ha
      have hx1 : wr.cell? ⟨g, k * 2 + 1, none⟩ = some (.int .i64 (q.cl[k].2 : Int)) := by rw [hb.cell (p := ⟨g, k * 2 + 1, none⟩) hg']; exact hcell _ _ hb'
      have HT := hide (satQ_take q.cl (p0, n0) k hlt)
      have hbd := unhide HCL _ (List.getElem_mem hlt)
      have HOF := hide (satQ_of q.cl (p0, n0) k hlt)
      clear hcell ha hb'
      generalize q.cl[k] = c at *
      obtain ⟨p, n⟩ := c
      have HOK : Hid (okC (p, n) (p0, n0) = (((p &&& p0) ||| (n &&& n0) != 0) || (p &&& n != 0))) := hide rfl
      go_wp2_with fail
      refine (meets_any p n p0 n0 _ hbd.1 hbd.2 hp0 hn0).mono ?_
      rintro e w2 ⟨rfl, hb2⟩
      have hA : Below wr.heap.size wr (wr.alloc (.cells #[.int .i64 (p : Int), .int .i64 (n : Int)] 77)) := (Below.refl _ _).alloc (Nat.le_refl _) _
      have hb2' : Below wr.heap.size wr w2 := hA.trans (hb2.mono hA.size)
      have hb3 : Below w.heap.size w w2 := hb.trans (hb2'.mono hb.size)
      have hset2 := (hb2'.block _ hbs).trans hset
      have hc2 := (hb2.block _ (by simp)).trans (heap_alloc_new wr (.cells #[.int .i64 (p : Int), .int .i64 (n : Int)] 77))
      have d0 : w2.cell? ⟨wr.heap.size, 0, none⟩ = some (.int .i64 p) := by rw [blk_cell hc2]; rfl
      have d1 : w2.cell? ⟨wr.heap.size, 1, none⟩ = some (.int .i64 n) := by rw [blk_cell hc2]; rfl
      cases hh : ((p &&& p0) ||| (n &&& n0) != 0) with
      | true =>
        have HO1 : Hid (okC (p, n) (p0, n0) = true) := hide (by rw [unhide HOK, hh]; rfl)
        go_wp2_with fail
        go_roundg (gk - 1)
        case measure => omega
        case rel => exact ⟨k + 1, by go_num, by omega, by rw [unhide HT, unhide HNO, unhide HO1]; rfl, hb3, hset2⟩
      | false =>
        go_wp2_with fail
        refine (clashes_any p n w2 hbd.1 hbd.2).mono ?_
        rintro e w3 ⟨rfl, hb4⟩
        have hb5 : Below w.heap.size w w3 := hb3.trans (hb4.mono hb3.size)
        have hset3 := (hb4.block _ (blk_lt hset2)).trans hset2
        cases hc : (p &&& n != 0) with
        | true =>
          have HO1 : Hid (okC (p, n) (p0, n0) = true) := hide (by rw [unhide HOK, hh, hc]; rfl)
          go_wp2_with fail
          go_roundg (gk - 1)
          case measure => omega
          case rel => exact ⟨k + 1, by go_num, by omega, by rw [unhide HT, unhide HNO, unhide HO1]; rfl, hb5, hset3⟩
        | false =>
          have HF := hide (unhide HOF (by rw [unhide HOK, hh, hc]; rfl))
          go_wp2_with fail
          go_ret
          exact ⟨ret_bool (unhide HF).symm, hb5⟩
    · have hkl : k = q.cl.length := by omega
      subst hkl
      have hno := unhide HNO
      rw [List.take_length] at hno
      have HF := hide hno; clear hno
      go_wp2_with fail
      go_ret
      exact ⟨ret_bool (unhide HF).symm, hb⟩
end Go.Proofs.YtgipjjhkhfihpabGreatDoor

namespace Go.Proofs.YtgipjjhkhfihpabGreatDoor
open Go.RowKit

abbrev FactV (f : Nat × Nat) : Value := .agg #[.int .i64 (f.1 : Int), .int .i64 (f.2 : Int)]
def pOff (kind : Nat) : Nat := if kind = 2 then 8 else 6
set_option maxRecDepth 100000 in
set_option maxHeartbeats 800000 in
theorem sproof_any (b kind : Nat) (w : World) (_hb : b < w.heap.size) :
    Calls Tryz.prog 96 #[.pointer (some ⟨b, 0, none⟩), .int .i64 (kind : Int)] w fun e w' => e = .returned (.pointer (some ⟨b, pOff kind, none⟩)) ∧ w' = w := by
  by_cases h : kind = 2
  · subst h
    go_enter Tryz.func96, Tryz.ntmps96
    go_wp2_with fail
    go_ret
    exact ⟨rfl, rfl⟩
  · have hd : ((kind : Int) == 2) = false := by rw [beq_eq_false_iff_ne]; omega
    have HO : Hid (pOff kind = 6) := hide (by unfold pOff; rw [if_neg h])
    clear h
    go_enter Tryz.func96, Tryz.ntmps96
    go_wp2_with fail
    go_ret
    exact ⟨by rw [unhide HO]; rfl, rfl⟩
/-- The proof of a kind: where it lies. -/
theorem SAt.proofAt {w : World} {b : Nat} {C : SC} {S : SS} {V : SV} (h : SAt w b C S V) (kind : Nat) : ∃ vS, w.cell? ⟨b, pOff kind + 1, none⟩ = some vS ∧ w.ownsRow 0 91 6 vS (S.proof kind).length (psCells (S.proof kind)) := by
  by_cases e : kind = 2
  · subst e; exact ⟨V.a, by rw [blk_cell h.fb]; rfl, h.oA⟩
  · refine ⟨V.r, ?_, ?_⟩
    · rw [blk_cell h.fb]; unfold pOff; rw [if_neg e]; rfl
    · unfold SS.proof; rw [if_neg e]; exact h.oR
theorem SBd.proof {C : SC} {S : SS} (h : SBd C S) (kind : Nat) : (S.proof kind).length ≤ 100000 ∧ ∀ s ∈ S.proof kind, s.lits.1 < 512 ∧ s.lits.2 < 512 := by
  unfold SS.proof; split
  · exact ⟨h.al, h.aff⟩
  · exact ⟨h.rl, h.ref⟩
theorem SBd.lits {C : SC} {S : SS} (h : SBd C S) (f : Nat × Nat) : (S.lits f).1 < 512 ∧ (S.lits f).2 < 512 := litsAt_lt _ (h.proof f.1).2 _

set_option maxRecDepth 100000 in
set_option maxHeartbeats 800000 in
theorem slits_any (b : Nat) (C : SC) (S : SS) (V : SV) (f : Nat × Nat) (w : World) (hS : SAt w b C S V) (hB : SBd C S) :
    Calls Tryz.prog 98 #[.pointer (some ⟨b, 0, none⟩), FactV f] w fun e w' => e = .returned (SetV (S.lits f)) ∧ Below w.heap.size w w' := by
  obtain ⟨fk, fs⟩ := f
  have hbw := blk_lt hS.fb
  have HL : Hid (S.lits (fk, fs) = litsAt (S.proof fk) fs) := hide rfl
  have hlt := hB.lits (fk, fs)
  go_enter Tryz.func98, Tryz.ntmps98
  go_wp2_with fail
  generalize hw0 : ((w.alloc (.cells #[.int .i64 (fk : Int), .int .i64 (fs : Int)] 85)).alloc (.cells #[.int .i64 0, .int .i64 0] 77)) = u1
  have hBw : Below w.heap.size w u1 := by rw [← hw0]; exact ((Below.refl _ _).alloc (Nat.le_refl _) _).alloc (by simp) _
  have hfa : u1.heap[w.heap.size]? = some (.cells #[.int .i64 (fk : Int), .int .i64 (fs : Int)] 85 (0, 0)) := by rw [← hw0, heap_alloc_old _ _ (by simp)]; exact alloc_new_at (by simp)
  have hrs : u1.heap[w.heap.size + 1]? = some (.cells #[.int .i64 0, .int .i64 0] 77 (0, 0)) := by rw [← hw0]; exact alloc_new_at (by simp)
  clear hw0
  have cfa0 : u1.cell? ⟨w.heap.size, 0, none⟩ = some (.int .i64 (fk : Int)) := by rw [blk_cell hfa]; rfl
  have cfa1 : u1.cell? ⟨w.heap.size, 1, none⟩ = some (.int .i64 (fs : Int)) := by rw [blk_cell hfa]; rfl
  have lfa := blk_lt hfa
  have crs0 : u1.cell? ⟨w.heap.size + 1, 0, none⟩ = some (.int .i64 0) := by rw [blk_cell hrs]; rfl
  have crs1 : u1.cell? ⟨w.heap.size + 1, 1, none⟩ = some (.int .i64 0) := by rw [blk_cell hrs]; rfl
  have lrs := blk_lt hrs
  have hbw2 : b < u1.heap.size := Nat.lt_of_lt_of_le hbw hBw.size
  refine (sproof_any b fk _ hbw2).mono ?_
  rintro e w2 ⟨rfl, hw2⟩
  subst hw2
  obtain ⟨vS, hv1, hv2⟩ := (hS.later hBw).proofAt fk
  go_wp2_with fail
  refine (plits_any 0 b (pOff fk) (S.proof fk) vS fs _ hv1 hv2 (by have := (hB.proof fk).1; omega)).mono ?_
  rintro e w3 ⟨rfl, hb3⟩
  rw [← unhide HL]
  generalize hea : S.lits (fk, fs) = c at *
  have HEC := hide hea
  clear hea
  obtain ⟨c1, c2⟩ := c
  have hrs3 := (hb3.block _ (blk_lt hrs)).trans hrs
  have crs30 : w3.cell? ⟨w.heap.size + 1, 0, none⟩ = some (.int .i64 0) := by rw [blk_cell hrs3]; rfl
  have crs31 : w3.cell? ⟨w.heap.size + 1, 1, none⟩ = some (.int .i64 0) := by rw [blk_cell hrs3]; rfl
  have z0 := blk_free hrs3 0
  have z1 := blk_free hrs3 1
  have l3 := blk_lt hrs3
  have hR := blk_set (blk_set hrs3 0 (.int .i64 (c1 : Int))) 1 (.int .i64 (c2 : Int))
  have j0 := blk_cell hR 0
  have j1 := blk_cell hR 1
  go_wp2_with fail
  refine bodyPost_ret (v := SetV (c1, c2)) (by simp [results, Tryz.results98, go_sem, j0, j1]) rfl ⟨by rw [unhide HEC], ?_⟩
  exact ((hBw.trans (hb3.mono hBw.size)).setCell (p := ⟨w.heap.size + 1, 0, none⟩) (Nat.le_succ _) _).setCell (p := ⟨w.heap.size + 1, 1, none⟩) (Nat.le_succ _) _

set_option maxRecDepth 100000 in
set_option maxHeartbeats 800000 in
theorem shas_any (b : Nat) (C : SC) (S : SS) (V : SV) (f : Nat × Nat) (v : Nat) (w : World) (hS : SAt w b C S V) (hB : SBd C S) :
    Calls Tryz.prog 81 #[.pointer (some ⟨b, 0, none⟩), FactV f, .int .i64 (v : Int)] w fun e w' => e = .returned (.bool (hasVarB (S.lits f) v)) ∧ Below w.heap.size w w' := by
  obtain ⟨fk, fs⟩ := f
  have hbw := blk_lt hS.fb
  have hlt := hB.lits (fk, fs)
  have hA : Below w.heap.size w (w.alloc (.cells #[.int .i64 (fk : Int), .int .i64 (fs : Int)] 85)) := (Below.refl _ _).alloc (Nat.le_refl _) _
  go_enter Tryz.func81, Tryz.ntmps81
  go_wp2_with fail
  refine (slits_any b C S V (fk, fs) _ (hS.later hA) hB).mono ?_
  rintro e w2 ⟨rfl, hb2⟩
  have hB2 := hA.trans (hb2.mono hA.size)
  generalize hea : S.lits (fk, fs) = c at *
  have HEC := hide hea
  clear hea
  obtain ⟨c1, c2⟩ := c
  go_wp2_with fail
  have hA2 : Below w2.heap.size w2 (w2.alloc (.cells #[.int .i64 (c1 : Int), .int .i64 (c2 : Int)] 77)) := (Below.refl _ _).alloc (Nat.le_refl _) _
  have hB3 := hB2.trans (hA2.mono hB2.size)
  refine (hasVar_any c1 c2 v _ hlt.1 hlt.2).mono ?_
  rintro e w3 ⟨rfl, hb3⟩
  go_wp2_with fail
  go_ret
  exact ⟨by rw [unhide HEC]; rfl, hB3.trans (hb3.mono hB3.size)⟩
end Go.Proofs.YtgipjjhkhfihpabGreatDoor

namespace Go.Proofs.YtgipjjhkhfihpabGreatDoor
open Go.RowKit

/-! ### shrink: reading alone -/
theorem shrinkStep_lt (q : QS) (u : Bool) (c : Nat × Nat) (v : Nat × Bool) (h : c.1 < 512 ∧ c.2 < 512) : (shrinkStep q u c v).1 < 512 ∧ (shrinkStep q u c v).2 < 512 := by
  unfold shrinkStep; split
  · exact without_lt _ _ h
  · exact h
theorem shrinkK_lt (q : QS) (u : Bool) (c : Nat × Nat) (h : c.1 < 512 ∧ c.2 < 512) : (shrinkK q u c).1 < 512 ∧ (shrinkK q u c).2 < 512 := by
  unfold shrinkK
  suffices hh : ∀ (vs : List (Nat × Bool)) (c : Nat × Nat), c.1 < 512 ∧ c.2 < 512 → (vs.foldl (shrinkStep q u) c).1 < 512 ∧ (vs.foldl (shrinkStep q u) c).2 < 512 from hh _ c h
  intro vs
  induction vs with
  | nil => intro c h; exact h
  | cons v vs ih => intro c h; exact ih _ (shrinkStep_lt q u c v h)
theorem shrink_step (q : QS) (u : Bool) (k : Nat) (h : k < q.vars.length) (c : Nat × Nat) : (q.vars.take (k + 1)).reverse.foldl (shrinkStep q u) c = (q.vars.take k).reverse.foldl (shrinkStep q u) (shrinkStep q u c q.vars[k]) := by
  rw [List.take_succ_eq_append_getElem h, List.reverse_append]; rfl

set_option maxRecDepth 100000 in
set_option maxHeartbeats 1600000 in
theorem shrinkKind_any (b : Nat) (C : SC) (S : SS) (V : SV) (c : Nat × Nat) (u : Bool) (w : World) (hS : SAt w b C S V) (hB : SBd C S) (hc : c.1 < 512 ∧ c.2 < 512) :
    Calls Tryz.prog 101 #[.pointer (some ⟨b, 0, none⟩), SetV c, .bool u] w fun e w' => e = .returned (SetV (shrinkK C.q u c)) ∧ Below w.heap.size w w' := by
  obtain ⟨aV, cV, hVf⟩ := own_form hS.oV
  have hoV := hS.oV
  rw [hVf] at hoV
  have hbw := blk_lt hS.fb
  have hvl := hB.qb.vl
  obtain ⟨p0, n0⟩ := c
  go_enter Tryz.func101, Tryz.ntmps101
  have k0 : w.cell? ⟨b, 0, none⟩ = some (.slice aV C.q.vars.length cV) := by rw [blk_cell hS.fb]; exact congrArg some hVf
  go_wp2_with fail
  go_loopg [7] (C.q.vars.length + 1) (fun m i wx => ∃ (k p n : Nat), i = .int .i64 ((k : Int) - 1) ∧ k + 1 ≤ m ∧ m ≤ k + 1 ∧ k ≤ C.q.vars.length ∧ p < 512 ∧ n < 512 ∧ shrinkK C.q u (p0, n0) = (C.q.vars.take k).reverse.foldl (shrinkStep C.q u) (p, n) ∧ Below w.heap.size w wx ∧
     wx.heap[w.heap.size]? = some (.cells #[.int .i64 (p : Int), .int .i64 (n : Int)] 77 (0, 0)) ∧ wx.heap[w.heap.size + 1]? = some (.cells #[.int .i64 0, .int .i64 0] 77 (0, 0)))
  case atStart => exact ⟨C.q.vars.length, p0, n0, by go_num, by omega, by omega, by omega, hc.1, hc.2, by rw [List.take_length]; rfl, ((Below.refl _ _).alloc (Nat.le_refl _) _).alloc (by simp) _, by rw [heap_alloc_old _ _ (by simp)]; exact heap_alloc_new _ _, alloc_new_at (by simp)⟩
  case round =>
    obtain ⟨k, p, n, rfl, hkm, hkm2, hkl, hp, hn, hsh, hb, hset, hres⟩ := hrel
    have HR := hide hsh; clear hsh
    have s0 : wr.cell? ⟨w.heap.size, 0, none⟩ = some (.int .i64 (p : Int)) := by rw [blk_cell hset]; rfl
    have s1 : wr.cell? ⟨w.heap.size, 1, none⟩ = some (.int .i64 (n : Int)) := by rw [blk_cell hset]; rfl
    have r0 : wr.cell? ⟨w.heap.size + 1, 0, none⟩ = some (.int .i64 0) := by rw [blk_cell hres]; rfl
    have r1 : wr.cell? ⟨w.heap.size + 1, 1, none⟩ = some (.int .i64 0) := by rw [blk_cell hres]; rfl
    have z0 := blk_free hset 0
    have z1 := blk_free hset 1
    have y0 := blk_free hres 0
    have y1 := blk_free hres 1
    have hbs := blk_lt hres
    have hbs0 : w.heap.size < wr.heap.size := by omega
    have hbw1 : b < wr.heap.size := by omega
    have x0 : wr.cell? ⟨b, 0, none⟩ = some (.slice aV C.q.vars.length cV) := by rw [hb.cell (p := ⟨b, 0, none⟩) hbw]; exact k0
    cases k with
    | zero =>
      have HF : Hid (shrinkK C.q u (p0, n0) = (p, n)) := hide (by rw [unhide HR]; rfl)
      have hR := blk_set (blk_set hres 0 (.int .i64 (p : Int))) 1 (.int .i64 (n : Int))
      have j0 := blk_cell hR 0
      have j1 := blk_cell hR 1
      go_wp2_with fail
      refine bodyPost_ret (v := SetV (p, n)) (by simp [results, Tryz.results101, go_sem, j0, j1]) rfl ⟨by rw [unhide HF], ?_⟩
      exact (hb.setCell (p := ⟨w.heap.size + 1, 0, none⟩) (Nat.le_succ _) _).setCell (p := ⟨w.heap.size + 1, 1, none⟩) (Nat.le_succ _) _
    | succ k =>
      have hlt : k < C.q.vars.length := by omega
      obtain ⟨g, cap, hVe, hg, hg', _, hcell⟩ := own_pos hoV (by omega)
      injection hVe with hVe _ hV2
      subst hVe hV2
      obtain ⟨ha, hb'⟩ := varCells_at C.q.vars k hlt
      have hx0 : wr.cell? ⟨g, k * 2, none⟩ = some (.int .i64 (C.q.vars[k].1 : Int)) := by rw [hb.cell (p := ⟨g, k * 2, none⟩) hg']; exact hcell _ _ ha
      have hx1 : wr.cell? ⟨g, k * 2 + 1, none⟩ = some (.bool C.q.vars[k].2) := by rw [hb.cell (p := ⟨g, k * 2 + 1, none⟩) hg']; exact hcell _ _ hb'
      have hgw : g < wr.heap.size := by omega
      have HST := hide (shrink_step C.q u k hlt (p, n))
      clear hcell ha hb'
      generalize C.q.vars[k] = x at *
      obtain ⟨vn, vu⟩ := x
      dsimp only at *
      go_wp2_with fail
      refine (withoutVar_any p n vn _ hp hn).mono ?_
      rintro e w2 ⟨rfl, hb2⟩
      have hA1 : Below wr.heap.size wr (wr.alloc (.cells #[.int .i64 (vn : Int), .bool vu] 109)) := (Below.refl _ _).alloc (Nat.le_refl _) _
      have hw2 : Below wr.heap.size wr w2 := hA1.trans (hb2.mono hA1.size)
      have hv2 : w2.heap[wr.heap.size]? = some (.cells #[.int .i64 (vn : Int), .bool vu] 109 (0, 0)) := (hb2.block _ (by simp)).trans (heap_alloc_new _ _)
      have hset2 := (hw2.block _ hbs0).trans hset
      have hres2 := (hw2.block _ hbs).trans hres
      have hB2 : Below w.heap.size w w2 := hb.trans (hw2.mono (by omega))
      have hwl := without_lt (p, n) vn ⟨hp, hn⟩
      have HSS : Hid (shrinkStep C.q u (p, n) (vn, vu) = if vu = u ∧ satQ C.q.cl (without (p, n) vn) = true then without (p, n) vn else (p, n)) := hide rfl
      generalize hea : without (p, n) (vn : Int) = cw at *
      have HEW := hide hea
      clear hea
      obtain ⟨d1, d2⟩ := cw
      dsimp only at hwl
      go_wp2_with fail
      have hA2 : Below w2.heap.size w2 (w2.alloc (.cells #[.int .i64 (d1 : Int), .int .i64 (d2 : Int)] 77)) := (Below.refl _ _).alloc (Nat.le_refl _) _
      have hle := heap_alloc_new w2 (.cells #[.int .i64 (d1 : Int), .int .i64 (d2 : Int)] 77)
      have hv3 := (hA2.block _ (blk_lt hv2)).trans hv2
      have hset3 := (hA2.block _ (blk_lt hset2)).trans hset2
      have hres3 := (hA2.block _ (blk_lt hres2)).trans hres2
      have hB3 := hB2.trans (hA2.mono hB2.size)
      generalize w2.alloc (.cells #[.int .i64 (d1 : Int), .int .i64 (d2 : Int)] 77) = w3 at *
      have e1 : w3.cell? ⟨wr.heap.size, 1, none⟩ = some (.bool vu) := by rw [blk_cell hv3]; rfl
      have e2 : w3.cell? ⟨w2.heap.size, 0, none⟩ = some (.int .i64 (d1 : Int)) := by rw [blk_cell hle]; rfl
      have e3 : w3.cell? ⟨w2.heap.size, 1, none⟩ = some (.int .i64 (d2 : Int)) := by rw [blk_cell hle]; rfl
      have l1 := blk_lt hv3
      have l2 := blk_lt hle
      have hS3 := hS.later hB3
      have hu9 : Below w3.heap.size w3 w3.drew := (Below.refl _ w3).drew
      have lb3 := blk_lt hS3.fb
      by_cases hvu : vu = u
      · subst hvu
        cases vu with
        | true =>
          go_region_with (go_at_call 79; refine (qsat_any 0 b C.q V.c d1 d2 _ (by rw [blk_cell (hS3.later hu9).fb]; rfl) (hS3.later hu9).oC hB.qb hwl.1 hwl.2).mono ?_; rintro e w4 ⟨rfl, hb4⟩; have hset4 := (hb4.block _ (blk_lt hset3)).trans hset3; have hres4 := (hb4.block _ (blk_lt hres3)).trans hres3; have hle4 := (hb4.block _ (blk_lt hle)).trans hle; have hB4 : Below w.heap.size w w4 := hB3.drew.trans (hb4.mono hB3.size))
          all_goals
            have t0 : w4.cell? ⟨w.heap.size, 0, none⟩ = some (.int .i64 (p : Int)) := by rw [blk_cell hset4]; rfl
            have t1 : w4.cell? ⟨w.heap.size, 1, none⟩ = some (.int .i64 (n : Int)) := by rw [blk_cell hset4]; rfl
            have t2 : w4.cell? ⟨w2.heap.size, 0, none⟩ = some (.int .i64 (d1 : Int)) := by rw [blk_cell hle4]; rfl
            have t3 : w4.cell? ⟨w2.heap.size, 1, none⟩ = some (.int .i64 (d2 : Int)) := by rw [blk_cell hle4]; rfl
            have y2 := blk_free hset4 0
            have y3 := blk_free hset4 1
            have m1 := blk_lt hset4
            have m2 := blk_lt hle4
            cases hsat : satQ C.q.cl (d1, d2) with
            | true =>
              have HF : Hid (shrinkK C.q true (p0, n0) = (C.q.vars.take k).reverse.foldl (shrinkStep C.q true) (d1, d2)) := hide (by rw [unhide HR, unhide HST, unhide HSS, if_pos (by simp [hsat])])
              clear hsat
              go_wp2_with fail
              go_roundg (gk - 1)
              case measure => omega
              case rel =>
                refine ⟨k, d1, d2, by go_num, by omega, by omega, by omega, hwl.1, hwl.2, unhide HF, (hB4.setCell (p := ⟨w.heap.size, 0, none⟩) (Nat.le_refl _) _).setCell (p := ⟨w.heap.size, 1, none⟩) (Nat.le_refl _) _, blk_set (blk_set hset4 0 _) 1 _, ?_⟩
                rw [Below.heap_setCell _ _ _ _ (by simp), Below.heap_setCell _ _ _ _ (by simp)]; exact hres4
            | false =>
              have HF : Hid (shrinkK C.q true (p0, n0) = (C.q.vars.take k).reverse.foldl (shrinkStep C.q true) (p, n)) := hide (by rw [unhide HR, unhide HST, unhide HSS, if_neg (by rw [hsat]; simp)])
              clear hsat
              go_wp2_with fail
              go_roundg (gk - 1)
              case measure => omega
              case rel => exact ⟨k, p, n, by go_num, by omega, by omega, by omega, hp, hn, unhide HF, hB4, hset4, hres4⟩
        | false =>
          go_region_with (go_at_call 79; refine (qsat_any 0 b C.q V.c d1 d2 _ (by rw [blk_cell (hS3.later hu9).fb]; rfl) (hS3.later hu9).oC hB.qb hwl.1 hwl.2).mono ?_; rintro e w4 ⟨rfl, hb4⟩; have hset4 := (hb4.block _ (blk_lt hset3)).trans hset3; have hres4 := (hb4.block _ (blk_lt hres3)).trans hres3; have hle4 := (hb4.block _ (blk_lt hle)).trans hle; have hB4 : Below w.heap.size w w4 := hB3.drew.trans (hb4.mono hB3.size))
          all_goals
            have t0 : w4.cell? ⟨w.heap.size, 0, none⟩ = some (.int .i64 (p : Int)) := by rw [blk_cell hset4]; rfl
            have t1 : w4.cell? ⟨w.heap.size, 1, none⟩ = some (.int .i64 (n : Int)) := by rw [blk_cell hset4]; rfl
            have t2 : w4.cell? ⟨w2.heap.size, 0, none⟩ = some (.int .i64 (d1 : Int)) := by rw [blk_cell hle4]; rfl
            have t3 : w4.cell? ⟨w2.heap.size, 1, none⟩ = some (.int .i64 (d2 : Int)) := by rw [blk_cell hle4]; rfl
            have y2 := blk_free hset4 0
            have y3 := blk_free hset4 1
            have m1 := blk_lt hset4
            have m2 := blk_lt hle4
            cases hsat : satQ C.q.cl (d1, d2) with
            | true =>
              have HF : Hid (shrinkK C.q false (p0, n0) = (C.q.vars.take k).reverse.foldl (shrinkStep C.q false) (d1, d2)) := hide (by rw [unhide HR, unhide HST, unhide HSS, if_pos (by simp [hsat])])
              clear hsat
              go_wp2_with fail
              go_roundg (gk - 1)
              case measure => omega
              case rel =>
                refine ⟨k, d1, d2, by go_num, by omega, by omega, by omega, hwl.1, hwl.2, unhide HF, (hB4.setCell (p := ⟨w.heap.size, 0, none⟩) (Nat.le_refl _) _).setCell (p := ⟨w.heap.size, 1, none⟩) (Nat.le_refl _) _, blk_set (blk_set hset4 0 _) 1 _, ?_⟩
                rw [Below.heap_setCell _ _ _ _ (by simp), Below.heap_setCell _ _ _ _ (by simp)]; exact hres4
            | false =>
              have HF : Hid (shrinkK C.q false (p0, n0) = (C.q.vars.take k).reverse.foldl (shrinkStep C.q false) (p, n)) := hide (by rw [unhide HR, unhide HST, unhide HSS, if_neg (by rw [hsat]; simp)])
              clear hsat
              go_wp2_with fail
              go_roundg (gk - 1)
              case measure => omega
              case rel => exact ⟨k, p, n, by go_num, by omega, by omega, by omega, hp, hn, unhide HF, hB4, hset4, hres4⟩
      · cases vu with
        | true =>
          have hu0 : u = false := by revert hvu; cases u <;> simp
          subst hu0
          have HF : Hid (shrinkK C.q false (p0, n0) = (C.q.vars.take k).reverse.foldl (shrinkStep C.q false) (p, n)) := hide (by rw [unhide HR, unhide HST, unhide HSS, if_neg (by simp)])
          clear hvu
          go_quiet (fail)
          have hb5 : Below w3.heap.size w3 (w3.drewN nq) := below_drewN (Below.refl _ _) nq
          have hset5 := (hb5.block _ (blk_lt hset3)).trans hset3
          have hres5 := (hb5.block _ (blk_lt hres3)).trans hres3
          have hB5 := hB3.trans (hb5.mono hB3.size)
          generalize w3.drewN nq = w5 at *
          go_wp2_with fail
          go_roundg (gk - 1)
          case measure => omega
          case rel => exact ⟨k, p, n, by go_num, by omega, by omega, by omega, hp, hn, unhide HF, hB5, hset5, hres5⟩
        | false =>
          have hu0 : u = true := by revert hvu; cases u <;> simp
          subst hu0
          have HF : Hid (shrinkK C.q true (p0, n0) = (C.q.vars.take k).reverse.foldl (shrinkStep C.q true) (p, n)) := hide (by rw [unhide HR, unhide HST, unhide HSS, if_neg (by simp)])
          clear hvu
          go_quiet (fail)
          have hb5 : Below w3.heap.size w3 (w3.drewN nq) := below_drewN (Below.refl _ _) nq
          have hset5 := (hb5.block _ (blk_lt hset3)).trans hset3
          have hres5 := (hb5.block _ (blk_lt hres3)).trans hres3
          have hB5 := hB3.trans (hb5.mono hB3.size)
          generalize w3.drewN nq = w5 at *
          go_wp2_with fail
          go_roundg (gk - 1)
          case measure => omega
          case rel => exact ⟨k, p, n, by go_num, by omega, by omega, by omega, hp, hn, unhide HF, hB5, hset5, hres5⟩
end Go.Proofs.YtgipjjhkhfihpabGreatDoor
