import Derived.Test.YtgipjjhkhfihpabGreatDoorBD
import Derived.Test.YtgipjjhkhfihpabGreatDoorAB
import Derived.Test.YtgipjjhkhfihpabGreatDoorAG
import Derived.Test.YtgipjjhkhfihpabGreatDoorAH
namespace Go.Proofs.YtgipjjhkhfihpabGreatDoor
open Go.RowKit

/-! ### readStep -/
def stepQ (q : QS) (kind : Nat) (ss : List (Nat × Nat)) (hd : List UInt8) (tl : List (List UInt8)) : Option (Nat × Nat) :=
  if hd = [97] then axiomQ q kind tl
  else if hd = [99] then cubeStepQ q kind tl
  else if hd = [114] then resQ q kind ss tl
  else if hd = [100] then reductQ q kind ss tl
  else none

/-- How a step was made. -/
def Tag (q : QS) (kind : Nat) (ss : List Stp) (s : Stp) : Prop := RedTag q kind ss s ∨ (s.rule ≠ 4 ∧ ∃ tl, axiomQ q kind tl = some s.lits ∨ cubeStepQ q kind tl = some s.lits ∨ resQ q kind (litsL ss) tl = some s.lits)
def Tags (q : QS) (kind : Nat) (ss : List Stp) : Prop := ∀ i (h : i < ss.length), Tag q kind (ss.take i) ss[i]
def TagM (q : QS) (kind : Nat) (ss : List Stp) (ws : List (List UInt8)) (s : Stp) : Prop := Tag q kind ss s ∧ stMark s = markOf ss.length ws
theorem tags_nil (q : QS) (kind : Nat) : Tags q kind [] := fun i h => by simp at h
theorem Tags.snoc {q : QS} {kind : Nat} {ss : List Stp} {s : Stp} (h : Tags q kind ss) (hs : Tag q kind ss s) : Tags q kind (ss ++ [s]) := by
  intro i hi
  by_cases e : i < ss.length
  · rw [List.take_append_of_le_length (Nat.le_of_lt e), List.getElem_append_left e]
    exact h i e
  · have e2 : i = ss.length := by simp at hi; omega
    subst e2
    rw [List.take_append_of_le_length (Nat.le_refl _), List.take_length]
    simpa using hs
theorem tag_of {G H : Stp → Prop} {res : Option (Nat × Nat)} {ok : Bool} {s : Stp} (h : (ok = true ∧ res = some s.lits ∧ G s) ∨ (ok = false ∧ res = none)) (f : res = some s.lits → G s → H s) : (ok = true ∧ res = some s.lits ∧ H s) ∨ (ok = false ∧ res = none) := by
  rcases h with ⟨h1, h2, h3⟩ | h
  · exact Or.inl ⟨h1, h2, f h2 h3⟩
  · exact Or.inr h

set_option maxRecDepth 100000 in
set_option maxHeartbeats 3200000 in
theorem readStep_any (b : Nat) (q : QS) (kind : Nat) (ss : List Stp) (vV vC vS : Value) (hd : List UInt8) (tl : List (List UInt8)) (g off cap : Nat) (w : World) (hP : PInv w b q kind ss vV vC vS) (hQ : QB q) (hS : SBs ss)
    (hs : StrsAt w (some ⟨g, off, none⟩) (hd :: tl)) (hl : tl.length ≤ 1048575) (hcap : tl.length + 1 ≤ cap) (hws : ∀ x ∈ tl, x.length ≤ 1048576) :
    Calls Tryz.prog 59 #[.pointer (some ⟨b, 0, none⟩), .slice (some ⟨g, off, none⟩) (tl.length + 1) cap] w fun e w' => StPost (TagM q kind ss (hd :: tl)) (stepQ q kind (litsL ss) hd tl) w e w' := by
  obtain ⟨g', off', cur, he, hg, hcur⟩ := hs (by simp)
  injection he with he
  injection he with e1 e2 e3
  subst e1 e2
  clear e3
  have hgw := blk_lt hg
  have hc0 : w.cell? ⟨g, off, none⟩ = some (S hd) := by rw [blk_cell hg]; exact hcur 0 (by simp)
  have hA0 : Below w.heap.size w (w.alloc (.cells #[.int .i64 0, .int .i64 0, .int .i64 0, .int .i64 0, .int .i64 0, .int .i64 0] 91)) := (Below.refl _ _).alloc (Nat.le_refl _) _
  have HST : Hid (∀ ao : Option Addr, (tl ≠ [] → ao = some ⟨g, off + 1, none⟩) → StrsAt (w.alloc (.cells #[.int .i64 0, .int .i64 0, .int .i64 0, .int .i64 0, .int .i64 0, .int .i64 0] 91)) ao tl) := hide (fun ao ho hne => ⟨g, off + 1, cur, ho hne, (hA0.block _ hgw).trans hg, fun j hj => by
    have h1 := hcur (1 + j) (by simp; omega)
    rw [← Nat.add_assoc] at h1
    rw [h1]
    simp [show 1 + j = j + 1 from by omega]⟩)
  have HWS := hide hws
  have hP0 := hP.later hA0
  have hr0 := heap_alloc_new w (.cells #[.int .i64 0, .int .i64 0, .int .i64 0, .int .i64 0, .int .i64 0, .int .i64 0] 91)
  have hne0 : (((tl.length + 1 : Nat) : Int) == 0) = false := by rw [beq_eq_false_iff_ne]; omega
  clear hcur hws hs
  by_cases ha : hd = [97]
  · subst ha
    have HR : Hid (stepQ q kind (litsL ss) [97] tl = axiomQ q kind tl) := hide rfl
    go_enter Tryz.func59, Tryz.ntmps59
    go_wp2_with fail
    all_goals
      refine (readAxiom_any b q kind ss vV vC vS tl _ _ _ hP0 hQ (unhide HST _ (fun hne => by first | rfl | (exfalso; apply hne; exact List.eq_nil_of_length_eq_zero (by omega)))) (by omega) (unhide HWS)).mono ?_
      rintro e w1 ⟨hb1, c, ok, rfl, hlt, hok⟩
      obtain ⟨sr, sf, ss2, sv, sl⟩ := c
      obtain ⟨p, n⟩ := sl
      have HOK := hide hok
      clear hok
      have hr1 := (hb1.block _ (blk_lt hr0)).trans hr0
      have hB1 : Below w.heap.size w w1 := hA0.trans (hb1.mono hA0.size)
      have r0 : w1.cell? ⟨w.heap.size, 0, none⟩ = some (.int .i64 0) := by rw [blk_cell hr1]; rfl
      have r1 : w1.cell? ⟨w.heap.size, 1, none⟩ = some (.int .i64 0) := by rw [blk_cell hr1]; rfl
      have r2 : w1.cell? ⟨w.heap.size, 2, none⟩ = some (.int .i64 0) := by rw [blk_cell hr1]; rfl
      have r3 : w1.cell? ⟨w.heap.size, 3, none⟩ = some (.int .i64 0) := by rw [blk_cell hr1]; rfl
      have r4 : w1.cell? ⟨w.heap.size, 4, none⟩ = some (.int .i64 0) := by rw [blk_cell hr1]; rfl
      have r5 : w1.cell? ⟨w.heap.size, 5, none⟩ = some (.int .i64 0) := by rw [blk_cell hr1]; rfl
      have z0 := blk_free hr1 0
      have z1 := blk_free hr1 1
      have z2 := blk_free hr1 2
      have z3 := blk_free hr1 3
      have z4 := blk_free hr1 4
      have z5 := blk_free hr1 5
      have hR := blk_set6 hr1 (.int .i64 (sr : Int)) (.int .i64 (sf : Int)) (.int .i64 (ss2 : Int)) (.int .i64 (sv : Int)) (.int .i64 (p : Int)) (.int .i64 (n : Int))
      have j0 := blk_cell hR 0
      have j1 := blk_cell hR 1
      have j2 := blk_cell hR 2
      have j3 := blk_cell hR 3
      have j4 := blk_cell hR 4
      have j5 := blk_cell hR 5
      go_wp2_with fail
      refine bodyPost_ret (v := .tuple #[StpV ⟨sr, sf, ss2, sv, (p, n)⟩, .bool ok]) (by simp [results, Tryz.results59, go_sem, j0, j1, j2, j3, j4, j5]) rfl ⟨?_, ⟨sr, sf, ss2, sv, (p, n)⟩, ok, rfl, hlt, by rw [unhide HR]; exact tag_of (unhide HOK) (fun h g => ⟨Or.inr ⟨g, tl, Or.inl h⟩, mark_other g (by decide)⟩)⟩
      exact below_set6 hB1 (Nat.le_refl _) _ _ _ _ _ _
  · have hab : (hd == [97]) = false := by simp [ha]
    by_cases hc : hd = [99]
    · subst hc
      clear ha hab
      have HR : Hid (stepQ q kind (litsL ss) [99] tl = cubeStepQ q kind tl) := hide rfl
      go_enter Tryz.func59, Tryz.ntmps59
      go_wp2_with fail
      all_goals
        refine (readCube_any b q kind ss vV vC vS tl _ _ _ hP0 hQ (unhide HST _ (fun hne => by first | rfl | (exfalso; apply hne; exact List.eq_nil_of_length_eq_zero (by omega)))) (by omega) (unhide HWS)).mono ?_
        rintro e w1 ⟨hb1, c, ok, rfl, hlt, hok⟩
        obtain ⟨sr, sf, ss2, sv, sl⟩ := c
        obtain ⟨p, n⟩ := sl
        have HOK := hide hok
        clear hok
        have hr1 := (hb1.block _ (blk_lt hr0)).trans hr0
        have hB1 : Below w.heap.size w w1 := hA0.trans (hb1.mono hA0.size)
        have r0 : w1.cell? ⟨w.heap.size, 0, none⟩ = some (.int .i64 0) := by rw [blk_cell hr1]; rfl
        have r1 : w1.cell? ⟨w.heap.size, 1, none⟩ = some (.int .i64 0) := by rw [blk_cell hr1]; rfl
        have r2 : w1.cell? ⟨w.heap.size, 2, none⟩ = some (.int .i64 0) := by rw [blk_cell hr1]; rfl
        have r3 : w1.cell? ⟨w.heap.size, 3, none⟩ = some (.int .i64 0) := by rw [blk_cell hr1]; rfl
        have r4 : w1.cell? ⟨w.heap.size, 4, none⟩ = some (.int .i64 0) := by rw [blk_cell hr1]; rfl
        have r5 : w1.cell? ⟨w.heap.size, 5, none⟩ = some (.int .i64 0) := by rw [blk_cell hr1]; rfl
        have z0 := blk_free hr1 0
        have z1 := blk_free hr1 1
        have z2 := blk_free hr1 2
        have z3 := blk_free hr1 3
        have z4 := blk_free hr1 4
        have z5 := blk_free hr1 5
        have hR := blk_set6 hr1 (.int .i64 (sr : Int)) (.int .i64 (sf : Int)) (.int .i64 (ss2 : Int)) (.int .i64 (sv : Int)) (.int .i64 (p : Int)) (.int .i64 (n : Int))
        have j0 := blk_cell hR 0
        have j1 := blk_cell hR 1
        have j2 := blk_cell hR 2
        have j3 := blk_cell hR 3
        have j4 := blk_cell hR 4
        have j5 := blk_cell hR 5
        go_wp2_with fail
        refine bodyPost_ret (v := .tuple #[StpV ⟨sr, sf, ss2, sv, (p, n)⟩, .bool ok]) (by simp [results, Tryz.results59, go_sem, j0, j1, j2, j3, j4, j5]) rfl ⟨?_, ⟨sr, sf, ss2, sv, (p, n)⟩, ok, rfl, hlt, by rw [unhide HR]; exact tag_of (unhide HOK) (fun h g => ⟨Or.inr ⟨g, tl, Or.inr (Or.inl h)⟩, mark_other g (by decide)⟩)⟩
        exact below_set6 hB1 (Nat.le_refl _) _ _ _ _ _ _
    · have hcb : (hd == [99]) = false := by simp [hc]
      by_cases hr : hd = [114]
      · subst hr
        clear ha hab hc hcb
        have HR : Hid (stepQ q kind (litsL ss) [114] tl = resQ q kind (litsL ss) tl) := hide rfl
        go_enter Tryz.func59, Tryz.ntmps59
        go_wp2_with fail
        all_goals
          refine (readResolvent_any b q kind ss vV vC vS tl _ _ _ hP0 hQ hS (unhide HST _ (fun hne => by first | rfl | (exfalso; apply hne; exact List.eq_nil_of_length_eq_zero (by omega)))) (by omega) (unhide HWS)).mono ?_
          rintro e w1 ⟨hb1, c, ok, rfl, hlt, hok⟩
          obtain ⟨sr, sf, ss2, sv, sl⟩ := c
          obtain ⟨p, n⟩ := sl
          have HOK := hide hok
          clear hok
          have hr1 := (hb1.block _ (blk_lt hr0)).trans hr0
          have hB1 : Below w.heap.size w w1 := hA0.trans (hb1.mono hA0.size)
          have r0 : w1.cell? ⟨w.heap.size, 0, none⟩ = some (.int .i64 0) := by rw [blk_cell hr1]; rfl
          have r1 : w1.cell? ⟨w.heap.size, 1, none⟩ = some (.int .i64 0) := by rw [blk_cell hr1]; rfl
          have r2 : w1.cell? ⟨w.heap.size, 2, none⟩ = some (.int .i64 0) := by rw [blk_cell hr1]; rfl
          have r3 : w1.cell? ⟨w.heap.size, 3, none⟩ = some (.int .i64 0) := by rw [blk_cell hr1]; rfl
          have r4 : w1.cell? ⟨w.heap.size, 4, none⟩ = some (.int .i64 0) := by rw [blk_cell hr1]; rfl
          have r5 : w1.cell? ⟨w.heap.size, 5, none⟩ = some (.int .i64 0) := by rw [blk_cell hr1]; rfl
          have z0 := blk_free hr1 0
          have z1 := blk_free hr1 1
          have z2 := blk_free hr1 2
          have z3 := blk_free hr1 3
          have z4 := blk_free hr1 4
          have z5 := blk_free hr1 5
          have hR := blk_set6 hr1 (.int .i64 (sr : Int)) (.int .i64 (sf : Int)) (.int .i64 (ss2 : Int)) (.int .i64 (sv : Int)) (.int .i64 (p : Int)) (.int .i64 (n : Int))
          have j0 := blk_cell hR 0
          have j1 := blk_cell hR 1
          have j2 := blk_cell hR 2
          have j3 := blk_cell hR 3
          have j4 := blk_cell hR 4
          have j5 := blk_cell hR 5
          go_wp2_with fail
          refine bodyPost_ret (v := .tuple #[StpV ⟨sr, sf, ss2, sv, (p, n)⟩, .bool ok]) (by simp [results, Tryz.results59, go_sem, j0, j1, j2, j3, j4, j5]) rfl ⟨?_, ⟨sr, sf, ss2, sv, (p, n)⟩, ok, rfl, hlt, by rw [unhide HR]; exact tag_of (unhide HOK) (fun h g => ⟨Or.inr ⟨g, tl, Or.inr (Or.inr h)⟩, mark_other g (by decide)⟩)⟩
          exact below_set6 hB1 (Nat.le_refl _) _ _ _ _ _ _
      · have hrb : (hd == [114]) = false := by simp [hr]
        by_cases hdd : hd = [100]
        · subst hdd
          clear ha hab hc hcb hr hrb
          have HR : Hid (stepQ q kind (litsL ss) [100] tl = reductQ q kind (litsL ss) tl) := hide rfl
          go_enter Tryz.func59, Tryz.ntmps59
          go_wp2_with fail
          all_goals
            refine (readReduct_any b q kind ss vV vC vS tl _ _ _ hP0 hQ hS (unhide HST _ (fun hne => by first | rfl | (exfalso; apply hne; exact List.eq_nil_of_length_eq_zero (by omega)))) (by omega) (unhide HWS)).mono ?_
            rintro e w1 ⟨hb1, c, ok, rfl, hlt, hok⟩
            obtain ⟨sr, sf, ss2, sv, sl⟩ := c
            obtain ⟨p, n⟩ := sl
            have HOK := hide hok
            clear hok
            have hr1 := (hb1.block _ (blk_lt hr0)).trans hr0
            have hB1 : Below w.heap.size w w1 := hA0.trans (hb1.mono hA0.size)
            have r0 : w1.cell? ⟨w.heap.size, 0, none⟩ = some (.int .i64 0) := by rw [blk_cell hr1]; rfl
            have r1 : w1.cell? ⟨w.heap.size, 1, none⟩ = some (.int .i64 0) := by rw [blk_cell hr1]; rfl
            have r2 : w1.cell? ⟨w.heap.size, 2, none⟩ = some (.int .i64 0) := by rw [blk_cell hr1]; rfl
            have r3 : w1.cell? ⟨w.heap.size, 3, none⟩ = some (.int .i64 0) := by rw [blk_cell hr1]; rfl
            have r4 : w1.cell? ⟨w.heap.size, 4, none⟩ = some (.int .i64 0) := by rw [blk_cell hr1]; rfl
            have r5 : w1.cell? ⟨w.heap.size, 5, none⟩ = some (.int .i64 0) := by rw [blk_cell hr1]; rfl
            have z0 := blk_free hr1 0
            have z1 := blk_free hr1 1
            have z2 := blk_free hr1 2
            have z3 := blk_free hr1 3
            have z4 := blk_free hr1 4
            have z5 := blk_free hr1 5
            have hR := blk_set6 hr1 (.int .i64 (sr : Int)) (.int .i64 (sf : Int)) (.int .i64 (ss2 : Int)) (.int .i64 (sv : Int)) (.int .i64 (p : Int)) (.int .i64 (n : Int))
            have j0 := blk_cell hR 0
            have j1 := blk_cell hR 1
            have j2 := blk_cell hR 2
            have j3 := blk_cell hR 3
            have j4 := blk_cell hR 4
            have j5 := blk_cell hR 5
            go_wp2_with fail
            refine bodyPost_ret (v := .tuple #[StpV ⟨sr, sf, ss2, sv, (p, n)⟩, .bool ok]) (by simp [results, Tryz.results59, go_sem, j0, j1, j2, j3, j4, j5]) rfl ⟨?_, ⟨sr, sf, ss2, sv, (p, n)⟩, ok, rfl, hlt, by rw [unhide HR]; exact tag_of (unhide HOK) (fun _ g => ⟨Or.inl g.1, mark_red g⟩)⟩
            exact below_set6 hB1 (Nat.le_refl _) _ _ _ _ _ _
        · have hdb : (hd == [100]) = false := by simp [hdd]
          have HR : Hid (stepQ q kind (litsL ss) hd tl = none) := hide (by unfold stepQ; rw [if_neg ha, if_neg hc, if_neg hr, if_neg hdd])
          clear ha hc hr hdd
          go_enter Tryz.func59, Tryz.ntmps59
          go_wp2_with fail
          all_goals
            refine bodyPost_ret (v := .tuple #[StpV S0, .bool false]) (by simp [results, Tryz.results59, go_sem]) rfl (StPost.none_ hA0 (unhide HR) S0 zero_lt9 rfl)

/-! ### closed, readKind -/
def closedQ (ss : List (Nat × Nat)) : Bool := match ss.getLast? with
  | none => false
  | some c => c.1 ||| c.2 == 0
theorem closed_lits (ss : List Stp) : closedQ (litsL ss) = (decide (0 < ss.length) && ((litsAt ss ss.length).1 ||| (litsAt ss ss.length).2 == 0)) := by
  unfold closedQ litsL
  by_cases h : ss = []
  · subst h; rfl
  · have hp : 0 < ss.length := List.length_pos_iff.2 h
    obtain ⟨m, hm⟩ : ∃ m, ss.length = m + 1 := ⟨ss.length - 1, by omega⟩
    have e1 : litsAt ss ss.length = (ss[m]'(by omega)).lits := by have h5 := litsAt_in ss m (by omega); rwa [← hm] at h5
    rw [List.getLast?_map, List.getLast?_eq_getElem?, show ss.length - 1 = m from by omega, List.getElem?_eq_getElem (by omega : m < ss.length), e1]
    simp [hp]
set_option maxRecDepth 100000 in
set_option maxHeartbeats 1600000 in
theorem closed_any (b : Nat) (q : QS) (kind : Nat) (ss : List Stp) (vV vC vS : Value) (w : World) (hP : PInv w b q kind ss vV vC vS) (hS : SBs ss) :
    Calls Tryz.prog 34 #[.pointer (some ⟨b, 0, none⟩)] w fun e w' => e = .returned (.bool (closedQ (litsL ss))) ∧ Below w.heap.size w w' := by
  obtain ⟨aS, cS, rfl⟩ := own_form hP.oS
  have hbw := blk_lt hP.fb
  have hsl := hS.len
  have HC := hide (closed_lits ss)
  have k3 : w.cell? ⟨b, 3, none⟩ = some (.slice aS ss.length cS) := by rw [blk_cell hP.fb]; rfl
  have hlt := litsAt_lt ss hS.bits ss.length
  go_enter Tryz.func34, Tryz.ntmps34
  go_wp2_with fail
  refine (plits_any (b + 1) b 2 ss _ ss.length _ k3 hP.oS (by omega)).mono ?_
  rintro e w1 ⟨rfl, hb1⟩
  generalize hea : litsAt ss ss.length = c at *
  clear hea
  obtain ⟨p, n⟩ := c
  dsimp only at hlt
  have hA : Below w.heap.size w (w1.alloc (.cells #[.int .i64 (p : Int), .int .i64 (n : Int)] 77)) := hb1.alloc hb1.size _
  have hv := heap_alloc_new w1 (.cells #[.int .i64 (p : Int), .int .i64 (n : Int)] 77)
  by_cases h0 : 0 < ss.length
  · have hd1 : decide (0 < ss.length) = true := by simpa using h0
    have hd2 : decide ((0 : Int) < (ss.length : Int)) = true := decide_eq_true (by omega)
    have HF : Hid (closedQ (litsL ss) = (p ||| n == 0)) := hide (by rw [unhide HC, hd1]; rfl)
    clear h0
    go_wp2_with fail
    generalize w1.alloc (.cells #[.int .i64 (p : Int), .int .i64 (n : Int)] 77) = w5 at *
    have v0 : w5.cell? ⟨w1.heap.size, 0, none⟩ = some (.int .i64 (p : Int)) := by rw [blk_cell hv]; rfl
    have v1 : w5.cell? ⟨w1.heap.size, 1, none⟩ = some (.int .i64 (n : Int)) := by rw [blk_cell hv]; rfl
    have lv := blk_lt hv
    refine (empty_any p n _ hlt.1 hlt.2).mono ?_
    rintro e w3 ⟨rfl, hb3⟩
    go_wp2_with fail
    go_ret
    exact ⟨ret_bool (unhide HF).symm, hA.trans (hb3.mono hA.size)⟩
  · have hd1 : decide (0 < ss.length) = false := by simpa using h0
    have hd2 : decide ((0 : Int) < (ss.length : Int)) = false := decide_eq_false (by omega)
    have HF : Hid (closedQ (litsL ss) = false) := hide (by rw [unhide HC, hd1]; rfl)
    clear h0
    go_wp2_with fail
    go_ret
    exact ⟨ret_bool (unhide HF).symm, hA⟩

def KindPost (b : Nat) (l : List UInt8) (w : World) (e : Ending) (w' : World) : Prop :=
  (l = sFalse ∧ e = .returned (.bool true) ∧ w' = w.setCell ⟨b, 2, none⟩ (.int .i64 1)) ∨ (l = sTrue ∧ e = .returned (.bool true) ∧ w' = w.setCell ⟨b, 2, none⟩ (.int .i64 2)) ∨ (l ≠ sTrue ∧ l ≠ sFalse ∧ e = .returned (.bool false) ∧ w' = w)
set_option maxRecDepth 100000 in
set_option maxHeartbeats 1600000 in
theorem readKind_any (b : Nat) (vV vC vS : Value) (kind : Nat) (l : List UInt8) (w : World) (hfb : w.heap[b]? = some (.cells #[vV, vC, .int .i64 kind, vS] 93 (0, 0))) :
    Calls Tryz.prog 58 #[.pointer (some ⟨b, 0, none⟩), .string ⟨l.toArray⟩] w fun e w' => KindPost b l w e w' := by
  have hbw := blk_lt hfb
  have k2 : w.cell? ⟨b, 2, none⟩ = some (.int .i64 kind) := by rw [blk_cell hfb]; rfl
  have z2 := blk_free hfb 2
  by_cases hf : l = sFalse
  · have HF := hide hf
    unfold sFalse at hf
    subst hf
    go_enter Tryz.func58, Tryz.ntmps58
    go_wp2_with fail
    go_ret
    exact Or.inl ⟨unhide HF, rfl, rfl⟩
  · by_cases ht : l = sTrue
    · have HT := hide ht
      clear hf
      unfold sTrue at ht
      subst ht
      go_enter Tryz.func58, Tryz.ntmps58
      go_wp2_with fail
      go_ret
      exact Or.inr (Or.inl ⟨unhide HT, rfl, rfl⟩)
    · have hfb1 : (l == [112, 114, 111, 111, 102, 32, 102, 97, 108, 115, 101]) = false := by rw [beq_eq_false_iff_ne]; exact hf
      have htb1 : (l == [112, 114, 111, 111, 102, 32, 116, 114, 117, 101]) = false := by rw [beq_eq_false_iff_ne]; exact ht
      have HT := hide ht
      have HF := hide hf
      clear hf ht
      go_enter Tryz.func58, Tryz.ntmps58
      go_wp2_with fail
      go_ret
      exact Or.inr (Or.inr ⟨unhide HT, unhide HF, rfl, rfl⟩)
end Go.Proofs.YtgipjjhkhfihpabGreatDoor

namespace Go.Proofs.YtgipjjhkhfihpabGreatDoor
open Go.RowKit

/-! ### How a proof is played, as functions -/
abbrev RuleP := (Nat × Nat) × (Nat × Nat)
def ruleW (kind : Nat) (p : List Stp) (s : Stp) : RuleP :=
  if kind = 1 then (swapL s.lits, swapL (minus (litsAt p s.first) s.lits)) else (s.lits, minus (litsAt p s.first) s.lits)
def rulesW (kind : Nat) (p : List Stp) : List RuleP := (p.filter (fun s => s.rule == 4)).map (ruleW kind p)
def fitsW (v : Nat) (vals : Nat × Nat) (r : RuleP) : Bool := emptyB (minus r.1 vals) && hasVarB r.2 v
def wantedW (rs : List RuleP) (vals : Nat × Nat) (v : Nat) : Bool := match rs.find? (fitsW v vals) with
  | some r => hasLit r.2 (v : Int)
  | none => false
/-- The values behind as many variables as there are answers. -/
def valsTo (vs : List Nat) : List Bool → Nat × Nat
  | [] => (0, 0)
  | b :: bs => withLit (valsTo vs bs) (litI (vs.getD bs.length 0) b)

/-! ### Positions -/
theorem valsTo_L (vs : List Nat) (hn : ∀ v ∈ vs, 1 ≤ v ∧ v ≤ 8) : ∀ (bs : List Bool), bs.length ≤ vs.length → ∀ s v, L (valsTo vs bs) s v = true ↔ ∃ j, j < bs.length ∧ vs.getD j 0 = v ∧ bs.reverse.getD j false = s := by
  intro bs
  induction bs with
  | nil => intro _ s v; rw [valsTo, L_zero]; simp
  | cons b bs ih =>
    intro hl s v
    have hl' : bs.length < vs.length := by simp at hl; omega
    have hv := hn (vs.getD bs.length 0) (by rw [List.getD, List.getElem?_eq_getElem hl']; exact List.getElem_mem hl')
    rw [valsTo, L_with _ _ _ hv.1 hv.2, Bool.or_eq_true, ih (by omega) s v]
    constructor
    · rintro (⟨j, h1, h2, h3⟩ | h)
      · refine ⟨j, by simp; omega, h2, ?_⟩
        rw [List.reverse_cons, List.getD, List.getElem?_append_left (by simpa using h1)]; exact h3
      · simp only [Bool.and_eq_true, beq_iff_eq, decide_eq_true_eq] at h
        refine ⟨bs.length, by simp, h.2.symm, ?_⟩
        rw [List.reverse_cons, List.getD, List.getElem?_append_right (by simp)]
        simp [h.1]
    · rintro ⟨j, h1, h2, h3⟩
      by_cases e : j < bs.length
      · refine Or.inl ⟨j, e, h2, ?_⟩
        rw [List.reverse_cons, List.getD, List.getElem?_append_left (by simpa using e)] at h3; exact h3
      · have e2 : j = bs.length := by simp at h1; omega
        subst e2
        rw [List.reverse_cons, List.getD, List.getElem?_append_right (by simp)] at h3
        simp at h3
        refine Or.inr ?_
        rw [h2, h3]; simp
theorem red_pos {q : QS} (hq : QGood q) (k : Nat) : ∀ (n : Nat), n ≤ q.vars.length → ∀ c s i (hi : i < q.vars.length), L c s q.vars[i].1 = true → L (redQ k (q.vars.take n).reverse c) s q.vars[i].1 = false →
    i < n ∧ pivotB k q.vars[i].2 = false ∧ ∀ t j (hj : j < q.vars.length), j < n → L (redQ k (q.vars.take n).reverse c) t q.vars[j].1 = true → j < i := by
  have hne : ∀ i j (hi : i < q.vars.length) (hj : j < q.vars.length), q.vars[i].1 = q.vars[j].1 → i = j := fun i j hi hj e => index_inj hq hi hj e
  intro n
  induction n with
  | zero =>
    intro _ c s i hi h1 h2
    rw [show redQ k (q.vars.take 0).reverse c = c from rfl, h1] at h2
    cases h2
  | succ n ih =>
    intro hn c s i hi h1 h2
    have hnl : n < q.vars.length := by omega
    obtain ⟨m1, m8⟩ := var_ok hq n hnl
    rw [redQ_step k q.vars n hnl c] at h2 ⊢
    by_cases hv : hasVarB c q.vars[n].1 = true
    · rw [if_pos hv] at h2 ⊢
      by_cases hp : pivotB k q.vars[n].2 = true
      · rw [if_pos hp, h1] at h2; cases h2
      · rw [if_neg hp] at h2 ⊢
        have hout : ∀ t, L (redQ k (q.vars.take n).reverse (without c q.vars[n].1)) t q.vars[n].1 = true → False := fun t h => by
          have h' := redQ_sub hq k n (by omega) _ _ _ h
          rw [L_without _ _ m1 m8] at h'
          simp at h'
        by_cases e : i = n
        · subst e
          refine ⟨by omega, by simpa using hp, fun t j hj hjn hl => ?_⟩
          by_cases e2 : j = i
          · subst e2; exact (hout t hl).elim
          · omega
        · have hcw : L (without c q.vars[n].1) s q.vars[i].1 = true := by
            rw [L_without _ _ m1 m8, h1]
            simp only [Bool.true_and, Bool.not_eq_true', decide_eq_false_iff_not]
            exact fun e' => e (hne i n hi hnl e')
          obtain ⟨a1, a2, a3⟩ := ih (by omega) _ s i hi hcw h2
          refine ⟨by omega, a2, fun t j hj hjn hl => ?_⟩
          by_cases e2 : j = n
          · subst e2; exact (hout t hl).elim
          · exact a3 t j hj (by omega) hl
    · rw [if_neg hv] at h2 ⊢
      obtain ⟨a1, a2, a3⟩ := ih (by omega) c s i hi h1 h2
      refine ⟨by omega, a2, fun t j hj hjn hl => ?_⟩
      by_cases e2 : j = n
      · subst e2
        have h' := redQ_sub hq k j (by omega) _ _ _ hl
        rw [hasVar_L _ _ m1 m8] at hv
        exfalso; apply hv
        cases t <;> rw [h'] <;> simp
      · exact a3 t j hj (by omega) hl

/-! ### Who keeps to the rules wins -/
def sgn (kind : Nat) (s : Bool) : Bool := if kind = 1 then !s else s
def Hits (kind : Nat) (V c : Nat × Nat) : Prop := ∀ s v, L c s v = true → L V (sgn kind s) v = true
theorem L_when (kind : Nat) (p : List Stp) (s : Stp) (t : Bool) (v : Nat) : L (ruleW kind p s).1 (sgn kind t) v = L s.lits t v := by
  unfold ruleW sgn
  split
  · rw [L_swap]; simp
  · rfl
theorem L_then (kind : Nat) (p : List Stp) (s : Stp) (t : Bool) (v : Nat) : L (ruleW kind p s).2 (sgn kind t) v = (L (litsAt p s.first) t v && !L s.lits t v) := by
  unfold ruleW sgn
  split
  · rw [L_swap]; simp [L_minus]
  · exact L_minus _ _ _ _
theorem sgn_sgn (kind : Nat) (s : Bool) : sgn kind (sgn kind s) = s := by unfold sgn; split <;> simp
theorem fits_iff (kind : Nat) (p : List Stp) (s : Stp) (v : Nat) (V : Nat × Nat) (h1 : 1 ≤ v) (h8 : v ≤ 8) : fitsW v V (ruleW kind p s) = true ↔ Hits kind V s.lits ∧ ∃ t, L (litsAt p s.first) t v = true ∧ L s.lits t v = false := by
  unfold fitsW
  rw [Bool.and_eq_true, empty_iff, hasVar_L _ _ h1 h8, Bool.or_eq_true]
  constructor
  · rintro ⟨h2, h3⟩
    refine ⟨fun t u ht => ?_, ?_⟩
    · have h := h2 (sgn kind t) u
      rw [L_minus, L_when, ht] at h
      simpa using h
    · rcases h3 with h3 | h3
      · have h := L_then kind p s (sgn kind true) v
        rw [sgn_sgn, h3] at h
        refine ⟨sgn kind true, ?_⟩
        simpa using h.symm
      · have h := L_then kind p s (sgn kind false) v
        rw [sgn_sgn, h3] at h
        refine ⟨sgn kind false, ?_⟩
        simpa using h.symm
  · rintro ⟨h2, t, h3, h4⟩
    refine ⟨fun a u => ?_, ?_⟩
    · have h := L_when kind p s (sgn kind a) u
      rw [sgn_sgn] at h
      rw [L_minus]
      cases ha : L (ruleW kind p s).1 a u with
      | false => rfl
      | true =>
        rw [ha] at h
        have h5 := h2 _ _ h.symm
        rw [sgn_sgn] at h5
        rw [h5]; rfl
    · have h := L_then kind p s t v
      rw [h3, h4] at h
      generalize sgn kind t = a at h
      cases a
      · exact Or.inr h
      · exact Or.inl h
theorem find_rules (kind : Nat) (p : List Stp) (v : Nat) (V : Nat × Nat) (P : List Stp) : ((P.filter (fun s => s.rule == 4)).map (ruleW kind p)).find? (fitsW v V) = (P.find? (fun s => s.rule == 4 && fitsW v V (ruleW kind p s))).map (ruleW kind p) := by
  induction P with
  | nil => rfl
  | cons s P ih =>
    rw [List.filter_cons, List.find?_cons]
    cases h : (s.rule == 4) with
    | true =>
      rw [if_pos rfl, List.map_cons, List.find?_cons, Bool.true_and]
      cases fitsW v V (ruleW kind p s) with
      | true => rfl
      | false => exact ih
    | false =>
      rw [if_neg (by simp), Bool.false_and]
      exact ih
structure Steps2 (q : QS) (kind : Nat) (ss : List Stp) : Prop where
  tags : Tags q kind ss
  lok : ∀ s ∈ ss, LOk q s.lits
  free : ∀ s ∈ ss, Free s.lits
/-- A side that answers by the rules: what it says of each of its variables. -/
def Keeps (q : QS) (kind : Nat) (rs : List RuleP) : List Bool → Prop
  | [] => True
  | b :: bs => Keeps q kind rs bs ∧ (pivotB kind (q.vars.getD bs.length (0, false)).2 = false → b = wantedW rs (valsTo (q.vars.map (·.1)) bs) (q.vars.getD bs.length (0, false)).1)
theorem keeps_at {q : QS} {kind : Nat} {rs : List RuleP} : ∀ {bs : List Bool}, Keeps q kind rs bs → ∀ i, i < bs.length → pivotB kind (q.vars.getD i (0, false)).2 = false → bs.reverse.getD i false = wantedW rs (valsTo (q.vars.map (·.1)) (bs.drop (bs.length - i))) (q.vars.getD i (0, false)).1 := by
  intro bs
  induction bs with
  | nil => intro _ i hi; simp at hi
  | cons b bs ih =>
    intro h i hi hp
    by_cases e : i < bs.length
    · have := ih h.1 i e hp
      rw [List.reverse_cons, List.getD, List.getElem?_append_left (by simpa using e)]
      rw [show (b :: bs).length - i = (bs.length - i) + 1 from by simp; omega, List.drop_succ_cons]
      exact this
    · have e2 : i = bs.length := by simp at hi; omega
      subst e2
      rw [List.reverse_cons, List.getD, List.getElem?_append_right (by simp)]
      simpa using h.2 hp
theorem litsAt_take (ss : List Stp) (i n : Nat) (h1 : 1 ≤ n) (h2 : n ≤ (ss.take i).length) : ∃ j, ∃ hj : j < ss.length, j < i ∧ litsAt (ss.take i) n = ss[j].lits ∧ litsAt ss n = ss[j].lits := by
  have hl : n - 1 < ss.length ∧ n - 1 < i := by simp at h2; omega
  refine ⟨n - 1, hl.1, hl.2, ?_, ?_⟩
  · have h := litsAt_in (ss.take i) (n - 1) (by omega)
    rw [show n - 1 + 1 = n from by omega] at h
    rw [h, List.getElem_take]
  · have h := litsAt_in ss (n - 1) hl.1
    rwa [show n - 1 + 1 = n from by omega] at h
def WonBy (q : QS) (kind : Nat) (V : Nat × Nat) : Prop := (kind = 1 ∧ ∃ c ∈ q.cl, Free c ∧ Hits 1 V c) ∨ (kind = 2 ∧ ∃ c, satQ q.cl c = true ∧ Hits 2 V c)
theorem ahead_some {ss : List Stp} {w : List UInt8} {a : Nat × Nat} (h : aheadQ (litsL ss) w = some a) : ∃ n, 1 ≤ n ∧ n ≤ ss.length ∧ a = litsAt ss n := by
  rw [ahead_lits] at h
  cases hn : numOf w ss.length with
  | none => rw [hn] at h; cases h
  | some n => rw [hn] at h; simp at h; exact ⟨n, (numOf_range hn).1, (numOf_range hn).2, h.symm⟩
theorem pivQ_range {q : QS} {kind : Nat} {z : List UInt8} {v : Nat} (h : pivQ q kind z = some v) : 1 ≤ v ∧ v ≤ 8 := by
  unfold pivQ at h
  have hd := dig_bd z
  split at h
  · cases hf : findV q.vars (dig z).toNat with
    | none => rw [hf] at h; cases h
    | some x =>
      rw [hf] at h
      simp only [Option.bind_some] at h
      split at h
      · injection h with h; subst h; omega
      · cases h
  · cases h
theorem won_step {q : QS} (hq : QGood q) {kind : Nat} (hk : kind = 1 ∨ kind = 2) {ss : List Stp} (hs : Steps2 q kind ss) {bs : List Bool} (hl : bs.length = q.vars.length) (hkeep : Keeps q kind (rulesW kind ss) bs) :
    ∀ i (hi : i < ss.length), Hits kind (valsTo (q.vars.map (·.1)) bs) ss[i].lits → WonBy q kind (valsTo (q.vars.map (·.1)) bs) := by
  have hnm : ∀ v ∈ q.vars.map (·.1), 1 ≤ v ∧ v ≤ 8 := fun v hv => hq.name hv
  have hVL := valsTo_L (q.vars.map (·.1)) hnm bs (by simp [hl])
  have hgd : ∀ j (hj : j < q.vars.length), (q.vars.map (·.1)).getD j 0 = q.vars[j].1 := fun j hj => by simp [List.getD, hj]
  have hgd2 : ∀ j (hj : j < q.vars.length), q.vars.getD j (0, false) = q.vars[j] := fun j hj => by simp [List.getD, hj]
  intro i
  induction i using Nat.strongRecOn with
  | ind i ih =>
    intro hi hh
    by_cases hnw : WonBy q kind (valsTo (q.vars.map (·.1)) bs)
    · exact hnw
    have hmem : ss[i] ∈ ss := List.getElem_mem hi
    rcases hs.tags i hi with ⟨h4, ⟨f1, f2⟩, hred⟩ | ⟨hnr, tl, hax | hcu | hre⟩
    · obtain ⟨j, hj, hji, hw1, hw2⟩ := litsAt_take ss i _ f1 f2
      refine ih j hji hj (fun s v hv => ?_)
      by_cases hin : L ss[i].lits s v = true
      · exact hh s v hin
      · have hin' : L ss[i].lits s v = false := by simpa using hin
        obtain ⟨x, hx, hxv⟩ := List.mem_map.1 ((hs.lok _ (List.getElem_mem hj)).vars s v hv)
        obtain ⟨k, hkl, hkx⟩ := List.mem_iff_getElem.1 hx
        have hvk : q.vars[k].1 = v := by rw [hkx]; exact hxv
        obtain ⟨v1, v8⟩ := var_ok hq k hkl
        rw [hvk] at v1 v8
        rw [hw1] at hred
        have hpos := red_pos hq kind q.vars.length (Nat.le_refl _) ss[j].lits s k hkl (by rw [hvk]; exact hv) (by rw [List.take_length, ← hred, hvk]; exact hin')
        rw [List.take_length, ← hred] at hpos
        obtain ⟨_, hpv, hbef⟩ := hpos
        have hans := keeps_at hkeep k (by omega) (by rw [hgd2 k hkl]; exact hpv)
        rw [hgd2 k hkl, hvk] at hans
        have hVk := valsTo_L (q.vars.map (·.1)) hnm (bs.drop (bs.length - k)) (by simp; omega)
        have hsub : ∀ t u, L (valsTo (q.vars.map (·.1)) (bs.drop (bs.length - k))) t u = true → L (valsTo (q.vars.map (·.1)) bs) t u = true := fun t u ht => by
          obtain ⟨m, m1, m2, m3⟩ := (hVk t u).1 ht
          refine (hVL t u).2 ⟨m, ?_, m2, ?_⟩
          · simp at m1; omega
          · rw [← m3, List.reverse_drop, List.getD, List.getD, List.getElem?_take_of_lt (by simp at m1; omega)]
        -- the rule fits when the variable's turn comes
        have hfit : Hits kind (valsTo (q.vars.map (·.1)) (bs.drop (bs.length - k))) ss[i].lits := fun t u ht => by
          obtain ⟨m, m1, m2, m3⟩ := (hVL _ _).1 (hh t u ht)
          have hml : m < q.vars.length := by omega
          rw [hgd m hml] at m2
          have hmk := hbef t m hml hml (by rw [m2]; exact ht)
          refine (hVk _ _).2 ⟨m, by simp; omega, by rw [hgd m hml]; exact m2, ?_⟩
          rw [← m3, List.reverse_drop, List.getD, List.getD, List.getElem?_take_of_lt (by omega)]
        by_cases hearly : ∃ e, ∃ he : e < ss.length, e < i ∧ (ss[e].rule == 4 && fitsW v (valsTo (q.vars.map (·.1)) (bs.drop (bs.length - k))) (ruleW kind ss ss[e])) = true
        · obtain ⟨e, he, hei, hf⟩ := hearly
          rw [Bool.and_eq_true] at hf
          have hhe := ((fits_iff kind ss ss[e] v _ v1 v8).1 hf.2).1
          exact (hnw (ih e hei he (fun s v h => hsub _ _ (hhe s v h)))).elim
        · have hfi : (ss[i].rule == 4 && fitsW v (valsTo (q.vars.map (·.1)) (bs.drop (bs.length - k))) (ruleW kind ss ss[i])) = true := by
            rw [Bool.and_eq_true]
            exact ⟨by simpa using h4, (fits_iff kind ss ss[i] v _ v1 v8).2 ⟨hfit, s, by rw [hw2]; exact hv, hin'⟩⟩
          have hfind : ss.find? (fun s => s.rule == 4 && fitsW v (valsTo (q.vars.map (·.1)) (bs.drop (bs.length - k))) (ruleW kind ss s)) = some ss[i] := by
            rw [List.find?_eq_some_iff_getElem]
            refine ⟨hfi, i, hi, rfl, fun e he => ?_⟩
            cases hcc : (ss[e].rule == 4 && fitsW v (valsTo (q.vars.map (·.1)) (bs.drop (bs.length - k))) (ruleW kind ss ss[e])) with
            | true => exact (hearly ⟨e, by omega, he, hcc⟩).elim
            | false => rfl
          have hwant : wantedW (rulesW kind ss) (valsTo (q.vars.map (·.1)) (bs.drop (bs.length - k))) v = hasLit (ruleW kind ss ss[i]).2 (v : Int) := by
            unfold wantedW rulesW
            rw [find_rules, hfind]; rfl
          rw [hwant, show ((v : Nat) : Int) = litI v true from rfl, hasLit_L _ _ _ v1 v8] at hans
          have hth := L_then kind ss ss[i] s v
          rw [hw2, hv, hin'] at hth
          have hfr : ∀ t, L (ruleW kind ss ss[i]).2 t v = true → L (ruleW kind ss ss[i]).2 (!t) v = false := fun t ht => by
            have e1 := L_then kind ss ss[i] (sgn kind t) v
            have e2 := L_then kind ss ss[i] (!sgn kind t) v
            have e3 : sgn kind (!sgn kind t) = !t := by unfold sgn; split <;> simp
            rw [sgn_sgn, ht, hw2] at e1
            rw [e3, hw2] at e2
            rw [e2, (hs.free _ (List.getElem_mem hj)).not (s := sgn kind t) (by
              have := e1.symm; rw [Bool.and_eq_true] at this; exact this.1)]
            rfl
          refine (hVL _ _).2 ⟨k, by omega, by rw [hgd k hkl]; exact hvk, ?_⟩
          rw [hans]
          cases hsg : sgn kind s with
          | true => rw [hsg] at hth; exact hth
          | false => rw [hsg] at hth; exact hfr false hth
    · unfold axiomQ at hax
      split at hax
      · next hk1 =>
        split at hax
        · next x =>
          cases hn : numOf x q.cl.length with
          | none => rw [hn] at hax; cases hax
          | some n =>
            rw [hn] at hax
            simp only [Option.bind_some] at hax
            cases hc : q.cl[n - 1]? with
            | none => rw [hc] at hax; cases hax
            | some c =>
              rw [hc] at hax
              simp only [Option.bind_some] at hax
              split at hax
              · cases hax
              · injection hax with hax
                subst hk1
                exact (hnw (Or.inl ⟨rfl, c, List.mem_of_getElem? hc, by rw [hax]; exact hs.free _ hmem, by rw [hax]; exact hh⟩)).elim
        · cases hax
      · cases hax
    · unfold cubeStepQ at hcu
      split at hcu
      · next hk2 =>
        cases hc : cubeQ q.vars (0, 0) 0 tl with
        | none => rw [hc] at hcu; cases hcu
        | some c =>
          rw [hc] at hcu
          simp only [Option.bind_some] at hcu
          split at hcu
          · next hsat =>
            injection hcu with hcu
            subst hk2
            exact (hnw (Or.inr ⟨rfl, c, hsat, by rw [hcu]; exact hh⟩)).elim
          · cases hcu
      · cases hcu
    · unfold resQ at hre
      split at hre
      · next x y z =>
        cases ha : aheadQ (litsL (ss.take i)) x with
        | none => rw [ha] at hre; cases hre
        | some a =>
          cases hb : aheadQ (litsL (ss.take i)) y with
          | none => rw [ha, hb] at hre; cases hre
          | some b =>
            cases hp : pivQ q kind z with
            | none => rw [ha, hb, hp] at hre; cases hre
            | some v =>
              rw [ha, hb, hp] at hre
              simp only [Option.bind_some] at hre
              unfold resQ2 at hre
              split at hre
              · next hab =>
                split at hre
                · cases hre
                · injection hre with hre
                  obtain ⟨n, n1, n2, rfl⟩ := ahead_some ha
                  obtain ⟨m, m1, m2, rfl⟩ := ahead_some hb
                  obtain ⟨ja, hja, hjai, ea, _⟩ := litsAt_take ss i n n1 n2
                  obtain ⟨jb, hjb, hjbi, eb, _⟩ := litsAt_take ss i m m1 m2
                  rw [ea, eb] at hre hab
                  obtain ⟨v1, v8⟩ := pivQ_range hp
                  rw [show ((v : Nat) : Int) = litI v true from rfl, hasLit_L _ _ _ v1 v8, litI_neg, hasLit_L _ _ _ v1 v8] at hab
                  obtain ⟨h1, h2⟩ := hab
                  have hrest : ∀ t u, u ≠ v → (L ss[ja].lits t u = true ∨ L ss[jb].lits t u = true) → L (valsTo (q.vars.map (·.1)) bs) (sgn kind t) u = true := fun t u hu ho => hh t u (by
                    rw [← hre, L_without2 _ _ _ v1 v8]
                    rcases ho with ho | ho <;> simp [ho, hu])
                  obtain ⟨x', hx', hxv⟩ := List.mem_map.1 ((hs.lok _ (List.getElem_mem hja)).vars true v h1)
                  obtain ⟨k, hkl, hkx⟩ := List.mem_iff_getElem.1 hx'
                  have hvk : q.vars[k].1 = v := by rw [hkx]; exact hxv
                  have hval := (hVL (bs.reverse.getD k false) v).2 ⟨k, by omega, by rw [hgd k hkl]; exact hvk, rfl⟩
                  by_cases hsg : bs.reverse.getD k false = sgn kind true
                  · refine (hnw (ih ja hjai hja (fun t u ht => ?_))).elim
                    by_cases hu : u = v
                    · subst hu
                      cases t with
                      | true => rw [← hsg]; exact hval
                      | false => exact (hs.free _ (List.getElem_mem hja) u h1 ht).elim
                    · exact hrest t u hu (Or.inl ht)
                  · refine (hnw (ih jb hjbi hjb (fun t u ht => ?_))).elim
                    by_cases hu : u = v
                    · subst hu
                      cases t with
                      | false =>
                        have : sgn kind false = bs.reverse.getD k false := by
                          have e3 : sgn kind false = !sgn kind true := by unfold sgn; split <;> rfl
                          rw [e3]
                          revert hsg
                          cases bs.reverse.getD k false <;> cases sgn kind true <;> simp
                        rw [this]; exact hval
                      | true => exact (hs.free _ (List.getElem_mem hjb) u ht h2).elim
                    · exact hrest t u hu (Or.inr ht)
              · cases hre
      · cases hre
end Go.Proofs.YtgipjjhkhfihpabGreatDoor

namespace Go.Proofs.YtgipjjhkhfihpabGreatDoor
open Go.RowKit

/-! ### A game, block by block -/
structure GS where
  turn : Nat
  vals : Nat × Nat
abbrev BL := List (List Nat × Bool)
def setW (vals : Nat × Nat) (v : Nat) (b : Bool) : Nat × Nat := withLit vals (litI v b)
def ansBlock (rs : List RuleP) (vs : List Nat) (vals : Nat × Nat) : Nat × Nat := vs.foldl (fun vals v => setW vals v (wantedW rs vals v)) vals
def ansGo (rs : List RuleP) (bl : BL) : Nat → GS → GS
  | 0, g => g
  | m + 1, g => if (bl.getD g.turn ([], false)).2 = true then ansGo rs bl m ⟨g.turn + 1, ansBlock rs (bl.getD g.turn ([], false)).1 g.vals⟩ else g
def ansW (rs : List RuleP) (bl : BL) (g : GS) : GS := ansGo rs bl (bl.length - g.turn) g
def moveBlk : List Nat → Nat → Nat → Nat × Nat → Nat × Nat
  | [], _, _, vals => vals
  | v :: vs, bits, i, vals => moveBlk vs bits (i + 1) (setW vals v (bits.testBit i))
def moveW (rs : List RuleP) (bl : BL) (g : GS) (bits : Nat) : GS := ansW rs bl ⟨g.turn + 1, moveBlk (bl.getD g.turn ([], false)).1 bits 0 g.vals⟩
def uniQ (q : QS) (v : Nat) : Bool := match findV q.vars v with
  | some x => x.2
  | none => false
def winsW (q : QS) (kind : Nat) (vs : List Nat) : Bool := match vs with
  | [] => false
  | v :: _ => uniQ q v == (kind == 1)
def blW (q : QS) (kind : Nat) : BL := (progBlocks q.vars).map (fun b => (b, winsW q kind b))
def openW (q : QS) (kind : Nat) (ss : List Stp) : GS := ansW (rulesW kind ss) (blW q kind) ⟨0, (0, 0)⟩

/-! ### Blocks and places -/
def offs (bs : List (List Nat)) (t : Nat) : Nat := (bs.take t).flatten.length
theorem offs_succ (bs : List (List Nat)) (t : Nat) (h : t < bs.length) : offs bs (t + 1) = offs bs t + bs[t].length := by
  unfold offs; rw [List.take_succ_eq_append_getElem h, List.flatten_append]; simp
theorem flat_at (bs : List (List Nat)) (t i : Nat) (h : t < bs.length) (hi : i < bs[t].length) : bs.flatten.getD (offs bs t + i) 0 = bs[t][i] := by
  unfold offs
  have e : bs.flatten = (bs.take t).flatten ++ (bs[t] ++ (bs.drop (t + 1)).flatten) := by
    conv => lhs; rw [← List.take_append_drop t bs, List.drop_eq_getElem_cons h]
    rw [List.flatten_append, List.flatten_cons]
  rw [e, List.getD, List.getElem?_append_right (by omega), show (bs.take t).flatten.length + i - (bs.take t).flatten.length = i from by omega, List.getElem?_append_left hi, List.getElem?_eq_getElem hi]
  rfl
theorem offs_all (bs : List (List Nat)) : offs bs bs.length = bs.flatten.length := by unfold offs; rw [List.take_length]
theorem offs_le (bs : List (List Nat)) (t : Nat) : offs bs t ≤ bs.flatten.length := by
  unfold offs
  conv => rhs; rw [← List.take_append_drop t bs, List.flatten_append]
  simp
theorem gather_flat (vs : List (Nat × Bool)) : ∀ k, k ≤ vs.length → (gather vs k).1.flatten ++ (gather vs k).2 = (vs.map (·.1)).take k := by
  intro k
  induction k with
  | zero => intro _; simp [gather]
  | succ k ih =>
    intro hk
    have h := ih (by omega)
    have hv : (vs.map (·.1)).take (k + 1) = (vs.map (·.1)).take k ++ [(vs.getD k (0, false)).1] := by
      rw [List.take_succ_eq_append_getElem (by simp; omega)]
      simp [List.getD, show k < vs.length by omega]
    rw [gather, hv, ← h]
    split
    · simp [List.flatten_append]
    · simp [List.append_assoc]
theorem progBlocks_flat (vs : List (Nat × Bool)) : (progBlocks vs).flatten = vs.map (·.1) := by
  have h := gather_flat vs vs.length (Nat.le_refl _)
  rw [show (vs.map (·.1)).take vs.length = vs.map (·.1) from List.take_of_length_le (by simp)] at h
  unfold progBlocks
  split
  · rw [List.flatten_append, ← h]; simp
  · next h0 =>
    have : (gather vs vs.length).2 = [] := List.eq_nil_of_length_eq_zero (by omega)
    rw [← h, this, List.append_nil]
/-- Blocks are not empty, and of one kind. -/
def OneKind (vs : List (Nat × Bool)) (b : List Nat) (u : Bool) : Prop := ∀ v ∈ b, ∃ x ∈ vs, x.1 = v ∧ x.2 = u
theorem gather_kind (vs : List (Nat × Bool)) : ∀ k, k ≤ vs.length → (∀ b ∈ (gather vs k).1, b ≠ [] ∧ ∃ u, OneKind vs b u) ∧ (0 < k → (gather vs k).2 ≠ [] ∧ OneKind vs (gather vs k).2 (kindAt vs (k - 1))) := by
  intro k
  induction k with
  | zero => intro _; exact ⟨fun b hb => by simp [gather] at hb, fun h => by omega⟩
  | succ k ih =>
    intro hk
    obtain ⟨h1, h2⟩ := ih (by omega)
    have hx : vs.getD k (0, false) ∈ vs := by rw [List.getD, List.getElem?_eq_getElem (by omega : k < vs.length)]; exact List.getElem_mem _
    rw [gather]
    split
    · next hn =>
      have hk0 : 0 < k := by unfold newAt at hn; simp at hn; exact hn.1
      refine ⟨fun b hb => ?_, fun _ => ⟨by simp, fun v hv => ?_⟩⟩
      · rcases List.mem_append.1 hb with hb | hb
        · exact h1 b hb
        · simp at hb; subst hb; exact ⟨(h2 hk0).1, _, (h2 hk0).2⟩
      · simp at hv; subst hv
        exact ⟨_, hx, rfl, by simp [kindAt]⟩
    · next hn =>
      refine ⟨h1, fun _ => ⟨by simp, fun v hv => ?_⟩⟩
      rcases List.mem_append.1 hv with hv | hv
      · by_cases hk0 : 0 < k
        · have he : kindAt vs k = kindAt vs (k - 1) := by
            unfold newAt at hn
            simp only [Bool.and_eq_true, decide_eq_true_eq, bne_iff_ne, ne_eq, not_and, Decidable.not_not] at hn
            exact hn hk0
          obtain ⟨x, x1, x2, x3⟩ := (h2 hk0).2 v hv
          exact ⟨x, x1, x2, by rw [Nat.add_sub_cancel, he]; exact x3⟩
        · have : k = 0 := by omega
          subst this
          simp [gather] at hv
      · simp at hv; subst hv
        exact ⟨_, hx, rfl, by simp [kindAt]⟩
theorem progBlocks_kind (vs : List (Nat × Bool)) : ∀ b ∈ progBlocks vs, b ≠ [] ∧ ∃ u, OneKind vs b u := by
  obtain ⟨h1, h2⟩ := gather_kind vs vs.length (Nat.le_refl _)
  intro b hb
  unfold progBlocks at hb
  split at hb
  · next h0 =>
    rcases List.mem_append.1 hb with hb | hb
    · exact h1 b hb
    · simp at hb; subst hb
      have hl : 0 < vs.length := by
        by_cases e : 0 < vs.length
        · exact e
        · have : vs.length = 0 := by omega
          rw [this] at h0; simp [gather] at h0
      exact ⟨(h2 hl).1, _, (h2 hl).2⟩
  · exact h1 b hb
theorem find_uni {q : QS} (hq : QGood q) {x : Nat × Bool} (hx : x ∈ q.vars) : uniQ q x.1 = x.2 := by
  unfold uniQ
  have h := hq.nodup
  revert h hx
  unfold findV
  induction q.vars with
  | nil => intro hx; simp at hx
  | cons y ys ih =>
    intro hx hn
    rw [List.map_cons, List.nodup_cons] at hn
    rw [List.find?_cons]
    by_cases e : y.1 = x.1
    · have : y = x := by
        rcases List.mem_cons.1 hx with e2 | hx
        · exact e2.symm
        · exact absurd (by rw [e]; exact List.mem_map_of_mem hx) hn.1
      subst this
      simp
    · have hx' : x ∈ ys := by
        rcases List.mem_cons.1 hx with e2 | hx
        · exact absurd (by rw [e2]) e
        · exact hx
      have e3 : (y.1 == x.1) = false := by simpa using e
      rw [e3]
      exact ih hx' hn.2
/-- Of a block's variables each is of the side that its flag says. -/
theorem wins_all {q : QS} (hq : QGood q) {kind : Nat} (hk : kind = 1 ∨ kind = 2) {b : List Nat} (hb : b ∈ progBlocks q.vars) {x : Nat × Bool} (hx : x ∈ q.vars) (hxb : x.1 ∈ b) : pivotB kind x.2 = !winsW q kind b := by
  obtain ⟨h0, u, hu⟩ := progBlocks_kind q.vars b hb
  have hsame : ∀ y ∈ q.vars, y.1 ∈ b → y.2 = u := fun y hy hyb => by
    obtain ⟨z, z1, z2, z3⟩ := hu _ hyb
    rw [← z3, ← find_uni hq hy, ← find_uni hq z1, z2]
  match b, h0 with
  | v :: r, _ =>
    obtain ⟨z, z1, z2, z3⟩ := hu v (by simp)
    show pivotB kind x.2 = !(uniQ q v == (kind == 1))
    rw [← z2, find_uni hq z1, z3, hsame x hx hxb]
    unfold pivotB
    rcases hk with rfl | rfl <;> cases u <;> rfl

/-! ### What a game's values are -/
/-- The game has come behind the blocks ahead of its turn, by these answers (the last one first). -/
structure Run (q : QS) (kind : Nat) (rs : List RuleP) (g : GS) (bs : List Bool) : Prop where
  turn : g.turn ≤ (progBlocks q.vars).length
  len : bs.length = offs (progBlocks q.vars) g.turn
  vals : g.vals = valsTo (q.vars.map (·.1)) bs
  keeps : Keeps q kind rs bs
theorem names_at {q : QS} (t i : Nat) (h : t < (progBlocks q.vars).length) (hi : i < (progBlocks q.vars)[t].length) : (q.vars.map (·.1)).getD (offs (progBlocks q.vars) t + i) 0 = (progBlocks q.vars)[t][i] := by
  rw [← progBlocks_flat]; exact flat_at _ t i h hi
theorem offs_lt {q : QS} (t i : Nat) (h : t < (progBlocks q.vars).length) (hi : i < (progBlocks q.vars)[t].length) : offs (progBlocks q.vars) t + i < q.vars.length := by
  have h1 := offs_succ (progBlocks q.vars) t h
  have h2 := offs_le (progBlocks q.vars) (t + 1)
  rw [progBlocks_flat, List.length_map] at h2
  omega
theorem var_at {q : QS} (k : Nat) (hk : k < q.vars.length) : q.vars.getD k (0, false) = q.vars[k] := by simp [List.getD, hk]
theorem name_at {q : QS} (k : Nat) (hk : k < q.vars.length) : (q.vars.map (·.1)).getD k 0 = q.vars[k].1 := by simp [List.getD, hk]
/-- Part of a block. -/
structure Part (q : QS) (kind : Nat) (rs : List RuleP) (t i : Nat) (vals : Nat × Nat) (bs : List Bool) : Prop where
  len : bs.length = offs (progBlocks q.vars) t + i
  vals : vals = valsTo (q.vars.map (·.1)) bs
  keeps : Keeps q kind rs bs
theorem Part.next {q : QS} (hq : QGood q) {kind : Nat} (hk : kind = 1 ∨ kind = 2) {rs : List RuleP} {t i : Nat} {vals : Nat × Nat} {bs : List Bool} (h : Part q kind rs t i vals bs) (ht : t < (progBlocks q.vars).length) (hi : i < (progBlocks q.vars)[t].length)
    (b : Bool) (hb : winsW q kind (progBlocks q.vars)[t] = true → b = wantedW rs vals (progBlocks q.vars)[t][i]) : Part q kind rs t (i + 1) (setW vals (progBlocks q.vars)[t][i] b) (b :: bs) := by
  have hlt := offs_lt t i ht hi
  have hn := names_at t i ht hi
  refine ⟨by simp [h.len]; omega, ?_, h.keeps, ?_⟩
  · show withLit vals (litI (progBlocks q.vars)[t][i] b) = withLit _ (litI ((q.vars.map (·.1)).getD bs.length 0) b)
    rw [h.len, hn, h.vals]
  · intro hp
    rw [h.len, var_at _ hlt] at hp ⊢
    have hx : (q.vars[offs (progBlocks q.vars) t + i]'hlt).1 = (progBlocks q.vars)[t][i] := by rw [← name_at _ hlt]; exact hn
    rw [hx, ← h.vals]
    refine hb ?_
    have hw := wins_all hq hk (List.getElem_mem ht) (List.getElem_mem hlt) (by rw [hx]; exact List.getElem_mem hi)
    rw [hp] at hw
    simpa using hw.symm
theorem Part.done {q : QS} {kind : Nat} {rs : List RuleP} {t : Nat} {vals : Nat × Nat} {bs : List Bool} (ht : t < (progBlocks q.vars).length) (h : Part q kind rs t (progBlocks q.vars)[t].length vals bs) : Run q kind rs ⟨t + 1, vals⟩ bs :=
  ⟨ht, by rw [offs_succ _ _ ht]; exact h.len, h.vals, h.keeps⟩
theorem Run.part {q : QS} {kind : Nat} {rs : List RuleP} {g : GS} {bs : List Bool} (h : Run q kind rs g bs) : Part q kind rs g.turn 0 g.vals bs := ⟨h.len, h.vals, h.keeps⟩
theorem ans_part {q : QS} (hq : QGood q) {kind : Nat} (hk : kind = 1 ∨ kind = 2) {rs : List RuleP} {t : Nat} (ht : t < (progBlocks q.vars).length) : ∀ (m i : Nat) (vals : Nat × Nat) (bs : List Bool), i + m = (progBlocks q.vars)[t].length → Part q kind rs t i vals bs →
    ∃ b2, Part q kind rs t (progBlocks q.vars)[t].length (ansBlock rs ((progBlocks q.vars)[t].drop i) vals) (b2 ++ bs) := by
  intro m
  induction m with
  | zero =>
    intro i vals bs h hp
    have : i = (progBlocks q.vars)[t].length := by omega
    subst this
    rw [List.drop_length]
    exact ⟨[], hp⟩
  | succ m ih =>
    intro i vals bs h hp
    have hi : i < (progBlocks q.vars)[t].length := by omega
    rw [List.drop_eq_getElem_cons hi]
    obtain ⟨b2, h2⟩ := ih (i + 1) _ _ (by omega) (hp.next hq hk ht hi (wantedW rs vals (progBlocks q.vars)[t][i]) (fun _ => rfl))
    exact ⟨b2 ++ [_], by rw [List.append_assoc]; exact h2⟩
theorem move_part {q : QS} (hq : QGood q) {kind : Nat} (hk : kind = 1 ∨ kind = 2) {rs : List RuleP} {t : Nat} (ht : t < (progBlocks q.vars).length) (hw : winsW q kind (progBlocks q.vars)[t] = false) (bits : Nat) : ∀ (m i : Nat) (vals : Nat × Nat) (bs : List Bool), i + m = (progBlocks q.vars)[t].length → Part q kind rs t i vals bs →
    ∃ b2, Part q kind rs t (progBlocks q.vars)[t].length (moveBlk ((progBlocks q.vars)[t].drop i) bits i vals) (b2 ++ bs) ∧ b2.length = m ∧ ∀ j, j < m → b2.reverse.getD j false = bits.testBit (i + j) := by
  intro m
  induction m with
  | zero =>
    intro i vals bs h hp
    have : i = (progBlocks q.vars)[t].length := by omega
    subst this
    rw [List.drop_length]
    exact ⟨[], hp, rfl, fun j hj => by omega⟩
  | succ m ih =>
    intro i vals bs h hp
    have hi : i < (progBlocks q.vars)[t].length := by omega
    rw [List.drop_eq_getElem_cons hi]
    obtain ⟨b2, h2, h3, h4⟩ := ih (i + 1) _ _ (by omega) (hp.next hq hk ht hi (bits.testBit i) (fun e => by rw [hw] at e; cases e))
    refine ⟨b2 ++ [bits.testBit i], by rw [List.append_assoc]; exact h2, by simp [h3], fun j hj => ?_⟩
    rw [List.reverse_append]
    cases j with
    | zero => rfl
    | succ j =>
      have := h4 j (by omega)
      simp only [List.reverse_cons, List.reverse_nil, List.nil_append, List.cons_append, List.getD_cons_succ]
      rw [this]; congr 1; omega
theorem blW_length (q : QS) (kind : Nat) : (blW q kind).length = (progBlocks q.vars).length := by unfold blW; simp
theorem blW_at (q : QS) (kind t : Nat) (h : t < (progBlocks q.vars).length) : (blW q kind).getD t ([], false) = ((progBlocks q.vars)[t], winsW q kind (progBlocks q.vars)[t]) := by
  unfold blW; simp [List.getD, h]
/-- The answers end at the losing side's next block. -/
structure Stands (q : QS) (kind : Nat) (g : GS) : Prop where
  le : g.turn ≤ (progBlocks q.vars).length
  lose : ∀ h : g.turn < (progBlocks q.vars).length, winsW q kind (progBlocks q.vars)[g.turn] = false
theorem ans_run {q : QS} (hq : QGood q) {kind : Nat} (hk : kind = 1 ∨ kind = 2) {rs : List RuleP} : ∀ (m : Nat) (g : GS) (bs : List Bool), g.turn + m = (progBlocks q.vars).length → Run q kind rs g bs →
    ∃ b2, Run q kind rs (ansGo rs (blW q kind) m g) (b2 ++ bs) ∧ Stands q kind (ansGo rs (blW q kind) m g) ∧ g.turn ≤ (ansGo rs (blW q kind) m g).turn ∧ ∀ j (hj : j < (progBlocks q.vars).length), g.turn ≤ j → j < (ansGo rs (blW q kind) m g).turn → winsW q kind (progBlocks q.vars)[j] = true := by
  intro m
  induction m with
  | zero =>
    intro g bs h hr
    exact ⟨[], hr, ⟨hr.turn, fun h' => absurd h' (by show ¬ g.turn < _; omega)⟩, Nat.le_refl _, fun j hj h1 h2 => by simp only [ansGo] at h2; omega⟩
  | succ m ih =>
    intro g bs h hr
    have ht : g.turn < (progBlocks q.vars).length := by omega
    rw [ansGo, blW_at q kind _ ht]
    dsimp only
    by_cases hw : winsW q kind (progBlocks q.vars)[g.turn] = true
    · rw [if_pos hw]
      obtain ⟨b1, h1⟩ := ans_part hq hk ht (progBlocks q.vars)[g.turn].length 0 g.vals bs (by omega) hr.part
      rw [List.drop_zero] at h1
      obtain ⟨b2, h2, h3, h4, h5⟩ := ih ⟨g.turn + 1, _⟩ _ (by show g.turn + 1 + m = _; omega) (h1.done ht)
      refine ⟨b2 ++ b1, by rw [List.append_assoc]; exact h2, h3, by have : g.turn + 1 ≤ _ := h4; omega, fun j hj g1 g2 => ?_⟩
      by_cases e : j = g.turn
      · subst e; exact hw
      · exact h5 j hj (by show g.turn + 1 ≤ j; omega) g2
    · rw [if_neg hw]
      exact ⟨[], hr, ⟨hr.turn, fun _ => by simpa using hw⟩, Nat.le_refl _, fun j hj h1 h2 => by omega⟩
theorem run_zero (q : QS) (kind : Nat) (rs : List RuleP) : Run q kind rs ⟨0, (0, 0)⟩ [] := ⟨Nat.zero_le _, rfl, rfl, trivial⟩
end Go.Proofs.YtgipjjhkhfihpabGreatDoor
