import Derived.Test.YtgipjjhkhfihpaaGreatDoorOB
import Derived.Test.YtgipjjhkhfihpaaGreatDoorAJ
import Derived.Test.YtgipjjhkhfihpaaGreatDoorAO
import Derived.Test.YtgipjjhkhfihpaaGreatDoorAT
import Derived.Test.YtgipjjhkhfihpaaGreatDoorAB
import Derived.Deep.QuietTactic
import Derived.BigQuiet
namespace Go.Proofs.YtgipjjhkhfihpaaGreatDoor
open Go.RowKit

/-! ### readStep -/
def stepQ (q : QS) (kind : Nat) (ss : List (Nat × Nat)) (hd : List UInt8) (tl : List (List UInt8)) : Option (Nat × Nat) :=
  if hd = [97] then axiomQ q kind tl
  else if hd = [99] then cubeStepQ q kind tl
  else if hd = [114] then resQ q kind ss tl
  else if hd = [100] then reductQ q kind ss tl
  else none

/-- How a step was made. -/
def Tag (q : QS) (kind : Nat) (ss : List Stp) (s : Stp) : Prop := RedTag q kind ss s ∨ (s.rule ≠ 4 ∧ ∃ tl, axiomQ q kind tl = some s.lits ∨ cubeStepQ q kind tl = some s.lits ∨ resQ q kind (litsL ss) tl = some s.lits)
def Tags (q : QS) (kind : Nat) (ss : List Stp) : Prop := ∀ i (h : i < ss.length), Tag q kind (ss.take i) ss[i]
def TagM (q : QS) (kind : Nat) (ss : List Stp) (ws : List (List UInt8)) (s : Stp) : Prop := Tag q kind ss s ∧ stMark s = markOf ss.length ws
theorem tags_nil (q : QS) (kind : Nat) : Tags q kind [] := fun i h => by simp at h
theorem Tags.snoc {q : QS} {kind : Nat} {ss : List Stp} {s : Stp} (h : Tags q kind ss) (hs : Tag q kind ss s) : Tags q kind (ss ++ [s]) := by
  intro i hi
  by_cases e : i < ss.length
  · rw [List.take_append_of_le_length (Nat.le_of_lt e), List.getElem_append_left e]
    exact h i e
  · have e2 : i = ss.length := by simp at hi; omega
    subst e2
    rw [List.take_append_of_le_length (Nat.le_refl _), List.take_length]
    simpa using hs
theorem tag_of {G H : Stp → Prop} {res : Option (Nat × Nat)} {ok : Bool} {s : Stp} (h : (ok = true ∧ res = some s.lits ∧ G s) ∨ (ok = false ∧ res = none)) (f : res = some s.lits → G s → H s) : (ok = true ∧ res = some s.lits ∧ H s) ∨ (ok = false ∧ res = none) := by
  rcases h with ⟨h1, h2, h3⟩ | h
  · exact Or.inl ⟨h1, h2, f h2 h3⟩
  · exact Or.inr h

set_option maxRecDepth 100000 in
set_option maxHeartbeats 3200000 in
theorem readStep_any (b : Nat) (q : QS) (kind : Nat) (ss : List Stp) (vV vC vS : Value) (hd : List UInt8) (tl : List (List UInt8)) (g off cap : Nat) (w : World) (hP : PInv w b q kind ss vV vC vS) (hQ : QB q) (hS : SBs ss)
    (hs : StrsAt w (some ⟨g, off, none⟩) (hd :: tl)) (hl : tl.length ≤ 1048575) (hcap : tl.length + 1 ≤ cap) (hws : ∀ x ∈ tl, x.length ≤ 1048576) :
    Calls Tryz.prog 71 #[.pointer (some ⟨b, 0, none⟩), .slice (some ⟨g, off, none⟩) (tl.length + 1) cap] w fun e w' => StPost (TagM q kind ss (hd :: tl)) (stepQ q kind (litsL ss) hd tl) w e w' := by
  obtain ⟨g', off', cur, he, hg, hcur⟩ := hs (by simp)
  injection he with he
  injection he with e1 e2 e3
  subst e1 e2
  clear e3
  have hgw := blk_lt hg
  have hc0 : w.cell? ⟨g, off, none⟩ = some (S hd) := by rw [blk_cell hg]; exact hcur 0 (by simp)
  have hA0 : Below w.heap.size w (w.alloc (.cells #[.int .i64 0, .int .i64 0, .int .i64 0, .int .i64 0, .int .i64 0, .int .i64 0] 134)) := (Below.refl _ _).alloc (Nat.le_refl _) _
  have HST : Hid (∀ ao : Option Addr, (tl ≠ [] → ao = some ⟨g, off + 1, none⟩) → StrsAt (w.alloc (.cells #[.int .i64 0, .int .i64 0, .int .i64 0, .int .i64 0, .int .i64 0, .int .i64 0] 134)) ao tl) := hide (fun ao ho hne => ⟨g, off + 1, cur, ho hne, (hA0.block _ hgw).trans hg, fun j hj => by
    have h1 := hcur (1 + j) (by simp; omega)
    rw [← Nat.add_assoc] at h1
    rw [h1]
    simp [show 1 + j = j + 1 from by omega]⟩)
  have HWS := hide hws
  have hP0 := hP.later hA0
  have hr0 := heap_alloc_new w (.cells #[.int .i64 0, .int .i64 0, .int .i64 0, .int .i64 0, .int .i64 0, .int .i64 0] 134)
  have hne0 : (((tl.length + 1 : Nat) : Int) == 0) = false := by rw [beq_eq_false_iff_ne]; omega
  clear hcur hws hs
  by_cases ha : hd = [97]
  · subst ha
    have HR : Hid (stepQ q kind (litsL ss) [97] tl = axiomQ q kind tl) := hide rfl
    go_enter Tryz.func71, Tryz.ntmps71
    go_wp2_with fail
    all_goals
      refine (readAxiom_any b q kind ss vV vC vS tl _ _ _ hP0 hQ (unhide HST _ (fun hne => by first | rfl | (exfalso; apply hne; exact List.eq_nil_of_length_eq_zero (by omega)))) (by omega) (unhide HWS)).mono ?_
      rintro e w1 ⟨hb1, c, ok, rfl, hlt, hok⟩
      obtain ⟨sr, sf, ss2, sv, sl⟩ := c
      obtain ⟨p, n⟩ := sl
      have HOK := hide hok
      clear hok
      have hr1 := (hb1.block _ (blk_lt hr0)).trans hr0
      have hB1 : Below w.heap.size w w1 := hA0.trans (hb1.mono hA0.size)
      have r0 : w1.cell? ⟨w.heap.size, 0, none⟩ = some (.int .i64 0) := by rw [blk_cell hr1]; rfl
      have r1 : w1.cell? ⟨w.heap.size, 1, none⟩ = some (.int .i64 0) := by rw [blk_cell hr1]; rfl
      have r2 : w1.cell? ⟨w.heap.size, 2, none⟩ = some (.int .i64 0) := by rw [blk_cell hr1]; rfl
      have r3 : w1.cell? ⟨w.heap.size, 3, none⟩ = some (.int .i64 0) := by rw [blk_cell hr1]; rfl
      have r4 : w1.cell? ⟨w.heap.size, 4, none⟩ = some (.int .i64 0) := by rw [blk_cell hr1]; rfl
      have r5 : w1.cell? ⟨w.heap.size, 5, none⟩ = some (.int .i64 0) := by rw [blk_cell hr1]; rfl
      have z0 := blk_free hr1 0
      have z1 := blk_free hr1 1
      have z2 := blk_free hr1 2
      have z3 := blk_free hr1 3
      have z4 := blk_free hr1 4
      have z5 := blk_free hr1 5
      have hR := blk_set6 hr1 (.int .i64 (sr : Int)) (.int .i64 (sf : Int)) (.int .i64 (ss2 : Int)) (.int .i64 (sv : Int)) (.int .i64 (p : Int)) (.int .i64 (n : Int))
      have j0 := blk_cell hR 0
      have j1 := blk_cell hR 1
      have j2 := blk_cell hR 2
      have j3 := blk_cell hR 3
      have j4 := blk_cell hR 4
      have j5 := blk_cell hR 5
      go_wp2_with fail
      refine bodyPost_ret (v := .tuple #[StpV ⟨sr, sf, ss2, sv, (p, n)⟩, .bool ok]) (by simp [results, Tryz.results71, go_sem, j0, j1, j2, j3, j4, j5]) rfl ⟨?_, ⟨sr, sf, ss2, sv, (p, n)⟩, ok, rfl, hlt, by rw [unhide HR]; exact tag_of (unhide HOK) (fun h g => ⟨Or.inr ⟨g, tl, Or.inl h⟩, mark_other g (by decide)⟩)⟩
      exact below_set6 hB1 (Nat.le_refl _) _ _ _ _ _ _
  · have hab : (hd == [97]) = false := by simp [ha]
    by_cases hc : hd = [99]
    · subst hc
      clear ha hab
      have HR : Hid (stepQ q kind (litsL ss) [99] tl = cubeStepQ q kind tl) := hide rfl
      go_enter Tryz.func71, Tryz.ntmps71
      go_wp2_with fail
      all_goals
        refine (readCube_any b q kind ss vV vC vS tl _ _ _ hP0 hQ (unhide HST _ (fun hne => by first | rfl | (exfalso; apply hne; exact List.eq_nil_of_length_eq_zero (by omega)))) (by omega) (unhide HWS)).mono ?_
        rintro e w1 ⟨hb1, c, ok, rfl, hlt, hok⟩
        obtain ⟨sr, sf, ss2, sv, sl⟩ := c
        obtain ⟨p, n⟩ := sl
        have HOK := hide hok
        clear hok
        have hr1 := (hb1.block _ (blk_lt hr0)).trans hr0
        have hB1 : Below w.heap.size w w1 := hA0.trans (hb1.mono hA0.size)
        have r0 : w1.cell? ⟨w.heap.size, 0, none⟩ = some (.int .i64 0) := by rw [blk_cell hr1]; rfl
        have r1 : w1.cell? ⟨w.heap.size, 1, none⟩ = some (.int .i64 0) := by rw [blk_cell hr1]; rfl
        have r2 : w1.cell? ⟨w.heap.size, 2, none⟩ = some (.int .i64 0) := by rw [blk_cell hr1]; rfl
        have r3 : w1.cell? ⟨w.heap.size, 3, none⟩ = some (.int .i64 0) := by rw [blk_cell hr1]; rfl
        have r4 : w1.cell? ⟨w.heap.size, 4, none⟩ = some (.int .i64 0) := by rw [blk_cell hr1]; rfl
        have r5 : w1.cell? ⟨w.heap.size, 5, none⟩ = some (.int .i64 0) := by rw [blk_cell hr1]; rfl
        have z0 := blk_free hr1 0
        have z1 := blk_free hr1 1
        have z2 := blk_free hr1 2
        have z3 := blk_free hr1 3
        have z4 := blk_free hr1 4
        have z5 := blk_free hr1 5
        have hR := blk_set6 hr1 (.int .i64 (sr : Int)) (.int .i64 (sf : Int)) (.int .i64 (ss2 : Int)) (.int .i64 (sv : Int)) (.int .i64 (p : Int)) (.int .i64 (n : Int))
        have j0 := blk_cell hR 0
        have j1 := blk_cell hR 1
        have j2 := blk_cell hR 2
        have j3 := blk_cell hR 3
        have j4 := blk_cell hR 4
        have j5 := blk_cell hR 5
        go_wp2_with fail
        refine bodyPost_ret (v := .tuple #[StpV ⟨sr, sf, ss2, sv, (p, n)⟩, .bool ok]) (by simp [results, Tryz.results71, go_sem, j0, j1, j2, j3, j4, j5]) rfl ⟨?_, ⟨sr, sf, ss2, sv, (p, n)⟩, ok, rfl, hlt, by rw [unhide HR]; exact tag_of (unhide HOK) (fun h g => ⟨Or.inr ⟨g, tl, Or.inr (Or.inl h)⟩, mark_other g (by decide)⟩)⟩
        exact below_set6 hB1 (Nat.le_refl _) _ _ _ _ _ _
    · have hcb : (hd == [99]) = false := by simp [hc]
      by_cases hr : hd = [114]
      · subst hr
        clear ha hab hc hcb
        have HR : Hid (stepQ q kind (litsL ss) [114] tl = resQ q kind (litsL ss) tl) := hide rfl
        go_enter Tryz.func71, Tryz.ntmps71
        go_wp2_with fail
        all_goals
          refine (readResolvent_any b q kind ss vV vC vS tl _ _ _ hP0 hQ hS (unhide HST _ (fun hne => by first | rfl | (exfalso; apply hne; exact List.eq_nil_of_length_eq_zero (by omega)))) (by omega) (unhide HWS)).mono ?_
          rintro e w1 ⟨hb1, c, ok, rfl, hlt, hok⟩
          obtain ⟨sr, sf, ss2, sv, sl⟩ := c
          obtain ⟨p, n⟩ := sl
          have HOK := hide hok
          clear hok
          have hr1 := (hb1.block _ (blk_lt hr0)).trans hr0
          have hB1 : Below w.heap.size w w1 := hA0.trans (hb1.mono hA0.size)
          have r0 : w1.cell? ⟨w.heap.size, 0, none⟩ = some (.int .i64 0) := by rw [blk_cell hr1]; rfl
          have r1 : w1.cell? ⟨w.heap.size, 1, none⟩ = some (.int .i64 0) := by rw [blk_cell hr1]; rfl
          have r2 : w1.cell? ⟨w.heap.size, 2, none⟩ = some (.int .i64 0) := by rw [blk_cell hr1]; rfl
          have r3 : w1.cell? ⟨w.heap.size, 3, none⟩ = some (.int .i64 0) := by rw [blk_cell hr1]; rfl
          have r4 : w1.cell? ⟨w.heap.size, 4, none⟩ = some (.int .i64 0) := by rw [blk_cell hr1]; rfl
          have r5 : w1.cell? ⟨w.heap.size, 5, none⟩ = some (.int .i64 0) := by rw [blk_cell hr1]; rfl
          have z0 := blk_free hr1 0
          have z1 := blk_free hr1 1
          have z2 := blk_free hr1 2
          have z3 := blk_free hr1 3
          have z4 := blk_free hr1 4
          have z5 := blk_free hr1 5
          have hR := blk_set6 hr1 (.int .i64 (sr : Int)) (.int .i64 (sf : Int)) (.int .i64 (ss2 : Int)) (.int .i64 (sv : Int)) (.int .i64 (p : Int)) (.int .i64 (n : Int))
          have j0 := blk_cell hR 0
          have j1 := blk_cell hR 1
          have j2 := blk_cell hR 2
          have j3 := blk_cell hR 3
          have j4 := blk_cell hR 4
          have j5 := blk_cell hR 5
          go_wp2_with fail
          refine bodyPost_ret (v := .tuple #[StpV ⟨sr, sf, ss2, sv, (p, n)⟩, .bool ok]) (by simp [results, Tryz.results71, go_sem, j0, j1, j2, j3, j4, j5]) rfl ⟨?_, ⟨sr, sf, ss2, sv, (p, n)⟩, ok, rfl, hlt, by rw [unhide HR]; exact tag_of (unhide HOK) (fun h g => ⟨Or.inr ⟨g, tl, Or.inr (Or.inr h)⟩, mark_other g (by decide)⟩)⟩
          exact below_set6 hB1 (Nat.le_refl _) _ _ _ _ _ _
      · have hrb : (hd == [114]) = false := by simp [hr]
        by_cases hdd : hd = [100]
        · subst hdd
          clear ha hab hc hcb hr hrb
          have HR : Hid (stepQ q kind (litsL ss) [100] tl = reductQ q kind (litsL ss) tl) := hide rfl
          go_enter Tryz.func71, Tryz.ntmps71
          go_wp2_with fail
          all_goals
            refine (readReduct_any b q kind ss vV vC vS tl _ _ _ hP0 hQ hS (unhide HST _ (fun hne => by first | rfl | (exfalso; apply hne; exact List.eq_nil_of_length_eq_zero (by omega)))) (by omega) (unhide HWS)).mono ?_
            rintro e w1 ⟨hb1, c, ok, rfl, hlt, hok⟩
            obtain ⟨sr, sf, ss2, sv, sl⟩ := c
            obtain ⟨p, n⟩ := sl
            have HOK := hide hok
            clear hok
            have hr1 := (hb1.block _ (blk_lt hr0)).trans hr0
            have hB1 : Below w.heap.size w w1 := hA0.trans (hb1.mono hA0.size)
            have r0 : w1.cell? ⟨w.heap.size, 0, none⟩ = some (.int .i64 0) := by rw [blk_cell hr1]; rfl
            have r1 : w1.cell? ⟨w.heap.size, 1, none⟩ = some (.int .i64 0) := by rw [blk_cell hr1]; rfl
            have r2 : w1.cell? ⟨w.heap.size, 2, none⟩ = some (.int .i64 0) := by rw [blk_cell hr1]; rfl
            have r3 : w1.cell? ⟨w.heap.size, 3, none⟩ = some (.int .i64 0) := by rw [blk_cell hr1]; rfl
            have r4 : w1.cell? ⟨w.heap.size, 4, none⟩ = some (.int .i64 0) := by rw [blk_cell hr1]; rfl
            have r5 : w1.cell? ⟨w.heap.size, 5, none⟩ = some (.int .i64 0) := by rw [blk_cell hr1]; rfl
            have z0 := blk_free hr1 0
            have z1 := blk_free hr1 1
            have z2 := blk_free hr1 2
            have z3 := blk_free hr1 3
            have z4 := blk_free hr1 4
            have z5 := blk_free hr1 5
            have hR := blk_set6 hr1 (.int .i64 (sr : Int)) (.int .i64 (sf : Int)) (.int .i64 (ss2 : Int)) (.int .i64 (sv : Int)) (.int .i64 (p : Int)) (.int .i64 (n : Int))
            have j0 := blk_cell hR 0
            have j1 := blk_cell hR 1
            have j2 := blk_cell hR 2
            have j3 := blk_cell hR 3
            have j4 := blk_cell hR 4
            have j5 := blk_cell hR 5
            go_wp2_with fail
            refine bodyPost_ret (v := .tuple #[StpV ⟨sr, sf, ss2, sv, (p, n)⟩, .bool ok]) (by simp [results, Tryz.results71, go_sem, j0, j1, j2, j3, j4, j5]) rfl ⟨?_, ⟨sr, sf, ss2, sv, (p, n)⟩, ok, rfl, hlt, by rw [unhide HR]; exact tag_of (unhide HOK) (fun _ g => ⟨Or.inl g.1, mark_red g⟩)⟩
            exact below_set6 hB1 (Nat.le_refl _) _ _ _ _ _ _
        · have hdb : (hd == [100]) = false := by simp [hdd]
          have HR : Hid (stepQ q kind (litsL ss) hd tl = none) := hide (by unfold stepQ; rw [if_neg ha, if_neg hc, if_neg hr, if_neg hdd])
          clear ha hc hr hdd
          go_enter Tryz.func71, Tryz.ntmps71
          go_wp2_with fail
          all_goals
            refine bodyPost_ret (v := .tuple #[StpV S0, .bool false]) (by simp [results, Tryz.results71, go_sem]) rfl (StPost.none_ hA0 (unhide HR) S0 zero_lt9 rfl)

/-! ### closed, readKind -/
def closedQ (ss : List (Nat × Nat)) : Bool := match ss.getLast? with
  | none => false
  | some c => c.1 ||| c.2 == 0
theorem closed_lits (ss : List Stp) : closedQ (litsL ss) = (decide (0 < ss.length) && ((litsAt ss ss.length).1 ||| (litsAt ss ss.length).2 == 0)) := by
  unfold closedQ litsL
  by_cases h : ss = []
  · subst h; rfl
  · have hp : 0 < ss.length := List.length_pos_iff.2 h
    obtain ⟨m, hm⟩ : ∃ m, ss.length = m + 1 := ⟨ss.length - 1, by omega⟩
    have e1 : litsAt ss ss.length = (ss[m]'(by omega)).lits := by have h5 := litsAt_in ss m (by omega); rwa [← hm] at h5
    rw [List.getLast?_map, List.getLast?_eq_getElem?, show ss.length - 1 = m from by omega, List.getElem?_eq_getElem (by omega : m < ss.length), e1]
    simp [hp]
set_option maxRecDepth 100000 in
set_option maxHeartbeats 1600000 in
theorem closed_any (b : Nat) (q : QS) (kind : Nat) (ss : List Stp) (vV vC vS : Value) (w : World) (hP : PInv w b q kind ss vV vC vS) (hS : SBs ss) :
    Calls Tryz.prog 47 #[.pointer (some ⟨b, 0, none⟩)] w fun e w' => e = .returned (.bool (closedQ (litsL ss))) ∧ Below w.heap.size w w' := by
  obtain ⟨aS, cS, rfl⟩ := own_form hP.oS
  have hbw := blk_lt hP.fb
  have hsl := hS.len
  have HC := hide (closed_lits ss)
  have k3 : w.cell? ⟨b, 3, none⟩ = some (.slice aS ss.length cS) := by rw [blk_cell hP.fb]; rfl
  have hlt := litsAt_lt ss hS.bits ss.length
  go_enter Tryz.func47, Tryz.ntmps47
  go_wp2_with fail
  refine (plits_any (b + 1) b 2 ss _ ss.length _ k3 hP.oS (by omega)).mono ?_
  rintro e w1 ⟨rfl, hb1⟩
  generalize hea : litsAt ss ss.length = c at *
  clear hea
  obtain ⟨p, n⟩ := c
  dsimp only at hlt
  have hA : Below w.heap.size w (w1.alloc (.cells #[.int .i64 (p : Int), .int .i64 (n : Int)] 74)) := hb1.alloc hb1.size _
  have hv := heap_alloc_new w1 (.cells #[.int .i64 (p : Int), .int .i64 (n : Int)] 74)
  by_cases h0 : 0 < ss.length
  · have hd1 : decide (0 < ss.length) = true := by simpa using h0
    have hd2 : decide ((0 : Int) < (ss.length : Int)) = true := decide_eq_true (by omega)
    have HF : Hid (closedQ (litsL ss) = (p ||| n == 0)) := hide (by rw [unhide HC, hd1]; rfl)
    clear h0
    go_wp2_with fail
    generalize w1.alloc (.cells #[.int .i64 (p : Int), .int .i64 (n : Int)] 74) = w5 at *
    have v0 : w5.cell? ⟨w1.heap.size, 0, none⟩ = some (.int .i64 (p : Int)) := by rw [blk_cell hv]; rfl
    have v1 : w5.cell? ⟨w1.heap.size, 1, none⟩ = some (.int .i64 (n : Int)) := by rw [blk_cell hv]; rfl
    have lv := blk_lt hv
    refine (empty_any p n _ hlt.1 hlt.2).mono ?_
    rintro e w3 ⟨rfl, hb3⟩
    go_wp2_with fail
    go_ret
    exact ⟨ret_bool (unhide HF).symm, hA.trans (hb3.mono hA.size)⟩
  · have hd1 : decide (0 < ss.length) = false := by simpa using h0
    have hd2 : decide ((0 : Int) < (ss.length : Int)) = false := decide_eq_false (by omega)
    have HF : Hid (closedQ (litsL ss) = false) := hide (by rw [unhide HC, hd1]; rfl)
    clear h0
    go_wp2_with fail
    go_ret
    exact ⟨ret_bool (unhide HF).symm, hA⟩

def KindPost (b : Nat) (l : List UInt8) (w : World) (e : Ending) (w' : World) : Prop :=
  (l = sFalse ∧ e = .returned (.bool true) ∧ w' = w.setCell ⟨b, 2, none⟩ (.int .i64 1)) ∨ (l = sTrue ∧ e = .returned (.bool true) ∧ w' = w.setCell ⟨b, 2, none⟩ (.int .i64 2)) ∨ (l ≠ sTrue ∧ l ≠ sFalse ∧ e = .returned (.bool false) ∧ w' = w)
set_option maxRecDepth 100000 in
set_option maxHeartbeats 1600000 in
theorem readKind_any (b : Nat) (vV vC vS : Value) (kind : Nat) (l : List UInt8) (w : World) (hfb : w.heap[b]? = some (.cells #[vV, vC, .int .i64 kind, vS] 105 (0, 0))) :
    Calls Tryz.prog 70 #[.pointer (some ⟨b, 0, none⟩), .string ⟨l.toArray⟩] w fun e w' => KindPost b l w e w' := by
  have hbw := blk_lt hfb
  have k2 : w.cell? ⟨b, 2, none⟩ = some (.int .i64 kind) := by rw [blk_cell hfb]; rfl
  have z2 := blk_free hfb 2
  by_cases hf : l = sFalse
  · have HF := hide hf
    unfold sFalse at hf
    subst hf
    go_enter Tryz.func70, Tryz.ntmps70
    go_wp2_with fail
    go_ret
    exact Or.inl ⟨unhide HF, rfl, rfl⟩
  · by_cases ht : l = sTrue
    · have HT := hide ht
      clear hf
      unfold sTrue at ht
      subst ht
      go_enter Tryz.func70, Tryz.ntmps70
      go_wp2_with fail
      go_ret
      exact Or.inr (Or.inl ⟨unhide HT, rfl, rfl⟩)
    · have hfb1 : (l == [112, 114, 111, 111, 102, 32, 102, 97, 108, 115, 101]) = false := by rw [beq_eq_false_iff_ne]; exact hf
      have htb1 : (l == [112, 114, 111, 111, 102, 32, 116, 114, 117, 101]) = false := by rw [beq_eq_false_iff_ne]; exact ht
      have HT := hide ht
      have HF := hide hf
      clear hf ht
      go_enter Tryz.func70, Tryz.ntmps70
      go_wp2_with fail
      go_ret
      exact Or.inr (Or.inr ⟨unhide HT, unhide HF, rfl, rfl⟩)
end Go.Proofs.YtgipjjhkhfihpaaGreatDoor

namespace Go.Proofs.YtgipjjhkhfihpaaGreatDoor
open Go.RowKit

/-! ### How a proof is played, as functions -/
abbrev RuleP := (Nat × Nat) × (Nat × Nat)
def ruleW (kind : Nat) (p : List Stp) (s : Stp) : RuleP :=
  if kind = 1 then (swapL s.lits, swapL (minus (litsAt p s.first) s.lits)) else (s.lits, minus (litsAt p s.first) s.lits)
def rulesW (kind : Nat) (p : List Stp) : List RuleP := (p.filter (fun s => s.rule == 4)).map (ruleW kind p)
def fitsW (v : Nat) (vals : Nat × Nat) (r : RuleP) : Bool := emptyB (minus r.1 vals) && hasVarB r.2 v
def wantedW (rs : List RuleP) (vals : Nat × Nat) (v : Nat) : Bool := match rs.find? (fitsW v vals) with
  | some r => hasLit r.2 (v : Int)
  | none => false
/-- The values behind as many variables as there are answers. -/
def valsTo (vs : List Nat) : List Bool → Nat × Nat
  | [] => (0, 0)
  | b :: bs => withLit (valsTo vs bs) (litI (vs.getD bs.length 0) b)

/-! ### Positions -/
/-! ### Who keeps to the rules wins -/
/-- A side that answers by the rules: what it says of each of its variables. -/
def Keeps (q : QS) (kind : Nat) (rs : List RuleP) : List Bool → Prop
  | [] => True
  | b :: bs => Keeps q kind rs bs ∧ (pivotB kind (q.vars.getD bs.length (0, false)).2 = false → b = wantedW rs (valsTo (q.vars.map (·.1)) bs) (q.vars.getD bs.length (0, false)).1)
end Go.Proofs.YtgipjjhkhfihpaaGreatDoor

namespace Go.Proofs.YtgipjjhkhfihpaaGreatDoor
open Go.RowKit

/-! ### A game, block by block -/
structure GS where
  turn : Nat
  vals : Nat × Nat
abbrev BL := List (List Nat × Bool)
def setW (vals : Nat × Nat) (v : Nat) (b : Bool) : Nat × Nat := withLit vals (litI v b)
def ansBlock (rs : List RuleP) (vs : List Nat) (vals : Nat × Nat) : Nat × Nat := vs.foldl (fun vals v => setW vals v (wantedW rs vals v)) vals
def ansGo (rs : List RuleP) (bl : BL) : Nat → GS → GS
  | 0, g => g
  | m + 1, g => if (bl.getD g.turn ([], false)).2 = true then ansGo rs bl m ⟨g.turn + 1, ansBlock rs (bl.getD g.turn ([], false)).1 g.vals⟩ else g
def ansW (rs : List RuleP) (bl : BL) (g : GS) : GS := ansGo rs bl (bl.length - g.turn) g
def uniQ (q : QS) (v : Nat) : Bool := match findV q.vars v with
  | some x => x.2
  | none => false
def winsW (q : QS) (kind : Nat) (vs : List Nat) : Bool := match vs with
  | [] => false
  | v :: _ => uniQ q v == (kind == 1)
def blW (q : QS) (kind : Nat) : BL := (progBlocks q.vars).map (fun b => (b, winsW q kind b))
def openW (q : QS) (kind : Nat) (ss : List Stp) : GS := ansW (rulesW kind ss) (blW q kind) ⟨0, (0, 0)⟩

/-! ### Blocks and places -/
def offs (bs : List (List Nat)) (t : Nat) : Nat := (bs.take t).flatten.length
theorem offs_succ (bs : List (List Nat)) (t : Nat) (h : t < bs.length) : offs bs (t + 1) = offs bs t + bs[t].length := by
  unfold offs; rw [List.take_succ_eq_append_getElem h, List.flatten_append]; simp
theorem flat_at (bs : List (List Nat)) (t i : Nat) (h : t < bs.length) (hi : i < bs[t].length) : bs.flatten.getD (offs bs t + i) 0 = bs[t][i] := by
  unfold offs
  have e : bs.flatten = (bs.take t).flatten ++ (bs[t] ++ (bs.drop (t + 1)).flatten) := by
    conv => lhs; rw [← List.take_append_drop t bs, List.drop_eq_getElem_cons h]
    rw [List.flatten_append, List.flatten_cons]
  rw [e, List.getD, List.getElem?_append_right (by omega), show (bs.take t).flatten.length + i - (bs.take t).flatten.length = i from by omega, List.getElem?_append_left hi, List.getElem?_eq_getElem hi]
  rfl
theorem offs_le (bs : List (List Nat)) (t : Nat) : offs bs t ≤ bs.flatten.length := by
  unfold offs
  conv => rhs; rw [← List.take_append_drop t bs, List.flatten_append]
  simp
theorem gather_flat (vs : List (Nat × Bool)) : ∀ k, k ≤ vs.length → (gather vs k).1.flatten ++ (gather vs k).2 = (vs.map (·.1)).take k := by
  intro k
  induction k with
  | zero => intro _; simp [gather]
  | succ k ih =>
    intro hk
    have h := ih (by omega)
    have hv : (vs.map (·.1)).take (k + 1) = (vs.map (·.1)).take k ++ [(vs.getD k (0, false)).1] := by
      rw [List.take_succ_eq_append_getElem (by simp; omega)]
      simp [List.getD, show k < vs.length by omega]
    rw [gather, hv, ← h]
    split
    · simp [List.flatten_append]
    · simp [List.append_assoc]
theorem progBlocks_flat (vs : List (Nat × Bool)) : (progBlocks vs).flatten = vs.map (·.1) := by
  have h := gather_flat vs vs.length (Nat.le_refl _)
  rw [show (vs.map (·.1)).take vs.length = vs.map (·.1) from List.take_of_length_le (by simp)] at h
  unfold progBlocks
  split
  · rw [List.flatten_append, ← h]; simp
  · next h0 =>
    have : (gather vs vs.length).2 = [] := List.eq_nil_of_length_eq_zero (by omega)
    rw [← h, this, List.append_nil]
/-- Blocks are not empty, and of one kind. -/
def OneKind (vs : List (Nat × Bool)) (b : List Nat) (u : Bool) : Prop := ∀ v ∈ b, ∃ x ∈ vs, x.1 = v ∧ x.2 = u
theorem gather_kind (vs : List (Nat × Bool)) : ∀ k, k ≤ vs.length → (∀ b ∈ (gather vs k).1, b ≠ [] ∧ ∃ u, OneKind vs b u) ∧ (0 < k → (gather vs k).2 ≠ [] ∧ OneKind vs (gather vs k).2 (kindAt vs (k - 1))) := by
  intro k
  induction k with
  | zero => intro _; exact ⟨fun b hb => by simp [gather] at hb, fun h => by omega⟩
  | succ k ih =>
    intro hk
    obtain ⟨h1, h2⟩ := ih (by omega)
    have hx : vs.getD k (0, false) ∈ vs := by rw [List.getD, List.getElem?_eq_getElem (by omega : k < vs.length)]; exact List.getElem_mem _
    rw [gather]
    split
    · next hn =>
      have hk0 : 0 < k := by unfold newAt at hn; simp at hn; exact hn.1
      refine ⟨fun b hb => ?_, fun _ => ⟨by simp, fun v hv => ?_⟩⟩
      · rcases List.mem_append.1 hb with hb | hb
        · exact h1 b hb
        · simp at hb; subst hb; exact ⟨(h2 hk0).1, _, (h2 hk0).2⟩
      · simp at hv; subst hv
        exact ⟨_, hx, rfl, by simp [kindAt]⟩
    · next hn =>
      refine ⟨h1, fun _ => ⟨by simp, fun v hv => ?_⟩⟩
      rcases List.mem_append.1 hv with hv | hv
      · by_cases hk0 : 0 < k
        · have he : kindAt vs k = kindAt vs (k - 1) := by
            unfold newAt at hn
            simp only [Bool.and_eq_true, decide_eq_true_eq, bne_iff_ne, ne_eq, not_and, Decidable.not_not] at hn
            exact hn hk0
          obtain ⟨x, x1, x2, x3⟩ := (h2 hk0).2 v hv
          exact ⟨x, x1, x2, by rw [Nat.add_sub_cancel, he]; exact x3⟩
        · have : k = 0 := by omega
          subst this
          simp [gather] at hv
      · simp at hv; subst hv
        exact ⟨_, hx, rfl, by simp [kindAt]⟩
theorem progBlocks_kind (vs : List (Nat × Bool)) : ∀ b ∈ progBlocks vs, b ≠ [] ∧ ∃ u, OneKind vs b u := by
  obtain ⟨h1, h2⟩ := gather_kind vs vs.length (Nat.le_refl _)
  intro b hb
  unfold progBlocks at hb
  split at hb
  · next h0 =>
    rcases List.mem_append.1 hb with hb | hb
    · exact h1 b hb
    · simp at hb; subst hb
      have hl : 0 < vs.length := by
        by_cases e : 0 < vs.length
        · exact e
        · have : vs.length = 0 := by omega
          rw [this] at h0; simp [gather] at h0
      exact ⟨(h2 hl).1, _, (h2 hl).2⟩
  · exact h1 b hb
theorem find_uni {q : QS} (hq : QGood q) {x : Nat × Bool} (hx : x ∈ q.vars) : uniQ q x.1 = x.2 := by
  unfold uniQ
  have h := hq.nodup
  revert h hx
  unfold findV
  induction q.vars with
  | nil => intro hx; simp at hx
  | cons y ys ih =>
    intro hx hn
    rw [List.map_cons, List.nodup_cons] at hn
    rw [List.find?_cons]
    by_cases e : y.1 = x.1
    · have : y = x := by
        rcases List.mem_cons.1 hx with e2 | hx
        · exact e2.symm
        · exact absurd (by rw [e]; exact List.mem_map_of_mem hx) hn.1
      subst this
      simp
    · have hx' : x ∈ ys := by
        rcases List.mem_cons.1 hx with e2 | hx
        · exact absurd (by rw [e2]) e
        · exact hx
      have e3 : (y.1 == x.1) = false := by simpa using e
      rw [e3]
      exact ih hx' hn.2
/-- Of a block's variables each is of the side that its flag says. -/
theorem wins_all {q : QS} (hq : QGood q) {kind : Nat} (hk : kind = 1 ∨ kind = 2) {b : List Nat} (hb : b ∈ progBlocks q.vars) {x : Nat × Bool} (hx : x ∈ q.vars) (hxb : x.1 ∈ b) : pivotB kind x.2 = !winsW q kind b := by
  obtain ⟨h0, u, hu⟩ := progBlocks_kind q.vars b hb
  have hsame : ∀ y ∈ q.vars, y.1 ∈ b → y.2 = u := fun y hy hyb => by
    obtain ⟨z, z1, z2, z3⟩ := hu _ hyb
    rw [← z3, ← find_uni hq hy, ← find_uni hq z1, z2]
  match b, h0 with
  | v :: r, _ =>
    obtain ⟨z, z1, z2, z3⟩ := hu v (by simp)
    show pivotB kind x.2 = !(uniQ q v == (kind == 1))
    rw [← z2, find_uni hq z1, z3, hsame x hx hxb]
    unfold pivotB
    rcases hk with rfl | rfl <;> cases u <;> rfl

/-! ### What a game's values are -/
theorem names_at {q : QS} (t i : Nat) (h : t < (progBlocks q.vars).length) (hi : i < (progBlocks q.vars)[t].length) : (q.vars.map (·.1)).getD (offs (progBlocks q.vars) t + i) 0 = (progBlocks q.vars)[t][i] := by
  rw [← progBlocks_flat]; exact flat_at _ t i h hi
theorem offs_lt {q : QS} (t i : Nat) (h : t < (progBlocks q.vars).length) (hi : i < (progBlocks q.vars)[t].length) : offs (progBlocks q.vars) t + i < q.vars.length := by
  have h1 := offs_succ (progBlocks q.vars) t h
  have h2 := offs_le (progBlocks q.vars) (t + 1)
  rw [progBlocks_flat, List.length_map] at h2
  omega
theorem var_at {q : QS} (k : Nat) (hk : k < q.vars.length) : q.vars.getD k (0, false) = q.vars[k] := by simp [List.getD, hk]
theorem name_at {q : QS} (k : Nat) (hk : k < q.vars.length) : (q.vars.map (·.1)).getD k 0 = q.vars[k].1 := by simp [List.getD, hk]
/-- Part of a block. -/
structure Part (q : QS) (kind : Nat) (rs : List RuleP) (t i : Nat) (vals : Nat × Nat) (bs : List Bool) : Prop where
  len : bs.length = offs (progBlocks q.vars) t + i
  vals : vals = valsTo (q.vars.map (·.1)) bs
  keeps : Keeps q kind rs bs
theorem Part.next {q : QS} (hq : QGood q) {kind : Nat} (hk : kind = 1 ∨ kind = 2) {rs : List RuleP} {t i : Nat} {vals : Nat × Nat} {bs : List Bool} (h : Part q kind rs t i vals bs) (ht : t < (progBlocks q.vars).length) (hi : i < (progBlocks q.vars)[t].length)
    (b : Bool) (hb : winsW q kind (progBlocks q.vars)[t] = true → b = wantedW rs vals (progBlocks q.vars)[t][i]) : Part q kind rs t (i + 1) (setW vals (progBlocks q.vars)[t][i] b) (b :: bs) := by
  have hlt := offs_lt t i ht hi
  have hn := names_at t i ht hi
  refine ⟨by simp [h.len]; omega, ?_, h.keeps, ?_⟩
  · show withLit vals (litI (progBlocks q.vars)[t][i] b) = withLit _ (litI ((q.vars.map (·.1)).getD bs.length 0) b)
    rw [h.len, hn, h.vals]
  · intro hp
    rw [h.len, var_at _ hlt] at hp ⊢
    have hx : (q.vars[offs (progBlocks q.vars) t + i]'hlt).1 = (progBlocks q.vars)[t][i] := by rw [← name_at _ hlt]; exact hn
    rw [hx, ← h.vals]
    refine hb ?_
    have hw := wins_all hq hk (List.getElem_mem ht) (List.getElem_mem hlt) (by rw [hx]; exact List.getElem_mem hi)
    rw [hp] at hw
    simpa using hw.symm
theorem blW_length (q : QS) (kind : Nat) : (blW q kind).length = (progBlocks q.vars).length := by unfold blW; simp
theorem blW_at (q : QS) (kind t : Nat) (h : t < (progBlocks q.vars).length) : (blW q kind).getD t ([], false) = ((progBlocks q.vars)[t], winsW q kind (progBlocks q.vars)[t]) := by
  unfold blW; simp [List.getD, h]
end Go.Proofs.YtgipjjhkhfihpaaGreatDoor

namespace Go.Proofs.YtgipjjhkhfihpaaGreatDoor
open Go.RowKit

theorem Tryz.infoInts : (Tryz.prog.info? 25).map (fun i => (i.zero, i.size, i.bytes)) = some (some (.slice none 0 0), 1, 24) := by kernel_rfl

/-- Lists of numbers, each in a row of its own; their headers in a row. -/
structure RowsAt (base : Nat) (w : World) (bs : List (List Nat)) (hdrs : List Value) : Prop where
  len : hdrs.length = bs.length
  row : ∀ j (hj : j < bs.length), w.ownsRow base 3 1 (hdrs[j]'(by omega)) bs[j].length (ints bs[j]) ∧ bs[j] ≠ []
  apart : ∀ i j (hi : i < hdrs.length) (hj : j < hdrs.length), i ≠ j → apart hdrs[i] hdrs[j]
structure BInv (base : Nat) (w : World) (bs : List (List Nat)) (cur : List Nat) (hdrs : List Value) (vB vb : Value) : Prop where
  rows : RowsAt base w bs hdrs
  oB : w.ownsRow base 25 1 vB bs.length hdrs
  ob : w.ownsRow base 3 1 vb cur.length (ints cur)
  ap : ∀ j (hj : j < hdrs.length), apart vb hdrs[j]

theorem RowsAt.later {base : Nat} {w w' : World} {bs : List (List Nat)} {hdrs : List Value} (h : RowsAt base w bs hdrs) (hb : Below w.heap.size w w') : RowsAt base w' bs hdrs :=
  ⟨h.len, fun j hj => ⟨own_below (h.row j hj).1 hb, (h.row j hj).2⟩, h.apart⟩
theorem BInv.later {base : Nat} {w w' : World} {bs : List (List Nat)} {cur : List Nat} {hdrs : List Value} {vB vb : Value} (h : BInv base w bs cur hdrs vB vb) (hb : Below w.heap.size w w') : BInv base w' bs cur hdrs vB vb :=
  ⟨h.rows.later hb, own_below h.oB hb, own_below h.ob hb, h.ap⟩

theorem BInv.push_block {base : Nat} {w w' : World} {bs : List (List Nat)} {cur : List Nat} {hdrs : List Value} {vB vb v' : Value} (h : BInv base w bs cur hdrs vB vb) (hc : cur ≠ []) (hg : w.grownBy w' vB.ownBlock)
    (hown : w'.ownsRow base 25 1 v' (bs.length + 1) (hdrs ++ [vb])) : BInv base w' (bs ++ [cur]) [] (hdrs ++ [vb]) v' (.slice none 0 0) := by
  have hl := h.rows.len
  have kb := own_kept h.ob (Below.refl _ _) h.oB hg (by decide)
  refine ⟨⟨by simp [hl], ?_, ?_⟩, by simpa using hown, World.ownsRow_nil _ _ _ _, fun _ _ => apart_nil _⟩
  · intro j hj
    by_cases hjl : j < bs.length
    · have := h.rows.row j hjl
      simp only [List.getElem_append_left hjl, List.getElem_append_left (show j < hdrs.length by omega)]
      exact ⟨own_kept this.1 (Below.refl _ _) h.oB hg (by decide), this.2⟩
    · have hje : j = bs.length := by simp at hj; omega
      subst hje
      simp only [List.getElem_concat_length]
      rw [show (hdrs ++ [vb])[bs.length]'(by simp; omega) = vb from by simp [← hl]]
      exact ⟨kb, hc⟩
  · intro i j hi hj hij
    by_cases hil : i < hdrs.length
    · by_cases hjl : j < hdrs.length
      · simp only [List.getElem_append_left hil, List.getElem_append_left hjl]
        exact h.rows.apart i j hil hjl hij
      · have hje : j = hdrs.length := by simp at hj; omega
        subst hje
        simp only [List.getElem_append_left hil, List.getElem_concat_length]
        exact (h.ap i hil).symm
    · have hie : i = hdrs.length := by simp at hi; omega
      subst hie
      have hjl : j < hdrs.length := by simp at hj; omega
      simp only [List.getElem_append_left hjl, List.getElem_concat_length]
      exact h.ap j hjl
theorem BInv.push_var {base : Nat} {w w' : World} {bs : List (List Nat)} {cur : List Nat} {hdrs : List Value} {vB vb v' : Value} {x : Nat} (h : BInv base w bs cur hdrs vB vb) (hg : w.grownBy w' vb.ownBlock)
    (hown : w'.ownsRow base 3 1 v' (cur.length + 1) (ints cur ++ [.int .i64 (x : Int)])) (hat : v'.ownBlock = vb.ownBlock ∨ ∃ k, v'.ownBlock = some k ∧ w.heap.size ≤ k) : BInv base w' bs (cur ++ [x]) hdrs vB v' := by
  refine ⟨⟨h.rows.len, fun j hj => ⟨?_, (h.rows.row j hj).2⟩, h.rows.apart⟩, own_kept h.oB (Below.refl _ _) h.ob hg (by decide), by simpa [ints] using hown, fun j hj => ?_⟩
  · have hl := h.rows.len
    exact (h.rows.row j hj).1.kept hg (h.ap j (by omega)).symm.keep
  · have hl := h.rows.len
    exact (h.ap j hj).grown (h.rows.row j (by omega)).1 hat

/-- A block of another kind is as it was behind an append. -/
theorem blk_kept {w w' : World} {v : Value} {base n size g : Nat} {e t : TypeId} {xs : List Value} {cs : Array Value} (hg : w.grownBy w' v.ownBlock) (ho : w.ownsRow base e size v n xs) (hb : w.heap[g]? = some (.cells cs t (0, 0))) (he : t ≠ e) : w'.heap[g]? = some (.cells cs t (0, 0)) := by
  rw [hg.block g (blk_lt hb) (fun eq => by
    rcases ho.2 with ⟨rfl, _⟩ | ⟨g', cap, cur', rfl, _, hh, _⟩
    · simp [Value.ownBlock] at eq
    · simp [Value.ownBlock] at eq
      subst eq
      rw [hb] at hh
      simp at hh
      exact he hh.2)]
  exact hb

theorem gather_len (vs : List (Nat × Bool)) (k : Nat) : (gather vs k).1.length ≤ k ∧ (gather vs k).2.length ≤ k := by
  induction k with
  | zero => simp [gather]
  | succ k ih =>
    rw [gather]
    split <;> simp <;> omega

def QBlocksPost (vs : List (Nat × Bool)) (w : World) (e : Ending) (w' : World) : Prop :=
  ∃ v hdrs, e = .returned v ∧ w'.ownsRow w.heap.size 25 1 v (progBlocks vs).length hdrs ∧ RowsAt w.heap.size w' (progBlocks vs) hdrs ∧ Below w.heap.size w w'

set_option maxRecDepth 100000 in
set_option maxHeartbeats 3200000 in
theorem qblocks_any (base b : Nat) (q : QS) (w : World) (aV : Option Addr) (cV : Nat) (hf : w.cell? ⟨b, 0, none⟩ = some (.slice aV q.vars.length cV)) (hb : b < w.heap.size) (hV : w.ownsRow base 139 2 (.slice aV q.vars.length cV) q.vars.length (varCells q.vars)) (hl : q.vars.length ≤ 1048576) :
    Calls Tryz.prog 49 #[.pointer (some ⟨b, 0, none⟩)] w fun e w' => QBlocksPost q.vars w e w' := by
  obtain ⟨i3, hi3, hz30, hz31, hz32⟩ := info_parts Tryz.info3
  obtain ⟨i5, hi5, hz50, hz51, hz52⟩ := info_parts Tryz.infoInts
  go_enter Tryz.func49, Tryz.ntmps49
  go_wp2_with fail
  go_loopg [3, 4, 12] (q.vars.length) (fun n vB vb i wx => ∃ (k : Nat) (hdrs : List Value), i = .int .i64 k ∧ k + n = q.vars.length ∧ BInv w.heap.size wx (gather q.vars k).1 (gather q.vars k).2 hdrs vB vb ∧ Below w.heap.size w wx)
  case atStart => exact ⟨0, [], rfl, by omega, ⟨⟨rfl, fun j hj => by simp [gather] at hj, fun i j hi => by simp at hi⟩, World.ownsRow_nil _ _ _ _, World.ownsRow_nil _ _ _ _, fun j hj => by simp at hj⟩, Below.refl _ _⟩
  case round =>
    obtain ⟨k, hdrs, rfl, hk, hB, hbx⟩ := hrel
    have hbs := hbx.size
    obtain ⟨gl1, gl2⟩ := gather_len q.vars k
    by_cases hlt : k < q.vars.length
    · obtain ⟨g, cap, hVe, hg, hg', _, hcell⟩ := own_pos hV (by omega)
      injection hVe with hVe _ hV2
      subst hVe hV2
      have hgw : g < wr.heap.size := by omega
      have hbw : b < wr.heap.size := by omega
      obtain ⟨ha, hb'⟩ := varCells_at q.vars k hlt
      have hx0 : wr.cell? ⟨g, k * 2, none⟩ = some (.int .i64 (q.vars[k].1 : Int)) := by rw [hbx.cell (p := ⟨g, k * 2, none⟩) hg']; exact hcell _ _ ha
      have hx1 : wr.cell? ⟨g, k * 2 + 1, none⟩ = some (.bool q.vars[k].2) := by rw [hbx.cell (p := ⟨g, k * 2 + 1, none⟩) hg']; exact hcell _ _ hb'
      have hf1 : wr.cell? ⟨b, 0, none⟩ = some (.slice (some ⟨g, 0, none⟩) q.vars.length cV) := by rw [hbx.cell (p := ⟨b, 0, none⟩) hb]; exact hf
      have hdk : decide ((k : Int) < (q.vars.length : Int)) = true := by simp; omega
      have HG : Hid (gather q.vars (k + 1) = if newAt q.vars k then ((gather q.vars k).1 ++ [(gather q.vars k).2], [q.vars[k].1]) else ((gather q.vars k).1, (gather q.vars k).2 ++ [q.vars[k].1])) := hide (by
        rw [gather]; simp [List.getD, hlt])
      by_cases h0 : 0 < k
      · obtain ⟨ha1, hb1⟩ := varCells_at q.vars (k - 1) (by omega)
        have hy1 : wr.cell? ⟨g, (k - 1) * 2 + 1, none⟩ = some (.bool q.vars[k - 1].2) := by rw [hbx.cell (p := ⟨g, (k - 1) * 2 + 1, none⟩) hg']; exact hcell _ _ hb1
        have hd0 : decide (0 < k) = true := by simpa using h0
        have HN : Hid (newAt q.vars k = (q.vars[k].2 != q.vars[k - 1].2)) := hide (by
          unfold newAt kindAt; simp [List.getD, hlt, show k - 1 < q.vars.length by omega, h0])
        have hcur : (gather q.vars k).2 ≠ [] := by
          intro e
          have := gather_pos q.vars (k - 1)
          rw [show k - 1 + 1 = k from by omega, e] at this
          simp at this
        clear hcell ha hb' ha1 hb1
        generalize gather q.vars k = G at *
        obtain ⟨bs, cur⟩ := G
        dsimp only at hB gl1 gl2 hcur
        generalize q.vars[k - 1] = y at *
        generalize q.vars[k] = x at *
        obtain ⟨x1, x2⟩ := x
        obtain ⟨y1, y2⟩ := y
        dsimp only at hx0 hx1 hy1
        have hbelA : ∀ nq, Below wr.heap.size wr ((wr.alloc (.cells #[.int .i64 (x1 : Int), .bool x2] 139)).drewN nq) := fun nq => below_drewN ((Below.refl _ _).alloc (Nat.le_refl _) _) nq
        have hcvA : ∀ nq, ((wr.alloc (.cells #[.int .i64 (x1 : Int), .bool x2] 139)).drewN nq).heap[wr.heap.size]? = some (.cells #[.int .i64 (x1 : Int), .bool x2] 139 (0, 0)) := fun nq => heap_alloc_new wr _
        have HBA := hide hbelA
        have HCA := hide hcvA
        clear hbelA hcvA
        cases hxy : (x2 != y2) with
        | false =>
          have HN2 : Hid (newAt q.vars k = false) := hide (by rw [unhide HN]; exact hxy)
          have HXY := hide hxy
          clear hxy
          cases x2 <;> cases y2 <;> first | (exfalso; exact absurd (unhide HXY) (by decide)) | skip
          all_goals
            go_wp2_with fail
            go_quiet (fail)
            have hb1 := unhide HBA nq
            have hc1 := unhide HCA nq
            generalize World.drewN _ nq = W at *
            have hBW := hB.later hb1
            have hbW : Below w.heap.size w W := hbx.trans (hb1.mono hbs)
            have hbWs := hbW.size
            have hcv : W.cell? ⟨wr.heap.size, 0, none⟩ = some (.int .i64 (x1 : Int)) := by rw [blk_cell hc1]; rfl
            go_wp2_with (at_builtin; refine wpList_append_at rfl (.tmp 37) (.tmp 40) 25 rfl w.heap.size i3 (.int .i64 0) 1 8 Tryz.underlying25 hi3 hz30 hz31 hz32 rfl (by decide) _ _ _ hBW.ob rfl rfl rfl (by simp [Value.oneCell']) (by unfold maxLen; omega) (by omega) hbWs ?_; intro v5 w5 hown5 hgrow5 hat5)
            go_roundg (gk - 1)
            case measure => omega
            case rel =>
              refine ⟨k + 1, hdrs, by go_num, by omega, ?_, below_grown hbW hgrow5 hBW.ob (Nat.le_refl _) hbWs⟩
              rw [unhide HG, unhide HN2, if_neg (by decide)]
              exact hBW.push_var hgrow5 hown5 hat5
        | true =>
          have HN2 : Hid (newAt q.vars k = true) := hide (by rw [unhide HN]; exact hxy)
          have HXY := hide hxy
          clear hxy
          have hcl : 0 < cur.length := List.length_pos_iff.2 hcur
          cases x2 <;> cases y2 <;> first | (exfalso; exact absurd (unhide HXY) (by decide)) | skip
          all_goals
            go_wp2_with fail
            go_quiet (fail)
            have hb1 := unhide HBA nq
            have hc1 := unhide HCA nq
            generalize World.drewN _ nq = W at *
            have hBW := hB.later hb1
            have hbW : Below w.heap.size w W := hbx.trans (hb1.mono hbs)
            have hbWs := hbW.size
            obtain ⟨gb, capb, rfl, _, _, _, _⟩ := own_pos hBW.ob hcl
            go_wp2_with (first | (at_builtin; refine wpList_append_at rfl (.tmp 33) (.tmp 35) 45 rfl w.heap.size i5 (.slice none 0 0) 1 24 Tryz.underlying45 hi5 hz50 hz51 hz52 rfl (by decide) _ _ _ hBW.oB rfl rfl rfl (by simp [Value.oneCell']) (by unfold maxLen; omega) (by omega) hbWs ?_; intro v4 w4 hown4 hgrow4 hat4; have hB4 := hBW.push_block hcur hgrow4 hown4; have hc4 := blk_kept hgrow4 hBW.oB hc1 (by decide); have hcv : w4.cell? ⟨wr.heap.size, 0, none⟩ = some (.int .i64 (x1 : Int)) := (by rw [blk_cell hc4]; rfl); have hb4 := below_grown hbW hgrow4 hBW.oB (Nat.le_refl _) hbWs; have hb4s := hb4.size) | (at_builtin; refine wpList_append_at rfl (.tmp 37) (.tmp 40) 25 rfl w.heap.size i3 (.int .i64 0) 1 8 Tryz.underlying25 hi3 hz30 hz31 hz32 rfl (by decide) _ _ _ hB4.ob rfl rfl rfl (by simp [Value.oneCell']) (by unfold maxLen; simp) (by simp) hb4s ?_; intro v5 w5 hown5 hgrow5 hat5))
            go_roundg (gk - 1)
            case measure => omega
            case rel =>
              refine ⟨k + 1, hdrs ++ [.slice (some ⟨gb, 0, none⟩) cur.length capb], by go_num, by omega, ?_, below_grown hb4 hgrow5 hB4.ob (Nat.le_refl _) hb4s⟩
              rw [unhide HG, unhide HN2, if_pos rfl]
              exact hB4.push_var hgrow5 hown5 hat5
      · have hd0 : decide (0 < k) = false := by simpa using h0
        have HN2 : Hid (newAt q.vars k = false) := hide (by unfold newAt; rw [hd0]; rfl)
        clear hcell ha hb' h0
        generalize gather q.vars k = G at *
        obtain ⟨bs, cur⟩ := G
        dsimp only at hB gl1 gl2
        generalize q.vars[k] = x at *
        obtain ⟨x1, x2⟩ := x
        dsimp only at hx0 hx1
        have HBA : Hid (∀ nq, Below wr.heap.size wr ((wr.alloc (.cells #[.int .i64 (x1 : Int), .bool x2] 139)).drewN nq)) := hide (fun nq => below_drewN ((Below.refl _ _).alloc (Nat.le_refl _) _) nq)
        have HCA : Hid (∀ nq, ((wr.alloc (.cells #[.int .i64 (x1 : Int), .bool x2] 139)).drewN nq).heap[wr.heap.size]? = some (.cells #[.int .i64 (x1 : Int), .bool x2] 139 (0, 0))) := hide (fun nq => heap_alloc_new wr _)
        go_wp2_with fail
        go_quiet (fail)
        have hb1 := unhide HBA nq
        have hc1 := unhide HCA nq
        generalize World.drewN _ nq = W at *
        have hBW := hB.later hb1
        have hbW : Below w.heap.size w W := hbx.trans (hb1.mono hbs)
        have hbWs := hbW.size
        have hcv : W.cell? ⟨wr.heap.size, 0, none⟩ = some (.int .i64 (x1 : Int)) := by rw [blk_cell hc1]; rfl
        go_wp2_with (at_builtin; refine wpList_append_at rfl (.tmp 37) (.tmp 40) 25 rfl w.heap.size i3 (.int .i64 0) 1 8 Tryz.underlying25 hi3 hz30 hz31 hz32 rfl (by decide) _ _ _ hBW.ob rfl rfl rfl (by simp [Value.oneCell']) (by unfold maxLen; omega) (by omega) hbWs ?_; intro v5 w5 hown5 hgrow5 hat5)
        go_roundg (gk - 1)
        case measure => omega
        case rel =>
          refine ⟨k + 1, hdrs, by go_num, by omega, ?_, below_grown hbW hgrow5 hBW.ob (Nat.le_refl _) hbWs⟩
          rw [unhide HG, unhide HN2, if_neg (by decide)]
          exact hBW.push_var hgrow5 hown5 hat5
    · have hkl : k = q.vars.length := by omega
      subst hkl
      have hdk : decide ((q.vars.length : Int) < (q.vars.length : Int)) = false := by simp
      obtain ⟨pb, hpb⟩ : ∃ pb, progBlocks q.vars = pb := ⟨_, rfl⟩
      have hpb2 := hpb
      unfold progBlocks at hpb2
      have HPB := hide hpb
      have HPB2 := hide hpb2
      clear hpb hpb2
      generalize gather q.vars q.vars.length = G at *
      obtain ⟨bs, cur⟩ := G
      dsimp only at hB gl1 gl2
      by_cases hc : 0 < cur.length
      · have hdc : decide (0 < cur.length) = true := by simpa using hc
        have HP : Hid (progBlocks q.vars = bs ++ [cur]) := hide (by rw [unhide HPB, ← unhide HPB2]; exact if_pos hc)
        obtain ⟨gb, capb, rfl, _, _, _, _⟩ := own_pos hB.ob hc
        have hcur : cur ≠ [] := List.length_pos_iff.1 hc
        go_wp2_with (at_builtin; refine wpList_append_at rfl (.tmp 46) (.tmp 48) 45 rfl w.heap.size i5 (.slice none 0 0) 1 24 Tryz.underlying45 hi5 hz50 hz51 hz52 rfl (by decide) _ _ _ hB.oB rfl rfl rfl (by simp [Value.oneCell']) (by unfold maxLen; omega) (by omega) hbs ?_; intro v4 w4 hown4 hgrow4 hat4)
        go_ret
        have hB4 := hB.push_block hcur hgrow4 hown4
        refine ⟨v4, hdrs ++ [.slice (some ⟨gb, 0, none⟩) cur.length capb], rfl, ?_, ?_, below_grown hbx hgrow4 hB.oB (Nat.le_refl _) hbs⟩
        · rw [unhide HP]; exact hB4.oB
        · rw [unhide HP]; exact hB4.rows
      · have hdc : decide (0 < cur.length) = false := by simpa using hc
        have HP : Hid (progBlocks q.vars = bs) := hide (by rw [unhide HPB, ← unhide HPB2]; exact if_neg hc)
        obtain ⟨ab, cb, rfl⟩ := own_form hB.ob
        go_wp2_with fail
        go_ret
        refine ⟨_, hdrs, rfl, ?_, ?_, hbx⟩
        · rw [unhide HP]; exact hB.oB
        · rw [unhide HP]; exact hB.rows
end Go.Proofs.YtgipjjhkhfihpaaGreatDoor
