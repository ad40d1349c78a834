import Derived.Test.YtgipjjhkhfihpaaGreatDoorSA
import Derived.Test.YtgipjjhkhfihpaaGreatDoorBA
import Derived.Test.YtgipjjhkhfihpaaGreatDoorAY
import Derived.Test.YtgipjjhkhfihpaaGreatDoorSD
import Derived.Deep.RegionWith
namespace Go.Proofs.YtgipjjhkhfihpaaGreatDoor
open Go.RowKit

/-! ### solves -/
def SolvesPost (bw : Nat) (text proof : List UInt8) (px pf : Option Addr) (c4 c5 c6 : Value) (w : World) (e : Ending) (w' : World) : Prop :=
  e = .returned (.bool true) ∧ Only (· = bw) w w' ∧ ∃ proof', WAt w' bw text px pf proof' c4 c5 c6 ∧ proof'.length ≤ max proof.length 262144
set_option maxRecDepth 100000 in
set_option maxHeartbeats 6400000 in
theorem solves_bad (bw b1 b2 _lo : Nat) (q : QS) (a l : Int) (text proof : List UInt8) (c4 c5 c6 : Value) (w : World) (hw : WAt w bw text (some ⟨b1, 0, none⟩) (some ⟨b2, 0, none⟩) proof c4 c5 c6) (hln : loadSpec text = .inr q) (h : a < 0 ∨ 1048576 < a ∨ l < 0 ∨ 64 < l) :
    Calls Tryz.prog 32 #[.pointer (some ⟨bw, 0, none⟩), .int .i64 a, .int .i64 l] w fun e w' => SolvesPost bw text proof (some ⟨b1, 0, none⟩) (some ⟨b2, 0, none⟩) c4 c5 c6 w e w' := by
  have hbw : bw < w.heap.size := blk_lt hw
  have k1 : w.cell? ⟨bw, 1, none⟩ = some (.pointer (some ⟨b1, 0, none⟩)) := by rw [blk_cell hw]; rfl
  have HV : Hid (VdV ⟨0, 0, 0, []⟩ = .agg #[.int .i64 0, .int .i64 0, .int .i64 0, .string ⟨#[]⟩]) := hide rfl
  have HLN := hide hln
  clear hln
  go_enter Tryz.func32, Tryz.ntmps32
  go_wp2_with fail
  refine (dsolve_bad b1 a l w h).mono ?_
  rintro e u1 ⟨rfl, c1⟩
  rw [unhide HV]
  have hw1 := hw.later c1
  have hA1 : Below u1.heap.size u1 (u1.alloc (.cells #[.int .i64 0, .int .i64 0, .int .i64 0, .string ⟨#[]⟩] 54)) := (Below.refl _ _).alloc (Nat.le_refl _) _
  have hw1a := hw1.later hA1
  have hv1 := heap_alloc_new u1 (.cells #[.int .i64 0, .int .i64 0, .int .i64 0, .string ⟨#[]⟩] 54)
  have k0 : (u1.alloc (.cells #[.int .i64 0, .int .i64 0, .int .i64 0, .string ⟨#[]⟩] 54)).cell? ⟨bw, 0, none⟩ = some (S text) := by rw [blk_cell hw1a]; rfl
  have l1 := blk_lt hw1a
  have hB1 := c1.trans (hA1.mono c1.size)
  go_wp2_with fail
  generalize (u1.alloc (.cells #[.int .i64 0, .int .i64 0, .int .i64 0, .string ⟨#[]⟩] 54)) = u2 at *
  refine (load_any text u2).mono ?_
  rintro e u3 ⟨c3, hp3⟩
  rw [unhide HLN] at hp3
  obtain ⟨by_, rfl, hPy⟩ := hp3
  have hw3 := hw1a.later c3
  have hv3 := (c3.block _ (blk_lt hv1)).trans hv1
  have hB3 := hB1.trans (c3.mono hB1.size)
  go_wp2_with fail
  refine (dsolve_bad by_ a l u3 h).mono ?_
  rintro e u4 ⟨rfl, c4'⟩
  rw [unhide HV]
  have hv4 := (c4'.block _ (blk_lt hv3)).trans hv3
  have hw4 := hw3.later c4'
  have hB4 := hB3.trans (c4'.mono hB3.size)
  have hA4 : Below u4.heap.size u4 (u4.alloc (.cells #[.int .i64 0, .int .i64 0, .int .i64 0, .string ⟨#[]⟩] 54)) := (Below.refl _ _).alloc (Nat.le_refl _) _
  have hv4a := (hA4.block _ (blk_lt hv4)).trans hv4
  have q0 : (u4.alloc (.cells #[.int .i64 0, .int .i64 0, .int .i64 0, .string ⟨#[]⟩] 54)).cell? ⟨u1.heap.size, 0, none⟩ = some (.int .i64 0) := by rw [blk_cell hv4a]; rfl
  have q1 : (u4.alloc (.cells #[.int .i64 0, .int .i64 0, .int .i64 0, .string ⟨#[]⟩] 54)).cell? ⟨u1.heap.size, 1, none⟩ = some (.int .i64 0) := by rw [blk_cell hv4a]; rfl
  have q2 : (u4.alloc (.cells #[.int .i64 0, .int .i64 0, .int .i64 0, .string ⟨#[]⟩] 54)).cell? ⟨u1.heap.size, 2, none⟩ = some (.int .i64 0) := by rw [blk_cell hv4a]; rfl
  have q3 : (u4.alloc (.cells #[.int .i64 0, .int .i64 0, .int .i64 0, .string ⟨#[]⟩] 54)).cell? ⟨u1.heap.size, 3, none⟩ = some (.string ⟨#[]⟩) := by rw [blk_cell hv4a]; rfl
  have lv4 := blk_lt hv4a
  have lv4' := blk_lt hv4
  rcases (show a < 0 ∨ (¬ a < 0 ∧ 1048576 < a) ∨ (¬ a < 0 ∧ ¬ 1048576 < a ∧ l < 0) ∨ (¬ a < 0 ∧ ¬ 1048576 < a ∧ ¬ l < 0 ∧ 64 < l) by omega) with h | h | h | h
  · have d0 : decide (a < 0) = true := decide_eq_true (by omega)
    clear h
    go_wp2_with fail
    go_ret
    exact ⟨rfl, Only.of_below (hB4.trans (hA4.mono hB4.size)), proof, hw4.later hA4, Nat.le_max_left _ _⟩
  · have d0 : decide (a < 0) = false := decide_eq_false (by omega)
    have d1 : decide ((1048576 : Int) < a) = true := decide_eq_true (by omega)
    clear h
    go_wp2_with fail
    go_ret
    exact ⟨rfl, Only.of_below (hB4.trans (hA4.mono hB4.size)), proof, hw4.later hA4, Nat.le_max_left _ _⟩
  · have d0 : decide (a < 0) = false := decide_eq_false (by omega)
    have d1 : decide ((1048576 : Int) < a) = false := decide_eq_false (by omega)
    have d2 : decide (l < 0) = true := decide_eq_true (by omega)
    clear h
    go_wp2_with fail
    go_ret
    exact ⟨rfl, Only.of_below (hB4.trans (hA4.mono hB4.size)), proof, hw4.later hA4, Nat.le_max_left _ _⟩
  · have d0 : decide (a < 0) = false := decide_eq_false (by omega)
    have d1 : decide ((1048576 : Int) < a) = false := decide_eq_false (by omega)
    have d2 : decide (l < 0) = false := decide_eq_false (by omega)
    have d3 : decide ((64 : Int) < l) = true := decide_eq_true (by omega)
    clear h
    go_wp2_with fail
    go_ret
    exact ⟨rfl, Only.of_below (hB4.trans (hA4.mono hB4.size)), proof, hw4.later hA4, Nat.le_max_left _ _⟩
/-- What the law asks of a verdict. -/
structure VdOk (F : Form) (bn ln : Nat) (v : Vd) : Prop where
  one : 1 ≤ v.nodes
  most : v.nodes + 1 ≤ 2 ^ (F.order.length + 1)
  lem : v.lemmas ≤ ln
  upto : 0 < bn → v.nodes ≤ bn
  unknown : v.kind = 0 → 0 < bn ∧ v.nodes = bn ∧ v.text = [] ∧ (unitsR F).1 = false
  known : v.kind ≠ 0 → ∃ tr two, provesR F v.text = .inr (tr, two) ∧ v.kind = (if tr then 2 else 1) ∧ fromL (satB F.cl) F.all F.order 0 = tr ∧ ((unitsR F).1 = true → v.nodes = 1 ∧ two ≤ (unitsR F).2) ∧ v.text.length ≤ 262144
theorem provesR_short {F : Form} {l : List UInt8} {x : Bool × Nat} (h : provesR F l = .inr x) : l.length ≤ 262144 := by
  apply Classical.byContradiction
  intro hn
  unfold provesR at h
  rw [if_pos (by omega)] at h
  cases h
theorem vd_ok {F : Form} {q : QS} (hq : QGood q) (hF : FQ F q) (hO : FOk F) (bn ln : Nat) : VdOk F bn ln (verdict q bn ln) := by
  have h := solve_ok hq hF hO bn ln
  have hu := solve_units hq hF bn ln
  have hlen : F.order.length = q.vars.length := by rw [hF.order, List.length_map]
  have hv : verdict q bn ln = ⟨(solveM q bn ln).2.1, (solveM q bn ln).1.nodes, (solveM q bn ln).1.most, if (solveM q bn ln).2.1 = 0 then [] else textP ((solveM q bn ln).2.1 == 2) (shortOf ((solveM q bn ln).1.proof (solveM q bn ln).2.1) (solveM q bn ln).2.2)⟩ := rfl
  rw [hv]
  generalize solveM q bn ln = r at *
  refine ⟨h.one, ?_, h.lemmas, h.upto, fun h0 => ?_, fun h0 => ?_⟩
  · rw [hlen]; exact h.most
  · have h1 := h.unknown h0
    refine ⟨h1.1, h1.2, ?_, ?_⟩
    · show (if r.2.1 = 0 then [] else _) = []
      rw [if_pos h0]
    · cases hc : (unitsR F).1 with
      | false => rfl
      | true =>
        have := (hu hc).1
        have h0' : r.2.1 = 0 := h0
        omega
  · have h0' : r.2.1 ≠ 0 := h0
    obtain ⟨_, _, p3, p4⟩ := h.proof h0'
    have htx : (if r.2.1 = 0 then [] else textP (r.2.1 == 2) (shortOf (r.1.proof r.2.1) r.2.2)) = textP (r.2.1 == 2) (shortOf (r.1.proof r.2.1) r.2.2) := if_neg h0'
    refine ⟨r.2.1 == 2, twos (shortOf (r.1.proof r.2.1) r.2.2), ?_, ?_, ?_, fun hc => ?_, ?_⟩
    · show provesR F (if r.2.1 = 0 then [] else _) = _
      rw [htx]; exact p3
    · show r.2.1 = _
      rcases h.kind with e | e | e
      · exact absurd e h0'
      · rw [e]; rfl
      · rw [e]; rfl
    · exact proves_sound hO _ _ _ p3
    · obtain ⟨u1, u2, u3⟩ := hu hc
      refine ⟨u2, ?_⟩
      rw [u1] at p4 ⊢
      exact Nat.le_trans p4 u3
    · show (if r.2.1 = 0 then [] else _).length ≤ 262144
      rw [htx]; exact provesR_short p3
theorem qgood_of2 {F : Form} {q : QS} (h : FQ F q) (hb : QB q) : QGood q :=
  ⟨hb, h.nodup, fun c hc s v hl => by
    rw [← h.order]
    refine h.vars c hc v ?_
    cases s with
    | true => exact Or.inl hl
    | false => exact Or.inr hl⟩
theorem shl_two (n : Nat) (h : n ≤ 8) : wrap64 (2 * 2 ^ n) = ((2 * 2 ^ n : Nat) : Int) := by
  have hp : 2 * 2 ^ n ≤ 512 := by have := pow_bd n h; omega
  rw [show (2 : Int) * 2 ^ n = ((2 * 2 ^ n : Nat) : Int) from by simp]
  generalize 2 * 2 ^ n = m at *
  exact IntWalk.wrap64_in _ ⟨by omega, by omega⟩
set_option maxRecDepth 100000 in
set_option maxHeartbeats 6400000 in
theorem solves_ok (bw b1 b2 lo : Nat) (st : RS) (q0 : QS) (bn ln : Nat) (text proof : List UInt8) (c4 c5 c6 : Value) (w : World) (hw : WAt w bw text (some ⟨b1, 0, none⟩) (some ⟨b2, 0, none⟩) proof c4 c5 c6)
    (hP : ProgAt lo w b1 (qFinish q0)) (hR : RefAt lo w b2 (finish st)) (hS : Same st q0) (h24 : q0.cl.length ≤ 24) (hN : QNice q0) (hln : loadSpec text = .inr (qFinish q0)) (ht : TabAt w) (hbn : bn ≤ 1048576) (hl64 : ln ≤ 64) :
    Calls Tryz.prog 32 #[.pointer (some ⟨bw, 0, none⟩), .int .i64 (bn : Int), .int .i64 (ln : Int)] w fun e w' => SolvesPost bw text proof (some ⟨b1, 0, none⟩) (some ⟨b2, 0, none⟩) c4 c5 c6 w e w' := by
  obtain ⟨hFQ, hFO, hFW⟩ := fq_of hS hN h24
  have hQG := qgood_of2 hFQ (qb_of hN h24)
  have hvd := vd_ok hQG hFQ hFO bn ln
  have HSV := hide (fun (lo b : Nat) (w : World) (hP : ProgAt lo w b (qFinish q0)) (ht : TabAt w) => dsolve_any lo b (qFinish q0) bn ln w hP hQG ht hbn hl64)
  generalize verdict (qFinish q0) bn ln = vd at *
  obtain ⟨vk, vn, vm, vt⟩ := vd
  have HVD := hide hvd
  have hol := hFW.len
  have hone : 1 ≤ vn := hvd.one
  have hvm : vm ≤ ln := hvd.lem
  have hmo : vn + 1 ≤ 2 ^ ((finish st).order.length + 1) := hvd.most
  have hvn : vn ≤ 512 := by
    have h3 : 2 ^ ((finish st).order.length + 1) ≤ 2 ^ 9 := Nat.pow_le_pow_right (by decide) (by omega)
    have h4 : (2 : Nat) ^ 9 = 512 := by decide
    omega
  have HMO := hide hmo
  clear hvd hmo hFQ hFO hQG hS hN h24
  generalize finish st = F at *
  have hbw : bw < w.heap.size := blk_lt hw
  have k1 : w.cell? ⟨bw, 1, none⟩ = some (.pointer (some ⟨b1, 0, none⟩)) := by rw [blk_cell hw]; rfl
  have HLN := hide hln
  clear hln
  go_enter Tryz.func32, Tryz.ntmps32
  go_wp2_with fail
  refine (unhide HSV lo b1 w hP ht).mono ?_
  rintro e u1 ⟨rfl, c1⟩
  have hw1 := hw.later c1
  have hA1 : Below u1.heap.size u1 (u1.alloc (.cells #[.int .i64 (vk : Int), .int .i64 (vn : Int), .int .i64 (vm : Int), .string ⟨vt.toArray⟩] 54)) := (Below.refl _ _).alloc (Nat.le_refl _) _
  have hw1a := hw1.later hA1
  have hv1 := heap_alloc_new u1 (.cells #[.int .i64 (vk : Int), .int .i64 (vn : Int), .int .i64 (vm : Int), .string ⟨vt.toArray⟩] 54)
  have k0 : (u1.alloc (.cells #[.int .i64 (vk : Int), .int .i64 (vn : Int), .int .i64 (vm : Int), .string ⟨vt.toArray⟩] 54)).cell? ⟨bw, 0, none⟩ = some (S text) := by rw [blk_cell hw1a]; rfl
  have l1 := blk_lt hw1a
  have hB1 := c1.trans (hA1.mono c1.size)
  go_wp2_with fail
  generalize (u1.alloc (.cells #[.int .i64 (vk : Int), .int .i64 (vn : Int), .int .i64 (vm : Int), .string ⟨vt.toArray⟩] 54)) = u2 at *
  refine (load_any text u2).mono ?_
  rintro e u3 ⟨c3, hp3⟩
  rw [unhide HLN] at hp3
  obtain ⟨by_, rfl, hPy⟩ := hp3
  have hw3 := hw1a.later c3
  have hv3 := (c3.block _ (blk_lt hv1)).trans hv1
  have hB3 := hB1.trans (c3.mono hB1.size)
  go_wp2_with fail
  refine (unhide HSV _ by_ u3 hPy (ht.later hB3)).mono ?_
  rintro e u4 ⟨rfl, c4'⟩
  have hv4 := (c4'.block _ (blk_lt hv3)).trans hv3
  have hw4 := hw3.later c4'
  have hB4 := hB3.trans (c4'.mono hB3.size)
  have hA4 : Below u4.heap.size u4 (u4.alloc (.cells #[.int .i64 (vk : Int), .int .i64 (vn : Int), .int .i64 (vm : Int), .string ⟨vt.toArray⟩] 54)) := (Below.refl _ _).alloc (Nat.le_refl _) _
  have hv5 := (hA4.block _ (blk_lt hv4)).trans hv4
  have hu5 := heap_alloc_new u4 (.cells #[.int .i64 (vk : Int), .int .i64 (vn : Int), .int .i64 (vm : Int), .string ⟨vt.toArray⟩] 54)
  have hw5 := hw4.later hA4
  have hB5 := hB4.trans (hA4.mono hB4.size)
  have lv4 := blk_lt hv4
  have hR5 := hR.later hB5
  obtain ⟨_, vO, vE, vC, hfb, hO, _, _⟩ := id hR5
  obtain ⟨aO, cO, rfl⟩ := own_form hO
  clear hO
  generalize F.order.length = no at *
  have lfb := blk_lt hfb
  have lw5 := blk_lt hw5
  have q0' : (u4.alloc (.cells #[.int .i64 (vk : Int), .int .i64 (vn : Int), .int .i64 (vm : Int), .string ⟨vt.toArray⟩] 54)).cell? ⟨u1.heap.size, 0, none⟩ = some (.int .i64 (vk : Int)) := by rw [blk_cell hv5]; rfl
  have q1 : (u4.alloc (.cells #[.int .i64 (vk : Int), .int .i64 (vn : Int), .int .i64 (vm : Int), .string ⟨vt.toArray⟩] 54)).cell? ⟨u1.heap.size, 1, none⟩ = some (.int .i64 (vn : Int)) := by rw [blk_cell hv5]; rfl
  have q2 : (u4.alloc (.cells #[.int .i64 (vk : Int), .int .i64 (vn : Int), .int .i64 (vm : Int), .string ⟨vt.toArray⟩] 54)).cell? ⟨u1.heap.size, 2, none⟩ = some (.int .i64 (vm : Int)) := by rw [blk_cell hv5]; rfl
  have q3 : (u4.alloc (.cells #[.int .i64 (vk : Int), .int .i64 (vn : Int), .int .i64 (vm : Int), .string ⟨vt.toArray⟩] 54)).cell? ⟨u1.heap.size, 3, none⟩ = some (.string ⟨vt.toArray⟩) := by rw [blk_cell hv5]; rfl
  have r2 : (u4.alloc (.cells #[.int .i64 (vk : Int), .int .i64 (vn : Int), .int .i64 (vm : Int), .string ⟨vt.toArray⟩] 54)).cell? ⟨bw, 2, none⟩ = some (.pointer (some ⟨b2, 0, none⟩)) := by rw [blk_cell hw5]; rfl
  have f0 : (u4.alloc (.cells #[.int .i64 (vk : Int), .int .i64 (vn : Int), .int .i64 (vm : Int), .string ⟨vt.toArray⟩] 54)).cell? ⟨b2, 0, none⟩ = some (.slice aO no cO) := by rw [blk_cell hfb]; rfl
  have d0 : decide ((bn : Int) < 0) = false := decide_eq_false (by omega)
  have d1 : decide ((1048576 : Int) < (bn : Int)) = false := decide_eq_false (by omega)
  have d2 : decide ((ln : Int) < 0) = false := decide_eq_false (by omega)
  have d3 : decide ((64 : Int) < (ln : Int)) = false := decide_eq_false (by omega)
  have d1n : decide (1048576 < bn) = false := decide_eq_false (by omega)
  have d3n : decide (64 < ln) = false := decide_eq_false (by omega)
  have g1 : decide ((vn : Int) < 1) = false := decide_eq_false (by omega)
  have g1n : decide (vn < 1) = false := decide_eq_false (by omega)
  have g2 : decide ((vm : Int) < 0) = false := decide_eq_false (by omega)
  have g3 : decide ((ln : Int) < (vm : Int)) = false := decide_eq_false (by omega)
  have g3n : decide (ln < vm) = false := decide_eq_false (by omega)
  have hsh := shl_two no hol
  have hmo2 : vn < 2 * 2 ^ no := by have := unhide HMO; rw [Nat.pow_succ, Nat.mul_comm] at this; omega
  have hm512 : 2 * 2 ^ no ≤ 512 := by
    have h3 : 2 ^ no ≤ 2 ^ 8 := Nat.pow_le_pow_right (by decide) hol
    have h4 : (2 : Nat) ^ 8 = 256 := by decide
    omega
  generalize (2 * 2 ^ no : Nat) = mst at *
  clear HMO
  have g6 : decide ((mst : Int) ≤ (vn : Int)) = false := decide_eq_false (by omega)
  have g6n : decide (mst ≤ vn) = false := decide_eq_false (by omega)
  by_cases hk0 : vk = 0
  · obtain ⟨ub, un, ut, uc⟩ := (unhide HVD).unknown hk0
    dsimp only at un ut
    subst ut
    have e1 : ((vk : Int) == 0) = true := by rw [beq_iff_eq]; omega
    have e1n : (vk == 0) = true := by rw [beq_iff_eq]; exact hk0
    have g4 : decide ((0 : Int) < (bn : Int)) = true := decide_eq_true (by omega)
    have g4n : decide (0 < bn) = true := decide_eq_true (by omega)
    have g5 : decide ((bn : Int) < (vn : Int)) = false := decide_eq_false (by omega)
    have g5n : decide (bn < vn) = false := decide_eq_false (by omega)
    have e2 : ((vn : Int) == (bn : Int)) = true := by rw [beq_iff_eq]; omega
    have e2n : (vn == bn) = true := by rw [beq_iff_eq]; exact un
    have g7 : decide ((bn : Int) < (mst : Int)) = true := decide_eq_true (by omega)
    have g7n : decide (bn < mst) = true := decide_eq_true (by omega)
    have g8 : decide ((bn : Int) < wrap64 (2 * 2 ^ no)) = true := by rw [hsh]; exact g7
    have HUC := hide uc
    clear un ub hk0 uc
    go_wp2_with fail
    have hB5' := hB5
    generalize (u4.alloc (.cells #[.int .i64 (vk : Int), .int .i64 (vn : Int), .int .i64 (vm : Int), .string ⟨([] : List UInt8).toArray⟩] 54)) = u5 at *
    refine (units_any lo b2 F u5 hR5 hFW.bits hFW.cl hFW.all).mono ?_
    rintro e u6 ⟨rfl, c6'⟩
    have hB6 := hB5.trans (c6'.mono hB5.size)
    have hv6 := (c6'.block _ (blk_lt hv5)).trans hv5
    have hw6 := hw5.later c6'
    have p0 : u6.cell? ⟨u1.heap.size, 0, none⟩ = some (.int .i64 (vk : Int)) := by rw [blk_cell hv6]; rfl
    have p1 : u6.cell? ⟨u1.heap.size, 1, none⟩ = some (.int .i64 (vn : Int)) := by rw [blk_cell hv6]; rfl
    have p3 : u6.cell? ⟨u1.heap.size, 3, none⟩ = some (.string ⟨([] : List UInt8).toArray⟩) := by rw [blk_cell hv6]; rfl
    have p2 : u6.cell? ⟨bw, 2, none⟩ = some (.pointer (some ⟨b2, 0, none⟩)) := by rw [blk_cell hw6]; rfl
    have lv6 := blk_lt hv6
    have lw6 := blk_lt hw6
    clear q0' q1 q2 q3 r2 f0
    have uc := unhide HUC
    generalize unitsR F = ur at *
    obtain ⟨cf, un⟩ := ur
    dsimp only at uc ⊢
    subst uc
    go_wp2_with fail
    go_ret
    exact ⟨rfl, Only.of_below hB6, proof, hw6, Nat.le_max_left _ _⟩
  · have e1 : ((vk : Int) == 0) = false := by rw [beq_eq_false_iff_ne]; omega
    have e1n : (vk == 0) = false := by rw [beq_eq_false_iff_ne]; exact hk0
    obtain ⟨tr, two, hpr, hvk, htr, huc, hvl⟩ := (unhide HVD).known hk0
    dsimp only at hpr hvk huc hvl
    have HPR := hide hpr
    have HTR := hide htr
    have HUC := hide huc
    have HVK := hide hvk
    clear hpr htr huc hvk hk0
    have HUP := hide (unhide HVD).upto
    rcases Classical.em (bn = 0) with hb0 | hb0
    · have g4 : decide ((0 : Int) < (bn : Int)) = false := decide_eq_false (by omega)
      have g4n : decide (0 < bn) = false := decide_eq_false (by omega)
      clear hb0
      go_wp2_with fail
      have hB5' := hB5
      generalize (u4.alloc (.cells #[.int .i64 (vk : Int), .int .i64 (vn : Int), .int .i64 (vm : Int), .string ⟨vt.toArray⟩] 54)) = u5 at *
      refine (units_any lo b2 F u5 hR5 hFW.bits hFW.cl hFW.all).mono ?_
      rintro e u6 ⟨rfl, c6'⟩
      have hB6 := hB5.trans (c6'.mono hB5.size)
      have hv6 := (c6'.block _ (blk_lt hv5)).trans hv5
      have hw6 := hw5.later c6'
      have p0 : u6.cell? ⟨u1.heap.size, 0, none⟩ = some (.int .i64 (vk : Int)) := by rw [blk_cell hv6]; rfl
      have p1 : u6.cell? ⟨u1.heap.size, 1, none⟩ = some (.int .i64 (vn : Int)) := by rw [blk_cell hv6]; rfl
      have p3 : u6.cell? ⟨u1.heap.size, 3, none⟩ = some (.string ⟨vt.toArray⟩) := by rw [blk_cell hv6]; rfl
      have p2 : u6.cell? ⟨bw, 2, none⟩ = some (.pointer (some ⟨b2, 0, none⟩)) := by rw [blk_cell hw6]; rfl
      have lv6 := blk_lt hv6
      have lw6 := blk_lt hw6
      clear q0' q1 q2 q3 r2 f0
      generalize unitsR F = ur at *
      obtain ⟨cf, un⟩ := ur
      dsimp only at HUC ⊢
      go_wp2_with fail
      refine (truth_any lo b2 F hFW.len hFW.names hFW.all hFW.bits hFW.cl u6 (hR.later hB6)).mono ?_
      rintro e u7 ⟨rfl, c7⟩
      rw [unhide HTR]
      have hB7 := hB6.trans (c7.mono hB6.size)
      have hv7 := (c7.block _ (blk_lt hv6)).trans hv6
      have hw7 := hw6.later c7
      have o0 : u7.cell? ⟨u1.heap.size, 0, none⟩ = some (.int .i64 (vk : Int)) := by rw [blk_cell hv7]; rfl
      have o1 : u7.cell? ⟨u1.heap.size, 1, none⟩ = some (.int .i64 (vn : Int)) := by rw [blk_cell hv7]; rfl
      have o3 : u7.cell? ⟨u1.heap.size, 3, none⟩ = some (.string ⟨vt.toArray⟩) := by rw [blk_cell hv7]; rfl
      have o2 : u7.cell? ⟨bw, 2, none⟩ = some (.pointer (some ⟨b2, 0, none⟩)) := by rw [blk_cell hw7]; rfl
      have lv7 := blk_lt hv7
      have lw7 := blk_lt hw7
      clear p0 p1 p2 p3
      cases tr with
      | true =>
        have hvk : vk = 2 := unhide HVK
        have f1 : ((vk : Int) == 2) = true := by rw [beq_iff_eq]; omega
        have f1n : (vk == 2) = true := by rw [beq_iff_eq]; exact hvk
        have f1m : ((vk : Int) != 2) = false := by rw [bne, f1]; rfl
        clear hvk d0 d1 d2 d3 d1n d3n g1 g1n g2 g3 g3n g6 g6n hsh hmo2 hm512 g4 g4n HVD HUP HTR HSV HLN hv1 hv3 hv4 hw1a hw3 hw4 hw5 hv5 hu5 hB1 hB3 hB4 hR5 c1 c3 c4' c6' hPy hA1 hA4 e1 e1n
        try clear g5 g5n hup
        go_wp2_with fail
        clear o0 o1
        go_region_with (go_at_call 57; refine (proves_any lo b2 F vt _ ((hR.later hB7).later (Below.refl _ u7).drew) hFW).mono ?_; rintro e u8 ⟨hb8, hp⟩; rw [unhide HPR] at hp; have hp2 : e = .returned (.tuple #[.int .i64 2, .int .i64 0, .int .i64 0, .int .i64 (two : Int)]) := hp; subst hp2; clear hp; have c8 : Below u7.heap.size u7 u8 := (Below.refl _ u7).drew.trans hb8)
        all_goals
          have hB8 := hB7.trans (c8.mono hB7.size)
          have hv8 := (c8.block _ (blk_lt hv7)).trans hv7
          have hw8 := hw7.later c8
          have n0 : u8.cell? ⟨u1.heap.size, 0, none⟩ = some (.int .i64 (vk : Int)) := by rw [blk_cell hv8]; rfl
          have n1 : u8.cell? ⟨u1.heap.size, 1, none⟩ = some (.int .i64 (vn : Int)) := by rw [blk_cell hv8]; rfl
          have n3 : u8.cell? ⟨u1.heap.size, 3, none⟩ = some (.string ⟨vt.toArray⟩) := by rw [blk_cell hv8]; rfl
          have m3 : u8.cell? ⟨bw, 3, none⟩ = some (S proof) := by rw [blk_cell hw8]; rfl
          have z3 := blk_free hw8 3
          have lv8 := blk_lt hv8
          have lw8 := blk_lt hw8
          have hneb : u1.heap.size ≠ bw := by have := blk_lt hw1; omega
          have hw9 := hw8.setProof vt
          have hv9 := blk_other hv8 (c := bw) (fun e => hneb e.symm) 3 (S vt)
          have t1 : (u8.setCell ⟨bw, 3, none⟩ (S vt)).cell? ⟨u1.heap.size, 1, none⟩ = some (.int .i64 (vn : Int)) := by rw [blk_cell hv9]; rfl
          have hO9 := (Only.of_below (T := (· = bw)) hB8).setAt 3 (S vt)
          cases cf with
          | false =>
            go_wp2_with fail
            go_ret
            exact ⟨rfl, hO9, vt, hw9, by omega⟩
          | true =>
            obtain ⟨hn1, h2u⟩ := unhide HUC rfl
            have x1 : ((vn : Int) == 1) = true := by rw [beq_iff_eq]; omega
            have x1n : (vn == 1) = true := by rw [beq_iff_eq]; exact hn1
            have x2 : decide ((two : Int) ≤ (un : Int)) = true := decide_eq_true (by omega)
            have x2n : decide (two ≤ un) = true := decide_eq_true h2u
            clear hn1 h2u
            go_wp2_with fail
            go_ret
            exact ⟨rfl, hO9, vt, hw9, by omega⟩
      | false =>
        have hvk : vk = 1 := unhide HVK
        have f1 : ((vk : Int) == 1) = true := by rw [beq_iff_eq]; omega
        have f1n : (vk == 1) = true := by rw [beq_iff_eq]; exact hvk
        have f1m : ((vk : Int) != 1) = false := by rw [bne, f1]; rfl
        clear hvk d0 d1 d2 d3 d1n d3n g1 g1n g2 g3 g3n g6 g6n hsh hmo2 hm512 g4 g4n HVD HUP HTR HSV HLN hv1 hv3 hv4 hw1a hw3 hw4 hw5 hv5 hu5 hB1 hB3 hB4 hR5 c1 c3 c4' c6' hPy hA1 hA4 e1 e1n
        try clear g5 g5n hup
        go_wp2_with fail
        clear o0 o1
        go_region_with (go_at_call 57; refine (proves_any lo b2 F vt _ ((hR.later hB7).later (Below.refl _ u7).drew) hFW).mono ?_; rintro e u8 ⟨hb8, hp⟩; rw [unhide HPR] at hp; have hp2 : e = .returned (.tuple #[.int .i64 1, .int .i64 0, .int .i64 0, .int .i64 (two : Int)]) := hp; subst hp2; clear hp; have c8 : Below u7.heap.size u7 u8 := (Below.refl _ u7).drew.trans hb8)
        all_goals
          have hB8 := hB7.trans (c8.mono hB7.size)
          have hv8 := (c8.block _ (blk_lt hv7)).trans hv7
          have hw8 := hw7.later c8
          have n0 : u8.cell? ⟨u1.heap.size, 0, none⟩ = some (.int .i64 (vk : Int)) := by rw [blk_cell hv8]; rfl
          have n1 : u8.cell? ⟨u1.heap.size, 1, none⟩ = some (.int .i64 (vn : Int)) := by rw [blk_cell hv8]; rfl
          have n3 : u8.cell? ⟨u1.heap.size, 3, none⟩ = some (.string ⟨vt.toArray⟩) := by rw [blk_cell hv8]; rfl
          have m3 : u8.cell? ⟨bw, 3, none⟩ = some (S proof) := by rw [blk_cell hw8]; rfl
          have z3 := blk_free hw8 3
          have lv8 := blk_lt hv8
          have lw8 := blk_lt hw8
          have hneb : u1.heap.size ≠ bw := by have := blk_lt hw1; omega
          have hw9 := hw8.setProof vt
          have hv9 := blk_other hv8 (c := bw) (fun e => hneb e.symm) 3 (S vt)
          have t1 : (u8.setCell ⟨bw, 3, none⟩ (S vt)).cell? ⟨u1.heap.size, 1, none⟩ = some (.int .i64 (vn : Int)) := by rw [blk_cell hv9]; rfl
          have hO9 := (Only.of_below (T := (· = bw)) hB8).setAt 3 (S vt)
          cases cf with
          | false =>
            go_wp2_with fail
            go_ret
            exact ⟨rfl, hO9, vt, hw9, by omega⟩
          | true =>
            obtain ⟨hn1, h2u⟩ := unhide HUC rfl
            have x1 : ((vn : Int) == 1) = true := by rw [beq_iff_eq]; omega
            have x1n : (vn == 1) = true := by rw [beq_iff_eq]; exact hn1
            have x2 : decide ((two : Int) ≤ (un : Int)) = true := decide_eq_true (by omega)
            have x2n : decide (two ≤ un) = true := decide_eq_true h2u
            clear hn1 h2u
            go_wp2_with fail
            go_ret
            exact ⟨rfl, hO9, vt, hw9, by omega⟩
    · have g4 : decide ((0 : Int) < (bn : Int)) = true := decide_eq_true (by omega)
      have g4n : decide (0 < bn) = true := decide_eq_true (by omega)
      have hup : vn ≤ bn := unhide HUP (by omega)
      have g5 : decide ((bn : Int) < (vn : Int)) = false := decide_eq_false (by omega)
      have g5n : decide (bn < vn) = false := decide_eq_false (by omega)
      clear hb0
      go_wp2_with fail
      have hB5' := hB5
      generalize (u4.alloc (.cells #[.int .i64 (vk : Int), .int .i64 (vn : Int), .int .i64 (vm : Int), .string ⟨vt.toArray⟩] 54)) = u5 at *
      refine (units_any lo b2 F u5 hR5 hFW.bits hFW.cl hFW.all).mono ?_
      rintro e u6 ⟨rfl, c6'⟩
      have hB6 := hB5.trans (c6'.mono hB5.size)
      have hv6 := (c6'.block _ (blk_lt hv5)).trans hv5
      have hw6 := hw5.later c6'
      have p0 : u6.cell? ⟨u1.heap.size, 0, none⟩ = some (.int .i64 (vk : Int)) := by rw [blk_cell hv6]; rfl
      have p1 : u6.cell? ⟨u1.heap.size, 1, none⟩ = some (.int .i64 (vn : Int)) := by rw [blk_cell hv6]; rfl
      have p3 : u6.cell? ⟨u1.heap.size, 3, none⟩ = some (.string ⟨vt.toArray⟩) := by rw [blk_cell hv6]; rfl
      have p2 : u6.cell? ⟨bw, 2, none⟩ = some (.pointer (some ⟨b2, 0, none⟩)) := by rw [blk_cell hw6]; rfl
      have lv6 := blk_lt hv6
      have lw6 := blk_lt hw6
      clear q0' q1 q2 q3 r2 f0
      generalize unitsR F = ur at *
      obtain ⟨cf, un⟩ := ur
      dsimp only at HUC ⊢
      go_wp2_with fail
      refine (truth_any lo b2 F hFW.len hFW.names hFW.all hFW.bits hFW.cl u6 (hR.later hB6)).mono ?_
      rintro e u7 ⟨rfl, c7⟩
      rw [unhide HTR]
      have hB7 := hB6.trans (c7.mono hB6.size)
      have hv7 := (c7.block _ (blk_lt hv6)).trans hv6
      have hw7 := hw6.later c7
      have o0 : u7.cell? ⟨u1.heap.size, 0, none⟩ = some (.int .i64 (vk : Int)) := by rw [blk_cell hv7]; rfl
      have o1 : u7.cell? ⟨u1.heap.size, 1, none⟩ = some (.int .i64 (vn : Int)) := by rw [blk_cell hv7]; rfl
      have o3 : u7.cell? ⟨u1.heap.size, 3, none⟩ = some (.string ⟨vt.toArray⟩) := by rw [blk_cell hv7]; rfl
      have o2 : u7.cell? ⟨bw, 2, none⟩ = some (.pointer (some ⟨b2, 0, none⟩)) := by rw [blk_cell hw7]; rfl
      have lv7 := blk_lt hv7
      have lw7 := blk_lt hw7
      clear p0 p1 p2 p3
      cases tr with
      | true =>
        have hvk : vk = 2 := unhide HVK
        have f1 : ((vk : Int) == 2) = true := by rw [beq_iff_eq]; omega
        have f1n : (vk == 2) = true := by rw [beq_iff_eq]; exact hvk
        have f1m : ((vk : Int) != 2) = false := by rw [bne, f1]; rfl
        clear hvk d0 d1 d2 d3 d1n d3n g1 g1n g2 g3 g3n g6 g6n hsh hmo2 hm512 g4 g4n HVD HUP HTR HSV HLN hv1 hv3 hv4 hw1a hw3 hw4 hw5 hv5 hu5 hB1 hB3 hB4 hR5 c1 c3 c4' c6' hPy hA1 hA4 e1 e1n
        try clear g5 g5n hup
        go_wp2_with fail
        clear o0 o1
        go_region_with (go_at_call 57; refine (proves_any lo b2 F vt _ ((hR.later hB7).later (Below.refl _ u7).drew) hFW).mono ?_; rintro e u8 ⟨hb8, hp⟩; rw [unhide HPR] at hp; have hp2 : e = .returned (.tuple #[.int .i64 2, .int .i64 0, .int .i64 0, .int .i64 (two : Int)]) := hp; subst hp2; clear hp; have c8 : Below u7.heap.size u7 u8 := (Below.refl _ u7).drew.trans hb8)
        all_goals
          have hB8 := hB7.trans (c8.mono hB7.size)
          have hv8 := (c8.block _ (blk_lt hv7)).trans hv7
          have hw8 := hw7.later c8
          have n0 : u8.cell? ⟨u1.heap.size, 0, none⟩ = some (.int .i64 (vk : Int)) := by rw [blk_cell hv8]; rfl
          have n1 : u8.cell? ⟨u1.heap.size, 1, none⟩ = some (.int .i64 (vn : Int)) := by rw [blk_cell hv8]; rfl
          have n3 : u8.cell? ⟨u1.heap.size, 3, none⟩ = some (.string ⟨vt.toArray⟩) := by rw [blk_cell hv8]; rfl
          have m3 : u8.cell? ⟨bw, 3, none⟩ = some (S proof) := by rw [blk_cell hw8]; rfl
          have z3 := blk_free hw8 3
          have lv8 := blk_lt hv8
          have lw8 := blk_lt hw8
          have hneb : u1.heap.size ≠ bw := by have := blk_lt hw1; omega
          have hw9 := hw8.setProof vt
          have hv9 := blk_other hv8 (c := bw) (fun e => hneb e.symm) 3 (S vt)
          have t1 : (u8.setCell ⟨bw, 3, none⟩ (S vt)).cell? ⟨u1.heap.size, 1, none⟩ = some (.int .i64 (vn : Int)) := by rw [blk_cell hv9]; rfl
          have hO9 := (Only.of_below (T := (· = bw)) hB8).setAt 3 (S vt)
          cases cf with
          | false =>
            go_wp2_with fail
            go_ret
            exact ⟨rfl, hO9, vt, hw9, by omega⟩
          | true =>
            obtain ⟨hn1, h2u⟩ := unhide HUC rfl
            have x1 : ((vn : Int) == 1) = true := by rw [beq_iff_eq]; omega
            have x1n : (vn == 1) = true := by rw [beq_iff_eq]; exact hn1
            have x2 : decide ((two : Int) ≤ (un : Int)) = true := decide_eq_true (by omega)
            have x2n : decide (two ≤ un) = true := decide_eq_true h2u
            clear hn1 h2u
            go_wp2_with fail
            go_ret
            exact ⟨rfl, hO9, vt, hw9, by omega⟩
      | false =>
        have hvk : vk = 1 := unhide HVK
        have f1 : ((vk : Int) == 1) = true := by rw [beq_iff_eq]; omega
        have f1n : (vk == 1) = true := by rw [beq_iff_eq]; exact hvk
        have f1m : ((vk : Int) != 1) = false := by rw [bne, f1]; rfl
        clear hvk d0 d1 d2 d3 d1n d3n g1 g1n g2 g3 g3n g6 g6n hsh hmo2 hm512 g4 g4n HVD HUP HTR HSV HLN hv1 hv3 hv4 hw1a hw3 hw4 hw5 hv5 hu5 hB1 hB3 hB4 hR5 c1 c3 c4' c6' hPy hA1 hA4 e1 e1n
        try clear g5 g5n hup
        go_wp2_with fail
        clear o0 o1
        go_region_with (go_at_call 57; refine (proves_any lo b2 F vt _ ((hR.later hB7).later (Below.refl _ u7).drew) hFW).mono ?_; rintro e u8 ⟨hb8, hp⟩; rw [unhide HPR] at hp; have hp2 : e = .returned (.tuple #[.int .i64 1, .int .i64 0, .int .i64 0, .int .i64 (two : Int)]) := hp; subst hp2; clear hp; have c8 : Below u7.heap.size u7 u8 := (Below.refl _ u7).drew.trans hb8)
        all_goals
          have hB8 := hB7.trans (c8.mono hB7.size)
          have hv8 := (c8.block _ (blk_lt hv7)).trans hv7
          have hw8 := hw7.later c8
          have n0 : u8.cell? ⟨u1.heap.size, 0, none⟩ = some (.int .i64 (vk : Int)) := by rw [blk_cell hv8]; rfl
          have n1 : u8.cell? ⟨u1.heap.size, 1, none⟩ = some (.int .i64 (vn : Int)) := by rw [blk_cell hv8]; rfl
          have n3 : u8.cell? ⟨u1.heap.size, 3, none⟩ = some (.string ⟨vt.toArray⟩) := by rw [blk_cell hv8]; rfl
          have m3 : u8.cell? ⟨bw, 3, none⟩ = some (S proof) := by rw [blk_cell hw8]; rfl
          have z3 := blk_free hw8 3
          have lv8 := blk_lt hv8
          have lw8 := blk_lt hw8
          have hneb : u1.heap.size ≠ bw := by have := blk_lt hw1; omega
          have hw9 := hw8.setProof vt
          have hv9 := blk_other hv8 (c := bw) (fun e => hneb e.symm) 3 (S vt)
          have t1 : (u8.setCell ⟨bw, 3, none⟩ (S vt)).cell? ⟨u1.heap.size, 1, none⟩ = some (.int .i64 (vn : Int)) := by rw [blk_cell hv9]; rfl
          have hO9 := (Only.of_below (T := (· = bw)) hB8).setAt 3 (S vt)
          cases cf with
          | false =>
            go_wp2_with fail
            go_ret
            exact ⟨rfl, hO9, vt, hw9, by omega⟩
          | true =>
            obtain ⟨hn1, h2u⟩ := unhide HUC rfl
            have x1 : ((vn : Int) == 1) = true := by rw [beq_iff_eq]; omega
            have x1n : (vn == 1) = true := by rw [beq_iff_eq]; exact hn1
            have x2 : decide ((two : Int) ≤ (un : Int)) = true := decide_eq_true (by omega)
            have x2n : decide (two ≤ un) = true := decide_eq_true h2u
            clear hn1 h2u
            go_wp2_with fail
            go_ret
            exact ⟨rfl, hO9, vt, hw9, by omega⟩
end Go.Proofs.YtgipjjhkhfihpaaGreatDoor
