import Derived.Test.YtbpolmdokdhkhaaLits
import Derived.Test.YtbpolmdokdhkhaaReadFin
namespace Go.Proofs.Ytbpolmdokdhkhaa
open Go.RowKit

/-- What the program holds of a formula. -/
structure QS where
  vars : List (Nat × Bool)
  cl : List (Nat × Nat)
def varCells (l : List (Nat × Bool)) : List Value := l.flatMap (fun x => [Value.int .i64 (x.1 : Int), Value.bool x.2])
theorem varCells_length (l : List (Nat × Bool)) : (varCells l).length = l.length * 2 := by
  induction l with
  | nil => rfl
  | cons a l ih => simp [varCells] at *; omega
theorem varCells_snoc (l : List (Nat × Bool)) (x : Nat × Bool) : varCells (l ++ [x]) = varCells l ++ [Value.int .i64 (x.1 : Int), Value.bool x.2] := by simp [varCells]
theorem varCells_at (l : List (Nat × Bool)) (k : Nat) (h : k < l.length) : (varCells l)[k * 2]? = some (.int .i64 (l[k].1 : Int)) ∧ (varCells l)[k * 2 + 1]? = some (.bool l[k].2) := by
  induction l generalizing k with
  | nil => simp at h
  | cons a l ih =>
    cases k with
    | zero => simp [varCells]
    | succ k =>
      have := ih k (by simpa using h)
      simp only [varCells, List.flatMap_cons] at this ⊢
      constructor
      · rw [show (k + 1) * 2 = k * 2 + 2 from by omega, List.getElem?_append_right (by simp)]
        simpa using this.1
      · rw [show (k + 1) * 2 + 1 = k * 2 + 1 + 2 from by omega, List.getElem?_append_right (by simp)]
        simpa using this.2
theorem pairs_at (l : List (Nat × Nat)) (k : Nat) (h : k < l.length) : (pairs l)[k * 2]? = some (.int .i64 (l[k].1 : Int)) ∧ (pairs l)[k * 2 + 1]? = some (.int .i64 (l[k].2 : Int)) := by
  induction l generalizing k with
  | nil => simp at h
  | cons a l ih =>
    cases k with
    | zero => simp [pairs]
    | succ k =>
      have := ih k (by simpa using h)
      simp only [pairs, List.flatMap_cons] at this ⊢
      constructor
      · rw [show (k + 1) * 2 = k * 2 + 2 from by omega, List.getElem?_append_right (by simp)]
        simpa using this.1
      · rw [show (k + 1) * 2 + 1 = k * 2 + 1 + 2 from by omega, List.getElem?_append_right (by simp)]
        simpa using this.2

/-- The program's formula lies at block b, its rows from base on. -/
structure QInv (base : Nat) (w : World) (b : Nat) (q : QS) (vV vC : Value) : Prop where
  fb : w.heap[b]? = some (.cells #[vV, vC] 44 (0, 0))
  oV : w.ownsRow base 91 2 vV q.vars.length (varCells q.vars)
  oC : w.ownsRow base 96 2 vC q.cl.length (pairs q.cl)
theorem QInv.later {base b : Nat} {w w' : World} {q : QS} {vV vC : Value} (h : QInv base w b q vV vC) (hb : Below w.heap.size w w') : QInv base w' b q vV vC :=
  ⟨(hb.block b (blk_lt h.fb)).trans h.fb, own_below h.oV hb, own_below h.oC hb⟩

def hasV (vs : List (Nat × Bool)) (v : Nat) : Bool := vs.any (fun x => x.1 == v)
theorem hasV_take (vs : List (Nat × Bool)) (v k : Nat) (h : k < vs.length) : hasV (vs.take (k + 1)) v = (hasV (vs.take k) v || (vs[k].1 == v)) := by
  unfold hasV; rw [List.take_succ_eq_append_getElem h, List.any_append]; simp
theorem hasV_of_take (vs : List (Nat × Bool)) (v k : Nat) (h : hasV (vs.take k) v = true) : hasV vs v = true := by
  unfold hasV at *
  rw [List.any_eq_true] at *
  obtain ⟨x, hx, hv⟩ := h
  exact ⟨x, List.mem_of_mem_take hx, hv⟩

theorem cell_lt {w : World} {b o : Nat} {v : Value} (h : w.cell? ⟨b, o, none⟩ = some v) : b < w.heap.size := by
  rcases Nat.lt_or_ge b w.heap.size with h1 | h1
  · exact h1
  · rw [World.cell?, Array.getElem?_eq_none h1] at h; cases h
/-- The variable with this number, and whether there is one. -/
def findV (vs : List (Nat × Bool)) (v : Nat) : Option (Nat × Bool) := vs.find? (fun x => x.1 == v)
theorem findV_hit (vs : List (Nat × Bool)) (v k : Nat) (h : k < vs.length) (hno : hasV (vs.take k) v = false) (hv : vs[k].1 = v) : findV vs v = some vs[k] := by
  unfold findV
  conv => lhs; rw [← List.take_append_drop k vs, List.drop_eq_getElem_cons h]
  rw [List.find?_append]
  have : (vs.take k).find? (fun x => x.1 == v) = none := by
    rw [List.find?_eq_none]
    intro x hx hh
    unfold hasV at hno
    rw [List.any_eq_false] at hno
    exact hno x hx hh
  rw [this, List.find?_cons, show (vs[k].1 == v) = true from by simp [hv]]
  rfl
theorem findV_none (vs : List (Nat × Bool)) (v : Nat) (h : hasV vs v = false) : findV vs v = none := by
  unfold findV; rw [List.find?_eq_none]
  intro x hx hh
  unfold hasV at h
  rw [List.any_eq_false] at h
  exact h x hx hh
theorem hasV_find (vs : List (Nat × Bool)) (v : Nat) : (findV vs v).isSome = hasV vs v := by
  unfold findV hasV; rw [List.isSome_find?]
def FindPost (vs : List (Nat × Bool)) (v : Nat) (w : World) (e : Ending) (w' : World) : Prop :=
  Below w.heap.size w w' ∧ e = .returned (.tuple #[.agg #[.int .i64 (((findV vs v).getD (0, false)).1 : Nat), .bool ((findV vs v).getD (0, false)).2], .bool (findV vs v).isSome])

set_option maxRecDepth 100000 in
set_option maxHeartbeats 800000 in
theorem find_any (base b : Nat) (vs : List (Nat × Bool)) (vV : Value) (v : Nat) (w : World) (hc0 : w.cell? ⟨b, 0, none⟩ = some vV) (hV : w.ownsRow base 91 2 vV vs.length (varCells vs)) (hl : vs.length ≤ 1073741824) :
    Calls Try.prog 42 #[.pointer (some ⟨b, 0, none⟩), .int .i64 v] w fun e w' => FindPost vs v w e w' := by
  obtain ⟨aV, cV, rfl⟩ := own_form hV
  have hbw := cell_lt hc0
  go_enter Try.func42, Try.ntmps42
  go_wp2_with fail
  go_loopg [13] (vs.length) (fun n i wx => ∃ k : Nat, i = .int .i64 k ∧ k + n = vs.length ∧ hasV (vs.take k) v = false ∧ Below w.heap.size w wx ∧ wx.heap[w.heap.size]? = some (.cells #[.int .i64 0, .bool false] 91 (0, 0)))
  case atStart => exact ⟨0, rfl, by omega, rfl, (Below.refl _ _).alloc (Nat.le_refl _) _, heap_alloc_new _ _⟩
  case round =>
    obtain ⟨k, rfl, hk, hno, hb, hres⟩ := hrel
    have HNO := hide hno; clear hno
    have hbs := blk_lt hres
    have hr0 : wr.cell? ⟨w.heap.size, 0, none⟩ = some (.int .i64 0) := by rw [blk_cell hres]; rfl
    have hr1 : wr.cell? ⟨w.heap.size, 1, none⟩ = some (.bool false) := by rw [blk_cell hres]; rfl
    have hz0 := blk_free hres 0
    have hz1 := blk_free hres 1
    by_cases hlt : k < vs.length
    · obtain ⟨g, cap, hVe, hg, hg', _, hcell⟩ := own_pos hV (by omega)
      injection hVe with hVe _ hV2
      subst hVe hV2
      have hgw : g < wr.heap.size := by omega
      obtain ⟨ha, hb'⟩ := varCells_at vs k hlt
      have hx0 : wr.cell? ⟨g, k * 2, none⟩ = some (.int .i64 (vs[k].1 : Int)) := by rw [hb.cell (p := ⟨g, k * 2, none⟩) hg']; exact hcell _ _ ha
      have hx1 : wr.cell? ⟨g, k * 2 + 1, none⟩ = some (.bool vs[k].2) := by rw [hb.cell (p := ⟨g, k * 2 + 1, none⟩) hg']; exact hcell _ _ hb'
      have HT := hide (hasV_take vs v k hlt)
      have HH := hide (findV_hit vs v k hlt (unhide HNO))
      clear hcell ha hb'
      by_cases hv : vs[k].1 = v
      · have hvb : ((vs[k].1 : Int) == (v : Int)) = true := by rw [beq_iff_eq]; omega
        have HF := hide (unhide HH hv)
        clear hv
        go_wp2_with fail
        have hR := blk_set (blk_set hres 0 (.int .i64 (vs[k].1 : Int))) 1 (.bool vs[k].2)
        have hR' := (heap_alloc_old _ (.cells #[.int .i64 (vs[k].1 : Int), .bool vs[k].2] 91) (blk_lt hR)).trans hR
        have k0 := blk_cell hR' 0
        have k1 := blk_cell hR' 1
        refine bodyPost_ret (v := .tuple #[.agg #[.int .i64 (vs[k].1 : Int), .bool vs[k].2], .bool true]) (by simp [results, Try.results42, go_sem, k0, k1]) rfl ⟨?_, by rw [unhide HF]; rfl⟩
        exact ((hb.setCell (p := ⟨w.heap.size, 0, none⟩) (Nat.le_refl _) _).setCell (p := ⟨w.heap.size, 1, none⟩) (Nat.le_refl _) _).alloc (by simp [World.setCell]; omega) _
      · have hvb : ((vs[k].1 : Int) == (v : Int)) = false := by rw [beq_eq_false_iff_ne]; omega
        have HV := hide hv; clear hv
        go_wp2_with fail
        go_roundg (gk - 1)
        case measure => omega
        case rel =>
          refine ⟨k + 1, by go_num, by omega, ?_, hb.alloc (by omega) _, (heap_alloc_old _ _ hbs).trans hres⟩
          rw [unhide HT, unhide HNO]; simpa using unhide HV
    · have hkl : k = vs.length := by omega
      subst hkl
      have hno := unhide HNO
      rw [List.take_length] at hno
      have HF := hide (findV_none vs v hno); clear hno
      go_wp2_with fail
      refine bodyPost_ret (v := .tuple #[.agg #[.int .i64 0, .bool false], .bool false]) (by simp [results, Try.results42, go_sem, hr0, hr1]) rfl ⟨?_, by rw [unhide HF]; rfl⟩
      exact (hb.setCell (p := ⟨w.heap.size, 0, none⟩) (Nat.le_refl _) _).setCell (p := ⟨w.heap.size, 1, none⟩) (Nat.le_refl _) _

/-! ### inClauses -/
def inC (cl : List (Nat × Nat)) (v : Int) : Bool := cl.any (fun c => (c.1 ||| c.2) &&& bitOf v != 0)
theorem inC_take (cl : List (Nat × Nat)) (v : Int) (k : Nat) (h : k < cl.length) : inC (cl.take (k + 1)) v = (inC (cl.take k) v || ((cl[k].1 ||| cl[k].2) &&& bitOf v != 0)) := by
  unfold inC; rw [List.take_succ_eq_append_getElem h, List.any_append]; simp
theorem inC_of_take (cl : List (Nat × Nat)) (v : Int) (k : Nat) (h : inC (cl.take k) v = true) : inC cl v = true := by
  unfold inC at *
  rw [List.any_eq_true] at *
  obtain ⟨x, hx, hv⟩ := h
  exact ⟨x, List.mem_of_mem_take hx, hv⟩

set_option maxRecDepth 100000 in
set_option maxHeartbeats 800000 in
theorem qin_any (base b : Nat) (q : QS) (vV vC : Value) (v : Int) (w : World) (hq : QInv base w b q vV vC) (hl : q.cl.length ≤ 1048576) (hcl : ∀ c ∈ q.cl, c.1 < 512 ∧ c.2 < 512) :
    Calls Try.prog 43 #[.pointer (some ⟨b, 0, none⟩), .int .i64 v] w fun e w' => e = .returned (.bool (inC q.cl v)) ∧ Below w.heap.size w w' := by
  have hc0 : w.cell? ⟨b, 1, none⟩ = some vC := by rw [blk_cell hq.fb]; rfl
  have HCL := hide hcl; clear hcl
  obtain ⟨aV, cV, rfl⟩ := own_form hq.oC
  go_enter Try.func43, Try.ntmps43
  go_wp2_with fail
  go_loopg [12] (q.cl.length) (fun n i wx => ∃ k : Nat, i = .int .i64 k ∧ k + n = q.cl.length ∧ inC (q.cl.take k) v = false ∧ Below w.heap.size w wx)
  case atStart => exact ⟨0, rfl, by omega, rfl, Below.refl _ _⟩
  case round =>
    obtain ⟨k, rfl, hk, hno, hb⟩ := hrel
    have HNO := hide hno; clear hno
    have hbs := hb.size
    by_cases hlt : k < q.cl.length
    · obtain ⟨g, cap, hV, hg, hg', _, hcell⟩ := own_pos hq.oC (by omega)
      injection hV with hV _ hV2
      subst hV hV2
      have hgw : g < wr.heap.size := by omega
      obtain ⟨ha, hb'⟩ := pairs_at q.cl k hlt
      have hx0 : wr.cell? ⟨g, k * 2, none⟩ = some (.int .i64 (q.cl[k].1 : Int)) := by rw [hb.cell (p := ⟨g, k * 2, none⟩) hg']; exact hcell _ _ ha
      have hx1 : wr.cell? ⟨g, k * 2 + 1, none⟩ = some (.int .i64 (q.cl[k].2 : Int)) := by rw [hb.cell (p := ⟨g, k * 2 + 1, none⟩) hg']; exact hcell _ _ hb'
      have HT := hide (inC_take q.cl v k hlt)
      have hbd := unhide HCL _ (List.getElem_mem hlt)
      have HOF := hide (inC_of_take q.cl v (k + 1))
      clear hcell ha hb'
      generalize q.cl[k] = c at *
      obtain ⟨p, n⟩ := c
      go_wp2_with fail
      refine (hasVar_any p n v _ hbd.1 hbd.2).mono ?_
      rintro e w2 ⟨rfl, hb2⟩
      have hb3 : Below w.heap.size w w2 := (hb.alloc hbs _).trans (hb2.mono (by simp; omega))
      cases hh : ((p ||| n) &&& bitOf v != 0) with
      | true =>
        have HF := hide (unhide HOF (by rw [unhide HT]; simp only [hh]; simp))
        go_wp2_with fail
        go_ret
        exact ⟨ret_bool (unhide HF).symm, hb3⟩
      | false =>
        go_wp2_with fail
        go_roundg (gk - 1)
        case measure => omega
        case rel => exact ⟨k + 1, by go_num, by omega, by rw [unhide HT, unhide HNO]; simp only [hh]; rfl, hb3⟩
    · have hkl : k = q.cl.length := by omega
      subst hkl
      have hno := unhide HNO
      rw [List.take_length] at hno
      have HF := hide hno; clear hno
      go_wp2_with fail
      go_ret
      exact ⟨ret_bool (unhide HF).symm, hb⟩
end Go.Proofs.Ytbpolmdokdhkhaa
