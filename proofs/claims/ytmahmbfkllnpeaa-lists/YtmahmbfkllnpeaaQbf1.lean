import Derived.Test.YtmahmbfkllnpeaaLits
import Derived.Test.YtmahmbfkllnpeaaReadFin
namespace Go.Proofs.Ytmahmbfkllnpeaa
open Go.RowKit

/-- What the program holds of a formula. -/
structure QS where
  vars : List (Nat × Bool)
  cl : List (Nat × Nat)
def varCells (l : List (Nat × Bool)) : List Value := l.flatMap (fun x => [Value.int .i64 (x.1 : Int), Value.bool x.2])
theorem varCells_length (l : List (Nat × Bool)) : (varCells l).length = l.length * 2 := by
  induction l with
  | nil => rfl
  | cons a l ih => simp [varCells] at *; omega
theorem varCells_snoc (l : List (Nat × Bool)) (x : Nat × Bool) : varCells (l ++ [x]) = varCells l ++ [Value.int .i64 (x.1 : Int), Value.bool x.2] := by simp [varCells]
theorem varCells_at (l : List (Nat × Bool)) (k : Nat) (h : k < l.length) : (varCells l)[k * 2]? = some (.int .i64 (l[k].1 : Int)) ∧ (varCells l)[k * 2 + 1]? = some (.bool l[k].2) := by
  induction l generalizing k with
  | nil => simp at h
  | cons a l ih =>
    cases k with
    | zero => simp [varCells]
    | succ k =>
      have := ih k (by simpa using h)
      simp only [varCells, List.flatMap_cons] at this ⊢
      constructor
      · rw [show (k + 1) * 2 = k * 2 + 2 from by omega, List.getElem?_append_right (by simp)]
        simpa using this.1
      · rw [show (k + 1) * 2 + 1 = k * 2 + 1 + 2 from by omega, List.getElem?_append_right (by simp)]
        simpa using this.2
theorem pairs_at (l : List (Nat × Nat)) (k : Nat) (h : k < l.length) : (pairs l)[k * 2]? = some (.int .i64 (l[k].1 : Int)) ∧ (pairs l)[k * 2 + 1]? = some (.int .i64 (l[k].2 : Int)) := by
  induction l generalizing k with
  | nil => simp at h
  | cons a l ih =>
    cases k with
    | zero => simp [pairs]
    | succ k =>
      have := ih k (by simpa using h)
      simp only [pairs, List.flatMap_cons] at this ⊢
      constructor
      · rw [show (k + 1) * 2 = k * 2 + 2 from by omega, List.getElem?_append_right (by simp)]
        simpa using this.1
      · rw [show (k + 1) * 2 + 1 = k * 2 + 1 + 2 from by omega, List.getElem?_append_right (by simp)]
        simpa using this.2

/-- The program's formula lies at block b, its rows from base on. -/
structure QInv (base : Nat) (w : World) (b : Nat) (q : QS) (vV vC : Value) : Prop where
  fb : w.heap[b]? = some (.cells #[vV, vC] 84 (0, 0))
  oV : w.ownsRow base 105 2 vV q.vars.length (varCells q.vars)
  oC : w.ownsRow base 110 2 vC q.cl.length (pairs q.cl)
theorem QInv.later {base b : Nat} {w w' : World} {q : QS} {vV vC : Value} (h : QInv base w b q vV vC) (hb : Below w.heap.size w w') : QInv base w' b q vV vC :=
  ⟨(hb.block b (blk_lt h.fb)).trans h.fb, own_below h.oV hb, own_below h.oC hb⟩

def hasV (vs : List (Nat × Bool)) (v : Nat) : Bool := vs.any (fun x => x.1 == v)
theorem hasV_take (vs : List (Nat × Bool)) (v k : Nat) (h : k < vs.length) : hasV (vs.take (k + 1)) v = (hasV (vs.take k) v || (vs[k].1 == v)) := by
  unfold hasV; rw [List.take_succ_eq_append_getElem h, List.any_append]; simp
theorem hasV_of_take (vs : List (Nat × Bool)) (v k : Nat) (h : hasV (vs.take k) v = true) : hasV vs v = true := by
  unfold hasV at *
  rw [List.any_eq_true] at *
  obtain ⟨x, hx, hv⟩ := h
  exact ⟨x, List.mem_of_mem_take hx, hv⟩

set_option maxRecDepth 100000 in
set_option maxHeartbeats 800000 in
theorem qhas_any (base b : Nat) (q : QS) (vV vC : Value) (v : Nat) (w : World) (hq : QInv base w b q vV vC) (hl : q.vars.length ≤ 1073741824) :
    Calls Try.prog 55 #[.pointer (some ⟨b, 0, none⟩), .int .i64 v] w fun e w' => e = .returned (.bool (hasV q.vars v)) ∧ Below w.heap.size w w' := by
  have hc0 : w.cell? ⟨b, 0, none⟩ = some vV := by rw [blk_cell hq.fb]; rfl
  obtain ⟨aV, cV, rfl⟩ := own_form hq.oV
  go_enter Try.func55, Try.ntmps55
  go_wp2_with fail
  go_loopg [12] (q.vars.length) (fun n i wx => ∃ k : Nat, i = .int .i64 k ∧ k + n = q.vars.length ∧ hasV (q.vars.take k) v = false ∧ Below w.heap.size w wx)
  case atStart => exact ⟨0, rfl, by omega, rfl, Below.refl _ _⟩
  case round =>
    obtain ⟨k, rfl, hk, hno, hb⟩ := hrel
    have HNO := hide hno; clear hno
    have hbs := hb.size
    by_cases hlt : k < q.vars.length
    · obtain ⟨g, cap, hV, hg, hg', _, hcell⟩ := own_pos hq.oV (by omega)
      injection hV with hV _ hV2
      subst hV hV2
      have hgw : g < wr.heap.size := by omega
      obtain ⟨ha, hb'⟩ := varCells_at q.vars k hlt
      have hx0 : wr.cell? ⟨g, k * 2, none⟩ = some (.int .i64 (q.vars[k].1 : Int)) := by rw [hb.cell (p := ⟨g, k * 2, none⟩) hg']; exact hcell _ _ ha
      have hx1 : wr.cell? ⟨g, k * 2 + 1, none⟩ = some (.bool q.vars[k].2) := by rw [hb.cell (p := ⟨g, k * 2 + 1, none⟩) hg']; exact hcell _ _ hb'
      have HT := hide (hasV_take q.vars v k hlt)
      clear hcell ha hb'
      by_cases hv : q.vars[k].1 = v
      · have hvb : ((q.vars[k].1 : Int) == (v : Int)) = true := by rw [beq_iff_eq]; omega
        have HF := hide (hasV_of_take q.vars v (k + 1) (by rw [unhide HT]; simp [hv]))
        clear hv
        go_wp2_with fail
        go_ret
        exact ⟨ret_bool (unhide HF).symm, hb.alloc hbs _⟩
      · have hvb : ((q.vars[k].1 : Int) == (v : Int)) = false := by rw [beq_eq_false_iff_ne]; omega
        have HV := hide hv; clear hv
        go_wp2_with fail
        go_roundg (gk - 1)
        case measure => omega
        case rel =>
          refine ⟨k + 1, by go_num, by omega, ?_, hb.alloc hbs _⟩
          rw [unhide HT, unhide HNO]; simpa using unhide HV
    · have hkl : k = q.vars.length := by omega
      subst hkl
      have hno := unhide HNO
      rw [List.take_length] at hno
      have HF := hide hno; clear hno
      go_wp2_with fail
      go_ret
      exact ⟨ret_bool (unhide HF).symm, hb⟩

/-! ### inClauses -/
def inC (cl : List (Nat × Nat)) (v : Int) : Bool := cl.any (fun c => (c.1 ||| c.2) &&& bitOf v != 0)
theorem inC_take (cl : List (Nat × Nat)) (v : Int) (k : Nat) (h : k < cl.length) : inC (cl.take (k + 1)) v = (inC (cl.take k) v || ((cl[k].1 ||| cl[k].2) &&& bitOf v != 0)) := by
  unfold inC; rw [List.take_succ_eq_append_getElem h, List.any_append]; simp
theorem inC_of_take (cl : List (Nat × Nat)) (v : Int) (k : Nat) (h : inC (cl.take k) v = true) : inC cl v = true := by
  unfold inC at *
  rw [List.any_eq_true] at *
  obtain ⟨x, hx, hv⟩ := h
  exact ⟨x, List.mem_of_mem_take hx, hv⟩

set_option maxRecDepth 100000 in
set_option maxHeartbeats 800000 in
theorem qin_any (base b : Nat) (q : QS) (vV vC : Value) (v : Int) (w : World) (hq : QInv base w b q vV vC) (hl : q.cl.length ≤ 1048576) (hcl : ∀ c ∈ q.cl, c.1 < 512 ∧ c.2 < 512) :
    Calls Try.prog 56 #[.pointer (some ⟨b, 0, none⟩), .int .i64 v] w fun e w' => e = .returned (.bool (inC q.cl v)) ∧ Below w.heap.size w w' := by
  have hc0 : w.cell? ⟨b, 1, none⟩ = some vC := by rw [blk_cell hq.fb]; rfl
  have HCL := hide hcl; clear hcl
  obtain ⟨aV, cV, rfl⟩ := own_form hq.oC
  go_enter Try.func56, Try.ntmps56
  go_wp2_with fail
  go_loopg [12] (q.cl.length) (fun n i wx => ∃ k : Nat, i = .int .i64 k ∧ k + n = q.cl.length ∧ inC (q.cl.take k) v = false ∧ Below w.heap.size w wx)
  case atStart => exact ⟨0, rfl, by omega, rfl, Below.refl _ _⟩
  case round =>
    obtain ⟨k, rfl, hk, hno, hb⟩ := hrel
    have HNO := hide hno; clear hno
    have hbs := hb.size
    by_cases hlt : k < q.cl.length
    · obtain ⟨g, cap, hV, hg, hg', _, hcell⟩ := own_pos hq.oC (by omega)
      injection hV with hV _ hV2
      subst hV hV2
      have hgw : g < wr.heap.size := by omega
      obtain ⟨ha, hb'⟩ := pairs_at q.cl k hlt
      have hx0 : wr.cell? ⟨g, k * 2, none⟩ = some (.int .i64 (q.cl[k].1 : Int)) := by rw [hb.cell (p := ⟨g, k * 2, none⟩) hg']; exact hcell _ _ ha
      have hx1 : wr.cell? ⟨g, k * 2 + 1, none⟩ = some (.int .i64 (q.cl[k].2 : Int)) := by rw [hb.cell (p := ⟨g, k * 2 + 1, none⟩) hg']; exact hcell _ _ hb'
      have HT := hide (inC_take q.cl v k hlt)
      have hbd := unhide HCL _ (List.getElem_mem hlt)
      have HOF := hide (inC_of_take q.cl v (k + 1))
      clear hcell ha hb'
      generalize q.cl[k] = c at *
      obtain ⟨p, n⟩ := c
      go_wp2_with fail
      refine (hasVar_any p n v _ hbd.1 hbd.2).mono ?_
      rintro e w2 ⟨rfl, hb2⟩
      have hb3 : Below w.heap.size w w2 := (hb.alloc hbs _).trans (hb2.mono (by simp; omega))
      cases hh : ((p ||| n) &&& bitOf v != 0) with
      | true =>
        have HF := hide (unhide HOF (by rw [unhide HT]; simp only [hh]; simp))
        go_wp2_with fail
        go_ret
        exact ⟨ret_bool (unhide HF).symm, hb3⟩
      | false =>
        go_wp2_with fail
        go_roundg (gk - 1)
        case measure => omega
        case rel => exact ⟨k + 1, by go_num, by omega, by rw [unhide HT, unhide HNO]; simp only [hh]; rfl, hb3⟩
    · have hkl : k = q.cl.length := by omega
      subst hkl
      have hno := unhide HNO
      rw [List.take_length] at hno
      have HF := hide hno; clear hno
      go_wp2_with fail
      go_ret
      exact ⟨ret_bool (unhide HF).symm, hb⟩
end Go.Proofs.Ytmahmbfkllnpeaa
