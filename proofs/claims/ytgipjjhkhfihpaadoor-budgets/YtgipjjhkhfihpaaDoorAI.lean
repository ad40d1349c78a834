import Derived.Test.YtgipjjhkhfihpaaDoorAE
namespace Go.Proofs.YtgipjjhkhfihpaaDoor
open Go.RowKit

/-! ### Units -/
def deadC (t n : Nat) (c : Nat × Nat) : Bool := (less c.1 n == 0) && (less c.2 t == 0)
def oneB (p q : Nat) : Bool := (p &&& (p - 1) == 0) && ((q &&& (q - 1) == 0) && ((p == 0) || (q == 0)))
def unitC (all t n : Nat) (c : Nat × Nat) : Bool := oneB (less c.1 n) (less c.2 t) && (((less c.1 n ||| less c.2 t) &&& all == 0) && ((less c.1 n &&& t == 0) && (less c.2 t &&& n == 0)))
def unitsF (cl : List (Nat × Nat)) (all : Nat) : Nat → Nat → Nat → Nat → Bool × Nat
  | 0, k, _, _ => (false, k)
  | fuel + 1, k, t, n => if cl.any (deadC t n) then (true, k) else
    match cl.find? (unitC all t n) with
    | none => (false, k)
    | some c => unitsF cl all fuel (k + 1) (t ||| less c.1 n) (n ||| less c.2 t)
/-- Does making true, again and again, the one literal that is left leave a clause all false? How many were made true. -/
def unitsR (F : Form) : Bool × Nat := unitsF F.cl F.all 1024 0 0 0

theorem or_more (t p : Nat) (hp : p ≠ 0) (h : p &&& t = 0) : t < t ||| p := by
  have hle : t ≤ t ||| p := Nat.left_le_or
  rcases Nat.lt_or_ge t (t ||| p) with h1 | h1
  · exact h1
  · exfalso
    have e : t ||| p = t := Nat.le_antisymm h1 hle
    apply hp
    apply Nat.eq_of_testBit_eq
    intro i
    have h2 : (t ||| p).testBit i = t.testBit i := by rw [e]
    have h3 : (p &&& t).testBit i = false := by rw [h]; simp
    rw [Nat.testBit_or] at h2
    rw [Nat.testBit_and] at h3
    rw [Nat.zero_testBit]
    cases hh : p.testBit i with
    | false => rfl
    | true => rw [hh] at h2 h3; simp at h2 h3; rw [h2] at h3; cases h3
theorem and_pred (p : Nat) (h : p < 512) : (bits .and .i64 (p : Int) ((p : Int) - 1) == 0) = (p &&& (p - 1) == 0) := by
  cases p with
  | zero => decide
  | succ p =>
    rw [show (((p + 1 : Nat) : Int) - 1) = ((p : Nat) : Int) from by omega, i64_and _ _ (by omega) (by omega), nat_beq_zero]
    rfl
theorem anyc_take (cl : List (Nat × Nat)) (f : Nat × Nat → Bool) (k : Nat) (h : k < cl.length) : (cl.take (k + 1)).any f = ((cl.take k).any f || f cl[k]) := by
  rw [List.take_succ_eq_append_getElem h, List.any_append]; simp
theorem any_hit (cl : List (Nat × Nat)) (f : Nat × Nat → Bool) (k : Nat) (h : k < cl.length) (hf : f cl[k] = true) : cl.any f = true := by
  rw [List.any_eq_true]; exact ⟨_, List.getElem_mem h, hf⟩
theorem find_hit (cl : List (Nat × Nat)) (f : Nat × Nat → Bool) (k : Nat) (h : k < cl.length) (hno : (cl.take k).any f = false) (hf : f cl[k] = true) : cl.find? f = some cl[k] := by
  conv => lhs; rw [← List.take_append_drop k cl, List.drop_eq_getElem_cons h]
  rw [List.find?_append]
  have : (cl.take k).find? f = none := by
    rw [List.find?_eq_none]
    intro x hx hh
    rw [List.any_eq_false] at hno
    exact hno x hx hh
  rw [this, List.find?_cons, hf]
  rfl
theorem find_no (cl : List (Nat × Nat)) (f : Nat × Nat → Bool) (hno : cl.any f = false) : cl.find? f = none := by
  rw [List.find?_eq_none]
  intro x hx hh
  rw [List.any_eq_false] at hno
  exact hno x hx hh

end Go.Proofs.YtgipjjhkhfihpaaDoor
