import Derived.Test.YtgipjjhkhfihpaaGreatDoorAA
import Derived.Deep.RegionWith
import Derived.Deep.QuietTactic
import Derived.BigQuiet
namespace Go.Proofs.YtgipjjhkhfihpaaGreatDoor
open Go.RowKit

def isDigit (c : UInt8) : Bool := decide (48 ≤ c.toNat ∧ c.toNat ≤ 57)
def dec (l : List UInt8) : Nat := l.foldl (fun n c => n * 10 + (c.toNat - 48)) 0
/-- The number that a word writes without noughts ahead, from 1 to most. -/
def numOf (l : List UInt8) (most : Nat) : Option Nat :=
  if l = [] ∨ l.head? = some 48 ∨ l.all isDigit = false ∨ most < dec l then none else some (dec l)
theorem dec_take (l : List UInt8) (k : Nat) (h : k < l.length) : dec (l.take (k + 1)) = dec (l.take k) * 10 + (l[k].toNat - 48) := by
  unfold dec; rw [List.take_succ_eq_append_getElem h, List.foldl_append]; rfl
theorem dec_mono (l : List UInt8) (k : Nat) : dec (l.take k) ≤ dec l := by
  have h : ∀ (b : List UInt8) (n : Nat), n ≤ b.foldl (fun n c => n * 10 + (c.toNat - 48)) n := by
    intro b
    induction b with
    | nil => intro n; exact Nat.le_refl _
    | cons c b ih => intro n; exact Nat.le_trans (by simp only []; omega) (ih _)
  conv => rhs; rw [← List.take_append_drop k l]
  unfold dec; rw [List.foldl_append]; exact h _ _
theorem numOf_bad_digit (l : List UInt8) (most k : Nat) (h : k < l.length) (hd : isDigit l[k] = false) : numOf l most = none := by
  unfold numOf
  rw [if_pos]
  right; right; left
  rw [List.all_eq_false]
  exact ⟨l[k], List.getElem_mem h, by simp [hd]⟩
theorem numOf_bad_much (l : List UInt8) (most k : Nat) (h : k < l.length) (hd : most < dec (l.take k) * 10 + (l[k].toNat - 48)) : numOf l most = none := by
  unfold numOf
  rw [if_pos]
  right; right; right
  rw [← dec_take l k h] at hd
  exact Nat.lt_of_lt_of_le hd (dec_mono l (k + 1))
def NumPost (l : List UInt8) (most : Nat) (w : World) (e : Ending) (w' : World) : Prop :=
  w' = w ∧ e = .returned (.tuple #[.int .i64 ((numOf l most).getD 0 : Nat), .bool (numOf l most).isSome])

attribute [local go_sem] ba_get

set_option maxRecDepth 100000 in
set_option maxHeartbeats 1600000 in
theorem number_any (l : List UInt8) (most : Nat) (w : World) (hl : l.length ≤ 1048576) (hm : most ≤ 1048576) :
    Calls Tryz.prog 123 #[.string ⟨l.toArray⟩, .int .i64 most] w fun e w' => NumPost l most w e w' := by
  by_cases hnil : l = []
  · subst hnil
    have HN : Hid (numOf [] most = none) := hide (by unfold numOf; rw [if_pos (Or.inl rfl)])
    go_enter Tryz.func123, Tryz.ntmps123
    go_wp2_with fail
    go_ret2
    exact ⟨rfl, by rw [unhide HN]; rfl⟩
  have h0 : 0 < l.length := List.length_pos_iff.2 hnil
  have hcl : ((l.length : Int) == 0) = false := by rw [beq_eq_false_iff_ne]; omega
  by_cases hc0 : l[0] = 48
  · have HN : Hid (numOf l most = none) := hide (by unfold numOf; rw [if_pos (Or.inr (Or.inl (by rw [List.head?_eq_getElem?, List.getElem?_eq_getElem h0, hc0])))])
    have hcb : ((l[0].toNat : Int) == 48) = true := by rw [hc0]; rfl
    clear hc0 hnil
    go_enter Tryz.func123, Tryz.ntmps123
    go_wp2_with fail
    go_ret2
    exact ⟨rfl, by rw [unhide HN]; rfl⟩
  · have hcb : ((l[0].toNat : Int) == 48) = false := by
      rw [beq_eq_false_iff_ne]; intro e; exact hc0 (by apply UInt8.toNat_inj.1; show _ = 48; omega)
    have HH : Hid (l.head? ≠ some 48) := hide (by rw [List.head?_eq_getElem?, List.getElem?_eq_getElem h0]; simpa using hc0)
    have HNil := hide hnil
    clear hc0 hnil
    go_enter Tryz.func123, Tryz.ntmps123
    go_wp2_with fail
    go_loopg [6, 7] (l.length) (fun q n i wr => ∃ k : Nat, i = .int .i64 k ∧ k + q = l.length ∧ n = .int .i64 (dec (l.take k) : Nat) ∧ dec (l.take k) ≤ most ∧ (l.take k).all isDigit = true ∧ wr = w)
    case atStart => exact ⟨0, rfl, by omega, rfl, by simp [dec], rfl, rfl⟩
    case round =>
      obtain ⟨k, rfl, hkq, rfl, hle, hall, hwr⟩ := hrel
      subst hwr
      have HA := hide hall; clear hall
      by_cases hlt : k < l.length
      · have hdl : decide ((k : Int) < (l.length : Int)) = true := by simp; omega
        have HDT := hide (dec_take l k hlt)
        have HBD := hide (numOf_bad_digit l most k hlt)
        have HBM := hide (numOf_bad_much l most k hlt)
        generalize dec (l.take k) = n at *
        have hb8 : l[k].toNat < 256 := UInt8.toNat_lt l[k]
        by_cases hd : isDigit l[k] = true
        · have hd1 : 48 ≤ l[k].toNat ∧ l[k].toNat ≤ 57 := of_decide_eq_true hd
          have hq1 : decide ((l[k].toNat : Int) < 48) = false := by simp; omega
          have hq2 : decide ((57 : Int) < (l[k].toNat : Int)) = false := by simp; omega
          by_cases hmu : most < n * 10 + (l[k].toNat - 48)
          · have HN := hide (unhide HBM hmu)
            by_cases hdm : most < l[k].toNat - 48
            · have hq3 : decide ((most : Int) < (l[k].toNat : Int) - 48) = true := by simp; omega
              clear hd
              go_wp2_with fail
              go_ret2
              exact ⟨rfl, by rw [unhide HN]; rfl⟩
            · have hq3 : decide ((most : Int) < (l[k].toNat : Int) - 48) = false := by simp; omega
              have hq4 : decide (((most : Int) - ((l[k].toNat : Int) - 48)) / 10 < (n : Int)) = true := by simp; omega
              clear hd
              go_wp2_with fail
              go_ret2
              exact ⟨rfl, by rw [unhide HN]; rfl⟩
          · have hq3 : decide ((most : Int) < (l[k].toNat : Int) - 48) = false := by simp; omega
            have hq4 : decide (((most : Int) - ((l[k].toNat : Int) - 48)) / 10 < (n : Int)) = false := by simp; omega
            have HD := hide hd; clear hd
            go_wp2_with fail
            go_roundg (gk - 1)
            case measure => omega
            case rel =>
              refine ⟨k + 1, by go_num, by omega, ?_, by rw [unhide HDT]; omega, ?_, rfl⟩
              · rw [unhide HDT]
                exact congrArg (Value.int .i64) (by omega)
              · rw [List.take_succ_eq_append_getElem hlt, List.all_append, unhide HA]; simp [unhide HD]
        · have hdf : isDigit l[k] = false := by simpa using hd
          have HN := hide (unhide HBD hdf)
          have hd1 : ¬ (48 ≤ l[k].toNat ∧ l[k].toNat ≤ 57) := of_decide_eq_false hdf
          clear hd hdf
          by_cases hlo : l[k].toNat < 48
          · have hq1 : decide ((l[k].toNat : Int) < 48) = true := by simp; omega
            clear hd1
            go_wp2_with fail
            go_ret2
            exact ⟨rfl, by rw [unhide HN]; rfl⟩
          · have hq1 : decide ((l[k].toNat : Int) < 48) = false := by simp; omega
            have hq2 : decide ((57 : Int) < (l[k].toNat : Int)) = true := by simp; omega
            clear hd1
            go_wp2_with fail
            go_ret2
            exact ⟨rfl, by rw [unhide HN]; rfl⟩
      · have hkl : k = l.length := by omega
        subst hkl
        have hdl : decide ((l.length : Int) < (l.length : Int)) = false := by simp
        have hA := unhide HA
        rw [List.take_length] at hle hA
        have HN : Hid (numOf l most = some (dec l)) := hide (by
          unfold numOf
          rw [if_neg]
          rintro (h | h | h | h)
          · exact unhide HNil h
          · exact unhide HH h
          · rw [hA] at h; cases h
          · omega)
        have HT : Hid (l.take l.length = l) := hide List.take_length
        clear hA
        go_wp2_with fail
        go_ret2
        refine ⟨rfl, ?_⟩
        rw [unhide HN]
        show Ending.returned (.tuple #[.int .i64 (dec (l.take l.length) : Nat), .bool true]) = _
        rw [unhide HT]; rfl

theorem dig_num (l : List UInt8) : numOf l 8 = if dig l = 0 then none else some (dig l).toNat := by
  match l with
  | [] => rfl
  | [c] =>
    have hb8 : c.toNat < 256 := UInt8.toNat_lt c
    have hdig : dig [c] = if 49 ≤ (c.toNat : Int) ∧ (c.toNat : Int) ≤ 56 then (c.toNat : Int) - 48 else 0 := rfl
    unfold numOf dec isDigit
    rw [hdig]
    by_cases h : 49 ≤ (c.toNat : Int) ∧ (c.toNat : Int) ≤ 56
    · rw [if_neg]
      · rw [if_pos h, if_neg (by omega)]
        simp; omega
      · rintro (h1 | h1 | h1 | h1)
        · cases h1
        · simp at h1; subst h1; revert h; decide
        · simp at h1; omega
        · simp at h1; omega
    · rw [if_neg h, if_pos rfl, if_pos]
      by_cases h48 : c = 48
      · right; left; simp [h48]
      · have : c.toNat ≠ 48 := fun e => h48 (by apply UInt8.toNat_inj.1; exact e)
        by_cases hd : 48 ≤ c.toNat ∧ c.toNat ≤ 57
        · right; right; right; simp; omega
        · right; right; left; simp; omega
  | c :: d :: r =>
    have h0 : dig (c :: d :: r) = 0 := rfl
    rw [h0, if_pos rfl]
    unfold numOf
    rw [if_pos]
    by_cases h48 : c = 48
    · right; left; simp [h48]
    · have hc : c.toNat ≠ 48 := fun e => h48 (by apply UInt8.toNat_inj.1; exact e)
      by_cases hd : (c :: d :: r).all isDigit = false
      · right; right; left; exact hd
      · right; right; right
        have hc1 : 48 ≤ c.toNat ∧ c.toNat ≤ 57 := by
          have : isDigit c = true := by
            simp at hd
            exact hd.1
          exact of_decide_eq_true this
        have h1 := dec_mono (c :: d :: r) 2
        have h2 : dec ((c :: d :: r).take 2) = (c.toNat - 48) * 10 + (d.toNat - 48) := by simp [dec]
        omega

def VarPost (l : List UInt8) (w : World) (e : Ending) (w' : World) : Prop := w' = w ∧ e = .returned (.tuple #[.int .i64 (dig l), .bool (decide (0 < dig l))])
theorem numPost_dig {l : List UInt8} {w w' : World} {e : Ending} (h : NumPost l 8 w e w') : VarPost l w e w' := by
  obtain ⟨h1, h2⟩ := h
  refine ⟨h1, ?_⟩
  rw [h2, dig_num]
  have := dig_bd l
  by_cases h0 : dig l = 0
  · rw [if_pos h0, h0]; rfl
  · rw [if_neg h0]
    have h1 : decide (0 < dig l) = true := by simp; omega
    rw [h1]
    have h2 : (((some (dig l).toNat).getD 0 : Nat) : Int) = dig l := by simp; omega
    rw [h2]; rfl

set_option maxRecDepth 100000 in
set_option maxHeartbeats 400000 in
theorem variable_any (l : List UInt8) (w : World) (hl : l.length ≤ 1048576) :
    Calls Tryz.prog 97 #[.string ⟨l.toArray⟩] w fun e w' => VarPost l w e w' := by
  go_enter Tryz.func97, Tryz.ntmps97
  go_wp2_with fail
  refine (number_any l 8 w hl (by omega)).mono ?_
  intro e w1 hp
  obtain ⟨rfl, rfl⟩ := numPost_dig hp
  go_wp2_with fail
  go_ret2
  exact ⟨rfl, rfl⟩

/-- The literal that a word writes, or 0. -/
def litNum (l : List UInt8) : Int := if l.head? = some 45 then - dig l.tail else dig l
def litGood (l : List UInt8) : Bool := if l.head? = some 45 then decide (0 < dig l.tail) else decide (0 < dig l)
def LitPost (l : List UInt8) (w : World) (e : Ending) (w' : World) : Prop := w' = w ∧ e = .returned (.tuple #[.int .i64 (litNum l), .bool (litGood l)])

attribute [local go_sem] ba_get

set_option maxRecDepth 100000 in
set_option maxHeartbeats 400000 in
theorem wliteral_any (l : List UInt8) (w : World) (hl : l.length ≤ 1048576) :
    Calls Tryz.prog 98 #[.string ⟨l.toArray⟩] w fun e w' => LitPost l w e w' := by
  by_cases hnil : l = []
  · subst hnil
    go_enter Tryz.func98, Tryz.ntmps98
    go_wp2_with fail
    refine (variable_any [] w hl).mono ?_
    rintro e w1 ⟨rfl, rfl⟩
    go_wp2_with fail
    go_ret2
    exact ⟨rfl, rfl⟩
  have h0 : 0 < l.length := List.length_pos_iff.2 hnil
  have hd0 : decide ((0 : Int) < (l.length : Int)) = true := by simp; omega
  have hh : l.head? = some l[0] := by rw [List.head?_eq_getElem?, List.getElem?_eq_getElem h0]
  by_cases hc0 : l[0] = 45
  · have hcb : ((l[0].toNat : Int) == 45) = true := by rw [hc0]; rfl
    have HL : Hid (litNum l = - dig l.tail ∧ litGood l = decide (0 < dig l.tail)) := hide (by unfold litNum litGood; rw [hh, hc0]; simp)
    obtain ⟨d0, d1⟩ := dig_bd l.tail
    clear hc0 hnil hh
    go_enter Tryz.func98, Tryz.ntmps98
    go_wp2_with fail
    rw [ba_extract, show List.take (l.length - 1) (List.drop 1 l) = l.tail from by rw [List.take_of_length_le (by simp), List.drop_one]]
    refine (variable_any l.tail w (by simp; omega)).mono ?_
    rintro e w1 ⟨rfl, rfl⟩
    go_wp2_with fail
    go_ret2
    exact ⟨rfl, by rw [(unhide HL).1, (unhide HL).2]; rfl⟩
  · have hcb : ((l[0].toNat : Int) == 45) = false := by
      rw [beq_eq_false_iff_ne]; intro e; exact hc0 (by apply UInt8.toNat_inj.1; show _ = 45; omega)
    have HL : Hid (litNum l = dig l ∧ litGood l = decide (0 < dig l)) := hide (by unfold litNum litGood; rw [hh]; simp [hc0])
    clear hc0 hnil hh
    go_enter Tryz.func98, Tryz.ntmps98
    go_wp2_with fail
    refine (variable_any l w hl).mono ?_
    rintro e w1 ⟨rfl, rfl⟩
    go_wp2_with fail
    go_ret2
    exact ⟨rfl, by rw [(unhide HL).1, (unhide HL).2]; rfl⟩
end Go.Proofs.YtgipjjhkhfihpaaGreatDoor

namespace Go.Proofs.YtgipjjhkhfihpaaGreatDoor
open Go.RowKit

/-- The bit of a variable. -/
def bitOf (v : Int) : Nat := if 1 ≤ v ∧ v ≤ 8 then 2 ^ v.toNat else 0
theorem bitOf_lt (v : Int) : bitOf v < 512 := by
  unfold bitOf; split
  · have := pow_bd v.toNat (by omega); omega
  · decide

set_option maxRecDepth 100000 in
set_option maxHeartbeats 400000 in
theorem bit_any (v : Int) (w : World) : Calls Tryz.prog 108 #[.int .i64 v] w fun e w' => e = .returned (.int .i64 (bitOf v : Nat)) ∧ w' = w := by
  by_cases h1 : v < 1
  · have HB : Hid (bitOf v = 0) := hide (by unfold bitOf; rw [if_neg (by omega)])
    have hd : decide (v < 1) = true := by simpa using h1
    go_enter Tryz.func108, Tryz.ntmps108
    go_wp2_with fail
    go_ret
    exact ⟨by rw [unhide HB]; rfl, rfl⟩
  · have hd : decide (v < 1) = false := by simpa using h1
    by_cases h2 : 8 < v
    · have HB : Hid (bitOf v = 0) := hide (by unfold bitOf; rw [if_neg (by omega)])
      have hd2 : decide (8 < v) = true := by simpa using h2
      go_enter Tryz.func108, Tryz.ntmps108
      go_wp2_with fail
      go_ret
      exact ⟨by rw [unhide HB]; rfl, rfl⟩
    · have HB : Hid (bitOf v = 2 ^ v.toNat) := hide (by unfold bitOf; rw [if_pos (by omega)])
      have hd2 : decide (8 < v) = false := by simpa using h2
      have HS := hide (shl_one v (by omega) (by omega))
      go_enter Tryz.func108, Tryz.ntmps108
      go_wp2_with fail
      go_ret
      exact ⟨ret_int (by rw [unhide HB]; exact unhide HS), rfl⟩

/-- A set with a literal. -/
def withLit (c : Nat × Nat) (x : Int) : Nat × Nat := if x < 0 then (c.1, c.2 ||| bitOf (-x)) else (c.1 ||| bitOf x, c.2)

set_option maxRecDepth 100000 in
set_option maxHeartbeats 800000 in
theorem with_any (p n : Nat) (x : Int) (w : World) (hp : p < 512) (hn : n < 512) (hx : -9223372036854775807 ≤ x) (hx2 : x ≤ 9223372036854775807) :
    Calls Tryz.prog 88 #[.agg #[.int .i64 p, .int .i64 n], .int .i64 x] w fun e w' =>
      e = .returned (.agg #[.int .i64 ((withLit (p, n) x).1 : Nat), .int .i64 ((withLit (p, n) x).2 : Nat)]) ∧ Below w.heap.size w w' := by
  by_cases h : x < 0
  · have HW : Hid (withLit (p, n) x = (p, n ||| bitOf (-x))) := hide (by unfold withLit; rw [if_pos h])
    have hd : decide (x < 0) = true := by simpa using h
    have hwx : IntKind.i64.wrap (-x) = -x := by
      obtain ⟨m, hm⟩ := Int.eq_ofNat_of_zero_le (show 0 ≤ -x by omega)
      rw [hm]; exact wrap_i64_nat m (by omega)
    have hor : bits .or .i64 (n : Int) (bitOf (-x) : Nat) = ((n ||| bitOf (-x) : Nat) : Int) := i64_or _ _ (by omega) (by have := bitOf_lt (-x); omega)
    go_enter Tryz.func88, Tryz.ntmps88
    go_wp2_with fail
    go_region_with (go_at_call 108; refine (bit_any _ _).mono ?_; rintro e w1 ⟨rfl, rfl⟩)
    all_goals go_wp2_with fail
    all_goals
      refine bodyPost_ret (v := .agg #[.int .i64 p, .int .i64 ((n ||| bitOf (-x) : Nat) : Int)]) (by simp [results, Tryz.results88, go_sem]) rfl ⟨by rw [unhide HW], ?_⟩
      exact ((((Below.refl _ _).alloc (Nat.le_refl _) _).alloc (by simp) _)).drew
  · have HW : Hid (withLit (p, n) x = (p ||| bitOf x, n)) := hide (by unfold withLit; rw [if_neg h])
    have hd : decide (x < 0) = false := by simpa using h
    have hor : bits .or .i64 (p : Int) (bitOf x : Nat) = ((p ||| bitOf x : Nat) : Int) := i64_or _ _ (by omega) (by have := bitOf_lt x; omega)
    go_enter Tryz.func88, Tryz.ntmps88
    go_wp2_with fail
    go_region_with (go_at_call 108; refine (bit_any _ _).mono ?_; rintro e w1 ⟨rfl, rfl⟩)
    all_goals go_wp2_with fail
    all_goals
      refine bodyPost_ret (v := .agg #[.int .i64 ((p ||| bitOf x : Nat) : Int), .int .i64 n]) (by simp [results, Tryz.results88, go_sem]) rfl ⟨by rw [unhide HW], ?_⟩
      exact ((((Below.refl _ _).alloc (Nat.le_refl _) _).alloc (by simp) _)).drew

set_option maxRecDepth 100000 in
set_option maxHeartbeats 800000 in
theorem hasVar_any (p n : Nat) (v : Int) (w : World) (hp : p < 512) (hn : n < 512) :
    Calls Tryz.prog 99 #[.agg #[.int .i64 p, .int .i64 n], .int .i64 v] w fun e w' =>
      e = .returned (.bool ((p ||| n) &&& bitOf v != 0)) ∧ Below w.heap.size w w' := by
  have hor : bits .or .i64 (p : Int) (n : Int) = ((p ||| n : Nat) : Int) := i64_or _ _ (by omega) (by omega)
  have hand : bits .and .i64 ((p ||| n : Nat) : Int) (bitOf v : Nat) = (((p ||| n) &&& bitOf v : Nat) : Int) := i64_and _ _ (by have := or_lt p n hp hn; omega) (by have := bitOf_lt v; omega)
  have HE : Hid (((((p ||| n) &&& bitOf v : Nat) : Int) != 0) = ((p ||| n) &&& bitOf v != 0)) := hide (by
    rw [Bool.eq_iff_iff, bne_iff_ne, bne_iff_ne]; omega)
  go_enter Tryz.func99, Tryz.ntmps99
  go_wp2_with fail
  go_quiet ((go_at_call 108; exact Calls.quiet_of_same (bit_any _ _)))
  go_wp2_with fail
  go_ret
  exact ⟨ret_bool (unhide HE), below_drewN ((Below.refl _ _).alloc (Nat.le_refl _) _) nq⟩
end Go.Proofs.YtgipjjhkhfihpaaGreatDoor

namespace Go.Proofs.YtgipjjhkhfihpaaGreatDoor
open Go.RowKit

abbrev SetV (c : Nat × Nat) : Value := .agg #[.int .i64 (c.1 : Int), .int .i64 (c.2 : Int)]
theorem int_ne_zero (a : Nat) : ((a : Int) != 0) = (a != 0) := by
  rw [Bool.eq_iff_iff, bne_iff_ne, bne_iff_ne]; omega
theorem int_eq_zero (a : Nat) : ((a : Int) == 0) = (a == 0) := by
  rw [Bool.eq_iff_iff, beq_iff_eq, beq_iff_eq]; omega
theorem and_lt9 (a b : Nat) (ha : a < 512) : a &&& b < 512 := Nat.lt_of_le_of_lt Nat.and_le_left ha
theorem less_lt9 (a b : Nat) (ha : a < 512) : less a b < 512 := Nat.lt_of_le_of_lt (less_le a b) ha

set_option maxRecDepth 100000 in
set_option maxHeartbeats 800000 in
theorem varOf_any (x : Int) (w : World) (hx : -9223372036854775807 ≤ x) (hx2 : x ≤ 9223372036854775807) :
    Calls Tryz.prog 112 #[.int .i64 x] w fun e w' => e = .returned (.int .i64 (x.natAbs : Nat)) ∧ w' = w := by
  by_cases h : x < 0
  · have hd : decide (x < 0) = true := by simpa using h
    have hwx : IntKind.i64.wrap (-x) = -x := by
      obtain ⟨m, hm⟩ := Int.eq_ofNat_of_zero_le (show 0 ≤ -x by omega)
      rw [hm]; exact wrap_i64_nat m (by omega)
    go_enter Tryz.func112, Tryz.ntmps112
    go_wp2_with fail
    go_ret
    exact ⟨ret_int (by omega), rfl⟩
  · have hd : decide (x < 0) = false := by simpa using h
    go_enter Tryz.func112, Tryz.ntmps112
    go_wp2_with fail
    go_ret
    exact ⟨ret_int (by omega), rfl⟩

set_option maxRecDepth 100000 in
set_option maxHeartbeats 800000 in
theorem empty_any (p n : Nat) (w : World) (hp : p < 512) (hn : n < 512) :
    Calls Tryz.prog 74 #[SetV (p, n)] w fun e w' => e = .returned (.bool (p ||| n == 0)) ∧ Below w.heap.size w w' := by
  have hor : bits .or .i64 (p : Int) (n : Int) = ((p ||| n : Nat) : Int) := i64_or _ _ (by omega) (by omega)
  have HE := hide (int_eq_zero (p ||| n))
  go_enter Tryz.func74, Tryz.ntmps74
  go_wp2_with fail
  go_ret
  exact ⟨ret_bool (unhide HE), (Below.refl _ _).alloc (Nat.le_refl _) _⟩

set_option maxRecDepth 100000 in
set_option maxHeartbeats 800000 in
theorem clashes_any (p n : Nat) (w : World) (hp : p < 512) (hn : n < 512) :
    Calls Tryz.prog 124 #[SetV (p, n)] w fun e w' => e = .returned (.bool (p &&& n != 0)) ∧ Below w.heap.size w w' := by
  have hand : bits .and .i64 (p : Int) (n : Int) = ((p &&& n : Nat) : Int) := i64_and _ _ (by omega) (by omega)
  have HE := hide (int_ne_zero (p &&& n))
  go_enter Tryz.func124, Tryz.ntmps124
  go_wp2_with fail
  go_ret
  exact ⟨ret_bool (unhide HE), (Below.refl _ _).alloc (Nat.le_refl _) _⟩

set_option maxRecDepth 100000 in
set_option maxHeartbeats 800000 in
theorem meets_any (p n p2 n2 : Nat) (w : World) (hp : p < 512) (hn : n < 512) (hp2 : p2 < 512) (hn2 : n2 < 512) :
    Calls Tryz.prog 131 #[SetV (p, n), SetV (p2, n2)] w fun e w' => e = .returned (.bool ((p &&& p2) ||| (n &&& n2) != 0)) ∧ Below w.heap.size w w' := by
  have h1 : bits .and .i64 (p : Int) (p2 : Int) = ((p &&& p2 : Nat) : Int) := i64_and _ _ (by omega) (by omega)
  have h2 : bits .and .i64 (n : Int) (n2 : Int) = ((n &&& n2 : Nat) : Int) := i64_and _ _ (by omega) (by omega)
  have h3 : bits .or .i64 ((p &&& p2 : Nat) : Int) ((n &&& n2 : Nat) : Int) = (((p &&& p2) ||| (n &&& n2) : Nat) : Int) := i64_or _ _ (by have := and_lt9 p p2 hp; omega) (by have := and_lt9 n n2 hn; omega)
  have HE := hide (int_ne_zero ((p &&& p2) ||| (n &&& n2)))
  go_enter Tryz.func131, Tryz.ntmps131
  go_wp2_with fail
  go_ret
  exact ⟨ret_bool (unhide HE), ((Below.refl _ _).alloc (Nat.le_refl _) _).alloc (by simp) _⟩

/-- A set has a literal. -/
def hasLit (c : Nat × Nat) (x : Int) : Bool := if x < 0 then c.2 &&& bitOf (-x) != 0 else c.1 &&& bitOf x != 0
set_option maxRecDepth 100000 in
set_option maxHeartbeats 800000 in
theorem has_any (p n : Nat) (x : Int) (w : World) (hp : p < 512) (hn : n < 512) (hx : -9223372036854775807 ≤ x) (hx2 : x ≤ 9223372036854775807) :
    Calls Tryz.prog 87 #[SetV (p, n), .int .i64 x] w fun e w' => e = .returned (.bool (hasLit (p, n) x)) ∧ Below w.heap.size w w' := by
  by_cases h : x < 0
  · have HW : Hid (hasLit (p, n) x = (n &&& bitOf (-x) != 0)) := hide (by unfold hasLit; rw [if_pos h])
    have hd : decide (x < 0) = true := by simpa using h
    have hwx : IntKind.i64.wrap (-x) = -x := by
      obtain ⟨m, hm⟩ := Int.eq_ofNat_of_zero_le (show 0 ≤ -x by omega)
      rw [hm]; exact wrap_i64_nat m (by omega)
    have hand : bits .and .i64 (n : Int) (bitOf (-x) : Nat) = ((n &&& bitOf (-x) : Nat) : Int) := i64_and _ _ (by omega) (by have := bitOf_lt (-x); omega)
    have HE := hide (int_ne_zero (n &&& bitOf (-x)))
    go_enter Tryz.func87, Tryz.ntmps87
    go_wp2_with fail
    go_quiet ((go_at_call 108; exact Calls.quiet_of_same (bit_any _ _)))
    go_wp2_with fail
    go_ret
    exact ⟨ret_bool (by rw [unhide HW]; exact unhide HE), below_drewN ((Below.refl _ _).alloc (Nat.le_refl _) _) nq⟩
  · have HW : Hid (hasLit (p, n) x = (p &&& bitOf x != 0)) := hide (by unfold hasLit; rw [if_neg h])
    have hd : decide (x < 0) = false := by simpa using h
    have hand : bits .and .i64 (p : Int) (bitOf x : Nat) = ((p &&& bitOf x : Nat) : Int) := i64_and _ _ (by omega) (by have := bitOf_lt x; omega)
    have HE := hide (int_ne_zero (p &&& bitOf x))
    go_enter Tryz.func87, Tryz.ntmps87
    go_wp2_with fail
    go_quiet ((go_at_call 108; exact Calls.quiet_of_same (bit_any _ _)))
    go_wp2_with fail
    go_ret
    exact ⟨ret_bool (by rw [unhide HW]; exact unhide HE), below_drewN ((Below.refl _ _).alloc (Nat.le_refl _) _) nq⟩

set_option maxRecDepth 100000 in
set_option maxHeartbeats 800000 in
theorem union_any (p n p2 n2 : Nat) (w : World) (hp : p < 512) (hn : n < 512) (hp2 : p2 < 512) (hn2 : n2 < 512) :
    Calls Tryz.prog 139 #[SetV (p, n), SetV (p2, n2)] w fun e w' => e = .returned (SetV (p ||| p2, n ||| n2)) ∧ Below w.heap.size w w' := by
  have h1 : bits .or .i64 (p : Int) (p2 : Int) = ((p ||| p2 : Nat) : Int) := i64_or _ _ (by omega) (by omega)
  have h2 : bits .or .i64 (n : Int) (n2 : Int) = ((n ||| n2 : Nat) : Int) := i64_or _ _ (by omega) (by omega)
  go_enter Tryz.func139, Tryz.ntmps139
  go_wp2_with fail
  refine bodyPost_ret (v := SetV (p ||| p2, n ||| n2)) (by simp [results, Tryz.results139, go_sem]) rfl ⟨rfl, ?_⟩
  exact ((((Below.refl _ _).alloc (Nat.le_refl _) _).alloc (by simp) _)).alloc (by simp; omega) _

/-- A set without a variable's literals. -/
def without (c : Nat × Nat) (v : Int) : Nat × Nat := (less c.1 (bitOf v), less c.2 (bitOf v))
set_option maxRecDepth 100000 in
set_option maxHeartbeats 800000 in
theorem withoutVar_any (p n : Nat) (v : Int) (w : World) (hp : p < 512) (hn : n < 512) :
    Calls Tryz.prog 140 #[SetV (p, n), .int .i64 v] w fun e w' => e = .returned (SetV (without (p, n) v)) ∧ Below w.heap.size w w' := by
  have hb := bitOf_lt v
  have h1 : bits .andNot .i64 (p : Int) (bitOf v : Nat) = ((less p (bitOf v) : Nat) : Int) := i64_andNot _ _ (by omega) (by omega)
  have h2 : bits .andNot .i64 (n : Int) (bitOf v : Nat) = ((less n (bitOf v) : Nat) : Int) := i64_andNot _ _ (by omega) (by omega)
  go_enter Tryz.func140, Tryz.ntmps140
  go_wp2_with fail
  refine (bit_any _ _).mono ?_
  rintro e w1 ⟨rfl, rfl⟩
  go_wp2_with fail
  refine bodyPost_ret (v := SetV (without (p, n) v)) (by simp [results, Tryz.results140, go_sem, without]) rfl ⟨rfl, ?_⟩
  exact (((Below.refl _ _).alloc (Nat.le_refl _) _).alloc (by simp) _)
end Go.Proofs.YtgipjjhkhfihpaaGreatDoor

namespace Go.Proofs.YtgipjjhkhfihpaaGreatDoor
open Go.RowKit

def ints (l : List Nat) : List Value := l.map (fun n : Nat => Value.int .i64 (n : Int))
def bools (l : List Bool) : List Value := l.map Value.bool
def pairs (l : List (Nat × Nat)) : List Value := l.flatMap (fun c => [Value.int .i64 (c.1 : Int), Value.int .i64 (c.2 : Int)])
theorem pairs_length (l : List (Nat × Nat)) : (pairs l).length = l.length * 2 := by
  induction l with
  | nil => rfl
  | cons a l ih => simp [pairs] at *; omega
theorem pairs_snoc (l : List (Nat × Nat)) (c : Nat × Nat) : pairs (l ++ [c]) = pairs l ++ [Value.int .i64 (c.1 : Int), Value.int .i64 (c.2 : Int)] := by simp [pairs]

theorem Tryz.info121 : (Tryz.prog.info? 121).map (fun i => (i.zero, i.size, i.bytes)) = some (some (.agg #[.int .i64 0, .int .i64 0]), 2, 16) := by kernel_rfl
theorem Tryz.info3 : (Tryz.prog.info? 3).map (fun i => (i.zero, i.size, i.bytes)) = some (some (.int .i64 0), 1, 8) := by kernel_rfl
theorem Tryz.info4 : (Tryz.prog.info? 4).map (fun i => (i.zero, i.size, i.bytes)) = some (some (.bool false), 1, 1) := by kernel_rfl

/-- What lies in memory behind some lines of Read: the formula at block bf, and three rows. -/
structure RInv (w1 : World) (bf : Nat) (st : RS) (vT vK vC : Value) (wr : World) : Prop where
  below : Below bf w1 wr
  fb : wr.heap[bf]? = some (.cells #[.slice none 0 0, .int .i64 0, .slice none 0 0, vC] 92 (0, 0))
  oC : wr.ownsRow (bf + 1) 121 2 vC st.cl.length (pairs st.cl)
  oT : wr.ownsRow (bf + 1) 3 1 vT st.told.length (ints st.told)
  oK : wr.ownsRow (bf + 1) 4 1 vK st.kinds.length (bools st.kinds)

theorem own_below {w w' : World} {base : Nat} {e : TypeId} {size : Nat} {v : Value} {n : Nat} {xs : List Value} (h : w.ownsRow base e size v n xs) (hb : Below w.heap.size w w') : w'.ownsRow base e size v n xs :=
  h.kept (row := none) ⟨hb.os, hb.tape, hb.output, hb.size, fun k hk _ => hb.block k hk⟩ (by cases hv : v.ownBlock <;> simp)

theorem RInv.later {w1 : World} {bf : Nat} {st : RS} {vT vK vC : Value} {wr w' : World} (h : RInv w1 bf st vT vK vC wr) (hb : Below wr.heap.size wr w') : RInv w1 bf st vT vK vC w' :=
  ⟨h.below.trans (hb.mono (Nat.le_of_lt (blk_lt h.fb))), (hb.block bf (blk_lt h.fb)).trans h.fb, own_below h.oC hb, own_below h.oT hb, own_below h.oK hb⟩

/-- What 'append' to the formula's row of clauses leaves, ahead of the store. -/
theorem clause_grown {w1 wr wp w' : World} {bf bc : Nat} {st : RS} {vT vK vC : Value} {cs : Array Value} (h : RInv w1 bf st vT vK vC wr) (hp : Below wr.heap.size wr wp) (hg : wp.grownBy w' vC.ownBlock)
    (hbc : wr.heap[bc]? = some (.cells cs 121 (0, 0))) (hne : vC.ownBlock ≠ some bc) :
    w'.heap[bf]? = some (.cells #[.slice none 0 0, .int .i64 0, .slice none 0 0, vC] 92 (0, 0)) ∧ w'.heap[bc]? = some (.cells cs 121 (0, 0)) := by
  have hlt := h.oC.lt
  constructor
  · rw [hg.block bf (Nat.lt_of_lt_of_le (blk_lt h.fb) hp.size) (fun e => by have := hlt bf e.symm; omega), hp.block bf (blk_lt h.fb)]; exact h.fb
  · rw [hg.block bc (Nat.lt_of_lt_of_le (blk_lt hbc) hp.size) (fun e => hne e.symm), hp.block bc (blk_lt hbc)]; exact hbc

/-- Two owned rows of different element types lie apart. -/
theorem own_apart {w : World} {b1 b2 : Nat} {e1 e2 : TypeId} {s1 s2 : Nat} {v1 v2 : Value} {n1 n2 : Nat} {x1 x2 : List Value} (h1 : w.ownsRow b1 e1 s1 v1 n1 x1) (h2 : w.ownsRow b2 e2 s2 v2 n2 x2) (he : e1 ≠ e2) :
    v1.ownBlock = none ∨ v1.ownBlock ≠ v2.ownBlock := by
  rcases h1.2 with ⟨rfl, _⟩ | ⟨g1, c1, cur1, rfl, _, hh1, _⟩
  · exact Or.inl rfl
  · right
    rcases h2.2 with ⟨rfl, _⟩ | ⟨g2, c2, cur2, rfl, _, hh2, _⟩
    · simp [Value.ownBlock]
    · simp [Value.ownBlock]
      intro e; subst e
      rw [hh1] at hh2
      simp at hh2
      exact he hh2.2

theorem own_kept {w wp w' : World} {base base2 : Nat} {e e2 : TypeId} {size size2 : Nat} {v v2 : Value} {n n2 : Nat} {xs x2 : List Value} (h : w.ownsRow base e size v n xs) (hp : Below w.heap.size w wp) (h2 : w.ownsRow base2 e2 size2 v2 n2 x2) (hg : wp.grownBy w' v2.ownBlock) (he : e ≠ e2) : w'.ownsRow base e size v n xs :=
  (own_below h hp).kept hg (own_apart h h2 he)

theorem RInv.push_clause {w1 wr wp w' : World} {bf : Nat} {st : RS} {vT vK vC v' : Value} {p n : Nat} (h : RInv w1 bf st vT vK vC wr) (hp : Below wr.heap.size wr wp) (hg : wp.grownBy w' vC.ownBlock)
    (hown : w'.ownsRow (bf + 1) 121 2 v' (st.cl.length + 1) (pairs st.cl ++ [.int .i64 (p : Int), .int .i64 (n : Int)])) (u : Nat) :
    RInv w1 bf { st with cl := st.cl ++ [(p, n)], used := u } vT vK v' (w'.setCell ⟨bf, 3, none⟩ v') := by
  have hlt := h.oC.lt
  have hbf := blk_lt h.fb
  have hfb : w'.heap[bf]? = some (.cells #[.slice none 0 0, .int .i64 0, .slice none 0 0, vC] 92 (0, 0)) := by
    rw [hg.block bf (Nat.lt_of_lt_of_le hbf hp.size) (fun e => by have := hlt bf e.symm; omega), hp.block bf hbf]; exact h.fb
  refine ⟨?_, ?_, ?_, ?_, ?_⟩
  · exact ((h.below.trans (hp.mono (Nat.le_of_lt hbf))).grown hg (Nat.le_trans (Nat.le_of_lt hbf) hp.size) (fun k hk => by have := (hlt k hk).1; omega)).setCell (p := ⟨bf, 3, none⟩) (Nat.le_refl _) _
  · exact blk_set hfb 3 v'
  · have := ownsRow_setCell_below hown (a := ⟨bf, 3, none⟩) (Nat.lt_succ_self bf) v'
    rw [← pairs_snoc st.cl (p, n)] at this
    simpa using this
  · exact ownsRow_setCell_below (own_kept h.oT hp h.oC hg (by decide)) (a := ⟨bf, 3, none⟩) (Nat.lt_succ_self bf) v'
  · exact ownsRow_setCell_below (own_kept h.oK hp h.oC hg (by decide)) (a := ⟨bf, 3, none⟩) (Nat.lt_succ_self bf) v'

theorem RInv.push_told {w1 wr wp w' : World} {bf : Nat} {st : RS} {vT vK vC v' : Value} {x : Nat} (h : RInv w1 bf st vT vK vC wr) (hp : Below wr.heap.size wr wp) (hg : wp.grownBy w' vT.ownBlock)
    (hown : w'.ownsRow (bf + 1) 3 1 v' (st.told.length + 1) (ints st.told ++ [.int .i64 (x : Int)])) (s : Nat) :
    RInv w1 bf { st with told := st.told ++ [x], seen := s } v' vK vC w' := by
  have hlt := h.oT.lt
  have hbf := blk_lt h.fb
  refine ⟨?_, ?_, own_kept h.oC hp h.oT hg (by decide), ?_, own_kept h.oK hp h.oT hg (by decide)⟩
  · exact (h.below.trans (hp.mono (Nat.le_of_lt hbf))).grown hg (Nat.le_trans (Nat.le_of_lt hbf) hp.size) (fun k hk => by have := (hlt k hk).1; omega)
  · rw [hg.block bf (Nat.lt_of_lt_of_le hbf hp.size) (fun e => by have := hlt bf e.symm; omega), hp.block bf hbf]; exact h.fb
  · simpa [ints] using hown

theorem RInv.push_kind {w1 wr wp w' : World} {bf : Nat} {st : RS} {vT vK vC v' : Value} {x : Bool} (h : RInv w1 bf st vT vK vC wr) (hp : Below wr.heap.size wr wp) (hg : wp.grownBy w' vK.ownBlock)
    (hown : w'.ownsRow (bf + 1) 4 1 v' (st.kinds.length + 1) (bools st.kinds ++ [.bool x])) :
    RInv w1 bf { st with kinds := st.kinds ++ [x] } vT v' vC w' := by
  have hlt := h.oK.lt
  have hbf := blk_lt h.fb
  refine ⟨?_, ?_, own_kept h.oC hp h.oK hg (by decide), own_kept h.oT hp h.oK hg (by decide), ?_⟩
  · exact (h.below.trans (hp.mono (Nat.le_of_lt hbf))).grown hg (Nat.le_trans (Nat.le_of_lt hbf) hp.size) (fun k hk => by have := (hlt k hk).1; omega)
  · rw [hg.block bf (Nat.lt_of_lt_of_le hbf hp.size) (fun e => by have := hlt bf e.symm; omega), hp.block bf hbf]; exact h.fb
  · simpa [bools] using hown

end Go.Proofs.YtgipjjhkhfihpaaGreatDoor

namespace Go.Proofs.YtgipjjhkhfihpaaGreatDoor
open Go.RowKit

def apart (a b : Value) : Prop := ∀ k, a.ownBlock = some k → b.ownBlock ≠ some k
theorem apart.symm {a b : Value} (h : apart a b) : apart b a := fun k hk hk' => h k hk' hk
theorem apart.keep {a b : Value} (h : apart a b) : a.ownBlock = none ∨ a.ownBlock ≠ b.ownBlock := by
  cases ha : a.ownBlock with
  | none => exact Or.inl rfl
  | some k => exact Or.inr (fun e => h k ha e.symm)
theorem apart_nil (a : Value) : apart (.slice none 0 0) a := fun k hk => by simp [Value.ownBlock] at hk
/-- What comes out of an append onto a lies apart from b as a did. -/
theorem apart.grown {a a' b : Value} {w : World} {base : Nat} {e : TypeId} {size n : Nat} {xs : List Value} (h : apart a b) (hb : w.ownsRow base e size b n xs) (hat : a'.ownBlock = a.ownBlock ∨ ∃ k, a'.ownBlock = some k ∧ w.heap.size ≤ k) : apart a' b := by
  intro k hk hk'
  rcases hat with hat | ⟨k', hat, hle⟩
  · exact h k (hat ▸ hk) hk'
  · rw [hk] at hat; injection hat with e; subst e
    have := (hb.lt k hk').2; omega

/-- What lies in memory while Read puts the formula together. -/
structure FInv (w1 : World) (bf : Nat) (st : RS) (order : List Nat) (all : Nat) (ends : List Nat) (vT vK vC vO vE : Value) (wr : World) : Prop where
  below : Below bf w1 wr
  fb : wr.heap[bf]? = some (.cells #[vO, .int .i64 (all : Int), vE, vC] 92 (0, 0))
  oC : wr.ownsRow (bf + 1) 121 2 vC st.cl.length (pairs st.cl)
  oT : wr.ownsRow (bf + 1) 3 1 vT st.told.length (ints st.told)
  oK : wr.ownsRow (bf + 1) 4 1 vK st.kinds.length (bools st.kinds)
  oO : wr.ownsRow (bf + 1) 3 1 vO order.length (ints order)
  oE : wr.ownsRow (bf + 1) 3 1 vE ends.length (ints ends)
  aOT : apart vO vT
  aOE : apart vO vE
  aET : apart vE vT

theorem FInv.of {w1 : World} {bf : Nat} {st : RS} {vT vK vC : Value} {wr : World} (h : RInv w1 bf st vT vK vC wr) : FInv w1 bf st [] 0 [] vT vK vC (.slice none 0 0) (.slice none 0 0) wr :=
  ⟨h.below, h.fb, h.oC, h.oT, h.oK, World.ownsRow_nil _ _ _ _, World.ownsRow_nil _ _ _ _, apart_nil _, apart_nil _, apart_nil _⟩

section
variable {w1 wr wp w' : World} {bf : Nat} {st : RS} {order ends : List Nat} {all : Nat} {vT vK vC vO vE v' : Value}
theorem FInv.isBelow {w : World} (h : FInv w1 bf st order all ends vT vK vC vO vE wr) (hb : Below w.heap.size w w1) (hbf : w1.heap.size = bf) : Below w.heap.size w wr :=
  hb.trans (h.below.mono (hbf ▸ hb.size))
theorem FInv.later (h : FInv w1 bf st order all ends vT vK vC vO vE wr) (hb : Below wr.heap.size wr w') : FInv w1 bf st order all ends vT vK vC vO vE w' :=
  ⟨h.below.trans (hb.mono (Nat.le_of_lt (blk_lt h.fb))), (hb.block bf (blk_lt h.fb)).trans h.fb, own_below h.oC hb, own_below h.oT hb, own_below h.oK hb, own_below h.oO hb, own_below h.oE hb, h.aOT, h.aOE, h.aET⟩

theorem FInv.push_order {x : Nat} (h : FInv w1 bf st order all ends vT vK vC vO vE wr) (hp : Below wr.heap.size wr wp) (hg : wp.grownBy w' vO.ownBlock)
    (hown : w'.ownsRow (bf + 1) 3 1 v' (order.length + 1) (ints order ++ [.int .i64 (x : Int)])) (hat : v'.ownBlock = vO.ownBlock ∨ ∃ k, v'.ownBlock = some k ∧ wp.heap.size ≤ k) :
    w'.heap[bf]? = some (.cells #[vO, .int .i64 (all : Int), vE, vC] 92 (0, 0)) ∧
    w'.ownsRow (bf + 1) 3 1 vT st.told.length (ints st.told) ∧ w'.ownsRow (bf + 1) 4 1 vK st.kinds.length (bools st.kinds) ∧
    FInv w1 bf st (order ++ [x]) all ends vT vK vC v' vE (w'.setCell ⟨bf, 0, none⟩ v') := by
  have hlt := h.oO.lt
  have hbf := blk_lt h.fb
  have hfb : w'.heap[bf]? = some (.cells #[vO, .int .i64 (all : Int), vE, vC] 92 (0, 0)) := by
    rw [hg.block bf (Nat.lt_of_lt_of_le hbf hp.size) (fun e => by have := hlt bf e.symm; omega), hp.block bf hbf]; exact h.fb
  have kT := (own_below h.oT hp).kept hg h.aOT.symm.keep
  have kK := own_kept h.oK hp h.oO hg (by decide)
  have kE := (own_below h.oE hp).kept hg h.aOE.symm.keep
  refine ⟨hfb, kT, kK, ?_, blk_set hfb 0 v', ?_, ?_, ?_, ?_, ?_, h.aOT.grown (own_below h.oT hp) hat, h.aOE.grown (own_below h.oE hp) hat, h.aET⟩
  · exact ((h.below.trans (hp.mono (Nat.le_of_lt hbf))).grown hg (Nat.le_trans (Nat.le_of_lt hbf) hp.size) (fun k hk => by have := (hlt k hk).1; omega)).setCell (p := ⟨bf, 0, none⟩) (Nat.le_refl _) _
  · exact ownsRow_setCell_below (own_kept h.oC hp h.oO hg (by decide)) (a := ⟨bf, 0, none⟩) (Nat.lt_succ_self bf) v'
  · exact ownsRow_setCell_below kT (a := ⟨bf, 0, none⟩) (Nat.lt_succ_self bf) v'
  · exact ownsRow_setCell_below kK (a := ⟨bf, 0, none⟩) (Nat.lt_succ_self bf) v'
  · have := ownsRow_setCell_below hown (a := ⟨bf, 0, none⟩) (Nat.lt_succ_self bf) v'
    simpa [ints] using this
  · exact ownsRow_setCell_below kE (a := ⟨bf, 0, none⟩) (Nat.lt_succ_self bf) v'

theorem FInv.push_end {x : Nat} (h : FInv w1 bf st order all ends vT vK vC vO vE wr) (hp : Below wr.heap.size wr wp) (hg : wp.grownBy w' vE.ownBlock)
    (hown : w'.ownsRow (bf + 1) 3 1 v' (ends.length + 1) (ints ends ++ [.int .i64 (x : Int)])) (hat : v'.ownBlock = vE.ownBlock ∨ ∃ k, v'.ownBlock = some k ∧ wp.heap.size ≤ k) :
    w'.heap[bf]? = some (.cells #[vO, .int .i64 (all : Int), vE, vC] 92 (0, 0)) ∧
    FInv w1 bf st order all (ends ++ [x]) vT vK vC vO v' (w'.setCell ⟨bf, 2, none⟩ v') := by
  have hlt := h.oE.lt
  have hbf := blk_lt h.fb
  have hfb : w'.heap[bf]? = some (.cells #[vO, .int .i64 (all : Int), vE, vC] 92 (0, 0)) := by
    rw [hg.block bf (Nat.lt_of_lt_of_le hbf hp.size) (fun e => by have := hlt bf e.symm; omega), hp.block bf hbf]; exact h.fb
  refine ⟨hfb, ?_, blk_set hfb 2 v', ?_, ?_, ?_, ?_, ?_, h.aOT, (h.aOE.symm.grown (own_below h.oO hp) hat).symm, h.aET.grown (own_below h.oT hp) hat⟩
  · exact ((h.below.trans (hp.mono (Nat.le_of_lt hbf))).grown hg (Nat.le_trans (Nat.le_of_lt hbf) hp.size) (fun k hk => by have := (hlt k hk).1; omega)).setCell (p := ⟨bf, 2, none⟩) (Nat.le_refl _) _
  · exact ownsRow_setCell_below (own_kept h.oC hp h.oE hg (by decide)) (a := ⟨bf, 2, none⟩) (Nat.lt_succ_self bf) v'
  · exact ownsRow_setCell_below ((own_below h.oT hp).kept hg h.aET.symm.keep) (a := ⟨bf, 2, none⟩) (Nat.lt_succ_self bf) v'
  · exact ownsRow_setCell_below (own_kept h.oK hp h.oE hg (by decide)) (a := ⟨bf, 2, none⟩) (Nat.lt_succ_self bf) v'
  · exact ownsRow_setCell_below ((own_below h.oO hp).kept hg h.aOE.keep) (a := ⟨bf, 2, none⟩) (Nat.lt_succ_self bf) v'
  · have := ownsRow_setCell_below hown (a := ⟨bf, 2, none⟩) (Nat.lt_succ_self bf) v'
    simpa [ints] using this

theorem FInv.set_all (h : FInv w1 bf st order all ends vT vK vC vO vE wr) (all' : Nat) : FInv w1 bf st order all' ends vT vK vC vO vE (wr.setCell ⟨bf, 1, none⟩ (.int .i64 (all' : Int))) := by
  refine ⟨h.below.setCell (p := ⟨bf, 1, none⟩) (Nat.le_refl _) _, blk_set h.fb 1 _, ?_, ?_, ?_, ?_, ?_, h.aOT, h.aOE, h.aET⟩
  all_goals first
    | exact ownsRow_setCell_below h.oC (a := ⟨bf, 1, none⟩) (Nat.lt_succ_self bf) _
    | exact ownsRow_setCell_below h.oK (a := ⟨bf, 1, none⟩) (Nat.lt_succ_self bf) _
    | exact ownsRow_setCell_below h.oT (a := ⟨bf, 1, none⟩) (Nat.lt_succ_self bf) _
    | exact ownsRow_setCell_below h.oO (a := ⟨bf, 1, none⟩) (Nat.lt_succ_self bf) _
    | exact ownsRow_setCell_below h.oE (a := ⟨bf, 1, none⟩) (Nat.lt_succ_self bf) _
theorem FInv.drew (h : FInv w1 bf st order all ends vT vK vC vO vE wr) : FInv w1 bf st order all ends vT vK vC vO vE wr.drew := h.later ((Below.refl _ _).drew)
end

theorem rowOf_told (st : RS) (hd : List UInt8) (tl : List (List UInt8)) (h : ∀ v ∈ st.told, v ≤ 8) : ∀ v ∈ (rowOf st hd tl).1.told, v ≤ 8 := by
  unfold rowOf
  split
  · exact h
  · split
    · dsimp only
      unfold varsTo
      suffices hs : ∀ (tl : List (List UInt8)) (p : PS), (∀ v ∈ p.told, v ≤ 8) → ∀ v ∈ (tl.foldl (varStep (hd == [97])) p).told, v ≤ 8 from hs tl _ h
      intro tl
      induction tl with
      | nil => intro p hp; exact hp
      | cons w tl ih =>
        intro p hp
        refine ih _ ?_
        intro v hv
        simp [varStep] at hv
        rcases hv with hv | hv
        · exact hp v hv
        · have := dig_bd w; omega
    · exact h
theorem told_le (rows : List (List UInt8)) : ∀ (st : RS) (i : Nat) (st' : RS), (∀ v ∈ st.told, v ≤ 8) → readRows st i rows = .inl st' → ∀ v ∈ st'.told, v ≤ 8 := by
  induction rows with
  | nil => intro st i st' h e; simp [readRows] at e; subst e; exact h
  | cons r rows ih =>
    intro st i st' h e
    rw [readRows] at e
    split at e
    · refine ih _ _ _ ?_ e
      unfold rowStep
      split
      · exact h
      · exact rowOf_told _ _ _ h
    · cases e
theorem freeTo_le (st : RS) (k : Nat) : ∀ v ∈ freeTo st k, v ≤ k := by
  intro v hv
  unfold freeTo at hv
  rw [List.mem_filter] at hv
  obtain ⟨hv, _⟩ := hv
  simp at hv
  omega
theorem allTo_lt (st : RS) (h : ∀ v ∈ st.told, v ≤ 8) (k : Nat) : allTo st k < 512 := by
  unfold allTo
  suffices hs : ∀ (l : List (Nat × Bool)) (a : Nat), a < 512 → (∀ x ∈ l, x.1 ≤ 8) → l.foldl (fun a x => if x.2 then a ||| 2 ^ x.1 else a) a < 512 by
    refine hs _ 0 (by decide) ?_
    intro x hx
    have h1 := List.mem_of_mem_take hx
    exact h _ (List.of_mem_zip h1).1
  intro l
  induction l with
  | nil => intro a ha _; exact ha
  | cons x l ih =>
    intro a ha hx
    refine ih _ ?_ (fun y hy => hx y (List.mem_cons_of_mem _ hy))
    have := pow_bd x.1 (hx x (List.mem_cons_self ..))
    dsimp only
    split
    · exact or_lt _ _ ha (by omega)
    · exact ha
theorem own_lo {w : World} {base lo : Nat} {e : TypeId} {size : Nat} {v : Value} {n : Nat} {xs : List Value} (h : w.ownsRow base e size v n xs) (hl : lo ≤ base) : w.ownsRow lo e size v n xs := by
  refine ⟨h.1, ?_⟩
  rcases h.2 with h2 | ⟨g, cap, cur, hv, hg, r⟩
  · exact Or.inl h2
  · exact Or.inr ⟨g, cap, cur, hv, Nat.le_trans hl hg, r⟩
theorem freeTo_len (st : RS) (k : Nat) : (freeTo st k).length ≤ k := by
  unfold freeTo
  refine Nat.le_trans (List.length_filter_le _ _) ?_
  simp
theorem endsTo_len (order : List Nat) (all k : Nat) : (endsTo order all k).length ≤ k := by
  unfold endsTo
  refine Nat.le_trans (List.length_filter_le _ _) ?_
  simp
end Go.Proofs.YtgipjjhkhfihpaaGreatDoor

namespace Go.Proofs.YtgipjjhkhfihpaaGreatDoor
open Go.RowKit

/-- What the program holds of a formula. -/
structure QS where
  vars : List (Nat × Bool)
  cl : List (Nat × Nat)
def varCells (l : List (Nat × Bool)) : List Value := l.flatMap (fun x => [Value.int .i64 (x.1 : Int), Value.bool x.2])
theorem varCells_length (l : List (Nat × Bool)) : (varCells l).length = l.length * 2 := by
  induction l with
  | nil => rfl
  | cons a l ih => simp [varCells] at *; omega
theorem varCells_snoc (l : List (Nat × Bool)) (x : Nat × Bool) : varCells (l ++ [x]) = varCells l ++ [Value.int .i64 (x.1 : Int), Value.bool x.2] := by simp [varCells]
theorem varCells_at (l : List (Nat × Bool)) (k : Nat) (h : k < l.length) : (varCells l)[k * 2]? = some (.int .i64 (l[k].1 : Int)) ∧ (varCells l)[k * 2 + 1]? = some (.bool l[k].2) := by
  induction l generalizing k with
  | nil => simp at h
  | cons a l ih =>
    cases k with
    | zero => simp [varCells]
    | succ k =>
      have := ih k (by simpa using h)
      simp only [varCells, List.flatMap_cons] at this ⊢
      constructor
      · rw [show (k + 1) * 2 = k * 2 + 2 from by omega, List.getElem?_append_right (by simp)]
        simpa using this.1
      · rw [show (k + 1) * 2 + 1 = k * 2 + 1 + 2 from by omega, List.getElem?_append_right (by simp)]
        simpa using this.2
theorem pairs_at (l : List (Nat × Nat)) (k : Nat) (h : k < l.length) : (pairs l)[k * 2]? = some (.int .i64 (l[k].1 : Int)) ∧ (pairs l)[k * 2 + 1]? = some (.int .i64 (l[k].2 : Int)) := by
  induction l generalizing k with
  | nil => simp at h
  | cons a l ih =>
    cases k with
    | zero => simp [pairs]
    | succ k =>
      have := ih k (by simpa using h)
      simp only [pairs, List.flatMap_cons] at this ⊢
      constructor
      · rw [show (k + 1) * 2 = k * 2 + 2 from by omega, List.getElem?_append_right (by simp)]
        simpa using this.1
      · rw [show (k + 1) * 2 + 1 = k * 2 + 1 + 2 from by omega, List.getElem?_append_right (by simp)]
        simpa using this.2

/-- The program's formula lies at block b, its rows from base on. -/
structure QInv (base : Nat) (w : World) (b : Nat) (q : QS) (vV vC : Value) : Prop where
  fb : w.heap[b]? = some (.cells #[vV, vC] 60 (0, 0))
  oV : w.ownsRow base 139 2 vV q.vars.length (varCells q.vars)
  oC : w.ownsRow base 74 2 vC q.cl.length (pairs q.cl)
theorem QInv.later {base b : Nat} {w w' : World} {q : QS} {vV vC : Value} (h : QInv base w b q vV vC) (hb : Below w.heap.size w w') : QInv base w' b q vV vC :=
  ⟨(hb.block b (blk_lt h.fb)).trans h.fb, own_below h.oV hb, own_below h.oC hb⟩

def hasV (vs : List (Nat × Bool)) (v : Nat) : Bool := vs.any (fun x => x.1 == v)
theorem hasV_take (vs : List (Nat × Bool)) (v k : Nat) (h : k < vs.length) : hasV (vs.take (k + 1)) v = (hasV (vs.take k) v || (vs[k].1 == v)) := by
  unfold hasV; rw [List.take_succ_eq_append_getElem h, List.any_append]; simp
theorem cell_lt {w : World} {b o : Nat} {v : Value} (h : w.cell? ⟨b, o, none⟩ = some v) : b < w.heap.size := by
  rcases Nat.lt_or_ge b w.heap.size with h1 | h1
  · exact h1
  · rw [World.cell?, Array.getElem?_eq_none h1] at h; cases h
/-- The variable with this number, and whether there is one. -/
def findV (vs : List (Nat × Bool)) (v : Nat) : Option (Nat × Bool) := vs.find? (fun x => x.1 == v)
theorem findV_hit (vs : List (Nat × Bool)) (v k : Nat) (h : k < vs.length) (hno : hasV (vs.take k) v = false) (hv : vs[k].1 = v) : findV vs v = some vs[k] := by
  unfold findV
  conv => lhs; rw [← List.take_append_drop k vs, List.drop_eq_getElem_cons h]
  rw [List.find?_append]
  have : (vs.take k).find? (fun x => x.1 == v) = none := by
    rw [List.find?_eq_none]
    intro x hx hh
    unfold hasV at hno
    rw [List.any_eq_false] at hno
    exact hno x hx hh
  rw [this, List.find?_cons, show (vs[k].1 == v) = true from by simp [hv]]
  rfl
theorem findV_none (vs : List (Nat × Bool)) (v : Nat) (h : hasV vs v = false) : findV vs v = none := by
  unfold findV; rw [List.find?_eq_none]
  intro x hx hh
  unfold hasV at h
  rw [List.any_eq_false] at h
  exact h x hx hh
theorem hasV_find (vs : List (Nat × Bool)) (v : Nat) : (findV vs v).isSome = hasV vs v := by
  unfold findV hasV; rw [List.isSome_find?]
def FindPost (vs : List (Nat × Bool)) (v : Nat) (w : World) (e : Ending) (w' : World) : Prop :=
  Below w.heap.size w w' ∧ e = .returned (.tuple #[.agg #[.int .i64 (((findV vs v).getD (0, false)).1 : Nat), .bool ((findV vs v).getD (0, false)).2], .bool (findV vs v).isSome])

set_option maxRecDepth 100000 in
set_option maxHeartbeats 800000 in
theorem find_any (base b : Nat) (vs : List (Nat × Bool)) (vV : Value) (v : Nat) (w : World) (hc0 : w.cell? ⟨b, 0, none⟩ = some vV) (hV : w.ownsRow base 139 2 vV vs.length (varCells vs)) (hl : vs.length ≤ 1073741824) :
    Calls Tryz.prog 68 #[.pointer (some ⟨b, 0, none⟩), .int .i64 v] w fun e w' => FindPost vs v w e w' := by
  obtain ⟨aV, cV, rfl⟩ := own_form hV
  have hbw := cell_lt hc0
  go_enter Tryz.func68, Tryz.ntmps68
  go_wp2_with fail
  go_loopg [13] (vs.length) (fun n i wx => ∃ k : Nat, i = .int .i64 k ∧ k + n = vs.length ∧ hasV (vs.take k) v = false ∧ Below w.heap.size w wx ∧ wx.heap[w.heap.size]? = some (.cells #[.int .i64 0, .bool false] 139 (0, 0)))
  case atStart => exact ⟨0, rfl, by omega, rfl, (Below.refl _ _).alloc (Nat.le_refl _) _, heap_alloc_new _ _⟩
  case round =>
    obtain ⟨k, rfl, hk, hno, hb, hres⟩ := hrel
    have HNO := hide hno; clear hno
    have hbs := blk_lt hres
    have hr0 : wr.cell? ⟨w.heap.size, 0, none⟩ = some (.int .i64 0) := by rw [blk_cell hres]; rfl
    have hr1 : wr.cell? ⟨w.heap.size, 1, none⟩ = some (.bool false) := by rw [blk_cell hres]; rfl
    have hz0 := blk_free hres 0
    have hz1 := blk_free hres 1
    by_cases hlt : k < vs.length
    · obtain ⟨g, cap, hVe, hg, hg', _, hcell⟩ := own_pos hV (by omega)
      injection hVe with hVe _ hV2
      subst hVe hV2
      have hgw : g < wr.heap.size := by omega
      obtain ⟨ha, hb'⟩ := varCells_at vs k hlt
      have hx0 : wr.cell? ⟨g, k * 2, none⟩ = some (.int .i64 (vs[k].1 : Int)) := by rw [hb.cell (p := ⟨g, k * 2, none⟩) hg']; exact hcell _ _ ha
      have hx1 : wr.cell? ⟨g, k * 2 + 1, none⟩ = some (.bool vs[k].2) := by rw [hb.cell (p := ⟨g, k * 2 + 1, none⟩) hg']; exact hcell _ _ hb'
      have HT := hide (hasV_take vs v k hlt)
      have HH := hide (findV_hit vs v k hlt (unhide HNO))
      clear hcell ha hb'
      by_cases hv : vs[k].1 = v
      · have hvb : ((vs[k].1 : Int) == (v : Int)) = true := by rw [beq_iff_eq]; omega
        have HF := hide (unhide HH hv)
        clear hv
        go_wp2_with fail
        have hR := blk_set (blk_set hres 0 (.int .i64 (vs[k].1 : Int))) 1 (.bool vs[k].2)
        have hR' := (heap_alloc_old _ (.cells #[.int .i64 (vs[k].1 : Int), .bool vs[k].2] 139) (blk_lt hR)).trans hR
        have k0 := blk_cell hR' 0
        have k1 := blk_cell hR' 1
        refine bodyPost_ret (v := .tuple #[.agg #[.int .i64 (vs[k].1 : Int), .bool vs[k].2], .bool true]) (by simp [results, Tryz.results68, go_sem, k0, k1]) rfl ⟨?_, by rw [unhide HF]; rfl⟩
        exact ((hb.setCell (p := ⟨w.heap.size, 0, none⟩) (Nat.le_refl _) _).setCell (p := ⟨w.heap.size, 1, none⟩) (Nat.le_refl _) _).alloc (by simp [World.setCell]; omega) _
      · have hvb : ((vs[k].1 : Int) == (v : Int)) = false := by rw [beq_eq_false_iff_ne]; omega
        have HV := hide hv; clear hv
        go_wp2_with fail
        go_roundg (gk - 1)
        case measure => omega
        case rel =>
          refine ⟨k + 1, by go_num, by omega, ?_, hb.alloc (by omega) _, (heap_alloc_old _ _ hbs).trans hres⟩
          rw [unhide HT, unhide HNO]; simpa using unhide HV
    · have hkl : k = vs.length := by omega
      subst hkl
      have hno := unhide HNO
      rw [List.take_length] at hno
      have HF := hide (findV_none vs v hno); clear hno
      go_wp2_with fail
      refine bodyPost_ret (v := .tuple #[.agg #[.int .i64 0, .bool false], .bool false]) (by simp [results, Tryz.results68, go_sem, hr0, hr1]) rfl ⟨?_, by rw [unhide HF]; rfl⟩
      exact (hb.setCell (p := ⟨w.heap.size, 0, none⟩) (Nat.le_refl _) _).setCell (p := ⟨w.heap.size, 1, none⟩) (Nat.le_refl _) _

/-! ### inClauses -/
def inC (cl : List (Nat × Nat)) (v : Int) : Bool := cl.any (fun c => (c.1 ||| c.2) &&& bitOf v != 0)
theorem inC_take (cl : List (Nat × Nat)) (v : Int) (k : Nat) (h : k < cl.length) : inC (cl.take (k + 1)) v = (inC (cl.take k) v || ((cl[k].1 ||| cl[k].2) &&& bitOf v != 0)) := by
  unfold inC; rw [List.take_succ_eq_append_getElem h, List.any_append]; simp
theorem inC_of_take (cl : List (Nat × Nat)) (v : Int) (k : Nat) (h : inC (cl.take k) v = true) : inC cl v = true := by
  unfold inC at *
  rw [List.any_eq_true] at *
  obtain ⟨x, hx, hv⟩ := h
  exact ⟨x, List.mem_of_mem_take hx, hv⟩

set_option maxRecDepth 100000 in
set_option maxHeartbeats 800000 in
theorem qin_any (base b : Nat) (q : QS) (vV vC : Value) (v : Int) (w : World) (hq : QInv base w b q vV vC) (hl : q.cl.length ≤ 1048576) (hcl : ∀ c ∈ q.cl, c.1 < 512 ∧ c.2 < 512) :
    Calls Tryz.prog 69 #[.pointer (some ⟨b, 0, none⟩), .int .i64 v] w fun e w' => e = .returned (.bool (inC q.cl v)) ∧ Below w.heap.size w w' := by
  have hc0 : w.cell? ⟨b, 1, none⟩ = some vC := by rw [blk_cell hq.fb]; rfl
  have HCL := hide hcl; clear hcl
  obtain ⟨aV, cV, rfl⟩ := own_form hq.oC
  go_enter Tryz.func69, Tryz.ntmps69
  go_wp2_with fail
  go_loopg [12] (q.cl.length) (fun n i wx => ∃ k : Nat, i = .int .i64 k ∧ k + n = q.cl.length ∧ inC (q.cl.take k) v = false ∧ Below w.heap.size w wx)
  case atStart => exact ⟨0, rfl, by omega, rfl, Below.refl _ _⟩
  case round =>
    obtain ⟨k, rfl, hk, hno, hb⟩ := hrel
    have HNO := hide hno; clear hno
    have hbs := hb.size
    by_cases hlt : k < q.cl.length
    · obtain ⟨g, cap, hV, hg, hg', _, hcell⟩ := own_pos hq.oC (by omega)
      injection hV with hV _ hV2
      subst hV hV2
      have hgw : g < wr.heap.size := by omega
      obtain ⟨ha, hb'⟩ := pairs_at q.cl k hlt
      have hx0 : wr.cell? ⟨g, k * 2, none⟩ = some (.int .i64 (q.cl[k].1 : Int)) := by rw [hb.cell (p := ⟨g, k * 2, none⟩) hg']; exact hcell _ _ ha
      have hx1 : wr.cell? ⟨g, k * 2 + 1, none⟩ = some (.int .i64 (q.cl[k].2 : Int)) := by rw [hb.cell (p := ⟨g, k * 2 + 1, none⟩) hg']; exact hcell _ _ hb'
      have HT := hide (inC_take q.cl v k hlt)
      have hbd := unhide HCL _ (List.getElem_mem hlt)
      have HOF := hide (inC_of_take q.cl v (k + 1))
      clear hcell ha hb'
      generalize q.cl[k] = c at *
      obtain ⟨p, n⟩ := c
      go_wp2_with fail
      refine (hasVar_any p n v _ hbd.1 hbd.2).mono ?_
      rintro e w2 ⟨rfl, hb2⟩
      have hb3 : Below w.heap.size w w2 := (hb.alloc hbs _).trans (hb2.mono (by simp; omega))
      cases hh : ((p ||| n) &&& bitOf v != 0) with
      | true =>
        have HF := hide (unhide HOF (by rw [unhide HT]; simp only [hh]; simp))
        go_wp2_with fail
        go_ret
        exact ⟨ret_bool (unhide HF).symm, hb3⟩
      | false =>
        go_wp2_with fail
        go_roundg (gk - 1)
        case measure => omega
        case rel => exact ⟨k + 1, by go_num, by omega, by rw [unhide HT, unhide HNO]; simp only [hh]; rfl, hb3⟩
    · have hkl : k = q.cl.length := by omega
      subst hkl
      have hno := unhide HNO
      rw [List.take_length] at hno
      have HF := hide hno; clear hno
      go_wp2_with fail
      go_ret
      exact ⟨ret_bool (unhide HF).symm, hb⟩
end Go.Proofs.YtgipjjhkhfihpaaGreatDoor

namespace Go.Proofs.YtgipjjhkhfihpaaGreatDoor
open Go.RowKit

/-- What holds of the formula and the steps. -/
structure QB (q : QS) : Prop where
  vl : q.vars.length ≤ 8
  cl : q.cl.length ≤ 24
  bits : ∀ c ∈ q.cl, c.1 < 512 ∧ c.2 < 512
  names : ∀ x ∈ q.vars, 1 ≤ x.1 ∧ x.1 ≤ 8
def pivotB (kind : Nat) (u : Bool) : Bool := u == (kind == 2)
def hasVarB (c : Nat × Nat) (v : Nat) : Bool := (c.1 ||| c.2) &&& bitOf v != 0
/-- From the innermost variable outwards. -/
def redQ (kind : Nat) : List (Nat × Bool) → Nat × Nat → Nat × Nat
  | [], c => c
  | v :: vs, c => if hasVarB c v.1 then (if pivotB kind v.2 then c else redQ kind vs (without c v.1)) else redQ kind vs c
theorem without_lt (c : Nat × Nat) (v : Int) (h : c.1 < 512 ∧ c.2 < 512) : (without c v).1 < 512 ∧ (without c v).2 < 512 := ⟨less_lt9 _ _ h.1, less_lt9 _ _ h.2⟩
theorem redQ_lt (kind : Nat) (vs : List (Nat × Bool)) : ∀ (c : Nat × Nat), c.1 < 512 ∧ c.2 < 512 → (redQ kind vs c).1 < 512 ∧ (redQ kind vs c).2 < 512 := by
  induction vs with
  | nil => intro c h; exact h
  | cons v vs ih =>
    intro c h
    rw [redQ]
    split
    · split
      · exact h
      · exact ih _ (without_lt _ _ h)
    · exact ih _ h
theorem redQ_step (kind : Nat) (vs : List (Nat × Bool)) (k : Nat) (h : k < vs.length) (c : Nat × Nat) :
    redQ kind (vs.take (k + 1)).reverse c = if hasVarB c vs[k].1 then (if pivotB kind vs[k].2 then c else redQ kind (vs.take k).reverse (without c vs[k].1)) else redQ kind (vs.take k).reverse c := by
  rw [List.take_succ_eq_append_getElem h, List.reverse_append]
  rfl
def without2 (a b : Nat × Nat) (v : Nat) : Nat × Nat := without (a.1 ||| b.1, a.2 ||| b.2) v
def okC (x c : Nat × Nat) : Bool := ((x.1 &&& c.1) ||| (x.2 &&& c.2) != 0) || (x.1 &&& x.2 != 0)
def satQ (cl : List (Nat × Nat)) (c : Nat × Nat) : Bool := cl.all (okC · c)
theorem satQ_take (cl : List (Nat × Nat)) (c : Nat × Nat) (k : Nat) (h : k < cl.length) : satQ (cl.take (k + 1)) c = (satQ (cl.take k) c && okC cl[k] c) := by
  unfold satQ; rw [List.take_succ_eq_append_getElem h, List.all_append]; simp
theorem satQ_of (cl : List (Nat × Nat)) (c : Nat × Nat) (k : Nat) (h : k < cl.length) (hc : okC cl[k] c = false) : satQ cl c = false := by
  unfold satQ; rw [List.all_eq_false]; exact ⟨cl[k], List.getElem_mem h, by rw [hc]; decide⟩

/-! ### Steps as the program holds them -/
structure Stp where
  rule : Nat
  first : Nat
  second : Nat
  var : Nat
  lits : Nat × Nat
def litsAt (p : List Stp) (n : Nat) : Nat × Nat := if n = 0 then (0, 0) else match p[n - 1]? with
  | some s => s.lits
  | none => (0, 0)
def psCells (l : List Stp) : List Value := l.flatMap (fun s => [Value.int .i64 (s.rule : Int), Value.int .i64 (s.first : Int), Value.int .i64 (s.second : Int), Value.int .i64 (s.var : Int), Value.int .i64 (s.lits.1 : Int), Value.int .i64 (s.lits.2 : Int)])
theorem psCells_snoc (l : List Stp) (s : Stp) : psCells (l ++ [s]) = psCells l ++ [Value.int .i64 (s.rule : Int), Value.int .i64 (s.first : Int), Value.int .i64 (s.second : Int), Value.int .i64 (s.var : Int), Value.int .i64 (s.lits.1 : Int), Value.int .i64 (s.lits.2 : Int)] := by simp [psCells]
theorem psCells_at (l : List Stp) (k j : Nat) (h : k < l.length) (hj : j < 6) : (psCells l)[k * 6 + j]? = [Value.int .i64 (l[k].rule : Int), Value.int .i64 (l[k].first : Int), Value.int .i64 (l[k].second : Int), Value.int .i64 (l[k].var : Int), Value.int .i64 (l[k].lits.1 : Int), Value.int .i64 (l[k].lits.2 : Int)][j]? := by
  induction l generalizing k with
  | nil => simp at h
  | cons a l ih =>
    cases k with
    | zero =>
      simp only [psCells, List.flatMap_cons, Nat.zero_mul, Nat.zero_add, List.getElem_cons_zero]
      rw [List.getElem?_append_left (by simpa using hj)]
    | succ k =>
      have := ih k (by simpa using h)
      simp only [psCells, List.flatMap_cons] at this ⊢
      rw [show (k + 1) * 6 + j = (k * 6 + j) + 6 from by omega, List.getElem?_append_right (by simp)]
      simpa using this
theorem litsAt_in (p : List Stp) (m : Nat) (h : m < p.length) : litsAt p (m + 1) = p[m].lits := by
  unfold litsAt; rw [if_neg (by omega), Nat.add_sub_cancel, List.getElem?_eq_getElem h]
theorem litsAt_out (p : List Stp) (n : Nat) (h : n < 1 ∨ p.length < n) : litsAt p n = (0, 0) := by
  unfold litsAt
  split
  · rfl
  · rw [List.getElem?_eq_none (by omega)]
theorem litsAt_lt (p : List Stp) (h : ∀ s ∈ p, s.lits.1 < 512 ∧ s.lits.2 < 512) (n : Nat) : (litsAt p n).1 < 512 ∧ (litsAt p n).2 < 512 := by
  unfold litsAt
  split
  · exact ⟨by decide, by decide⟩
  · split
    · next s hs => exact h s (List.mem_of_getElem? hs)
    · exact ⟨by decide, by decide⟩
end Go.Proofs.YtgipjjhkhfihpaaGreatDoor
