import Derived.Test.YtgipjjhkhfihpaaAA
import Derived.Deep.RegionWith
import Derived.Deep.QuietTactic
import Derived.BigQuiet
import Derived.Laws.AppendOwnNone
namespace Go.Proofs.Ytgipjjhkhfihpaa
open Go.RowKit

def isDigit (c : UInt8) : Bool := decide (48 ≤ c.toNat ∧ c.toNat ≤ 57)
def dec (l : List UInt8) : Nat := l.foldl (fun n c => n * 10 + (c.toNat - 48)) 0
/-- The number that a word writes without noughts ahead, from 1 to most. -/
def numOf (l : List UInt8) (most : Nat) : Option Nat :=
  if l = [] ∨ l.head? = some 48 ∨ l.all isDigit = false ∨ most < dec l then none else some (dec l)
theorem dec_take (l : List UInt8) (k : Nat) (h : k < l.length) : dec (l.take (k + 1)) = dec (l.take k) * 10 + (l[k].toNat - 48) := by
  unfold dec; rw [List.take_succ_eq_append_getElem h, List.foldl_append]; rfl
theorem dec_mono (l : List UInt8) (k : Nat) : dec (l.take k) ≤ dec l := by
  have h : ∀ (b : List UInt8) (n : Nat), n ≤ b.foldl (fun n c => n * 10 + (c.toNat - 48)) n := by
    intro b
    induction b with
    | nil => intro n; exact Nat.le_refl _
    | cons c b ih => intro n; exact Nat.le_trans (by simp only []; omega) (ih _)
  conv => rhs; rw [← List.take_append_drop k l]
  unfold dec; rw [List.foldl_append]; exact h _ _
theorem numOf_bad_digit (l : List UInt8) (most k : Nat) (h : k < l.length) (hd : isDigit l[k] = false) : numOf l most = none := by
  unfold numOf
  rw [if_pos]
  right; right; left
  rw [List.all_eq_false]
  exact ⟨l[k], List.getElem_mem h, by simp [hd]⟩
theorem numOf_bad_much (l : List UInt8) (most k : Nat) (h : k < l.length) (hd : most < dec (l.take k) * 10 + (l[k].toNat - 48)) : numOf l most = none := by
  unfold numOf
  rw [if_pos]
  right; right; right
  rw [← dec_take l k h] at hd
  exact Nat.lt_of_lt_of_le hd (dec_mono l (k + 1))
def NumPost (l : List UInt8) (most : Nat) (w : World) (e : Ending) (w' : World) : Prop :=
  w' = w ∧ e = .returned (.tuple #[.int .i64 ((numOf l most).getD 0 : Nat), .bool (numOf l most).isSome])

attribute [local go_sem] ba_get

set_option maxRecDepth 100000 in
set_option maxHeartbeats 1600000 in
theorem number_any (l : List UInt8) (most : Nat) (w : World) (hl : l.length ≤ 1048576) (hm : most ≤ 1048576) :
    Calls Try.prog 49 #[.string ⟨l.toArray⟩, .int .i64 most] w fun e w' => NumPost l most w e w' := by
  by_cases hnil : l = []
  · subst hnil
    have HN : Hid (numOf [] most = none) := hide (by unfold numOf; rw [if_pos (Or.inl rfl)])
    go_enter Try.func49, Try.ntmps49
    go_wp2_with fail
    go_ret2
    exact ⟨rfl, by rw [unhide HN]; rfl⟩
  have h0 : 0 < l.length := List.length_pos_iff.2 hnil
  have hcl : ((l.length : Int) == 0) = false := by rw [beq_eq_false_iff_ne]; omega
  by_cases hc0 : l[0] = 48
  · have HN : Hid (numOf l most = none) := hide (by unfold numOf; rw [if_pos (Or.inr (Or.inl (by rw [List.head?_eq_getElem?, List.getElem?_eq_getElem h0, hc0])))])
    have hcb : ((l[0].toNat : Int) == 48) = true := by rw [hc0]; rfl
    clear hc0 hnil
    go_enter Try.func49, Try.ntmps49
    go_wp2_with fail
    go_ret2
    exact ⟨rfl, by rw [unhide HN]; rfl⟩
  · have hcb : ((l[0].toNat : Int) == 48) = false := by
      rw [beq_eq_false_iff_ne]; intro e; exact hc0 (by apply UInt8.toNat_inj.1; show _ = 48; omega)
    have HH : Hid (l.head? ≠ some 48) := hide (by rw [List.head?_eq_getElem?, List.getElem?_eq_getElem h0]; simpa using hc0)
    have HNil := hide hnil
    clear hc0 hnil
    go_enter Try.func49, Try.ntmps49
    go_wp2_with fail
    go_loopg [6, 7] (l.length) (fun q n i wr => ∃ k : Nat, i = .int .i64 k ∧ k + q = l.length ∧ n = .int .i64 (dec (l.take k) : Nat) ∧ dec (l.take k) ≤ most ∧ (l.take k).all isDigit = true ∧ wr = w)
    case atStart => exact ⟨0, rfl, by omega, rfl, by simp [dec], rfl, rfl⟩
    case round =>
      obtain ⟨k, rfl, hkq, rfl, hle, hall, hwr⟩ := hrel
      subst hwr
      have HA := hide hall; clear hall
      by_cases hlt : k < l.length
      · have hdl : decide ((k : Int) < (l.length : Int)) = true := by simp; omega
        have HDT := hide (dec_take l k hlt)
        have HBD := hide (numOf_bad_digit l most k hlt)
        have HBM := hide (numOf_bad_much l most k hlt)
        generalize dec (l.take k) = n at *
        have hb8 : l[k].toNat < 256 := UInt8.toNat_lt l[k]
        by_cases hd : isDigit l[k] = true
        · have hd1 : 48 ≤ l[k].toNat ∧ l[k].toNat ≤ 57 := of_decide_eq_true hd
          have hq1 : decide ((l[k].toNat : Int) < 48) = false := by simp; omega
          have hq2 : decide ((57 : Int) < (l[k].toNat : Int)) = false := by simp; omega
          by_cases hmu : most < n * 10 + (l[k].toNat - 48)
          · have HN := hide (unhide HBM hmu)
            by_cases hdm : most < l[k].toNat - 48
            · have hq3 : decide ((most : Int) < (l[k].toNat : Int) - 48) = true := by simp; omega
              clear hd
              go_wp2_with fail
              go_ret2
              exact ⟨rfl, by rw [unhide HN]; rfl⟩
            · have hq3 : decide ((most : Int) < (l[k].toNat : Int) - 48) = false := by simp; omega
              have hq4 : decide (((most : Int) - ((l[k].toNat : Int) - 48)) / 10 < (n : Int)) = true := by simp; omega
              clear hd
              go_wp2_with fail
              go_ret2
              exact ⟨rfl, by rw [unhide HN]; rfl⟩
          · have hq3 : decide ((most : Int) < (l[k].toNat : Int) - 48) = false := by simp; omega
            have hq4 : decide (((most : Int) - ((l[k].toNat : Int) - 48)) / 10 < (n : Int)) = false := by simp; omega
            have HD := hide hd; clear hd
            go_wp2_with fail
            go_roundg (gk - 1)
            case measure => omega
            case rel =>
              refine ⟨k + 1, by go_num, by omega, ?_, by rw [unhide HDT]; omega, ?_, rfl⟩
              · rw [unhide HDT]
                exact congrArg (Value.int .i64) (by omega)
              · rw [List.take_succ_eq_append_getElem hlt, List.all_append, unhide HA]; simp [unhide HD]
        · have hdf : isDigit l[k] = false := by simpa using hd
          have HN := hide (unhide HBD hdf)
          have hd1 : ¬ (48 ≤ l[k].toNat ∧ l[k].toNat ≤ 57) := of_decide_eq_false hdf
          clear hd hdf
          by_cases hlo : l[k].toNat < 48
          · have hq1 : decide ((l[k].toNat : Int) < 48) = true := by simp; omega
            clear hd1
            go_wp2_with fail
            go_ret2
            exact ⟨rfl, by rw [unhide HN]; rfl⟩
          · have hq1 : decide ((l[k].toNat : Int) < 48) = false := by simp; omega
            have hq2 : decide ((57 : Int) < (l[k].toNat : Int)) = true := by simp; omega
            clear hd1
            go_wp2_with fail
            go_ret2
            exact ⟨rfl, by rw [unhide HN]; rfl⟩
      · have hkl : k = l.length := by omega
        subst hkl
        have hdl : decide ((l.length : Int) < (l.length : Int)) = false := by simp
        have hA := unhide HA
        rw [List.take_length] at hle hA
        have HN : Hid (numOf l most = some (dec l)) := hide (by
          unfold numOf
          rw [if_neg]
          rintro (h | h | h | h)
          · exact unhide HNil h
          · exact unhide HH h
          · rw [hA] at h; cases h
          · omega)
        have HT : Hid (l.take l.length = l) := hide List.take_length
        clear hA
        go_wp2_with fail
        go_ret2
        refine ⟨rfl, ?_⟩
        rw [unhide HN]
        show Ending.returned (.tuple #[.int .i64 (dec (l.take l.length) : Nat), .bool true]) = _
        rw [unhide HT]; rfl

theorem dig_num (l : List UInt8) : numOf l 8 = if dig l = 0 then none else some (dig l).toNat := by
  match l with
  | [] => rfl
  | [c] =>
    have hb8 : c.toNat < 256 := UInt8.toNat_lt c
    have hdig : dig [c] = if 49 ≤ (c.toNat : Int) ∧ (c.toNat : Int) ≤ 56 then (c.toNat : Int) - 48 else 0 := rfl
    unfold numOf dec isDigit
    rw [hdig]
    by_cases h : 49 ≤ (c.toNat : Int) ∧ (c.toNat : Int) ≤ 56
    · rw [if_neg]
      · rw [if_pos h, if_neg (by omega)]
        simp; omega
      · rintro (h1 | h1 | h1 | h1)
        · cases h1
        · simp at h1; subst h1; revert h; decide
        · simp at h1; omega
        · simp at h1; omega
    · rw [if_neg h, if_pos rfl, if_pos]
      by_cases h48 : c = 48
      · right; left; simp [h48]
      · have : c.toNat ≠ 48 := fun e => h48 (by apply UInt8.toNat_inj.1; exact e)
        by_cases hd : 48 ≤ c.toNat ∧ c.toNat ≤ 57
        · right; right; right; simp; omega
        · right; right; left; simp; omega
  | c :: d :: r =>
    have h0 : dig (c :: d :: r) = 0 := rfl
    rw [h0, if_pos rfl]
    unfold numOf
    rw [if_pos]
    by_cases h48 : c = 48
    · right; left; simp [h48]
    · have hc : c.toNat ≠ 48 := fun e => h48 (by apply UInt8.toNat_inj.1; exact e)
      by_cases hd : (c :: d :: r).all isDigit = false
      · right; right; left; exact hd
      · right; right; right
        have hc1 : 48 ≤ c.toNat ∧ c.toNat ≤ 57 := by
          have : isDigit c = true := by
            simp at hd
            exact hd.1
          exact of_decide_eq_true this
        have h1 := dec_mono (c :: d :: r) 2
        have h2 : dec ((c :: d :: r).take 2) = (c.toNat - 48) * 10 + (d.toNat - 48) := by simp [dec]
        omega

def VarPost (l : List UInt8) (w : World) (e : Ending) (w' : World) : Prop := w' = w ∧ e = .returned (.tuple #[.int .i64 (dig l), .bool (decide (0 < dig l))])
theorem numPost_dig {l : List UInt8} {w w' : World} {e : Ending} (h : NumPost l 8 w e w') : VarPost l w e w' := by
  obtain ⟨h1, h2⟩ := h
  refine ⟨h1, ?_⟩
  rw [h2, dig_num]
  have := dig_bd l
  by_cases h0 : dig l = 0
  · rw [if_pos h0, h0]; rfl
  · rw [if_neg h0]
    have h1 : decide (0 < dig l) = true := by simp; omega
    rw [h1]
    have h2 : (((some (dig l).toNat).getD 0 : Nat) : Int) = dig l := by simp; omega
    rw [h2]; rfl

set_option maxRecDepth 100000 in
set_option maxHeartbeats 400000 in
theorem variable_any (l : List UInt8) (w : World) (hl : l.length ≤ 1048576) :
    Calls Try.prog 39 #[.string ⟨l.toArray⟩] w fun e w' => VarPost l w e w' := by
  go_enter Try.func39, Try.ntmps39
  go_wp2_with fail
  refine (number_any l 8 w hl (by omega)).mono ?_
  intro e w1 hp
  obtain ⟨rfl, rfl⟩ := numPost_dig hp
  go_wp2_with fail
  go_ret2
  exact ⟨rfl, rfl⟩

/-- The literal that a word writes, or 0. -/
def litNum (l : List UInt8) : Int := if l.head? = some 45 then - dig l.tail else dig l
def litGood (l : List UInt8) : Bool := if l.head? = some 45 then decide (0 < dig l.tail) else decide (0 < dig l)
def LitPost (l : List UInt8) (w : World) (e : Ending) (w' : World) : Prop := w' = w ∧ e = .returned (.tuple #[.int .i64 (litNum l), .bool (litGood l)])

attribute [local go_sem] ba_get

set_option maxRecDepth 100000 in
set_option maxHeartbeats 400000 in
theorem wliteral_any (l : List UInt8) (w : World) (hl : l.length ≤ 1048576) :
    Calls Try.prog 40 #[.string ⟨l.toArray⟩] w fun e w' => LitPost l w e w' := by
  by_cases hnil : l = []
  · subst hnil
    go_enter Try.func40, Try.ntmps40
    go_wp2_with fail
    refine (variable_any [] w hl).mono ?_
    rintro e w1 ⟨rfl, rfl⟩
    go_wp2_with fail
    go_ret2
    exact ⟨rfl, rfl⟩
  have h0 : 0 < l.length := List.length_pos_iff.2 hnil
  have hd0 : decide ((0 : Int) < (l.length : Int)) = true := by simp; omega
  have hh : l.head? = some l[0] := by rw [List.head?_eq_getElem?, List.getElem?_eq_getElem h0]
  by_cases hc0 : l[0] = 45
  · have hcb : ((l[0].toNat : Int) == 45) = true := by rw [hc0]; rfl
    have HL : Hid (litNum l = - dig l.tail ∧ litGood l = decide (0 < dig l.tail)) := hide (by unfold litNum litGood; rw [hh, hc0]; simp)
    obtain ⟨d0, d1⟩ := dig_bd l.tail
    clear hc0 hnil hh
    go_enter Try.func40, Try.ntmps40
    go_wp2_with fail
    rw [ba_extract, show List.take (l.length - 1) (List.drop 1 l) = l.tail from by rw [List.take_of_length_le (by simp), List.drop_one]]
    refine (variable_any l.tail w (by simp; omega)).mono ?_
    rintro e w1 ⟨rfl, rfl⟩
    go_wp2_with fail
    go_ret2
    exact ⟨rfl, by rw [(unhide HL).1, (unhide HL).2]; rfl⟩
  · have hcb : ((l[0].toNat : Int) == 45) = false := by
      rw [beq_eq_false_iff_ne]; intro e; exact hc0 (by apply UInt8.toNat_inj.1; show _ = 45; omega)
    have HL : Hid (litNum l = dig l ∧ litGood l = decide (0 < dig l)) := hide (by unfold litNum litGood; rw [hh]; simp [hc0])
    clear hc0 hnil hh
    go_enter Try.func40, Try.ntmps40
    go_wp2_with fail
    refine (variable_any l w hl).mono ?_
    rintro e w1 ⟨rfl, rfl⟩
    go_wp2_with fail
    go_ret2
    exact ⟨rfl, by rw [(unhide HL).1, (unhide HL).2]; rfl⟩
end Go.Proofs.Ytgipjjhkhfihpaa

namespace Go.Proofs.Ytgipjjhkhfihpaa
open Go.RowKit

/-- The bit of a variable. -/
def bitOf (v : Int) : Nat := if 1 ≤ v ∧ v ≤ 8 then 2 ^ v.toNat else 0
theorem bitOf_lt (v : Int) : bitOf v < 512 := by
  unfold bitOf; split
  · have := pow_bd v.toNat (by omega); omega
  · decide

set_option maxRecDepth 100000 in
set_option maxHeartbeats 400000 in
theorem bit_any (v : Int) (w : World) : Calls Try.prog 50 #[.int .i64 v] w fun e w' => e = .returned (.int .i64 (bitOf v : Nat)) ∧ w' = w := by
  by_cases h1 : v < 1
  · have HB : Hid (bitOf v = 0) := hide (by unfold bitOf; rw [if_neg (by omega)])
    have hd : decide (v < 1) = true := by simpa using h1
    go_enter Try.func50, Try.ntmps50
    go_wp2_with fail
    go_ret
    exact ⟨by rw [unhide HB]; rfl, rfl⟩
  · have hd : decide (v < 1) = false := by simpa using h1
    by_cases h2 : 8 < v
    · have HB : Hid (bitOf v = 0) := hide (by unfold bitOf; rw [if_neg (by omega)])
      have hd2 : decide (8 < v) = true := by simpa using h2
      go_enter Try.func50, Try.ntmps50
      go_wp2_with fail
      go_ret
      exact ⟨by rw [unhide HB]; rfl, rfl⟩
    · have HB : Hid (bitOf v = 2 ^ v.toNat) := hide (by unfold bitOf; rw [if_pos (by omega)])
      have hd2 : decide (8 < v) = false := by simpa using h2
      have HS := hide (shl_one v (by omega) (by omega))
      go_enter Try.func50, Try.ntmps50
      go_wp2_with fail
      go_ret
      exact ⟨ret_int (by rw [unhide HB]; exact unhide HS), rfl⟩

/-- A set with a literal. -/
def withLit (c : Nat × Nat) (x : Int) : Nat × Nat := if x < 0 then (c.1, c.2 ||| bitOf (-x)) else (c.1 ||| bitOf x, c.2)

set_option maxRecDepth 100000 in
set_option maxHeartbeats 800000 in
theorem with_any (p n : Nat) (x : Int) (w : World) (hp : p < 512) (hn : n < 512) (hx : -9223372036854775807 ≤ x) (hx2 : x ≤ 9223372036854775807) :
    Calls Try.prog 41 #[.agg #[.int .i64 p, .int .i64 n], .int .i64 x] w fun e w' =>
      e = .returned (.agg #[.int .i64 ((withLit (p, n) x).1 : Nat), .int .i64 ((withLit (p, n) x).2 : Nat)]) ∧ Below w.heap.size w w' := by
  by_cases h : x < 0
  · have HW : Hid (withLit (p, n) x = (p, n ||| bitOf (-x))) := hide (by unfold withLit; rw [if_pos h])
    have hd : decide (x < 0) = true := by simpa using h
    have hwx : IntKind.i64.wrap (-x) = -x := by
      obtain ⟨m, hm⟩ := Int.eq_ofNat_of_zero_le (show 0 ≤ -x by omega)
      rw [hm]; exact wrap_i64_nat m (by omega)
    have hor : bits .or .i64 (n : Int) (bitOf (-x) : Nat) = ((n ||| bitOf (-x) : Nat) : Int) := i64_or _ _ (by omega) (by have := bitOf_lt (-x); omega)
    go_enter Try.func41, Try.ntmps41
    go_wp2_with fail
    go_region_with (go_at_call 50; refine (bit_any _ _).mono ?_; rintro e w1 ⟨rfl, rfl⟩)
    all_goals go_wp2_with fail
    all_goals
      refine bodyPost_ret (v := .agg #[.int .i64 p, .int .i64 ((n ||| bitOf (-x) : Nat) : Int)]) (by simp [results, Try.results41, go_sem]) rfl ⟨by rw [unhide HW], ?_⟩
      exact ((((Below.refl _ _).alloc (Nat.le_refl _) _).alloc (by simp) _)).drew
  · have HW : Hid (withLit (p, n) x = (p ||| bitOf x, n)) := hide (by unfold withLit; rw [if_neg h])
    have hd : decide (x < 0) = false := by simpa using h
    have hor : bits .or .i64 (p : Int) (bitOf x : Nat) = ((p ||| bitOf x : Nat) : Int) := i64_or _ _ (by omega) (by have := bitOf_lt x; omega)
    go_enter Try.func41, Try.ntmps41
    go_wp2_with fail
    go_region_with (go_at_call 50; refine (bit_any _ _).mono ?_; rintro e w1 ⟨rfl, rfl⟩)
    all_goals go_wp2_with fail
    all_goals
      refine bodyPost_ret (v := .agg #[.int .i64 ((p ||| bitOf x : Nat) : Int), .int .i64 n]) (by simp [results, Try.results41, go_sem]) rfl ⟨by rw [unhide HW], ?_⟩
      exact ((((Below.refl _ _).alloc (Nat.le_refl _) _).alloc (by simp) _)).drew

set_option maxRecDepth 100000 in
set_option maxHeartbeats 800000 in
theorem hasVar_any (p n : Nat) (v : Int) (w : World) (hp : p < 512) (hn : n < 512) :
    Calls Try.prog 42 #[.agg #[.int .i64 p, .int .i64 n], .int .i64 v] w fun e w' =>
      e = .returned (.bool ((p ||| n) &&& bitOf v != 0)) ∧ Below w.heap.size w w' := by
  have hor : bits .or .i64 (p : Int) (n : Int) = ((p ||| n : Nat) : Int) := i64_or _ _ (by omega) (by omega)
  have hand : bits .and .i64 ((p ||| n : Nat) : Int) (bitOf v : Nat) = (((p ||| n) &&& bitOf v : Nat) : Int) := i64_and _ _ (by have := or_lt p n hp hn; omega) (by have := bitOf_lt v; omega)
  have HE : Hid (((((p ||| n) &&& bitOf v : Nat) : Int) != 0) = ((p ||| n) &&& bitOf v != 0)) := hide (by
    rw [Bool.eq_iff_iff, bne_iff_ne, bne_iff_ne]; omega)
  go_enter Try.func42, Try.ntmps42
  go_wp2_with fail
  go_quiet ((go_at_call 50; exact Calls.quiet_of_same (bit_any _ _)))
  go_wp2_with fail
  go_ret
  exact ⟨ret_bool (unhide HE), below_drewN ((Below.refl _ _).alloc (Nat.le_refl _) _) nq⟩
end Go.Proofs.Ytgipjjhkhfihpaa

namespace Go.Proofs.Ytgipjjhkhfihpaa
open Go.RowKit

def ints (l : List Nat) : List Value := l.map (fun n : Nat => Value.int .i64 (n : Int))
def bools (l : List Bool) : List Value := l.map Value.bool
def pairs (l : List (Nat × Nat)) : List Value := l.flatMap (fun c => [Value.int .i64 (c.1 : Int), Value.int .i64 (c.2 : Int)])
theorem pairs_length (l : List (Nat × Nat)) : (pairs l).length = l.length * 2 := by
  induction l with
  | nil => rfl
  | cons a l ih => simp [pairs] at *; omega
theorem pairs_snoc (l : List (Nat × Nat)) (c : Nat × Nat) : pairs (l ++ [c]) = pairs l ++ [Value.int .i64 (c.1 : Int), Value.int .i64 (c.2 : Int)] := by simp [pairs]

theorem Try.info3 : (Try.prog.info? 3).map (fun i => (i.zero, i.size, i.bytes)) = some (some (.int .i64 0), 1, 8) := by kernel_rfl
theorem Try.info4 : (Try.prog.info? 4).map (fun i => (i.zero, i.size, i.bytes)) = some (some (.bool false), 1, 1) := by kernel_rfl

theorem own_below {w w' : World} {base : Nat} {e : TypeId} {size : Nat} {v : Value} {n : Nat} {xs : List Value} (h : w.ownsRow base e size v n xs) (hb : Below w.heap.size w w') : w'.ownsRow base e size v n xs :=
  h.kept (row := none) ⟨hb.os, hb.tape, hb.output, hb.size, fun k hk _ => hb.block k hk⟩ (by cases hv : v.ownBlock <;> simp)

/-- Two owned rows of different element types lie apart. -/
theorem own_apart {w : World} {b1 b2 : Nat} {e1 e2 : TypeId} {s1 s2 : Nat} {v1 v2 : Value} {n1 n2 : Nat} {x1 x2 : List Value} (h1 : w.ownsRow b1 e1 s1 v1 n1 x1) (h2 : w.ownsRow b2 e2 s2 v2 n2 x2) (he : e1 ≠ e2) :
    v1.ownBlock = none ∨ v1.ownBlock ≠ v2.ownBlock := by
  rcases h1.2 with ⟨rfl, _⟩ | ⟨g1, c1, cur1, rfl, _, hh1, _⟩
  · exact Or.inl rfl
  · right
    rcases h2.2 with ⟨rfl, _⟩ | ⟨g2, c2, cur2, rfl, _, hh2, _⟩
    · simp [Value.ownBlock]
    · simp [Value.ownBlock]
      intro e; subst e
      rw [hh1] at hh2
      simp at hh2
      exact he hh2.2

theorem own_kept {w wp w' : World} {base base2 : Nat} {e e2 : TypeId} {size size2 : Nat} {v v2 : Value} {n n2 : Nat} {xs x2 : List Value} (h : w.ownsRow base e size v n xs) (hp : Below w.heap.size w wp) (h2 : w.ownsRow base2 e2 size2 v2 n2 x2) (hg : wp.grownBy w' v2.ownBlock) (he : e ≠ e2) : w'.ownsRow base e size v n xs :=
  (own_below h hp).kept hg (own_apart h h2 he)

end Go.Proofs.Ytgipjjhkhfihpaa

namespace Go.Proofs.Ytgipjjhkhfihpaa
open Go.RowKit

def apart (a b : Value) : Prop := ∀ k, a.ownBlock = some k → b.ownBlock ≠ some k
theorem apart.symm {a b : Value} (h : apart a b) : apart b a := fun k hk hk' => h k hk' hk
theorem apart.keep {a b : Value} (h : apart a b) : a.ownBlock = none ∨ a.ownBlock ≠ b.ownBlock := by
  cases ha : a.ownBlock with
  | none => exact Or.inl rfl
  | some k => exact Or.inr (fun e => h k ha e.symm)
theorem apart_nil (a : Value) : apart (.slice none 0 0) a := fun k hk => by simp [Value.ownBlock] at hk
/-- What comes out of an append onto a lies apart from b as a did. -/
theorem apart.grown {a a' b : Value} {w : World} {base : Nat} {e : TypeId} {size n : Nat} {xs : List Value} (h : apart a b) (hb : w.ownsRow base e size b n xs) (hat : a'.ownBlock = a.ownBlock ∨ ∃ k, a'.ownBlock = some k ∧ w.heap.size ≤ k) : apart a' b := by
  intro k hk hk'
  rcases hat with hat | ⟨k', hat, hle⟩
  · exact h k (hat ▸ hk) hk'
  · rw [hk] at hat; injection hat with e; subst e
    have := (hb.lt k hk').2; omega

section
variable {w1 wr wp w' : World} {bf : Nat} {st : RS} {order ends : List Nat} {all : Nat} {vT vK vC vO vE v' : Value}
end

theorem rowOf_told (st : RS) (hd : List UInt8) (tl : List (List UInt8)) (h : ∀ v ∈ st.told, v ≤ 8) : ∀ v ∈ (rowOf st hd tl).1.told, v ≤ 8 := by
  unfold rowOf
  split
  · exact h
  · split
    · dsimp only
      unfold varsTo
      suffices hs : ∀ (tl : List (List UInt8)) (p : PS), (∀ v ∈ p.told, v ≤ 8) → ∀ v ∈ (tl.foldl (varStep (hd == [97])) p).told, v ≤ 8 from hs tl _ h
      intro tl
      induction tl with
      | nil => intro p hp; exact hp
      | cons w tl ih =>
        intro p hp
        refine ih _ ?_
        intro v hv
        simp [varStep] at hv
        rcases hv with hv | hv
        · exact hp v hv
        · have := dig_bd w; omega
    · exact h
theorem told_le (rows : List (List UInt8)) : ∀ (st : RS) (i : Nat) (st' : RS), (∀ v ∈ st.told, v ≤ 8) → readRows st i rows = .inl st' → ∀ v ∈ st'.told, v ≤ 8 := by
  induction rows with
  | nil => intro st i st' h e; simp [readRows] at e; subst e; exact h
  | cons r rows ih =>
    intro st i st' h e
    rw [readRows] at e
    split at e
    · refine ih _ _ _ ?_ e
      unfold rowStep
      split
      · exact h
      · exact rowOf_told _ _ _ h
    · cases e
theorem freeTo_le (st : RS) (k : Nat) : ∀ v ∈ freeTo st k, v ≤ k := by
  intro v hv
  unfold freeTo at hv
  rw [List.mem_filter] at hv
  obtain ⟨hv, _⟩ := hv
  simp at hv
  omega
theorem allTo_lt (st : RS) (h : ∀ v ∈ st.told, v ≤ 8) (k : Nat) : allTo st k < 512 := by
  unfold allTo
  suffices hs : ∀ (l : List (Nat × Bool)) (a : Nat), a < 512 → (∀ x ∈ l, x.1 ≤ 8) → l.foldl (fun a x => if x.2 then a ||| 2 ^ x.1 else a) a < 512 by
    refine hs _ 0 (by decide) ?_
    intro x hx
    have h1 := List.mem_of_mem_take hx
    exact h _ (List.of_mem_zip h1).1
  intro l
  induction l with
  | nil => intro a ha _; exact ha
  | cons x l ih =>
    intro a ha hx
    refine ih _ ?_ (fun y hy => hx y (List.mem_cons_of_mem _ hy))
    have := pow_bd x.1 (hx x (List.mem_cons_self ..))
    dsimp only
    split
    · exact or_lt _ _ ha (by omega)
    · exact ha
theorem own_lo {w : World} {base lo : Nat} {e : TypeId} {size : Nat} {v : Value} {n : Nat} {xs : List Value} (h : w.ownsRow base e size v n xs) (hl : lo ≤ base) : w.ownsRow lo e size v n xs := by
  refine ⟨h.1, ?_⟩
  rcases h.2 with h2 | ⟨g, cap, cur, hv, hg, r⟩
  · exact Or.inl h2
  · exact Or.inr ⟨g, cap, cur, hv, Nat.le_trans hl hg, r⟩
theorem freeTo_len (st : RS) (k : Nat) : (freeTo st k).length ≤ k := by
  unfold freeTo
  refine Nat.le_trans (List.length_filter_le _ _) ?_
  simp
theorem endsTo_len (order : List Nat) (all k : Nat) : (endsTo order all k).length ≤ k := by
  unfold endsTo
  refine Nat.le_trans (List.length_filter_le _ _) ?_
  simp
end Go.Proofs.Ytgipjjhkhfihpaa

namespace Go.Proofs.Ytgipjjhkhfihpaa
open Go.RowKit

/-- What the program holds of a formula. -/
structure QS where
  vars : List (Nat × Bool)
  cl : List (Nat × Nat)
def varCells (l : List (Nat × Bool)) : List Value := l.flatMap (fun x => [Value.int .i64 (x.1 : Int), Value.bool x.2])
theorem varCells_length (l : List (Nat × Bool)) : (varCells l).length = l.length * 2 := by
  induction l with
  | nil => rfl
  | cons a l ih => simp [varCells] at *; omega
theorem varCells_snoc (l : List (Nat × Bool)) (x : Nat × Bool) : varCells (l ++ [x]) = varCells l ++ [Value.int .i64 (x.1 : Int), Value.bool x.2] := by simp [varCells]
theorem varCells_at (l : List (Nat × Bool)) (k : Nat) (h : k < l.length) : (varCells l)[k * 2]? = some (.int .i64 (l[k].1 : Int)) ∧ (varCells l)[k * 2 + 1]? = some (.bool l[k].2) := by
  induction l generalizing k with
  | nil => simp at h
  | cons a l ih =>
    cases k with
    | zero => simp [varCells]
    | succ k =>
      have := ih k (by simpa using h)
      simp only [varCells, List.flatMap_cons] at this ⊢
      constructor
      · rw [show (k + 1) * 2 = k * 2 + 2 from by omega, List.getElem?_append_right (by simp)]
        simpa using this.1
      · rw [show (k + 1) * 2 + 1 = k * 2 + 1 + 2 from by omega, List.getElem?_append_right (by simp)]
        simpa using this.2
theorem pairs_at (l : List (Nat × Nat)) (k : Nat) (h : k < l.length) : (pairs l)[k * 2]? = some (.int .i64 (l[k].1 : Int)) ∧ (pairs l)[k * 2 + 1]? = some (.int .i64 (l[k].2 : Int)) := by
  induction l generalizing k with
  | nil => simp at h
  | cons a l ih =>
    cases k with
    | zero => simp [pairs]
    | succ k =>
      have := ih k (by simpa using h)
      simp only [pairs, List.flatMap_cons] at this ⊢
      constructor
      · rw [show (k + 1) * 2 = k * 2 + 2 from by omega, List.getElem?_append_right (by simp)]
        simpa using this.1
      · rw [show (k + 1) * 2 + 1 = k * 2 + 1 + 2 from by omega, List.getElem?_append_right (by simp)]
        simpa using this.2

/-- The program's formula lies at block b, its rows from base on. -/
structure QInv (base : Nat) (w : World) (b : Nat) (q : QS) (vV vC : Value) : Prop where
  fb : w.heap[b]? = some (.cells #[vV, vC] 44 (0, 0))
  oV : w.ownsRow base 84 2 vV q.vars.length (varCells q.vars)
  oC : w.ownsRow base 58 2 vC q.cl.length (pairs q.cl)
theorem QInv.later {base b : Nat} {w w' : World} {q : QS} {vV vC : Value} (h : QInv base w b q vV vC) (hb : Below w.heap.size w w') : QInv base w' b q vV vC :=
  ⟨(hb.block b (blk_lt h.fb)).trans h.fb, own_below h.oV hb, own_below h.oC hb⟩

def hasV (vs : List (Nat × Bool)) (v : Nat) : Bool := vs.any (fun x => x.1 == v)
theorem hasV_take (vs : List (Nat × Bool)) (v k : Nat) (h : k < vs.length) : hasV (vs.take (k + 1)) v = (hasV (vs.take k) v || (vs[k].1 == v)) := by
  unfold hasV; rw [List.take_succ_eq_append_getElem h, List.any_append]; simp
theorem hasV_of_take (vs : List (Nat × Bool)) (v k : Nat) (h : hasV (vs.take k) v = true) : hasV vs v = true := by
  unfold hasV at *
  rw [List.any_eq_true] at *
  obtain ⟨x, hx, hv⟩ := h
  exact ⟨x, List.mem_of_mem_take hx, hv⟩

theorem cell_lt {w : World} {b o : Nat} {v : Value} (h : w.cell? ⟨b, o, none⟩ = some v) : b < w.heap.size := by
  rcases Nat.lt_or_ge b w.heap.size with h1 | h1
  · exact h1
  · rw [World.cell?, Array.getElem?_eq_none h1] at h; cases h
/-- The variable with this number, and whether there is one. -/
def findV (vs : List (Nat × Bool)) (v : Nat) : Option (Nat × Bool) := vs.find? (fun x => x.1 == v)
theorem findV_hit (vs : List (Nat × Bool)) (v k : Nat) (h : k < vs.length) (hno : hasV (vs.take k) v = false) (hv : vs[k].1 = v) : findV vs v = some vs[k] := by
  unfold findV
  conv => lhs; rw [← List.take_append_drop k vs, List.drop_eq_getElem_cons h]
  rw [List.find?_append]
  have : (vs.take k).find? (fun x => x.1 == v) = none := by
    rw [List.find?_eq_none]
    intro x hx hh
    unfold hasV at hno
    rw [List.any_eq_false] at hno
    exact hno x hx hh
  rw [this, List.find?_cons, show (vs[k].1 == v) = true from by simp [hv]]
  rfl
theorem findV_none (vs : List (Nat × Bool)) (v : Nat) (h : hasV vs v = false) : findV vs v = none := by
  unfold findV; rw [List.find?_eq_none]
  intro x hx hh
  unfold hasV at h
  rw [List.any_eq_false] at h
  exact h x hx hh
theorem hasV_find (vs : List (Nat × Bool)) (v : Nat) : (findV vs v).isSome = hasV vs v := by
  unfold findV hasV; rw [List.isSome_find?]
def FindPost (vs : List (Nat × Bool)) (v : Nat) (w : World) (e : Ending) (w' : World) : Prop :=
  Below w.heap.size w w' ∧ e = .returned (.tuple #[.agg #[.int .i64 (((findV vs v).getD (0, false)).1 : Nat), .bool ((findV vs v).getD (0, false)).2], .bool (findV vs v).isSome])

set_option maxRecDepth 100000 in
set_option maxHeartbeats 800000 in
theorem find_any (base b : Nat) (vs : List (Nat × Bool)) (vV : Value) (v : Nat) (w : World) (hc0 : w.cell? ⟨b, 0, none⟩ = some vV) (hV : w.ownsRow base 84 2 vV vs.length (varCells vs)) (hl : vs.length ≤ 1073741824) :
    Calls Try.prog 28 #[.pointer (some ⟨b, 0, none⟩), .int .i64 v] w fun e w' => FindPost vs v w e w' := by
  obtain ⟨aV, cV, rfl⟩ := own_form hV
  have hbw := cell_lt hc0
  go_enter Try.func28, Try.ntmps28
  go_wp2_with fail
  go_loopg [13] (vs.length) (fun n i wx => ∃ k : Nat, i = .int .i64 k ∧ k + n = vs.length ∧ hasV (vs.take k) v = false ∧ Below w.heap.size w wx ∧ wx.heap[w.heap.size]? = some (.cells #[.int .i64 0, .bool false] 84 (0, 0)))
  case atStart => exact ⟨0, rfl, by omega, rfl, (Below.refl _ _).alloc (Nat.le_refl _) _, heap_alloc_new _ _⟩
  case round =>
    obtain ⟨k, rfl, hk, hno, hb, hres⟩ := hrel
    have HNO := hide hno; clear hno
    have hbs := blk_lt hres
    have hr0 : wr.cell? ⟨w.heap.size, 0, none⟩ = some (.int .i64 0) := by rw [blk_cell hres]; rfl
    have hr1 : wr.cell? ⟨w.heap.size, 1, none⟩ = some (.bool false) := by rw [blk_cell hres]; rfl
    have hz0 := blk_free hres 0
    have hz1 := blk_free hres 1
    by_cases hlt : k < vs.length
    · obtain ⟨g, cap, hVe, hg, hg', _, hcell⟩ := own_pos hV (by omega)
      injection hVe with hVe _ hV2
      subst hVe hV2
      have hgw : g < wr.heap.size := by omega
      obtain ⟨ha, hb'⟩ := varCells_at vs k hlt
      have hx0 : wr.cell? ⟨g, k * 2, none⟩ = some (.int .i64 (vs[k].1 : Int)) := by rw [hb.cell (p := ⟨g, k * 2, none⟩) hg']; exact hcell _ _ ha
      have hx1 : wr.cell? ⟨g, k * 2 + 1, none⟩ = some (.bool vs[k].2) := by rw [hb.cell (p := ⟨g, k * 2 + 1, none⟩) hg']; exact hcell _ _ hb'
      have HT := hide (hasV_take vs v k hlt)
      have HH := hide (findV_hit vs v k hlt (unhide HNO))
      clear hcell ha hb'
      by_cases hv : vs[k].1 = v
      · have hvb : ((vs[k].1 : Int) == (v : Int)) = true := by rw [beq_iff_eq]; omega
        have HF := hide (unhide HH hv)
        clear hv
        go_wp2_with fail
        have hR := blk_set (blk_set hres 0 (.int .i64 (vs[k].1 : Int))) 1 (.bool vs[k].2)
        have hR' := (heap_alloc_old _ (.cells #[.int .i64 (vs[k].1 : Int), .bool vs[k].2] 84) (blk_lt hR)).trans hR
        have k0 := blk_cell hR' 0
        have k1 := blk_cell hR' 1
        refine bodyPost_ret (v := .tuple #[.agg #[.int .i64 (vs[k].1 : Int), .bool vs[k].2], .bool true]) (by simp [results, Try.results28, go_sem, k0, k1]) rfl ⟨?_, by rw [unhide HF]; rfl⟩
        exact ((hb.setCell (p := ⟨w.heap.size, 0, none⟩) (Nat.le_refl _) _).setCell (p := ⟨w.heap.size, 1, none⟩) (Nat.le_refl _) _).alloc (by simp [World.setCell]; omega) _
      · have hvb : ((vs[k].1 : Int) == (v : Int)) = false := by rw [beq_eq_false_iff_ne]; omega
        have HV := hide hv; clear hv
        go_wp2_with fail
        go_roundg (gk - 1)
        case measure => omega
        case rel =>
          refine ⟨k + 1, by go_num, by omega, ?_, hb.alloc (by omega) _, (heap_alloc_old _ _ hbs).trans hres⟩
          rw [unhide HT, unhide HNO]; simpa using unhide HV
    · have hkl : k = vs.length := by omega
      subst hkl
      have hno := unhide HNO
      rw [List.take_length] at hno
      have HF := hide (findV_none vs v hno); clear hno
      go_wp2_with fail
      refine bodyPost_ret (v := .tuple #[.agg #[.int .i64 0, .bool false], .bool false]) (by simp [results, Try.results28, go_sem, hr0, hr1]) rfl ⟨?_, by rw [unhide HF]; rfl⟩
      exact (hb.setCell (p := ⟨w.heap.size, 0, none⟩) (Nat.le_refl _) _).setCell (p := ⟨w.heap.size, 1, none⟩) (Nat.le_refl _) _

/-! ### inClauses -/
def inC (cl : List (Nat × Nat)) (v : Int) : Bool := cl.any (fun c => (c.1 ||| c.2) &&& bitOf v != 0)
theorem inC_take (cl : List (Nat × Nat)) (v : Int) (k : Nat) (h : k < cl.length) : inC (cl.take (k + 1)) v = (inC (cl.take k) v || ((cl[k].1 ||| cl[k].2) &&& bitOf v != 0)) := by
  unfold inC; rw [List.take_succ_eq_append_getElem h, List.any_append]; simp
theorem inC_of_take (cl : List (Nat × Nat)) (v : Int) (k : Nat) (h : inC (cl.take k) v = true) : inC cl v = true := by
  unfold inC at *
  rw [List.any_eq_true] at *
  obtain ⟨x, hx, hv⟩ := h
  exact ⟨x, List.mem_of_mem_take hx, hv⟩

set_option maxRecDepth 100000 in
set_option maxHeartbeats 800000 in
theorem qin_any (base b : Nat) (q : QS) (vV vC : Value) (v : Int) (w : World) (hq : QInv base w b q vV vC) (hl : q.cl.length ≤ 1048576) (hcl : ∀ c ∈ q.cl, c.1 < 512 ∧ c.2 < 512) :
    Calls Try.prog 29 #[.pointer (some ⟨b, 0, none⟩), .int .i64 v] w fun e w' => e = .returned (.bool (inC q.cl v)) ∧ Below w.heap.size w w' := by
  have hc0 : w.cell? ⟨b, 1, none⟩ = some vC := by rw [blk_cell hq.fb]; rfl
  have HCL := hide hcl; clear hcl
  obtain ⟨aV, cV, rfl⟩ := own_form hq.oC
  go_enter Try.func29, Try.ntmps29
  go_wp2_with fail
  go_loopg [12] (q.cl.length) (fun n i wx => ∃ k : Nat, i = .int .i64 k ∧ k + n = q.cl.length ∧ inC (q.cl.take k) v = false ∧ Below w.heap.size w wx)
  case atStart => exact ⟨0, rfl, by omega, rfl, Below.refl _ _⟩
  case round =>
    obtain ⟨k, rfl, hk, hno, hb⟩ := hrel
    have HNO := hide hno; clear hno
    have hbs := hb.size
    by_cases hlt : k < q.cl.length
    · obtain ⟨g, cap, hV, hg, hg', _, hcell⟩ := own_pos hq.oC (by omega)
      injection hV with hV _ hV2
      subst hV hV2
      have hgw : g < wr.heap.size := by omega
      obtain ⟨ha, hb'⟩ := pairs_at q.cl k hlt
      have hx0 : wr.cell? ⟨g, k * 2, none⟩ = some (.int .i64 (q.cl[k].1 : Int)) := by rw [hb.cell (p := ⟨g, k * 2, none⟩) hg']; exact hcell _ _ ha
      have hx1 : wr.cell? ⟨g, k * 2 + 1, none⟩ = some (.int .i64 (q.cl[k].2 : Int)) := by rw [hb.cell (p := ⟨g, k * 2 + 1, none⟩) hg']; exact hcell _ _ hb'
      have HT := hide (inC_take q.cl v k hlt)
      have hbd := unhide HCL _ (List.getElem_mem hlt)
      have HOF := hide (inC_of_take q.cl v (k + 1))
      clear hcell ha hb'
      generalize q.cl[k] = c at *
      obtain ⟨p, n⟩ := c
      go_wp2_with fail
      refine (hasVar_any p n v _ hbd.1 hbd.2).mono ?_
      rintro e w2 ⟨rfl, hb2⟩
      have hb3 : Below w.heap.size w w2 := (hb.alloc hbs _).trans (hb2.mono (by simp; omega))
      cases hh : ((p ||| n) &&& bitOf v != 0) with
      | true =>
        have HF := hide (unhide HOF (by rw [unhide HT]; simp only [hh]; simp))
        go_wp2_with fail
        go_ret
        exact ⟨ret_bool (unhide HF).symm, hb3⟩
      | false =>
        go_wp2_with fail
        go_roundg (gk - 1)
        case measure => omega
        case rel => exact ⟨k + 1, by go_num, by omega, by rw [unhide HT, unhide HNO]; simp only [hh]; rfl, hb3⟩
    · have hkl : k = q.cl.length := by omega
      subst hkl
      have hno := unhide HNO
      rw [List.take_length] at hno
      have HF := hide hno; clear hno
      go_wp2_with fail
      go_ret
      exact ⟨ret_bool (unhide HF).symm, hb⟩
end Go.Proofs.Ytgipjjhkhfihpaa

namespace Go.Proofs.Ytgipjjhkhfihpaa
open Go.RowKit

theorem Try.info84 : (Try.prog.info? 84).map (fun i => (i.zero, i.size, i.bytes)) = some (some (.agg #[.int .i64 0, .bool false]), 2, 16) := by kernel_rfl
theorem Try.info58 : (Try.prog.info? 58).map (fun i => (i.zero, i.size, i.bytes)) = some (some (.agg #[.int .i64 0, .int .i64 0]), 2, 16) := by kernel_rfl

def freeQ (q : QS) (k : Nat) : List Nat := ((List.range k).map (· + 1)).filter (fun v => !hasV q.vars v && inC q.cl v)
theorem freeQ_succ (q : QS) (k : Nat) : freeQ q (k + 1) = freeQ q k ++ (if !hasV q.vars (k + 1) && inC q.cl ((k + 1 : Nat) : Int) then [k + 1] else []) := by
  unfold freeQ
  rw [List.range_succ, List.map_append, List.filter_append]
  congr 1
  simp [List.filter_cons]
theorem freeQ_len (q : QS) (k : Nat) : (freeQ q k).length ≤ k := by
  unfold freeQ
  refine Nat.le_trans (List.length_filter_le _ _) ?_
  simp
def exv (l : List Nat) : List (Nat × Bool) := l.map (fun v => (v, false))
theorem exv_snoc (l : List Nat) (v : Nat) : exv (l ++ [v]) = exv l ++ [(v, false)] := by simp [exv]
theorem exv_length (l : List Nat) : (exv l).length = l.length := by simp [exv]

set_option maxRecDepth 100000 in
set_option maxHeartbeats 1600000 in
theorem withFree_any (base b : Nat) (q : QS) (vV vC : Value) (w : World) (hq : QInv base w b q vV vC) (hl : q.vars.length ≤ 1073741824) (hl2 : q.cl.length ≤ 1048576) (hcl : ∀ c ∈ q.cl, c.1 < 512 ∧ c.2 < 512) :
    Calls Try.prog 18 #[.pointer (some ⟨b, 0, none⟩)] w fun e w' =>
      ∃ v, e = .returned v ∧ w'.ownsRow w.heap.size 84 2 v (exv (freeQ q 8) ++ q.vars).length (varCells (exv (freeQ q 8) ++ q.vars)) ∧ Below w.heap.size w w' := by
  obtain ⟨i0, hi, hz0, hz1, hz2⟩ := info_parts Try.info84
  have HCL := hide hcl; clear hcl
  go_enter Try.func18, Try.ntmps18
  go_wp2_with fail
  go_loopg [3, 4] 9 (fun n v i wx => ∃ k : Nat, i = .int .i64 (k + 1) ∧ k + n = 9 ∧ 1 ≤ n ∧ wx.ownsRow w.heap.size 84 2 v (exv (freeQ q k)).length (varCells (exv (freeQ q k))) ∧ Below w.heap.size w wx)
  case atStart => exact ⟨0, rfl, by omega, by omega, World.ownsRow_nil _ _ _ _, Below.refl _ _⟩
  case round =>
    obtain ⟨k, rfl, hk, hn, hown, hb⟩ := hrel
    have hbs := hb.size
    have hfl := freeQ_len q k
    have hel := exv_length (freeQ q k)
    have HEL := hide hel; clear hel
    by_cases hlt : k < 8
    · have hd8 : decide ((k : Int) + 1 ≤ 8) = true := by simp; omega
      have hj1 : ((k : Int) + 1) = ((k + 1 : Nat) : Int) := by omega
      have HJ := hide hj1; clear hj1
      have HFS := hide (freeQ_succ q k)
      go_wp2_with fail
      rw [unhide HJ]
      refine (find_any base b q.vars vV (k + 1) wr (by rw [blk_cell (hq.later hb).fb]; rfl) (hq.later hb).oV hl).mono ?_
      rintro e w2 ⟨hb2, rfl⟩
      rw [hasV_find]
      generalize (findV q.vars (k + 1)).getD (0, false) = fx
      have hb2' : Below w.heap.size w (w2.alloc (.cells #[.int .i64 (fx.1 : Nat), .bool fx.2] 84)) := (hb.trans (hb2.mono hbs)).alloc (Nat.le_trans hbs hb2.size) _
      have hown2 := (own_below hown hb2).alloc (.cells #[.int .i64 (fx.1 : Nat), .bool fx.2] 84)
      cases hh : hasV q.vars (k + 1) with
      | true =>
        go_wp2_with fail
        go_roundg (gk - 1)
        case measure => omega
        case rel => exact ⟨k + 1, by go_num, by omega, by omega, by rw [unhide HFS, hh]; simpa using hown2, hb2'⟩
      | false =>
        go_wp2_with fail
        refine (qin_any base b q vV vC ((k + 1 : Nat) : Int) _ (hq.later hb2') hl2 (unhide HCL)).mono ?_
        rintro e w3 ⟨rfl, hb3⟩
        have hb3' : Below w.heap.size w w3 := hb2'.trans (hb3.mono hb2'.size)
        have hown3 := own_below hown2 hb3
        have hbs3 := hb3'.size
        cases hc : inC q.cl ((k + 1 : Nat) : Int) with
        | true =>
          have hbd : (exv (freeQ q k)).length ≤ 8 := by have := unhide HEL; omega
          go_wp2_with (at_builtin; refine wpList_append_new rfl _ _ 41 rfl w.heap.size i0 (.agg #[.int .i64 0, .bool false]) 2 16 Try.underlying41 hi hz0 hz1 hz2 rfl (by decide) _ _ _ hown3 rfl rfl rfl (by simp [Value.oneCell']) (by unfold maxLen; omega) (by omega) hbs3 ?_; intro v' w4 hown4 hgrow hnn)
          go_roundg (gk - 1)
          case measure => omega
          case rel =>
            refine ⟨k + 1, by go_num, by omega, by omega, ?_, below_grown hb3' hgrow hown3 (Nat.le_refl _) hbs3⟩
            rw [unhide HFS, hh, hc, show (if (!false && true) = true then [k + 1] else []) = [k + 1] from rfl, exv_snoc, varCells_snoc]
            simpa using hown4
        | false =>
          go_wp2_with fail
          go_roundg (gk - 1)
          case measure => omega
          case rel => exact ⟨k + 1, by go_num, by omega, by omega, by rw [unhide HFS, hh, hc]; simpa using hown3, hb3'⟩
    · have hk8 : k = 8 := by omega
      subst hk8
      have hq2 := hq.later hb
      have hc0 : wr.cell? ⟨b, 0, none⟩ = some vV := by rw [blk_cell hq2.fb]; rfl
      have hbd : (exv (freeQ q 8)).length ≤ 8 := by have := unhide HEL; omega
      rcases hq2.oV.2 with ⟨rfl, h0⟩ | ⟨g, cap, cur, rfl, hbg, hg, hnc, hcm, hcs, htake⟩
      · have HV : Hid (q.vars = []) := hide (List.eq_nil_of_length_eq_zero h0)
        clear h0
        go_wp2_with (at_builtin; refine wpList_append_own_none rfl _ _ 41 rfl w.heap.size 84 i0 2 Try.underlying41 hi _ _ _ rfl hown rfl ?_)
        go_ret
        exact ⟨_, rfl, by rw [unhide HV]; simpa using hown, hb⟩
      · have hcells : ∀ j u, (varCells q.vars)[j]? = some u → wr.cell? ((⟨g, 0, none⟩ : Addr).add j) = some u := hq2.oV.cells rfl
        have HN : Hid ((varCells q.vars).length = q.vars.length * 2) := hide (varCells_length _)
        have H1 : Hid (∀ u ∈ varCells q.vars, u.oneCell' = true) := hide (by
          intro u hu
          unfold varCells at hu
          rw [List.mem_flatMap] at hu
          obtain ⟨x, _, hx⟩ := hu
          simp at hx
          rcases hx with rfl | rfl <;> rfl)
        have HCE := hide hcells
        clear hcells htake hcs hcm
        go_wp2_with (at_builtin; refine wpList_append_own _ rfl _ _ 41 rfl w.heap.size 84 i0 (.agg #[.int .i64 0, .bool false]) 2 16 Try.underlying41 hi hz0 hz1 hz2 rfl (by decide) _ _ _ rfl hown ⟨g, 0, none⟩ q.vars.length cap (varCells q.vars) rfl (unhide HN) (unhide HCE) (unhide H1) (by unfold maxLen; omega) (by omega) hbs ?_; intro v' w4 hown4 hgrow hnn)
        go_ret
        refine ⟨_, rfl, ?_, below_grown hb hgrow hown (Nat.le_refl _) hbs⟩
        have e : varCells (exv (freeQ q 8) ++ q.vars) = varCells (exv (freeQ q 8)) ++ varCells q.vars := by simp [varCells]
        rw [e, List.length_append]
        exact hown4
end Go.Proofs.Ytgipjjhkhfihpaa
