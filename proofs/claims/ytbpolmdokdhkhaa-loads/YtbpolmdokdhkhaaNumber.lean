import Derived.Test.YtbpolmdokdhkhaaWords
namespace Go.Proofs.Ytbpolmdokdhkhaa
open Go.RowKit

def isDigit (c : UInt8) : Bool := decide (48 ≤ c.toNat ∧ c.toNat ≤ 57)
def dec (l : List UInt8) : Nat := l.foldl (fun n c => n * 10 + (c.toNat - 48)) 0
/-- The number that a word writes without noughts ahead, from 1 to most. -/
def numOf (l : List UInt8) (most : Nat) : Option Nat :=
  if l = [] ∨ l.head? = some 48 ∨ l.all isDigit = false ∨ most < dec l then none else some (dec l)
theorem dec_take (l : List UInt8) (k : Nat) (h : k < l.length) : dec (l.take (k + 1)) = dec (l.take k) * 10 + (l[k].toNat - 48) := by
  unfold dec; rw [List.take_succ_eq_append_getElem h, List.foldl_append]; rfl
theorem dec_mono (l : List UInt8) (k : Nat) : dec (l.take k) ≤ dec l := by
  have h : ∀ (b : List UInt8) (n : Nat), n ≤ b.foldl (fun n c => n * 10 + (c.toNat - 48)) n := by
    intro b
    induction b with
    | nil => intro n; exact Nat.le_refl _
    | cons c b ih => intro n; exact Nat.le_trans (by simp only []; omega) (ih _)
  conv => rhs; rw [← List.take_append_drop k l]
  unfold dec; rw [List.foldl_append]; exact h _ _
theorem numOf_bad_digit (l : List UInt8) (most k : Nat) (h : k < l.length) (hd : isDigit l[k] = false) : numOf l most = none := by
  unfold numOf
  rw [if_pos]
  right; right; left
  rw [List.all_eq_false]
  exact ⟨l[k], List.getElem_mem h, by simp [hd]⟩
theorem numOf_bad_much (l : List UInt8) (most k : Nat) (h : k < l.length) (hd : most < dec (l.take k) * 10 + (l[k].toNat - 48)) : numOf l most = none := by
  unfold numOf
  rw [if_pos]
  right; right; right
  rw [← dec_take l k h] at hd
  exact Nat.lt_of_lt_of_le hd (dec_mono l (k + 1))
def NumPost (l : List UInt8) (most : Nat) (w : World) (e : Ending) (w' : World) : Prop :=
  w' = w ∧ e = .returned (.tuple #[.int .i64 ((numOf l most).getD 0 : Nat), .bool (numOf l most).isSome])

attribute [local go_sem] ba_get

set_option maxRecDepth 100000 in
set_option maxHeartbeats 1600000 in
theorem number_any (l : List UInt8) (most : Nat) (w : World) (hl : l.length ≤ 1048576) (hm : most ≤ 1048576) :
    Calls Try.prog 72 #[.string ⟨l.toArray⟩, .int .i64 most] w fun e w' => NumPost l most w e w' := by
  by_cases hnil : l = []
  · subst hnil
    have HN : Hid (numOf [] most = none) := hide (by unfold numOf; rw [if_pos (Or.inl rfl)])
    go_enter Try.func72, Try.ntmps72
    go_wp2_with fail
    go_ret2
    exact ⟨rfl, by rw [unhide HN]; rfl⟩
  have h0 : 0 < l.length := List.length_pos_iff.2 hnil
  have hcl : ((l.length : Int) == 0) = false := by rw [beq_eq_false_iff_ne]; omega
  by_cases hc0 : l[0] = 48
  · have HN : Hid (numOf l most = none) := hide (by unfold numOf; rw [if_pos (Or.inr (Or.inl (by rw [List.head?_eq_getElem?, List.getElem?_eq_getElem h0, hc0])))])
    have hcb : ((l[0].toNat : Int) == 48) = true := by rw [hc0]; rfl
    clear hc0 hnil
    go_enter Try.func72, Try.ntmps72
    go_wp2_with fail
    go_ret2
    exact ⟨rfl, by rw [unhide HN]; rfl⟩
  · have hcb : ((l[0].toNat : Int) == 48) = false := by
      rw [beq_eq_false_iff_ne]; intro e; exact hc0 (by apply UInt8.toNat_inj.1; show _ = 48; omega)
    have HH : Hid (l.head? ≠ some 48) := hide (by rw [List.head?_eq_getElem?, List.getElem?_eq_getElem h0]; simpa using hc0)
    have HNil := hide hnil
    clear hc0 hnil
    go_enter Try.func72, Try.ntmps72
    go_wp2_with fail
    go_loopg [6, 7] (l.length) (fun q n i wr => ∃ k : Nat, i = .int .i64 k ∧ k + q = l.length ∧ n = .int .i64 (dec (l.take k) : Nat) ∧ dec (l.take k) ≤ most ∧ (l.take k).all isDigit = true ∧ wr = w)
    case atStart => exact ⟨0, rfl, by omega, rfl, by simp [dec], rfl, rfl⟩
    case round =>
      obtain ⟨k, rfl, hkq, rfl, hle, hall, hwr⟩ := hrel
      subst hwr
      have HA := hide hall; clear hall
      by_cases hlt : k < l.length
      · have hdl : decide ((k : Int) < (l.length : Int)) = true := by simp; omega
        have HDT := hide (dec_take l k hlt)
        have HBD := hide (numOf_bad_digit l most k hlt)
        have HBM := hide (numOf_bad_much l most k hlt)
        generalize dec (l.take k) = n at *
        have hb8 : l[k].toNat < 256 := UInt8.toNat_lt l[k]
        by_cases hd : isDigit l[k] = true
        · have hd1 : 48 ≤ l[k].toNat ∧ l[k].toNat ≤ 57 := of_decide_eq_true hd
          have hq1 : decide ((l[k].toNat : Int) < 48) = false := by simp; omega
          have hq2 : decide ((57 : Int) < (l[k].toNat : Int)) = false := by simp; omega
          by_cases hmu : most < n * 10 + (l[k].toNat - 48)
          · have HN := hide (unhide HBM hmu)
            by_cases hdm : most < l[k].toNat - 48
            · have hq3 : decide ((most : Int) < (l[k].toNat : Int) - 48) = true := by simp; omega
              clear hd
              go_wp2_with fail
              go_ret2
              exact ⟨rfl, by rw [unhide HN]; rfl⟩
            · have hq3 : decide ((most : Int) < (l[k].toNat : Int) - 48) = false := by simp; omega
              have hq4 : decide (((most : Int) - ((l[k].toNat : Int) - 48)) / 10 < (n : Int)) = true := by simp; omega
              clear hd
              go_wp2_with fail
              go_ret2
              exact ⟨rfl, by rw [unhide HN]; rfl⟩
          · have hq3 : decide ((most : Int) < (l[k].toNat : Int) - 48) = false := by simp; omega
            have hq4 : decide (((most : Int) - ((l[k].toNat : Int) - 48)) / 10 < (n : Int)) = false := by simp; omega
            have HD := hide hd; clear hd
            go_wp2_with fail
            go_roundg (gk - 1)
            case measure => omega
            case rel =>
              refine ⟨k + 1, by go_num, by omega, ?_, by rw [unhide HDT]; omega, ?_, rfl⟩
              · rw [unhide HDT]
                exact congrArg (Value.int .i64) (by omega)
              · rw [List.take_succ_eq_append_getElem hlt, List.all_append, unhide HA]; simp [unhide HD]
        · have hdf : isDigit l[k] = false := by simpa using hd
          have HN := hide (unhide HBD hdf)
          have hd1 : ¬ (48 ≤ l[k].toNat ∧ l[k].toNat ≤ 57) := of_decide_eq_false hdf
          clear hd hdf
          by_cases hlo : l[k].toNat < 48
          · have hq1 : decide ((l[k].toNat : Int) < 48) = true := by simp; omega
            clear hd1
            go_wp2_with fail
            go_ret2
            exact ⟨rfl, by rw [unhide HN]; rfl⟩
          · have hq1 : decide ((l[k].toNat : Int) < 48) = false := by simp; omega
            have hq2 : decide ((57 : Int) < (l[k].toNat : Int)) = true := by simp; omega
            clear hd1
            go_wp2_with fail
            go_ret2
            exact ⟨rfl, by rw [unhide HN]; rfl⟩
      · have hkl : k = l.length := by omega
        subst hkl
        have hdl : decide ((l.length : Int) < (l.length : Int)) = false := by simp
        have hA := unhide HA
        rw [List.take_length] at hle hA
        have HN : Hid (numOf l most = some (dec l)) := hide (by
          unfold numOf
          rw [if_neg]
          rintro (h | h | h | h)
          · exact unhide HNil h
          · exact unhide HH h
          · rw [hA] at h; cases h
          · omega)
        have HT : Hid (l.take l.length = l) := hide List.take_length
        clear hA
        go_wp2_with fail
        go_ret2
        refine ⟨rfl, ?_⟩
        rw [unhide HN]
        show Ending.returned (.tuple #[.int .i64 (dec (l.take l.length) : Nat), .bool true]) = _
        rw [unhide HT]; rfl

theorem dig_num (l : List UInt8) : numOf l 8 = if dig l = 0 then none else some (dig l).toNat := by
  match l with
  | [] => rfl
  | [c] =>
    have hb8 : c.toNat < 256 := UInt8.toNat_lt c
    have hdig : dig [c] = if 49 ≤ (c.toNat : Int) ∧ (c.toNat : Int) ≤ 56 then (c.toNat : Int) - 48 else 0 := rfl
    unfold numOf dec isDigit
    rw [hdig]
    by_cases h : 49 ≤ (c.toNat : Int) ∧ (c.toNat : Int) ≤ 56
    · rw [if_neg]
      · rw [if_pos h, if_neg (by omega)]
        simp; omega
      · rintro (h1 | h1 | h1 | h1)
        · cases h1
        · simp at h1; subst h1; revert h; decide
        · simp at h1; omega
        · simp at h1; omega
    · rw [if_neg h, if_pos rfl, if_pos]
      by_cases h48 : c = 48
      · right; left; simp [h48]
      · have : c.toNat ≠ 48 := fun e => h48 (by apply UInt8.toNat_inj.1; exact e)
        by_cases hd : 48 ≤ c.toNat ∧ c.toNat ≤ 57
        · right; right; right; simp; omega
        · right; right; left; simp; omega
  | c :: d :: r =>
    have h0 : dig (c :: d :: r) = 0 := rfl
    rw [h0, if_pos rfl]
    unfold numOf
    rw [if_pos]
    by_cases h48 : c = 48
    · right; left; simp [h48]
    · have hc : c.toNat ≠ 48 := fun e => h48 (by apply UInt8.toNat_inj.1; exact e)
      by_cases hd : (c :: d :: r).all isDigit = false
      · right; right; left; exact hd
      · right; right; right
        have hc1 : 48 ≤ c.toNat ∧ c.toNat ≤ 57 := by
          have : isDigit c = true := by
            simp at hd
            exact hd.1
          exact of_decide_eq_true this
        have h1 := dec_mono (c :: d :: r) 2
        have h2 : dec ((c :: d :: r).take 2) = (c.toNat - 48) * 10 + (d.toNat - 48) := by simp [dec]
        omega

def VarPost (l : List UInt8) (w : World) (e : Ending) (w' : World) : Prop := w' = w ∧ e = .returned (.tuple #[.int .i64 (dig l), .bool (decide (0 < dig l))])
theorem numPost_dig {l : List UInt8} {w w' : World} {e : Ending} (h : NumPost l 8 w e w') : VarPost l w e w' := by
  obtain ⟨h1, h2⟩ := h
  refine ⟨h1, ?_⟩
  rw [h2, dig_num]
  have := dig_bd l
  by_cases h0 : dig l = 0
  · rw [if_pos h0, h0]; rfl
  · rw [if_neg h0]
    have h1 : decide (0 < dig l) = true := by simp; omega
    rw [h1]
    have h2 : (((some (dig l).toNat).getD 0 : Nat) : Int) = dig l := by simp; omega
    rw [h2]; rfl

set_option maxRecDepth 100000 in
set_option maxHeartbeats 400000 in
theorem variable_any (l : List UInt8) (w : World) (hl : l.length ≤ 1048576) :
    Calls Try.prog 56 #[.string ⟨l.toArray⟩] w fun e w' => VarPost l w e w' := by
  go_enter Try.func56, Try.ntmps56
  go_wp2_with fail
  refine (number_any l 8 w hl (by omega)).mono ?_
  intro e w1 hp
  obtain ⟨rfl, rfl⟩ := numPost_dig hp
  go_wp2_with fail
  go_ret2
  exact ⟨rfl, rfl⟩

/-- The literal that a word writes, or 0. -/
def litNum (l : List UInt8) : Int := if l.head? = some 45 then - dig l.tail else dig l
def litGood (l : List UInt8) : Bool := if l.head? = some 45 then decide (0 < dig l.tail) else decide (0 < dig l)
def LitPost (l : List UInt8) (w : World) (e : Ending) (w' : World) : Prop := w' = w ∧ e = .returned (.tuple #[.int .i64 (litNum l), .bool (litGood l)])

attribute [local go_sem] ba_get

set_option maxRecDepth 100000 in
set_option maxHeartbeats 400000 in
theorem wliteral_any (l : List UInt8) (w : World) (hl : l.length ≤ 1048576) :
    Calls Try.prog 57 #[.string ⟨l.toArray⟩] w fun e w' => LitPost l w e w' := by
  by_cases hnil : l = []
  · subst hnil
    go_enter Try.func57, Try.ntmps57
    go_wp2_with fail
    refine (variable_any [] w hl).mono ?_
    rintro e w1 ⟨rfl, rfl⟩
    go_wp2_with fail
    go_ret2
    exact ⟨rfl, rfl⟩
  have h0 : 0 < l.length := List.length_pos_iff.2 hnil
  have hd0 : decide ((0 : Int) < (l.length : Int)) = true := by simp; omega
  have hh : l.head? = some l[0] := by rw [List.head?_eq_getElem?, List.getElem?_eq_getElem h0]
  by_cases hc0 : l[0] = 45
  · have hcb : ((l[0].toNat : Int) == 45) = true := by rw [hc0]; rfl
    have HL : Hid (litNum l = - dig l.tail ∧ litGood l = decide (0 < dig l.tail)) := hide (by unfold litNum litGood; rw [hh, hc0]; simp)
    obtain ⟨d0, d1⟩ := dig_bd l.tail
    clear hc0 hnil hh
    go_enter Try.func57, Try.ntmps57
    go_wp2_with fail
    rw [ba_extract, show List.take (l.length - 1) (List.drop 1 l) = l.tail from by rw [List.take_of_length_le (by simp), List.drop_one]]
    refine (variable_any l.tail w (by simp; omega)).mono ?_
    rintro e w1 ⟨rfl, rfl⟩
    go_wp2_with fail
    go_ret2
    exact ⟨rfl, by rw [(unhide HL).1, (unhide HL).2]; rfl⟩
  · have hcb : ((l[0].toNat : Int) == 45) = false := by
      rw [beq_eq_false_iff_ne]; intro e; exact hc0 (by apply UInt8.toNat_inj.1; show _ = 45; omega)
    have HL : Hid (litNum l = dig l ∧ litGood l = decide (0 < dig l)) := hide (by unfold litNum litGood; rw [hh]; simp [hc0])
    clear hc0 hnil hh
    go_enter Try.func57, Try.ntmps57
    go_wp2_with fail
    refine (variable_any l w hl).mono ?_
    rintro e w1 ⟨rfl, rfl⟩
    go_wp2_with fail
    go_ret2
    exact ⟨rfl, by rw [(unhide HL).1, (unhide HL).2]; rfl⟩
end Go.Proofs.Ytbpolmdokdhkhaa
