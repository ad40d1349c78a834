import Derived.Test.YtgipjjhkhfihpaaGreatDoorDA
import Derived.Deep.RegionWith
import Derived.Deep.QuietTactic
import Derived.BigQuiet
namespace Go.Proofs.YtgipjjhkhfihpaaGreatDoor
open Go.RowKit

theorem cutTo_append (c : UInt8) (a b : List UInt8) : cutTo c (a ++ b) = b.foldl (cutStep c) (cutTo c a) := by
  unfold cutTo; rw [List.foldl_append]
theorem cutTo_suffix (c : UInt8) (l : List UInt8) : ∃ pre, l = pre ++ (cutTo c l).2 := by
  suffices h : ∀ (n : Nat) (l : List UInt8), l.length = n → ∃ pre, l = pre ++ (cutTo c l).2 from h _ l rfl
  intro n
  induction n with
  | zero => intro l hl; exact ⟨[], by rw [List.eq_nil_of_length_eq_zero hl]; rfl⟩
  | succ n ih =>
    intro l hl
    obtain ⟨a, b, rfl⟩ : ∃ a b, l = a ++ [b] := ⟨l.dropLast, l.getLast (by intro e; subst e; simp at hl), (List.dropLast_concat_getLast _).symm⟩
    obtain ⟨pre, hpre⟩ := ih a (by simp at hl; omega)
    rw [cutTo_append]
    simp only [List.foldl_cons, List.foldl_nil]
    unfold cutStep
    split
    · exact ⟨a ++ [b], by simp⟩
    · exact ⟨pre, by simp; rw [← List.append_assoc, ← hpre]⟩
theorem cutTo_tail (c : UInt8) (l : List UInt8) : l.drop (l.length - (cutTo c l).2.length) = (cutTo c l).2 := by
  obtain ⟨pre, h⟩ := cutTo_suffix c l
  generalize (cutTo c l).2 = t at *
  subst h
  simp
/-- The text from where the last piece began to k. -/
theorem cut_piece (c : UInt8) (l : List UInt8) (k s : Nat) (hk : k ≤ l.length) (hs : s + (cutTo c (l.take k)).2.length = k) : (l.drop s).take (k - s) = (cutTo c (l.take k)).2 := by
  have h := cutTo_tail c (l.take k)
  rw [List.length_take, Nat.min_eq_left hk] at h
  rw [show k - (cutTo c (l.take k)).2.length = s from by omega] at h
  rw [← h, List.drop_take]

attribute [local go_sem] ba_get

set_option maxRecDepth 100000 in
set_option maxHeartbeats 400000 in
theorem lines_any (l : List UInt8) (w : World) (hl : l.length ≤ 1048576) :
    Calls Tryz.prog 43 #[.string ⟨l.toArray⟩] w fun e w' =>
      ∃ v, e = .returned (.tuple #[v, .bool (decide ((cutTo 10 l).2 = []))]) ∧ w'.ownsRow w.heap.size 9 1 v (cutTo 10 l).1.length ((cutTo 10 l).1.map S) ∧ Below w.heap.size w w' := by
  obtain ⟨i0, hi, hz0, hz1, hz2⟩ := info_parts Tryz.info9
  go_enter Tryz.func43, Tryz.ntmps43
  go_wp2
  go_loopw [4, 5, 6] (fun v t i wr => ∃ k s : Nat, k ≤ l.length ∧ i = .int .i64 k ∧ t = .int .i64 s ∧ s + (cutTo 10 (l.take k)).2.length = k ∧ wr.ownsRow w.heap.size 9 1 v (cutTo 10 (l.take k)).1.length ((cutTo 10 (l.take k)).1.map S) ∧ Below w.heap.size w wr) (fun _ _ i _ => l.length - (intOf i).toNat)
  case atStart => exact ⟨0, 0, by omega, rfl, rfl, rfl, World.ownsRow_nil _ _ _ _, Below.refl _ _⟩
  case round =>
    obtain ⟨k, s, hk, rfl, rfl, hs, hown, hb⟩ := hrel
    have hsz := cutTo_size 10 (l.take k)
    rw [List.length_take] at hsz
    have hbs := hb.size
    have HP := hide (cut_piece 10 l k s hk hs)
    have hsk : s ≤ k := by omega
    have HS := hide hs; clear hs
    by_cases hlt : k < l.length
    · by_cases hc : l[k] = 10
      · have hcb : ((l[k].toNat : Int) == 10) = true := by rw [hc]; rfl
        go_wp2_with (first | (at_builtin; refine wpList_append_new rfl _ _ 100 rfl w.heap.size i0 (.string ⟨#[]⟩) 1 16 Tryz.underlying100 hi hz0 hz1 hz2 rfl (by decide) _ _ _ hown rfl rfl rfl ?_ ?_ ?_ hbs ?_; rotate_right; intro v' w1 hown' hgrow hnn) | go_in)
        · go_roundw
          case rel =>
            have e : cutTo 10 (l.take (k + 1)) = ((cutTo 10 (l.take k)).1 ++ [(cutTo 10 (l.take k)).2], []) := by
              rw [cutTo_take 10 l k hlt]; unfold cutStep; rw [if_pos hc]
            refine ⟨k + 1, k + 1, by omega, by go_num, by go_num, ?_, ?_, below_grown hb hgrow hown (Nat.le_refl _) hbs⟩
            · rw [e]; rfl
            · rw [ba_extract, unhide HP] at hown'
              rw [e]; simpa using hown'
          case measure => simp [intOf]; omega
        · intro u hu; simp at hu; subst hu; rfl
        · unfold maxLen; omega
        · omega
      · have hcb : ((l[k].toNat : Int) == 10) = false := by
          rw [beq_eq_false_iff_ne]; intro e; exact hc (by apply UInt8.toNat_inj.1; show _ = 10; omega)
        go_wp2_with fail
        go_roundw
        case rel =>
          have e : cutTo 10 (l.take (k + 1)) = ((cutTo 10 (l.take k)).1, (cutTo 10 (l.take k)).2 ++ [l[k]]) := by
            rw [cutTo_take 10 l k hlt]; unfold cutStep; rw [if_neg hc]
          refine ⟨k + 1, s, by omega, by go_num, rfl, ?_, ?_, hb⟩
          · rw [e]; simp; have := unhide HS; omega
          · rw [e]; exact hown
        case measure => simp [intOf]; omega
    · have hkl : k = l.length := by omega
      subst hkl
      have HT : Hid (l.take l.length = l) := hide List.take_length
      rw [unhide HT] at hown HS
      have hsb : ((s : Int) == (l.length : Int)) = decide ((cutTo 10 l).2 = []) := by
        have := unhide HS
        rw [Bool.eq_iff_iff, beq_iff_eq, decide_eq_true_iff, ← List.length_eq_zero_iff]; omega
      go_wp2_with fail
      go_ret2
      exact ⟨_, rfl, hown, hb⟩

/-! ### Split -/
theorem cutTo_prefix (c : UInt8) (l : List UInt8) (k : Nat) : (cutTo c (l.take k)).1 <+: (cutTo c l).1 := by
  have h : ∀ (b : List UInt8) (st : List (List UInt8) × List UInt8), st.1 <+: (b.foldl (cutStep c) st).1 := by
    intro b
    induction b with
    | nil => intro st; exact List.prefix_refl _
    | cons x b ih =>
      intro st
      refine List.IsPrefix.trans ?_ (ih (cutStep c st x))
      unfold cutStep; split
      · exact List.prefix_append _ _
      · exact List.prefix_refl _
  conv => rhs; rw [← List.take_append_drop k l]
  rw [cutTo_append]
  exact h _ _

/-- The words of a line, or that it is none. -/
def splitOk (l : List UInt8) : Bool := !(cutAt 32 l).any (·.isEmpty)
theorem split_bad (l : List UInt8) (k : Nat) (hk : k ≤ l.length) (h : (cutTo 32 (l.take k)).2 = []) (hx : ∀ h : k < l.length, l[k] = 32) : splitOk l = false := by
  unfold splitOk
  rw [Bool.not_eq_false', List.any_eq_true]
  refine ⟨[], ?_, rfl⟩
  unfold cutAt
  by_cases hlt : k < l.length
  · have e : cutTo 32 (l.take (k + 1)) = ((cutTo 32 (l.take k)).1 ++ [[]], []) := by
      rw [cutTo_take 32 l k hlt]; unfold cutStep; rw [if_pos (hx hlt), h]
    have hp := cutTo_prefix 32 l (k + 1)
    rw [e] at hp
    exact List.mem_append_left _ (hp.subset (by simp))
  · have : k = l.length := by omega
    subst this
    rw [List.take_length] at h
    rw [h]; simp

def SplitPost (l : List UInt8) (w : World) (e : Ending) (w' : World) : Prop := Below w.heap.size w w' ∧
  if splitOk l = true then ∃ v, e = .returned (.tuple #[v, .bool true]) ∧ w'.ownsRow w.heap.size 9 1 v (cutAt 32 l).length ((cutAt 32 l).map S)
  else e = .returned (.tuple #[.slice none 0 0, .bool false])

set_option maxRecDepth 100000 in
set_option maxHeartbeats 800000 in
theorem split_any (l : List UInt8) (w : World) (hl : l.length ≤ 1048576) :
    Calls Tryz.prog 65 #[.string ⟨l.toArray⟩] w fun e w' => SplitPost l w e w' := by
  obtain ⟨i0, hi, hz0, hz1, hz2⟩ := info_parts Tryz.info9
  go_enter Tryz.func65, Tryz.ntmps65
  go_wp2
  go_loopg [4, 5, 6] (l.length + 2) (fun q v t i wr => ∃ k s : Nat, i = .int .i64 k ∧ t = .int .i64 s ∧ 1 ≤ q ∧ Below w.heap.size w wr ∧
     ((k ≤ l.length ∧ k + q = l.length + 2 ∧ s + (cutTo 32 (l.take k)).2.length = k ∧ wr.ownsRow w.heap.size 9 1 v (cutTo 32 (l.take k)).1.length ((cutTo 32 (l.take k)).1.map S) ∧ (∀ x ∈ (cutTo 32 (l.take k)).1, x ≠ [])) ∨
      (k = l.length + 1 ∧ splitOk l = true ∧ wr.ownsRow w.heap.size 9 1 v (cutAt 32 l).length ((cutAt 32 l).map S))))
  case atStart => exact ⟨0, 0, rfl, rfl, by omega, Below.refl _ _, Or.inl ⟨by omega, by omega, rfl, World.ownsRow_nil _ _ _ _, by intro x hx; simp [cutTo] at hx⟩⟩
  case round =>
    obtain ⟨k, s, rfl, rfl, hq, hb, hrel⟩ := hrel
    have hbs := hb.size
    rcases hrel with ⟨hk, hkq, hs, hown, hne⟩ | ⟨hk, hok, hown⟩
    · have hsz := cutTo_size 32 (l.take k)
      rw [List.length_take] at hsz
      have HP := hide (cut_piece 32 l k s hk hs)
      have hsk : s ≤ k := by omega
      have HS := hide hs; clear hs
      have HN := hide hne; clear hne
      have hdk : decide ((k : Int) ≤ (l.length : Int)) = true := by simp; omega
      by_cases hcont : ∃ h : k < l.length, l[k] ≠ 32
      · obtain ⟨hlt, hc⟩ := hcont
        have hdl : decide ((k : Int) < (l.length : Int)) = true := by simp; omega
        have hcb : ((l[k].toNat : Int) != 32) = true := by
          rw [bne_iff_ne]; intro e; exact hc (by apply UInt8.toNat_inj.1; show _ = 32; omega)
        go_wp2_with fail
        go_roundg (gk - 1)
        case measure => omega
        case rel =>
          have e : cutTo 32 (l.take (k + 1)) = ((cutTo 32 (l.take k)).1, (cutTo 32 (l.take k)).2 ++ [l[k]]) := by
            rw [cutTo_take 32 l k hlt]; unfold cutStep; rw [if_neg hc]
          refine ⟨k + 1, s, by go_num, rfl, by omega, hb, Or.inl ⟨by omega, by omega, ?_, ?_, ?_⟩⟩
          · rw [e]; simp; have := unhide HS; omega
          · rw [e]; exact hown
          · rw [e]; exact unhide HN
      · have hend : ∀ h : k < l.length, l[k] = 32 := fun h => Classical.byContradiction fun hc => hcont ⟨h, hc⟩
        have HX := hide hend
        clear hcont
        by_cases hse : s = k
        · have hsb : ((k : Int) == (s : Int)) = true := by rw [beq_iff_eq]; omega
          have hbad := split_bad l k hk (by have := unhide HS; exact List.eq_nil_of_length_eq_zero (by omega)) hend
          have HB := hide hbad; clear hbad
          have HSE := hide hse; clear hse
          by_cases hlt : k < l.length
          · have hdl : decide ((k : Int) < (l.length : Int)) = true := by simp; omega
            have hcb : ((l[k].toNat : Int) != 32) = false := by rw [hend hlt]; rfl
            clear hend
            go_wp2_with fail
            go_ret2
            exact ⟨hb, by rw [unhide HB, if_neg (by decide)]; rfl⟩
          · have hdl : decide ((k : Int) < (l.length : Int)) = false := by simp; omega
            clear hend
            go_wp2_with fail
            go_ret2
            exact ⟨hb, by rw [unhide HB, if_neg (by decide)]; rfl⟩
        · have hsb : ((k : Int) == (s : Int)) = false := by rw [beq_eq_false_iff_ne]; omega
          have HNE : Hid ((cutTo 32 (l.take k)).2 ≠ []) := hide (fun e => by have := unhide HS; rw [e] at this; simp at this; omega)
          by_cases hlt : k < l.length
          · have hdl : decide ((k : Int) < (l.length : Int)) = true := by simp; omega
            have hcb : ((l[k].toNat : Int) != 32) = false := by rw [hend hlt]; rfl
            clear hend
            go_wp2_with (first | (at_builtin; refine wpList_append_new rfl _ _ 100 rfl w.heap.size i0 (.string ⟨#[]⟩) 1 16 Tryz.underlying100 hi hz0 hz1 hz2 rfl (by decide) _ _ _ hown rfl rfl rfl (by simp [Value.oneCell']) (by unfold maxLen; omega) (by omega) hbs ?_; intro v' w1 hown' hgrow hnn) | go_in)
            go_roundg (gk - 1)
            case measure => omega
            case rel =>
              have e : cutTo 32 (l.take (k + 1)) = ((cutTo 32 (l.take k)).1 ++ [(cutTo 32 (l.take k)).2], []) := by
                rw [cutTo_take 32 l k hlt]; unfold cutStep; rw [if_pos (unhide HX hlt)]
              refine ⟨k + 1, k + 1, by go_num, by go_num, by omega, below_grown hb hgrow hown (Nat.le_refl _) hbs, Or.inl ⟨by omega, by omega, ?_, ?_, ?_⟩⟩
              · rw [e]; rfl
              · rw [ba_extract, unhide HP] at hown'
                rw [e]; simpa using hown'
              · rw [e]; intro x hx
                simp at hx
                rcases hx with hx | hx
                · exact unhide HN x hx
                · rw [hx]; exact unhide HNE
          · have hdl : decide ((k : Int) < (l.length : Int)) = false := by simp; omega
            clear hend
            go_wp2_with (first | (at_builtin; refine wpList_append_new rfl _ _ 100 rfl w.heap.size i0 (.string ⟨#[]⟩) 1 16 Tryz.underlying100 hi hz0 hz1 hz2 rfl (by decide) _ _ _ hown rfl rfl rfl (by simp [Value.oneCell']) (by unfold maxLen; omega) (by omega) hbs ?_; intro v' w1 hown' hgrow hnn) | go_in)
            go_roundg (gk - 1)
            case measure => omega
            case rel =>
              have HT : Hid (l.take k = l) := hide (by rw [show k = l.length from by omega]; exact List.take_length)
              have hn2 := unhide HN
              have hn3 := unhide HNE
              rw [ba_extract, unhide HP] at hown'
              rw [unhide HT] at hown' hn2 hn3
              refine ⟨k + 1, k + 1, by go_num, by go_num, by omega, below_grown hb hgrow hown (Nat.le_refl _) hbs, Or.inr ⟨by omega, ?_, by simpa [cutAt] using hown'⟩⟩
              unfold splitOk cutAt
              rw [Bool.not_eq_true', List.any_eq_false]
              intro x hx
              simp at hx
              rcases hx with hx | hx
              · have := hn2 x hx; simpa using this
              · rw [hx]; simpa using hn3
    · have hdk : decide ((k : Int) ≤ (l.length : Int)) = false := by simp; omega
      have HOK := hide hok; clear hok
      have hk1 : l.length < k := by omega
      have hk2 : k ≤ l.length + 1 := by omega
      clear hk
      go_wp2_with fail
      go_ret2
      exact ⟨hb, by rw [unhide HOK, if_pos rfl]; exact ⟨_, rfl, hown⟩⟩
end Go.Proofs.YtgipjjhkhfihpaaGreatDoor

namespace Go.Proofs.YtgipjjhkhfihpaaGreatDoor
open Go.RowKit

def isDigit (c : UInt8) : Bool := decide (48 ≤ c.toNat ∧ c.toNat ≤ 57)
def dec (l : List UInt8) : Nat := l.foldl (fun n c => n * 10 + (c.toNat - 48)) 0
/-- The number that a word writes without noughts ahead, from 1 to most. -/
def numOf (l : List UInt8) (most : Nat) : Option Nat :=
  if l = [] ∨ l.head? = some 48 ∨ l.all isDigit = false ∨ most < dec l then none else some (dec l)
theorem dec_take (l : List UInt8) (k : Nat) (h : k < l.length) : dec (l.take (k + 1)) = dec (l.take k) * 10 + (l[k].toNat - 48) := by
  unfold dec; rw [List.take_succ_eq_append_getElem h, List.foldl_append]; rfl
theorem dec_mono (l : List UInt8) (k : Nat) : dec (l.take k) ≤ dec l := by
  have h : ∀ (b : List UInt8) (n : Nat), n ≤ b.foldl (fun n c => n * 10 + (c.toNat - 48)) n := by
    intro b
    induction b with
    | nil => intro n; exact Nat.le_refl _
    | cons c b ih => intro n; exact Nat.le_trans (by simp only []; omega) (ih _)
  conv => rhs; rw [← List.take_append_drop k l]
  unfold dec; rw [List.foldl_append]; exact h _ _
theorem numOf_bad_digit (l : List UInt8) (most k : Nat) (h : k < l.length) (hd : isDigit l[k] = false) : numOf l most = none := by
  unfold numOf
  rw [if_pos]
  right; right; left
  rw [List.all_eq_false]
  exact ⟨l[k], List.getElem_mem h, by simp [hd]⟩
theorem numOf_bad_much (l : List UInt8) (most k : Nat) (h : k < l.length) (hd : most < dec (l.take k) * 10 + (l[k].toNat - 48)) : numOf l most = none := by
  unfold numOf
  rw [if_pos]
  right; right; right
  rw [← dec_take l k h] at hd
  exact Nat.lt_of_lt_of_le hd (dec_mono l (k + 1))
def NumPost (l : List UInt8) (most : Nat) (w : World) (e : Ending) (w' : World) : Prop :=
  w' = w ∧ e = .returned (.tuple #[.int .i64 ((numOf l most).getD 0 : Nat), .bool (numOf l most).isSome])

attribute [local go_sem] ba_get

set_option maxRecDepth 100000 in
set_option maxHeartbeats 1600000 in
theorem number_any (l : List UInt8) (most : Nat) (w : World) (hl : l.length ≤ 1048576) (hm : most ≤ 1048576) :
    Calls Tryz.prog 123 #[.string ⟨l.toArray⟩, .int .i64 most] w fun e w' => NumPost l most w e w' := by
  by_cases hnil : l = []
  · subst hnil
    have HN : Hid (numOf [] most = none) := hide (by unfold numOf; rw [if_pos (Or.inl rfl)])
    go_enter Tryz.func123, Tryz.ntmps123
    go_wp2_with fail
    go_ret2
    exact ⟨rfl, by rw [unhide HN]; rfl⟩
  have h0 : 0 < l.length := List.length_pos_iff.2 hnil
  have hcl : ((l.length : Int) == 0) = false := by rw [beq_eq_false_iff_ne]; omega
  by_cases hc0 : l[0] = 48
  · have HN : Hid (numOf l most = none) := hide (by unfold numOf; rw [if_pos (Or.inr (Or.inl (by rw [List.head?_eq_getElem?, List.getElem?_eq_getElem h0, hc0])))])
    have hcb : ((l[0].toNat : Int) == 48) = true := by rw [hc0]; rfl
    clear hc0 hnil
    go_enter Tryz.func123, Tryz.ntmps123
    go_wp2_with fail
    go_ret2
    exact ⟨rfl, by rw [unhide HN]; rfl⟩
  · have hcb : ((l[0].toNat : Int) == 48) = false := by
      rw [beq_eq_false_iff_ne]; intro e; exact hc0 (by apply UInt8.toNat_inj.1; show _ = 48; omega)
    have HH : Hid (l.head? ≠ some 48) := hide (by rw [List.head?_eq_getElem?, List.getElem?_eq_getElem h0]; simpa using hc0)
    have HNil := hide hnil
    clear hc0 hnil
    go_enter Tryz.func123, Tryz.ntmps123
    go_wp2_with fail
    go_loopg [6, 7] (l.length) (fun q n i wr => ∃ k : Nat, i = .int .i64 k ∧ k + q = l.length ∧ n = .int .i64 (dec (l.take k) : Nat) ∧ dec (l.take k) ≤ most ∧ (l.take k).all isDigit = true ∧ wr = w)
    case atStart => exact ⟨0, rfl, by omega, rfl, by simp [dec], rfl, rfl⟩
    case round =>
      obtain ⟨k, rfl, hkq, rfl, hle, hall, hwr⟩ := hrel
      subst hwr
      have HA := hide hall; clear hall
      by_cases hlt : k < l.length
      · have hdl : decide ((k : Int) < (l.length : Int)) = true := by simp; omega
        have HDT := hide (dec_take l k hlt)
        have HBD := hide (numOf_bad_digit l most k hlt)
        have HBM := hide (numOf_bad_much l most k hlt)
        generalize dec (l.take k) = n at *
        have hb8 : l[k].toNat < 256 := UInt8.toNat_lt l[k]
        by_cases hd : isDigit l[k] = true
        · have hd1 : 48 ≤ l[k].toNat ∧ l[k].toNat ≤ 57 := of_decide_eq_true hd
          have hq1 : decide ((l[k].toNat : Int) < 48) = false := by simp; omega
          have hq2 : decide ((57 : Int) < (l[k].toNat : Int)) = false := by simp; omega
          by_cases hmu : most < n * 10 + (l[k].toNat - 48)
          · have HN := hide (unhide HBM hmu)
            by_cases hdm : most < l[k].toNat - 48
            · have hq3 : decide ((most : Int) < (l[k].toNat : Int) - 48) = true := by simp; omega
              clear hd
              go_wp2_with fail
              go_ret2
              exact ⟨rfl, by rw [unhide HN]; rfl⟩
            · have hq3 : decide ((most : Int) < (l[k].toNat : Int) - 48) = false := by simp; omega
              have hq4 : decide (((most : Int) - ((l[k].toNat : Int) - 48)) / 10 < (n : Int)) = true := by simp; omega
              clear hd
              go_wp2_with fail
              go_ret2
              exact ⟨rfl, by rw [unhide HN]; rfl⟩
          · have hq3 : decide ((most : Int) < (l[k].toNat : Int) - 48) = false := by simp; omega
            have hq4 : decide (((most : Int) - ((l[k].toNat : Int) - 48)) / 10 < (n : Int)) = false := by simp; omega
            have HD := hide hd; clear hd
            go_wp2_with fail
            go_roundg (gk - 1)
            case measure => omega
            case rel =>
              refine ⟨k + 1, by go_num, by omega, ?_, by rw [unhide HDT]; omega, ?_, rfl⟩
              · rw [unhide HDT]
                exact congrArg (Value.int .i64) (by omega)
              · rw [List.take_succ_eq_append_getElem hlt, List.all_append, unhide HA]; simp [unhide HD]
        · have hdf : isDigit l[k] = false := by simpa using hd
          have HN := hide (unhide HBD hdf)
          have hd1 : ¬ (48 ≤ l[k].toNat ∧ l[k].toNat ≤ 57) := of_decide_eq_false hdf
          clear hd hdf
          by_cases hlo : l[k].toNat < 48
          · have hq1 : decide ((l[k].toNat : Int) < 48) = true := by simp; omega
            clear hd1
            go_wp2_with fail
            go_ret2
            exact ⟨rfl, by rw [unhide HN]; rfl⟩
          · have hq1 : decide ((l[k].toNat : Int) < 48) = false := by simp; omega
            have hq2 : decide ((57 : Int) < (l[k].toNat : Int)) = true := by simp; omega
            clear hd1
            go_wp2_with fail
            go_ret2
            exact ⟨rfl, by rw [unhide HN]; rfl⟩
      · have hkl : k = l.length := by omega
        subst hkl
        have hdl : decide ((l.length : Int) < (l.length : Int)) = false := by simp
        have hA := unhide HA
        rw [List.take_length] at hle hA
        have HN : Hid (numOf l most = some (dec l)) := hide (by
          unfold numOf
          rw [if_neg]
          rintro (h | h | h | h)
          · exact unhide HNil h
          · exact unhide HH h
          · rw [hA] at h; cases h
          · omega)
        have HT : Hid (l.take l.length = l) := hide List.take_length
        clear hA
        go_wp2_with fail
        go_ret2
        refine ⟨rfl, ?_⟩
        rw [unhide HN]
        show Ending.returned (.tuple #[.int .i64 (dec (l.take l.length) : Nat), .bool true]) = _
        rw [unhide HT]; rfl

theorem dig_num (l : List UInt8) : numOf l 8 = if dig l = 0 then none else some (dig l).toNat := by
  match l with
  | [] => rfl
  | [c] =>
    have hb8 : c.toNat < 256 := UInt8.toNat_lt c
    have hdig : dig [c] = if 49 ≤ (c.toNat : Int) ∧ (c.toNat : Int) ≤ 56 then (c.toNat : Int) - 48 else 0 := rfl
    unfold numOf dec isDigit
    rw [hdig]
    by_cases h : 49 ≤ (c.toNat : Int) ∧ (c.toNat : Int) ≤ 56
    · rw [if_neg]
      · rw [if_pos h, if_neg (by omega)]
        simp; omega
      · rintro (h1 | h1 | h1 | h1)
        · cases h1
        · simp at h1; subst h1; revert h; decide
        · simp at h1; omega
        · simp at h1; omega
    · rw [if_neg h, if_pos rfl, if_pos]
      by_cases h48 : c = 48
      · right; left; simp [h48]
      · have : c.toNat ≠ 48 := fun e => h48 (by apply UInt8.toNat_inj.1; exact e)
        by_cases hd : 48 ≤ c.toNat ∧ c.toNat ≤ 57
        · right; right; right; simp; omega
        · right; right; left; simp; omega
  | c :: d :: r =>
    have h0 : dig (c :: d :: r) = 0 := rfl
    rw [h0, if_pos rfl]
    unfold numOf
    rw [if_pos]
    by_cases h48 : c = 48
    · right; left; simp [h48]
    · have hc : c.toNat ≠ 48 := fun e => h48 (by apply UInt8.toNat_inj.1; exact e)
      by_cases hd : (c :: d :: r).all isDigit = false
      · right; right; left; exact hd
      · right; right; right
        have hc1 : 48 ≤ c.toNat ∧ c.toNat ≤ 57 := by
          have : isDigit c = true := by
            simp at hd
            exact hd.1
          exact of_decide_eq_true this
        have h1 := dec_mono (c :: d :: r) 2
        have h2 : dec ((c :: d :: r).take 2) = (c.toNat - 48) * 10 + (d.toNat - 48) := by simp [dec]
        omega

def VarPost (l : List UInt8) (w : World) (e : Ending) (w' : World) : Prop := w' = w ∧ e = .returned (.tuple #[.int .i64 (dig l), .bool (decide (0 < dig l))])
theorem numPost_dig {l : List UInt8} {w w' : World} {e : Ending} (h : NumPost l 8 w e w') : VarPost l w e w' := by
  obtain ⟨h1, h2⟩ := h
  refine ⟨h1, ?_⟩
  rw [h2, dig_num]
  have := dig_bd l
  by_cases h0 : dig l = 0
  · rw [if_pos h0, h0]; rfl
  · rw [if_neg h0]
    have h1 : decide (0 < dig l) = true := by simp; omega
    rw [h1]
    have h2 : (((some (dig l).toNat).getD 0 : Nat) : Int) = dig l := by simp; omega
    rw [h2]; rfl

set_option maxRecDepth 100000 in
set_option maxHeartbeats 400000 in
theorem variable_any (l : List UInt8) (w : World) (hl : l.length ≤ 1048576) :
    Calls Tryz.prog 97 #[.string ⟨l.toArray⟩] w fun e w' => VarPost l w e w' := by
  go_enter Tryz.func97, Tryz.ntmps97
  go_wp2_with fail
  refine (number_any l 8 w hl (by omega)).mono ?_
  intro e w1 hp
  obtain ⟨rfl, rfl⟩ := numPost_dig hp
  go_wp2_with fail
  go_ret2
  exact ⟨rfl, rfl⟩

/-- The literal that a word writes, or 0. -/
def litNum (l : List UInt8) : Int := if l.head? = some 45 then - dig l.tail else dig l
def litGood (l : List UInt8) : Bool := if l.head? = some 45 then decide (0 < dig l.tail) else decide (0 < dig l)
def LitPost (l : List UInt8) (w : World) (e : Ending) (w' : World) : Prop := w' = w ∧ e = .returned (.tuple #[.int .i64 (litNum l), .bool (litGood l)])

attribute [local go_sem] ba_get

set_option maxRecDepth 100000 in
set_option maxHeartbeats 400000 in
theorem wliteral_any (l : List UInt8) (w : World) (hl : l.length ≤ 1048576) :
    Calls Tryz.prog 98 #[.string ⟨l.toArray⟩] w fun e w' => LitPost l w e w' := by
  by_cases hnil : l = []
  · subst hnil
    go_enter Tryz.func98, Tryz.ntmps98
    go_wp2_with fail
    refine (variable_any [] w hl).mono ?_
    rintro e w1 ⟨rfl, rfl⟩
    go_wp2_with fail
    go_ret2
    exact ⟨rfl, rfl⟩
  have h0 : 0 < l.length := List.length_pos_iff.2 hnil
  have hd0 : decide ((0 : Int) < (l.length : Int)) = true := by simp; omega
  have hh : l.head? = some l[0] := by rw [List.head?_eq_getElem?, List.getElem?_eq_getElem h0]
  by_cases hc0 : l[0] = 45
  · have hcb : ((l[0].toNat : Int) == 45) = true := by rw [hc0]; rfl
    have HL : Hid (litNum l = - dig l.tail ∧ litGood l = decide (0 < dig l.tail)) := hide (by unfold litNum litGood; rw [hh, hc0]; simp)
    obtain ⟨d0, d1⟩ := dig_bd l.tail
    clear hc0 hnil hh
    go_enter Tryz.func98, Tryz.ntmps98
    go_wp2_with fail
    rw [ba_extract, show List.take (l.length - 1) (List.drop 1 l) = l.tail from by rw [List.take_of_length_le (by simp), List.drop_one]]
    refine (variable_any l.tail w (by simp; omega)).mono ?_
    rintro e w1 ⟨rfl, rfl⟩
    go_wp2_with fail
    go_ret2
    exact ⟨rfl, by rw [(unhide HL).1, (unhide HL).2]; rfl⟩
  · have hcb : ((l[0].toNat : Int) == 45) = false := by
      rw [beq_eq_false_iff_ne]; intro e; exact hc0 (by apply UInt8.toNat_inj.1; show _ = 45; omega)
    have HL : Hid (litNum l = dig l ∧ litGood l = decide (0 < dig l)) := hide (by unfold litNum litGood; rw [hh]; simp [hc0])
    clear hc0 hnil hh
    go_enter Tryz.func98, Tryz.ntmps98
    go_wp2_with fail
    refine (variable_any l w hl).mono ?_
    rintro e w1 ⟨rfl, rfl⟩
    go_wp2_with fail
    go_ret2
    exact ⟨rfl, by rw [(unhide HL).1, (unhide HL).2]; rfl⟩
end Go.Proofs.YtgipjjhkhfihpaaGreatDoor

namespace Go.Proofs.YtgipjjhkhfihpaaGreatDoor
open Go.RowKit

/-- The bit of a variable. -/
def bitOf (v : Int) : Nat := if 1 ≤ v ∧ v ≤ 8 then 2 ^ v.toNat else 0
theorem bitOf_lt (v : Int) : bitOf v < 512 := by
  unfold bitOf; split
  · have := pow_bd v.toNat (by omega); omega
  · decide

set_option maxRecDepth 100000 in
set_option maxHeartbeats 400000 in
theorem bit_any (v : Int) (w : World) : Calls Tryz.prog 108 #[.int .i64 v] w fun e w' => e = .returned (.int .i64 (bitOf v : Nat)) ∧ w' = w := by
  by_cases h1 : v < 1
  · have HB : Hid (bitOf v = 0) := hide (by unfold bitOf; rw [if_neg (by omega)])
    have hd : decide (v < 1) = true := by simpa using h1
    go_enter Tryz.func108, Tryz.ntmps108
    go_wp2_with fail
    go_ret
    exact ⟨by rw [unhide HB]; rfl, rfl⟩
  · have hd : decide (v < 1) = false := by simpa using h1
    by_cases h2 : 8 < v
    · have HB : Hid (bitOf v = 0) := hide (by unfold bitOf; rw [if_neg (by omega)])
      have hd2 : decide (8 < v) = true := by simpa using h2
      go_enter Tryz.func108, Tryz.ntmps108
      go_wp2_with fail
      go_ret
      exact ⟨by rw [unhide HB]; rfl, rfl⟩
    · have HB : Hid (bitOf v = 2 ^ v.toNat) := hide (by unfold bitOf; rw [if_pos (by omega)])
      have hd2 : decide (8 < v) = false := by simpa using h2
      have HS := hide (shl_one v (by omega) (by omega))
      go_enter Tryz.func108, Tryz.ntmps108
      go_wp2_with fail
      go_ret
      exact ⟨ret_int (by rw [unhide HB]; exact unhide HS), rfl⟩

/-- A set with a literal. -/
def withLit (c : Nat × Nat) (x : Int) : Nat × Nat := if x < 0 then (c.1, c.2 ||| bitOf (-x)) else (c.1 ||| bitOf x, c.2)

set_option maxRecDepth 100000 in
set_option maxHeartbeats 800000 in
theorem with_any (p n : Nat) (x : Int) (w : World) (hp : p < 512) (hn : n < 512) (hx : -9223372036854775807 ≤ x) (hx2 : x ≤ 9223372036854775807) :
    Calls Tryz.prog 88 #[.agg #[.int .i64 p, .int .i64 n], .int .i64 x] w fun e w' =>
      e = .returned (.agg #[.int .i64 ((withLit (p, n) x).1 : Nat), .int .i64 ((withLit (p, n) x).2 : Nat)]) ∧ Below w.heap.size w w' := by
  by_cases h : x < 0
  · have HW : Hid (withLit (p, n) x = (p, n ||| bitOf (-x))) := hide (by unfold withLit; rw [if_pos h])
    have hd : decide (x < 0) = true := by simpa using h
    have hwx : IntKind.i64.wrap (-x) = -x := by
      obtain ⟨m, hm⟩ := Int.eq_ofNat_of_zero_le (show 0 ≤ -x by omega)
      rw [hm]; exact wrap_i64_nat m (by omega)
    have hor : bits .or .i64 (n : Int) (bitOf (-x) : Nat) = ((n ||| bitOf (-x) : Nat) : Int) := i64_or _ _ (by omega) (by have := bitOf_lt (-x); omega)
    go_enter Tryz.func88, Tryz.ntmps88
    go_wp2_with fail
    go_region_with (go_at_call 108; refine (bit_any _ _).mono ?_; rintro e w1 ⟨rfl, rfl⟩)
    all_goals go_wp2_with fail
    all_goals
      refine bodyPost_ret (v := .agg #[.int .i64 p, .int .i64 ((n ||| bitOf (-x) : Nat) : Int)]) (by simp [results, Tryz.results88, go_sem]) rfl ⟨by rw [unhide HW], ?_⟩
      exact ((((Below.refl _ _).alloc (Nat.le_refl _) _).alloc (by simp) _)).drew
  · have HW : Hid (withLit (p, n) x = (p ||| bitOf x, n)) := hide (by unfold withLit; rw [if_neg h])
    have hd : decide (x < 0) = false := by simpa using h
    have hor : bits .or .i64 (p : Int) (bitOf x : Nat) = ((p ||| bitOf x : Nat) : Int) := i64_or _ _ (by omega) (by have := bitOf_lt x; omega)
    go_enter Tryz.func88, Tryz.ntmps88
    go_wp2_with fail
    go_region_with (go_at_call 108; refine (bit_any _ _).mono ?_; rintro e w1 ⟨rfl, rfl⟩)
    all_goals go_wp2_with fail
    all_goals
      refine bodyPost_ret (v := .agg #[.int .i64 ((p ||| bitOf x : Nat) : Int), .int .i64 n]) (by simp [results, Tryz.results88, go_sem]) rfl ⟨by rw [unhide HW], ?_⟩
      exact ((((Below.refl _ _).alloc (Nat.le_refl _) _).alloc (by simp) _)).drew

set_option maxRecDepth 100000 in
set_option maxHeartbeats 800000 in
theorem hasVar_any (p n : Nat) (v : Int) (w : World) (hp : p < 512) (hn : n < 512) :
    Calls Tryz.prog 99 #[.agg #[.int .i64 p, .int .i64 n], .int .i64 v] w fun e w' =>
      e = .returned (.bool ((p ||| n) &&& bitOf v != 0)) ∧ Below w.heap.size w w' := by
  have hor : bits .or .i64 (p : Int) (n : Int) = ((p ||| n : Nat) : Int) := i64_or _ _ (by omega) (by omega)
  have hand : bits .and .i64 ((p ||| n : Nat) : Int) (bitOf v : Nat) = (((p ||| n) &&& bitOf v : Nat) : Int) := i64_and _ _ (by have := or_lt p n hp hn; omega) (by have := bitOf_lt v; omega)
  have HE : Hid (((((p ||| n) &&& bitOf v : Nat) : Int) != 0) = ((p ||| n) &&& bitOf v != 0)) := hide (by
    rw [Bool.eq_iff_iff, bne_iff_ne, bne_iff_ne]; omega)
  go_enter Tryz.func99, Tryz.ntmps99
  go_wp2_with fail
  go_quiet ((go_at_call 108; exact Calls.quiet_of_same (bit_any _ _)))
  go_wp2_with fail
  go_ret
  exact ⟨ret_bool (unhide HE), below_drewN ((Below.refl _ _).alloc (Nat.le_refl _) _) nq⟩
end Go.Proofs.YtgipjjhkhfihpaaGreatDoor

namespace Go.Proofs.YtgipjjhkhfihpaaGreatDoor
open Go.RowKit

def ints (l : List Nat) : List Value := l.map (fun n : Nat => Value.int .i64 (n : Int))
def bools (l : List Bool) : List Value := l.map Value.bool
def pairs (l : List (Nat × Nat)) : List Value := l.flatMap (fun c => [Value.int .i64 (c.1 : Int), Value.int .i64 (c.2 : Int)])
theorem pairs_length (l : List (Nat × Nat)) : (pairs l).length = l.length * 2 := by
  induction l with
  | nil => rfl
  | cons a l ih => simp [pairs] at *; omega
theorem pairs_snoc (l : List (Nat × Nat)) (c : Nat × Nat) : pairs (l ++ [c]) = pairs l ++ [Value.int .i64 (c.1 : Int), Value.int .i64 (c.2 : Int)] := by simp [pairs]

theorem Tryz.info121 : (Tryz.prog.info? 121).map (fun i => (i.zero, i.size, i.bytes)) = some (some (.agg #[.int .i64 0, .int .i64 0]), 2, 16) := by kernel_rfl
theorem Tryz.info3 : (Tryz.prog.info? 3).map (fun i => (i.zero, i.size, i.bytes)) = some (some (.int .i64 0), 1, 8) := by kernel_rfl
theorem Tryz.info4 : (Tryz.prog.info? 4).map (fun i => (i.zero, i.size, i.bytes)) = some (some (.bool false), 1, 1) := by kernel_rfl

/-- What lies in memory behind some lines of Read: the formula at block bf, and three rows. -/
structure RInv (w1 : World) (bf : Nat) (st : RS) (vT vK vC : Value) (wr : World) : Prop where
  below : Below bf w1 wr
  fb : wr.heap[bf]? = some (.cells #[.slice none 0 0, .int .i64 0, .slice none 0 0, vC] 92 (0, 0))
  oC : wr.ownsRow (bf + 1) 121 2 vC st.cl.length (pairs st.cl)
  oT : wr.ownsRow (bf + 1) 3 1 vT st.told.length (ints st.told)
  oK : wr.ownsRow (bf + 1) 4 1 vK st.kinds.length (bools st.kinds)

theorem own_below {w w' : World} {base : Nat} {e : TypeId} {size : Nat} {v : Value} {n : Nat} {xs : List Value} (h : w.ownsRow base e size v n xs) (hb : Below w.heap.size w w') : w'.ownsRow base e size v n xs :=
  h.kept (row := none) ⟨hb.os, hb.tape, hb.output, hb.size, fun k hk _ => hb.block k hk⟩ (by cases hv : v.ownBlock <;> simp)

theorem RInv.later {w1 : World} {bf : Nat} {st : RS} {vT vK vC : Value} {wr w' : World} (h : RInv w1 bf st vT vK vC wr) (hb : Below wr.heap.size wr w') : RInv w1 bf st vT vK vC w' :=
  ⟨h.below.trans (hb.mono (Nat.le_of_lt (blk_lt h.fb))), (hb.block bf (blk_lt h.fb)).trans h.fb, own_below h.oC hb, own_below h.oT hb, own_below h.oK hb⟩

/-- What 'append' to the formula's row of clauses leaves, ahead of the store. -/
theorem clause_grown {w1 wr wp w' : World} {bf bc : Nat} {st : RS} {vT vK vC : Value} {cs : Array Value} (h : RInv w1 bf st vT vK vC wr) (hp : Below wr.heap.size wr wp) (hg : wp.grownBy w' vC.ownBlock)
    (hbc : wr.heap[bc]? = some (.cells cs 121 (0, 0))) (hne : vC.ownBlock ≠ some bc) :
    w'.heap[bf]? = some (.cells #[.slice none 0 0, .int .i64 0, .slice none 0 0, vC] 92 (0, 0)) ∧ w'.heap[bc]? = some (.cells cs 121 (0, 0)) := by
  have hlt := h.oC.lt
  constructor
  · rw [hg.block bf (Nat.lt_of_lt_of_le (blk_lt h.fb) hp.size) (fun e => by have := hlt bf e.symm; omega), hp.block bf (blk_lt h.fb)]; exact h.fb
  · rw [hg.block bc (Nat.lt_of_lt_of_le (blk_lt hbc) hp.size) (fun e => hne e.symm), hp.block bc (blk_lt hbc)]; exact hbc

/-- Two owned rows of different element types lie apart. -/
theorem own_apart {w : World} {b1 b2 : Nat} {e1 e2 : TypeId} {s1 s2 : Nat} {v1 v2 : Value} {n1 n2 : Nat} {x1 x2 : List Value} (h1 : w.ownsRow b1 e1 s1 v1 n1 x1) (h2 : w.ownsRow b2 e2 s2 v2 n2 x2) (he : e1 ≠ e2) :
    v1.ownBlock = none ∨ v1.ownBlock ≠ v2.ownBlock := by
  rcases h1.2 with ⟨rfl, _⟩ | ⟨g1, c1, cur1, rfl, _, hh1, _⟩
  · exact Or.inl rfl
  · right
    rcases h2.2 with ⟨rfl, _⟩ | ⟨g2, c2, cur2, rfl, _, hh2, _⟩
    · simp [Value.ownBlock]
    · simp [Value.ownBlock]
      intro e; subst e
      rw [hh1] at hh2
      simp at hh2
      exact he hh2.2

theorem own_kept {w wp w' : World} {base base2 : Nat} {e e2 : TypeId} {size size2 : Nat} {v v2 : Value} {n n2 : Nat} {xs x2 : List Value} (h : w.ownsRow base e size v n xs) (hp : Below w.heap.size w wp) (h2 : w.ownsRow base2 e2 size2 v2 n2 x2) (hg : wp.grownBy w' v2.ownBlock) (he : e ≠ e2) : w'.ownsRow base e size v n xs :=
  (own_below h hp).kept hg (own_apart h h2 he)

theorem RInv.push_clause {w1 wr wp w' : World} {bf : Nat} {st : RS} {vT vK vC v' : Value} {p n : Nat} (h : RInv w1 bf st vT vK vC wr) (hp : Below wr.heap.size wr wp) (hg : wp.grownBy w' vC.ownBlock)
    (hown : w'.ownsRow (bf + 1) 121 2 v' (st.cl.length + 1) (pairs st.cl ++ [.int .i64 (p : Int), .int .i64 (n : Int)])) (u : Nat) :
    RInv w1 bf { st with cl := st.cl ++ [(p, n)], used := u } vT vK v' (w'.setCell ⟨bf, 3, none⟩ v') := by
  have hlt := h.oC.lt
  have hbf := blk_lt h.fb
  have hfb : w'.heap[bf]? = some (.cells #[.slice none 0 0, .int .i64 0, .slice none 0 0, vC] 92 (0, 0)) := by
    rw [hg.block bf (Nat.lt_of_lt_of_le hbf hp.size) (fun e => by have := hlt bf e.symm; omega), hp.block bf hbf]; exact h.fb
  refine ⟨?_, ?_, ?_, ?_, ?_⟩
  · exact ((h.below.trans (hp.mono (Nat.le_of_lt hbf))).grown hg (Nat.le_trans (Nat.le_of_lt hbf) hp.size) (fun k hk => by have := (hlt k hk).1; omega)).setCell (p := ⟨bf, 3, none⟩) (Nat.le_refl _) _
  · exact blk_set hfb 3 v'
  · have := ownsRow_setCell_below hown (a := ⟨bf, 3, none⟩) (Nat.lt_succ_self bf) v'
    rw [← pairs_snoc st.cl (p, n)] at this
    simpa using this
  · exact ownsRow_setCell_below (own_kept h.oT hp h.oC hg (by decide)) (a := ⟨bf, 3, none⟩) (Nat.lt_succ_self bf) v'
  · exact ownsRow_setCell_below (own_kept h.oK hp h.oC hg (by decide)) (a := ⟨bf, 3, none⟩) (Nat.lt_succ_self bf) v'

theorem RInv.push_told {w1 wr wp w' : World} {bf : Nat} {st : RS} {vT vK vC v' : Value} {x : Nat} (h : RInv w1 bf st vT vK vC wr) (hp : Below wr.heap.size wr wp) (hg : wp.grownBy w' vT.ownBlock)
    (hown : w'.ownsRow (bf + 1) 3 1 v' (st.told.length + 1) (ints st.told ++ [.int .i64 (x : Int)])) (s : Nat) :
    RInv w1 bf { st with told := st.told ++ [x], seen := s } v' vK vC w' := by
  have hlt := h.oT.lt
  have hbf := blk_lt h.fb
  refine ⟨?_, ?_, own_kept h.oC hp h.oT hg (by decide), ?_, own_kept h.oK hp h.oT hg (by decide)⟩
  · exact (h.below.trans (hp.mono (Nat.le_of_lt hbf))).grown hg (Nat.le_trans (Nat.le_of_lt hbf) hp.size) (fun k hk => by have := (hlt k hk).1; omega)
  · rw [hg.block bf (Nat.lt_of_lt_of_le hbf hp.size) (fun e => by have := hlt bf e.symm; omega), hp.block bf hbf]; exact h.fb
  · simpa [ints] using hown

theorem RInv.push_kind {w1 wr wp w' : World} {bf : Nat} {st : RS} {vT vK vC v' : Value} {x : Bool} (h : RInv w1 bf st vT vK vC wr) (hp : Below wr.heap.size wr wp) (hg : wp.grownBy w' vK.ownBlock)
    (hown : w'.ownsRow (bf + 1) 4 1 v' (st.kinds.length + 1) (bools st.kinds ++ [.bool x])) :
    RInv w1 bf { st with kinds := st.kinds ++ [x] } vT v' vC w' := by
  have hlt := h.oK.lt
  have hbf := blk_lt h.fb
  refine ⟨?_, ?_, own_kept h.oC hp h.oK hg (by decide), own_kept h.oT hp h.oK hg (by decide), ?_⟩
  · exact (h.below.trans (hp.mono (Nat.le_of_lt hbf))).grown hg (Nat.le_trans (Nat.le_of_lt hbf) hp.size) (fun k hk => by have := (hlt k hk).1; omega)
  · rw [hg.block bf (Nat.lt_of_lt_of_le hbf hp.size) (fun e => by have := hlt bf e.symm; omega), hp.block bf hbf]; exact h.fb
  · simpa [bools] using hown

end Go.Proofs.YtgipjjhkhfihpaaGreatDoor

namespace Go.Proofs.YtgipjjhkhfihpaaGreatDoor
open Go.RowKit

def apart (a b : Value) : Prop := ∀ k, a.ownBlock = some k → b.ownBlock ≠ some k
theorem apart.symm {a b : Value} (h : apart a b) : apart b a := fun k hk hk' => h k hk' hk
theorem apart.keep {a b : Value} (h : apart a b) : a.ownBlock = none ∨ a.ownBlock ≠ b.ownBlock := by
  cases ha : a.ownBlock with
  | none => exact Or.inl rfl
  | some k => exact Or.inr (fun e => h k ha e.symm)
theorem apart_nil (a : Value) : apart (.slice none 0 0) a := fun k hk => by simp [Value.ownBlock] at hk
/-- What comes out of an append onto a lies apart from b as a did. -/
theorem apart.grown {a a' b : Value} {w : World} {base : Nat} {e : TypeId} {size n : Nat} {xs : List Value} (h : apart a b) (hb : w.ownsRow base e size b n xs) (hat : a'.ownBlock = a.ownBlock ∨ ∃ k, a'.ownBlock = some k ∧ w.heap.size ≤ k) : apart a' b := by
  intro k hk hk'
  rcases hat with hat | ⟨k', hat, hle⟩
  · exact h k (hat ▸ hk) hk'
  · rw [hk] at hat; injection hat with e; subst e
    have := (hb.lt k hk').2; omega

/-- What lies in memory while Read puts the formula together. -/
structure FInv (w1 : World) (bf : Nat) (st : RS) (order : List Nat) (all : Nat) (ends : List Nat) (vT vK vC vO vE : Value) (wr : World) : Prop where
  below : Below bf w1 wr
  fb : wr.heap[bf]? = some (.cells #[vO, .int .i64 (all : Int), vE, vC] 92 (0, 0))
  oC : wr.ownsRow (bf + 1) 121 2 vC st.cl.length (pairs st.cl)
  oT : wr.ownsRow (bf + 1) 3 1 vT st.told.length (ints st.told)
  oK : wr.ownsRow (bf + 1) 4 1 vK st.kinds.length (bools st.kinds)
  oO : wr.ownsRow (bf + 1) 3 1 vO order.length (ints order)
  oE : wr.ownsRow (bf + 1) 3 1 vE ends.length (ints ends)
  aOT : apart vO vT
  aOE : apart vO vE
  aET : apart vE vT

theorem FInv.of {w1 : World} {bf : Nat} {st : RS} {vT vK vC : Value} {wr : World} (h : RInv w1 bf st vT vK vC wr) : FInv w1 bf st [] 0 [] vT vK vC (.slice none 0 0) (.slice none 0 0) wr :=
  ⟨h.below, h.fb, h.oC, h.oT, h.oK, World.ownsRow_nil _ _ _ _, World.ownsRow_nil _ _ _ _, apart_nil _, apart_nil _, apart_nil _⟩

section
variable {w1 wr wp w' : World} {bf : Nat} {st : RS} {order ends : List Nat} {all : Nat} {vT vK vC vO vE v' : Value}
theorem FInv.isBelow {w : World} (h : FInv w1 bf st order all ends vT vK vC vO vE wr) (hb : Below w.heap.size w w1) (hbf : w1.heap.size = bf) : Below w.heap.size w wr :=
  hb.trans (h.below.mono (hbf ▸ hb.size))
theorem FInv.later (h : FInv w1 bf st order all ends vT vK vC vO vE wr) (hb : Below wr.heap.size wr w') : FInv w1 bf st order all ends vT vK vC vO vE w' :=
  ⟨h.below.trans (hb.mono (Nat.le_of_lt (blk_lt h.fb))), (hb.block bf (blk_lt h.fb)).trans h.fb, own_below h.oC hb, own_below h.oT hb, own_below h.oK hb, own_below h.oO hb, own_below h.oE hb, h.aOT, h.aOE, h.aET⟩

theorem FInv.push_order {x : Nat} (h : FInv w1 bf st order all ends vT vK vC vO vE wr) (hp : Below wr.heap.size wr wp) (hg : wp.grownBy w' vO.ownBlock)
    (hown : w'.ownsRow (bf + 1) 3 1 v' (order.length + 1) (ints order ++ [.int .i64 (x : Int)])) (hat : v'.ownBlock = vO.ownBlock ∨ ∃ k, v'.ownBlock = some k ∧ wp.heap.size ≤ k) :
    w'.heap[bf]? = some (.cells #[vO, .int .i64 (all : Int), vE, vC] 92 (0, 0)) ∧
    w'.ownsRow (bf + 1) 3 1 vT st.told.length (ints st.told) ∧ w'.ownsRow (bf + 1) 4 1 vK st.kinds.length (bools st.kinds) ∧
    FInv w1 bf st (order ++ [x]) all ends vT vK vC v' vE (w'.setCell ⟨bf, 0, none⟩ v') := by
  have hlt := h.oO.lt
  have hbf := blk_lt h.fb
  have hfb : w'.heap[bf]? = some (.cells #[vO, .int .i64 (all : Int), vE, vC] 92 (0, 0)) := by
    rw [hg.block bf (Nat.lt_of_lt_of_le hbf hp.size) (fun e => by have := hlt bf e.symm; omega), hp.block bf hbf]; exact h.fb
  have kT := (own_below h.oT hp).kept hg h.aOT.symm.keep
  have kK := own_kept h.oK hp h.oO hg (by decide)
  have kE := (own_below h.oE hp).kept hg h.aOE.symm.keep
  refine ⟨hfb, kT, kK, ?_, blk_set hfb 0 v', ?_, ?_, ?_, ?_, ?_, h.aOT.grown (own_below h.oT hp) hat, h.aOE.grown (own_below h.oE hp) hat, h.aET⟩
  · exact ((h.below.trans (hp.mono (Nat.le_of_lt hbf))).grown hg (Nat.le_trans (Nat.le_of_lt hbf) hp.size) (fun k hk => by have := (hlt k hk).1; omega)).setCell (p := ⟨bf, 0, none⟩) (Nat.le_refl _) _
  · exact ownsRow_setCell_below (own_kept h.oC hp h.oO hg (by decide)) (a := ⟨bf, 0, none⟩) (Nat.lt_succ_self bf) v'
  · exact ownsRow_setCell_below kT (a := ⟨bf, 0, none⟩) (Nat.lt_succ_self bf) v'
  · exact ownsRow_setCell_below kK (a := ⟨bf, 0, none⟩) (Nat.lt_succ_self bf) v'
  · have := ownsRow_setCell_below hown (a := ⟨bf, 0, none⟩) (Nat.lt_succ_self bf) v'
    simpa [ints] using this
  · exact ownsRow_setCell_below kE (a := ⟨bf, 0, none⟩) (Nat.lt_succ_self bf) v'

theorem FInv.push_end {x : Nat} (h : FInv w1 bf st order all ends vT vK vC vO vE wr) (hp : Below wr.heap.size wr wp) (hg : wp.grownBy w' vE.ownBlock)
    (hown : w'.ownsRow (bf + 1) 3 1 v' (ends.length + 1) (ints ends ++ [.int .i64 (x : Int)])) (hat : v'.ownBlock = vE.ownBlock ∨ ∃ k, v'.ownBlock = some k ∧ wp.heap.size ≤ k) :
    w'.heap[bf]? = some (.cells #[vO, .int .i64 (all : Int), vE, vC] 92 (0, 0)) ∧
    FInv w1 bf st order all (ends ++ [x]) vT vK vC vO v' (w'.setCell ⟨bf, 2, none⟩ v') := by
  have hlt := h.oE.lt
  have hbf := blk_lt h.fb
  have hfb : w'.heap[bf]? = some (.cells #[vO, .int .i64 (all : Int), vE, vC] 92 (0, 0)) := by
    rw [hg.block bf (Nat.lt_of_lt_of_le hbf hp.size) (fun e => by have := hlt bf e.symm; omega), hp.block bf hbf]; exact h.fb
  refine ⟨hfb, ?_, blk_set hfb 2 v', ?_, ?_, ?_, ?_, ?_, h.aOT, (h.aOE.symm.grown (own_below h.oO hp) hat).symm, h.aET.grown (own_below h.oT hp) hat⟩
  · exact ((h.below.trans (hp.mono (Nat.le_of_lt hbf))).grown hg (Nat.le_trans (Nat.le_of_lt hbf) hp.size) (fun k hk => by have := (hlt k hk).1; omega)).setCell (p := ⟨bf, 2, none⟩) (Nat.le_refl _) _
  · exact ownsRow_setCell_below (own_kept h.oC hp h.oE hg (by decide)) (a := ⟨bf, 2, none⟩) (Nat.lt_succ_self bf) v'
  · exact ownsRow_setCell_below ((own_below h.oT hp).kept hg h.aET.symm.keep) (a := ⟨bf, 2, none⟩) (Nat.lt_succ_self bf) v'
  · exact ownsRow_setCell_below (own_kept h.oK hp h.oE hg (by decide)) (a := ⟨bf, 2, none⟩) (Nat.lt_succ_self bf) v'
  · exact ownsRow_setCell_below ((own_below h.oO hp).kept hg h.aOE.keep) (a := ⟨bf, 2, none⟩) (Nat.lt_succ_self bf) v'
  · have := ownsRow_setCell_below hown (a := ⟨bf, 2, none⟩) (Nat.lt_succ_self bf) v'
    simpa [ints] using this

theorem FInv.set_all (h : FInv w1 bf st order all ends vT vK vC vO vE wr) (all' : Nat) : FInv w1 bf st order all' ends vT vK vC vO vE (wr.setCell ⟨bf, 1, none⟩ (.int .i64 (all' : Int))) := by
  refine ⟨h.below.setCell (p := ⟨bf, 1, none⟩) (Nat.le_refl _) _, blk_set h.fb 1 _, ?_, ?_, ?_, ?_, ?_, h.aOT, h.aOE, h.aET⟩
  all_goals first
    | exact ownsRow_setCell_below h.oC (a := ⟨bf, 1, none⟩) (Nat.lt_succ_self bf) _
    | exact ownsRow_setCell_below h.oK (a := ⟨bf, 1, none⟩) (Nat.lt_succ_self bf) _
    | exact ownsRow_setCell_below h.oT (a := ⟨bf, 1, none⟩) (Nat.lt_succ_self bf) _
    | exact ownsRow_setCell_below h.oO (a := ⟨bf, 1, none⟩) (Nat.lt_succ_self bf) _
    | exact ownsRow_setCell_below h.oE (a := ⟨bf, 1, none⟩) (Nat.lt_succ_self bf) _
theorem FInv.drew (h : FInv w1 bf st order all ends vT vK vC vO vE wr) : FInv w1 bf st order all ends vT vK vC vO vE wr.drew := h.later ((Below.refl _ _).drew)
end

theorem rowOf_told (st : RS) (hd : List UInt8) (tl : List (List UInt8)) (h : ∀ v ∈ st.told, v ≤ 8) : ∀ v ∈ (rowOf st hd tl).1.told, v ≤ 8 := by
  unfold rowOf
  split
  · exact h
  · split
    · dsimp only
      unfold varsTo
      suffices hs : ∀ (tl : List (List UInt8)) (p : PS), (∀ v ∈ p.told, v ≤ 8) → ∀ v ∈ (tl.foldl (varStep (hd == [97])) p).told, v ≤ 8 from hs tl _ h
      intro tl
      induction tl with
      | nil => intro p hp; exact hp
      | cons w tl ih =>
        intro p hp
        refine ih _ ?_
        intro v hv
        simp [varStep] at hv
        rcases hv with hv | hv
        · exact hp v hv
        · have := dig_bd w; omega
    · exact h
theorem told_le (rows : List (List UInt8)) : ∀ (st : RS) (i : Nat) (st' : RS), (∀ v ∈ st.told, v ≤ 8) → readRows st i rows = .inl st' → ∀ v ∈ st'.told, v ≤ 8 := by
  induction rows with
  | nil => intro st i st' h e; simp [readRows] at e; subst e; exact h
  | cons r rows ih =>
    intro st i st' h e
    rw [readRows] at e
    split at e
    · refine ih _ _ _ ?_ e
      unfold rowStep
      split
      · exact h
      · exact rowOf_told _ _ _ h
    · cases e
theorem freeTo_le (st : RS) (k : Nat) : ∀ v ∈ freeTo st k, v ≤ k := by
  intro v hv
  unfold freeTo at hv
  rw [List.mem_filter] at hv
  obtain ⟨hv, _⟩ := hv
  simp at hv
  omega
theorem allTo_lt (st : RS) (h : ∀ v ∈ st.told, v ≤ 8) (k : Nat) : allTo st k < 512 := by
  unfold allTo
  suffices hs : ∀ (l : List (Nat × Bool)) (a : Nat), a < 512 → (∀ x ∈ l, x.1 ≤ 8) → l.foldl (fun a x => if x.2 then a ||| 2 ^ x.1 else a) a < 512 by
    refine hs _ 0 (by decide) ?_
    intro x hx
    have h1 := List.mem_of_mem_take hx
    exact h _ (List.of_mem_zip h1).1
  intro l
  induction l with
  | nil => intro a ha _; exact ha
  | cons x l ih =>
    intro a ha hx
    refine ih _ ?_ (fun y hy => hx y (List.mem_cons_of_mem _ hy))
    have := pow_bd x.1 (hx x (List.mem_cons_self ..))
    dsimp only
    split
    · exact or_lt _ _ ha (by omega)
    · exact ha
theorem own_lo {w : World} {base lo : Nat} {e : TypeId} {size : Nat} {v : Value} {n : Nat} {xs : List Value} (h : w.ownsRow base e size v n xs) (hl : lo ≤ base) : w.ownsRow lo e size v n xs := by
  refine ⟨h.1, ?_⟩
  rcases h.2 with h2 | ⟨g, cap, cur, hv, hg, r⟩
  · exact Or.inl h2
  · exact Or.inr ⟨g, cap, cur, hv, Nat.le_trans hl hg, r⟩
theorem freeTo_len (st : RS) (k : Nat) : (freeTo st k).length ≤ k := by
  unfold freeTo
  refine Nat.le_trans (List.length_filter_le _ _) ?_
  simp
theorem endsTo_len (order : List Nat) (all k : Nat) : (endsTo order all k).length ≤ k := by
  unfold endsTo
  refine Nat.le_trans (List.length_filter_le _ _) ?_
  simp
end Go.Proofs.YtgipjjhkhfihpaaGreatDoor
