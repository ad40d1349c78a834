import Derived.Test.YtbpolmdokdhkhaaReadSpec
import Derived.Test.YtbpolmdokdhkhaaSteps
namespace Go.Proofs.Ytbpolmdokdhkhaa
open Go.RowKit

theorem cutTo_append (c : UInt8) (a b : List UInt8) : cutTo c (a ++ b) = b.foldl (cutStep c) (cutTo c a) := by
  unfold cutTo; rw [List.foldl_append]
theorem cutTo_suffix (c : UInt8) (l : List UInt8) : ∃ pre, l = pre ++ (cutTo c l).2 := by
  suffices h : ∀ (n : Nat) (l : List UInt8), l.length = n → ∃ pre, l = pre ++ (cutTo c l).2 from h _ l rfl
  intro n
  induction n with
  | zero => intro l hl; exact ⟨[], by rw [List.eq_nil_of_length_eq_zero hl]; rfl⟩
  | succ n ih =>
    intro l hl
    obtain ⟨a, b, rfl⟩ : ∃ a b, l = a ++ [b] := ⟨l.dropLast, l.getLast (by intro e; subst e; simp at hl), (List.dropLast_concat_getLast _).symm⟩
    obtain ⟨pre, hpre⟩ := ih a (by simp at hl; omega)
    rw [cutTo_append]
    simp only [List.foldl_cons, List.foldl_nil]
    unfold cutStep
    split
    · exact ⟨a ++ [b], by simp⟩
    · exact ⟨pre, by simp; rw [← List.append_assoc, ← hpre]⟩
theorem cutTo_tail (c : UInt8) (l : List UInt8) : l.drop (l.length - (cutTo c l).2.length) = (cutTo c l).2 := by
  obtain ⟨pre, h⟩ := cutTo_suffix c l
  generalize (cutTo c l).2 = t at *
  subst h
  simp
/-- The text from where the last piece began to k. -/
theorem cut_piece (c : UInt8) (l : List UInt8) (k s : Nat) (hk : k ≤ l.length) (hs : s + (cutTo c (l.take k)).2.length = k) : (l.drop s).take (k - s) = (cutTo c (l.take k)).2 := by
  have h := cutTo_tail c (l.take k)
  rw [List.length_take, Nat.min_eq_left hk] at h
  rw [show k - (cutTo c (l.take k)).2.length = s from by omega] at h
  rw [← h, List.drop_take]

attribute [local go_sem] ba_get

set_option maxRecDepth 100000 in
set_option maxHeartbeats 400000 in
theorem lines_any (l : List UInt8) (w : World) (hl : l.length ≤ 1048576) :
    Calls Try.prog 20 #[.string ⟨l.toArray⟩] w fun e w' =>
      ∃ v, e = .returned (.tuple #[v, .bool (decide ((cutTo 10 l).2 = []))]) ∧ w'.ownsRow w.heap.size 9 1 v (cutTo 10 l).1.length ((cutTo 10 l).1.map S) ∧ Below w.heap.size w w' := by
  obtain ⟨i0, hi, hz0, hz1, hz2⟩ := info_parts Try.info9
  go_enter Try.func20, Try.ntmps20
  go_wp2
  go_loopw [4, 5, 6] (fun v t i wr => ∃ k s : Nat, k ≤ l.length ∧ i = .int .i64 k ∧ t = .int .i64 s ∧ s + (cutTo 10 (l.take k)).2.length = k ∧ wr.ownsRow w.heap.size 9 1 v (cutTo 10 (l.take k)).1.length ((cutTo 10 (l.take k)).1.map S) ∧ Below w.heap.size w wr) (fun _ _ i _ => l.length - (intOf i).toNat)
  case atStart => exact ⟨0, 0, by omega, rfl, rfl, rfl, World.ownsRow_nil _ _ _ _, Below.refl _ _⟩
  case round =>
    obtain ⟨k, s, hk, rfl, rfl, hs, hown, hb⟩ := hrel
    have hsz := cutTo_size 10 (l.take k)
    rw [List.length_take] at hsz
    have hbs := hb.size
    have HP := hide (cut_piece 10 l k s hk hs)
    have hsk : s ≤ k := by omega
    have HS := hide hs; clear hs
    by_cases hlt : k < l.length
    · by_cases hc : l[k] = 10
      · have hcb : ((l[k].toNat : Int) == 10) = true := by rw [hc]; rfl
        go_wp2_with (first | (at_builtin; refine wpList_append_new rfl _ _ 64 rfl w.heap.size i0 (.string ⟨#[]⟩) 1 16 Try.underlying64 hi hz0 hz1 hz2 rfl (by decide) _ _ _ hown rfl rfl rfl ?_ ?_ ?_ hbs ?_; rotate_right; intro v' w1 hown' hgrow hnn) | go_in)
        · go_roundw
          case rel =>
            have e : cutTo 10 (l.take (k + 1)) = ((cutTo 10 (l.take k)).1 ++ [(cutTo 10 (l.take k)).2], []) := by
              rw [cutTo_take 10 l k hlt]; unfold cutStep; rw [if_pos hc]
            refine ⟨k + 1, k + 1, by omega, by go_num, by go_num, ?_, ?_, below_grown hb hgrow hown (Nat.le_refl _) hbs⟩
            · rw [e]; rfl
            · rw [ba_extract, unhide HP] at hown'
              rw [e]; simpa using hown'
          case measure => simp [intOf]; omega
        · intro u hu; simp at hu; subst hu; rfl
        · unfold maxLen; omega
        · omega
      · have hcb : ((l[k].toNat : Int) == 10) = false := by
          rw [beq_eq_false_iff_ne]; intro e; exact hc (by apply UInt8.toNat_inj.1; show _ = 10; omega)
        go_wp2_with fail
        go_roundw
        case rel =>
          have e : cutTo 10 (l.take (k + 1)) = ((cutTo 10 (l.take k)).1, (cutTo 10 (l.take k)).2 ++ [l[k]]) := by
            rw [cutTo_take 10 l k hlt]; unfold cutStep; rw [if_neg hc]
          refine ⟨k + 1, s, by omega, by go_num, rfl, ?_, ?_, hb⟩
          · rw [e]; simp; have := unhide HS; omega
          · rw [e]; exact hown
        case measure => simp [intOf]; omega
    · have hkl : k = l.length := by omega
      subst hkl
      have HT : Hid (l.take l.length = l) := hide List.take_length
      rw [unhide HT] at hown HS
      have hsb : ((s : Int) == (l.length : Int)) = decide ((cutTo 10 l).2 = []) := by
        have := unhide HS
        rw [Bool.eq_iff_iff, beq_iff_eq, decide_eq_true_iff, ← List.length_eq_zero_iff]; omega
      go_wp2_with fail
      go_ret2
      exact ⟨_, rfl, hown, hb⟩

/-! ### Split -/
theorem cutTo_prefix (c : UInt8) (l : List UInt8) (k : Nat) : (cutTo c (l.take k)).1 <+: (cutTo c l).1 := by
  have h : ∀ (b : List UInt8) (st : List (List UInt8) × List UInt8), st.1 <+: (b.foldl (cutStep c) st).1 := by
    intro b
    induction b with
    | nil => intro st; exact List.prefix_refl _
    | cons x b ih =>
      intro st
      refine List.IsPrefix.trans ?_ (ih (cutStep c st x))
      unfold cutStep; split
      · exact List.prefix_append _ _
      · exact List.prefix_refl _
  conv => rhs; rw [← List.take_append_drop k l]
  rw [cutTo_append]
  exact h _ _

/-- The words of a line, or that it is none. -/
def splitOk (l : List UInt8) : Bool := !(cutAt 32 l).any (·.isEmpty)
theorem split_bad (l : List UInt8) (k : Nat) (hk : k ≤ l.length) (h : (cutTo 32 (l.take k)).2 = []) (hx : ∀ h : k < l.length, l[k] = 32) : splitOk l = false := by
  unfold splitOk
  rw [Bool.not_eq_false', List.any_eq_true]
  refine ⟨[], ?_, rfl⟩
  unfold cutAt
  by_cases hlt : k < l.length
  · have e : cutTo 32 (l.take (k + 1)) = ((cutTo 32 (l.take k)).1 ++ [[]], []) := by
      rw [cutTo_take 32 l k hlt]; unfold cutStep; rw [if_pos (hx hlt), h]
    have hp := cutTo_prefix 32 l (k + 1)
    rw [e] at hp
    exact List.mem_append_left _ (hp.subset (by simp))
  · have : k = l.length := by omega
    subst this
    rw [List.take_length] at h
    rw [h]; simp

def SplitPost (l : List UInt8) (w : World) (e : Ending) (w' : World) : Prop := Below w.heap.size w w' ∧
  if splitOk l = true then ∃ v, e = .returned (.tuple #[v, .bool true]) ∧ w'.ownsRow w.heap.size 9 1 v (cutAt 32 l).length ((cutAt 32 l).map S)
  else e = .returned (.tuple #[.slice none 0 0, .bool false])

set_option maxRecDepth 100000 in
set_option maxHeartbeats 800000 in
theorem split_any (l : List UInt8) (w : World) (hl : l.length ≤ 1048576) :
    Calls Try.prog 39 #[.string ⟨l.toArray⟩] w fun e w' => SplitPost l w e w' := by
  obtain ⟨i0, hi, hz0, hz1, hz2⟩ := info_parts Try.info9
  go_enter Try.func39, Try.ntmps39
  go_wp2
  go_loopg [4, 5, 6] (l.length + 2) (fun q v t i wr => ∃ k s : Nat, i = .int .i64 k ∧ t = .int .i64 s ∧ 1 ≤ q ∧ Below w.heap.size w wr ∧
     ((k ≤ l.length ∧ k + q = l.length + 2 ∧ s + (cutTo 32 (l.take k)).2.length = k ∧ wr.ownsRow w.heap.size 9 1 v (cutTo 32 (l.take k)).1.length ((cutTo 32 (l.take k)).1.map S) ∧ (∀ x ∈ (cutTo 32 (l.take k)).1, x ≠ [])) ∨
      (k = l.length + 1 ∧ splitOk l = true ∧ wr.ownsRow w.heap.size 9 1 v (cutAt 32 l).length ((cutAt 32 l).map S))))
  case atStart => exact ⟨0, 0, rfl, rfl, by omega, Below.refl _ _, Or.inl ⟨by omega, by omega, rfl, World.ownsRow_nil _ _ _ _, by intro x hx; simp [cutTo] at hx⟩⟩
  case round =>
    obtain ⟨k, s, rfl, rfl, hq, hb, hrel⟩ := hrel
    have hbs := hb.size
    rcases hrel with ⟨hk, hkq, hs, hown, hne⟩ | ⟨hk, hok, hown⟩
    · have hsz := cutTo_size 32 (l.take k)
      rw [List.length_take] at hsz
      have HP := hide (cut_piece 32 l k s hk hs)
      have hsk : s ≤ k := by omega
      have HS := hide hs; clear hs
      have HN := hide hne; clear hne
      have hdk : decide ((k : Int) ≤ (l.length : Int)) = true := by simp; omega
      by_cases hcont : ∃ h : k < l.length, l[k] ≠ 32
      · obtain ⟨hlt, hc⟩ := hcont
        have hdl : decide ((k : Int) < (l.length : Int)) = true := by simp; omega
        have hcb : ((l[k].toNat : Int) != 32) = true := by
          rw [bne_iff_ne]; intro e; exact hc (by apply UInt8.toNat_inj.1; show _ = 32; omega)
        go_wp2_with fail
        go_roundg (gk - 1)
        case measure => omega
        case rel =>
          have e : cutTo 32 (l.take (k + 1)) = ((cutTo 32 (l.take k)).1, (cutTo 32 (l.take k)).2 ++ [l[k]]) := by
            rw [cutTo_take 32 l k hlt]; unfold cutStep; rw [if_neg hc]
          refine ⟨k + 1, s, by go_num, rfl, by omega, hb, Or.inl ⟨by omega, by omega, ?_, ?_, ?_⟩⟩
          · rw [e]; simp; have := unhide HS; omega
          · rw [e]; exact hown
          · rw [e]; exact unhide HN
      · have hend : ∀ h : k < l.length, l[k] = 32 := fun h => Classical.byContradiction fun hc => hcont ⟨h, hc⟩
        have HX := hide hend
        clear hcont
        by_cases hse : s = k
        · have hsb : ((k : Int) == (s : Int)) = true := by rw [beq_iff_eq]; omega
          have hbad := split_bad l k hk (by have := unhide HS; exact List.eq_nil_of_length_eq_zero (by omega)) hend
          have HB := hide hbad; clear hbad
          have HSE := hide hse; clear hse
          by_cases hlt : k < l.length
          · have hdl : decide ((k : Int) < (l.length : Int)) = true := by simp; omega
            have hcb : ((l[k].toNat : Int) != 32) = false := by rw [hend hlt]; rfl
            clear hend
            go_wp2_with fail
            go_ret2
            exact ⟨hb, by rw [unhide HB, if_neg (by decide)]; rfl⟩
          · have hdl : decide ((k : Int) < (l.length : Int)) = false := by simp; omega
            clear hend
            go_wp2_with fail
            go_ret2
            exact ⟨hb, by rw [unhide HB, if_neg (by decide)]; rfl⟩
        · have hsb : ((k : Int) == (s : Int)) = false := by rw [beq_eq_false_iff_ne]; omega
          have HNE : Hid ((cutTo 32 (l.take k)).2 ≠ []) := hide (fun e => by have := unhide HS; rw [e] at this; simp at this; omega)
          by_cases hlt : k < l.length
          · have hdl : decide ((k : Int) < (l.length : Int)) = true := by simp; omega
            have hcb : ((l[k].toNat : Int) != 32) = false := by rw [hend hlt]; rfl
            clear hend
            go_wp2_with (first | (at_builtin; refine wpList_append_new rfl _ _ 64 rfl w.heap.size i0 (.string ⟨#[]⟩) 1 16 Try.underlying64 hi hz0 hz1 hz2 rfl (by decide) _ _ _ hown rfl rfl rfl (by simp [Value.oneCell']) (by unfold maxLen; omega) (by omega) hbs ?_; intro v' w1 hown' hgrow hnn) | go_in)
            go_roundg (gk - 1)
            case measure => omega
            case rel =>
              have e : cutTo 32 (l.take (k + 1)) = ((cutTo 32 (l.take k)).1 ++ [(cutTo 32 (l.take k)).2], []) := by
                rw [cutTo_take 32 l k hlt]; unfold cutStep; rw [if_pos (unhide HX hlt)]
              refine ⟨k + 1, k + 1, by go_num, by go_num, by omega, below_grown hb hgrow hown (Nat.le_refl _) hbs, Or.inl ⟨by omega, by omega, ?_, ?_, ?_⟩⟩
              · rw [e]; rfl
              · rw [ba_extract, unhide HP] at hown'
                rw [e]; simpa using hown'
              · rw [e]; intro x hx
                simp at hx
                rcases hx with hx | hx
                · exact unhide HN x hx
                · rw [hx]; exact unhide HNE
          · have hdl : decide ((k : Int) < (l.length : Int)) = false := by simp; omega
            clear hend
            go_wp2_with (first | (at_builtin; refine wpList_append_new rfl _ _ 64 rfl w.heap.size i0 (.string ⟨#[]⟩) 1 16 Try.underlying64 hi hz0 hz1 hz2 rfl (by decide) _ _ _ hown rfl rfl rfl (by simp [Value.oneCell']) (by unfold maxLen; omega) (by omega) hbs ?_; intro v' w1 hown' hgrow hnn) | go_in)
            go_roundg (gk - 1)
            case measure => omega
            case rel =>
              have HT : Hid (l.take k = l) := hide (by rw [show k = l.length from by omega]; exact List.take_length)
              have hn2 := unhide HN
              have hn3 := unhide HNE
              rw [ba_extract, unhide HP] at hown'
              rw [unhide HT] at hown' hn2 hn3
              refine ⟨k + 1, k + 1, by go_num, by go_num, by omega, below_grown hb hgrow hown (Nat.le_refl _) hbs, Or.inr ⟨by omega, ?_, by simpa [cutAt] using hown'⟩⟩
              unfold splitOk cutAt
              rw [Bool.not_eq_true', List.any_eq_false]
              intro x hx
              simp at hx
              rcases hx with hx | hx
              · have := hn2 x hx; simpa using this
              · rw [hx]; simpa using hn3
    · have hdk : decide ((k : Int) ≤ (l.length : Int)) = false := by simp; omega
      have HOK := hide hok; clear hok
      have hk1 : l.length < k := by omega
      have hk2 : k ≤ l.length + 1 := by omega
      clear hk
      go_wp2_with fail
      go_ret2
      exact ⟨hb, by rw [unhide HOK, if_pos rfl]; exact ⟨_, rfl, hown⟩⟩
end Go.Proofs.Ytbpolmdokdhkhaa
