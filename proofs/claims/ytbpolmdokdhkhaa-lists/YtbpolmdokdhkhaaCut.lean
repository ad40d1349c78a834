import Derived.Test.YtbpolmdokdhkhaaBase
namespace Go.Proofs.Ytbpolmdokdhkhaa
open Go.RowKit

/-- A string's value. -/
abbrev S (l : List UInt8) : Value := .string ⟨l.toArray⟩

def cutStep (c : UInt8) (st : List (List UInt8) × List UInt8) (b : UInt8) : List (List UInt8) × List UInt8 :=
  if b = c then (st.1 ++ [st.2], []) else (st.1, st.2 ++ [b])
def cutTo (c : UInt8) (l : List UInt8) : List (List UInt8) × List UInt8 := l.foldl (cutStep c) ([], [])
/-- A text, cut at a byte. -/
def cutAt (c : UInt8) (l : List UInt8) : List (List UInt8) := (cutTo c l).1 ++ [(cutTo c l).2]

theorem cutTo_take (c : UInt8) (l : List UInt8) (k : Nat) (h : k < l.length) : cutTo c (l.take (k + 1)) = cutStep c (cutTo c (l.take k)) l[k] := by
  unfold cutTo
  rw [List.take_succ_eq_append_getElem h, List.foldl_append]; rfl

theorem cutTo_size (c : UInt8) (l : List UInt8) : (cutTo c l).1.length ≤ l.length ∧ (cutTo c l).2.length ≤ l.length := by
  suffices h : ∀ (l : List UInt8) (st : List (List UInt8) × List UInt8), (l.foldl (cutStep c) st).1.length ≤ st.1.length + l.length ∧ (l.foldl (cutStep c) st).2.length ≤ st.2.length + l.length by
    have := h l ([], []); simpa [cutTo] using this
  intro l
  induction l with
  | nil => intro st; simp
  | cons b l ih =>
    intro st
    have := ih (cutStep c st b)
    simp only [List.foldl_cons, List.length_cons]
    have h2 : (cutStep c st b).1.length ≤ st.1.length + 1 ∧ (cutStep c st b).2.length ≤ st.2.length + 1 := by
      unfold cutStep; split <;> simp
    omega

theorem Try.info9 : (Try.prog.info? 9).map (fun i => (i.zero, i.size, i.bytes)) = some (some (.string ⟨#[]⟩), 1, 16) := by kernel_rfl

set_option maxRecDepth 100000 in
set_option maxHeartbeats 400000 in
theorem cut_any (l : List UInt8) (c : UInt8) (w : World) (hl : l.length ≤ 1048576) :
    Calls Try.prog 64 #[.string ⟨l.toArray⟩, .int .u8 c.toNat] w fun e w' =>
      ∃ v, e = .returned v ∧ w'.ownsRow w.heap.size 9 1 v (cutAt c l).length ((cutAt c l).map S) ∧ Below w.heap.size w w' := by
  obtain ⟨i0, hi, hz0, hz1, hz2⟩ := info_parts Try.info9
  go_enter Try.func64, Try.ntmps64
  go_wp2
  go_loopw [5, 6, 7] (fun v t i wr => ∃ k : Nat, k ≤ l.length ∧ i = .int .i64 k ∧ t = S (cutTo c (l.take k)).2 ∧ wr.ownsRow w.heap.size 9 1 v (cutTo c (l.take k)).1.length ((cutTo c (l.take k)).1.map S) ∧ Below w.heap.size w wr) (fun _ _ i _ => l.length - (intOf i).toNat)
  case atStart => exact ⟨0, by omega, rfl, rfl, World.ownsRow_nil _ _ _ _, Below.refl _ _⟩
  case round =>
    obtain ⟨k, hk, rfl, rfl, hown, hb⟩ := hrel
    have hsz := cutTo_size c (l.take k)
    rw [List.length_take] at hsz
    have hbs := hb.size
    by_cases hlt : k < l.length
    · go_wp2_with (first | (at_builtin; refine wpList_append_new rfl _ _ 64 rfl w.heap.size i0 (.string ⟨#[]⟩) 1 16 Try.underlying64 hi hz0 hz1 hz2 rfl (by decide) _ _ _ hown rfl rfl rfl ?_ ?_ ?_ hbs ?_; rotate_right; intro v' w1 hown' hgrow hnn) | go_in)
      · have hne : (l[k] == c) = true := by rw [← u8_beq]; assumption
        go_roundw
        case rel =>
          have e : cutTo c (l.take (k + 1)) = ((cutTo c (l.take k)).1 ++ [(cutTo c (l.take k)).2], []) := by
            rw [cutTo_take c l k hlt]; unfold cutStep; rw [if_pos (by simpa using hne)]
          refine ⟨k + 1, by omega, by go_num, ?_, ?_, below_grown hb hgrow hown (Nat.le_refl _) hbs⟩
          · rw [e]
          · rw [e]; simpa using hown'
        case measure => simp [intOf]; omega
      · intro u hu; simp at hu; subst hu; rfl
      · unfold maxLen; omega
      · omega
      · have hne : (l[k] == c) = false := by rw [← u8_beq]; assumption
        go_roundw
        case rel =>
          have e : cutTo c (l.take (k + 1)) = ((cutTo c (l.take k)).1, (cutTo c (l.take k)).2 ++ [l[k]]) := by
            rw [cutTo_take c l k hlt]; unfold cutStep; rw [if_neg (by simpa using hne)]
          refine ⟨k + 1, by omega, by go_num, ?_, ?_, hb⟩
          · rw [e, ba_extract, ba_append]
            congr 4
            rw [show k + 1 - k = 1 from by omega, take_one_drop l k hlt]
          · rw [e]; exact hown
        case measure => simp [intOf]; omega
    · have hkl : k = l.length := by omega
      subst hkl
      have HT : Hid (l.take l.length = l) := List.take_length
      go_wp2_with (first | (at_builtin; refine wpList_append_new rfl _ _ 64 rfl w.heap.size i0 (.string ⟨#[]⟩) 1 16 Try.underlying64 hi hz0 hz1 hz2 rfl (by decide) _ _ _ hown rfl rfl rfl ?_ ?_ ?_ hbs ?_; rotate_right; intro v' w1 hown' hgrow hnn) | go_in)
      · go_ret
        rw [HT.out] at hown'
        exact ⟨_, rfl, by simpa [cutAt] using hown', below_grown hb hgrow hown (Nat.le_refl _) hbs⟩
      · intro u hu; simp at hu; subst hu; rfl
      · unfold maxLen; omega
      · omega
end Go.Proofs.Ytbpolmdokdhkhaa
