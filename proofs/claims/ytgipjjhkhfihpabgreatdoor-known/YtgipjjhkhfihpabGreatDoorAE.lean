import Derived.Test.YtgipjjhkhfihpabGreatDoorAD
import Derived.Test.YtgipjjhkhfihpabGreatDoorAA
import Derived.Test.YtgipjjhkhfihpabGreatDoorAB
import Derived.Deep.LoopGhost
namespace Go.Proofs.YtgipjjhkhfihpabGreatDoor
open Go.RowKit

/-- No line has a newline; the lines joined are the text, but for what stands behind the last newline. -/
theorem cut_inv (l : List UInt8) : ∀ (st : List (List UInt8) × List UInt8), (∀ r ∈ st.1, (10 : UInt8) ∉ r) → (10 : UInt8) ∉ st.2 → (∀ r ∈ (l.foldl (cutStep 10) st).1, (10 : UInt8) ∉ r) ∧ joinN (l.foldl (cutStep 10) st).1 ++ (l.foldl (cutStep 10) st).2 = joinN st.1 ++ st.2 ++ l := by
  induction l with
  | nil => intro st h1 _; exact ⟨h1, by simp⟩
  | cons b l ih =>
    intro st h1 h2
    rw [List.foldl_cons]
    by_cases hb : b = 10
    · have e : cutStep 10 st b = (st.1 ++ [st.2], []) := by unfold cutStep; rw [if_pos hb]
      rw [e]
      have := ih (st.1 ++ [st.2], []) (by
        intro r hr
        rcases List.mem_append.1 hr with hr | hr
        · exact h1 r hr
        · simp at hr; subst hr; exact h2) (by simp)
      refine ⟨this.1, ?_⟩
      rw [this.2, hb]
      simp [joinN]
    · have e : cutStep 10 st b = (st.1, st.2 ++ [b]) := by unfold cutStep; rw [if_neg hb]
      rw [e]
      have := ih (st.1, st.2 ++ [b]) h1 (by
        intro hh
        rcases List.mem_append.1 hh with hh | hh
        · exact h2 hh
        · simp at hh; exact hb hh.symm)
      refine ⟨this.1, ?_⟩
      rw [this.2]
      simp
theorem lines_no_nl (l : List UInt8) : ∀ r ∈ (cutTo 10 l).1, (10 : UInt8) ∉ r := (cut_inv l ([], []) (by simp) (by simp)).1
theorem lines_join (l : List UInt8) (h : (cutTo 10 l).2 = []) : joinN (cutTo 10 l).1 = l := by
  have := (cut_inv l ([], []) (by simp) (by simp)).2
  have e : joinN (cutTo 10 l).1 ++ (cutTo 10 l).2 = l := by
    unfold cutTo
    rw [this]; simp [joinN]
  rw [h, List.append_nil] at e
  exact e

/-! ### Prefix and clauses -/
theorem norm_split (rows : List (List UInt8)) : ∀ (ps : List (Bool × List Nat)) (qs : List (Bool × List Nat)) (cs : List (Nat × Nat)), norm ps rows = some (qs, cs) → ∃ P C qs', rows = P ++ C ∧ prefs P = some qs' ∧ qs = ps ++ qs' ∧ cls C = some cs ∧ ((toldP ps).Nodup → (toldP qs).Nodup) := by
  induction rows with
  | nil =>
    intro ps qs cs h
    simp [norm] at h
    obtain ⟨rfl, rfl⟩ := h
    exact ⟨[], [], [], rfl, rfl, by simp, rfl, fun h => h⟩
  | cons r rows ih =>
    intro ps qs cs h
    rw [norm] at h
    cases hr : prefRow r with
    | some x =>
      rw [hr] at h
      dsimp only at h
      by_cases hd : (toldP (ps ++ [x])).Nodup
      · rw [if_pos hd] at h
        obtain ⟨P, C, qs', h1, h2, h3, h4, h5⟩ := ih _ _ _ h
        refine ⟨r :: P, C, x :: qs', by rw [h1]; rfl, by rw [prefs, hr, h2], by rw [h3]; simp, h4, fun _ => h5 hd⟩
      · rw [if_neg hd] at h; cases h
    | none =>
      rw [hr] at h
      dsimp only at h
      cases hc : cls (r :: rows) with
      | none => rw [hc] at h; cases h
      | some ds =>
        rw [hc] at h
        have h' : (ps, ds) = (qs, cs) := Option.some.inj h
        injection h' with e1 e2
        subst e1 e2
        exact ⟨[], r :: rows, [], rfl, rfl, by simp, hc, fun h => h⟩
/-- A TEXT THAT IS A FORMULA: its prefix and its clauses. -/
structure TextIs (l : List UInt8) (P C : List (List UInt8)) (qs : List (Bool × List Nat)) (cs : List (Nat × Nat)) : Prop where
  len : l.length ≤ 2000
  text : l = joinN (P ++ C)
  nl : ∀ r ∈ P ++ C, (10 : UInt8) ∉ r
  prefs : prefs P = some qs
  cls : cls C = some cs
  c24 : cs.length ≤ 24
  nodup : (toldP qs).Nodup
theorem text_of (l : List UInt8) (F : Form) (h : readSpec l = .inr F) : ∃ P C qs cs, TextIs l P C qs cs ∧ F = formN qs cs := by
  have hr := readSpec_norm l
  rw [h] at hr
  obtain ⟨h1, h2, qs, cs, st, h3, h4, h5, h6, h7⟩ := hr
  have e1 : (cutAt 10 l).dropLast = (cutTo 10 l).1 := by unfold cutAt; simp
  have e2 : (cutTo 10 l).2 = [] := by
    unfold cutAt at h2
    simpa using h2
  rw [e1] at h3
  obtain ⟨P, C, qs', g1, g2, g3, g4, _⟩ := norm_split _ _ _ _ h3
  have g3' : qs = qs' := by simpa using g3
  subst g3'
  refine ⟨P, C, qs, cs, ⟨h1, ?_, ?_, g2, g4, h4, h5⟩, by rw [h7]; exact finish_norm h6⟩
  · rw [← g1]; exact (lines_join l e2).symm
  · rw [← g1]; exact lines_no_nl l
/-- A row's first byte. -/
theorem cut_first (c : UInt8) (r : List UInt8) : ∀ (a : List UInt8) (x : UInt8) (t : List (List UInt8)), x ≠ c → cutAt c r = (x :: a) :: t → r.head? = some x := by
  intro a x t hx h
  cases r with
  | nil => simp [cutAt, cutTo] at h
  | cons b r =>
    by_cases hb : b = c
    · exfalso
      have hp : [[]] <+: (cutTo c (b :: r)).1 := by
        have h1 : cutTo c (b :: r) = r.foldl (cutStep c) (cutStep c ([], []) b) := rfl
        have h2 : cutStep c ([], []) b = ([[]], []) := by unfold cutStep; rw [if_pos hb]; rfl
        rw [h1, h2]
        suffices hs : ∀ (l : List UInt8) (st : List (List UInt8) × List UInt8), st.1 <+: (l.foldl (cutStep c) st).1 from hs r ([[]], [])
        intro l
        induction l with
        | nil => intro st; exact List.prefix_refl _
        | cons y l ih =>
          intro st
          refine List.IsPrefix.trans ?_ (ih (cutStep c st y))
          unfold cutStep; split
          · exact List.prefix_append _ _
          · exact List.prefix_refl _
      obtain ⟨rest, hrest⟩ := hp
      unfold cutAt at h
      rw [← hrest] at h
      simp at h
    · have h1 : cutTo c (b :: r) = r.foldl (cutStep c) ([], [b]) := by
        show r.foldl (cutStep c) (cutStep c ([], []) b) = _
        have : cutStep c ([], []) b = ([], [b]) := by unfold cutStep; rw [if_neg hb]; rfl
        rw [this]
      have h2 : ∀ (l : List UInt8) (st : List (List UInt8) × List UInt8) (y : UInt8) (z : List UInt8), (st.1 = [] ∧ st.2 = y :: z) ∨ (∃ z' t', st.1 = (y :: z') :: t') → ∃ z' t', (l.foldl (cutStep c) st).1 ++ [(l.foldl (cutStep c) st).2] = (y :: z') :: t' := by
        intro l
        induction l with
        | nil =>
          intro st y z h
          rcases h with ⟨h1, h2⟩ | ⟨z', t', h1⟩
          · exact ⟨z, [], by simp [h1, h2]⟩
          · exact ⟨z', t' ++ [st.2], by simp [h1]⟩
        | cons d l ih =>
          intro st y z h
          rw [List.foldl_cons]
          by_cases hd : d = c
          · have e : cutStep c st d = (st.1 ++ [st.2], []) := by unfold cutStep; rw [if_pos hd]
            rw [e]
            apply ih (z := z)
            right
            rcases h with ⟨h1, h2⟩ | ⟨z', t', h1⟩
            · exact ⟨z, [], by simp [h1, h2]⟩
            · exact ⟨z', t' ++ [st.2], by simp [h1]⟩
          · have e : cutStep c st d = (st.1, st.2 ++ [d]) := by unfold cutStep; rw [if_neg hd]
            rw [e]
            rcases h with ⟨h1, h2⟩ | ⟨z', t', h1⟩
            · exact ih (st.1, st.2 ++ [d]) y (z ++ [d]) (Or.inl ⟨h1, by simp [h2]⟩)
            · exact ih (st.1, st.2 ++ [d]) y z (Or.inr ⟨z', t', h1⟩)
      obtain ⟨z', t', h3⟩ := h2 r ([], [b]) b [] (Or.inl ⟨rfl, rfl⟩)
      unfold cutAt at h
      rw [h1, h3] at h
      injection h with h4 _
      injection h4 with h5 _
      subst h5
      rfl
theorem pref_first (r : List UInt8) (x : Bool × List Nat) (h : prefRow r = some x) : r.head? = some (if x.1 then 97 else 101) := by
  unfold prefRow at h
  cases hw : cutAt 32 r with
  | nil => rw [hw] at h; cases h
  | cons hd tl =>
    rw [hw] at h
    dsimp only at h
    split at h
    · next hh =>
      cases hv : varsOf tl with
      | none => rw [hv] at h; cases h
      | some vs =>
        rw [hv] at h
        have h' : (hd == [97], vs) = x := Option.some.inj h
        subst h'
        rcases hh.1 with e | e
        · subst e; exact cut_first 32 r [] 101 tl (by decide) hw
        · subst e; exact cut_first 32 r [] 97 tl (by decide) hw
    · cases h
theorem cl_first (r : List UInt8) (c : Nat × Nat) (h : clRow r = some c) : r.head? = some 99 := by
  unfold clRow at h
  cases hw : cutAt 32 r with
  | nil => rw [hw] at h; cases h
  | cons hd tl =>
    rw [hw] at h
    dsimp only at h
    split at h
    · next hh =>
      obtain ⟨rfl, _⟩ := hh
      exact cut_first 32 r [] 99 tl (by decide) hw
    · cases h
end Go.Proofs.YtgipjjhkhfihpabGreatDoor

namespace Go.Proofs.YtgipjjhkhfihpabGreatDoor
open Go.RowKit

/-! ### Texts that the statements without the document's answer make -/
theorem cut_shift (c : UInt8) (l : List UInt8) : ∀ (pre : List (List UInt8)) (cur : List UInt8), (l.foldl (cutStep c) (pre, cur)).1 ++ [(l.foldl (cutStep c) (pre, cur)).2] = pre ++ (match cutAt c l with | [] => [] | hd :: tl => (cur ++ hd) :: tl) := by
  induction l with
  | nil => intro pre cur; simp [cutAt, cutTo]
  | cons b l ih =>
    intro pre cur
    rw [List.foldl_cons]
    have e0 : cutAt c (b :: l) = (l.foldl (cutStep c) (cutStep c ([], []) b)).1 ++ [(l.foldl (cutStep c) (cutStep c ([], []) b)).2] := rfl
    by_cases hb : b = c
    · have e : ∀ st : List (List UInt8) × List UInt8, cutStep c st b = (st.1 ++ [st.2], []) := fun st => by unfold cutStep; rw [if_pos hb]
      rw [e, ih]
      rw [e0, e, ih]
      cases h : cutAt c l with
      | nil => simp [cutAt] at h
      | cons hd tl => simp
    · have e : ∀ st : List (List UInt8) × List UInt8, cutStep c st b = (st.1, st.2 ++ [b]) := fun st => by unfold cutStep; rw [if_neg hb]
      rw [e, ih]
      rw [e0, e, ih]
      cases h : cutAt c l with
      | nil => simp [cutAt] at h
      | cons hd tl => simp
theorem cutAt_cons (c b : UInt8) (r : List UInt8) (hb : b ≠ c) (hd : List UInt8) (tl : List (List UInt8)) (h : cutAt c r = hd :: tl) : cutAt c (b :: r) = (b :: hd) :: tl := by
  have e0 : cutAt c (b :: r) = (r.foldl (cutStep c) (cutStep c ([], []) b)).1 ++ [(r.foldl (cutStep c) (cutStep c ([], []) b)).2] := rfl
  have e : cutStep c ([], []) b = ([], [b]) := by unfold cutStep; rw [if_neg hb]; rfl
  rw [e0, e, cut_shift, h]; rfl
theorem cutAt_ne (c : UInt8) (r : List UInt8) : ∃ hd tl, cutAt c r = hd :: tl := by
  cases h : cutAt c r with
  | nil => simp [cutAt] at h
  | cons hd tl => exact ⟨hd, tl, rfl⟩
theorem prefs_split (A B : List (List UInt8)) (qs : List (Bool × List Nat)) (h : prefs (A ++ B) = some qs) : ∃ qa qb, prefs A = some qa ∧ prefs B = some qb ∧ qs = qa ++ qb := by
  induction A generalizing qs with
  | nil => exact ⟨[], qs, rfl, h, rfl⟩
  | cons r A ih =>
    rw [List.cons_append, prefs] at h
    cases hr : prefRow r with
    | none => rw [hr] at h; cases h
    | some x =>
      cases hA : prefs (A ++ B) with
      | none => rw [hr, hA] at h; cases h
      | some ys =>
        rw [hr, hA] at h
        have h' : x :: ys = qs := Option.some.inj h
        subst h'
        obtain ⟨qa, qb, h1, h2, h3⟩ := ih ys hA
        exact ⟨x :: qa, qb, by rw [prefs, hr, h1], h2, by rw [h3]; rfl⟩
theorem prefs_one (r : List UInt8) (qs : List (Bool × List Nat)) (h : prefs [r] = some qs) : ∃ x, prefRow r = some x ∧ qs = [x] := by
  rw [prefs] at h
  cases hr : prefRow r with
  | none => rw [hr] at h; cases h
  | some x => rw [hr] at h; exact ⟨x, rfl, (Option.some.inj h).symm⟩
theorem cls_split (A B : List (List UInt8)) (cs : List (Nat × Nat)) (h : cls (A ++ B) = some cs) : ∃ ca cb, cls A = some ca ∧ cls B = some cb ∧ cs = ca ++ cb := by
  induction A generalizing cs with
  | nil => exact ⟨[], cs, rfl, h, rfl⟩
  | cons r A ih =>
    rw [List.cons_append, cls] at h
    cases hr : clRow r with
    | none => rw [hr] at h; cases h
    | some x =>
      cases hA : cls (A ++ B) with
      | none => rw [hr, hA] at h; cases h
      | some ys =>
        rw [hr, hA] at h
        have h' : x :: ys = cs := Option.some.inj h
        subst h'
        obtain ⟨ca, cb, h1, h2, h3⟩ := ih ys hA
        exact ⟨x :: ca, cb, by rw [cls, hr, h1], h2, by rw [h3]; rfl⟩
end Go.Proofs.YtgipjjhkhfihpabGreatDoor

namespace Go.Proofs.YtgipjjhkhfihpabGreatDoor
open Go.RowKit

/-! ### duelkeep: lines -/
def klinesOf (l : List UInt8) : List (List UInt8) := (cutTo 10 l).1
theorem infoStr : (Tryz.prog.info? 9).map (fun i => (i.zero, i.size, i.bytes)) = some (some (.string ⟨#[]⟩), 1, 16) := by kernel_rfl
theorem cutTo_nl (l : List UInt8) (k : Nat) (h : k < l.length) (rows : List (List UInt8)) (cur : List UInt8) (hc : cutTo 10 (l.take k) = (rows, cur)) : cutTo 10 (l.take (k + 1)) = if l[k] = 10 then (rows ++ [cur], []) else (rows, cur ++ [l[k]]) := by
  rw [cutTo_take 10 l k h, hc]
  unfold cutStep
  rfl
theorem cur_next (l : List UInt8) (k fr : Nat) (h : k < l.length) (hf : fr ≤ k) (cur : List UInt8) (hc : (l.drop fr).take (k - fr) = cur) : (l.drop fr).take (k + 1 - fr) = cur ++ [l[k]] := by
  have h1 : k - fr < (l.drop fr).length := by rw [List.length_drop]; omega
  rw [show k + 1 - fr = (k - fr) + 1 from by omega, List.take_succ_eq_append_getElem h1, hc]
  congr 2
  rw [List.getElem_drop]
  congr 1
  omega
attribute [local go_sem] ba_get
set_option maxRecDepth 100000 in
set_option maxHeartbeats 1600000 in
theorem klines_any (l : List UInt8) (w : World) (hl : l.length ≤ 1048576) :
    Calls Tryz.prog 41 #[.string ⟨l.toArray⟩] w fun e w' => ∃ v, e = .returned v ∧ w'.ownsRow w.heap.size 9 1 v (klinesOf l).length ((klinesOf l).map S) ∧ Below w.heap.size w w' := by
  obtain ⟨i0, hi, hz0, hz1, hz2⟩ := info_parts infoStr
  go_enter Tryz.func41, Tryz.ntmps41
  go_wp2_with fail
  go_loopg [3, 4, 5] (l.length) (fun m vo vf vi wx => ∃ (k fr : Nat) (rows : List (List UInt8)) (cur : List UInt8), vi = .int .i64 (k : Int) ∧ vf = .int .i64 (fr : Int) ∧ k + m = l.length ∧ cutTo 10 (l.take k) = (rows, cur) ∧ fr ≤ k ∧ (l.drop fr).take (k - fr) = cur ∧ rows.length ≤ k ∧ wx.ownsRow w.heap.size 9 1 vo rows.length (rows.map S) ∧ Below w.heap.size w wx)
  case atStart => exact ⟨0, 0, [], [], rfl, rfl, by omega, rfl, by omega, by simp, by simp, World.ownsRow_nil _ _ _ _, Below.refl _ _⟩
  case round =>
    obtain ⟨k, fr, rows, cur, rfl, rfl, hkm, hct, hfk, hcu, hrl, hown, hb⟩ := hrel
    have HCT := hide hct
    have HCU := hide hcu
    have hbs := hb.size
    obtain ⟨aO, cO, rfl⟩ := own_form hown
    by_cases hlt : k < l.length
    · have hd3 : decide ((k : Int) < (l.length : Int)) = true := decide_eq_true (by omega)
      have hd4 : decide (k < l.length) = true := decide_eq_true hlt
      have HN := hide (cutTo_nl l k hlt rows cur hct)
      have HC := hide (cur_next l k fr hlt hfk cur hcu)
      clear hct hcu
      by_cases h10 : l[k] = 10
      · have HN2 : Hid (cutTo 10 (l.take (k + 1)) = (rows ++ [cur], [])) := hide (by rw [unhide HN, if_pos h10])
        have hex : ByteArray.extract ⟨l.toArray⟩ fr k = ⟨cur.toArray⟩ := by rw [ba_extract, unhide HCU]
        have HE := hide hex
        clear hex
        clear HN HC
        go_wp2_with (at_builtin; refine wpList_append_new rfl _ _ 72 rfl w.heap.size i0 (.string ⟨#[]⟩) 1 16 Tryz.underlying72 hi hz0 hz1 hz2 rfl (by decide) _ _ _ hown rfl rfl rfl (by simp [Value.oneCell']) (by unfold maxLen; omega) (by omega) hbs ?_; intro v4 w4 hown4 hgrow4 hnn4)
        have hB4 : Below w.heap.size w w4 := below_grown hb hgrow4 hown (Nat.le_refl _) hbs
        rw [unhide HE] at hown4
        obtain ⟨a4, c4, rfl⟩ := own_form hown4
        go_wp2_with fail
        go_roundg (gk - 1)
        case measure => omega
        case rel => exact ⟨k + 1, k + 1, rows ++ [cur], [], by go_num, by go_num, by omega, unhide HN2, by omega, by simp, by simp; omega, by simpa using hown4, hB4⟩
      · have HN2 : Hid (cutTo 10 (l.take (k + 1)) = (rows, cur ++ [l[k]])) := hide (by rw [unhide HN, if_neg h10])
        have hne : ((l[k].toNat : Int) == 10) = false := by
          rw [beq_eq_false_iff_ne]
          intro e
          apply h10
          rw [← UInt8.toNat_inj]
          have : (10 : UInt8).toNat = 10 := rfl
          omega
        have hne2 : (l[k].toNat == 10) = false := by rw [beq_eq_false_iff_ne]; intro e; rw [beq_eq_false_iff_ne] at hne; apply hne; omega
        clear HN h10
        go_wp2_with fail
        go_roundg (gk - 1)
        case measure => omega
        case rel => exact ⟨k + 1, fr, rows, cur ++ [l[k]], by go_num, rfl, by omega, unhide HN2, by omega, unhide HC, by omega, hown, hb⟩
    · have hd3 : decide ((k : Int) < (l.length : Int)) = false := decide_eq_false (by omega)
      have hd4 : decide (k < l.length) = false := decide_eq_false hlt
      have HF : Hid (klinesOf l = rows) := hide (by unfold klinesOf; have := unhide HCT; rw [List.take_of_length_le (by omega)] at this; rw [this])
      clear hct hcu
      go_wp2_with fail
      go_ret
      exact ⟨_, rfl, by rw [unhide HF]; exact hown, hb⟩
end Go.Proofs.YtgipjjhkhfihpabGreatDoor

namespace Go.Proofs.YtgipjjhkhfihpabGreatDoor
open Go.RowKit

/-! ### duelkeep: joined, starts, clauses -/
theorem mapS_at (rows : List (List UInt8)) (k : Nat) (h : k < rows.length) : (rows.map S)[k]? = some (S rows[k]) := by simp [h]
attribute [local go_sem] ba_get
set_option maxRecDepth 100000 in
set_option maxHeartbeats 400000 in
theorem kstarts_any (l : List UInt8) (c : UInt8) (w : World) (hl : l.length ≤ 1048576) :
    Calls Tryz.prog 42 #[.string ⟨l.toArray⟩, .int .u8 c.toNat] w fun e w' => e = .returned (.bool (l.head? == some c)) ∧ Below w.heap.size w w' := by
  cases l with
  | nil =>
    go_enter Tryz.func42, Tryz.ntmps42
    go_wp2_with fail
    go_ret
    exact ⟨rfl, Below.refl _ _⟩
  | cons x l =>
    have HB := hide (u8_beq (a := x) (b := c))
    go_enter Tryz.func42, Tryz.ntmps42
    go_wp2_with fail
    go_ret
    exact ⟨by rw [show ((x :: l).head? == some c) = (x == c) from rfl, ← unhide HB]; rfl, Below.refl _ _⟩
end Go.Proofs.YtgipjjhkhfihpabGreatDoor

namespace Go.Proofs.YtgipjjhkhfihpabGreatDoor
open Go.RowKit

/-! ### Texts, their lines and their verdicts -/
theorem cut_more (m : List (List UInt8)) (hm : ∀ r ∈ m, (10 : UInt8) ∉ r) (x : List UInt8) : klinesOf (joinN m ++ x) = m ++ klinesOf x := by
  unfold klinesOf cutTo
  rw [List.foldl_append, cut_join m hm []]
  have key : ∀ (x : List UInt8) (st : List (List UInt8)) (cur : List UInt8), (x.foldl (cutStep 10) (st, cur)).1 = st ++ (x.foldl (cutStep 10) ([], cur)).1 := by
    intro x
    induction x with
    | nil => intro st cur; simp
    | cons b x ih =>
      intro st cur
      rw [List.foldl_cons, List.foldl_cons]
      by_cases hb : b = 10
      · have e : ∀ s : List (List UInt8), cutStep 10 (s, cur) b = (s ++ [cur], []) := fun s => by unfold cutStep; exact if_pos hb
        rw [e, e, ih (st ++ [cur]) [], ih ([] ++ [cur]) []]
        simp
      · have e : ∀ s : List (List UInt8), cutStep 10 (s, cur) b = (s, cur ++ [b]) := fun s => by unfold cutStep; exact if_neg hb
        rw [e, e, ih st]
  rw [key]
  simp
theorem lines_text {l : List UInt8} {P C : List (List UInt8)} {qs : List (Bool × List Nat)} {cs : List (Nat × Nat)} (h : TextIs l P C qs cs) : klinesOf l = P ++ C := by
  have := cut_more (P ++ C) h.nl []
  rw [List.append_nil, ← h.text] at this
  rw [this]
  simp [klinesOf, cutTo]
theorem prefs_rows {P : List (List UInt8)} : ∀ {qs : List (Bool × List Nat)}, prefs P = some qs → ∀ r ∈ P, ∃ x, prefRow r = some x := by
  induction P with
  | nil => intro qs _ r hr; cases hr
  | cons p P ih =>
    intro qs h r hr
    obtain ⟨qa, qb, h1, h2, _⟩ := prefs_split [p] P qs h
    rcases List.mem_cons.1 hr with rfl | hr
    · obtain ⟨x, hx⟩ : ∃ x, prefRow r = some x := by
        cases hp : prefRow r with
        | some x => exact ⟨x, rfl⟩
        | none => simp [prefs, hp] at h1
      exact ⟨x, hx⟩
    · exact ih h2 r hr
theorem cls_rows {C : List (List UInt8)} : ∀ {cs : List (Nat × Nat)}, cls C = some cs → ∀ r ∈ C, ∃ x, clRow r = some x := by
  induction C with
  | nil => intro cs _ r hr; cases hr
  | cons p C ih =>
    intro cs h r hr
    obtain ⟨ca, cb, h1, h2, _⟩ := cls_split [p] C cs h
    rcases List.mem_cons.1 hr with rfl | hr
    · obtain ⟨x, hx⟩ : ∃ x, clRow r = some x := by
        cases hp : clRow r with
        | some x => exact ⟨x, rfl⟩
        | none => simp [cls, hp] at h1
      exact ⟨x, hx⟩
    · exact ih h2 r hr
theorem pref_rows_first {l : List UInt8} {P C : List (List UInt8)} {qs : List (Bool × List Nat)} {cs : List (Nat × Nat)} (h : TextIs l P C qs cs) : (∀ r ∈ P, ∃ x xs, r = x :: xs ∧ x ≠ 99) ∧ (∀ r ∈ C, ∃ xs, r = 99 :: xs) := by
  constructor
  · intro r hr
    obtain ⟨x, hx⟩ := prefs_rows h.prefs r hr
    have := pref_first r x hx
    cases r with
    | nil => cases this
    | cons y ys =>
      refine ⟨y, ys, rfl, fun e => ?_⟩
      subst e
      injection this with this
      revert this
      split <;> decide
  · intro r hr
    obtain ⟨x, hx⟩ := cls_rows h.cls r hr
    have := cl_first r x hx
    cases r with
    | nil => cases this
    | cons y ys => injection this with this; subst this; exact ⟨ys, rfl⟩
end Go.Proofs.YtgipjjhkhfihpabGreatDoor

namespace Go.Proofs.YtgipjjhkhfihpabGreatDoor
open Go.RowKit

/-! ### Fewer: a text with a line less, with lines more -/
end Go.Proofs.YtgipjjhkhfihpabGreatDoor

namespace Go.Proofs.YtgipjjhkhfihpabGreatDoor
open Go.RowKit

/-! ### Lines cut at blanks and joined again -/
theorem cutAt_same (c : UInt8) (r : List UInt8) : cutAt c (c :: r) = [] :: cutAt c r := by
  have e0 : cutAt c (c :: r) = (r.foldl (cutStep c) (cutStep c ([], []) c)).1 ++ [(r.foldl (cutStep c) (cutStep c ([], []) c)).2] := rfl
  have e : cutStep c ([], []) c = ([[]], []) := by unfold cutStep; rw [if_pos rfl]; rfl
  rw [e0, e, cut_shift]
  obtain ⟨hd, tl, h⟩ := cutAt_ne c r
  rw [h]; rfl
def joinB (tl : List (List UInt8)) : List UInt8 := tl.flatMap (fun w => 32 :: w)
theorem joinB_cons (w : List UInt8) (tl : List (List UInt8)) : joinB (w :: tl) = 32 :: (w ++ joinB tl) := by simp [joinB]
theorem cutAt_back (r : List UInt8) : ∀ hd tl, cutAt 32 r = hd :: tl → r = hd ++ joinB tl ∧ (32 : UInt8) ∉ hd ∧ ∀ w ∈ tl, (32 : UInt8) ∉ w := by
  induction r with
  | nil =>
    intro hd tl h
    have h' : [[]] = hd :: tl := h
    injection h' with a b
    subst a b
    simp [joinB]
  | cons b r ih =>
    intro hd tl h
    obtain ⟨hd', tl', h'⟩ := cutAt_ne 32 r
    obtain ⟨i1, i2, i3⟩ := ih hd' tl' h'
    by_cases hb : b = 32
    · subst hb
      rw [cutAt_same, h'] at h
      injection h with a c
      subst a c
      refine ⟨by rw [joinB_cons, ← i1]; rfl, by simp, ?_⟩
      intro w hw
      rcases List.mem_cons.1 hw with rfl | hw
      · exact i2
      · exact i3 w hw
    · rw [cutAt_cons 32 b r hb hd' tl' h'] at h
      injection h with a c
      subst a c
      exact ⟨by rw [List.cons_append, ← i1], by rw [List.mem_cons, not_or]; exact ⟨Ne.symm hb, i2⟩, i3⟩
/-! ### Literals' words -/
theorem dig_pos {w : List UInt8} (h : 0 < dig w) : ∃ d : UInt8, w = [d] ∧ 49 ≤ d.toNat ∧ d.toNat ≤ 56 ∧ (dig w).toNat = d.toNat - 48 := by
  match w with
  | [] => exact absurd h (by decide)
  | _ :: _ :: _ => exact absurd h (by simp [dig])
  | [c] =>
    simp only [dig] at h ⊢
    split at h
    · next hc => exact ⟨c, rfl, by omega, by omega, by rw [if_pos hc]; omega⟩
    · exact absurd h (by decide)
theorem dig_one (d : UInt8) (h1 : 49 ≤ d.toNat) (h2 : d.toNat ≤ 56) : dig [d] = ((d.toNat - 48 : Nat) : Int) := by
  simp only [dig]
  rw [if_pos (by omega)]
  omega
def LitW (w : List UInt8) : Prop := ∃ d : UInt8, 49 ≤ d.toNat ∧ d.toNat ≤ 56 ∧ (w = [d] ∨ w = [45, d])
theorem litInto_ok {c : Nat × Nat} {w : List UInt8} (h : (litInto c w).2 = true) : LitW w := by
  by_cases hh : w.head? = some 45
  · cases w with
    | nil => cases hh
    | cons b r =>
      have hb : b = 45 := by simpa using hh
      subst hb
      rw [litInto_neg] at h
      obtain ⟨d, rfl, h1, h2, _⟩ := dig_pos (of_decide_eq_true h)
      exact ⟨d, h1, h2, Or.inr rfl⟩
  · rw [litInto_pos c w hh] at h
    obtain ⟨d, rfl, h1, h2, _⟩ := dig_pos (of_decide_eq_true h)
    exact ⟨d, h1, h2, Or.inl rfl⟩
theorem lits_all (ws : List (List UInt8)) : ∀ (st : (Nat × Nat) × Bool), (ws.foldl (fun st w => ((litInto st.1 w).1, st.2 && (litInto st.1 w).2)) st).2 = true → st.2 = true ∧ ∀ w ∈ ws, LitW w := by
  induction ws with
  | nil => intro st h; exact ⟨h, fun w hw => by cases hw⟩
  | cons w ws ih =>
    intro st h
    obtain ⟨h1, h2⟩ := ih _ h
    dsimp only at h1
    rw [Bool.and_eq_true] at h1
    refine ⟨h1.1, fun x hx => ?_⟩
    rcases List.mem_cons.1 hx with rfl | hx
    · exact litInto_ok h1.2
    · exact h2 x hx
/-- A line of a clause, by its words. -/
theorem cl_words {r : List UInt8} {c : Nat × Nat} (h : clRow r = some c) : ∃ tl, r = 99 :: joinB tl ∧ (∀ w ∈ tl, LitW w) ∧ (litsTo tl).2 = true ∧ c = (litsTo tl).1 := by
  unfold clRow at h
  obtain ⟨hd, tl, hw⟩ := cutAt_ne 32 r
  rw [hw] at h
  dsimp only at h
  split at h
  · next hh =>
    obtain ⟨rfl, h2⟩ := hh
    injection h with h
    exact ⟨tl, (cutAt_back r _ _ hw).1, (lits_all tl _ h2).2, h2, h.symm⟩
  · cases h
end Go.Proofs.YtgipjjhkhfihpabGreatDoor

namespace Go.Proofs.YtgipjjhkhfihpabGreatDoor
open Go.RowKit

/-! ### The law's own reading of a text: which variables are universal, which clauses hold -/
def uniRow (r : List UInt8) (v : Int) : Bool := r.head? == some 97 && r.tail.any (fun b => (b.toNat : Int) - 48 == v)
def kuni (l : List UInt8) (v : Int) : Bool := (klinesOf l).any (fun r => uniRow r v)
theorem pref_words {r : List UInt8} {k : Bool} {vs : List Nat} (h : prefRow r = some (k, vs)) : ∃ tl, r = (if k then 97 else 101) :: joinB tl ∧ varsOf tl = some vs := by
  unfold prefRow at h
  obtain ⟨hd, tl, hw⟩ := cutAt_ne 32 r
  rw [hw] at h
  dsimp only at h
  split at h
  · next hh =>
    cases hv : varsOf tl with
    | none => rw [hv] at h; cases h
    | some ws =>
      rw [hv] at h
      have h' : (hd == [97], ws) = (k, vs) := Option.some.inj h
      injection h' with e1 e2
      subst e2
      refine ⟨tl, ?_, hv⟩
      rw [(cutAt_back r _ _ hw).1]
      rcases hh.1 with rfl | rfl
      · rw [← e1]; rfl
      · rw [← e1]; rfl
  · cases h
theorem words_any (tl : List (List UInt8)) (v : Nat) (h1 : 1 ≤ v) : ∀ vs, varsOf tl = some vs → (joinB tl).any (fun b => (b.toNat : Int) - 48 == (v : Int)) = vs.any (· == v) := by
  induction tl with
  | nil => intro vs h; simp [varsOf] at h; subst h; rfl
  | cons w tl ih =>
    intro vs h
    rw [varsOf] at h
    split at h
    · next hd =>
      cases hw : varsOf tl with
      | none => rw [hw] at h; cases h
      | some us =>
        rw [hw] at h
        have h' : (dig w).toNat :: us = vs := Option.some.inj h
        subst h'
        obtain ⟨d, rfl, g1, g2, g3⟩ := dig_pos hd
        rw [joinB_cons, List.any_cons, List.singleton_append, List.any_cons, ih us hw, List.any_cons, g3]
        have e32 : (((32 : UInt8).toNat : Int) - 48 == (v : Int)) = false := by
          rw [beq_eq_false_iff_ne]
          have : (32 : UInt8).toNat = 32 := rfl
          omega
        have ed : ((d.toNat : Int) - 48 == (v : Int)) = (d.toNat - 48 == v) := by
          rw [Bool.eq_iff_iff, beq_iff_eq, beq_iff_eq]
          omega
        rw [e32, ed, Bool.false_or]
    · cases h
theorem pref_uni {r : List UInt8} {x : Bool × List Nat} (h : prefRow r = some x) (v : Nat) (h1 : 1 ≤ v) : uniRow r (v : Int) = (x.1 && x.2.any (· == v)) := by
  obtain ⟨k, vs⟩ := x
  obtain ⟨tl, rfl, hv⟩ := pref_words h
  unfold uniRow
  rw [List.tail_cons, words_any tl v h1 vs hv]
  cases k
  · rfl
  · rfl
theorem prefs_uni (P : List (List UInt8)) (v : Nat) (h1 : 1 ≤ v) : ∀ qs, prefs P = some qs → P.any (fun r => uniRow r (v : Int)) = qs.any (fun x => x.1 && x.2.any (· == v)) := by
  induction P with
  | nil => intro qs h; simp [prefs] at h; subst h; rfl
  | cons r P ih =>
    intro qs h
    obtain ⟨qa, qb, g1, g2, g3⟩ := prefs_split [r] P qs h
    obtain ⟨x, g4, rfl⟩ := prefs_one r qa g1
    rw [g3, List.singleton_append, List.any_cons, List.any_cons, ih qb g2, pref_uni g4 v h1]
theorem kuni_all {l : List UInt8} {P C : List (List UInt8)} {qs : List (Bool × List Nat)} {cs : List (Nat × Nat)} (h : TextIs l P C qs cs) (v : Nat) (h1 : 1 ≤ v) : kuni l (v : Int) = (allN qs).testBit v := by
  unfold kuni
  rw [lines_text h, List.any_append, prefs_uni P v h1 qs h.prefs, allN_bit]
  have hC : C.any (fun r => uniRow r (v : Int)) = false := by
    rw [List.any_eq_false]
    intro r hr
    obtain ⟨xs, rfl⟩ := (pref_rows_first h).2 r hr
    simp [uniRow]
  rw [hC, Bool.or_false]
/-! ### Clauses -/
def satStep (val : Nat → Int) (st : Bool × Bool) (b : UInt8) : Bool × Bool :=
  if b = 32 then (st.1, false) else if b = 45 then (st.1, true) else ((st.1 || (val (b.toNat - 48) == 1 && !st.2)) || (val (b.toNat - 48) == -1 && st.2), st.2)
def satRow (val : Nat → Int) (r : List UInt8) : Bool := (r.tail.foldl (satStep val) (false, false)).1
def satT (val : Nat → Int) (l : List UInt8) : Bool := (klinesOf l).all (fun r => !(r.head? == some 99) || satRow val r)
/-- What a literal's word says. -/
def litSays (val : Nat → Int) (w : List UInt8) : Bool := match w with
  | [d] => val (d.toNat - 48) == 1
  | [_, d] => val (d.toNat - 48) == -1
  | _ => false
theorem litSays_neg (val : Nat → Int) (d : UInt8) : litSays val [45, d] = (val (d.toNat - 48) == -1) := rfl
theorem litSays_pos (val : Nat → Int) (d : UInt8) : litSays val [d] = (val (d.toNat - 48) == 1) := rfl
theorem sat_words (val : Nat → Int) (tl : List (List UInt8)) : (∀ w ∈ tl, LitW w) → ∀ (st : Bool × Bool), ((joinB tl).foldl (satStep val) st).1 = (st.1 || tl.any (litSays val)) := by
  induction tl with
  | nil => intro _ st; simp [joinB]
  | cons w tl ih =>
    intro h st
    obtain ⟨d, g1, g2, hw⟩ := h w (by simp)
    have hd32 : d ≠ 32 := fun e => by subst e; revert g1; decide
    have hd45 : d ≠ 45 := fun e => by subst e; revert g1; decide
    have s32 : ∀ st : Bool × Bool, satStep val st 32 = (st.1, false) := fun st => by unfold satStep; rw [if_pos rfl]
    have s45 : ∀ st : Bool × Bool, satStep val st 45 = (st.1, true) := fun st => by unfold satStep; rw [if_neg (by decide), if_pos rfl]
    have sd : ∀ st : Bool × Bool, satStep val st d = ((st.1 || (val (d.toNat - 48) == 1 && !st.2)) || (val (d.toNat - 48) == -1 && st.2), st.2) := fun st => by unfold satStep; rw [if_neg hd32, if_neg hd45]
    rw [joinB_cons, List.foldl_cons, s32, List.foldl_append, ih (fun x hx => h x (by simp [hx])), List.any_cons]
    rcases hw with rfl | rfl
    · rw [List.foldl_cons, List.foldl_nil, sd, litSays_pos]
      simp [Bool.or_assoc]
    · rw [List.foldl_cons, List.foldl_cons, List.foldl_nil, s45, sd, litSays_neg]
      simp [Bool.or_assoc]
theorem satC_pos (c : Nat × Nat) (v t : Nat) : satC (c.1 ||| 2 ^ v, c.2) t = (satC c t || t.testBit v) := by
  rw [Bool.eq_iff_iff, Bool.or_eq_true, satC_iff, satC_iff]
  constructor
  · rintro ⟨u, h⟩
    dsimp only at h
    rw [Nat.testBit_or, Nat.testBit_two_pow, Bool.or_eq_true, decide_eq_true_eq] at h
    rcases h with ⟨h1 | h1, h2⟩ | h
    · exact Or.inl ⟨u, Or.inl ⟨h1, h2⟩⟩
    · subst h1; exact Or.inr h2
    · exact Or.inl ⟨u, Or.inr h⟩
  · rintro (⟨u, h⟩ | h)
    · refine ⟨u, ?_⟩
      dsimp only
      rw [Nat.testBit_or, Bool.or_eq_true]
      rcases h with ⟨h1, h2⟩ | h
      · exact Or.inl ⟨Or.inl h1, h2⟩
      · exact Or.inr h
    · refine ⟨v, Or.inl ⟨?_, h⟩⟩
      dsimp only
      rw [Nat.testBit_or, Nat.testBit_two_pow, decide_eq_true rfl, Bool.or_true]
theorem satC_neg (c : Nat × Nat) (v t : Nat) : satC (c.1, c.2 ||| 2 ^ v) t = (satC c t || !t.testBit v) := by
  rw [Bool.eq_iff_iff, Bool.or_eq_true, satC_iff, satC_iff]
  constructor
  · rintro ⟨u, h⟩
    dsimp only at h
    rw [Nat.testBit_or, Nat.testBit_two_pow, Bool.or_eq_true, decide_eq_true_eq] at h
    rcases h with h | ⟨h1 | h1, h2⟩
    · exact Or.inl ⟨u, Or.inl h⟩
    · exact Or.inl ⟨u, Or.inr ⟨h1, h2⟩⟩
    · subst h1; exact Or.inr (by rw [h2]; rfl)
  · rintro (⟨u, h⟩ | h)
    · refine ⟨u, ?_⟩
      dsimp only
      rw [Nat.testBit_or, Bool.or_eq_true]
      rcases h with h | ⟨h1, h2⟩
      · exact Or.inl h
      · exact Or.inr ⟨Or.inl h1, h2⟩
    · refine ⟨v, Or.inr ⟨?_, by simpa using h⟩⟩
      dsimp only
      rw [Nat.testBit_or, Nat.testBit_two_pow, decide_eq_true rfl, Bool.or_true]
/-- The values that are set agree with the assignment. -/
def Agrees (val : Nat → Int) (t v : Nat) : Prop := (val v == 1) = t.testBit v ∧ (val v == -1) = !t.testBit v
theorem lits_sat (val : Nat → Int) (t : Nat) (tl : List (List UInt8)) : (∀ w ∈ tl, LitW w) → (∀ w ∈ tl, ∀ d : UInt8, d ∈ w → 49 ≤ d.toNat → Agrees val t (d.toNat - 48)) → ∀ (st : (Nat × Nat) × Bool),
    satC (tl.foldl (fun st w => ((litInto st.1 w).1, st.2 && (litInto st.1 w).2)) st).1 t = (satC st.1 t || tl.any (litSays val)) := by
  induction tl with
  | nil => intro _ _ st; simp
  | cons w tl ih =>
    intro h hA st
    obtain ⟨d, g1, g2, hw⟩ := h w (by simp)
    have ha := hA w (by simp) d (by rcases hw with rfl | rfl <;> simp) g1
    rw [List.foldl_cons, ih (fun x hx => h x (by simp [hx])) (fun x hx => hA x (by simp [hx])), List.any_cons, ← Bool.or_assoc]
    congr 1
    dsimp only
    have hd : d ≠ 45 := fun e => by subst e; revert g1; decide
    rcases hw with rfl | rfl
    · rw [litInto_pos _ [d] (by simpa using hd), dig_one d g1 g2, Int.toNat_natCast, litSays_pos, ha.1]
      exact satC_pos _ _ _
    · rw [litInto_neg, dig_one d g1 g2, Int.toNat_natCast, litSays_neg, ha.2]
      exact satC_neg _ _ _
theorem lits_bit (tl : List (List UInt8)) : (∀ w ∈ tl, LitW w) → ∀ (st : (Nat × Nat) × Bool) (v : Nat), ((st.1.1 ||| st.1.2).testBit v = true ∨ ∃ w ∈ tl, ∃ d : UInt8, d ∈ w ∧ 49 ≤ d.toNat ∧ d.toNat - 48 = v) →
    ((tl.foldl (fun st w => ((litInto st.1 w).1, st.2 && (litInto st.1 w).2)) st).1.1 ||| (tl.foldl (fun st w => ((litInto st.1 w).1, st.2 && (litInto st.1 w).2)) st).1.2).testBit v = true := by
  induction tl with
  | nil =>
    intro _ st v h
    rcases h with h | ⟨w, hw, _⟩
    · exact h
    · cases hw
  | cons w tl ih =>
    intro hl st v h
    rw [List.foldl_cons]
    refine ih (fun x hx => hl x (by simp [hx])) _ v ?_
    dsimp only
    obtain ⟨d, g1, g2, hw⟩ := hl w (by simp)
    have hd : d ≠ 45 := fun e => by subst e; revert g1; decide
    have key : ((litInto st.1 w).1.1 ||| (litInto st.1 w).1.2).testBit v = ((st.1.1 ||| st.1.2).testBit v || decide (d.toNat - 48 = v)) := by
      rcases hw with rfl | rfl
      · rw [litInto_pos _ [d] (by simpa using hd), dig_one d g1 g2, Int.toNat_natCast]
        simp only [Nat.testBit_or, Nat.testBit_two_pow]
        cases st.1.1.testBit v <;> cases st.1.2.testBit v <;> simp
      · rw [litInto_neg, dig_one d g1 g2, Int.toNat_natCast]
        simp only [Nat.testBit_or, Nat.testBit_two_pow]
        cases st.1.1.testBit v <;> cases st.1.2.testBit v <;> simp
    rw [key, Bool.or_eq_true]
    rcases h with h | ⟨w', hw', e, he, ge, rfl⟩
    · exact Or.inl (Or.inl h)
    · rcases List.mem_cons.1 hw' with rfl | hw'
      · left; right
        have : e = d := by
          rcases hw with rfl | rfl
          · simpa using he
          · rcases List.mem_cons.1 he with rfl | he
            · exfalso; revert ge; decide
            · simpa using he
        subst this
        exact decide_eq_true rfl
      · exact Or.inr ⟨w', hw', e, he, ge, rfl⟩
theorem row_sat (val : Nat → Int) (t : Nat) {r : List UInt8} {c : Nat × Nat} (h : clRow r = some c) (hA : ∀ v, (c.1 ||| c.2).testBit v = true → Agrees val t v) : satRow val r = satC c t := by
  obtain ⟨tl, rfl, hw, _, rfl⟩ := cl_words h
  unfold satRow
  rw [List.tail_cons, sat_words val tl hw]
  have := lits_sat val t tl hw (fun w hm d hd g => hA _ (lits_bit tl hw ((0, 0), true) _ (Or.inr ⟨w, hm, d, hd, g, rfl⟩))) ((0, 0), true)
  unfold litsTo
  rw [this]
  have h0 : satC (0, 0) t = false := by
    cases hs : satC (0, 0) t with
    | false => rfl
    | true => obtain ⟨v, h | h⟩ := (satC_iff _ _).1 hs <;> simp at h
  rw [h0]
theorem cls_sat (val : Nat → Int) (t : Nat) (C : List (List UInt8)) : ∀ cs, cls C = some cs → (∀ c ∈ cs, ∀ v, (c.1 ||| c.2).testBit v = true → Agrees val t v) → C.all (fun r => !(r.head? == some 99) || satRow val r) = satB cs t := by
  induction C with
  | nil => intro cs h _; simp [cls] at h; subst h; rfl
  | cons r C ih =>
    intro cs h hA
    obtain ⟨ca, cb, g1, g2, g3⟩ := cls_split [r] C cs h
    obtain ⟨c, hc⟩ : ∃ c, clRow r = some c := cls_rows h r (by simp)
    have hca : ca = [c] := by simp [cls, hc] at g1; exact g1.symm
    subst hca
    have e : satB ([c] ++ cb) t = (satC c t && satB cb t) := by unfold satB; rw [List.singleton_append, List.all_cons]
    rw [g3, e, List.all_cons, ih cb g2 (fun x hx => hA x (by rw [g3]; simp [hx])), row_sat val t hc (hA c (by rw [g3]; simp)), cl_first r c hc]
    rfl
theorem satT_eq {l : List UInt8} {P C : List (List UInt8)} {qs : List (Bool × List Nat)} {cs : List (Nat × Nat)} (h : TextIs l P C qs cs) (val : Nat → Int) (t : Nat) (hA : ∀ c ∈ cs, ∀ v, (c.1 ||| c.2).testBit v = true → Agrees val t v) : satT val l = satB cs t := by
  unfold satT
  rw [lines_text h, List.all_append, cls_sat val t C cs h.cls hA]
  have hP : P.all (fun r => !(r.head? == some 99) || satRow val r) = true := by
    rw [List.all_eq_true]
    intro r hr
    obtain ⟨x, xs, rfl, hx⟩ := (pref_rows_first h).1 r hr
    have : ((x :: xs).head? == some 99) = false := by simpa using hx
    rw [this]; rfl
  rw [hP, Bool.true_and]
/-! ### Whose turn it is -/
def turnTo : List Bool → Nat → Nat
  | [], _ => 0
  | true :: ws, k => 1 + turnTo ws k
  | false :: ws, k => if k = 0 then 0 else 1 + turnTo ws (k - 1)
theorem turnTo_of (ws : List Bool) : ∀ (t k : Nat), t ≤ ws.length → (∀ h : t < ws.length, ws[t] = false) → (ws.take t).count false = k → turnTo ws k = t := by
  induction ws with
  | nil => intro t k h _ _; simp at h; subst h; rfl
  | cons b ws ih =>
    intro t k h hl hc
    cases t with
    | zero =>
      have hb : b = false := hl (by simp)
      subst hb
      have hk : k = 0 := by simpa using hc.symm
      subst hk
      rfl
    | succ t =>
      have h' : t ≤ ws.length := by simpa using h
      have hl' : ∀ h : t < ws.length, ws[t] = false := fun hh => hl (by simpa using hh)
      rw [List.take_succ_cons, List.count_cons] at hc
      cases b with
      | true =>
        rw [turnTo, ih t k h' hl' (by simpa using hc)]
        omega
      | false =>
        have hk : k ≠ 0 := by rw [← hc]; simp
        rw [turnTo, if_neg hk, ih t (k - 1) h' hl' (by rw [← hc]; simp)]
        omega
end Go.Proofs.YtgipjjhkhfihpabGreatDoor

namespace Go.Proofs.YtgipjjhkhfihpabGreatDoor
open Go.RowKit

theorem alloc_new_at {w : World} {o : Obj} {n : Nat} (h : n = w.heap.size) : (w.alloc o).heap[n]? = some o := by subst h; exact heap_alloc_new w o
/-- A row whose block lies below B stays where all blocks below B do. -/
theorem own_under {w w' : World} {B base : Nat} {e : TypeId} {size : Nat} {v : Value} {n : Nat} {xs : List Value} (h : w.ownsRow base e size v n xs) (hl : ∀ k, v.ownBlock = some k → k < B) (hb : Below B w w') : w'.ownsRow base e size v n xs := by
  obtain ⟨h1, h2⟩ := h
  refine ⟨h1, ?_⟩
  rcases h2 with h2 | ⟨g, cap, cur, rfl, hg, hh, h3⟩
  · exact Or.inl h2
  · exact Or.inr ⟨g, cap, cur, rfl, hg, (hb.block g (hl g rfl)).trans hh, h3⟩

set_option maxRecDepth 100000 in
set_option maxHeartbeats 800000 in
theorem isPivot_any (b o : Nat) (kind : Nat) (v : Nat) (u : Bool) (w : World) (hc : w.cell? ⟨b, o, none⟩ = some (.int .i64 kind)) :
    Calls Tryz.prog 113 #[.pointer (some ⟨b, o, none⟩), .agg #[.int .i64 v, .bool u]] w fun e w' => e = .returned (.bool (pivotB kind u)) ∧ Below w.heap.size w w' := by
  have hbw := cell_lt hc
  have HE : Hid (((kind : Int) == 2) = (kind == 2)) := hide (by rw [Bool.eq_iff_iff, beq_iff_eq, beq_iff_eq]; omega)
  go_enter Tryz.func113, Tryz.ntmps113
  go_wp2_with fail
  go_quiet (fail)
  go_wp2_with fail
  go_ret
  exact ⟨ret_bool (by rw [unhide HE]; rfl), below_drewN ((Below.refl _ _).alloc (Nat.le_refl _) _) nq⟩

set_option maxRecDepth 100000 in
set_option maxHeartbeats 800000 in
theorem plits_any (base b o : Nat) (p : List Stp) (vS : Value) (n : Nat) (w : World) (hs : w.cell? ⟨b, o + 1, none⟩ = some vS) (hown : w.ownsRow base 91 6 vS p.length (psCells p)) (hl : p.length ≤ 1048576) :
    Calls Tryz.prog 60 #[.pointer (some ⟨b, o, none⟩), .int .i64 n] w fun e w' => e = .returned (SetV (litsAt p n)) ∧ Below w.heap.size w w' := by
  obtain ⟨aS, cS, rfl⟩ := own_form hown
  have hbw := cell_lt hs
  by_cases h1 : n < 1
  · have HL : Hid (litsAt p n = (0, 0)) := hide (litsAt_out p n (Or.inl h1))
    have e : n = 0 := by omega
    subst e
    clear h1
    go_enter Tryz.func60, Tryz.ntmps60
    go_wp2_with fail
    refine bodyPost_ret (v := SetV (0, 0)) (by simp [results, Tryz.results60, go_sem]) rfl ⟨by rw [unhide HL], ?_⟩
    exact (Below.refl _ _).alloc (Nat.le_refl _) _
  · have hd1 : decide ((n : Int) < 1) = false := by simp; omega
    by_cases h2 : p.length < n
    · have HL : Hid (litsAt p n = (0, 0)) := hide (litsAt_out p n (Or.inr h2))
      have hd2 : decide (p.length < n) = true := by simpa using h2
      clear h1 h2
      go_enter Tryz.func60, Tryz.ntmps60
      go_wp2_with fail
      refine bodyPost_ret (v := SetV (0, 0)) (by simp [results, Tryz.results60, go_sem]) rfl ⟨by rw [unhide HL], ?_⟩
      exact (Below.refl _ _).alloc (Nat.le_refl _) _
    · obtain ⟨m, rfl⟩ : ∃ m, n = m + 1 := ⟨n - 1, by omega⟩
      have hm : m < p.length := by omega
      have hd2 : decide (p.length < m + 1) = false := by simp; omega
      have hd3 : decide ((p.length : Int) < ((m : Int) + 1)) = false := by simp; omega
      have hd4 : decide ((m : Int) + 1 < 1) = false := by simp; omega
      have HL : Hid (litsAt p (m + 1) = p[m].lits) := hide (litsAt_in p m hm)
      obtain ⟨g, cap, hVe, hg, hg', _, hcell⟩ := own_pos hown (by omega)
      injection hVe with hVe _ hV2
      subst hVe hV2
      have hx0 : w.cell? ⟨g, m * 6 + 4, none⟩ = some (.int .i64 (p[m].lits.1 : Int)) := hcell _ _ (psCells_at p m 4 hm (by omega))
      have hx1 : w.cell? ⟨g, m * 6 + 5, none⟩ = some (.int .i64 (p[m].lits.2 : Int)) := hcell _ _ (psCells_at p m 5 hm (by omega))
      clear hcell h1 h2
      generalize p[m].lits = c at *
      obtain ⟨c1, c2⟩ := c
      dsimp only at *
      go_enter Tryz.func60, Tryz.ntmps60
      go_wp2_with fail
      refine bodyPost_ret (v := SetV (c1, c2)) (by simp [results, Tryz.results60, go_sem]) rfl ⟨by rw [unhide HL], ?_⟩
      exact (Below.refl _ _).alloc (Nat.le_refl _) _

abbrev StpV (s : Stp) : Value := .agg #[.int .i64 (s.rule : Int), .int .i64 (s.first : Int), .int .i64 (s.second : Int), .int .i64 (s.var : Int), .int .i64 (s.lits.1 : Int), .int .i64 (s.lits.2 : Int)]

set_option maxRecDepth 100000 in
set_option maxHeartbeats 800000 in
theorem resolvent_any (base b o : Nat) (p : List Stp) (vS : Value) (s : Stp) (w : World) (hs : w.cell? ⟨b, o + 1, none⟩ = some vS) (hown : w.ownsRow base 91 6 vS p.length (psCells p)) (hl : p.length ≤ 1048576) (hb : ∀ s ∈ p, s.lits.1 < 512 ∧ s.lits.2 < 512) :
    Calls Tryz.prog 95 #[.pointer (some ⟨b, o, none⟩), StpV s] w fun e w' => e = .returned (SetV (without2 (litsAt p s.first) (litsAt p s.second) s.var)) ∧ Below w.heap.size w w' := by
  have hbw := cell_lt hs
  have hl1 := litsAt_lt p hb s.first
  have hl2 := litsAt_lt p hb s.second
  have HW : Hid (without2 (litsAt p s.first) (litsAt p s.second) s.var = without ((litsAt p s.first).1 ||| (litsAt p s.second).1, (litsAt p s.first).2 ||| (litsAt p s.second).2) s.var) := hide rfl
  obtain ⟨sr, sf, ss, sv, sl⟩ := s
  obtain ⟨sl1, sl2⟩ := sl
  dsimp only at *
  go_enter Tryz.func95, Tryz.ntmps95
  go_wp2_with fail
  generalize hw0 : ((w.alloc (.cells #[.int .i64 (sr : Int), .int .i64 (sf : Int), .int .i64 (ss : Int), .int .i64 (sv : Int), .int .i64 (sl1 : Int), .int .i64 (sl2 : Int)] 91)).alloc (.cells #[.int .i64 0, .int .i64 0] 77)) = u1
  have hB : Below w.heap.size w u1 := by rw [← hw0]; exact ((Below.refl _ _).alloc (Nat.le_refl _) _).alloc (by simp) _
  have hst : u1.heap[w.heap.size]? = some (.cells #[.int .i64 (sr : Int), .int .i64 (sf : Int), .int .i64 (ss : Int), .int .i64 (sv : Int), .int .i64 (sl1 : Int), .int .i64 (sl2 : Int)] 91 (0, 0)) := by rw [← hw0, heap_alloc_old _ _ (by simp)]; exact alloc_new_at (by simp)
  have hrs : u1.heap[w.heap.size + 1]? = some (.cells #[.int .i64 0, .int .i64 0] 77 (0, 0)) := by rw [← hw0]; exact alloc_new_at (by simp)
  clear hw0
  have cst0 : u1.cell? ⟨w.heap.size, 0, none⟩ = some (.int .i64 (sr : Int)) := by rw [blk_cell hst]; rfl
  have cst1 : u1.cell? ⟨w.heap.size, 1, none⟩ = some (.int .i64 (sf : Int)) := by rw [blk_cell hst]; rfl
  have cst2 : u1.cell? ⟨w.heap.size, 2, none⟩ = some (.int .i64 (ss : Int)) := by rw [blk_cell hst]; rfl
  have cst3 : u1.cell? ⟨w.heap.size, 3, none⟩ = some (.int .i64 (sv : Int)) := by rw [blk_cell hst]; rfl
  have cst4 : u1.cell? ⟨w.heap.size, 4, none⟩ = some (.int .i64 (sl1 : Int)) := by rw [blk_cell hst]; rfl
  have cst5 : u1.cell? ⟨w.heap.size, 5, none⟩ = some (.int .i64 (sl2 : Int)) := by rw [blk_cell hst]; rfl
  have lst := blk_lt hst
  have crs0 : u1.cell? ⟨w.heap.size + 1, 0, none⟩ = some (.int .i64 0) := by rw [blk_cell hrs]; rfl
  have crs1 : u1.cell? ⟨w.heap.size + 1, 1, none⟩ = some (.int .i64 0) := by rw [blk_cell hrs]; rfl
  have lrs := blk_lt hrs
  have hc : u1.cell? ⟨b, o + 1, none⟩ = some vS := by rw [hB.cell (p := ⟨b, o + 1, none⟩) hbw]; exact hs
  have hbw2 : b < u1.heap.size := Nat.lt_of_lt_of_le hbw hB.size
  refine (plits_any base b o p vS sf _ hc (own_below hown hB) hl).mono ?_
  rintro e u2 ⟨rfl, b2⟩
  replace hB := hB.trans (b2.mono hB.size)
  replace hst := (b2.block _ (blk_lt hst)).trans hst
  replace cst0 : u2.cell? ⟨w.heap.size, 0, none⟩ = some (.int .i64 (sr : Int)) := by rw [blk_cell hst]; rfl
  replace cst1 : u2.cell? ⟨w.heap.size, 1, none⟩ = some (.int .i64 (sf : Int)) := by rw [blk_cell hst]; rfl
  replace cst2 : u2.cell? ⟨w.heap.size, 2, none⟩ = some (.int .i64 (ss : Int)) := by rw [blk_cell hst]; rfl
  replace cst3 : u2.cell? ⟨w.heap.size, 3, none⟩ = some (.int .i64 (sv : Int)) := by rw [blk_cell hst]; rfl
  replace cst4 : u2.cell? ⟨w.heap.size, 4, none⟩ = some (.int .i64 (sl1 : Int)) := by rw [blk_cell hst]; rfl
  replace cst5 : u2.cell? ⟨w.heap.size, 5, none⟩ = some (.int .i64 (sl2 : Int)) := by rw [blk_cell hst]; rfl
  replace lst := blk_lt hst
  replace hrs := (b2.block _ (blk_lt hrs)).trans hrs
  replace crs0 : u2.cell? ⟨w.heap.size + 1, 0, none⟩ = some (.int .i64 0) := by rw [blk_cell hrs]; rfl
  replace crs1 : u2.cell? ⟨w.heap.size + 1, 1, none⟩ = some (.int .i64 0) := by rw [blk_cell hrs]; rfl
  replace lrs := blk_lt hrs
  replace hc : u2.cell? ⟨b, o + 1, none⟩ = some vS := by rw [hB.cell (p := ⟨b, o + 1, none⟩) hbw]; exact hs
  replace hbw2 : b < u2.heap.size := Nat.lt_of_lt_of_le hbw hB.size
  generalize hea : litsAt p sf = a at *
  have HEA := hide hea
  clear hea
  obtain ⟨a1, a2⟩ := a
  dsimp only at *
  go_wp2_with fail
  generalize hw0 : u2.alloc (.cells #[.int .i64 (a1 : Int), .int .i64 (a2 : Int)] 77) = u3
  have b3 : Below u2.heap.size u2 u3 := by rw [← hw0]; exact (Below.refl _ _).alloc (Nat.le_refl _) _
  have hfi : u3.heap[u2.heap.size]? = some (.cells #[.int .i64 (a1 : Int), .int .i64 (a2 : Int)] 77 (0, 0)) := by rw [← hw0]; exact heap_alloc_new _ _
  clear hw0
  replace hB := hB.trans (b3.mono hB.size)
  replace hst := (b3.block _ (blk_lt hst)).trans hst
  replace cst0 : u3.cell? ⟨w.heap.size, 0, none⟩ = some (.int .i64 (sr : Int)) := by rw [blk_cell hst]; rfl
  replace cst1 : u3.cell? ⟨w.heap.size, 1, none⟩ = some (.int .i64 (sf : Int)) := by rw [blk_cell hst]; rfl
  replace cst2 : u3.cell? ⟨w.heap.size, 2, none⟩ = some (.int .i64 (ss : Int)) := by rw [blk_cell hst]; rfl
  replace cst3 : u3.cell? ⟨w.heap.size, 3, none⟩ = some (.int .i64 (sv : Int)) := by rw [blk_cell hst]; rfl
  replace cst4 : u3.cell? ⟨w.heap.size, 4, none⟩ = some (.int .i64 (sl1 : Int)) := by rw [blk_cell hst]; rfl
  replace cst5 : u3.cell? ⟨w.heap.size, 5, none⟩ = some (.int .i64 (sl2 : Int)) := by rw [blk_cell hst]; rfl
  replace lst := blk_lt hst
  replace hrs := (b3.block _ (blk_lt hrs)).trans hrs
  replace crs0 : u3.cell? ⟨w.heap.size + 1, 0, none⟩ = some (.int .i64 0) := by rw [blk_cell hrs]; rfl
  replace crs1 : u3.cell? ⟨w.heap.size + 1, 1, none⟩ = some (.int .i64 0) := by rw [blk_cell hrs]; rfl
  replace lrs := blk_lt hrs
  replace hc : u3.cell? ⟨b, o + 1, none⟩ = some vS := by rw [hB.cell (p := ⟨b, o + 1, none⟩) hbw]; exact hs
  replace hbw2 : b < u3.heap.size := Nat.lt_of_lt_of_le hbw hB.size
  have cfi0 : u3.cell? ⟨u2.heap.size, 0, none⟩ = some (.int .i64 (a1 : Int)) := by rw [blk_cell hfi]; rfl
  have cfi1 : u3.cell? ⟨u2.heap.size, 1, none⟩ = some (.int .i64 (a2 : Int)) := by rw [blk_cell hfi]; rfl
  have lfi := blk_lt hfi
  refine (plits_any base b o p vS ss _ hc (own_below hown hB) hl).mono ?_
  rintro e u4 ⟨rfl, b4⟩
  replace hB := hB.trans (b4.mono hB.size)
  replace hst := (b4.block _ (blk_lt hst)).trans hst
  replace cst0 : u4.cell? ⟨w.heap.size, 0, none⟩ = some (.int .i64 (sr : Int)) := by rw [blk_cell hst]; rfl
  replace cst1 : u4.cell? ⟨w.heap.size, 1, none⟩ = some (.int .i64 (sf : Int)) := by rw [blk_cell hst]; rfl
  replace cst2 : u4.cell? ⟨w.heap.size, 2, none⟩ = some (.int .i64 (ss : Int)) := by rw [blk_cell hst]; rfl
  replace cst3 : u4.cell? ⟨w.heap.size, 3, none⟩ = some (.int .i64 (sv : Int)) := by rw [blk_cell hst]; rfl
  replace cst4 : u4.cell? ⟨w.heap.size, 4, none⟩ = some (.int .i64 (sl1 : Int)) := by rw [blk_cell hst]; rfl
  replace cst5 : u4.cell? ⟨w.heap.size, 5, none⟩ = some (.int .i64 (sl2 : Int)) := by rw [blk_cell hst]; rfl
  replace lst := blk_lt hst
  replace hrs := (b4.block _ (blk_lt hrs)).trans hrs
  replace crs0 : u4.cell? ⟨w.heap.size + 1, 0, none⟩ = some (.int .i64 0) := by rw [blk_cell hrs]; rfl
  replace crs1 : u4.cell? ⟨w.heap.size + 1, 1, none⟩ = some (.int .i64 0) := by rw [blk_cell hrs]; rfl
  replace lrs := blk_lt hrs
  replace hfi := (b4.block _ (blk_lt hfi)).trans hfi
  replace cfi0 : u4.cell? ⟨u2.heap.size, 0, none⟩ = some (.int .i64 (a1 : Int)) := by rw [blk_cell hfi]; rfl
  replace cfi1 : u4.cell? ⟨u2.heap.size, 1, none⟩ = some (.int .i64 (a2 : Int)) := by rw [blk_cell hfi]; rfl
  replace lfi := blk_lt hfi
  replace hc : u4.cell? ⟨b, o + 1, none⟩ = some vS := by rw [hB.cell (p := ⟨b, o + 1, none⟩) hbw]; exact hs
  replace hbw2 : b < u4.heap.size := Nat.lt_of_lt_of_le hbw hB.size
  generalize hea : litsAt p ss = a at *
  have HEB := hide hea
  clear hea
  obtain ⟨d1, d2⟩ := a
  dsimp only at *
  go_wp2_with fail
  generalize hw0 : u4.alloc (.cells #[.int .i64 (d1 : Int), .int .i64 (d2 : Int)] 77) = u5
  have b5 : Below u4.heap.size u4 u5 := by rw [← hw0]; exact (Below.refl _ _).alloc (Nat.le_refl _) _
  have hse : u5.heap[u4.heap.size]? = some (.cells #[.int .i64 (d1 : Int), .int .i64 (d2 : Int)] 77 (0, 0)) := by rw [← hw0]; exact heap_alloc_new _ _
  clear hw0
  replace hB := hB.trans (b5.mono hB.size)
  replace hst := (b5.block _ (blk_lt hst)).trans hst
  replace cst0 : u5.cell? ⟨w.heap.size, 0, none⟩ = some (.int .i64 (sr : Int)) := by rw [blk_cell hst]; rfl
  replace cst1 : u5.cell? ⟨w.heap.size, 1, none⟩ = some (.int .i64 (sf : Int)) := by rw [blk_cell hst]; rfl
  replace cst2 : u5.cell? ⟨w.heap.size, 2, none⟩ = some (.int .i64 (ss : Int)) := by rw [blk_cell hst]; rfl
  replace cst3 : u5.cell? ⟨w.heap.size, 3, none⟩ = some (.int .i64 (sv : Int)) := by rw [blk_cell hst]; rfl
  replace cst4 : u5.cell? ⟨w.heap.size, 4, none⟩ = some (.int .i64 (sl1 : Int)) := by rw [blk_cell hst]; rfl
  replace cst5 : u5.cell? ⟨w.heap.size, 5, none⟩ = some (.int .i64 (sl2 : Int)) := by rw [blk_cell hst]; rfl
  replace lst := blk_lt hst
  replace hrs := (b5.block _ (blk_lt hrs)).trans hrs
  replace crs0 : u5.cell? ⟨w.heap.size + 1, 0, none⟩ = some (.int .i64 0) := by rw [blk_cell hrs]; rfl
  replace crs1 : u5.cell? ⟨w.heap.size + 1, 1, none⟩ = some (.int .i64 0) := by rw [blk_cell hrs]; rfl
  replace lrs := blk_lt hrs
  replace hfi := (b5.block _ (blk_lt hfi)).trans hfi
  replace cfi0 : u5.cell? ⟨u2.heap.size, 0, none⟩ = some (.int .i64 (a1 : Int)) := by rw [blk_cell hfi]; rfl
  replace cfi1 : u5.cell? ⟨u2.heap.size, 1, none⟩ = some (.int .i64 (a2 : Int)) := by rw [blk_cell hfi]; rfl
  replace lfi := blk_lt hfi
  replace hc : u5.cell? ⟨b, o + 1, none⟩ = some vS := by rw [hB.cell (p := ⟨b, o + 1, none⟩) hbw]; exact hs
  replace hbw2 : b < u5.heap.size := Nat.lt_of_lt_of_le hbw hB.size
  have cse0 : u5.cell? ⟨u4.heap.size, 0, none⟩ = some (.int .i64 (d1 : Int)) := by rw [blk_cell hse]; rfl
  have cse1 : u5.cell? ⟨u4.heap.size, 1, none⟩ = some (.int .i64 (d2 : Int)) := by rw [blk_cell hse]; rfl
  have lse := blk_lt hse
  refine (union_any a1 a2 d1 d2 _ hl1.1 hl1.2 hl2.1 hl2.2).mono ?_
  rintro e u6 ⟨rfl, b6⟩
  replace hB := hB.trans (b6.mono hB.size)
  replace hst := (b6.block _ (blk_lt hst)).trans hst
  replace cst0 : u6.cell? ⟨w.heap.size, 0, none⟩ = some (.int .i64 (sr : Int)) := by rw [blk_cell hst]; rfl
  replace cst1 : u6.cell? ⟨w.heap.size, 1, none⟩ = some (.int .i64 (sf : Int)) := by rw [blk_cell hst]; rfl
  replace cst2 : u6.cell? ⟨w.heap.size, 2, none⟩ = some (.int .i64 (ss : Int)) := by rw [blk_cell hst]; rfl
  replace cst3 : u6.cell? ⟨w.heap.size, 3, none⟩ = some (.int .i64 (sv : Int)) := by rw [blk_cell hst]; rfl
  replace cst4 : u6.cell? ⟨w.heap.size, 4, none⟩ = some (.int .i64 (sl1 : Int)) := by rw [blk_cell hst]; rfl
  replace cst5 : u6.cell? ⟨w.heap.size, 5, none⟩ = some (.int .i64 (sl2 : Int)) := by rw [blk_cell hst]; rfl
  replace lst := blk_lt hst
  replace hrs := (b6.block _ (blk_lt hrs)).trans hrs
  replace crs0 : u6.cell? ⟨w.heap.size + 1, 0, none⟩ = some (.int .i64 0) := by rw [blk_cell hrs]; rfl
  replace crs1 : u6.cell? ⟨w.heap.size + 1, 1, none⟩ = some (.int .i64 0) := by rw [blk_cell hrs]; rfl
  replace lrs := blk_lt hrs
  replace hfi := (b6.block _ (blk_lt hfi)).trans hfi
  replace cfi0 : u6.cell? ⟨u2.heap.size, 0, none⟩ = some (.int .i64 (a1 : Int)) := by rw [blk_cell hfi]; rfl
  replace cfi1 : u6.cell? ⟨u2.heap.size, 1, none⟩ = some (.int .i64 (a2 : Int)) := by rw [blk_cell hfi]; rfl
  replace lfi := blk_lt hfi
  replace hse := (b6.block _ (blk_lt hse)).trans hse
  replace cse0 : u6.cell? ⟨u4.heap.size, 0, none⟩ = some (.int .i64 (d1 : Int)) := by rw [blk_cell hse]; rfl
  replace cse1 : u6.cell? ⟨u4.heap.size, 1, none⟩ = some (.int .i64 (d2 : Int)) := by rw [blk_cell hse]; rfl
  replace lse := blk_lt hse
  replace hc : u6.cell? ⟨b, o + 1, none⟩ = some vS := by rw [hB.cell (p := ⟨b, o + 1, none⟩) hbw]; exact hs
  replace hbw2 : b < u6.heap.size := Nat.lt_of_lt_of_le hbw hB.size
  have hu1 := or_lt a1 d1 hl1.1 hl2.1
  have hu2 := or_lt a2 d2 hl1.2 hl2.2
  generalize a1 ||| d1 = pu at *
  generalize a2 ||| d2 = nu at *
  go_wp2_with fail
  generalize hw0 : u6.alloc (.cells #[.int .i64 (pu : Int), .int .i64 (nu : Int)] 77) = u7
  have b7 : Below u6.heap.size u6 u7 := by rw [← hw0]; exact (Below.refl _ _).alloc (Nat.le_refl _) _
  have hbo : u7.heap[u6.heap.size]? = some (.cells #[.int .i64 (pu : Int), .int .i64 (nu : Int)] 77 (0, 0)) := by rw [← hw0]; exact heap_alloc_new _ _
  clear hw0
  replace hB := hB.trans (b7.mono hB.size)
  replace hst := (b7.block _ (blk_lt hst)).trans hst
  replace cst0 : u7.cell? ⟨w.heap.size, 0, none⟩ = some (.int .i64 (sr : Int)) := by rw [blk_cell hst]; rfl
  replace cst1 : u7.cell? ⟨w.heap.size, 1, none⟩ = some (.int .i64 (sf : Int)) := by rw [blk_cell hst]; rfl
  replace cst2 : u7.cell? ⟨w.heap.size, 2, none⟩ = some (.int .i64 (ss : Int)) := by rw [blk_cell hst]; rfl
  replace cst3 : u7.cell? ⟨w.heap.size, 3, none⟩ = some (.int .i64 (sv : Int)) := by rw [blk_cell hst]; rfl
  replace cst4 : u7.cell? ⟨w.heap.size, 4, none⟩ = some (.int .i64 (sl1 : Int)) := by rw [blk_cell hst]; rfl
  replace cst5 : u7.cell? ⟨w.heap.size, 5, none⟩ = some (.int .i64 (sl2 : Int)) := by rw [blk_cell hst]; rfl
  replace lst := blk_lt hst
  replace hrs := (b7.block _ (blk_lt hrs)).trans hrs
  replace crs0 : u7.cell? ⟨w.heap.size + 1, 0, none⟩ = some (.int .i64 0) := by rw [blk_cell hrs]; rfl
  replace crs1 : u7.cell? ⟨w.heap.size + 1, 1, none⟩ = some (.int .i64 0) := by rw [blk_cell hrs]; rfl
  replace lrs := blk_lt hrs
  replace hfi := (b7.block _ (blk_lt hfi)).trans hfi
  replace cfi0 : u7.cell? ⟨u2.heap.size, 0, none⟩ = some (.int .i64 (a1 : Int)) := by rw [blk_cell hfi]; rfl
  replace cfi1 : u7.cell? ⟨u2.heap.size, 1, none⟩ = some (.int .i64 (a2 : Int)) := by rw [blk_cell hfi]; rfl
  replace lfi := blk_lt hfi
  replace hse := (b7.block _ (blk_lt hse)).trans hse
  replace cse0 : u7.cell? ⟨u4.heap.size, 0, none⟩ = some (.int .i64 (d1 : Int)) := by rw [blk_cell hse]; rfl
  replace cse1 : u7.cell? ⟨u4.heap.size, 1, none⟩ = some (.int .i64 (d2 : Int)) := by rw [blk_cell hse]; rfl
  replace lse := blk_lt hse
  replace hc : u7.cell? ⟨b, o + 1, none⟩ = some vS := by rw [hB.cell (p := ⟨b, o + 1, none⟩) hbw]; exact hs
  replace hbw2 : b < u7.heap.size := Nat.lt_of_lt_of_le hbw hB.size
  have cbo0 : u7.cell? ⟨u6.heap.size, 0, none⟩ = some (.int .i64 (pu : Int)) := by rw [blk_cell hbo]; rfl
  have cbo1 : u7.cell? ⟨u6.heap.size, 1, none⟩ = some (.int .i64 (nu : Int)) := by rw [blk_cell hbo]; rfl
  have lbo := blk_lt hbo
  refine (withoutVar_any pu nu sv _ hu1 hu2).mono ?_
  rintro e u8 ⟨rfl, b8⟩
  replace hB := hB.trans (b8.mono hB.size)
  replace hst := (b8.block _ (blk_lt hst)).trans hst
  replace cst0 : u8.cell? ⟨w.heap.size, 0, none⟩ = some (.int .i64 (sr : Int)) := by rw [blk_cell hst]; rfl
  replace cst1 : u8.cell? ⟨w.heap.size, 1, none⟩ = some (.int .i64 (sf : Int)) := by rw [blk_cell hst]; rfl
  replace cst2 : u8.cell? ⟨w.heap.size, 2, none⟩ = some (.int .i64 (ss : Int)) := by rw [blk_cell hst]; rfl
  replace cst3 : u8.cell? ⟨w.heap.size, 3, none⟩ = some (.int .i64 (sv : Int)) := by rw [blk_cell hst]; rfl
  replace cst4 : u8.cell? ⟨w.heap.size, 4, none⟩ = some (.int .i64 (sl1 : Int)) := by rw [blk_cell hst]; rfl
  replace cst5 : u8.cell? ⟨w.heap.size, 5, none⟩ = some (.int .i64 (sl2 : Int)) := by rw [blk_cell hst]; rfl
  replace lst := blk_lt hst
  replace hrs := (b8.block _ (blk_lt hrs)).trans hrs
  replace crs0 : u8.cell? ⟨w.heap.size + 1, 0, none⟩ = some (.int .i64 0) := by rw [blk_cell hrs]; rfl
  replace crs1 : u8.cell? ⟨w.heap.size + 1, 1, none⟩ = some (.int .i64 0) := by rw [blk_cell hrs]; rfl
  replace lrs := blk_lt hrs
  replace hfi := (b8.block _ (blk_lt hfi)).trans hfi
  replace cfi0 : u8.cell? ⟨u2.heap.size, 0, none⟩ = some (.int .i64 (a1 : Int)) := by rw [blk_cell hfi]; rfl
  replace cfi1 : u8.cell? ⟨u2.heap.size, 1, none⟩ = some (.int .i64 (a2 : Int)) := by rw [blk_cell hfi]; rfl
  replace lfi := blk_lt hfi
  replace hse := (b8.block _ (blk_lt hse)).trans hse
  replace cse0 : u8.cell? ⟨u4.heap.size, 0, none⟩ = some (.int .i64 (d1 : Int)) := by rw [blk_cell hse]; rfl
  replace cse1 : u8.cell? ⟨u4.heap.size, 1, none⟩ = some (.int .i64 (d2 : Int)) := by rw [blk_cell hse]; rfl
  replace lse := blk_lt hse
  replace hbo := (b8.block _ (blk_lt hbo)).trans hbo
  replace cbo0 : u8.cell? ⟨u6.heap.size, 0, none⟩ = some (.int .i64 (pu : Int)) := by rw [blk_cell hbo]; rfl
  replace cbo1 : u8.cell? ⟨u6.heap.size, 1, none⟩ = some (.int .i64 (nu : Int)) := by rw [blk_cell hbo]; rfl
  replace lbo := blk_lt hbo
  replace hc : u8.cell? ⟨b, o + 1, none⟩ = some vS := by rw [hB.cell (p := ⟨b, o + 1, none⟩) hbw]; exact hs
  replace hbw2 : b < u8.heap.size := Nat.lt_of_lt_of_le hbw hB.size
  have hlt := without_lt (pu, nu) sv ⟨hu1, hu2⟩
  generalize without (pu, nu) sv = cw at *
  obtain ⟨p', n'⟩ := cw
  dsimp only at *
  have z0 := blk_free hrs 0
  have z1 := blk_free hrs 1
  have hR := blk_set (blk_set hrs 0 (.int .i64 (p' : Int))) 1 (.int .i64 (n' : Int))
  have j0 := blk_cell hR 0
  have j1 := blk_cell hR 1
  go_wp2_with fail
  refine bodyPost_ret (v := SetV (p', n')) (by simp [results, Tryz.results95, go_sem, j0, j1]) rfl ⟨by rw [unhide HEA, unhide HEB, unhide HW], ?_⟩
  exact (hB.setCell (p := ⟨w.heap.size + 1, 0, none⟩) (Nat.le_succ _) _).setCell (p := ⟨w.heap.size + 1, 1, none⟩) (Nat.le_succ _) _
end Go.Proofs.YtgipjjhkhfihpabGreatDoor

namespace Go.Proofs.YtgipjjhkhfihpabGreatDoor
open Go.RowKit

/-! ### reduced -/
set_option maxRecDepth 100000 in
set_option maxHeartbeats 1600000 in
theorem preduced_any (base b o : Nat) (q : QS) (kind : Nat) (vV vC : Value) (c : Nat × Nat) (w : World) (hk : w.cell? ⟨b, o, none⟩ = some (.int .i64 kind)) (hoV : w.ownsRow base 109 2 vV q.vars.length (varCells q.vars)) (hQ : QB q) (hc : c.1 < 512 ∧ c.2 < 512) (hCf : ∃ aC nC cC, vC = .slice aC nC cC) :
    Calls Tryz.prog 105 #[.pointer (some ⟨b, o, none⟩), .agg #[vV, vC], SetV c] w fun e w' => e = .returned (SetV (redQ kind q.vars.reverse c)) ∧ Below w.heap.size w w' := by
  obtain ⟨aV, cV, rfl⟩ := own_form hoV
  obtain ⟨aC, nC, cC, rfl⟩ := hCf
  have hbw := cell_lt hk
  have hvl := hQ.vl
  go_enter Tryz.func105, Tryz.ntmps105
  obtain ⟨p0, n0⟩ := c
  go_wp2_with fail
  go_loopg [7] (q.vars.length + 1) (fun m i wx => ∃ (k p n : Nat), i = .int .i64 ((k : Int) - 1) ∧ k + 1 ≤ m ∧ m ≤ k + 1 ∧ k ≤ q.vars.length ∧ p < 512 ∧ n < 512 ∧ redQ kind q.vars.reverse (p0, n0) = redQ kind (q.vars.take k).reverse (p, n) ∧ Below w.heap.size w wx ∧
     wx.heap[w.heap.size]? = some (.cells #[.slice aV q.vars.length cV, .slice aC nC cC] 44 (0, 0)) ∧ wx.heap[w.heap.size + 1]? = some (.cells #[.int .i64 p, .int .i64 n] 77 (0, 0)) ∧ wx.heap[w.heap.size + 2]? = some (.cells #[.int .i64 0, .int .i64 0] 77 (0, 0)))
  case atStart => exact ⟨q.vars.length, p0, n0, by go_num, by omega, by omega, by omega, hc.1, hc.2, by rw [List.take_length], (((Below.refl _ _).alloc (Nat.le_refl _) _).alloc (by simp) _).alloc (by simp; omega) _, by rw [heap_alloc_old _ _ (by simp; omega), heap_alloc_old _ _ (by simp)]; exact heap_alloc_new _ _, by rw [heap_alloc_old _ _ (by simp)]; exact alloc_new_at (by simp), alloc_new_at (by simp)⟩
  case round =>
    obtain ⟨k, p, n, rfl, hkm, hkm2, hkl, hp, hn, hred, hb, hfo, hset, hres⟩ := hrel
    have HR := hide hred; clear hred
    have hv0 : wr.cell? ⟨w.heap.size, 0, none⟩ = some (.slice aV q.vars.length cV) := by rw [blk_cell hfo]; rfl
    have hs0 : wr.cell? ⟨w.heap.size + 1, 0, none⟩ = some (.int .i64 p) := by rw [blk_cell hset]; rfl
    have hs1 : wr.cell? ⟨w.heap.size + 1, 1, none⟩ = some (.int .i64 n) := by rw [blk_cell hset]; rfl
    have hr0 : wr.cell? ⟨w.heap.size + 2, 0, none⟩ = some (.int .i64 0) := by rw [blk_cell hres]; rfl
    have hr1 : wr.cell? ⟨w.heap.size + 2, 1, none⟩ = some (.int .i64 0) := by rw [blk_cell hres]; rfl
    have hz0 := blk_free hset 0
    have hz1 := blk_free hset 1
    have hy0 := blk_free hres 0
    have hy1 := blk_free hres 1
    have hbs := blk_lt hres
    have hbs0 : w.heap.size < wr.heap.size := by omega
    have hbs1 : w.heap.size + 1 < wr.heap.size := by omega
    have hbw1 : b < wr.heap.size := by omega
    cases k with
    | zero =>
      have HF : Hid (redQ kind q.vars.reverse (p0, n0) = (p, n)) := hide (by rw [unhide HR]; rfl)
      have hR := blk_set (blk_set hres 0 (.int .i64 p)) 1 (.int .i64 n)
      have j0 := blk_cell hR 0
      have j1 := blk_cell hR 1
      go_wp2_with fail
      refine bodyPost_ret (v := SetV (p, n)) (by simp [results, Tryz.results105, go_sem, j0, j1]) rfl ⟨by rw [unhide HF], ?_⟩
      exact (hb.setCell (p := ⟨w.heap.size + 2, 0, none⟩) (by simp) _).setCell (p := ⟨w.heap.size + 2, 1, none⟩) (by simp) _
    | succ k =>
      have hlt : k < q.vars.length := by omega
      obtain ⟨g, cap, hVe, hg, hg', _, hcell⟩ := own_pos hoV (by omega)
      injection hVe with hVe _ hV2
      subst hVe hV2
      obtain ⟨ha, hb'⟩ := varCells_at q.vars k hlt
      have hx0 : wr.cell? ⟨g, k * 2, none⟩ = some (.int .i64 (q.vars[k].1 : Int)) := by rw [hb.cell (p := ⟨g, k * 2, none⟩) hg']; exact hcell _ _ ha
      have hx1 : wr.cell? ⟨g, k * 2 + 1, none⟩ = some (.bool q.vars[k].2) := by rw [hb.cell (p := ⟨g, k * 2 + 1, none⟩) hg']; exact hcell _ _ hb'
      have hgw : g < wr.heap.size := by omega
      have HST := hide (redQ_step kind q.vars k hlt (p, n))
      clear hcell ha hb'
      generalize q.vars[k] = x at *
      obtain ⟨vn, vu⟩ := x
      dsimp only at *
      go_wp2_with fail
      refine (hasVar_any p n vn _ hp hn).mono ?_
      rintro e w2 ⟨rfl, hb2⟩
      have hw2 : Below wr.heap.size wr w2 := ((Below.refl _ wr).alloc (Nat.le_refl _) _).trans (hb2.mono (by simp))
      have hsz2 := hw2.size
      have hv2 : w2.heap[wr.heap.size]? = some (.cells #[.int .i64 vn, .bool vu] 109 (0, 0)) := (hb2.block _ (by simp)).trans (heap_alloc_new _ _)
      have hfo2 := (hw2.block _ hbs0).trans hfo
      have hset2 := (hw2.block _ hbs1).trans hset
      have hres2 := (hw2.block _ hbs).trans hres
      have hbw2 : Below w.heap.size w w2 := hb.trans (hw2.mono (by omega))
      rw [show ((p ||| n) &&& bitOf vn != 0) = hasVarB (p, n) vn from rfl]
      cases hh : hasVarB (p, n) vn with
      | false =>
        have HF : Hid (redQ kind q.vars.reverse (p0, n0) = redQ kind (q.vars.take k).reverse (p, n)) := hide (by rw [unhide HR, unhide HST, hh]; rfl)
        go_wp2_with fail
        go_roundg (gk - 1)
        case measure => omega
        case rel => exact ⟨k, p, n, by go_num, by omega, by omega, by omega, hp, hn, unhide HF, hbw2, hfo2, hset2, hres2⟩
      | true =>
        have y2 : w2.cell? ⟨b, o, none⟩ = some (.int .i64 kind) := by rw [hbw2.cell (p := ⟨b, o, none⟩) hbw]; exact hk
        have hc0 : w2.cell? ⟨wr.heap.size, 0, none⟩ = some (.int .i64 vn) := by rw [blk_cell hv2]; rfl
        have hc1 : w2.cell? ⟨wr.heap.size, 1, none⟩ = some (.bool vu) := by rw [blk_cell hv2]; rfl
        go_wp2_with fail
        refine (isPivot_any b o kind vn vu w2 y2).mono ?_
        rintro e w3 ⟨rfl, hb3⟩
        have hv3 := (hb3.block _ (blk_lt hv2)).trans hv2
        have hfo3 := (hb3.block _ (blk_lt hfo2)).trans hfo2
        have hset3 := (hb3.block _ (blk_lt hset2)).trans hset2
        have hres3 := (hb3.block _ (blk_lt hres2)).trans hres2
        have hbw3 : Below w.heap.size w w3 := hbw2.trans (hb3.mono hbw2.size)
        have e0 : w3.cell? ⟨w.heap.size + 1, 0, none⟩ = some (.int .i64 p) := by rw [blk_cell hset3]; rfl
        have e1 : w3.cell? ⟨w.heap.size + 1, 1, none⟩ = some (.int .i64 n) := by rw [blk_cell hset3]; rfl
        have f0 : w3.cell? ⟨w.heap.size + 2, 0, none⟩ = some (.int .i64 0) := by rw [blk_cell hres3]; rfl
        have f1 : w3.cell? ⟨w.heap.size + 2, 1, none⟩ = some (.int .i64 0) := by rw [blk_cell hres3]; rfl
        have g0 : w3.cell? ⟨wr.heap.size, 0, none⟩ = some (.int .i64 vn) := by rw [blk_cell hv3]; rfl
        have z0 := blk_free hset3 0
        have z1 := blk_free hset3 1
        have y0 := blk_free hres3 0
        have y1 := blk_free hres3 1
        cases hpv : pivotB kind vu with
        | true =>
          have HF : Hid (redQ kind q.vars.reverse (p0, n0) = (p, n)) := hide (by rw [unhide HR, unhide HST, hh, hpv]; rfl)
          have hR := blk_set (blk_set hres3 0 (.int .i64 p)) 1 (.int .i64 n)
          have j0 := blk_cell hR 0
          have j1 := blk_cell hR 1
          go_wp2_with fail
          refine bodyPost_ret (v := SetV (p, n)) (by simp [results, Tryz.results105, go_sem, j0, j1]) rfl ⟨by rw [unhide HF], ?_⟩
          exact (hbw3.setCell (p := ⟨w.heap.size + 2, 0, none⟩) (by simp) _).setCell (p := ⟨w.heap.size + 2, 1, none⟩) (by simp) _
        | false =>
          have HF : Hid (redQ kind q.vars.reverse (p0, n0) = redQ kind (q.vars.take k).reverse (without (p, n) vn)) := hide (by rw [unhide HR, unhide HST, hh, hpv]; rfl)
          have hwl := without_lt (p, n) vn ⟨hp, hn⟩
          go_wp2_with fail
          refine (withoutVar_any p n vn w3 hp hn).mono ?_
          rintro e w4 ⟨rfl, hb4⟩
          have hfo4 := (hb4.block _ (blk_lt hfo3)).trans hfo3
          have hset4 := (hb4.block _ (blk_lt hset3)).trans hset3
          have hres4 := (hb4.block _ (blk_lt hres3)).trans hres3
          have hbw4 : Below w.heap.size w w4 := hbw3.trans (hb4.mono hbw3.size)
          have i0 : w4.cell? ⟨w.heap.size + 1, 0, none⟩ = some (.int .i64 p) := by rw [blk_cell hset4]; rfl
          have i1 : w4.cell? ⟨w.heap.size + 1, 1, none⟩ = some (.int .i64 n) := by rw [blk_cell hset4]; rfl
          have u0 := blk_free hset4 0
          have u1 := blk_free hset4 1
          generalize without (p, n) vn = cw at *
          obtain ⟨p', n'⟩ := cw
          go_wp2_with fail
          go_roundg (gk - 1)
          case measure => omega
          case rel =>
            refine ⟨k, p', n', by go_num, by omega, by omega, by omega, hwl.1, hwl.2, unhide HF, (hbw4.setCell (p := ⟨w.heap.size + 1, 0, none⟩) (by simp) _).setCell (p := ⟨w.heap.size + 1, 1, none⟩) (by simp) _, ?_, blk_set (blk_set hset4 0 _) 1 _, ?_⟩
            · rw [Below.heap_setCell _ _ _ _ (by simp), Below.heap_setCell _ _ _ _ (by simp)]; exact hfo4
            · rw [Below.heap_setCell _ _ _ _ (by simp), Below.heap_setCell _ _ _ _ (by simp)]; exact hres4
end Go.Proofs.YtgipjjhkhfihpabGreatDoor

namespace Go.Proofs.YtgipjjhkhfihpabGreatDoor
open Go.RowKit

theorem own_set_ne {w : World} {base : Nat} {e : TypeId} {size : Nat} {v : Value} {n : Nat} {xs : List Value} (h : w.ownsRow base e size v n xs) {p : Addr} (hp : v.ownBlock ≠ some p.block) (u : Value) : (w.setCell p u).ownsRow base e size v n xs := by
  obtain ⟨h1, h2⟩ := h
  refine ⟨h1, ?_⟩
  rcases h2 with h2 | ⟨g, cap, cur, rfl, hg, hh, h3⟩
  · exact Or.inl h2
  · refine Or.inr ⟨g, cap, cur, rfl, hg, ?_, h3⟩
    rw [Below.heap_setCell _ _ _ _ (fun e => hp (by subst e; rfl))]; exact hh
/-- A row and a block of another type are apart. -/
theorem own_type_ne {w : World} {base : Nat} {e t : TypeId} {size : Nat} {v : Value} {n : Nat} {xs : List Value} {b : Nat} {c : Array Value} {fr : Nat × Nat} (h : w.ownsRow base e size v n xs) (hb : w.heap[b]? = some (.cells c t fr)) (hne : e ≠ t) : v.ownBlock ≠ some b := by
  rcases h.2 with ⟨rfl, _⟩ | ⟨g, cap, cur, rfl, hg, hh, h3⟩
  · intro h; cases h
  · intro h
    injection h with h
    subst h
    rw [hh] at hb
    injection hb with hb
    injection hb with _ hb _
    exact hne hb
/-- A row stays where all but other blocks do. -/
theorem own_keep {T : Nat → Prop} {w w' : World} {base : Nat} {e : TypeId} {size : Nat} {v : Value} {n : Nat} {xs : List Value} (h : w.ownsRow base e size v n xs) (ho : Only T w w') (hT : ∀ k, v.ownBlock = some k → ¬ T k) : w'.ownsRow base e size v n xs := by
  obtain ⟨h1, h2⟩ := h
  refine ⟨h1, ?_⟩
  rcases h2 with h2 | ⟨g, cap, cur, rfl, hg, hh, h3⟩
  · exact Or.inl h2
  · exact Or.inr ⟨g, cap, cur, rfl, hg, (ho.block g (blk_lt hh) (hT g rfl)).trans hh, h3⟩
theorem infoStep : (Tryz.prog.info? 91).map (fun i => (i.zero, i.size, i.bytes)) = some (some (.agg #[.int .i64 0, .int .i64 0, .int .i64 0, .int .i64 0, .int .i64 0, .int .i64 0]), 6, 48) := by kernel_rfl
/-- Where a row went: it is where it was, or in a new block. -/
def Moved (w : World) (v v' : Value) : Prop := v'.ownBlock = v.ownBlock ∨ ∃ k, v'.ownBlock = some k ∧ w.heap.size ≤ k
def AddPost (base b o : Nat) (p : List Stp) (vS : Value) (s : Stp) (cells : Array Value) (t : TypeId) (w : World) (e : Ending) (w' : World) : Prop :=
  ∃ v', e = .returned (.int .i64 ((p.length : Int) + 1)) ∧ w'.ownsRow base 91 6 v' (p.length + 1) (psCells (p ++ [s])) ∧ w'.heap[b]? = some (.cells (cells.setIfInBounds (o + 1) v') t (0, 0)) ∧ Only (fun k => k = b ∨ vS.ownBlock = some k) w w' ∧ Moved w vS v'

set_option maxRecDepth 100000 in
set_option maxHeartbeats 1600000 in
theorem add_any (base b o : Nat) (p : List Stp) (vS : Value) (s : Stp) (cells : Array Value) (t : TypeId) (w : World) (hfb : w.heap[b]? = some (.cells cells t (0, 0))) (hcs : cells[o + 1]? = some vS) (ht : 91 ≠ t) (hown : w.ownsRow base 91 6 vS p.length (psCells p)) (hl : p.length ≤ 1048576) (hbase : base ≤ w.heap.size) :
    Calls Tryz.prog 48 #[.pointer (some ⟨b, o, none⟩), StpV s] w fun e w' => AddPost base b o p vS s cells t w e w' := by
  obtain ⟨aS, cS, rfl⟩ := own_form hown
  have hbw := blk_lt hfb
  have hne := own_type_ne hown hfb ht
  have hs : w.cell? ⟨b, o + 1, none⟩ = some (.slice aS p.length cS) := by rw [blk_cell hfb]; exact hcs
  obtain ⟨sr, sf, ss, sv, sl⟩ := s
  obtain ⟨sl1, sl2⟩ := sl
  obtain ⟨i1, hi1, hz10, hz11, hz12⟩ := info_parts infoStep
  go_enter Tryz.func48, Tryz.ntmps48
  go_wp2_with fail
  generalize hw0 : w.alloc (.cells #[.int .i64 (sr : Int), .int .i64 (sf : Int), .int .i64 (ss : Int), .int .i64 (sv : Int), .int .i64 (sl1 : Int), .int .i64 (sl2 : Int)] 91) = wz
  have hB : Below w.heap.size w wz := by rw [← hw0]; exact (Below.refl _ _).alloc (Nat.le_refl _) _
  have hst : wz.heap[w.heap.size]? = some (.cells #[.int .i64 (sr : Int), .int .i64 (sf : Int), .int .i64 (ss : Int), .int .i64 (sv : Int), .int .i64 (sl1 : Int), .int .i64 (sl2 : Int)] 91 (0, 0)) := by rw [← hw0]; exact heap_alloc_new _ _
  clear hw0
  have lst := blk_lt hst
  have c0 : wz.cell? ⟨w.heap.size, 0, none⟩ = some (.int .i64 (sr : Int)) := by rw [blk_cell hst]; rfl
  have c1 : wz.cell? ⟨w.heap.size, 1, none⟩ = some (.int .i64 (sf : Int)) := by rw [blk_cell hst]; rfl
  have c2 : wz.cell? ⟨w.heap.size, 2, none⟩ = some (.int .i64 (ss : Int)) := by rw [blk_cell hst]; rfl
  have c3 : wz.cell? ⟨w.heap.size, 3, none⟩ = some (.int .i64 (sv : Int)) := by rw [blk_cell hst]; rfl
  have c4 : wz.cell? ⟨w.heap.size, 4, none⟩ = some (.int .i64 (sl1 : Int)) := by rw [blk_cell hst]; rfl
  have c5 : wz.cell? ⟨w.heap.size, 5, none⟩ = some (.int .i64 (sl2 : Int)) := by rw [blk_cell hst]; rfl
  have hfz := (hB.block _ hbw).trans hfb
  have hsz : wz.cell? ⟨b, o + 1, none⟩ = some (.slice aS p.length cS) := by rw [blk_cell hfz]; exact hcs
  have hfr := blk_free hfz (o + 1)
  have hbz := blk_lt hfz
  have hownz := own_below hown hB
  have hbz0 : base ≤ wz.heap.size := Nat.le_trans hbase hB.size
  have HPS := hide (psCells_snoc p ⟨sr, sf, ss, sv, (sl1, sl2)⟩)
  have HNE := hide hne
  clear hne
  go_region_law (refine step_append_at rfl (.tmp 9) (.tmp 11) 49 rfl base 91 i1 (.agg #[.int .i64 0, .int .i64 0, .int .i64 0, .int .i64 0, .int .i64 0, .int .i64 0]) 6 48 Tryz.underlying49 hi1 hz10 hz11 hz12 rfl (by decide) (.slice aS p.length cS) p.length (psCells p) (hownz.alloc _).drew rfl ⟨wz.heap.size, 0, none⟩ 1 1 [.int .i64 (sr : Int), .int .i64 (sf : Int), .int .i64 (ss : Int), .int .i64 (sv : Int), .int .i64 (sl1 : Int), .int .i64 (sl2 : Int)] rfl rfl (new_cells wz [.int .i64 (sr : Int), .int .i64 (sf : Int), .int .i64 (ss : Int), .int .i64 (sv : Int), .int .i64 (sl1 : Int), .int .i64 (sl2 : Int)] 91) (by simp [Value.oneCell']) (by decide) (by unfold maxLen; omega) (by omega) (by simp; omega) ?_; intro v' w' hown' hgrow hmv; have hfb' : w'.heap[b]? = some (.cells cells t (0, 0)) := (hgrow.block b (by simp [World.drew]; omega) (fun e => unhide HNE e.symm)).trans ((heap_alloc_old wz _ hbz).trans hfz); obtain ⟨g4, cap4, rfl, hg4, hg4', hcap4, hcell4⟩ := own_pos hown' (by omega); have hq3 : w'.cell? ⟨b, o + 1, none⟩ = some (.slice aS p.length cS) := (by rw [blk_cell hfb']; exact hcs); have hqz := blk_free hfb' (o + 1))
  all_goals
    have hlo : o + 1 < cells.size := (Array.getElem?_eq_some_iff.1 hcs).1
    have hset := blk_set hfb' (o + 1) (.slice (some ⟨g4, 0, none⟩) (p.length + 1) cap4)
    have hget : (w'.setCell ⟨b, o + 1, none⟩ (.slice (some ⟨g4, 0, none⟩) (p.length + 1) cap4)).cell? ⟨b, o + 1, none⟩ = some (.slice (some ⟨g4, 0, none⟩) (p.length + 1) cap4) := by rw [blk_cell hset]; simp [hlo]
    have HO := hide (own_set_ne hown' (p := ⟨b, o + 1, none⟩) (own_type_ne hown' hfb' ht) (.slice (some ⟨g4, 0, none⟩) (p.length + 1) cap4))
    have HX : Hid (Only (fun k => k = b ∨ (Value.slice aS p.length cS).ownBlock = some k) w w') := hide ((((Only.of_below hB).alloc _).drew).grown hgrow (fun k hk => Or.inl (Or.inr hk)))
    have HM := hide hmv
    clear hown' hmv hgrow hcell4 hownz
    go_wp2_with fail
    go_ret
    refine ⟨_, ret_int (by omega), ?_, hset, (unhide HX).setCell (p := ⟨b, o + 1, none⟩) (Or.inl (Or.inl rfl)) _, ?_⟩
    · rw [unhide HPS]; exact unhide HO
    · rcases unhide HM with h | ⟨k, h1, h2⟩
      · exact Or.inl h
      · exact Or.inr ⟨k, h1, by have := hB.size; simp [World.drew] at h2; omega⟩
end Go.Proofs.YtgipjjhkhfihpabGreatDoor

namespace Go.Proofs.YtgipjjhkhfihpabGreatDoor
open Go.RowKit

set_option maxRecDepth 100000 in
set_option maxHeartbeats 1600000 in
theorem qsat_any (base b : Nat) (q : QS) (vC : Value) (p0 n0 : Nat) (w : World) (hc1 : w.cell? ⟨b, 1, none⟩ = some vC) (hoC : w.ownsRow base 77 2 vC q.cl.length (pairs q.cl)) (hQ : QB q) (hp0 : p0 < 512) (hn0 : n0 < 512) :
    Calls Tryz.prog 79 #[.pointer (some ⟨b, 0, none⟩), SetV (p0, n0)] w fun e w' => e = .returned (.bool (satQ q.cl (p0, n0))) ∧ Below w.heap.size w w' := by
  have hbw := cell_lt hc1
  have hcl := hQ.cl
  have HCL := hide hQ.bits
  obtain ⟨aC, cC, rfl⟩ := own_form hoC
  go_enter Tryz.func79, Tryz.ntmps79
  go_wp2_with fail
  go_loopg [13] (q.cl.length) (fun m i wx => ∃ k : Nat, i = .int .i64 k ∧ k + m = q.cl.length ∧ satQ (q.cl.take k) (p0, n0) = true ∧ Below w.heap.size w wx ∧ wx.heap[w.heap.size]? = some (.cells #[.int .i64 p0, .int .i64 n0] 77 (0, 0)))
  case atStart => exact ⟨0, rfl, by omega, rfl, (Below.refl _ _).alloc (Nat.le_refl _) _, heap_alloc_new _ _⟩
  case round =>
    obtain ⟨k, rfl, hk, hno, hb, hset⟩ := hrel
    have HNO := hide hno; clear hno
    have hbs := blk_lt hset
    have c0 : wr.cell? ⟨w.heap.size, 0, none⟩ = some (.int .i64 p0) := by rw [blk_cell hset]; rfl
    have c1 : wr.cell? ⟨w.heap.size, 1, none⟩ = some (.int .i64 n0) := by rw [blk_cell hset]; rfl
    by_cases hlt : k < q.cl.length
    · obtain ⟨g, cap, hV, hg, hg', _, hcell⟩ := own_pos hoC (by omega)
      injection hV with hV _ hV2
      subst hV hV2
      have hgw : g < wr.heap.size := by omega
      obtain ⟨ha, hb'⟩ := pairs_at q.cl k hlt
      have hx0 : wr.cell? ⟨g, k * 2, none⟩ = some (.int .i64 (q.cl[k].1 : Int)) := by rw [hb.cell (p := ⟨g, k * 2, none⟩) hg']; exact hcell _ _ ha
      have hx1 : wr.cell? ⟨g, k * 2 + 1, none⟩ = some (.int .i64 (q.cl[k].2 : Int)) := by rw [hb.cell (p := ⟨g, k * 2 + 1, none⟩) hg']; exact hcell _ _ hb'
      have HT := hide (satQ_take q.cl (p0, n0) k hlt)
      have hbd := unhide HCL _ (List.getElem_mem hlt)
      have HOF := hide (satQ_of q.cl (p0, n0) k hlt)
      clear hcell ha hb'
      generalize q.cl[k] = c at *
      obtain ⟨p, n⟩ := c
      have HOK : Hid (okC (p, n) (p0, n0) = (((p &&& p0) ||| (n &&& n0) != 0) || (p &&& n != 0))) := hide rfl
      go_wp2_with fail
      refine (meets_any p n p0 n0 _ hbd.1 hbd.2 hp0 hn0).mono ?_
      rintro e w2 ⟨rfl, hb2⟩
      have hA : Below wr.heap.size wr (wr.alloc (.cells #[.int .i64 (p : Int), .int .i64 (n : Int)] 77)) := (Below.refl _ _).alloc (Nat.le_refl _) _
      have hb2' : Below wr.heap.size wr w2 := hA.trans (hb2.mono hA.size)
      have hb3 : Below w.heap.size w w2 := hb.trans (hb2'.mono hb.size)
      have hset2 := (hb2'.block _ hbs).trans hset
      have hc2 := (hb2.block _ (by simp)).trans (heap_alloc_new wr (.cells #[.int .i64 (p : Int), .int .i64 (n : Int)] 77))
      have d0 : w2.cell? ⟨wr.heap.size, 0, none⟩ = some (.int .i64 p) := by rw [blk_cell hc2]; rfl
      have d1 : w2.cell? ⟨wr.heap.size, 1, none⟩ = some (.int .i64 n) := by rw [blk_cell hc2]; rfl
      cases hh : ((p &&& p0) ||| (n &&& n0) != 0) with
      | true =>
        have HO1 : Hid (okC (p, n) (p0, n0) = true) := hide (by rw [unhide HOK, hh]; rfl)
        go_wp2_with fail
        go_roundg (gk - 1)
        case measure => omega
        case rel => exact ⟨k + 1, by go_num, by omega, by rw [unhide HT, unhide HNO, unhide HO1]; rfl, hb3, hset2⟩
      | false =>
        go_wp2_with fail
        refine (clashes_any p n w2 hbd.1 hbd.2).mono ?_
        rintro e w3 ⟨rfl, hb4⟩
        have hb5 : Below w.heap.size w w3 := hb3.trans (hb4.mono hb3.size)
        have hset3 := (hb4.block _ (blk_lt hset2)).trans hset2
        cases hc : (p &&& n != 0) with
        | true =>
          have HO1 : Hid (okC (p, n) (p0, n0) = true) := hide (by rw [unhide HOK, hh, hc]; rfl)
          go_wp2_with fail
          go_roundg (gk - 1)
          case measure => omega
          case rel => exact ⟨k + 1, by go_num, by omega, by rw [unhide HT, unhide HNO, unhide HO1]; rfl, hb5, hset3⟩
        | false =>
          have HF := hide (unhide HOF (by rw [unhide HOK, hh, hc]; rfl))
          go_wp2_with fail
          go_ret
          exact ⟨ret_bool (unhide HF).symm, hb5⟩
    · have hkl : k = q.cl.length := by omega
      subst hkl
      have hno := unhide HNO
      rw [List.take_length] at hno
      have HF := hide hno; clear hno
      go_wp2_with fail
      go_ret
      exact ⟨ret_bool (unhide HF).symm, hb⟩
end Go.Proofs.YtgipjjhkhfihpabGreatDoor
