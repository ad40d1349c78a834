import Derived.Test.YtgipjjhkhfihpaaDoorFA
import Derived.Test.YtgipjjhkhfihpaaDoorAJ
import Derived.Test.YtgipjjhkhfihpaaDoorAC
import Derived.Test.YtgipjjhkhfihpaaDoorAY
import Derived.Test.YtgipjjhkhfihpaaDoorCards
import Derived.Test.YtgipjjhkhfihpaaDoorTie
import Derived.ProofKit
import Derived.LaidMore
import Derived.Stop.Joined
import Derived.Lib.LaidTab
import Derived.OpenShut
import Derived.Deep.DeepHandedRow
import Derived.WalkKit
import Derived.ChangeMaps5
namespace Go.Proofs.YtgipjjhkhfihpaaDoor
open Go.RowKit

/-! ### Texts that the statements without the document's answer make -/
theorem cut_shift (c : UInt8) (l : List UInt8) : ∀ (pre : List (List UInt8)) (cur : List UInt8), (l.foldl (cutStep c) (pre, cur)).1 ++ [(l.foldl (cutStep c) (pre, cur)).2] = pre ++ (match cutAt c l with | [] => [] | hd :: tl => (cur ++ hd) :: tl) := by
  induction l with
  | nil => intro pre cur; simp [cutAt, cutTo]
  | cons b l ih =>
    intro pre cur
    rw [List.foldl_cons]
    have e0 : cutAt c (b :: l) = (l.foldl (cutStep c) (cutStep c ([], []) b)).1 ++ [(l.foldl (cutStep c) (cutStep c ([], []) b)).2] := rfl
    by_cases hb : b = c
    · have e : ∀ st : List (List UInt8) × List UInt8, cutStep c st b = (st.1 ++ [st.2], []) := fun st => by unfold cutStep; rw [if_pos hb]
      rw [e, ih]
      rw [e0, e, ih]
      cases h : cutAt c l with
      | nil => simp [cutAt] at h
      | cons hd tl => simp
    · have e : ∀ st : List (List UInt8) × List UInt8, cutStep c st b = (st.1, st.2 ++ [b]) := fun st => by unfold cutStep; rw [if_neg hb]
      rw [e, ih]
      rw [e0, e, ih]
      cases h : cutAt c l with
      | nil => simp [cutAt] at h
      | cons hd tl => simp
theorem cutAt_cons (c b : UInt8) (r : List UInt8) (hb : b ≠ c) (hd : List UInt8) (tl : List (List UInt8)) (h : cutAt c r = hd :: tl) : cutAt c (b :: r) = (b :: hd) :: tl := by
  have e0 : cutAt c (b :: r) = (r.foldl (cutStep c) (cutStep c ([], []) b)).1 ++ [(r.foldl (cutStep c) (cutStep c ([], []) b)).2] := rfl
  have e : cutStep c ([], []) b = ([], [b]) := by unfold cutStep; rw [if_neg hb]; rfl
  rw [e0, e, cut_shift, h]; rfl
theorem cutAt_ne (c : UInt8) (r : List UInt8) : ∃ hd tl, cutAt c r = hd :: tl := by
  cases h : cutAt c r with
  | nil => simp [cutAt] at h
  | cons hd tl => exact ⟨hd, tl, rfl⟩
/-- A line of the prefix of the other kind. -/
theorem pref_other (r : List UInt8) (k : Bool) (vs : List Nat) (h : prefRow r = some (k, vs)) (k' : Bool) : prefRow ((if k' then 97 else 101) :: r.tail) = some (k', vs) := by
  have hf := pref_first r (k, vs) h
  cases r with
  | nil => simp at hf
  | cons b r =>
    have hb : b = if k then 97 else 101 := by simpa using hf
    obtain ⟨hd, tl, hw⟩ := cutAt_ne 32 r
    have hb32 : b ≠ 32 := by rw [hb]; cases k <;> decide
    have hc := cutAt_cons 32 b r hb32 hd tl hw
    unfold prefRow at h
    rw [hc] at h
    dsimp only at h
    split at h
    · next hh =>
      have hhd : hd = [] := by
        rcases hh.1 with e | e
        · injection e
        · injection e
      subst hhd
      cases hv : varsOf tl with
      | none => rw [hv] at h; cases h
      | some ws =>
        rw [hv] at h
        have h' : (([b] : List UInt8) == [97], ws) = (k, vs) := Option.some.inj h
        injection h' with _ e2
        subst e2
        have hk32 : (if k' then (97 : UInt8) else 101) ≠ 32 := by cases k' <;> decide
        have hc2 := cutAt_cons 32 (if k' then 97 else 101) r hk32 [] tl hw
        unfold prefRow
        rw [List.tail_cons, hc2]
        dsimp only
        rw [if_pos, hv]
        · cases k' <;> rfl
        · refine ⟨?_, hh.2⟩
          cases k'
          · exact Or.inl rfl
          · exact Or.inr rfl
    · cases h
theorem prefs_app (A B : List (List UInt8)) (qa qb : List (Bool × List Nat)) (ha : prefs A = some qa) (hb : prefs B = some qb) : prefs (A ++ B) = some (qa ++ qb) := by
  induction A generalizing qa with
  | nil => simp [prefs] at ha; subst ha; exact hb
  | cons r A ih =>
    rw [prefs] at ha
    cases hr : prefRow r with
    | none => rw [hr] at ha; cases ha
    | some x =>
      cases hA : prefs A with
      | none => rw [hr, hA] at ha; cases ha
      | some ys =>
        rw [hr, hA] at ha
        have h' : x :: ys = qa := Option.some.inj ha
        subst h'
        rw [List.cons_append, prefs, hr, ih ys hA]
        rfl
theorem prefs_split (A B : List (List UInt8)) (qs : List (Bool × List Nat)) (h : prefs (A ++ B) = some qs) : ∃ qa qb, prefs A = some qa ∧ prefs B = some qb ∧ qs = qa ++ qb := by
  induction A generalizing qs with
  | nil => exact ⟨[], qs, rfl, h, rfl⟩
  | cons r A ih =>
    rw [List.cons_append, prefs] at h
    cases hr : prefRow r with
    | none => rw [hr] at h; cases h
    | some x =>
      cases hA : prefs (A ++ B) with
      | none => rw [hr, hA] at h; cases h
      | some ys =>
        rw [hr, hA] at h
        have h' : x :: ys = qs := Option.some.inj h
        subst h'
        obtain ⟨qa, qb, h1, h2, h3⟩ := ih ys hA
        exact ⟨x :: qa, qb, by rw [prefs, hr, h1], h2, by rw [h3]; rfl⟩
theorem prefs_one (r : List UInt8) (qs : List (Bool × List Nat)) (h : prefs [r] = some qs) : ∃ x, prefRow r = some x ∧ qs = [x] := by
  rw [prefs] at h
  cases hr : prefRow r with
  | none => rw [hr] at h; cases h
  | some x => rw [hr] at h; exact ⟨x, rfl, (Option.some.inj h).symm⟩
theorem cls_app (A B : List (List UInt8)) (ca cb : List (Nat × Nat)) (ha : cls A = some ca) (hb : cls B = some cb) : cls (A ++ B) = some (ca ++ cb) := by
  induction A generalizing ca with
  | nil => simp [cls] at ha; subst ha; exact hb
  | cons r A ih =>
    rw [cls] at ha
    cases hr : clRow r with
    | none => rw [hr] at ha; cases ha
    | some x =>
      cases hA : cls A with
      | none => rw [hr, hA] at ha; cases ha
      | some ys =>
        rw [hr, hA] at ha
        have h' : x :: ys = ca := Option.some.inj ha
        subst h'
        rw [List.cons_append, cls, hr, ih ys hA]
        rfl
theorem cls_split (A B : List (List UInt8)) (cs : List (Nat × Nat)) (h : cls (A ++ B) = some cs) : ∃ ca cb, cls A = some ca ∧ cls B = some cb ∧ cs = ca ++ cb := by
  induction A generalizing cs with
  | nil => exact ⟨[], cs, rfl, h, rfl⟩
  | cons r A ih =>
    rw [List.cons_append, cls] at h
    cases hr : clRow r with
    | none => rw [hr] at h; cases h
    | some x =>
      cases hA : cls (A ++ B) with
      | none => rw [hr, hA] at h; cases h
      | some ys =>
        rw [hr, hA] at h
        have h' : x :: ys = cs := Option.some.inj h
        subst h'
        obtain ⟨ca, cb, h1, h2, h3⟩ := ih ys hA
        exact ⟨x :: ca, cb, by rw [cls, hr, h1], h2, by rw [h3]; rfl⟩
theorem join_len (m : List (List UInt8)) : (joinN m).length = (m.map (fun r => r.length + 1)).sum := by
  induction m with
  | nil => rfl
  | cons r m ih =>
    have e : joinN (r :: m) = r ++ [10] ++ joinN m := by simp [joinN]
    rw [e]; simp [ih]; omega
/-- A clause less. -/
theorem text_fewer {l : List UInt8} {P C1 C2 : List (List UInt8)} {r : List UInt8} {qs : List (Bool × List Nat)} {cs : List (Nat × Nat)} (h : TextIs l P (C1 ++ r :: C2) qs cs) : ∃ cs', TextIs (joinN (P ++ (C1 ++ C2))) P (C1 ++ C2) qs cs' ∧ (∀ c ∈ cs', c ∈ cs) := by
  obtain ⟨ca, cb, h1, h2, h3⟩ := cls_split C1 (r :: C2) cs h.cls
  obtain ⟨cc, cd, h4, h5, h6⟩ := cls_split [r] C2 cb h2
  refine ⟨ca ++ cd, ⟨?_, rfl, ?_, h.prefs, cls_app C1 C2 ca cd h1 h5, ?_, h.nodup⟩, ?_⟩
  · have := h.len
    rw [h.text, join_len] at this
    rw [join_len]
    simp at this ⊢
    omega
  · intro x hx
    apply h.nl
    rcases List.mem_append.1 hx with hx | hx
    · exact List.mem_append_left _ hx
    · apply List.mem_append_right
      rcases List.mem_append.1 hx with hx | hx
      · exact List.mem_append_left _ hx
      · exact List.mem_append_right _ (by simp [hx])
  · have := h.c24
    rw [h3, h6] at this
    simp at this ⊢
    omega
  · intro c hc
    rw [h3, h6]
    rcases List.mem_append.1 hc with hc | hc
    · exact List.mem_append_left _ hc
    · exact List.mem_append_right _ (List.mem_append_right _ hc)
/-- Lines of the prefix change places. -/
theorem text_swap {l : List UInt8} {A B C : List (List UInt8)} {r1 r2 : List UInt8} {qs : List (Bool × List Nat)} {cs : List (Nat × Nat)} (h : TextIs l (A ++ r1 :: r2 :: B) C qs cs) :
    ∃ qa x1 x2 qb, prefRow r1 = some x1 ∧ prefRow r2 = some x2 ∧ qs = qa ++ x1 :: x2 :: qb ∧ TextIs (joinN ((A ++ r2 :: r1 :: B) ++ C)) (A ++ r2 :: r1 :: B) C (qa ++ x2 :: x1 :: qb) cs := by
  obtain ⟨qa, q1, h1, h2, h3⟩ := prefs_split A (r1 :: r2 :: B) qs h.prefs
  obtain ⟨q2, q3, h4, h5, h6⟩ := prefs_split [r1] (r2 :: B) q1 h2
  obtain ⟨q4, qb, h7, h8, h9⟩ := prefs_split [r2] B q3 h5
  obtain ⟨x1, g1, rfl⟩ := prefs_one r1 q2 h4
  obtain ⟨x2, g2, rfl⟩ := prefs_one r2 q4 h7
  have eq0 : qs = qa ++ x1 :: x2 :: qb := by rw [h3, h6, h9]; rfl
  refine ⟨qa, x1, x2, qb, g1, g2, eq0, ?_, rfl, ?_, ?_, h.cls, h.c24, ?_⟩
  · have := h.len
    rw [h.text, join_len] at this
    rw [join_len]
    simp at this ⊢
    omega
  · intro x hx
    apply h.nl
    simp at hx ⊢
    rcases hx with hx | hx | hx | hx | hx
    · exact Or.inl hx
    · exact Or.inr (Or.inr (Or.inl hx))
    · exact Or.inr (Or.inl hx)
    · exact Or.inr (Or.inr (Or.inr (Or.inl hx)))
    · exact Or.inr (Or.inr (Or.inr (Or.inr hx)))
  · refine prefs_app A _ qa _ h1 ?_
    rw [prefs, g2, prefs, g1, h8]
  · have hn := h.nodup
    rw [eq0] at hn
    have hp : (toldP (qa ++ x2 :: x1 :: qb)).Perm (toldP (qa ++ x1 :: x2 :: qb)) := by
      unfold toldP
      exact List.Perm.flatMap_right _ (List.Perm.append_left qa (List.Perm.swap x1 x2 qb))
    exact hp.nodup_iff.2 hn
/-- A line of the prefix of the other kind. -/
theorem text_other {l : List UInt8} {A B C : List (List UInt8)} {r : List UInt8} {qs : List (Bool × List Nat)} {cs : List (Nat × Nat)} (h : TextIs l (A ++ r :: B) C qs cs) (k' : Bool) :
    ∃ qa k vs qb, prefRow r = some (k, vs) ∧ qs = qa ++ (k, vs) :: qb ∧ TextIs (joinN ((A ++ ((if k' then 97 else 101) :: r.tail) :: B) ++ C)) (A ++ ((if k' then 97 else 101) :: r.tail) :: B) C (qa ++ (k', vs) :: qb) cs := by
  obtain ⟨qa, q1, h1, h2, h3⟩ := prefs_split A (r :: B) qs h.prefs
  obtain ⟨q2, qb, h4, h5, h6⟩ := prefs_split [r] B q1 h2
  obtain ⟨x, g1, rfl⟩ := prefs_one r q2 h4
  obtain ⟨k, vs⟩ := x
  have eq0 : qs = qa ++ (k, vs) :: qb := by rw [h3, h6]; rfl
  have hf := pref_first r (k, vs) g1
  have hlen : ((if k' then (97 : UInt8) else 101) :: r.tail).length = r.length := by
    cases r with
    | nil => simp at hf
    | cons b r => simp
  refine ⟨qa, k, vs, qb, g1, eq0, ?_, rfl, ?_, ?_, h.cls, h.c24, ?_⟩
  · have := h.len
    rw [h.text, join_len] at this
    rw [join_len]
    simp only [List.append_assoc, List.cons_append, List.map_append, List.map_cons, List.sum_append, List.sum_cons, hlen] at this ⊢
    omega
  · intro x hx
    by_cases hx2 : x = (if k' then 97 else 101) :: r.tail
    · subst hx2
      have hr : (10 : UInt8) ∉ r := h.nl r (by simp)
      rw [List.mem_cons, not_or]
      refine ⟨by cases k' <;> decide, fun hh => hr (List.mem_of_mem_tail hh)⟩
    · apply h.nl
      simp only [List.append_assoc, List.cons_append, List.mem_append, List.mem_cons] at hx ⊢
      rcases hx with hx | hx | hx | hx
      · exact Or.inl hx
      · exact absurd hx hx2
      · exact Or.inr (Or.inr (Or.inl hx))
      · exact Or.inr (Or.inr (Or.inr hx))
  · refine prefs_app A _ qa _ h1 ?_
    rw [prefs, pref_other r k vs g1 k', h5]
  · have e : toldP (qa ++ (k', vs) :: qb) = toldP (qa ++ (k, vs) :: qb) := by simp [toldP]
    rw [e, ← eq0]; exact h.nodup
end Go.Proofs.YtgipjjhkhfihpaaDoor

namespace Go.Proofs.YtgipjjhkhfihpaaDoor
open Go.RowKit

/-! ### Texts, their lines and their verdicts -/
theorem load_of_read {l : List UInt8} {F : Form} (h : readSpec l = .inr F) : ∃ q, loadSpec l = .inr q := by
  have hs := spec_eq l
  cases hq : loadSpec l with
  | inl a => rw [hq] at hs; have hs' : readSpec l = .inl a := hs; rw [h] at hs'; cases hs'
  | inr q => exact ⟨q, rfl⟩
theorem vkind_text {l : List UInt8} {P C : List (List UInt8)} {qs : List (Bool × List Nat)} {cs : List (Nat × Nat)} (h : TextIs l P C qs cs) : (vkind l).1 = if truthN qs cs then 2 else 1 := by
  have hr := text_to h
  obtain ⟨q, hq⟩ := load_of_read hr
  obtain ⟨hg, F, hF1, hF, hO⟩ := load_good hq
  rw [hr] at hF1
  injection hF1 with hF1
  subst hF1
  rw [vkind_good hq]
  exact (vfree hg hF hO 8).kind
theorem text_vkind {l : List UInt8} (h : (vkind l).1 ≠ 0) : ∃ P C qs cs, TextIs l P C qs cs := by
  cases hq : loadSpec l with
  | inl a => rw [vkind_bad hq] at h; exact absurd rfl h
  | inr q =>
    obtain ⟨_, F, hF1, _, _⟩ := load_good hq
    obtain ⟨P, C, qs, cs, h1, _⟩ := text_of l F hF1
    exact ⟨P, C, qs, cs, h1⟩
theorem cut_more (m : List (List UInt8)) (hm : ∀ r ∈ m, (10 : UInt8) ∉ r) (x : List UInt8) : klinesOf (joinN m ++ x) = m ++ klinesOf x := by
  unfold klinesOf cutTo
  rw [List.foldl_append, cut_join m hm []]
  have key : ∀ (x : List UInt8) (st : List (List UInt8)) (cur : List UInt8), (x.foldl (cutStep 10) (st, cur)).1 = st ++ (x.foldl (cutStep 10) ([], cur)).1 := by
    intro x
    induction x with
    | nil => intro st cur; simp
    | cons b x ih =>
      intro st cur
      rw [List.foldl_cons, List.foldl_cons]
      by_cases hb : b = 10
      · have e : ∀ s : List (List UInt8), cutStep 10 (s, cur) b = (s ++ [cur], []) := fun s => by unfold cutStep; exact if_pos hb
        rw [e, e, ih (st ++ [cur]) [], ih ([] ++ [cur]) []]
        simp
      · have e : ∀ s : List (List UInt8), cutStep 10 (s, cur) b = (s, cur ++ [b]) := fun s => by unfold cutStep; exact if_neg hb
        rw [e, e, ih st]
  rw [key]
  simp
theorem lines_text {l : List UInt8} {P C : List (List UInt8)} {qs : List (Bool × List Nat)} {cs : List (Nat × Nat)} (h : TextIs l P C qs cs) : klinesOf l = P ++ C := by
  have := cut_more (P ++ C) h.nl []
  rw [List.append_nil, ← h.text] at this
  rw [this]
  simp [klinesOf, cutTo]
theorem prefs_rows {P : List (List UInt8)} : ∀ {qs : List (Bool × List Nat)}, prefs P = some qs → ∀ r ∈ P, ∃ x, prefRow r = some x := by
  induction P with
  | nil => intro qs _ r hr; cases hr
  | cons p P ih =>
    intro qs h r hr
    obtain ⟨qa, qb, h1, h2, _⟩ := prefs_split [p] P qs h
    rcases List.mem_cons.1 hr with rfl | hr
    · obtain ⟨x, hx⟩ : ∃ x, prefRow r = some x := by
        cases hp : prefRow r with
        | some x => exact ⟨x, rfl⟩
        | none => simp [prefs, hp] at h1
      exact ⟨x, hx⟩
    · exact ih h2 r hr
theorem cls_rows {C : List (List UInt8)} : ∀ {cs : List (Nat × Nat)}, cls C = some cs → ∀ r ∈ C, ∃ x, clRow r = some x := by
  induction C with
  | nil => intro cs _ r hr; cases hr
  | cons p C ih =>
    intro cs h r hr
    obtain ⟨ca, cb, h1, h2, _⟩ := cls_split [p] C cs h
    rcases List.mem_cons.1 hr with rfl | hr
    · obtain ⟨x, hx⟩ : ∃ x, clRow r = some x := by
        cases hp : clRow r with
        | some x => exact ⟨x, rfl⟩
        | none => simp [cls, hp] at h1
      exact ⟨x, hx⟩
    · exact ih h2 r hr
theorem pref_rows_first {l : List UInt8} {P C : List (List UInt8)} {qs : List (Bool × List Nat)} {cs : List (Nat × Nat)} (h : TextIs l P C qs cs) : (∀ r ∈ P, ∃ x xs, r = x :: xs ∧ x ≠ 99) ∧ (∀ r ∈ C, ∃ xs, r = 99 :: xs) := by
  constructor
  · intro r hr
    obtain ⟨x, hx⟩ := prefs_rows h.prefs r hr
    have := pref_first r x hx
    cases r with
    | nil => cases this
    | cons y ys =>
      refine ⟨y, ys, rfl, fun e => ?_⟩
      subst e
      injection this with this
      revert this
      split <;> decide
  · intro r hr
    obtain ⟨x, hx⟩ := cls_rows h.cls r hr
    have := cl_first r x hx
    cases r with
    | nil => cases this
    | cons y ys => injection this with this; subst this; exact ⟨ys, rfl⟩
end Go.Proofs.YtgipjjhkhfihpaaDoor

namespace Go.Proofs.YtgipjjhkhfihpaaDoor
open Go.RowKit

/-! ### Fewer: a text with a line less, with lines more -/
theorem split_first {P : List (List UInt8)} : ∀ {C P' C' : List (List UInt8)}, P ++ C = P' ++ C' → (∀ r ∈ P, ∃ x xs, r = x :: xs ∧ x ≠ (99 : UInt8)) → (∀ r ∈ P', ∃ x xs, r = x :: xs ∧ x ≠ (99 : UInt8)) → (∀ r, C.head? = some r → ∃ xs, r = 99 :: xs) → (∀ r, C'.head? = some r → ∃ xs, r = 99 :: xs) → P = P' ∧ C = C' := by
  induction P with
  | nil =>
    intro C P' C' h _ hP' hC _
    cases P' with
    | nil => exact ⟨rfl, by simpa using h⟩
    | cons p P' =>
      exfalso
      rw [List.nil_append, List.cons_append] at h
      obtain ⟨xs, e⟩ := hC p (by rw [h]; rfl)
      obtain ⟨x, ys, e2, hne⟩ := hP' p (by simp)
      rw [e] at e2
      injection e2 with e3 _
      exact hne e3.symm
  | cons p P ih =>
    intro C P' C' h hP hP' hC hC'
    cases P' with
    | nil =>
      exfalso
      rw [List.nil_append, List.cons_append] at h
      obtain ⟨xs, e⟩ := hC' p (by rw [← h]; rfl)
      obtain ⟨x, ys, e2, hne⟩ := hP p (by simp)
      rw [e] at e2
      injection e2 with e3 _
      exact hne e3.symm
    | cons p' P' =>
      rw [List.cons_append, List.cons_append] at h
      injection h with h1 h2
      obtain ⟨e1, e2⟩ := ih h2 (fun r hr => hP r (by simp [hr])) (fun r hr => hP' r (by simp [hr])) hC hC'
      exact ⟨by rw [h1, e1], e2⟩
theorem cut_key : ∀ (x : List UInt8) (st : List (List UInt8)) (cur : List UInt8), (x.foldl (cutStep 10) (st, cur)).1 = st ++ (x.foldl (cutStep 10) ([], cur)).1 := by
  intro x
  induction x with
  | nil => intro st cur; simp
  | cons b x ih =>
    intro st cur
    rw [List.foldl_cons, List.foldl_cons]
    by_cases hb : b = 10
    · have e : ∀ s : List (List UInt8), cutStep 10 (s, cur) b = (s ++ [cur], []) := fun s => by unfold cutStep; exact if_pos hb
      rw [e, e, ih (st ++ [cur]) [], ih ([] ++ [cur]) []]
      simp
    · have e : ∀ s : List (List UInt8), cutStep 10 (s, cur) b = (s, cur ++ [b]) := fun s => by unfold cutStep; exact if_neg hb
      rw [e, e, ih st]
theorem first_line : ∀ (x cur r : List UInt8), ((x.foldl (cutStep 10) ([], cur)).1).head? = some r → ∃ y, r = cur ++ y := by
  intro x
  induction x with
  | nil => intro cur r h; cases h
  | cons b x ih =>
    intro cur r h
    rw [List.foldl_cons] at h
    by_cases hb : b = 10
    · have e : cutStep 10 ([], cur) b = ([] ++ [cur], []) := by unfold cutStep; exact if_pos hb
      rw [e, cut_key] at h
      have h' : some cur = some r := h
      injection h' with h'
      exact ⟨[], by simp [h']⟩
    · have e : cutStep 10 ([], cur) b = ([], cur ++ [b]) := by unfold cutStep; exact if_neg hb
      rw [e] at h
      obtain ⟨y, hy⟩ := ih _ _ h
      exact ⟨b :: y, by rw [hy]; simp⟩
theorem more_line {l t : List UInt8} {P C : List (List UInt8)} {qs : List (Bool × List Nat)} {cs : List (Nat × Nat)} (h : TextIs l P C qs cs) (ht : t.head? = some 99) (hk : (vkind (l ++ t ++ [10])).1 ≠ 0) : ∃ C' cs', TextIs (l ++ t ++ [10]) P C' qs cs' ∧ ∀ c ∈ cs, c ∈ cs' := by
  obtain ⟨P', C', qs', cs', h'⟩ := text_vkind hk
  have e1 := lines_text h'
  have e2 : klinesOf (l ++ t ++ [10]) = P ++ (C ++ klinesOf (t ++ [10])) := by
    rw [List.append_assoc, ← List.append_assoc P]
    have := cut_more (P ++ C) h.nl (t ++ [10])
    rw [← h.text] at this
    exact this
  obtain ⟨f1, f2⟩ := pref_rows_first h
  obtain ⟨g1, g2⟩ := pref_rows_first h'
  have hC0 : ∀ r, (C ++ klinesOf (t ++ [10])).head? = some r → ∃ xs, r = 99 :: xs := by
    intro r hr
    cases C with
    | cons c C => exact f2 r (by have : some c = some r := hr; injection this with e; simp [e])
    | nil =>
      cases t with
      | nil => cases ht
      | cons x t =>
        have hx : x = 99 := by simpa using ht
        subst hx
        have e : klinesOf ((99 :: t) ++ [10]) = ((t ++ [10]).foldl (cutStep 10) ([], [99])).1 := rfl
        rw [List.nil_append, e] at hr
        obtain ⟨y, hy⟩ := first_line _ _ _ hr
        exact ⟨y, by rw [hy]; rfl⟩
  obtain ⟨a1, a2⟩ := split_first (e2.symm.trans e1) f1 g1 hC0 (fun r hr => g2 r (List.mem_of_mem_head? hr))
  subst a1
  have hq : qs = qs' := by have := h.prefs; rw [h'.prefs] at this; injection this with this; exact this.symm
  subst hq
  refine ⟨C', cs', h', ?_⟩
  rw [← a2] at h'
  obtain ⟨ca, cb, b1, b2, b3⟩ := cls_split C _ cs' h'.cls
  have : ca = cs := by rw [h.cls] at b1; injection b1 with b1; exact b1.symm
  subst this
  intro c hc
  rw [b3]
  simp [hc]
/-- A clause less. -/
theorem fewer_less {l : List UInt8} {P C : List (List UInt8)} {qs : List (Bool × List Nat)} {cs : List (Nat × Nat)} (h : TextIs l P C qs cs) (j : Nat) (hj : j < C.length) (hv : (vkind l).1 = 2) : (vkind (joinN (P ++ (C.take j ++ C.drop (j + 1))))).1 = 2 := by
  have e : C = C.take j ++ C[j] :: C.drop (j + 1) := by rw [List.getElem_cons_drop, List.take_append_drop]
  generalize C.take j = C1 at e ⊢
  generalize C.drop (j + 1) = C2 at e ⊢
  generalize C[j] = r at e
  subst e
  obtain ⟨cs', h1, h2⟩ := text_fewer h
  rw [vkind_text h] at hv
  rw [vkind_text h1, if_pos (truth_sub qs cs cs' h2 (by by_cases ht : truthN qs cs = true; exact ht; rw [if_neg ht] at hv; cases hv))]
/-- A line more. -/
theorem fewer_more {l t : List UInt8} {P C : List (List UInt8)} {qs : List (Bool × List Nat)} {cs : List (Nat × Nat)} (h : TextIs l P C qs cs) (ht : t.head? = some 99) : (vkind (l ++ t ++ [10])).1 = 0 ∨ (vkind l).1 = 2 ∨ (vkind (l ++ t ++ [10])).1 = 1 := by
  by_cases hk : (vkind (l ++ t ++ [10])).1 = 0
  · exact Or.inl hk
  · obtain ⟨C', cs', h1, h2⟩ := more_line h ht hk
    rw [vkind_text h, vkind_text h1]
    by_cases ht : truthN qs cs' = true
    · rw [if_pos (truth_sub qs cs' cs h2 ht)]; exact Or.inr (Or.inl rfl)
    · rw [if_neg ht]; exact Or.inr (Or.inr rfl)
end Go.Proofs.YtgipjjhkhfihpaaDoor

namespace Go.Proofs.YtgipjjhkhfihpaaDoor
open Go.RowKit

/-! ### duelkeep: clauses -/
attribute [local go_sem] ba_get
set_option maxRecDepth 100000 in
set_option maxHeartbeats 1600000 in
theorem kclauses_any (base : Nat) (P C : List (List UInt8)) (a : Option Addr) (c : Nat) (w : World) (hown : w.ownsRow base 9 1 (.slice a (P ++ C).length c) (P ++ C).length ((P ++ C).map S)) (hP : ∀ r ∈ P, ∃ x xs, r = x :: xs ∧ x ≠ 99) (hC : ∀ r ∈ C, ∃ xs, r = 99 :: xs) (hl : (P ++ C).length ≤ 1048576) :
    Calls Tryd.prog 19 #[.slice a (P ++ C).length c] w fun e w' => e = .returned (.int .i64 (P.length : Int)) ∧ Below w.heap.size w w' := by
  have hpl : P.length ≤ (P ++ C).length := by rw [List.length_append]; omega
  obtain ⟨rows, hrows⟩ : ∃ X, X = P ++ C := ⟨_, rfl⟩
  have HPX : Hid (∀ k (hk : k < rows.length), k < P.length → ∃ x xs, rows[k] = x :: xs ∧ x ≠ 99) := hide (fun k hk h => by
    subst hrows
    rw [List.getElem_append_left h]; exact hP _ (List.getElem_mem h))
  have HCX : Hid (∀ k (hk : k < rows.length), ¬ k < P.length → ∃ xs, rows[k] = 99 :: xs) := hide (fun k hk h => by
    subst hrows
    rw [List.getElem_append_right (by omega)]; exact hC _ (List.getElem_mem _))
  rw [← hrows] at hown hl hpl ⊢
  clear hrows hP hC
  generalize P.length = pl at *
  go_enter Tryd.func19, Tryd.ntmps19
  go_wp2_with fail
  go_loopg [3] (pl + 1) (fun m vk wx => ∃ (k : Nat), vk = .int .i64 (k : Int) ∧ k + m = pl + 1 ∧ k ≤ pl ∧ Below w.heap.size w wx)
  case atStart => exact ⟨0, rfl, by omega, by omega, Below.refl _ _⟩
  case round =>
    obtain ⟨k, rfl, hkm, hkp, hb⟩ := hrel
    by_cases hlt : k < rows.length
    · have hd3 : decide ((k : Int) < (rows.length : Int)) = true := decide_eq_true (by omega)
      have hd4 : decide (k < rows.length) = true := decide_eq_true hlt
      obtain ⟨g, cap, hVe, _, hg', _, hcell⟩ := own_pos (own_below hown hb) (by omega)
      injection hVe with hVe _ hV2
      subst hVe hV2
      have hx := hcell _ _ (mapS_at rows k hlt)
      clear hcell
      by_cases hkl : k < pl
      · obtain ⟨x, xs, hr, hne⟩ := unhide HPX k hlt hkl
        rw [hr] at hx
        have hn1 : ((x.toNat : Int) == 99) = false := by
          rw [beq_eq_false_iff_ne]
          intro e
          apply hne
          rw [← UInt8.toNat_inj]
          have : (99 : UInt8).toNat = 99 := rfl
          omega
        have hn2 : (x.toNat == 99) = false := by rw [beq_eq_false_iff_ne]; intro e; rw [beq_eq_false_iff_ne] at hn1; apply hn1; omega
        have hn3 : ((x.toNat : Int) != 99) = true := by rw [bne, hn1]; rfl
        clear hr hne HPX HCX
        go_wp2_with fail
        go_roundg (gk - 1)
        case measure => omega
        case rel => exact ⟨k + 1, by go_num, by omega, by omega, hb⟩
      · obtain ⟨xs, hr⟩ := unhide HCX k hlt hkl
        rw [hr] at hx
        have HKE : Hid (k = pl) := hide (by omega)
        have hn1 : (((99 : UInt8).toNat : Int) == 99) = true := rfl
        clear hr HPX HCX hkl
        go_wp2_with fail
        go_ret
        exact ⟨by rw [unhide HKE]; rfl, hb⟩
    · have hd3 : decide ((k : Int) < (rows.length : Int)) = false := decide_eq_false (by omega)
      have hd4 : decide (k < rows.length) = false := decide_eq_false hlt
      have HKE : Hid (k = pl) := hide (by omega)
      go_wp2_with fail
      go_ret
      exact ⟨by rw [unhide HKE]; rfl, hb⟩
end Go.Proofs.YtgipjjhkhfihpaaDoor

namespace Go.Proofs.YtgipjjhkhfihpaaDoor
open Go.RowKit

/-! ### fewer -/
theorem strs_at {w : World} {base : Nat} {rows : List (List UInt8)} {g cap : Nat} (h : w.ownsRow base 9 1 (.slice (some ⟨g, 0, none⟩) rows.length cap) rows.length (rows.map S)) : ∀ k (hk : k < rows.length), w.cell? ⟨g, k, none⟩ = some (S rows[k]) := by
  intro k hk
  obtain ⟨g', cap', hVe, _, _, _, hcell⟩ := own_pos h (by omega)
  injection hVe with hVe _ _
  injection hVe with hVe
  injection hVe with hVe
  subst hVe
  exact hcell _ _ (mapS_at rows k hk)
theorem strs_news {w : World} {g : Nat} {rows : List (List UInt8)} (h : ∀ k (hk : k < rows.length), w.cell? ⟨g, k, none⟩ = some (S rows[k])) (o m : Nat) : ∀ j u, (((rows.drop o).take m).map S)[j]? = some u → w.cell? ((⟨g, o, none⟩ : Addr).add j) = some u := by
  intro j u hj
  have hadd : (⟨g, o, none⟩ : Addr).add j = ⟨g, o + j, none⟩ := by unfold Addr.add; split <;> simp_all
  rw [hadd]
  simp only [List.getElem?_map, List.getElem?_take, List.getElem?_drop] at hj
  split at hj
  · cases hr : rows[o + j]? with
    | none => rw [hr] at hj; cases hj
    | some r =>
      rw [hr] at hj
      obtain ⟨hlt, e⟩ := List.getElem?_eq_some_iff.1 hr
      rw [h _ hlt, e]
      exact hj
  · cases hj
theorem joinN_app (A B : List (List UInt8)) : joinN (A ++ B) = joinN A ++ joinN B := by simp [joinN]
theorem joinN_cons (r : List UInt8) (m : List (List UInt8)) : joinN (r :: m) = r ++ (10 :: joinN m) := by simp [joinN]
theorem one_strs (l : List (List UInt8)) : ∀ u ∈ l.map S, u.oneCell' = true := by
  intro u hu
  obtain ⟨r, _, rfl⟩ := List.mem_map.1 hu
  rfl
theorem kclauses_rows (base : Nat) (rows P C : List (List UInt8)) (hr : rows = P ++ C) (a : Option Addr) (c : Nat) (w : World) (hown : w.ownsRow base 9 1 (.slice a rows.length c) rows.length (rows.map S)) (hP : ∀ r ∈ P, ∃ x xs, r = x :: xs ∧ x ≠ 99) (hC : ∀ r ∈ C, ∃ xs, r = 99 :: xs) (hl : rows.length ≤ 1048576) :
    Calls Tryd.prog 19 #[.slice a rows.length c] w fun e w' => e = .returned (.int .i64 (P.length : Int)) ∧ Below w.heap.size w w' := by
  subst hr
  exact kclauses_any base P C a c w hown hP hC hl
set_option maxRecDepth 100000 in
set_option maxHeartbeats 3200000 in
theorem kfewer_any (l t : List UInt8) (a : Int) (w : World) (ht : TabAt w) (hll : l.length ≤ 8192) (htl : t.length ≤ 8192) (ha1 : -9223372036854775808 ≤ a) (ha2 : a ≤ 9223372036854775807) :
    Calls Tryd.prog 14 #[.string ⟨l.toArray⟩, .int .i64 a, .string ⟨t.toArray⟩] w fun e w' => e = .returned (.bool true) ∧ Below w.heap.size w w' := by
  obtain ⟨i0, hi, hz0, hz1, hz2⟩ := info_parts infoStr
  go_enter Tryd.func14, Tryd.ntmps14
  go_wp2_with fail
  refine (kkind_any l w ht).mono ?_
  rintro e u1 ⟨rfl, b1⟩
  generalize hvk : vkind l = vk at *
  have HVK := hide hvk
  clear hvk
  obtain ⟨k0, p0⟩ := vk
  dsimp only
  go_wp2_with fail
  refine (klines_any l u1 (by omega)).mono ?_
  rintro e u2 ⟨vl, rfl, hown, b2⟩
  have hB2 := b1.trans (b2.mono b1.size)
  by_cases hv : k0 = 0
  · have hv1 : ((k0 : Int) == 0) = true := by rw [beq_iff_eq]; omega
    have hv2 : (k0 == 0) = true := by rw [beq_iff_eq]; exact hv
    obtain ⟨aL, cL, rfl⟩ := own_form hown
    clear hv
    go_wp2_with fail
    go_ret
    exact ⟨rfl, hB2⟩
  · obtain ⟨P, C, qs, cs, hT⟩ := text_vkind (l := l) (by rw [unhide HVK]; exact hv)
    have HT := hide hT
    have hv1 : ((k0 : Int) == 0) = false := by rw [beq_eq_false_iff_ne]; omega
    have hv2 : (k0 == 0) = false := by rw [beq_eq_false_iff_ne]; exact hv
    obtain ⟨rows, hrows⟩ : ∃ X, X = P ++ C := ⟨_, rfl⟩
    have HR := hide hrows
    rw [lines_text hT, ← hrows] at hown
    obtain ⟨f1, f2⟩ := pref_rows_first hT
    have hjl : (joinN rows).length ≤ 2000 := by rw [hrows, ← hT.text]; exact hT.len
    have hge := joinN_ge rows
    have hpc : rows.length = P.length + C.length := by rw [hrows, List.length_append]
    have HPC := hide hpc
    clear hT hv hrows hpc
    obtain ⟨aL, cL, rfl⟩ := own_form hown
    go_wp2_with fail
    refine (kclauses_rows _ rows P C (unhide HR) aL cL u2 hown f1 f2 (by omega)).mono ?_
    rintro e u3 ⟨rfl, b3⟩
    have hB3 := hB2.trans (b3.mono hB2.size)
    by_cases hC0 : P.length < rows.length
    · have hd3 : decide ((P.length : Int) < (rows.length : Int)) = true := decide_eq_true (by omega)
      have hd4 : decide (P.length < rows.length) = true := decide_eq_true hC0
      obtain ⟨g, cap, hVe, hg1, hg2, hg3, hcell⟩ := own_pos (own_below hown b3) (by omega)
      injection hVe with hVe _ hV2
      subst hVe hV2
      have hst := strs_at (own_below hown b3)
      have HC := hide hst
      have hcl : ((rows.length : Int) - (P.length : Int)) = (C.length : Int) := by rw [unhide HPC]; omega
      have hcp : 0 < C.length := by have := unhide HPC; omega
      clear hcell hst hC0
      go_wp2_with fail
      refine (kpick_eq a C.length _ hcp (by have := unhide HPC; omega) ha1 ha2).mono ?_
      rintro e u4 ⟨rfl, rfl⟩
      have hj := pickK_lt a C.length hcp
      have hless : k0 = 2 → (vkind (joinN (rows.take (P.length + pickK a C.length) ++ rows.drop (P.length + pickK a C.length + 1)))).1 = 2 := fun e => by
        have := fewer_less (unhide HT) (pickK a C.length) hj (by rw [unhide HVK]; exact e)
        rw [unhide HR]
        have e1 : (P ++ C).take (P.length + pickK a C.length) = P ++ C.take (pickK a C.length) := by rw [List.take_append, List.take_of_length_le (by omega)]; simp
        have e2 : (P ++ C).drop (P.length + pickK a C.length + 1) = C.drop (pickK a C.length + 1) := by rw [show P.length + pickK a C.length + 1 = P.length + (pickK a C.length + 1) from by omega, List.drop_append]; simp
        rw [e1, e2, List.append_assoc]
        exact this
      generalize hjj : pickK a C.length = j at *
      have HJ := hide hj
      clear hjj hj
      have hgc := own_below hown b3
      have hi1 : ((P.length : Int) + (j : Int)) = ((P.length + j : Nat) : Int) := by omega
      have hil : P.length + j < rows.length := by have := unhide HPC; have := unhide HJ; omega
      generalize P.length + j = i at *
      have hcc : rows.length ≤ cL := hg3
      have hnw0 := strs_news (unhide HC) 0 i
      rw [List.drop_zero] at hnw0
      obtain ⟨rows2, hrows2⟩ : ∃ X, X = rows.take i ++ rows.drop (i + 1) := ⟨_, rfl⟩
      have HR2 := hide hrows2
      have HLESS : Hid (k0 = 2 → (vkind (joinN rows2)).1 = 2) := hide (by rw [hrows2]; exact hless)
      clear hless
      have HM : Hid ((rows.take i).map S ++ (rows.drop (i + 1)).map S = rows2.map S) := hide (by rw [hrows2, List.map_append])
      have HL2 : Hid (i + (rows.length - (i + 1)) = rows2.length) := hide (by rw [hrows2]; simp; omega)
      have HJ2 : Hid ((joinN rows2).length ≤ 2000) := hide (by
        have e : joinN rows = joinN (rows.take i) ++ joinN (rows.drop i) := by rw [← joinN_app, List.take_append_drop]
        have e2 : rows.drop i = rows[i] :: rows.drop (i + 1) := (List.getElem_cons_drop hil).symm
        have e3 : joinN rows2 = joinN (rows.take i) ++ joinN (rows.drop (i + 1)) := by rw [hrows2, joinN_app]
        have e4 : joinN (rows[i] :: rows.drop (i + 1)) = rows[i] ++ (10 :: joinN (rows.drop (i + 1))) := joinN_cons _ _
        have e5 := congrArg List.length e
        rw [e2, e4, List.length_append, List.length_append, List.length_cons] at e5
        rw [e3, List.length_append]
        omega)
      have HO := hide hgc
      have HI1 := hide hi1
      clear hrows2
      have hnA : ∀ wx : World, cL = i + 1 → ∀ j u, ((rows.drop (i + 1)).map S)[j]? = some u → wx.cell? ((⟨g, 0, none⟩ : Addr).add j) = some u := fun wx e j u hj => by
        rw [List.drop_of_length_le (by omega)] at hj; cases hj
      have hnB : ∀ wx : World, Below u4.heap.size u4 wx → ∀ j u, ((rows.drop (i + 1)).map S)[j]? = some u → wx.cell? ((⟨g, i + 1, none⟩ : Addr).add j) = some u := fun wx hx j u hj => strs_news (strs_at (own_below (unhide HO) hx)) (i + 1) (rows.length) j u (by rw [List.take_of_length_le (by rw [List.length_drop]; omega)]; exact hj)
      have HNA := hide hnA
      have HNB := hide hnB
      clear hnA hnB
      by_cases hcap : cL = i + 1
      all_goals (
        go_wp2_with (first
          | (at_builtin; refine wpList_append_own _ rfl _ _ 34 rfl u4.heap.size 9 i0 (.string ⟨#[]⟩) 1 16 Tryd.underlying34 hi hz0 hz1 hz2 rfl (by decide) (.slice none 0 0) 0 [] rfl (World.ownsRow_nil _ _ _ _) ⟨g, 0, none⟩ i _ ((rows.take i).map S) rfl (by simp; omega) hnw0 (one_strs _) (by unfold maxLen; omega) (by omega) (Nat.le_refl _) ?_; intro v4 w4 hown4 hgrow4 hnn4; clear hnn4; have hB4 : Below u4.heap.size u4 w4 := below_grown (Below.refl _ _) hgrow4 (World.ownsRow_nil u4 u4.heap.size 9 1) (Nat.le_refl _) (Nat.le_refl _); clear hgrow4; rw [List.nil_append, Nat.zero_add] at hown4; obtain ⟨a4, c4, rfl⟩ := own_form hown4)
          | (at_builtin; refine wpList_append_own _ rfl _ _ 34 rfl u4.heap.size 9 i0 (.string ⟨#[]⟩) 1 16 Tryd.underlying34 hi hz0 hz1 hz2 rfl (by decide) _ _ _ rfl hown4 ⟨g, 0, none⟩ (rows.length - (i + 1)) _ ((rows.drop (i + 1)).map S) rfl (by simp) (unhide HNA _ (by assumption)) (one_strs _) (by unfold maxLen; omega) (by omega) hB4.size ?_; intro v5 w5 hown5 hgrow5 hnn5; clear hnn5; have hB5 : Below u4.heap.size u4 w5 := below_grown hB4 hgrow5 hown4 (Nat.le_refl _) hB4.size; clear hgrow5; rw [unhide HM, unhide HL2] at hown5; obtain ⟨a5, c5, rfl⟩ := own_form hown5)
          | (at_builtin; refine wpList_append_own _ rfl _ _ 34 rfl u4.heap.size 9 i0 (.string ⟨#[]⟩) 1 16 Tryd.underlying34 hi hz0 hz1 hz2 rfl (by decide) _ _ _ rfl hown4 ⟨g, i + 1, none⟩ (rows.length - (i + 1)) _ ((rows.drop (i + 1)).map S) rfl (by simp) (unhide HNB _ hB4) (one_strs _) (by unfold maxLen; omega) (by omega) hB4.size ?_; intro v5 w5 hown5 hgrow5 hnn5; clear hnn5; have hB5 : Below u4.heap.size u4 w5 := below_grown hB4 hgrow5 hown4 (Nat.le_refl _) hB4.size; clear hgrow5; rw [unhide HM, unhide HL2] at hown5; obtain ⟨a5, c5, rfl⟩ := own_form hown5))
        refine (kjoined_any u4.heap.size rows2 a5 c5 w5 hown5 (by have := unhide HJ2; omega)).mono ?_
        rintro e u6 ⟨rfl, b6⟩
        have hB5' := hB3.trans (hB5.mono hB3.size)
        have hB6 := hB5'.trans (b6.mono hB5'.size)
        clear hown5 hown4
        go_wp2_with fail
        refine (kkind_any (joinN rows2) u6 (ht.later hB6)).mono ?_
        rintro e u7 ⟨rfl, b7⟩
        have hB7 := hB6.trans (b7.mono hB6.size)
        generalize vkind (joinN rows2) = vk7 at *
        obtain ⟨k7, p7⟩ := vk7
        dsimp only at HLESS ⊢
        by_cases h02 : k0 = 2
        · have h72 : k7 = 2 := unhide HLESS h02
          have hy1 : ((k0 : Int) == 2) = true := by rw [beq_iff_eq]; omega
          have hy2 : (k0 == 2) = true := by rw [beq_iff_eq]; omega
          have hx1 : ((k7 : Int) == 2) = true := by rw [beq_iff_eq]; omega
          have hx2 : (k7 == 2) = true := by rw [beq_iff_eq]; omega
          have hx3 : ((k7 : Int) != 2) = false := by rw [bne, hx1]; rfl
          clear h02 h72
          go_wp2_with fail
          refine (kstarts_any t 99 u7 (by omega)).mono ?_
          rintro e u8 ⟨rfl, b8⟩
          have hB8 := hB7.trans (b8.mono hB7.size)
          by_cases hst : (t.head? == some 99) = true
          · have HM := hide (fewer_more (unhide HT) (show t.head? = some 99 by simpa using hst))
            rw [hst]
            clear hst
            have hEE : ByteArray.mk l.toArray ++ ByteArray.mk t.toArray ++ ⟨#[10]⟩ = ⟨(l ++ t ++ [10]).toArray⟩ := by rw [ba_append l t]; exact ba_append (l ++ t) [10]
            rw [unhide HVK] at HM
            generalize l ++ t ++ [10] = lt at HM hEE
            go_wp2_with fail
            refine (kkind_any lt u8 (ht.later hB8)).mono ?_
            rintro e u9 ⟨rfl, b9⟩
            have hB9 := hB8.trans (b9.mono hB8.size)
            clear hEE
            generalize vkind lt = vk9 at *
            obtain ⟨k9, p9⟩ := vk9
            dsimp only at HM ⊢
            by_cases h90 : k9 = 0
            · have hz1 : ((k9 : Int) == 0) = true := by rw [beq_iff_eq]; omega
              have hz2 : (k9 == 0) = true := by rw [beq_iff_eq]; omega
              clear h90
              go_wp2_with fail
              go_ret
              exact ⟨rfl, hB9⟩
            · have hz1 : ((k9 : Int) == 0) = false := by rw [beq_eq_false_iff_ne]; omega
              have hz2 : (k9 == 0) = false := by rw [beq_eq_false_iff_ne]; omega
              clear h90
              go_wp2_with fail
              go_ret
              exact ⟨rfl, hB9⟩
          · rw [show (t.head? == some 99) = false by simpa using hst]
            clear hst
            go_wp2_with fail
            go_ret
            exact ⟨rfl, hB8⟩
        · have hy1 : ((k0 : Int) == 2) = false := by rw [beq_eq_false_iff_ne]; omega
          have hy2 : (k0 == 2) = false := by rw [beq_eq_false_iff_ne]; omega
          have HNE := hide h02
          clear h02
          go_wp2_with fail
          refine (kstarts_any t 99 u7 (by omega)).mono ?_
          rintro e u8 ⟨rfl, b8⟩
          have hB8 := hB7.trans (b8.mono hB7.size)
          by_cases hst : (t.head? == some 99) = true
          · have HM := hide (fewer_more (unhide HT) (show t.head? = some 99 by simpa using hst))
            rw [hst]
            clear hst
            have hEE : ByteArray.mk l.toArray ++ ByteArray.mk t.toArray ++ ⟨#[10]⟩ = ⟨(l ++ t ++ [10]).toArray⟩ := by rw [ba_append l t]; exact ba_append (l ++ t) [10]
            rw [unhide HVK] at HM
            generalize l ++ t ++ [10] = lt at HM hEE
            go_wp2_with fail
            refine (kkind_any lt u8 (ht.later hB8)).mono ?_
            rintro e u9 ⟨rfl, b9⟩
            have hB9 := hB8.trans (b9.mono hB8.size)
            clear hEE
            generalize vkind lt = vk9 at *
            obtain ⟨k9, p9⟩ := vk9
            dsimp only at HM ⊢
            by_cases h90 : k9 = 0
            · have hz1 : ((k9 : Int) == 0) = true := by rw [beq_iff_eq]; omega
              have hz2 : (k9 == 0) = true := by rw [beq_iff_eq]; omega
              clear h90
              go_wp2_with fail
              go_ret
              exact ⟨rfl, hB9⟩
            · have hz1 : ((k9 : Int) == 0) = false := by rw [beq_eq_false_iff_ne]; omega
              have hz2 : (k9 == 0) = false := by rw [beq_eq_false_iff_ne]; omega
              have h91 : k9 = 1 := by have := unhide HM; have := unhide HNE; omega
              have hx1 : ((k9 : Int) == 1) = true := by rw [beq_iff_eq]; omega
              have hx2 : (k9 == 1) = true := by rw [beq_iff_eq]; omega
              clear h90 h91
              go_wp2_with fail
              go_ret
              exact ⟨rfl, hB9⟩
          · rw [show (t.head? == some 99) = false by simpa using hst]
            clear hst
            go_wp2_with fail
            go_ret
            exact ⟨rfl, hB8⟩)
    · have hd3 : decide ((P.length : Int) < (rows.length : Int)) = false := decide_eq_false (by omega)
      have hd4 : decide (P.length < rows.length) = false := decide_eq_false hC0
      clear hC0
      go_wp2_with fail
      refine (kstarts_any t 99 u3 (by omega)).mono ?_
      rintro e u8 ⟨rfl, b8⟩
      have hB8 := hB3.trans (b8.mono hB3.size)
      by_cases hst : (t.head? == some 99) = true
      · have HM := hide (fewer_more (unhide HT) (show t.head? = some 99 by simpa using hst))
        rw [hst]
        clear hst
        have hEE : ByteArray.mk l.toArray ++ ByteArray.mk t.toArray ++ ⟨#[10]⟩ = ⟨(l ++ t ++ [10]).toArray⟩ := by rw [ba_append l t]; exact ba_append (l ++ t) [10]
        rw [unhide HVK] at HM
        generalize l ++ t ++ [10] = lt at HM hEE
        go_wp2_with fail
        refine (kkind_any lt u8 (ht.later hB8)).mono ?_
        rintro e u9 ⟨rfl, b9⟩
        have hB9 := hB8.trans (b9.mono hB8.size)
        clear hEE
        generalize vkind lt = vk9 at *
        obtain ⟨k9, p9⟩ := vk9
        dsimp only at HM ⊢
        by_cases h90 : k9 = 0
        · have hz1 : ((k9 : Int) == 0) = true := by rw [beq_iff_eq]; omega
          have hz2 : (k9 == 0) = true := by rw [beq_iff_eq]; omega
          clear h90
          go_wp2_with fail
          go_ret
          exact ⟨rfl, hB9⟩
        · have hz1 : ((k9 : Int) == 0) = false := by rw [beq_eq_false_iff_ne]; omega
          have hz2 : (k9 == 0) = false := by rw [beq_eq_false_iff_ne]; omega
          by_cases h02 : k0 = 2
          · have hy1 : ((k0 : Int) == 2) = true := by rw [beq_iff_eq]; omega
            have hy2 : (k0 == 2) = true := by rw [beq_iff_eq]; omega
            clear h90 h02
            go_wp2_with fail
            go_ret
            exact ⟨rfl, hB9⟩
          · have hy1 : ((k0 : Int) == 2) = false := by rw [beq_eq_false_iff_ne]; omega
            have hy2 : (k0 == 2) = false := by rw [beq_eq_false_iff_ne]; omega
            have h91 : k9 = 1 := by have := unhide HM; omega
            have hx1 : ((k9 : Int) == 1) = true := by rw [beq_iff_eq]; omega
            have hx2 : (k9 == 1) = true := by rw [beq_iff_eq]; omega
            clear h90 h02 h91
            go_wp2_with fail
            go_ret
            exact ⟨rfl, hB9⟩
      · rw [show (t.head? == some 99) = false by simpa using hst]
        clear hst
        go_wp2_with fail
        go_ret
        exact ⟨rfl, hB8⟩
end Go.Proofs.YtgipjjhkhfihpaaDoor

namespace Go.Proofs.YtgipjjhkhfihpaaDoor
open Go.ChangeShapes Go.WideShapes Go.ChangeAt Go.ChangeMaps Go.RowKit

theorem i64_wf2 {x : Int} (h : (Lit.int .i64 x).wf = true) : -9223372036854775808 ≤ x ∧ x ≤ 9223372036854775807 := bounds_i64 h
theorem fewer_met (os : Os) (args : Array Value) : laidMetH Tryd.prog Rows.fewerRow.laid ((World.doorLaid Tryd.prog 400 os).forCall (fun _ _ => 0) ⟨#[], args, []⟩).memory :=
  laidMetH_of_parts3 (fuel := 8) (laidMet_of_run' 8 (by kernel_rfl) (by kernel_rfl)) (by kernel_rfl) (by kernel_rfl)
theorem fewer_tab {W : World} (h : laidMetH Tryd.prog Rows.fewerRow.laid W) : TabAt W := by
  have hf : (Rows.fewerRow.laid.filter fun x => x.2.handleName?.isSome) = [] := by rfl
  unfold laidMetH at h
  rw [hf] at h
  exact tab_of_third2 h
set_option maxRecDepth 100000 in
set_option maxHeartbeats 800000 in
theorem fewer_any (l : List UInt8) (a : Int) (t : List UInt8) (w : World) (ht : TabAt w) (ha1 : -9223372036854775808 ≤ a) (ha2 : a ≤ 9223372036854775807) :
    Calls Tryd.prog 5 #[.string ⟨l.toArray⟩, .int .i64 a, .string ⟨t.toArray⟩] w fun e w' => e = .returned (.bool true) ∧ Below w.heap.size w w' := by
  by_cases hl : 8192 < l.length
  · have hd : decide ((8192 : Int) < (l.length : Int)) = true := decide_eq_true (by omega)
    have hd2 : decide (8192 < l.length) = true := decide_eq_true hl
    clear hl
    go_enter Tryd.func5, Tryd.ntmps5
    go_wp2_with fail
    go_ret
    exact ⟨rfl, Below.refl _ _⟩
  · have hd : decide ((8192 : Int) < (l.length : Int)) = false := decide_eq_false (by omega)
    have hd2 : decide (8192 < l.length) = false := decide_eq_false hl
    have HL : Hid (l.length ≤ 8192) := hide (by omega)
    clear hl
    by_cases hl : 8192 < t.length
    · have hd3 : decide ((8192 : Int) < (t.length : Int)) = true := decide_eq_true (by omega)
      have hd4 : decide (8192 < t.length) = true := decide_eq_true hl
      clear hl
      go_enter Tryd.func5, Tryd.ntmps5
      go_wp2_with fail
      go_ret
      exact ⟨rfl, Below.refl _ _⟩
    · have hd3 : decide ((8192 : Int) < (t.length : Int)) = false := decide_eq_false (by omega)
      have hd4 : decide (8192 < t.length) = false := decide_eq_false hl
      have HT : Hid (t.length ≤ 8192) := hide (by omega)
      clear hl
      go_enter Tryd.func5, Tryd.ntmps5
      go_wp2_with fail
      refine (anchored_any l w ht).mono ?_
      rintro e u1 ⟨rfl, b1⟩
      go_wp2_with fail
      refine (kfewer_any l t a u1 (ht.later b1) (unhide HL) (unhide HT) ha1 ha2).mono ?_
      rintro e u2 ⟨rfl, b2⟩
      go_wp2_with fail
      go_ret
      exact ⟨rfl, b1.trans (b2.mono b1.size)⟩

set_option maxHeartbeats 1600000 in
set_option maxRecDepth 100000 in
theorem fewer_lifted (os : Os) (started : os.Started) (H : Type) (enc : TypeId × Value → H) (F : Stop.Interp) :
    ReturnsInHanded {} Tryd.checked os 5 .any ((OpenSpec.ofChange Rows.fewerSpec).preRow enc Tryd.prog Tryd.f5 Rows.fewerRow.domain false Rows.fewerRow.laid) (((OpenSpec.ofChange Rows.fewerSpec).at F).post enc Tryd.prog Tryd.f5 false true false false) := by
  obtain ⟨places, hx⟩ : ∃ places, DataW.whole enc Tryd.prog ((World.doorLaid Tryd.prog 400 os).forCall (fun _ _ => 0) ⟨#[], #[.string ⟨#[]⟩, .int .i64 0, .string ⟨#[]⟩], []⟩).memory Tryd.f5.params.toList Rows.fewerSpec.vars false #[Value.string ⟨#[]⟩, Value.int .i64 0, Value.string ⟨#[]⟩].toList 8 = some ([.lit (.string []), .lit (.int .i64 0), .lit (.string [])], [], places) := ⟨[], by kernel_rfl⟩
  refine returnsInHanded_of_row (C := Tryd.checked) (s := OpenSpec.ofChange Rows.fewerSpec) (show ownKnob Tryd.prog.godebug = none by kernel_rfl) started (by kernel_rfl) Tryd.func5
    (witness_row_at (enc := enc) (C := Tryd.checked) false (World.doorLaid Tryd.prog 400 os) #[.string ⟨#[]⟩, .int .i64 0, .string ⟨#[]⟩] rfl (by kernel_rfl) (by kernel_rfl) (by kernel_rfl)
      (OpenSpec.preRow_of_cond 8 hx (by kernel_rfl) (fun k hk => by cases hk) (by kernel_rfl) (fewer_met os _))) ?_
  intro W base args ds gs before hval0 hW _ _ _ hL _ _
  have hval : ∀ (j : Nat) t v, Tryd.f5.params[j]? = some t → args[j]? = some v → Value.okWide Tryd.prog W .any base t v := hval0
  have hW' := hW
  obtain ⟨p, q, hA0, hV, rfl, hfz, hnd⟩ := hW
  have hA : DataW.TrodAll enc Tryd.prog W 0 (fun _ => true) true Tryd.f5.params.toList args.toList ds p := hA0
  rw [Tryd.params5] at hA hval
  obtain ⟨v0, vs0, d0, ds0, p0, q0, hargs0, rfl, rfl, h0, r0⟩ := trodAll_cons hA
  obtain ⟨v1, vs1, d1, ds1, p1, q1, hargs1, rfl, rfl, h1, r1⟩ := trodAll_cons r0
  obtain ⟨v2, vs2, d2, ds2, p2, q2, hargs2, rfl, rfl, h2, r2⟩ := trodAll_cons r1
  obtain ⟨rfl, rfl, rfl⟩ := trodAll_nil r2
  obtain rfl : args = #[v0, v1, v2] := by cases args; simp_all
  obtain ⟨rfl, rfl⟩ := trodVars_none hV
  obtain ⟨s0, rfl, rfl, rfl, w0⟩ := open_string Tryd.underlying9 (hval 0 9 v0 rfl rfl) h0
  obtain ⟨i1, rfl, rfl, rfl, w1⟩ := open_int Tryd.underlying3 (hval 1 3 v1 rfl rfl) h1
  have hb1 := i64_wf2 w1
  obtain ⟨s2, rfl, rfl, rfl, w2⟩ := open_string Tryd.underlying9 (hval 2 9 v2 rfl rfl) h2
  clear hA0 hval0
  simp only [List.append_nil] at hW'
  obtain ⟨l0, hl0⟩ : ∃ l : List UInt8, s0 = ⟨l.toArray⟩ := ⟨s0.data.toList, by simp⟩
  subst hl0
  obtain ⟨l2, hl2⟩ : ∃ l : List UInt8, s2 = ⟨l.toArray⟩ := ⟨s2.data.toList, by simp⟩
  subst hl2
  refine (fewer_any l0 i1 l2 W (fewer_tab hL) hb1.1 hb1.2).mono fun e W' ⟨he, bel⟩ => ?_
  subst he
  exact ⟨_, rfl, _, _, _, [], _, [], hW', trodAll_mk1 (shut_bool Tryd.underlying4 _), trodAll_mk3 (shut_string Tryd.underlying9 w0) (shut_int Tryd.underlying3 w1) (shut_string Tryd.underlying9 w2), rfl, bel.frame _, fun h => by cases h⟩

theorem fewer_said : Rows.FewerSaid :=
  OpenClaim.holds_of_cond 5 Tryd.f5 rfl rfl rfl rfl rfl rfl rfl ⟨rfl, rfl, rfl, rfl, rfl⟩ rfl rfl rfl rfl rfl (by kernel_rfl) Tryd.func5 (by kernel_rfl)
    (of_decide_eq_true (by kernel_rfl)) (by unfold Func.isWrapper; first | (rw [if_pos (by decide +kernel)]; kernel_rfl) | (rw [if_neg (by decide +kernel)]; exact ⟨rfl, rfl⟩))
    (fun os started H enc _ F => by rw [OpenClaim.pre_eq_preRow]; exact fewer_lifted os started H enc F)
/-- No parameter wants a stand-in; the program's own looks are off. -/
theorem fewer_plain (f : FuncId) (fn : Func) (hf : Tryd.pinned.checked.prog.funcNamed "duel/duelkeep.Fewer" = some f) (hfn : Tryd.pinned.checked.prog.funcs[f]? = some fn) :
    false = Tryd.pinned.checked.prog.looks [] ∧ ∀ (j : Nat) t, fn.params[j]? = some t → Tryd.pinned.checked.prog.wantsStandIn t = false := by
  obtain rfl : f = 5 := Option.some.inj ((show Tryd.prog.funcNamed "duel/duelkeep.Fewer" = some 5 by kernel_rfl).symm.trans hf) |>.symm
  obtain rfl : fn = Tryd.f5 := (Option.some.inj (Tryd.func5.symm.trans hfn)).symm
  refine ⟨by kernel_rfl, fun j t ht => ?_⟩
  rw [Tryd.params5] at ht
  have h2 : t = 9 ∨ t = 3 := by
    have := Array.mem_of_getElem? ht
    simp at this
    first
      | exact this
      | omega
      | (rcases this with h | h | h <;> simp [h])
  rcases h2 with rfl | rfl
  · exact (show Tryd.prog.wantsStandIn 9 = false by kernel_rfl)
  · exact (show Tryd.prog.wantsStandIn 3 = false by kernel_rfl)
theorem fewer_holds : Rows.FewerCardSaid :=
  Claim7.holds_tied_plain_at .later [] _ _ _ _ fewer_said (fun _ h => by cases h) (by kernel_rfl) (fun _ h => by cases h) fewer_row_tie rfl ⟨rfl, rfl⟩ (by kernel_rfl) rfl fewer_plain (by kernel_rfl)
#print axioms fewer_holds
end Go.Proofs.YtgipjjhkhfihpaaDoor
