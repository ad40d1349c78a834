import Derived.Test.YtgipjjhkhfihpabDoorAI
import Derived.Test.YtgipjjhkhfihpabDoorAF
import Derived.Test.YtgipjjhkhfihpabDoorAA
import Derived.Test.YtgipjjhkhfihpabDoorAC
import Derived.Deep.LoopGhost
namespace Go.Proofs.YtgipjjhkhfihpabDoor
open Go.RowKit

theorem rest_mem (qs : List (Bool × List Nat)) (v : Nat) : v ∈ restN qs ↔ (1 ≤ v ∧ v ≤ 8) ∧ v ∉ toldP qs := by
  unfold restN
  rw [List.mem_filter, List.mem_map]
  constructor
  · rintro ⟨⟨u, hu, rfl⟩, h⟩
    have : u < 8 := by simpa using hu
    exact ⟨by omega, by simpa using h⟩
  · rintro ⟨⟨h1, h8⟩, h⟩
    exact ⟨⟨v - 1, by simp; omega, by omega⟩, by simpa using h⟩
theorem rest_nodup (qs : List (Bool × List Nat)) : (restN qs).Nodup := by
  unfold restN
  refine List.Pairwise.filter _ ?_
  rw [List.pairwise_map]
  exact List.pairwise_lt_range.imp (fun h => by omega)
theorem full_nodup (qs : List (Bool × List Nat)) (hn : (toldP qs).Nodup) : (restN qs ++ toldP qs).Nodup := by
  rw [List.nodup_append]
  refine ⟨rest_nodup qs, hn, ?_⟩
  intro a ha b hb e
  subst e
  exact ((rest_mem qs a).1 ha).2 hb
theorem full_mem (qs : List (Bool × List Nat)) (v : Nat) (h1 : 1 ≤ v) (h8 : v ≤ 8) : v ∈ restN qs ++ toldP qs := by
  by_cases h : v ∈ toldP qs
  · exact List.mem_append_right _ h
  · exact List.mem_append_left _ ((rest_mem qs v).2 ⟨⟨h1, h8⟩, h⟩)
theorem rest_exists (qs : List (Bool × List Nat)) (v : Nat) (h : v ∉ toldP qs) : (allN qs).testBit v = false := by
  rw [allN_bit, List.any_eq_false]
  intro z hz hh
  rw [Bool.and_eq_true, List.any_eq_true] at hh
  obtain ⟨_, u, hu, he⟩ := hh
  have he' : u = v := by simpa using he
  subst he'
  exact h (List.mem_flatMap.2 ⟨z, hz, hu⟩)

/-! ### A variable turned -/
structure FlipC (x : Nat) (c c' : Nat × Nat) : Prop where
  p : c'.1.testBit x = c.2.testBit x
  n : c'.2.testBit x = c.1.testBit x
  rp : ∀ u, u ≠ x → c'.1.testBit u = c.1.testBit u
  rn : ∀ u, u ≠ x → c'.2.testBit u = c.2.testBit u
theorem FlipC.symm {x : Nat} {c c' : Nat × Nat} (h : FlipC x c c') : FlipC x c' c := ⟨h.n.symm, h.p.symm, fun u hu => (h.rp u hu).symm, fun u hu => (h.rn u hu).symm⟩
theorem Flip.symm {x t t' : Nat} (h : Flip x t t') : Flip x t' t := ⟨by rw [h.1]; simp, fun u hu => (h.2 u hu).symm⟩
theorem flip_sat {x : Nat} {c c' : Nat × Nat} {t t' : Nat} (hc : FlipC x c c') (ht : Flip x t t') (h : satC c t = true) : satC c' t' = true := by
  rw [satC_iff] at *
  obtain ⟨v, h⟩ := h
  refine ⟨v, ?_⟩
  by_cases e : v = x
  · subst e
    rw [hc.p, hc.n, ht.1]
    rcases h with h | h
    · exact Or.inr ⟨h.1, by rw [h.2]; rfl⟩
    · exact Or.inl ⟨h.1, by rw [h.2]; rfl⟩
  · rw [hc.rp v e, hc.rn v e, ht.2 v e]; exact h
theorem truth_turned (qs : List (Bool × List Nat)) (cs cs' : List (Nat × Nat)) (x : Nat) (h1 : 1 ≤ x) (h8 : x ≤ 8) (hn : (toldP qs).Nodup) (ha : ∀ c ∈ cs, ∃ c' ∈ cs', FlipC x c c') (hb : ∀ c' ∈ cs', ∃ c ∈ cs, FlipC x c c') : truthN qs cs' = truthN qs cs := by
  rw [truth_full, truth_full]
  refine fromL_turned x ?_ _ (full_nodup qs hn) (full_mem qs x h1 h8) 0 (by simp)
  intro t t' ht
  rw [Bool.eq_iff_iff, satB_iff, satB_iff]
  constructor
  · intro h c hc
    obtain ⟨c', hc', hf⟩ := ha c hc
    exact flip_sat hf.symm ht.symm (h c' hc')
  · intro h c' hc'
    obtain ⟨c, hc, hf⟩ := hb c' hc'
    exact flip_sat hf ht (h c hc)

/-! ### Other names -/
theorem fromL_perm {sat : Nat → Bool} {all : Nat} {a a' : List Nat} (hp : a.Perm a') : (∀ v ∈ a, all.testBit v = false) → ∀ (b : List Nat) (t : Nat), fromL sat all (a ++ b) t = fromL sat all (a' ++ b) t := by
  induction hp with
  | nil => intro _ b t; rfl
  | cons x _ ih =>
    intro h b t
    exact fromL_ctx_eq (sat := sat) (sat' := sat) [x] (fun t => ih (fun v hv => h v (by simp [hv])) b t) t
  | swap x y l =>
    intro h b t
    exact fromL_same y x (by rw [h y (by simp), h x (by simp)]) (l ++ b) t
  | trans h1 _ ih1 ih2 =>
    intro h b t
    rw [ih1 h b t, ih2 (fun v hv => h v (h1.symm.subset hv)) b t]
theorem truth_named (qs qs' : List (Bool × List Nat)) (cs cs' : List (Nat × Nat)) (r : Nat → Nat) (hr : ∀ a b, r a = r b → a = b) (hr8 : ∀ v, (1 ≤ r v ∧ r v ≤ 8) ↔ (1 ≤ v ∧ v ≤ 8)) (hon : ∀ v, 1 ≤ v → v ≤ 8 → ∃ u, r u = v)
    (hq : qs' = qs.map (fun x => (x.1, x.2.map r))) (hc : ∀ t t', (∀ v, t'.testBit (r v) = t.testBit v) → satB cs' t' = satB cs t) : truthN qs' cs' = truthN qs cs := by
  have htold : toldP qs' = (toldP qs).map r := by
    subst hq
    unfold toldP
    rw [List.flatMap_map, List.map_flatMap]
  have hall : ∀ v, (allN qs').testBit (r v) = (allN qs).testBit v := by
    intro v
    rw [allN_bit, allN_bit, hq, List.any_map]
    congr 1
    funext x
    simp only [Function.comp]
    congr 1
    rw [List.any_map]
    congr 1
    funext u
    simp only [Function.comp]
    rw [Bool.eq_iff_iff, beq_iff_eq, beq_iff_eq]
    exact ⟨fun h => hr _ _ h, fun h => by rw [h]⟩
  rw [truth_full, truth_full]
  have hperm : (restN qs').Perm ((restN qs).map r) := by
    apply (List.perm_ext_iff_of_nodup (rest_nodup qs') ?_).2
    · intro v
      rw [rest_mem, List.mem_map]
      constructor
      · rintro ⟨⟨h1, h8⟩, hv⟩
        obtain ⟨u, hu⟩ := hon v h1 h8
        subst hu
        refine ⟨u, (rest_mem qs u).2 ⟨(hr8 u).1 ⟨h1, h8⟩, fun hm => hv ?_⟩, rfl⟩
        rw [htold]; exact List.mem_map_of_mem hm
      · rintro ⟨u, hu, rfl⟩
        rw [rest_mem] at hu
        refine ⟨(hr8 u).2 hu.1, fun hm => hu.2 ?_⟩
        rw [htold, List.mem_map] at hm
        obtain ⟨z, hz, he⟩ := hm
        rw [← hr _ _ he]; exact hz
    · exact List.Pairwise.map r (fun a b hab e => hab (hr _ _ e)) (rest_nodup qs)
  rw [fromL_perm hperm (fun v hv => rest_exists qs' v ((rest_mem qs' v).1 hv).2), htold, ← List.map_append]
  exact fromL_named r hr hc _ (fun v _ => hall v) 0 0 (fun v => by simp)

/-! ### An innermost variable more -/
theorem fromL_ctx_on {sat sat' : Nat → Bool} {all all' : Nat} (x : Nat) (a : List Nat) {vs vs' : List Nat} (hx : x ∉ a) (ha : ∀ v ∈ a, all.testBit v = all'.testBit v) (h : ∀ t, t.testBit x = false → fromL sat all vs t = fromL sat' all' vs' t) : ∀ t, t.testBit x = false → fromL sat all (a ++ vs) t = fromL sat' all' (a ++ vs') t := by
  induction a with
  | nil => exact h
  | cons v a ih =>
    intro t ht
    rw [List.mem_cons, not_or] at hx
    have ih' := ih hx.2 (fun u hu => ha u (by simp [hu]))
    have hv : v ≠ x := Ne.symm hx.1
    rw [List.cons_append, List.cons_append, fromL_step, fromL_step, ih' _ (by rw [bit_or, ht]; simp [hv]), ih' t ht, ha v (by simp)]
theorem told_last (qs : List (Bool × List Nat)) (k : Bool) (x : Nat) : toldP (qs ++ [(k, [x])]) = toldP qs ++ [x] := by simp [toldP]
theorem rest_last (qs : List (Bool × List Nat)) (k : Bool) (x : Nat) : restN (qs ++ [(k, [x])]) = (restN qs).filter (fun v => v != x) := by
  unfold restN
  rw [List.filter_filter]
  congr 1
  funext v
  rw [told_last]
  by_cases e : v = x
  · subst e; simp
  · simp [e]
theorem all_last (qs : List (Bool × List Nat)) (k : Bool) (x v : Nat) (h : v ≠ x) : (allN (qs ++ [(k, [x])])).testBit v = (allN qs).testBit v := by
  rw [allN_bit, allN_bit, List.any_append]
  simp [Ne.symm h]
/-- One core for all three. -/
theorem truth_last (qs : List (Bool × List Nat)) (cs cs' : List (Nat × Nat)) (k : Bool) (x : Nat) (hx : x ∉ toldP qs) (hi : cs.any (fun c => (c.1 ||| c.2).testBit x) = false)
    (hl : ∀ t, t.testBit x = false → fromL (satB cs') (allN (qs ++ [(k, [x])])) [x] t = satB cs t) : truthN (qs ++ [(k, [x])]) cs' = truthN qs cs := by
  rw [truth_full, truth_full, rest_last, told_last, ← List.append_assoc]
  have hnx : x ∉ (restN qs).filter (fun v => v != x) ++ toldP qs := by
    rw [List.mem_append, not_or]
    refine ⟨?_, hx⟩
    rw [List.mem_filter]
    rintro ⟨_, h⟩
    simp at h
  have e1 := fromL_ctx_on (sat := satB cs') (sat' := satB cs) (all := allN (qs ++ [(k, [x])])) (all' := allN qs) x ((restN qs).filter (fun v => v != x) ++ toldP qs) (vs := [x]) (vs' := []) hnx
    (fun v hv => all_last qs k x v (fun e => hnx (e ▸ hv))) (fun t ht => hl t ht) 0 (by simp)
  rw [e1, List.append_nil]
  refine fromL_filter (satB cs) (allN qs) (fun v => v != x) (restN qs) (toldP qs) ?_ 0
  intro v _ hv t
  have : v = x := by simpa using hv
  subst this
  exact sat_idle cs v hi t
theorem last_idle (qs : List (Bool × List Nat)) (cs : List (Nat × Nat)) (k : Bool) (x : Nat) (hx : x ∉ toldP qs) (hi : cs.any (fun c => (c.1 ||| c.2).testBit x) = false) : truthN (qs ++ [(k, [x])]) cs = truthN qs cs := by
  refine truth_last qs cs cs k x hx hi ?_
  intro t _
  rw [fromL_step]
  show (if _ then satB cs (t ||| 2 ^ x) && satB cs t else satB cs (t ||| 2 ^ x) || satB cs t) = satB cs t
  rw [sat_idle cs x hi]
  cases (allN (qs ++ [(k, [x])])).testBit x <;> cases satB cs t <;> rfl
theorem last_clause (qs : List (Bool × List Nat)) (cs : List (Nat × Nat)) (x : Nat) (hx : x ∉ toldP qs) (hi : cs.any (fun c => (c.1 ||| c.2).testBit x) = false) : truthN (qs ++ [(false, [x])]) (cs ++ [(0, 2 ^ x)]) = truthN qs cs := by
  refine truth_last qs cs _ false x hx hi ?_
  intro t ht
  have hall : (allN (qs ++ [(false, [x])])).testBit x = false := by
    rw [allN_bit, List.any_append, Bool.or_eq_false_iff]
    refine ⟨?_, by simp⟩
    rw [← allN_bit]; exact rest_exists qs x hx
  rw [fromL_step, hall]
  show (satB (cs ++ [(0, 2 ^ x)]) (t ||| 2 ^ x) || satB (cs ++ [(0, 2 ^ x)]) t) = satB cs t
  have hb : ∀ u, satB (cs ++ [(0, 2 ^ x)]) u = (satB cs u && satC (0, 2 ^ x) u) := fun u => by unfold satB; rw [List.all_append]; simp
  have h1 : satC (0, 2 ^ x) (t ||| 2 ^ x) = false := by
    cases hh : satC (0, 2 ^ x) (t ||| 2 ^ x) with
    | false => rfl
    | true =>
      rw [satC_iff] at hh
      obtain ⟨v, h | h⟩ := hh
      · simp at h
      · have e : x = v := by
          have h1 := h.1
          rw [Nat.testBit_two_pow] at h1
          simpa using h1
        subst e
        rw [bit_or] at h
        simp at h
  have h2 : satC (0, 2 ^ x) t = true := by
    rw [satC_iff]
    exact ⟨x, Or.inr ⟨by rw [Nat.testBit_two_pow]; simp, ht⟩⟩
  rw [hb, hb, h1, h2]; simp
end Go.Proofs.YtgipjjhkhfihpabDoor

namespace Go.Proofs.YtgipjjhkhfihpabDoor
open Go.RowKit

theorem cutAt_join (m : List (List UInt8)) (h : ∀ r ∈ m, (10 : UInt8) ∉ r) : cutAt 10 (joinN m) = m ++ [[]] := by
  unfold cutAt cutTo
  rw [cut_join m h []]
  simp
/-- No line has a newline; the lines joined are the text, but for what stands behind the last newline. -/
theorem cut_inv (l : List UInt8) : ∀ (st : List (List UInt8) × List UInt8), (∀ r ∈ st.1, (10 : UInt8) ∉ r) → (10 : UInt8) ∉ st.2 → (∀ r ∈ (l.foldl (cutStep 10) st).1, (10 : UInt8) ∉ r) ∧ joinN (l.foldl (cutStep 10) st).1 ++ (l.foldl (cutStep 10) st).2 = joinN st.1 ++ st.2 ++ l := by
  induction l with
  | nil => intro st h1 _; exact ⟨h1, by simp⟩
  | cons b l ih =>
    intro st h1 h2
    rw [List.foldl_cons]
    by_cases hb : b = 10
    · have e : cutStep 10 st b = (st.1 ++ [st.2], []) := by unfold cutStep; rw [if_pos hb]
      rw [e]
      have := ih (st.1 ++ [st.2], []) (by
        intro r hr
        rcases List.mem_append.1 hr with hr | hr
        · exact h1 r hr
        · simp at hr; subst hr; exact h2) (by simp)
      refine ⟨this.1, ?_⟩
      rw [this.2, hb]
      simp [joinN]
    · have e : cutStep 10 st b = (st.1, st.2 ++ [b]) := by unfold cutStep; rw [if_neg hb]
      rw [e]
      have := ih (st.1, st.2 ++ [b]) h1 (by
        intro hh
        rcases List.mem_append.1 hh with hh | hh
        · exact h2 hh
        · simp at hh; exact hb hh.symm)
      refine ⟨this.1, ?_⟩
      rw [this.2]
      simp
theorem lines_no_nl (l : List UInt8) : ∀ r ∈ (cutTo 10 l).1, (10 : UInt8) ∉ r := (cut_inv l ([], []) (by simp) (by simp)).1
theorem lines_join (l : List UInt8) (h : (cutTo 10 l).2 = []) : joinN (cutTo 10 l).1 = l := by
  have := (cut_inv l ([], []) (by simp) (by simp)).2
  have e : joinN (cutTo 10 l).1 ++ (cutTo 10 l).2 = l := by
    unfold cutTo
    rw [this]; simp [joinN]
  rw [h, List.append_nil] at e
  exact e

/-! ### Prefix and clauses -/
theorem prefs_snoc (P : List (List UInt8)) (r : List UInt8) (qs : List (Bool × List Nat)) (x : Bool × List Nat) (h : prefs P = some qs) (hr : prefRow r = some x) : prefs (P ++ [r]) = some (qs ++ [x]) := by
  induction P generalizing qs with
  | nil => simp [prefs] at h; subst h; simp [prefs, hr]
  | cons p P ih =>
    rw [prefs] at h
    cases hp : prefRow p with
    | none => rw [hp] at h; cases h
    | some y =>
      cases hP : prefs P with
      | none => rw [hp, hP] at h; cases h
      | some ys =>
        rw [hp, hP] at h
        have h' : y :: ys = qs := Option.some.inj h
        subst h'
        rw [List.cons_append, prefs, hp, ih ys hP]
        rfl
theorem norm_split (rows : List (List UInt8)) : ∀ (ps : List (Bool × List Nat)) (qs : List (Bool × List Nat)) (cs : List (Nat × Nat)), norm ps rows = some (qs, cs) → ∃ P C qs', rows = P ++ C ∧ prefs P = some qs' ∧ qs = ps ++ qs' ∧ cls C = some cs ∧ ((toldP ps).Nodup → (toldP qs).Nodup) := by
  induction rows with
  | nil =>
    intro ps qs cs h
    simp [norm] at h
    obtain ⟨rfl, rfl⟩ := h
    exact ⟨[], [], [], rfl, rfl, by simp, rfl, fun h => h⟩
  | cons r rows ih =>
    intro ps qs cs h
    rw [norm] at h
    cases hr : prefRow r with
    | some x =>
      rw [hr] at h
      dsimp only at h
      by_cases hd : (toldP (ps ++ [x])).Nodup
      · rw [if_pos hd] at h
        obtain ⟨P, C, qs', h1, h2, h3, h4, h5⟩ := ih _ _ _ h
        refine ⟨r :: P, C, x :: qs', by rw [h1]; rfl, by rw [prefs, hr, h2], by rw [h3]; simp, h4, fun _ => h5 hd⟩
      · rw [if_neg hd] at h; cases h
    | none =>
      rw [hr] at h
      dsimp only at h
      cases hc : cls (r :: rows) with
      | none => rw [hc] at h; cases h
      | some ds =>
        rw [hc] at h
        have h' : (ps, ds) = (qs, cs) := Option.some.inj h
        injection h' with e1 e2
        subst e1 e2
        exact ⟨[], r :: rows, [], rfl, rfl, by simp, hc, fun h => h⟩
theorem cl_not_pref (r : List UInt8) (c : Nat × Nat) (h : clRow r = some c) : prefRow r = none := by
  cases hp : prefRow r with
  | none => rfl
  | some x => rw [pref_not_cl r x hp] at h; cases h
theorem norm_cls (C : List (List UInt8)) (cs : List (Nat × Nat)) (h : cls C = some cs) (ps : List (Bool × List Nat)) : norm ps C = some (ps, cs) := by
  cases C with
  | nil => simp [cls] at h; subst h; rfl
  | cons r C =>
    have hc : ∃ c, clRow r = some c := by
      rw [cls] at h
      cases hr : clRow r with
      | none => rw [hr] at h; cases h
      | some c => exact ⟨c, rfl⟩
    obtain ⟨c, hc⟩ := hc
    rw [norm, cl_not_pref r c hc]
    dsimp only
    rw [h]; rfl
theorem toldP_app (a b : List (Bool × List Nat)) : toldP (a ++ b) = toldP a ++ toldP b := by simp [toldP]
theorem norm_join (P : List (List UInt8)) : ∀ (C : List (List UInt8)) (ps qs : List (Bool × List Nat)) (cs : List (Nat × Nat)), prefs P = some qs → cls C = some cs → (toldP (ps ++ qs)).Nodup → norm ps (P ++ C) = some (ps ++ qs, cs) := by
  induction P with
  | nil =>
    intro C ps qs cs h1 h2 _
    simp [prefs] at h1; subst h1
    rw [List.nil_append, List.append_nil]
    exact norm_cls C cs h2 ps
  | cons r P ih =>
    intro C ps qs cs h1 h2 hn
    rw [prefs] at h1
    cases hr : prefRow r with
    | none => rw [hr] at h1; cases h1
    | some x =>
      cases hP : prefs P with
      | none => rw [hr, hP] at h1; cases h1
      | some ys =>
        rw [hr, hP] at h1
        have h' : x :: ys = qs := Option.some.inj h1
        subst h'
        have e : ps ++ x :: ys = ps ++ [x] ++ ys := by simp
        rw [List.cons_append, norm, hr]
        dsimp only
        rw [if_pos, ih C (ps ++ [x]) ys cs hP h2 (by rw [← e]; exact hn), ← e]
        rw [e, toldP_app, List.nodup_append] at hn
        exact hn.1
/-- A TEXT THAT IS A FORMULA: its prefix and its clauses. -/
structure TextIs (l : List UInt8) (P C : List (List UInt8)) (qs : List (Bool × List Nat)) (cs : List (Nat × Nat)) : Prop where
  len : l.length ≤ 2000
  text : l = joinN (P ++ C)
  nl : ∀ r ∈ P ++ C, (10 : UInt8) ∉ r
  prefs : prefs P = some qs
  cls : cls C = some cs
  c24 : cs.length ≤ 24
  nodup : (toldP qs).Nodup
theorem text_of (l : List UInt8) (F : Form) (h : readSpec l = .inr F) : ∃ P C qs cs, TextIs l P C qs cs ∧ F = formN qs cs := by
  have hr := readSpec_norm l
  rw [h] at hr
  obtain ⟨h1, h2, qs, cs, st, h3, h4, h5, h6, h7⟩ := hr
  have e1 : (cutAt 10 l).dropLast = (cutTo 10 l).1 := by unfold cutAt; simp
  have e2 : (cutTo 10 l).2 = [] := by
    unfold cutAt at h2
    simpa using h2
  rw [e1] at h3
  obtain ⟨P, C, qs', g1, g2, g3, g4, _⟩ := norm_split _ _ _ _ h3
  have g3' : qs = qs' := by simpa using g3
  subst g3'
  refine ⟨P, C, qs, cs, ⟨h1, ?_, ?_, g2, g4, h4, h5⟩, by rw [h7]; exact finish_norm h6⟩
  · rw [← g1]; exact (lines_join l e2).symm
  · rw [← g1]; exact lines_no_nl l
theorem text_to {l : List UInt8} {P C : List (List UInt8)} {qs : List (Bool × List Nat)} {cs : List (Nat × Nat)} (h : TextIs l P C qs cs) : readSpec l = .inr (formN qs cs) := by
  have hc : cutAt 10 l = (P ++ C) ++ [[]] := by rw [h.text]; exact cutAt_join _ h.nl
  have hn : norm [] (cutAt 10 l).dropLast = some (qs, cs) := by
    rw [hc]
    simp only [List.dropLast_concat]
    have := norm_join P C [] qs cs h.prefs h.cls (by simpa using h.nodup)
    simpa using this
  have hr := readSpec_norm l
  cases hs : readSpec l with
  | inl a =>
    rw [hs] at hr
    rcases hr with hr | hr | hr | ⟨qs', cs', hr, h24⟩
    · have := h.len; omega
    · exact absurd (by rw [hc]; simp) hr
    · rw [hn] at hr; cases hr
    · rw [hn] at hr
      have hr' := Option.some.inj hr
      injection hr' with e1 e2
      subst e2
      have := h.c24; omega
  | inr F =>
    rw [hs] at hr
    obtain ⟨_, _, qs', cs', st, h3, _, _, h6, h7⟩ := hr
    rw [hn] at h3
    have h3' := Option.some.inj h3
    injection h3' with e1 e2
    subst e1 e2
    rw [h7, finish_norm h6]
/-- A row's first byte. -/
theorem cut_first (c : UInt8) (r : List UInt8) : ∀ (a : List UInt8) (x : UInt8) (t : List (List UInt8)), x ≠ c → cutAt c r = (x :: a) :: t → r.head? = some x := by
  intro a x t hx h
  cases r with
  | nil => simp [cutAt, cutTo] at h
  | cons b r =>
    by_cases hb : b = c
    · exfalso
      have hp : [[]] <+: (cutTo c (b :: r)).1 := by
        have h1 : cutTo c (b :: r) = r.foldl (cutStep c) (cutStep c ([], []) b) := rfl
        have h2 : cutStep c ([], []) b = ([[]], []) := by unfold cutStep; rw [if_pos hb]; rfl
        rw [h1, h2]
        suffices hs : ∀ (l : List UInt8) (st : List (List UInt8) × List UInt8), st.1 <+: (l.foldl (cutStep c) st).1 from hs r ([[]], [])
        intro l
        induction l with
        | nil => intro st; exact List.prefix_refl _
        | cons y l ih =>
          intro st
          refine List.IsPrefix.trans ?_ (ih (cutStep c st y))
          unfold cutStep; split
          · exact List.prefix_append _ _
          · exact List.prefix_refl _
      obtain ⟨rest, hrest⟩ := hp
      unfold cutAt at h
      rw [← hrest] at h
      simp at h
    · have h1 : cutTo c (b :: r) = r.foldl (cutStep c) ([], [b]) := by
        show r.foldl (cutStep c) (cutStep c ([], []) b) = _
        have : cutStep c ([], []) b = ([], [b]) := by unfold cutStep; rw [if_neg hb]; rfl
        rw [this]
      have h2 : ∀ (l : List UInt8) (st : List (List UInt8) × List UInt8) (y : UInt8) (z : List UInt8), (st.1 = [] ∧ st.2 = y :: z) ∨ (∃ z' t', st.1 = (y :: z') :: t') → ∃ z' t', (l.foldl (cutStep c) st).1 ++ [(l.foldl (cutStep c) st).2] = (y :: z') :: t' := by
        intro l
        induction l with
        | nil =>
          intro st y z h
          rcases h with ⟨h1, h2⟩ | ⟨z', t', h1⟩
          · exact ⟨z, [], by simp [h1, h2]⟩
          · exact ⟨z', t' ++ [st.2], by simp [h1]⟩
        | cons d l ih =>
          intro st y z h
          rw [List.foldl_cons]
          by_cases hd : d = c
          · have e : cutStep c st d = (st.1 ++ [st.2], []) := by unfold cutStep; rw [if_pos hd]
            rw [e]
            apply ih (z := z)
            right
            rcases h with ⟨h1, h2⟩ | ⟨z', t', h1⟩
            · exact ⟨z, [], by simp [h1, h2]⟩
            · exact ⟨z', t' ++ [st.2], by simp [h1]⟩
          · have e : cutStep c st d = (st.1, st.2 ++ [d]) := by unfold cutStep; rw [if_neg hd]
            rw [e]
            rcases h with ⟨h1, h2⟩ | ⟨z', t', h1⟩
            · exact ih (st.1, st.2 ++ [d]) y (z ++ [d]) (Or.inl ⟨h1, by simp [h2]⟩)
            · exact ih (st.1, st.2 ++ [d]) y z (Or.inr ⟨z', t', h1⟩)
      obtain ⟨z', t', h3⟩ := h2 r ([], [b]) b [] (Or.inl ⟨rfl, rfl⟩)
      unfold cutAt at h
      rw [h1, h3] at h
      injection h with h4 _
      injection h4 with h5 _
      subst h5
      rfl
theorem pref_first (r : List UInt8) (x : Bool × List Nat) (h : prefRow r = some x) : r.head? = some (if x.1 then 97 else 101) := by
  unfold prefRow at h
  cases hw : cutAt 32 r with
  | nil => rw [hw] at h; cases h
  | cons hd tl =>
    rw [hw] at h
    dsimp only at h
    split at h
    · next hh =>
      cases hv : varsOf tl with
      | none => rw [hv] at h; cases h
      | some vs =>
        rw [hv] at h
        have h' : (hd == [97], vs) = x := Option.some.inj h
        subst h'
        rcases hh.1 with e | e
        · subst e; exact cut_first 32 r [] 101 tl (by decide) hw
        · subst e; exact cut_first 32 r [] 97 tl (by decide) hw
    · cases h
theorem cl_first (r : List UInt8) (c : Nat × Nat) (h : clRow r = some c) : r.head? = some 99 := by
  unfold clRow at h
  cases hw : cutAt 32 r with
  | nil => rw [hw] at h; cases h
  | cons hd tl =>
    rw [hw] at h
    dsimp only at h
    split at h
    · next hh =>
      obtain ⟨rfl, _⟩ := hh
      exact cut_first 32 r [] 99 tl (by decide) hw
    · cases h
end Go.Proofs.YtgipjjhkhfihpabDoor

namespace Go.Proofs.YtgipjjhkhfihpabDoor
open Go.RowKit

/-! ### Texts that the statements without the document's answer make -/
theorem cut_shift (c : UInt8) (l : List UInt8) : ∀ (pre : List (List UInt8)) (cur : List UInt8), (l.foldl (cutStep c) (pre, cur)).1 ++ [(l.foldl (cutStep c) (pre, cur)).2] = pre ++ (match cutAt c l with | [] => [] | hd :: tl => (cur ++ hd) :: tl) := by
  induction l with
  | nil => intro pre cur; simp [cutAt, cutTo]
  | cons b l ih =>
    intro pre cur
    rw [List.foldl_cons]
    have e0 : cutAt c (b :: l) = (l.foldl (cutStep c) (cutStep c ([], []) b)).1 ++ [(l.foldl (cutStep c) (cutStep c ([], []) b)).2] := rfl
    by_cases hb : b = c
    · have e : ∀ st : List (List UInt8) × List UInt8, cutStep c st b = (st.1 ++ [st.2], []) := fun st => by unfold cutStep; rw [if_pos hb]
      rw [e, ih]
      rw [e0, e, ih]
      cases h : cutAt c l with
      | nil => simp [cutAt] at h
      | cons hd tl => simp
    · have e : ∀ st : List (List UInt8) × List UInt8, cutStep c st b = (st.1, st.2 ++ [b]) := fun st => by unfold cutStep; rw [if_neg hb]
      rw [e, ih]
      rw [e0, e, ih]
      cases h : cutAt c l with
      | nil => simp [cutAt] at h
      | cons hd tl => simp
theorem cutAt_cons (c b : UInt8) (r : List UInt8) (hb : b ≠ c) (hd : List UInt8) (tl : List (List UInt8)) (h : cutAt c r = hd :: tl) : cutAt c (b :: r) = (b :: hd) :: tl := by
  have e0 : cutAt c (b :: r) = (r.foldl (cutStep c) (cutStep c ([], []) b)).1 ++ [(r.foldl (cutStep c) (cutStep c ([], []) b)).2] := rfl
  have e : cutStep c ([], []) b = ([], [b]) := by unfold cutStep; rw [if_neg hb]; rfl
  rw [e0, e, cut_shift, h]; rfl
theorem cutAt_ne (c : UInt8) (r : List UInt8) : ∃ hd tl, cutAt c r = hd :: tl := by
  cases h : cutAt c r with
  | nil => simp [cutAt] at h
  | cons hd tl => exact ⟨hd, tl, rfl⟩
/-- A line of the prefix of the other kind. -/
theorem pref_other (r : List UInt8) (k : Bool) (vs : List Nat) (h : prefRow r = some (k, vs)) (k' : Bool) : prefRow ((if k' then 97 else 101) :: r.tail) = some (k', vs) := by
  have hf := pref_first r (k, vs) h
  cases r with
  | nil => simp at hf
  | cons b r =>
    have hb : b = if k then 97 else 101 := by simpa using hf
    obtain ⟨hd, tl, hw⟩ := cutAt_ne 32 r
    have hb32 : b ≠ 32 := by rw [hb]; cases k <;> decide
    have hc := cutAt_cons 32 b r hb32 hd tl hw
    unfold prefRow at h
    rw [hc] at h
    dsimp only at h
    split at h
    · next hh =>
      have hhd : hd = [] := by
        rcases hh.1 with e | e
        · injection e
        · injection e
      subst hhd
      cases hv : varsOf tl with
      | none => rw [hv] at h; cases h
      | some ws =>
        rw [hv] at h
        have h' : (([b] : List UInt8) == [97], ws) = (k, vs) := Option.some.inj h
        injection h' with _ e2
        subst e2
        have hk32 : (if k' then (97 : UInt8) else 101) ≠ 32 := by cases k' <;> decide
        have hc2 := cutAt_cons 32 (if k' then 97 else 101) r hk32 [] tl hw
        unfold prefRow
        rw [List.tail_cons, hc2]
        dsimp only
        rw [if_pos, hv]
        · cases k' <;> rfl
        · refine ⟨?_, hh.2⟩
          cases k'
          · exact Or.inl rfl
          · exact Or.inr rfl
    · cases h
theorem prefs_app (A B : List (List UInt8)) (qa qb : List (Bool × List Nat)) (ha : prefs A = some qa) (hb : prefs B = some qb) : prefs (A ++ B) = some (qa ++ qb) := by
  induction A generalizing qa with
  | nil => simp [prefs] at ha; subst ha; exact hb
  | cons r A ih =>
    rw [prefs] at ha
    cases hr : prefRow r with
    | none => rw [hr] at ha; cases ha
    | some x =>
      cases hA : prefs A with
      | none => rw [hr, hA] at ha; cases ha
      | some ys =>
        rw [hr, hA] at ha
        have h' : x :: ys = qa := Option.some.inj ha
        subst h'
        rw [List.cons_append, prefs, hr, ih ys hA]
        rfl
theorem prefs_split (A B : List (List UInt8)) (qs : List (Bool × List Nat)) (h : prefs (A ++ B) = some qs) : ∃ qa qb, prefs A = some qa ∧ prefs B = some qb ∧ qs = qa ++ qb := by
  induction A generalizing qs with
  | nil => exact ⟨[], qs, rfl, h, rfl⟩
  | cons r A ih =>
    rw [List.cons_append, prefs] at h
    cases hr : prefRow r with
    | none => rw [hr] at h; cases h
    | some x =>
      cases hA : prefs (A ++ B) with
      | none => rw [hr, hA] at h; cases h
      | some ys =>
        rw [hr, hA] at h
        have h' : x :: ys = qs := Option.some.inj h
        subst h'
        obtain ⟨qa, qb, h1, h2, h3⟩ := ih ys hA
        exact ⟨x :: qa, qb, by rw [prefs, hr, h1], h2, by rw [h3]; rfl⟩
theorem prefs_one (r : List UInt8) (qs : List (Bool × List Nat)) (h : prefs [r] = some qs) : ∃ x, prefRow r = some x ∧ qs = [x] := by
  rw [prefs] at h
  cases hr : prefRow r with
  | none => rw [hr] at h; cases h
  | some x => rw [hr] at h; exact ⟨x, rfl, (Option.some.inj h).symm⟩
theorem cls_app (A B : List (List UInt8)) (ca cb : List (Nat × Nat)) (ha : cls A = some ca) (hb : cls B = some cb) : cls (A ++ B) = some (ca ++ cb) := by
  induction A generalizing ca with
  | nil => simp [cls] at ha; subst ha; exact hb
  | cons r A ih =>
    rw [cls] at ha
    cases hr : clRow r with
    | none => rw [hr] at ha; cases ha
    | some x =>
      cases hA : cls A with
      | none => rw [hr, hA] at ha; cases ha
      | some ys =>
        rw [hr, hA] at ha
        have h' : x :: ys = ca := Option.some.inj ha
        subst h'
        rw [List.cons_append, cls, hr, ih ys hA]
        rfl
theorem cls_split (A B : List (List UInt8)) (cs : List (Nat × Nat)) (h : cls (A ++ B) = some cs) : ∃ ca cb, cls A = some ca ∧ cls B = some cb ∧ cs = ca ++ cb := by
  induction A generalizing cs with
  | nil => exact ⟨[], cs, rfl, h, rfl⟩
  | cons r A ih =>
    rw [List.cons_append, cls] at h
    cases hr : clRow r with
    | none => rw [hr] at h; cases h
    | some x =>
      cases hA : cls (A ++ B) with
      | none => rw [hr, hA] at h; cases h
      | some ys =>
        rw [hr, hA] at h
        have h' : x :: ys = cs := Option.some.inj h
        subst h'
        obtain ⟨ca, cb, h1, h2, h3⟩ := ih ys hA
        exact ⟨x :: ca, cb, by rw [cls, hr, h1], h2, by rw [h3]; rfl⟩
theorem join_len (m : List (List UInt8)) : (joinN m).length = (m.map (fun r => r.length + 1)).sum := by
  induction m with
  | nil => rfl
  | cons r m ih =>
    have e : joinN (r :: m) = r ++ [10] ++ joinN m := by simp [joinN]
    rw [e]; simp [ih]; omega
/-- A clause less. -/
theorem text_fewer {l : List UInt8} {P C1 C2 : List (List UInt8)} {r : List UInt8} {qs : List (Bool × List Nat)} {cs : List (Nat × Nat)} (h : TextIs l P (C1 ++ r :: C2) qs cs) : ∃ cs', TextIs (joinN (P ++ (C1 ++ C2))) P (C1 ++ C2) qs cs' ∧ (∀ c ∈ cs', c ∈ cs) := by
  obtain ⟨ca, cb, h1, h2, h3⟩ := cls_split C1 (r :: C2) cs h.cls
  obtain ⟨cc, cd, h4, h5, h6⟩ := cls_split [r] C2 cb h2
  refine ⟨ca ++ cd, ⟨?_, rfl, ?_, h.prefs, cls_app C1 C2 ca cd h1 h5, ?_, h.nodup⟩, ?_⟩
  · have := h.len
    rw [h.text, join_len] at this
    rw [join_len]
    simp at this ⊢
    omega
  · intro x hx
    apply h.nl
    rcases List.mem_append.1 hx with hx | hx
    · exact List.mem_append_left _ hx
    · apply List.mem_append_right
      rcases List.mem_append.1 hx with hx | hx
      · exact List.mem_append_left _ hx
      · exact List.mem_append_right _ (by simp [hx])
  · have := h.c24
    rw [h3, h6] at this
    simp at this ⊢
    omega
  · intro c hc
    rw [h3, h6]
    rcases List.mem_append.1 hc with hc | hc
    · exact List.mem_append_left _ hc
    · exact List.mem_append_right _ (List.mem_append_right _ hc)
/-- Lines of the prefix change places. -/
theorem text_swap {l : List UInt8} {A B C : List (List UInt8)} {r1 r2 : List UInt8} {qs : List (Bool × List Nat)} {cs : List (Nat × Nat)} (h : TextIs l (A ++ r1 :: r2 :: B) C qs cs) :
    ∃ qa x1 x2 qb, prefRow r1 = some x1 ∧ prefRow r2 = some x2 ∧ qs = qa ++ x1 :: x2 :: qb ∧ TextIs (joinN ((A ++ r2 :: r1 :: B) ++ C)) (A ++ r2 :: r1 :: B) C (qa ++ x2 :: x1 :: qb) cs := by
  obtain ⟨qa, q1, h1, h2, h3⟩ := prefs_split A (r1 :: r2 :: B) qs h.prefs
  obtain ⟨q2, q3, h4, h5, h6⟩ := prefs_split [r1] (r2 :: B) q1 h2
  obtain ⟨q4, qb, h7, h8, h9⟩ := prefs_split [r2] B q3 h5
  obtain ⟨x1, g1, rfl⟩ := prefs_one r1 q2 h4
  obtain ⟨x2, g2, rfl⟩ := prefs_one r2 q4 h7
  have eq0 : qs = qa ++ x1 :: x2 :: qb := by rw [h3, h6, h9]; rfl
  refine ⟨qa, x1, x2, qb, g1, g2, eq0, ?_, rfl, ?_, ?_, h.cls, h.c24, ?_⟩
  · have := h.len
    rw [h.text, join_len] at this
    rw [join_len]
    simp at this ⊢
    omega
  · intro x hx
    apply h.nl
    simp at hx ⊢
    rcases hx with hx | hx | hx | hx | hx
    · exact Or.inl hx
    · exact Or.inr (Or.inr (Or.inl hx))
    · exact Or.inr (Or.inl hx)
    · exact Or.inr (Or.inr (Or.inr (Or.inl hx)))
    · exact Or.inr (Or.inr (Or.inr (Or.inr hx)))
  · refine prefs_app A _ qa _ h1 ?_
    rw [prefs, g2, prefs, g1, h8]
  · have hn := h.nodup
    rw [eq0] at hn
    have hp : (toldP (qa ++ x2 :: x1 :: qb)).Perm (toldP (qa ++ x1 :: x2 :: qb)) := by
      unfold toldP
      exact List.Perm.flatMap_right _ (List.Perm.append_left qa (List.Perm.swap x1 x2 qb))
    exact hp.nodup_iff.2 hn
/-- A line of the prefix of the other kind. -/
theorem text_other {l : List UInt8} {A B C : List (List UInt8)} {r : List UInt8} {qs : List (Bool × List Nat)} {cs : List (Nat × Nat)} (h : TextIs l (A ++ r :: B) C qs cs) (k' : Bool) :
    ∃ qa k vs qb, prefRow r = some (k, vs) ∧ qs = qa ++ (k, vs) :: qb ∧ TextIs (joinN ((A ++ ((if k' then 97 else 101) :: r.tail) :: B) ++ C)) (A ++ ((if k' then 97 else 101) :: r.tail) :: B) C (qa ++ (k', vs) :: qb) cs := by
  obtain ⟨qa, q1, h1, h2, h3⟩ := prefs_split A (r :: B) qs h.prefs
  obtain ⟨q2, qb, h4, h5, h6⟩ := prefs_split [r] B q1 h2
  obtain ⟨x, g1, rfl⟩ := prefs_one r q2 h4
  obtain ⟨k, vs⟩ := x
  have eq0 : qs = qa ++ (k, vs) :: qb := by rw [h3, h6]; rfl
  have hf := pref_first r (k, vs) g1
  have hlen : ((if k' then (97 : UInt8) else 101) :: r.tail).length = r.length := by
    cases r with
    | nil => simp at hf
    | cons b r => simp
  refine ⟨qa, k, vs, qb, g1, eq0, ?_, rfl, ?_, ?_, h.cls, h.c24, ?_⟩
  · have := h.len
    rw [h.text, join_len] at this
    rw [join_len]
    simp only [List.append_assoc, List.cons_append, List.map_append, List.map_cons, List.sum_append, List.sum_cons, hlen] at this ⊢
    omega
  · intro x hx
    by_cases hx2 : x = (if k' then 97 else 101) :: r.tail
    · subst hx2
      have hr : (10 : UInt8) ∉ r := h.nl r (by simp)
      rw [List.mem_cons, not_or]
      refine ⟨by cases k' <;> decide, fun hh => hr (List.mem_of_mem_tail hh)⟩
    · apply h.nl
      simp only [List.append_assoc, List.cons_append, List.mem_append, List.mem_cons] at hx ⊢
      rcases hx with hx | hx | hx | hx
      · exact Or.inl hx
      · exact absurd hx hx2
      · exact Or.inr (Or.inr (Or.inl hx))
      · exact Or.inr (Or.inr (Or.inr hx))
  · refine prefs_app A _ qa _ h1 ?_
    rw [prefs, pref_other r k vs g1 k', h5]
  · have e : toldP (qa ++ (k', vs) :: qb) = toldP (qa ++ (k, vs) :: qb) := by simp [toldP]
    rw [e, ← eq0]; exact h.nodup
end Go.Proofs.YtgipjjhkhfihpabDoor

namespace Go.Proofs.YtgipjjhkhfihpabDoor
open Go.RowKit

/-! ### duelkeep: lines -/
def klinesOf (l : List UInt8) : List (List UInt8) := (cutTo 10 l).1
theorem infoStr : (Tryd.prog.info? 9).map (fun i => (i.zero, i.size, i.bytes)) = some (some (.string ⟨#[]⟩), 1, 16) := by kernel_rfl
theorem cutTo_nl (l : List UInt8) (k : Nat) (h : k < l.length) (rows : List (List UInt8)) (cur : List UInt8) (hc : cutTo 10 (l.take k) = (rows, cur)) : cutTo 10 (l.take (k + 1)) = if l[k] = 10 then (rows ++ [cur], []) else (rows, cur ++ [l[k]]) := by
  rw [cutTo_take 10 l k h, hc]
  unfold cutStep
  rfl
theorem cur_next (l : List UInt8) (k fr : Nat) (h : k < l.length) (hf : fr ≤ k) (cur : List UInt8) (hc : (l.drop fr).take (k - fr) = cur) : (l.drop fr).take (k + 1 - fr) = cur ++ [l[k]] := by
  have h1 : k - fr < (l.drop fr).length := by rw [List.length_drop]; omega
  rw [show k + 1 - fr = (k - fr) + 1 from by omega, List.take_succ_eq_append_getElem h1, hc]
  congr 2
  rw [List.getElem_drop]
  congr 1
  omega
attribute [local go_sem] ba_get
set_option maxRecDepth 100000 in
set_option maxHeartbeats 1600000 in
theorem klines_any (l : List UInt8) (w : World) (hl : l.length ≤ 1048576) :
    Calls Tryd.prog 17 #[.string ⟨l.toArray⟩] w fun e w' => ∃ v, e = .returned v ∧ w'.ownsRow w.heap.size 9 1 v (klinesOf l).length ((klinesOf l).map S) ∧ Below w.heap.size w w' := by
  obtain ⟨i0, hi, hz0, hz1, hz2⟩ := info_parts infoStr
  go_enter Tryd.func17, Tryd.ntmps17
  go_wp2_with fail
  go_loopg [3, 4, 5] (l.length) (fun m vo vf vi wx => ∃ (k fr : Nat) (rows : List (List UInt8)) (cur : List UInt8), vi = .int .i64 (k : Int) ∧ vf = .int .i64 (fr : Int) ∧ k + m = l.length ∧ cutTo 10 (l.take k) = (rows, cur) ∧ fr ≤ k ∧ (l.drop fr).take (k - fr) = cur ∧ rows.length ≤ k ∧ wx.ownsRow w.heap.size 9 1 vo rows.length (rows.map S) ∧ Below w.heap.size w wx)
  case atStart => exact ⟨0, 0, [], [], rfl, rfl, by omega, rfl, by omega, by simp, by simp, World.ownsRow_nil _ _ _ _, Below.refl _ _⟩
  case round =>
    obtain ⟨k, fr, rows, cur, rfl, rfl, hkm, hct, hfk, hcu, hrl, hown, hb⟩ := hrel
    have HCT := hide hct
    have HCU := hide hcu
    have hbs := hb.size
    obtain ⟨aO, cO, rfl⟩ := own_form hown
    by_cases hlt : k < l.length
    · have hd3 : decide ((k : Int) < (l.length : Int)) = true := decide_eq_true (by omega)
      have hd4 : decide (k < l.length) = true := decide_eq_true hlt
      have HN := hide (cutTo_nl l k hlt rows cur hct)
      have HC := hide (cur_next l k fr hlt hfk cur hcu)
      clear hct hcu
      by_cases h10 : l[k] = 10
      · have HN2 : Hid (cutTo 10 (l.take (k + 1)) = (rows ++ [cur], [])) := hide (by rw [unhide HN, if_pos h10])
        have hex : ByteArray.extract ⟨l.toArray⟩ fr k = ⟨cur.toArray⟩ := by rw [ba_extract, unhide HCU]
        have HE := hide hex
        clear hex
        clear HN HC
        go_wp2_with (at_builtin; refine wpList_append_new rfl _ _ 31 rfl w.heap.size i0 (.string ⟨#[]⟩) 1 16 Tryd.underlying31 hi hz0 hz1 hz2 rfl (by decide) _ _ _ hown rfl rfl rfl (by simp [Value.oneCell']) (by unfold maxLen; omega) (by omega) hbs ?_; intro v4 w4 hown4 hgrow4 hnn4)
        have hB4 : Below w.heap.size w w4 := below_grown hb hgrow4 hown (Nat.le_refl _) hbs
        rw [unhide HE] at hown4
        obtain ⟨a4, c4, rfl⟩ := own_form hown4
        go_wp2_with fail
        go_roundg (gk - 1)
        case measure => omega
        case rel => exact ⟨k + 1, k + 1, rows ++ [cur], [], by go_num, by go_num, by omega, unhide HN2, by omega, by simp, by simp; omega, by simpa using hown4, hB4⟩
      · have HN2 : Hid (cutTo 10 (l.take (k + 1)) = (rows, cur ++ [l[k]])) := hide (by rw [unhide HN, if_neg h10])
        have hne : ((l[k].toNat : Int) == 10) = false := by
          rw [beq_eq_false_iff_ne]
          intro e
          apply h10
          rw [← UInt8.toNat_inj]
          have : (10 : UInt8).toNat = 10 := rfl
          omega
        have hne2 : (l[k].toNat == 10) = false := by rw [beq_eq_false_iff_ne]; intro e; rw [beq_eq_false_iff_ne] at hne; apply hne; omega
        clear HN h10
        go_wp2_with fail
        go_roundg (gk - 1)
        case measure => omega
        case rel => exact ⟨k + 1, fr, rows, cur ++ [l[k]], by go_num, rfl, by omega, unhide HN2, by omega, unhide HC, by omega, hown, hb⟩
    · have hd3 : decide ((k : Int) < (l.length : Int)) = false := decide_eq_false (by omega)
      have hd4 : decide (k < l.length) = false := decide_eq_false hlt
      have HF : Hid (klinesOf l = rows) := hide (by unfold klinesOf; have := unhide HCT; rw [List.take_of_length_le (by omega)] at this; rw [this])
      clear hct hcu
      go_wp2_with fail
      go_ret
      exact ⟨_, rfl, by rw [unhide HF]; exact hown, hb⟩
end Go.Proofs.YtgipjjhkhfihpabDoor

namespace Go.Proofs.YtgipjjhkhfihpabDoor
open Go.RowKit

/-! ### duelkeep: joined, starts, clauses -/
theorem joinN_snoc (m : List (List UInt8)) (r : List UInt8) : joinN (m ++ [r]) = joinN m ++ r ++ [10] := by simp [joinN]
theorem joinN_take_le (m : List (List UInt8)) (k : Nat) : (joinN (m.take k)).length ≤ (joinN m).length := by
  have e : joinN m = joinN (m.take k) ++ joinN (m.drop k) := by unfold joinN; rw [← List.flatMap_append, List.take_append_drop]
  rw [e, List.length_append]; omega
theorem joinN_ge (m : List (List UInt8)) : m.length ≤ (joinN m).length := by
  induction m with
  | nil => simp
  | cons r m ih =>
    have e : joinN (r :: m) = r ++ (10 :: joinN m) := by simp [joinN]
    rw [e, List.length_append, List.length_cons, List.length_cons]; omega
theorem mapS_at (rows : List (List UInt8)) (k : Nat) (h : k < rows.length) : (rows.map S)[k]? = some (S rows[k]) := by simp [h]
attribute [local go_sem] ba_get
set_option maxRecDepth 100000 in
set_option maxHeartbeats 1600000 in
theorem kjoined_any (base : Nat) (rows : List (List UInt8)) (a : Option Addr) (c : Nat) (w : World) (hown : w.ownsRow base 9 1 (.slice a rows.length c) rows.length (rows.map S)) (hl : (joinN rows).length ≤ 1048576) :
    Calls Tryd.prog 19 #[.slice a rows.length c] w fun e w' => e = .returned (S (joinN rows)) ∧ Below w.heap.size w w' := by
  have hge := joinN_ge rows
  go_enter Tryd.func19, Tryd.ntmps19
  go_wp2_with fail
  go_loopg [3, 4] (rows.length) (fun m vt vi wx => ∃ (k : Nat) (acc : List UInt8), vi = .int .i64 (k : Int) ∧ vt = .string ⟨acc.toArray⟩ ∧ k + m = rows.length ∧ acc = joinN (rows.take k) ∧ Below w.heap.size w wx)
  case atStart => exact ⟨0, [], rfl, rfl, by omega, rfl, Below.refl _ _⟩
  case round =>
    obtain ⟨k, acc, rfl, rfl, hkm, hac, hb⟩ := hrel
    have HAC := hide hac
    clear hac
    by_cases hlt : k < rows.length
    · have hd3 : decide ((k : Int) < (rows.length : Int)) = true := decide_eq_true (by omega)
      have hd4 : decide (k < rows.length) = true := decide_eq_true hlt
      obtain ⟨g, cap, hVe, _, hg', _, hcell⟩ := own_pos (own_below hown hb) (by omega)
      injection hVe with hVe _ hV2
      subst hVe hV2
      have hx := hcell _ _ (mapS_at rows k hlt)
      have HTK := hide (List.take_succ_eq_append_getElem hlt)
      have hle := joinN_take_le rows (k + 1)
      rw [unhide HTK, joinN_snoc, ← unhide HAC, List.length_append, List.length_append, List.length_singleton] at hle
      clear hcell
      generalize rows[k] = r at *
      have HE : Hid (ByteArray.mk acc.toArray ++ ByteArray.mk r.toArray ++ ⟨#[10]⟩ = ⟨(acc ++ r ++ [10]).toArray⟩) := hide (by rw [ba_append acc r]; exact ba_append (acc ++ r) [10])
      have HN : Hid (acc ++ r ++ [10] = joinN (rows.take (k + 1))) := hide (by rw [unhide HTK, joinN_snoc, unhide HAC])
      have hl1 : acc.length ≤ 1048576 := by omega
      have hl2 : r.length ≤ 1048576 := by omega
      clear HAC
      go_wp2_with fail
      go_roundg (gk - 1)
      case measure => omega
      case rel => exact ⟨k + 1, acc ++ r ++ [10], by go_num, by rw [unhide HE], by omega, unhide HN, hb⟩
    · have hd3 : decide ((k : Int) < (rows.length : Int)) = false := decide_eq_false (by omega)
      have hd4 : decide (k < rows.length) = false := decide_eq_false hlt
      have HF : Hid (joinN rows = acc) := hide (by rw [unhide HAC, List.take_of_length_le (by omega)])
      go_wp2_with fail
      go_ret
      exact ⟨by rw [unhide HF]; rfl, hb⟩
end Go.Proofs.YtgipjjhkhfihpabDoor

namespace Go.Proofs.YtgipjjhkhfihpabDoor
open Go.RowKit

/-! ### Texts, their lines and their verdicts -/
theorem load_of_read {l : List UInt8} {F : Form} (h : readSpec l = .inr F) : ∃ q, loadSpec l = .inr q := by
  have hs := spec_eq l
  cases hq : loadSpec l with
  | inl a => rw [hq] at hs; have hs' : readSpec l = .inl a := hs; rw [h] at hs'; cases hs'
  | inr q => exact ⟨q, rfl⟩
theorem vkind_text {l : List UInt8} {P C : List (List UInt8)} {qs : List (Bool × List Nat)} {cs : List (Nat × Nat)} (h : TextIs l P C qs cs) : (vkind l).1 = if truthN qs cs then 2 else 1 := by
  have hr := text_to h
  obtain ⟨q, hq⟩ := load_of_read hr
  obtain ⟨hg, F, hF1, hF, hO⟩ := load_good hq
  rw [hr] at hF1
  injection hF1 with hF1
  subst hF1
  rw [vkind_good hq]
  exact (vfree hg hF hO 8).kind
theorem text_vkind {l : List UInt8} (h : (vkind l).1 ≠ 0) : ∃ P C qs cs, TextIs l P C qs cs := by
  cases hq : loadSpec l with
  | inl a => rw [vkind_bad hq] at h; exact absurd rfl h
  | inr q =>
    obtain ⟨_, F, hF1, _, _⟩ := load_good hq
    obtain ⟨P, C, qs, cs, h1, _⟩ := text_of l F hF1
    exact ⟨P, C, qs, cs, h1⟩
theorem cut_more (m : List (List UInt8)) (hm : ∀ r ∈ m, (10 : UInt8) ∉ r) (x : List UInt8) : klinesOf (joinN m ++ x) = m ++ klinesOf x := by
  unfold klinesOf cutTo
  rw [List.foldl_append, cut_join m hm []]
  have key : ∀ (x : List UInt8) (st : List (List UInt8)) (cur : List UInt8), (x.foldl (cutStep 10) (st, cur)).1 = st ++ (x.foldl (cutStep 10) ([], cur)).1 := by
    intro x
    induction x with
    | nil => intro st cur; simp
    | cons b x ih =>
      intro st cur
      rw [List.foldl_cons, List.foldl_cons]
      by_cases hb : b = 10
      · have e : ∀ s : List (List UInt8), cutStep 10 (s, cur) b = (s ++ [cur], []) := fun s => by unfold cutStep; exact if_pos hb
        rw [e, e, ih (st ++ [cur]) [], ih ([] ++ [cur]) []]
        simp
      · have e : ∀ s : List (List UInt8), cutStep 10 (s, cur) b = (s, cur ++ [b]) := fun s => by unfold cutStep; exact if_neg hb
        rw [e, e, ih st]
  rw [key]
  simp
theorem lines_text {l : List UInt8} {P C : List (List UInt8)} {qs : List (Bool × List Nat)} {cs : List (Nat × Nat)} (h : TextIs l P C qs cs) : klinesOf l = P ++ C := by
  have := cut_more (P ++ C) h.nl []
  rw [List.append_nil, ← h.text] at this
  rw [this]
  simp [klinesOf, cutTo]
theorem prefs_rows {P : List (List UInt8)} : ∀ {qs : List (Bool × List Nat)}, prefs P = some qs → ∀ r ∈ P, ∃ x, prefRow r = some x := by
  induction P with
  | nil => intro qs _ r hr; cases hr
  | cons p P ih =>
    intro qs h r hr
    obtain ⟨qa, qb, h1, h2, _⟩ := prefs_split [p] P qs h
    rcases List.mem_cons.1 hr with rfl | hr
    · obtain ⟨x, hx⟩ : ∃ x, prefRow r = some x := by
        cases hp : prefRow r with
        | some x => exact ⟨x, rfl⟩
        | none => simp [prefs, hp] at h1
      exact ⟨x, hx⟩
    · exact ih h2 r hr
theorem cls_rows {C : List (List UInt8)} : ∀ {cs : List (Nat × Nat)}, cls C = some cs → ∀ r ∈ C, ∃ x, clRow r = some x := by
  induction C with
  | nil => intro cs _ r hr; cases hr
  | cons p C ih =>
    intro cs h r hr
    obtain ⟨ca, cb, h1, h2, _⟩ := cls_split [p] C cs h
    rcases List.mem_cons.1 hr with rfl | hr
    · obtain ⟨x, hx⟩ : ∃ x, clRow r = some x := by
        cases hp : clRow r with
        | some x => exact ⟨x, rfl⟩
        | none => simp [cls, hp] at h1
      exact ⟨x, hx⟩
    · exact ih h2 r hr
theorem pref_rows_first {l : List UInt8} {P C : List (List UInt8)} {qs : List (Bool × List Nat)} {cs : List (Nat × Nat)} (h : TextIs l P C qs cs) : (∀ r ∈ P, ∃ x xs, r = x :: xs ∧ x ≠ 99) ∧ (∀ r ∈ C, ∃ xs, r = 99 :: xs) := by
  constructor
  · intro r hr
    obtain ⟨x, hx⟩ := prefs_rows h.prefs r hr
    have := pref_first r x hx
    cases r with
    | nil => cases this
    | cons y ys =>
      refine ⟨y, ys, rfl, fun e => ?_⟩
      subst e
      injection this with this
      revert this
      split <;> decide
  · intro r hr
    obtain ⟨x, hx⟩ := cls_rows h.cls r hr
    have := cl_first r x hx
    cases r with
    | nil => cases this
    | cons y ys => injection this with this; subst this; exact ⟨ys, rfl⟩
end Go.Proofs.YtgipjjhkhfihpabDoor

namespace Go.Proofs.YtgipjjhkhfihpabDoor
open Go.RowKit

/-! ### Fewer: a text with a line less, with lines more -/
theorem split_first {P : List (List UInt8)} : ∀ {C P' C' : List (List UInt8)}, P ++ C = P' ++ C' → (∀ r ∈ P, ∃ x xs, r = x :: xs ∧ x ≠ (99 : UInt8)) → (∀ r ∈ P', ∃ x xs, r = x :: xs ∧ x ≠ (99 : UInt8)) → (∀ r, C.head? = some r → ∃ xs, r = 99 :: xs) → (∀ r, C'.head? = some r → ∃ xs, r = 99 :: xs) → P = P' ∧ C = C' := by
  induction P with
  | nil =>
    intro C P' C' h _ hP' hC _
    cases P' with
    | nil => exact ⟨rfl, by simpa using h⟩
    | cons p P' =>
      exfalso
      rw [List.nil_append, List.cons_append] at h
      obtain ⟨xs, e⟩ := hC p (by rw [h]; rfl)
      obtain ⟨x, ys, e2, hne⟩ := hP' p (by simp)
      rw [e] at e2
      injection e2 with e3 _
      exact hne e3.symm
  | cons p P ih =>
    intro C P' C' h hP hP' hC hC'
    cases P' with
    | nil =>
      exfalso
      rw [List.nil_append, List.cons_append] at h
      obtain ⟨xs, e⟩ := hC' p (by rw [← h]; rfl)
      obtain ⟨x, ys, e2, hne⟩ := hP p (by simp)
      rw [e] at e2
      injection e2 with e3 _
      exact hne e3.symm
    | cons p' P' =>
      rw [List.cons_append, List.cons_append] at h
      injection h with h1 h2
      obtain ⟨e1, e2⟩ := ih h2 (fun r hr => hP r (by simp [hr])) (fun r hr => hP' r (by simp [hr])) hC hC'
      exact ⟨by rw [h1, e1], e2⟩
theorem cut_key : ∀ (x : List UInt8) (st : List (List UInt8)) (cur : List UInt8), (x.foldl (cutStep 10) (st, cur)).1 = st ++ (x.foldl (cutStep 10) ([], cur)).1 := by
  intro x
  induction x with
  | nil => intro st cur; simp
  | cons b x ih =>
    intro st cur
    rw [List.foldl_cons, List.foldl_cons]
    by_cases hb : b = 10
    · have e : ∀ s : List (List UInt8), cutStep 10 (s, cur) b = (s ++ [cur], []) := fun s => by unfold cutStep; exact if_pos hb
      rw [e, e, ih (st ++ [cur]) [], ih ([] ++ [cur]) []]
      simp
    · have e : ∀ s : List (List UInt8), cutStep 10 (s, cur) b = (s, cur ++ [b]) := fun s => by unfold cutStep; exact if_neg hb
      rw [e, e, ih st]
theorem first_line : ∀ (x cur r : List UInt8), ((x.foldl (cutStep 10) ([], cur)).1).head? = some r → ∃ y, r = cur ++ y := by
  intro x
  induction x with
  | nil => intro cur r h; cases h
  | cons b x ih =>
    intro cur r h
    rw [List.foldl_cons] at h
    by_cases hb : b = 10
    · have e : cutStep 10 ([], cur) b = ([] ++ [cur], []) := by unfold cutStep; exact if_pos hb
      rw [e, cut_key] at h
      have h' : some cur = some r := h
      injection h' with h'
      exact ⟨[], by simp [h']⟩
    · have e : cutStep 10 ([], cur) b = ([], cur ++ [b]) := by unfold cutStep; exact if_neg hb
      rw [e] at h
      obtain ⟨y, hy⟩ := ih _ _ h
      exact ⟨b :: y, by rw [hy]; simp⟩
theorem more_line {l t : List UInt8} {P C : List (List UInt8)} {qs : List (Bool × List Nat)} {cs : List (Nat × Nat)} (h : TextIs l P C qs cs) (ht : t.head? = some 99) (hk : (vkind (l ++ t ++ [10])).1 ≠ 0) : ∃ C' cs', TextIs (l ++ t ++ [10]) P C' qs cs' ∧ ∀ c ∈ cs, c ∈ cs' := by
  obtain ⟨P', C', qs', cs', h'⟩ := text_vkind hk
  have e1 := lines_text h'
  have e2 : klinesOf (l ++ t ++ [10]) = P ++ (C ++ klinesOf (t ++ [10])) := by
    rw [List.append_assoc, ← List.append_assoc P]
    have := cut_more (P ++ C) h.nl (t ++ [10])
    rw [← h.text] at this
    exact this
  obtain ⟨f1, f2⟩ := pref_rows_first h
  obtain ⟨g1, g2⟩ := pref_rows_first h'
  have hC0 : ∀ r, (C ++ klinesOf (t ++ [10])).head? = some r → ∃ xs, r = 99 :: xs := by
    intro r hr
    cases C with
    | cons c C => exact f2 r (by have : some c = some r := hr; injection this with e; simp [e])
    | nil =>
      cases t with
      | nil => cases ht
      | cons x t =>
        have hx : x = 99 := by simpa using ht
        subst hx
        have e : klinesOf ((99 :: t) ++ [10]) = ((t ++ [10]).foldl (cutStep 10) ([], [99])).1 := rfl
        rw [List.nil_append, e] at hr
        obtain ⟨y, hy⟩ := first_line _ _ _ hr
        exact ⟨y, by rw [hy]; rfl⟩
  obtain ⟨a1, a2⟩ := split_first (e2.symm.trans e1) f1 g1 hC0 (fun r hr => g2 r (List.mem_of_mem_head? hr))
  subst a1
  have hq : qs = qs' := by have := h.prefs; rw [h'.prefs] at this; injection this with this; exact this.symm
  subst hq
  refine ⟨C', cs', h', ?_⟩
  rw [← a2] at h'
  obtain ⟨ca, cb, b1, b2, b3⟩ := cls_split C _ cs' h'.cls
  have : ca = cs := by rw [h.cls] at b1; injection b1 with b1; exact b1.symm
  subst this
  intro c hc
  rw [b3]
  simp [hc]
/-- A clause less. -/
theorem fewer_less {l : List UInt8} {P C : List (List UInt8)} {qs : List (Bool × List Nat)} {cs : List (Nat × Nat)} (h : TextIs l P C qs cs) (j : Nat) (hj : j < C.length) (hv : (vkind l).1 = 2) : (vkind (joinN (P ++ (C.take j ++ C.drop (j + 1))))).1 = 2 := by
  have e : C = C.take j ++ C[j] :: C.drop (j + 1) := by rw [List.getElem_cons_drop, List.take_append_drop]
  generalize C.take j = C1 at e ⊢
  generalize C.drop (j + 1) = C2 at e ⊢
  generalize C[j] = r at e
  subst e
  obtain ⟨cs', h1, h2⟩ := text_fewer h
  rw [vkind_text h] at hv
  rw [vkind_text h1, if_pos (truth_sub qs cs cs' h2 (by by_cases ht : truthN qs cs = true; exact ht; rw [if_neg ht] at hv; cases hv))]
/-- A line more. -/
theorem fewer_more {l t : List UInt8} {P C : List (List UInt8)} {qs : List (Bool × List Nat)} {cs : List (Nat × Nat)} (h : TextIs l P C qs cs) (ht : t.head? = some 99) : (vkind (l ++ t ++ [10])).1 = 0 ∨ (vkind l).1 = 2 ∨ (vkind (l ++ t ++ [10])).1 = 1 := by
  by_cases hk : (vkind (l ++ t ++ [10])).1 = 0
  · exact Or.inl hk
  · obtain ⟨C', cs', h1, h2⟩ := more_line h ht hk
    rw [vkind_text h, vkind_text h1]
    by_cases ht : truthN qs cs' = true
    · rw [if_pos (truth_sub qs cs' cs h2 ht)]; exact Or.inr (Or.inl rfl)
    · rw [if_neg ht]; exact Or.inr (Or.inr rfl)
end Go.Proofs.YtgipjjhkhfihpabDoor

namespace Go.Proofs.YtgipjjhkhfihpabDoor
open Go.RowKit

/-! ### duelkeep: clauses -/
attribute [local go_sem] ba_get
set_option maxRecDepth 100000 in
set_option maxHeartbeats 1600000 in
theorem kclauses_any (base : Nat) (P C : List (List UInt8)) (a : Option Addr) (c : Nat) (w : World) (hown : w.ownsRow base 9 1 (.slice a (P ++ C).length c) (P ++ C).length ((P ++ C).map S)) (hP : ∀ r ∈ P, ∃ x xs, r = x :: xs ∧ x ≠ 99) (hC : ∀ r ∈ C, ∃ xs, r = 99 :: xs) (hl : (P ++ C).length ≤ 1048576) :
    Calls Tryd.prog 18 #[.slice a (P ++ C).length c] w fun e w' => e = .returned (.int .i64 (P.length : Int)) ∧ Below w.heap.size w w' := by
  have hpl : P.length ≤ (P ++ C).length := by rw [List.length_append]; omega
  obtain ⟨rows, hrows⟩ : ∃ X, X = P ++ C := ⟨_, rfl⟩
  have HPX : Hid (∀ k (hk : k < rows.length), k < P.length → ∃ x xs, rows[k] = x :: xs ∧ x ≠ 99) := hide (fun k hk h => by
    subst hrows
    rw [List.getElem_append_left h]; exact hP _ (List.getElem_mem h))
  have HCX : Hid (∀ k (hk : k < rows.length), ¬ k < P.length → ∃ xs, rows[k] = 99 :: xs) := hide (fun k hk h => by
    subst hrows
    rw [List.getElem_append_right (by omega)]; exact hC _ (List.getElem_mem _))
  rw [← hrows] at hown hl hpl ⊢
  clear hrows hP hC
  generalize P.length = pl at *
  go_enter Tryd.func18, Tryd.ntmps18
  go_wp2_with fail
  go_loopg [3] (pl + 1) (fun m vk wx => ∃ (k : Nat), vk = .int .i64 (k : Int) ∧ k + m = pl + 1 ∧ k ≤ pl ∧ Below w.heap.size w wx)
  case atStart => exact ⟨0, rfl, by omega, by omega, Below.refl _ _⟩
  case round =>
    obtain ⟨k, rfl, hkm, hkp, hb⟩ := hrel
    by_cases hlt : k < rows.length
    · have hd3 : decide ((k : Int) < (rows.length : Int)) = true := decide_eq_true (by omega)
      have hd4 : decide (k < rows.length) = true := decide_eq_true hlt
      obtain ⟨g, cap, hVe, _, hg', _, hcell⟩ := own_pos (own_below hown hb) (by omega)
      injection hVe with hVe _ hV2
      subst hVe hV2
      have hx := hcell _ _ (mapS_at rows k hlt)
      clear hcell
      by_cases hkl : k < pl
      · obtain ⟨x, xs, hr, hne⟩ := unhide HPX k hlt hkl
        rw [hr] at hx
        have hn1 : ((x.toNat : Int) == 99) = false := by
          rw [beq_eq_false_iff_ne]
          intro e
          apply hne
          rw [← UInt8.toNat_inj]
          have : (99 : UInt8).toNat = 99 := rfl
          omega
        have hn2 : (x.toNat == 99) = false := by rw [beq_eq_false_iff_ne]; intro e; rw [beq_eq_false_iff_ne] at hn1; apply hn1; omega
        have hn3 : ((x.toNat : Int) != 99) = true := by rw [bne, hn1]; rfl
        clear hr hne HPX HCX
        go_wp2_with fail
        go_roundg (gk - 1)
        case measure => omega
        case rel => exact ⟨k + 1, by go_num, by omega, by omega, hb⟩
      · obtain ⟨xs, hr⟩ := unhide HCX k hlt hkl
        rw [hr] at hx
        have HKE : Hid (k = pl) := hide (by omega)
        have hn1 : (((99 : UInt8).toNat : Int) == 99) = true := rfl
        clear hr HPX HCX hkl
        go_wp2_with fail
        go_ret
        exact ⟨by rw [unhide HKE]; rfl, hb⟩
    · have hd3 : decide ((k : Int) < (rows.length : Int)) = false := decide_eq_false (by omega)
      have hd4 : decide (k < rows.length) = false := decide_eq_false hlt
      have HKE : Hid (k = pl) := hide (by omega)
      go_wp2_with fail
      go_ret
      exact ⟨by rw [unhide HKE]; rfl, hb⟩
end Go.Proofs.YtgipjjhkhfihpabDoor

namespace Go.Proofs.YtgipjjhkhfihpabDoor
open Go.RowKit

/-! ### rows of lines: parts of them (as KF1 has them: never both in one claim) -/
theorem strs_at {w : World} {base : Nat} {rows : List (List UInt8)} {g cap : Nat} (h : w.ownsRow base 9 1 (.slice (some ⟨g, 0, none⟩) rows.length cap) rows.length (rows.map S)) : ∀ k (hk : k < rows.length), w.cell? ⟨g, k, none⟩ = some (S rows[k]) := by
  intro k hk
  obtain ⟨g', cap', hVe, _, _, _, hcell⟩ := own_pos h (by omega)
  injection hVe with hVe _ _
  injection hVe with hVe
  injection hVe with hVe
  subst hVe
  exact hcell _ _ (mapS_at rows k hk)
theorem strs_news {w : World} {g : Nat} {rows : List (List UInt8)} (h : ∀ k (hk : k < rows.length), w.cell? ⟨g, k, none⟩ = some (S rows[k])) (o m : Nat) : ∀ j u, (((rows.drop o).take m).map S)[j]? = some u → w.cell? ((⟨g, o, none⟩ : Addr).add j) = some u := by
  intro j u hj
  have hadd : (⟨g, o, none⟩ : Addr).add j = ⟨g, o + j, none⟩ := by unfold Addr.add; split <;> simp_all
  rw [hadd]
  simp only [List.getElem?_map, List.getElem?_take, List.getElem?_drop] at hj
  split at hj
  · cases hr : rows[o + j]? with
    | none => rw [hr] at hj; cases hj
    | some r =>
      rw [hr] at hj
      obtain ⟨hlt, e⟩ := List.getElem?_eq_some_iff.1 hr
      rw [h _ hlt, e]
      exact hj
  · cases hj
theorem joinN_app (A B : List (List UInt8)) : joinN (A ++ B) = joinN A ++ joinN B := by simp [joinN]
theorem joinN_cons (r : List UInt8) (m : List (List UInt8)) : joinN (r :: m) = r ++ (10 :: joinN m) := by simp [joinN]
theorem one_strs (l : List (List UInt8)) : ∀ u ∈ l.map S, u.oneCell' = true := by
  intro u hu
  obtain ⟨r, _, rfl⟩ := List.mem_map.1 hu
  rfl
theorem kclauses_rows (base : Nat) (rows P C : List (List UInt8)) (hr : rows = P ++ C) (a : Option Addr) (c : Nat) (w : World) (hown : w.ownsRow base 9 1 (.slice a rows.length c) rows.length (rows.map S)) (hP : ∀ r ∈ P, ∃ x xs, r = x :: xs ∧ x ≠ 99) (hC : ∀ r ∈ C, ∃ xs, r = 99 :: xs) (hl : rows.length ≤ 1048576) :
    Calls Tryd.prog 18 #[.slice a rows.length c] w fun e w' => e = .returned (.int .i64 (P.length : Int)) ∧ Below w.heap.size w w' := by
  subst hr
  exact kclauses_any base P C a c w hown hP hC hl
theorem kjoined_n (base n : Nat) (rows : List (List UInt8)) (hn : n = rows.length) (a : Option Addr) (c : Nat) (w : World) (hown : w.ownsRow base 9 1 (.slice a n c) n (rows.map S)) (hl : (joinN rows).length ≤ 1048576) :
    Calls Tryd.prog 19 #[.slice a n c] w fun e w' => e = .returned (S (joinN rows)) ∧ Below w.heap.size w w' := by
  subst hn
  exact kjoined_any base rows a c w hown hl
theorem set_map (rows : List (List UInt8)) (j : Nat) (r : List UInt8) : (rows.map S).set j (S r) = (rows.set j r).map S := by rw [List.map_set]
end Go.Proofs.YtgipjjhkhfihpabDoor
