import Derived.Test.YtgipjjhkhfihpaaGreatDoorI
import Derived.Test.YtgipjjhkhfihpaaGreatDoorG
import Derived.Test.YtgipjjhkhfihpaaGreatDoorH
import Derived.Test.YtgipjjhkhfihpaaGreatDoorE
namespace Go.Proofs.YtgipjjhkhfihpaaGreatDoor
open Go.RowKit

/-! ### Both sides read proofs alike -/
theorem dec_ge (l : List UInt8) (h : l.all isDigit = true) (h0 : l ≠ []) (h48 : l.head? ≠ some 48) : ∀ k, k < l.length → 10 ^ k ≤ dec (l.take (k + 1)) := by
  intro k
  induction k with
  | zero =>
    intro hk
    match l, h0 with
    | c :: r, _ =>
      have hd : isDigit c = true := by simp at h; exact h.1
      have hd' : 48 ≤ c.toNat ∧ c.toNat ≤ 57 := of_decide_eq_true hd
      have hne : c.toNat ≠ 48 := fun e => h48 (by simp; apply UInt8.toNat_inj.1; exact e)
      simp [dec]; omega
  | succ k ih =>
    intro hk
    have h1 := ih (by omega)
    rw [dec_take l (k + 1) hk, Nat.pow_succ]
    omega
theorem num_cnt (w : List UInt8) (most : Nat) (hm : most ≤ 999999) : numOf w most = if 1 ≤ cnt w big ∧ cnt w big ≤ most then some (cnt w big) else none := by
  by_cases hbad : w = [] ∨ w.head? = some 48 ∨ w.all isDigit = false
  · have h1 : numOf w most = none := by
      unfold numOf
      rw [if_pos]
      rcases hbad with h | h | h
      · exact Or.inl h
      · exact Or.inr (Or.inl h)
      · exact Or.inr (Or.inr (Or.inl h))
    have h2 : cnt w big = 0 := by
      rcases hbad with h | h | h
      · subst h; rfl
      · unfold cnt; rw [if_neg]; rintro ⟨_, _, h3, _⟩; exact h3 h
      · unfold cnt; rw [if_neg]; rintro ⟨h3, _⟩; rw [h] at h3; cases h3
    rw [h1, h2, if_neg (by omega)]
  · simp only [not_or, Bool.not_eq_false] at hbad
    obtain ⟨b1, b2, b3⟩ := hbad
    have hpos : 0 < w.length := List.length_pos_iff.2 b1
    by_cases h6 : w.length ≤ 6
    · have hd := dec_lt w b3
      have ht := ten_six w.length h6
      have hc : cnt w big = dec w := by
        unfold cnt; rw [if_pos ⟨b3, h6, b2, by unfold big; omega⟩]
      have h1 : 1 ≤ dec w := by
        have := dec_ge w b3 b1 b2 0 hpos
        have hmm := dec_mono w 1
        simp at this; omega
      rw [hc]
      unfold numOf
      by_cases hmo : most < dec w
      · rw [if_pos (Or.inr (Or.inr (Or.inr hmo))), if_neg (by omega)]
      · rw [if_neg, if_pos ⟨h1, by omega⟩]
        rintro (h | h | h | h)
        · exact b1 h
        · exact b2 h
        · rw [b3] at h; cases h
        · exact hmo h
    · have hc : cnt w big = 0 := by unfold cnt; rw [if_neg]; rintro ⟨_, h2, _⟩; exact h6 h2
      have hg := dec_ge w b3 b1 b2 6 (by omega)
      have hmm := dec_mono w (6 + 1)
      rw [hc, if_neg (by omega)]
      unfold numOf
      rw [if_pos]
      right; right; right
      have : (10 : Nat) ^ 6 = 1000000 := by decide
      omega
/-- What both sides hold of a formula. -/
structure FQ (F : Form) (q : QS) : Prop where
  order : F.order = q.vars.map (·.1)
  kinds : ∀ x ∈ q.vars, F.all.testBit x.1 = x.2
  nodup : (q.vars.map (·.1)).Nodup
  names : ∀ x ∈ q.vars, 1 ≤ x.1 ∧ x.1 ≤ 8
  cl : F.cl = q.cl
  clen : q.cl.length ≤ 24
  bits : ∀ c ∈ q.cl, Bd c
  vars : ∀ c ∈ q.cl, ∀ v, c.1.testBit v = true ∨ c.2.testBit v = true → v ∈ F.order
/-- What holds of every step. -/
structure SI (F : Form) (c : Nat × Nat) : Prop where
  bd : Bd c
  apart : c.1 &&& c.2 = 0
  vars : ∀ v, c.1.testBit v = true ∨ c.2.testBit v = true → v ∈ F.order
def kd (truth : Bool) : Nat := if truth then 2 else 1

theorem find_mem {F : Form} {q : QS} (h : FQ F q) (v : Nat) : (∃ x, findV q.vars v = some x ∧ x.1 = v ∧ x ∈ q.vars ∧ v ∈ F.order) ∨ (findV q.vars v = none ∧ v ∉ F.order) := by
  cases hf : findV q.vars v with
  | none =>
    right
    refine ⟨rfl, ?_⟩
    unfold findV at hf
    rw [List.find?_eq_none] at hf
    rw [h.order, List.mem_map]
    rintro ⟨x, hx, hxe⟩
    exact hf x hx (by simpa using hxe)
  | some x =>
    left
    unfold findV at hf
    have hm := List.mem_of_find?_eq_some hf
    have he := List.find?_some hf
    have he' : x.1 = v := by simpa using he
    exact ⟨x, rfl, he', hm, by rw [h.order, ← he']; exact List.mem_map_of_mem hm⟩
theorem bitOf_nat (v : Nat) (h1 : 1 ≤ v) (h8 : v ≤ 8) : bitOf (v : Int) = 2 ^ v := by unfold bitOf; rw [if_pos ⟨by omega, by omega⟩]; simp
theorem and_pow_ne (x v : Nat) : (x &&& 2 ^ v != 0) = x.testBit v := by
  rw [bne, show (x &&& 2 ^ v == 0) = !x.testBit v from ?_]
  · simp
  · cases h : x.testBit v with
    | false =>
      have : x &&& 2 ^ v = 0 := by
        apply Nat.eq_of_testBit_eq
        intro i
        rw [Nat.testBit_and, Nat.testBit_two_pow, Nat.zero_testBit]
        by_cases e : v = i
        · subst e; rw [h]; rfl
        · simp [e]
      rw [this]; rfl
    | true =>
      have : x &&& 2 ^ v ≠ 0 := fun e => by
        have h2 : (x &&& 2 ^ v).testBit v = true := by rw [Nat.testBit_and, Nat.testBit_two_pow, h]; simp
        rw [e] at h2; simp at h2
      simpa using this
theorem has_eq (c : Nat × Nat) (v : Nat) (h1 : 1 ≤ v) (h8 : v ≤ 8) : hasVarB c v = hasB c v := by
  unfold hasVarB hasB; rw [bitOf_nat v h1 h8, and_pow_ne]
theorem hasLit_pos (c : Nat × Nat) (v : Nat) (h1 : 1 ≤ v) (h8 : v ≤ 8) : hasLit c v = c.1.testBit v := by
  unfold hasLit; rw [if_neg (by omega), bitOf_nat v h1 h8, and_pow_ne]
theorem hasLit_neg (c : Nat × Nat) (v : Nat) (h1 : 1 ≤ v) (h8 : v ≤ 8) : hasLit c (-(v : Int)) = c.2.testBit v := by
  unfold hasLit; rw [if_pos (by omega), Int.neg_neg, bitOf_nat v h1 h8, and_pow_ne]
theorem pair_ext {a b : Nat × Nat} (h1 : ∀ v, a.1.testBit v = b.1.testBit v) (h2 : ∀ v, a.2.testBit v = b.2.testBit v) : a = b := by
  obtain ⟨a1, a2⟩ := a
  obtain ⟨b1, b2⟩ := b
  have e1 : a1 = b1 := Nat.eq_of_testBit_eq h1
  have e2 : a2 = b2 := Nat.eq_of_testBit_eq h2
  rw [e1, e2]

/-! Reduction -/
theorem lastTo_same (order : List Nat) (kind : Nat) (c c' : Nat × Nat) (k : Nat) (h : ∀ i, i < k → hasB c' (order.getD i 0) = hasB c (order.getD i 0)) : lastTo order kind c' k = lastTo order kind c k := by
  induction k with
  | zero => rfl
  | succ k ih =>
    rw [lastTo, lastTo, h k (by omega), ih (fun i hi => h i (by omega))]
theorem red_eq {F : Form} {q : QS} (h : FQ F q) (hF : FOk F) (truth : Bool) : ∀ (k : Nat), k ≤ q.vars.length → ∀ c, redQ (kd truth) (q.vars.take k).reverse c = ((F.order.take k).drop (lastTo F.order (kindR F truth) c k)).foldl (clr (kindR F truth)) c := by
  intro k
  induction k with
  | zero => intro _ c; simp [redQ]
  | succ k ih =>
    intro hk c
    have hlt : k < q.vars.length := by omega
    have hlen : F.order.length = q.vars.length := by rw [h.order]; simp
    have hlt' : k < F.order.length := by omega
    have hv : F.order[k] = q.vars[k].1 := by simp only [h.order, List.getElem_map]
    have hx := h.names _ (List.getElem_mem hlt)
    have hkind := h.kinds _ (List.getElem_mem hlt)
    have hmem : F.order[k] ∈ F.order := List.getElem_mem hlt'
    have hkb := kind_bit hF truth F.order[k] hmem
    have hgd : F.order.getD k 0 = F.order[k] := getD_at _ _ _ hlt'
    rw [redQ_step _ _ _ hlt, has_eq c _ hx.1 hx.2, ← hv]
    rw [← hv] at hkind
    have hpiv : pivotB (kd truth) q.vars[k].2 = !(kindR F truth).testBit F.order[k] := by
      rw [hkb, hkind]
      unfold pivotB kd
      generalize q.vars[k].2 = u
      cases truth <;> cases u <;> rfl
    rw [hpiv, lastTo, hgd]
    have hsplit : ∀ m, m ≤ k → (F.order.take (k + 1)).drop m = (F.order.take k).drop m ++ [F.order[k]] := fun m hm => by
      rw [List.take_succ_eq_append_getElem hlt', List.drop_append_of_le_length (by simp; omega)]
    have hnk : F.order[k] ∉ F.order.take k := by
      have hn := hF.nodup
      rw [← List.take_append_drop k F.order, List.nodup_append] at hn
      have hkd : F.order[k] ∈ F.order.drop k := by
        have e := List.drop_eq_getElem_cons hlt'
        rw [e]
        exact List.mem_cons_self
      intro hm
      exact hn.2.2 _ hm _ hkd rfl
    cases hh : hasB c F.order[k] with
    | false =>
      simp only [Bool.false_and, Bool.false_eq_true, if_false]
      rw [ih (by omega) c, hsplit _ (lastTo_le _ _ _ _), List.foldl_append]
      have hno : c.1.testBit F.order[k] = false ∧ c.2.testBit F.order[k] = false := by
        unfold hasB at hh; rw [Nat.testBit_or, Bool.or_eq_false_iff] at hh; exact hh
      generalize ((F.order.take k).drop (lastTo F.order (kindR F truth) c k)) = L
      show _ = clr _ (L.foldl _ c) F.order[k]
      apply pair_ext
      · intro v
        rw [(clr_bits _ _ _ _).1, (clrs_bits _ _ _ _).1]
        by_cases e : v = F.order[k]
        · subst e; simp [hno.1]
        · simp [e]
      · intro v
        rw [(clr_bits _ _ _ _).2, (clrs_bits _ _ _ _).2]
        by_cases e : v = F.order[k]
        · subst e; simp [hno.2]
        · simp [e]
    | true =>
      cases hb : (kindR F truth).testBit F.order[k] with
      | false =>
        simp only [Bool.not_false, Bool.and_self, if_true]
        rw [List.drop_eq_nil_of_le (by simp; omega)]
        rfl
      | true =>
        simp only [Bool.not_true, Bool.and_false, Bool.false_eq_true, if_false, if_true]
        have hw : without c (F.order[k] : Int) = clr (kindR F truth) c F.order[k] := by
          unfold without clr
          rw [if_pos hb, bitOf_nat _ (by rw [hv]; exact hx.1) (by rw [hv]; exact hx.2)]
        rw [hw, ih (by omega), hsplit _ (lastTo_le _ _ _ _)]
        have hls : lastTo F.order (kindR F truth) (clr (kindR F truth) c F.order[k]) k = lastTo F.order (kindR F truth) c k := by
          apply lastTo_same
          intro i hi
          have hil : i < F.order.length := by omega
          rw [getD_at _ _ _ hil]
          have hne : F.order[i] ≠ F.order[k] := fun e => hnk (by rw [← e]; exact List.mem_take_iff_getElem.2 ⟨i, by omega, rfl⟩)
          unfold hasB
          rw [Nat.testBit_or, Nat.testBit_or, (clr_bits _ _ _ _).1, (clr_bits _ _ _ _).2]
          simp [hne]
        rw [hls]
        generalize ((F.order.take k).drop (lastTo F.order (kindR F truth) c k)) = L
        apply pair_ext
        · intro v
          rw [(clrs_bits _ _ _ _).1, (clrs_bits _ _ _ _).1, (clr_bits _ _ _ _).1, hb]
          by_cases e : v = F.order[k]
          · subst e; simp [hb]
          · simp [e]
        · intro v
          rw [(clrs_bits _ _ _ _).2, (clrs_bits _ _ _ _).2, (clr_bits _ _ _ _).2, hb]
          by_cases e : v = F.order[k]
          · subst e; simp [hb]
          · simp [e]
theorem redQ_eq {F : Form} {q : QS} (h : FQ F q) (hF : FOk F) (truth : Bool) (c : Nat × Nat) : redQ (kd truth) q.vars.reverse c = redR F.order (kindR F truth) c := by
  have h1 := red_eq h hF truth q.vars.length (Nat.le_refl _) c
  have hlen : F.order.length = q.vars.length := by rw [h.order]; simp
  rw [List.take_length] at h1
  rw [h1, ← hlen, List.take_length]
  rfl

end Go.Proofs.YtgipjjhkhfihpaaGreatDoor

namespace Go.Proofs.YtgipjjhkhfihpaaGreatDoor
open Go.RowKit

/-! Steps -/
theorem ahead_eq (ss : List (Nat × Nat)) (w : List UInt8) (hs : ss.length ≤ 9000) : aheadQ ss w = if cnt w big < 1 ∨ ss.length < cnt w big then none else some (ss.getD (cnt w big - 1) (0, 0)) := by
  unfold aheadQ
  rw [num_cnt w ss.length (by omega)]
  by_cases h : cnt w big < 1 ∨ ss.length < cnt w big
  · rw [if_pos h, if_neg (by omega)]; rfl
  · rw [if_neg h, if_pos (by omega)]
    have hlt : cnt w big - 1 < ss.length := by omega
    simp only [Option.bind_some]
    rw [List.getElem?_eq_getElem hlt, getD_at _ _ _ hlt]
theorem axiom_eq {F : Form} {q : QS} (h : FQ F q) (x : List UInt8) : axiomQ q 1 [x] = axR F (cnt x big) := by
  unfold axiomQ axR
  rw [if_pos rfl, h.cl]
  dsimp only
  rw [num_cnt x q.cl.length (by have := h.clen; omega)]
  by_cases hb : cnt x big < 1 ∨ q.cl.length < cnt x big
  · rw [if_pos hb, if_neg (by omega)]; rfl
  · rw [if_neg hb, if_pos (by omega)]
    have hlt : cnt x big - 1 < q.cl.length := by omega
    simp only [Option.bind_some]
    rw [List.getElem?_eq_getElem hlt, getD_at _ _ _ hlt]
    simp only [Option.bind_some]
    unfold apartO
    by_cases hz : q.cl[cnt x big - 1].1 &&& q.cl[cnt x big - 1].2 = 0
    · rw [if_pos hz, if_neg (by simp [hz])]
    · rw [if_neg hz, if_pos (by simpa using hz)]
theorem reduct_eq {F : Form} {q : QS} (h : FQ F q) (hF : FOk F) (truth : Bool) (ss : List (Nat × Nat)) (hs : ss.length ≤ 9000) (x : List UInt8) : reductQ q (kd truth) ss [x] = reductR F truth ss (cnt x big) := by
  unfold reductQ reductR
  dsimp only
  rw [ahead_eq ss x hs]
  by_cases hb : cnt x big < 1 ∨ ss.length < cnt x big
  · rw [if_pos hb, if_pos hb]; rfl
  · rw [if_neg hb, if_neg hb]
    simp only [Option.map_some]
    rw [redQ_eq h hF truth]
theorem piv_eq {F : Form} {q : QS} (h : FQ F q) (truth : Bool) (z : List UInt8) : pivQ q (kd truth) z = if 1 ≤ cnt z big ∧ cnt z big ≤ 8 ∧ cnt z big ∈ F.order ∧ F.all.testBit (cnt z big) = truth then some (cnt z big) else none := by
  have hd := dig_num z
  rw [num_cnt z 8 (by omega)] at hd
  unfold pivQ
  have hbd := dig_bd z
  by_cases h0 : dig z = 0
  · rw [if_pos h0] at hd
    rw [if_neg (by omega), if_neg]
    rintro ⟨h1, h2, _⟩
    rw [if_pos ⟨h1, h2⟩] at hd; cases hd
  · rw [if_neg h0] at hd
    have hc : 1 ≤ cnt z big ∧ cnt z big ≤ 8 := by
      apply Classical.byContradiction
      intro hn
      rw [if_neg hn] at hd; cases hd
    rw [if_pos hc] at hd
    have he : cnt z big = (dig z).toNat := Option.some.inj hd
    rw [if_pos (by omega), ← he]
    rcases find_mem h (cnt z big) with ⟨x, h1, h2, h3, h4⟩ | ⟨h1, h2⟩
    · rw [h1]
      simp only [Option.bind_some]
      have hk := h.kinds x h3
      rw [h2] at hk
      have hp : pivotB (kd truth) x.2 = (F.all.testBit (cnt z big) == truth) := by
        rw [hk]; unfold pivotB kd; cases truth <;> cases x.2 <;> rfl
      rw [hp]
      by_cases hb : F.all.testBit (cnt z big) = truth
      · rw [if_pos (by simpa using hb), if_pos ⟨hc.1, hc.2, h4, hb⟩]
      · rw [if_neg (by simpa using hb), if_neg (fun hh => hb hh.2.2.2)]
    · rw [h1, if_neg (fun hh => h2 hh.2.2.1)]; rfl
theorem resQ2_eq {F : Form} (a b : Nat × Nat) (v : Nat) (h1 : 1 ≤ v) (h8 : v ≤ 8) (sa : SI F a) (sb : SI F b) : resQ2 a b v = if a.1.testBit v = false ∨ b.2.testBit v = false then none else apartO (resolve2 a b v) := by
  by_cases ha : a.1.testBit v = true
  · by_cases hb : b.2.testBit v = true
    · have e : without2 a b v = resolve2 a b v := by
        have na : a.2.testBit v = false := by
          cases hh : a.2.testBit v with
          | false => rfl
          | true => exact (bits_apart sa.apart v ha hh).elim
        have nb : b.1.testBit v = false := by
          cases hh : b.1.testBit v with
          | false => rfl
          | true => exact (bits_apart sb.apart v hh hb).elim
        unfold without2 without resolve2
        rw [bitOf_nat v h1 h8]
        apply pair_ext
        · intro u
          show (less (a.1 ||| b.1) (2 ^ v)).testBit u = (less a.1 (2 ^ v) ||| b.1).testBit u
          rw [testBit_less, Nat.testBit_or, Nat.testBit_or, testBit_less, Nat.testBit_two_pow]
          by_cases e : v = u
          · subst e; simp [nb]
          · simp [e]
        · intro u
          show (less (a.2 ||| b.2) (2 ^ v)).testBit u = (a.2 ||| less b.2 (2 ^ v)).testBit u
          rw [testBit_less, Nat.testBit_or, Nat.testBit_or, testBit_less, Nat.testBit_two_pow]
          by_cases e : v = u
          · subst e; simp [na]
          · simp [e]
      have e1 : resQ2 a b v = (if (without2 a b v).1 &&& (without2 a b v).2 != 0 then none else some (without2 a b v)) := by
        unfold resQ2; rw [hasLit_pos a v h1 h8, hasLit_neg b v h1 h8, if_pos ⟨ha, hb⟩]
      rw [e1, e, if_neg (show ¬ (a.1.testBit v = false ∨ b.2.testBit v = false) by rw [ha, hb]; simp)]
      unfold apartO
      by_cases hz2 : (resolve2 a b v).1 &&& (resolve2 a b v).2 = 0
      · rw [if_pos hz2, if_neg (by simp [hz2])]
      · rw [if_neg hz2, if_pos (by simpa using hz2)]
    · have hb' : b.2.testBit v = false := by simpa using hb
      rw [if_pos (Or.inr hb')]
      unfold resQ2; rw [hasLit_neg b v h1 h8, if_neg (fun hh => hb hh.2)]
  · have ha' : a.1.testBit v = false := by simpa using ha
    rw [if_pos (Or.inl ha')]
    unfold resQ2; rw [hasLit_pos a v h1 h8, if_neg (fun hh => ha hh.1)]
theorem res_eq {F : Form} {q : QS} (h : FQ F q) (truth : Bool) (ss : List (Nat × Nat)) (hs : ss.length ≤ 9000) (hSI : ∀ c ∈ ss, SI F c) (x y z : List UInt8) : resQ q (kd truth) ss [x, y, z] = resR F truth ss (cnt x big) (cnt y big) (cnt z big) := by
  have LQ : resQ q (kd truth) ss [x, y, z] = (aheadQ ss x).bind fun a => (aheadQ ss y).bind fun b => (pivQ q (kd truth) z).bind fun v => resQ2 a b v := rfl
  have RN : (cnt x big < 1 ∨ ss.length < cnt x big ∨ cnt y big < 1 ∨ ss.length < cnt y big ∨ cnt z big < 1 ∨ 8 < cnt z big) → resR F truth ss (cnt x big) (cnt y big) (cnt z big) = none := fun hh => by unfold resR; rw [if_pos hh]
  rw [LQ]
  by_cases hx : cnt x big < 1 ∨ ss.length < cnt x big
  · rw [ahead_eq ss x hs, if_pos hx, RN (by omega)]; rfl
  · rw [ahead_eq ss x hs, if_neg hx, Option.bind_some]
    by_cases hy : cnt y big < 1 ∨ ss.length < cnt y big
    · rw [ahead_eq ss y hs, if_pos hy, RN (by omega)]; rfl
    · rw [ahead_eq ss y hs, if_neg hy, Option.bind_some]
      by_cases hz : cnt z big < 1 ∨ 8 < cnt z big
      · rw [piv_eq h truth z, if_neg (by omega), RN (by omega)]; rfl
      · have h1 : 1 ≤ cnt z big := by omega
        have h8 : cnt z big ≤ 8 := by omega
        have ia : cnt x big - 1 < ss.length := by omega
        have ib : cnt y big - 1 < ss.length := by omega
        have hR : resR F truth ss (cnt x big) (cnt y big) (cnt z big) = if F.all.testBit (cnt z big) ≠ truth ∨ ss[cnt x big - 1].1.testBit (cnt z big) = false ∨ ss[cnt y big - 1].2.testBit (cnt z big) = false then none else apartO (resolve2 ss[cnt x big - 1] ss[cnt y big - 1] (cnt z big)) := by
          unfold resR
          rw [if_neg (by omega), getD_at _ _ _ ia, getD_at _ _ _ ib]
        rw [hR, getD_at _ _ _ ia, getD_at _ _ _ ib, piv_eq h truth z]
        have sa := hSI _ (List.getElem_mem ia)
        have sb := hSI _ (List.getElem_mem ib)
        clear RN LQ hR
        generalize ss[cnt x big - 1] = a at *
        generalize ss[cnt y big - 1] = b at *
        generalize cnt z big = v at *
        by_cases hk : F.all.testBit v = truth
        · by_cases hm : v ∈ F.order
          · have hc : (1 ≤ v ∧ v ≤ 8 ∧ v ∈ F.order ∧ F.all.testBit v = truth) := ⟨h1, h8, hm, hk⟩
            rw [if_pos hc, Option.bind_some, resQ2_eq a b v h1 h8 sa sb]
            by_cases hh : a.1.testBit v = false ∨ b.2.testBit v = false
            · rw [if_pos hh, if_pos (Or.inr hh)]
            · rw [if_neg hh, if_neg (by rintro (h' | h'); exact h' hk; exact hh h')]
          · have hc : ¬ (1 ≤ v ∧ v ≤ 8 ∧ v ∈ F.order ∧ F.all.testBit v = truth) := fun hh => hm hh.2.2.1
            have ha : a.1.testBit v = false := by
              cases hh : a.1.testBit v with
              | false => rfl
              | true => exact absurd (sa.vars v (Or.inl hh)) hm
            rw [if_neg hc, if_pos (Or.inr (Or.inl ha))]; rfl
        · have hc : ¬ (1 ≤ v ∧ v ≤ 8 ∧ v ∈ F.order ∧ F.all.testBit v = truth) := fun hh => hk hh.2.2.2
          rw [if_neg hc, if_pos (Or.inl hk)]; rfl

/-! Cubes -/
theorem lit_eq (c : Nat × Nat) (w : List UInt8) : (litInto c w).2 = litGood w ∧ (litGood w = true → (litInto c w).1 = withLit c (litNum w) ∧ (litNum w).natAbs = litVar w) := by
  obtain ⟨h1, h2⟩ := litInto_good c w
  refine ⟨h1, fun hg => ⟨h2 hg, ?_⟩⟩
  unfold litGood at hg
  unfold litNum litVar
  by_cases hh : w.head? = some 45
  · rw [if_pos hh] at hg ⊢
    have hd : 0 < dig w.tail := of_decide_eq_true hg
    have h0 : dig w = 0 := by
      cases w with
      | nil => simp at hh
      | cons a r =>
        simp at hh; subst hh
        cases r with
        | nil => rfl
        | cons b r => rfl
    rw [if_pos h0]; omega
  · rw [if_neg hh] at hg ⊢
    have hd : 0 < dig w := of_decide_eq_true hg
    rw [if_neg (by omega)]; omega
theorem cube_eq {F : Form} {q : QS} (h : FQ F q) (ws : List (List UInt8)) : ∀ (c : Nat × Nat) (last : Nat), cubeQ q.vars c last ws = cubeTo F.order c last ws := by
  induction ws with
  | nil => intro c last; rfl
  | cons w ws ih =>
    intro c last
    obtain ⟨h1, h2⟩ := lit_eq c w
    rw [cubeQ, cubeTo, h1]
    cases hg : litGood w with
    | false => rw [if_neg (by decide), if_neg (fun hh => by cases hh.1)]
    | true =>
      obtain ⟨h3, h4⟩ := h2 hg
      rw [if_pos rfl, h4, h3]
      rcases find_mem h (litVar w) with ⟨x, f1, f2, f3, f4⟩ | ⟨f1, f2⟩
      · rw [f1]
        dsimp only
        rw [f2]
        by_cases hle : litVar w ≤ last
        · rw [if_pos hle, if_neg (fun hh => by have := hh.2.1; omega)]
        · rw [if_neg hle, if_pos ⟨rfl, by omega, f4⟩, ih]
      · rw [f1]
        dsimp only
        rw [if_neg (fun hh => f2 hh.2.2)]
theorem okC_eq (x c : Nat × Nat) : okC x c = !missed x c := by
  unfold okC missed
  have e : ((x.1 &&& c.1) ||| (x.2 &&& c.2) != 0) = !((x.1 &&& c.1 == 0) && (x.2 &&& c.2 == 0)) := by
    have : (x.1 &&& c.1) ||| (x.2 &&& c.2) = 0 ↔ (x.1 &&& c.1 = 0 ∧ x.2 &&& c.2 = 0) := by
      constructor
      · intro h
        constructor
        · apply Nat.eq_of_testBit_eq; intro i
          have : ((x.1 &&& c.1) ||| (x.2 &&& c.2)).testBit i = false := by rw [h]; simp
          rw [Nat.testBit_or, Bool.or_eq_false_iff] at this
          rw [this.1]; simp
        · apply Nat.eq_of_testBit_eq; intro i
          have : ((x.1 &&& c.1) ||| (x.2 &&& c.2)).testBit i = false := by rw [h]; simp
          rw [Nat.testBit_or, Bool.or_eq_false_iff] at this
          rw [this.2]; simp
      · rintro ⟨h1, h2⟩; rw [h1, h2]; rfl
    rw [Bool.eq_iff_iff, bne_iff_ne, Bool.not_eq_true', Bool.and_eq_false_iff, beq_eq_false_iff_ne, beq_eq_false_iff_ne, ne_eq, this, Classical.not_and_iff_not_or_not]
  rw [e]
  cases h1 : (x.1 &&& x.2 == 0) <;> cases h2 : (x.1 &&& c.1 == 0) <;> cases h3 : (x.2 &&& c.2 == 0) <;> simp [bne, h1]
theorem cubeStep_eq {F : Form} {q : QS} (h : FQ F q) (ws : List (List UInt8)) : cubeStepQ q 2 ws = cubeR F ws := by
  unfold cubeStepQ cubeR
  rw [if_pos rfl, cube_eq h, h.cl]
  congr 1
  funext c
  have : satQ q.cl c = satR q.cl c := by
    unfold satQ satR
    congr 1
    funext x
    exact okC_eq x c
  rw [this]

/-! Lines -/
theorem step_eq {F : Form} {q : QS} (h : FQ F q) (hF : FOk F) (truth : Bool) (ss : List (Nat × Nat)) (hs : ss.length ≤ 9000) (hSI : ∀ c ∈ ss, SI F c) (hd : List UInt8) (tl : List (List UInt8)) : stepQ q (kd truth) ss hd tl = stepR F truth ss hd tl := by
  unfold stepQ
  by_cases ha : hd = [97]
  · subst ha
    rw [if_pos rfl]
    cases truth with
    | true =>
      have e1 : stepR F true ss [97] tl = none := rfl
      rw [e1]; rfl
    | false =>
      by_cases hl : tl.length = 1
      · obtain ⟨x, rfl⟩ := List.length_eq_one_iff.1 hl
        exact axiom_eq h x
      · have e1 : stepR F false ss [97] tl = none := by unfold stepR; rw [if_neg (fun h => hl h.2.2), if_neg (by simp), if_neg (by simp), if_neg (by simp)]
        rw [e1]
        unfold axiomQ
        split
        · split
          · simp at hl
          · rfl
        · rfl
  · rw [if_neg ha]
    by_cases hc : hd = [99]
    · subst hc
      rw [if_pos rfl]
      cases truth with
      | false =>
        have e1 : stepR F false ss [99] tl = none := rfl
        rw [e1]; rfl
      | true =>
        have e1 : stepR F true ss [99] tl = cubeR F tl := rfl
        rw [e1]; exact cubeStep_eq h tl
    · rw [if_neg hc]
      by_cases hr : hd = [114]
      · subst hr
        rw [if_pos rfl]
        by_cases hl : tl.length = 3
        · obtain ⟨x, y, z, rfl⟩ := len_three hl
          rw [res_eq h truth ss hs hSI]
          unfold stepR; rw [if_neg (by simp), if_neg (by simp), if_pos ⟨rfl, rfl⟩]; rfl
        · have e1 : stepR F truth ss [114] tl = none := by unfold stepR; rw [if_neg (by simp), if_neg (by simp), if_neg (fun h => hl h.2), if_neg (by simp)]
          rw [e1]
          unfold resQ
          split
          · simp at hl
          · rfl
      · rw [if_neg hr]
        by_cases hdd : hd = [100]
        · subst hdd
          rw [if_pos rfl]
          by_cases hl : tl.length = 1
          · obtain ⟨x, rfl⟩ := List.length_eq_one_iff.1 hl
            rw [reduct_eq h hF truth ss hs]
            unfold stepR; rw [if_neg (by simp), if_neg (by simp), if_neg (by simp), if_pos ⟨rfl, rfl⟩]; rfl
          · have e1 : stepR F truth ss [100] tl = none := by unfold stepR; rw [if_neg (by simp), if_neg (by simp), if_neg (by simp), if_neg (fun h => hl h.2)]
            rw [e1]
            unfold reductQ
            split
            · simp at hl
            · rfl
        · rw [if_neg hdd]
          unfold stepR; rw [if_neg (fun h => ha h.1), if_neg (fun h => hc h.1), if_neg (fun h => hr h.1), if_neg (fun h => hdd h.1)]
end Go.Proofs.YtgipjjhkhfihpaaGreatDoor

namespace Go.Proofs.YtgipjjhkhfihpaaGreatDoor
open Go.RowKit

theorem cnt_nil : cnt [] big = 0 := rfl
theorem cubeTo_bad (order : List Nat) (ws : List (List UInt8)) (h : [] ∈ ws) : ∀ c last, cubeTo order c last ws = none := by
  induction ws with
  | nil => simp at h
  | cons w ws ih =>
    intro c last
    rw [cubeTo]
    rcases List.mem_cons.1 h with h | h
    · subst h; rw [if_neg]; rintro ⟨h1, _⟩; cases h1
    · split
      · exact ih h _ _
      · rfl
theorem step_bad (F : Form) (truth : Bool) (ss : List (Nat × Nat)) (hd : List UInt8) (tl : List (List UInt8)) (h : hd = [] ∨ [] ∈ tl) : stepR F truth ss hd tl = none := by
  rcases h with h | h
  · subst h
    unfold stepR; rw [if_neg (by simp), if_neg (by simp), if_neg (by simp), if_neg (by simp)]
  · unfold stepR
    split
    · next hc =>
      obtain ⟨x, rfl⟩ := List.length_eq_one_iff.1 hc.2.2
      have hx : x = [] := by simpa using h
      subst hx
      show axR F (cnt [] big) = none
      rw [cnt_nil]; rfl
    · split
      · unfold cubeR; rw [cubeTo_bad _ _ h]; rfl
      · split
        · next hc =>
          obtain ⟨x, y, z, rfl⟩ := len_three hc.2
          show resR F truth ss (cnt x big) (cnt y big) (cnt z big) = none
          unfold resR
          rw [if_pos]
          simp at h
          rcases h with h | h | h
          · left; rw [h, cnt_nil]; omega
          · right; right; left; rw [h, cnt_nil]; omega
          · right; right; right; right; left; rw [h, cnt_nil]; omega
        · split
          · next hc =>
            obtain ⟨x, rfl⟩ := List.length_eq_one_iff.1 hc.2
            have hx : x = [] := by simpa using h
            subst hx
            show reductR F truth ss (cnt [] big) = none
            rw [cnt_nil]; rfl
          · rfl
theorem line_eq {F : Form} {q : QS} (h : FQ F q) (hF : FOk F) (truth : Bool) (ss : List (Nat × Nat)) (hs : ss.length ≤ 9000) (hSI : ∀ c ∈ ss, SI F c) (row : List UInt8) : lineQ q (kd truth) ss row = lineR F truth ss row := by
  obtain ⟨hd, tl, hws⟩ : ∃ hd tl, cutAt 32 row = hd :: tl := by
    cases h : cutAt 32 row with
    | nil => simp [cutAt] at h
    | cons a b => exact ⟨a, b, rfl⟩
  rw [lineR_eq F truth ss row hd tl hws]
  by_cases h9 : 9000 ≤ ss.length
  · rw [if_pos (by omega)]
    unfold lineQ; rw [if_pos h9]
  · rw [if_neg (by omega)]
    cases hsp : splitOk row with
    | true => rw [lineQ_eq q (kd truth) ss row hd tl h9 hsp hws, step_eq h hF truth ss hs hSI]
    | false =>
      rw [step_bad F truth ss hd tl (split_words row hd tl hws hsp)]
      unfold lineQ; rw [if_neg h9, hsp]; rfl
theorem si_of {F : Form} {truth : Bool} {c : Nat × Nat} (hg : Good (satB F.cl) F.all (!truth) F.order c) (hb : Bd c) : SI F c := ⟨hb, apart_bits hg.apart, hg.vars⟩
theorem lineR_good {F : Form} (hF : FOk F) (truth : Bool) (ss : List (Nat × Nat)) (hg : ∀ c ∈ ss, Good (satB F.cl) F.all (!truth) F.order c) (hb : ∀ c ∈ ss, Bd c) (row : List UInt8) (c : Nat × Nat) (h : lineR F truth ss row = some c) : Good (satB F.cl) F.all (!truth) F.order c ∧ Bd c ∧ ss.length < 9000 ∨ 9000 < ss.length := by
  unfold lineR at h
  split at h
  · cases h
  · split at h
    · cases h
    · next h9 =>
      by_cases hh : 9000 < ss.length
      · exact Or.inr hh
      · exact Or.inl ⟨good_stepR hF truth ss _ _ _ hg h, stepR_bd F truth ss _ _ c hF.bits hb h, by omega⟩
theorem rowsQ_eq {F : Form} {q : QS} (h : FQ F q) (hF : FOk F) (truth : Bool) (rs : List (List UInt8)) : ∀ (ss : List (Nat × Nat)) (n : Nat), ss.length ≤ 9000 → (∀ c ∈ ss, Good (satB F.cl) F.all (!truth) F.order c) → (∀ c ∈ ss, Bd c) → rowsQ q (kd truth) ss n rs = rowsR F truth ss n rs := by
  induction rs with
  | nil => intro ss n _ _ _; rfl
  | cons r rs ih =>
    intro ss n hs hg hb
    rw [rowsQ, rowsR, line_eq h hF truth ss hs (fun c hc => si_of (hg c hc) (hb c hc)) r]
    cases hl : lineR F truth ss r with
    | none => rfl
    | some c =>
      dsimp only
      rcases lineR_good hF truth ss hg hb r c hl with ⟨h1, h2, h3⟩ | h9
      · apply ih
        · simp; omega
        · intro c' hc'
          rcases List.mem_append.1 hc' with hc' | hc'
          · exact hg c' hc'
          · simp at hc'; subst hc'; exact h1
        · intro c' hc'
          rcases List.mem_append.1 hc' with hc' | hc'
          · exact hb c' hc'
          · simp at hc'; subst hc'; exact h2
      · omega
theorem check_eq {F : Form} {q : QS} (h : FQ F q) (hF : FOk F) (l : List UInt8) : checkQ q l = match provesR F l with
    | .inl (x, i) => (0, x, i)
    | .inr (truth, _) => (kd truth, 0, 0) := by
  unfold checkQ readQ provesR
  by_cases hl : 262144 < l.length
  · rw [if_pos hl, if_pos hl]
  · rw [if_neg hl, if_neg hl]
    cases hrows : (cutTo 10 l).1 with
    | nil => rfl
    | cons r0 rs =>
      unfold firstQ
      dsimp only
      by_cases hr : r0 = sTrue ∨ r0 = sFalse
      · rw [if_pos hr, if_pos hr]
        have hk : kindOf r0 = kd (r0 == sTrue) := by
          unfold kindOf kd
          by_cases e : r0 = sTrue
          · rw [if_pos e, if_pos (by simpa using e)]
          · rw [if_neg e, if_neg (by simpa using e)]
        unfold goQ
        rw [hk, rowsQ_eq h hF (r0 == sTrue) rs [] 1 (by simp) (by simp) (by simp)]
        cases rowsR F (r0 == sTrue) [] 1 rs with
        | inr i => rfl
        | inl ss =>
          dsimp only
          have he : closedQ ss = emptyLast ss := rfl
          rw [he]
          by_cases hc : (cutTo 10 l).2 = [] ∧ emptyLast ss = true
          · rw [if_pos hc, if_pos ⟨by simpa using hc.1, hc.2⟩]
          · rw [if_neg hc, if_neg (fun hh => hc ⟨by simpa using hh.1, hh.2⟩)]
      · rw [if_neg hr, if_neg hr]

/-! ### Of formulas that were read -/
theorem allTo_small (st : RS) (h : ∀ v ∈ st.told, v ≤ 8) (k : Nat) : allTo st k < 512 := by
  unfold allTo
  have hz : ∀ x ∈ ((st.told.zip st.kinds).take k), x.1 ≤ 8 := fun x hx => h _ (List.of_mem_zip (List.mem_of_mem_take hx)).1
  suffices hh : ∀ (l : List (Nat × Bool)) (a : Nat), a < 512 → (∀ x ∈ l, x.1 ≤ 8) → l.foldl (fun a x => if x.2 then a ||| 2 ^ x.1 else a) a < 512 from hh _ 0 (by omega) hz
  intro l
  induction l with
  | nil => intro a ha _; exact ha
  | cons x l ih =>
    intro a ha hx
    rw [List.foldl_cons]
    apply ih
    · split
      · have := pow_bd x.1 (hx x (by simp))
        exact or_lt _ _ ha (by omega)
      · exact ha
    · exact fun y hy => hx y (by simp [hy])
theorem big_bit (a v : Nat) (h : a < 512) (hv : a.testBit v = true) : v ≤ 8 := by
  apply Classical.byContradiction
  intro hn
  have : a.testBit v = false := Nat.testBit_lt_two_pow (Nat.lt_of_lt_of_le (show a < 2 ^ 9 from h) (Nat.pow_le_pow_right (by omega) (by omega)))
  rw [this] at hv; cases hv
theorem fq_of {st : RS} {q0 : QS} (hs : Same st q0) (hn : QNice q0) (hc : q0.cl.length ≤ 24) : FQ (finish st) (qFinish q0) ∧ FOk (finish st) ∧ FW (finish st) := by
  have ho := order_eq hs
  have hna := names_all hn
  have hk := kinds_eq hs hn
  have hcl : (finish st).cl = q0.cl := hs.cl
  have hbits : ∀ c ∈ q0.cl, Bd c := hn.bits
  have hlen := vars_le hn
  have hv : ∀ c ∈ q0.cl, ∀ v, c.1.testBit v = true ∨ c.2.testBit v = true → v ∈ (finish st).order := by
    intro c hcm v hb
    have h8 : v ≤ 8 := by
      rcases hb with hb | hb
      · exact big_bit _ _ (hn.bits c hcm).1 hb
      · exact big_bit _ _ (hn.bits c hcm).2 hb
    have h1 : 1 ≤ v := by
      rcases Nat.eq_zero_or_pos v with e | e
      · subst e
        have := hn.bit0 c hcm
        rcases hb with hb | hb
        · rw [this.1] at hb; cases hb
        · rw [this.2] at hb; cases hb
      · exact e
    show v ∈ freeTo st 8 ++ st.told
    rw [List.mem_append]
    by_cases hsv : hasV q0.vars v = true
    · right
      rw [hs.told, List.mem_map]
      unfold hasV at hsv
      rw [List.any_eq_true] at hsv
      obtain ⟨x, hx, he⟩ := hsv
      exact ⟨x, hx, by simpa using he⟩
    · left
      rw [free_eq hs]
      unfold freeQ
      rw [List.mem_filter]
      refine ⟨List.mem_map.2 ⟨v - 1, by simp; omega, by omega⟩, ?_⟩
      rw [Bool.and_eq_true]
      refine ⟨by simpa using hsv, ?_⟩
      unfold inC
      rw [List.any_eq_true]
      refine ⟨c, hcm, ?_⟩
      rw [bitOf_nat v h1 h8, and_pow_ne, Nat.testBit_or, Bool.or_eq_true]
      exact hb
  have hnm : ∀ v ∈ (finish st).order, 1 ≤ v ∧ v ≤ 8 := by
    intro v hvv
    rw [ho, List.mem_map] at hvv
    obtain ⟨x, hx, rfl⟩ := hvv
    exact hna.2 x hx
  have htold : ∀ v ∈ st.told, v ≤ 8 := by
    intro v hvv
    rw [hs.told, List.mem_map] at hvv
    obtain ⟨x, hx, rfl⟩ := hvv
    exact (hn.names x hx).2
  refine ⟨⟨ho, hk, hna.1, hna.2, hcl, hc, hbits, hv⟩, ⟨by rw [ho]; exact hna.1, hnm, by rw [hcl]; exact hbits, by rw [hcl]; exact hv⟩, ⟨by rw [ho]; simpa using hlen, fun v h => (hnm v h).2, by rw [hcl]; exact hc, by rw [hcl]; exact hn.bits, allTo_small st htold _⟩⟩
theorem qb_of {q0 : QS} (hn : QNice q0) (hc : q0.cl.length ≤ 24) : QB (qFinish q0) := ⟨vars_le hn, hc, hn.bits, (names_all hn).2⟩
end Go.Proofs.YtgipjjhkhfihpaaGreatDoor
