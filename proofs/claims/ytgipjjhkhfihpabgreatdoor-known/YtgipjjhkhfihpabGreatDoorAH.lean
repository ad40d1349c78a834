import Derived.Test.YtgipjjhkhfihpabGreatDoorAG
import Derived.Test.YtgipjjhkhfihpabGreatDoorAA
import Derived.Lib.ItoaLen
import Derived.Test.YtgipjjhkhfihpabGreatDoorAD
import Derived.Test.YtgipjjhkhfihpabGreatDoorAF
import Derived.Test.YtgipjjhkhfihpabGreatDoorAC
namespace Go.Proofs.YtgipjjhkhfihpabGreatDoor
open Go.RowKit

/-! ### Steps that are needed -/
abbrev P0 : Stp := ⟨0, 0, 0, 0, (0, 0)⟩
theorem getD_set (m : List Bool) (i j : Nat) : (m.set i true).getD j false = (decide (i = j ∧ i < m.length) || m.getD j false) := by
  rw [List.getD, List.getD, List.getElem?_set]
  by_cases e : i = j
  · subst e
    by_cases h : i < m.length
    · simp [h]
    · simp [h]
  · simp [e]
structure MarkOk (q : QS) (k : Nat) (p : List Stp) (last i : Nat) (m : List Bool) : Prop where
  len : m.length = p.length + 1
  at_ : ∀ j, m.getD j false = true → j ≤ last ∧ 1 ≤ j ∧ Free (litsAt p j)
  closed : ∀ j (h : j < p.length), i ≤ j → m.getD (j + 1) false = true → p[j].rule ≠ 1 → (0 < p[j].first ∧ p[j].first < j + 1 → m.getD p[j].first false = true) ∧ (0 < p[j].second ∧ p[j].second < j + 1 → m.getD p[j].second false = true)
  last : i < last → m.getD last false = true
theorem markOne_len (b : Bool) (i n : Nat) (m : List Bool) : (markOne b i n m).length = m.length := by
  unfold markOne; split <;> simp
theorem markOne_get (b : Bool) (i n : Nat) (m : List Bool) (j : Nat) : (markOne b i n m).getD j false = (decide (b = true ∧ 0 < n ∧ n < i ∧ n = j ∧ n < m.length) || m.getD j false) := by
  unfold markOne
  split
  · next h =>
    rw [getD_set]
    simp only [h.1, h.2.1, h.2.2, true_and]
  · next h =>
    have : ¬ (b = true ∧ 0 < n ∧ n < i ∧ n = j ∧ n < m.length) := fun hh => h ⟨hh.1, hh.2.1, hh.2.2.1⟩
    simp [this]
/-- Steps ahead of a step that are made well. -/
theorem stok_ahead {q : QS} {k : Nat} {p : List Stp} (hp : POk q k p) (j : Nat) (h : j < p.length) (hr : p[j].rule ≠ 1) : (0 < p[j].first → p[j].first ≤ j ∧ Free (litsAt p p[j].first)) ∧ (0 < p[j].second → p[j].second ≤ j ∧ Free (litsAt p p[j].second)) := by
  have hlen : (p.take j).length = j := by simp; omega
  have hla : ∀ n, n ≤ j → litsAt (p.take j) n = litsAt p n := fun n hn => by
    conv => rhs; rw [← List.take_append_drop j p]
    rw [litsAt_append _ _ _ (by omega)]
  rcases (hp j h).2 with ⟨h1, _⟩ | ⟨_, _, h1, h2, _⟩ | ⟨_, h1, h2, _, _, _, h3, h4, _⟩ | ⟨_, h1, h2, h3, _⟩
  · exact absurd h1 hr
  · exact ⟨fun h => by omega, fun h => by omega⟩
  · rw [hlen] at h1 h2
    exact ⟨fun _ => ⟨h1.2, by rw [← hla _ h1.2]; exact h3⟩, fun _ => ⟨h2.2, by rw [← hla _ h2.2]; exact h4⟩⟩
  · rw [hlen] at h1
    exact ⟨fun _ => ⟨h1.2, by rw [← hla _ h1.2]; exact h3⟩, fun h => by omega⟩
theorem markStep_ok {q : QS} {k : Nat} {p : List Stp} (hp : POk q k p) {last i : Nat} (hi : i < p.length) (h1 : 1 ≤ last) (hl : last ≤ p.length) (hf : Free (litsAt p last)) {m : List Bool} (h : MarkOk q k p last (i + 1) m) : MarkOk q k p last i (markStep p last (i + 1) m) := by
  have hg : p.getD (i + 1 - 1) P0 = p[i] := by rw [Nat.add_sub_cancel, List.getD, List.getElem?_eq_getElem hi]; rfl
  unfold markStep
  rw [show (⟨0, 0, 0, 0, (0, 0)⟩ : Stp) = P0 from rfl, hg]
  dsimp only
  have hm1 : ∀ j, (if i + 1 = last then m.set (i + 1) true else m).getD j false = (decide (i + 1 = last ∧ i + 1 = j) || m.getD j false) := by
    intro j
    split
    · next e => rw [getD_set]; simp only [e, true_and]; rw [h.len]; simp only [show last < p.length + 1 from by omega, and_true]
    · next e => simp [e]
  have hm1l : (if i + 1 = last then m.set (i + 1) true else m).length = p.length + 1 := by
    split
    · rw [List.length_set]; exact h.len
    · exact h.len
  generalize (if i + 1 = last then m.set (i + 1) true else m) = m1 at *
  have hat1 : ∀ j, m1.getD j false = true → j ≤ last ∧ 1 ≤ j ∧ Free (litsAt p j) := by
    intro j hj
    rw [hm1, Bool.or_eq_true] at hj
    rcases hj with hj | hj
    · have := of_decide_eq_true hj
      rw [← this.2, this.1]; exact ⟨Nat.le_refl _, h1, hf⟩
    · exact h.at_ j hj
  have hah := stok_ahead hp i hi
  generalize hb : (m1.getD (i + 1) false && decide (p[i].rule ≠ 1)) = b at *
  have hget : ∀ j, (markOne b (i + 1) p[i].second (markOne b (i + 1) p[i].first m1)).getD j false = true ↔ ((b = true ∧ 0 < p[i].second ∧ p[i].second < i + 1 ∧ p[i].second = j) ∨ (b = true ∧ 0 < p[i].first ∧ p[i].first < i + 1 ∧ p[i].first = j) ∨ m1.getD j false = true) := by
    intro j
    rw [markOne_get, markOne_get, markOne_len, Bool.or_eq_true, Bool.or_eq_true, decide_eq_true_eq, decide_eq_true_eq, hm1l]
    constructor
    · rintro (⟨a, b, c, d, _⟩ | ⟨a, b, c, d, _⟩ | a)
      · exact Or.inl ⟨a, b, c, d⟩
      · exact Or.inr (Or.inl ⟨a, b, c, d⟩)
      · exact Or.inr (Or.inr a)
    · rintro (⟨a, b, c, d⟩ | ⟨a, b, c, d⟩ | a)
      · exact Or.inl ⟨a, b, c, d, by omega⟩
      · exact Or.inr (Or.inl ⟨a, b, c, d, by omega⟩)
      · exact Or.inr (Or.inr a)
  have hbt : b = true → m1.getD (i + 1) false = true ∧ p[i].rule ≠ 1 := by
    intro e
    rw [← hb, Bool.and_eq_true, decide_eq_true_eq] at e
    exact e
  refine ⟨by rw [markOne_len, markOne_len]; exact hm1l, fun j hj => ?_, fun j hj hij hm hr => ?_, fun hil => ?_⟩
  · rw [hget] at hj
    rcases hj with ⟨e, h2, h3, rfl⟩ | ⟨e, h2, h3, rfl⟩ | hj
    · obtain ⟨e1, e2⟩ := hbt e
      have := (hat1 _ e1).1
      exact ⟨by omega, h2, ((hah e2).2 h2).2⟩
    · obtain ⟨e1, e2⟩ := hbt e
      have := (hat1 _ e1).1
      exact ⟨by omega, h2, ((hah e2).1 h2).2⟩
    · exact hat1 j hj
  · by_cases e : j = i
    · subst e
      have hm2 : m1.getD (j + 1) false = true := by
        rw [hget] at hm
        rcases hm with ⟨_, _, h3, h4⟩ | ⟨_, _, h3, h4⟩ | hm
        · omega
        · omega
        · exact hm
      have hbb : b = true := by rw [← hb, hm2]; simpa using hr
      exact ⟨fun hh => (hget _).2 (Or.inr (Or.inl ⟨hbb, hh.1, hh.2, rfl⟩)), fun hh => (hget _).2 (Or.inl ⟨hbb, hh.1, hh.2, rfl⟩)⟩
    · have hm2 : m.getD (j + 1) false = true := by
        rw [hget] at hm
        rcases hm with ⟨_, _, h3, h4⟩ | ⟨_, _, h3, h4⟩ | hm
        · omega
        · omega
        · rw [hm1, Bool.or_eq_true] at hm
          rcases hm with hm | hm
          · have := of_decide_eq_true hm; omega
          · exact hm
      have up : ∀ n, m.getD n false = true → (markOne b (i + 1) p[i].second (markOne b (i + 1) p[i].first m1)).getD n false = true := fun n hn => (hget n).2 (Or.inr (Or.inr (by rw [hm1, hn]; simp)))
      have := h.closed j hj (by omega) hm2 hr
      exact ⟨fun hh => up _ (this.1 hh), fun hh => up _ (this.2 hh)⟩
  · rw [hget]
    right; right
    rw [hm1]
    by_cases e : i + 1 = last
    · simp [e]
    · rw [h.last (by omega)]; simp
theorem markTo_ok {q : QS} {k : Nat} {p : List Stp} (hp : POk q k p) {last : Nat} (h1 : 1 ≤ last) (hl : last ≤ p.length) (hf : Free (litsAt p last)) : ∀ (i : Nat) (m : List Bool), i ≤ p.length → MarkOk q k p last i m → MarkOk q k p last 0 (markTo p last i m) := by
  intro i
  induction i with
  | zero => intro m _ h; exact h
  | succ i ih => intro m hi h; exact ih _ (by omega) (markStep_ok hp (by omega) h1 hl hf h)
theorem marks_ok {q : QS} {k : Nat} {p : List Stp} (hp : POk q k p) {last : Nat} (h1 : 1 ≤ last) (hl : last ≤ p.length) (hf : Free (litsAt p last)) : MarkOk q k p last 0 (needs p last) := by
  have hno : ∀ j, (List.replicate (p.length + 1) false).getD j false = false := fun j => by
    rw [List.getD, List.getElem?_replicate]; split <;> rfl
  refine markTo_ok hp h1 hl hf _ _ (Nat.le_refl _) ⟨by simp, fun j hj => ?_, fun j hj hij => by omega, fun h => by omega⟩
  rw [hno] at hj; cases hj

/-! ### The short proof -/
structure ShortOk (q : QS) (k : Nat) (p : List Stp) (mk : List Bool) (last i : Nat) (sh : List Stp) (nums : List Nat) : Prop where
  ok : POk q k sh
  free : ∀ s ∈ sh, Free s.lits
  nlen : nums.length = p.length + 1
  zero : nums.getD 0 0 = 0
  nums : ∀ j, 1 ≤ j → j ≤ i → mk.getD j false = true → 1 ≤ nums.getD j 0 ∧ nums.getD j 0 ≤ sh.length ∧ litsAt sh (nums.getD j 0) = litsAt p j
  len : sh.length ≤ i
  twos : twos sh ≤ twos (p.take i)
  last : last ≤ i → ∃ s, sh.getLast? = some s ∧ s.lits = litsAt p last
theorem twos_snoc (p : List Stp) (s : Stp) : twos (p ++ [s]) = twos p + (if s.rule = 3 then 1 else 0) := by
  unfold twos
  rw [List.filter_append, List.length_append]
  by_cases h : s.rule = 3
  · simp [h]
  · simp [h]
theorem getD_setN (m : List Nat) (i j x : Nat) (h : i < m.length) : (m.set i x).getD j 0 = if i = j then x else m.getD j 0 := by
  rw [List.getD, List.getD, List.getElem?_set]
  by_cases e : i = j
  · subst e; simp [h]
  · simp [e]
theorem shortStep_ok {q : QS} {k : Nat} {p : List Stp} (hp : POk q k p) {mk : List Bool} {last i : Nat} (hi : i < p.length) (_h1 : 1 ≤ last) (hM : MarkOk q k p last 0 mk) {sh : List Stp} {nums : List Nat} (h : ShortOk q k p mk last i sh nums) (hm : mk.getD (i + 1) false = true) :
    ShortOk q k p mk last (i + 1) (sh ++ [renum nums i (p.getD i P0)]) (nums.set (i + 1) (sh.length + 1)) := by
  have hg : p.getD i P0 = p[i] := by rw [List.getD, List.getElem?_eq_getElem hi]; rfl
  rw [hg]
  have htl : (p.take i).length = i := by simp; omega
  have hla : ∀ n, n ≤ i → litsAt (p.take i) n = litsAt p n := fun n hn => by
    conv => rhs; rw [← List.take_append_drop i p]
    rw [litsAt_append _ _ _ (by omega)]
  have hlits : (renum nums i p[i]).lits = p[i].lits := rfl
  have hrule : (renum nums i p[i]).rule = p[i].rule := rfl
  have hvar : (renum nums i p[i]).var = p[i].var := rfl
  have hself : litsAt p (i + 1) = p[i].lits := litsAt_in p i hi
  have hcl := hM.closed i hi (by omega) hm
  have hnew : StOk q k sh (renum nums i p[i]) := by
    obtain ⟨hlok, hst⟩ := hp i hi
    refine ⟨hlok, ?_⟩
    rw [hrule, hlits, hvar]
    rcases hst with ⟨r1, r2, r3, r4, r5, r6⟩ | ⟨r1, r2, r3, r4, r5⟩ | ⟨r1, r2, r3, r4, r5, r6, r7, r8, r9, r10⟩ | ⟨r1, r2, r3, r4, r5⟩
    · left
      have e1 : (renum nums i p[i]).first = p[i].first := by show (if p[i].rule ≠ 1 ∧ _ then _ else _) = _; rw [if_neg (by simp [r1])]
      have e2 : (renum nums i p[i]).second = 0 := by show (if p[i].second ≤ i then _ else _) = _; rw [if_pos (by omega), r5]; exact h.zero
      rw [e1, e2]
      exact ⟨r1, r2, r3, r4, rfl, r6⟩
    · right; left
      have e1 : (renum nums i p[i]).first = 0 := by show (if p[i].rule ≠ 1 ∧ p[i].first ≤ i then _ else _) = _; rw [if_pos ⟨by omega, by omega⟩, r3]; exact h.zero
      have e2 : (renum nums i p[i]).second = 0 := by show (if p[i].second ≤ i then _ else _) = _; rw [if_pos (by omega), r4]; exact h.zero
      rw [e1, e2]
      exact ⟨r1, r2, rfl, rfl, r5⟩
    · right; right; left
      rw [htl] at r2 r3
      have hr : p[i].rule ≠ 1 := by omega
      have n1 := h.nums p[i].first r2.1 r2.2 ((hcl hr).1 ⟨by omega, by omega⟩)
      have n2 := h.nums p[i].second r3.1 r3.2 ((hcl hr).2 ⟨by omega, by omega⟩)
      have e1 : (renum nums i p[i]).first = nums.getD p[i].first 0 := by show (if p[i].rule ≠ 1 ∧ p[i].first ≤ i then _ else _) = _; rw [if_pos ⟨hr, r2.2⟩]
      have e2 : (renum nums i p[i]).second = nums.getD p[i].second 0 := by show (if p[i].second ≤ i then _ else _) = _; rw [if_pos r3.2]
      rw [hla _ r2.2] at r5 r7 r10
      rw [hla _ r3.2] at r6 r8 r10
      rw [e1, e2, n1.2.2, n2.2.2]
      exact ⟨r1, ⟨n1.1, n1.2.1⟩, ⟨n2.1, n2.2.1⟩, r4, r5, r6, r7, r8, r9, r10⟩
    · right; right; right
      rw [htl] at r2
      have hr : p[i].rule ≠ 1 := by omega
      have n1 := h.nums p[i].first r2.1 r2.2 ((hcl hr).1 ⟨by omega, by omega⟩)
      have e1 : (renum nums i p[i]).first = nums.getD p[i].first 0 := by show (if p[i].rule ≠ 1 ∧ p[i].first ≤ i then _ else _) = _; rw [if_pos ⟨hr, r2.2⟩]
      have e2 : (renum nums i p[i]).second = 0 := by show (if p[i].second ≤ i then _ else _) = _; rw [if_pos (by omega), r3]; exact h.zero
      rw [hla _ r2.2] at r4 r5
      rw [e1, e2, n1.2.2]
      exact ⟨r1, ⟨n1.1, n1.2.1⟩, rfl, r4, r5⟩
  have hsl := h.len
  refine ⟨h.ok.snoc hnew, fun s hs => ?_, by rw [List.length_set]; exact h.nlen, ?_, fun j hj1 hji hmj => ?_, by simp; omega, ?_, fun hli => ?_⟩
  · rcases List.mem_append.1 hs with hs | hs
    · exact h.free s hs
    · simp at hs; subst hs
      rw [hlits, ← hself]; exact (hM.at_ _ hm).2.2
  · rw [getD_setN _ _ _ _ (by rw [h.nlen]; omega), if_neg (by omega)]; exact h.zero
  · rw [getD_setN _ _ _ _ (by rw [h.nlen]; omega)]
    by_cases e : i + 1 = j
    · subst e
      rw [if_pos rfl]
      exact ⟨by omega, by simp, by rw [litsAt_new, hlits, hself]⟩
    · rw [if_neg e]
      have := h.nums j hj1 (by omega) hmj
      exact ⟨this.1, by rw [List.length_append]; omega, by rw [litsAt_append _ _ _ this.2.1]; exact this.2.2⟩
  · rw [twos_snoc, hrule, List.take_succ_eq_append_getElem hi, twos_snoc]
    have := h.twos
    omega
  · by_cases e : last = i + 1
    · exact ⟨renum nums i p[i], by simp, by rw [hlits, e, hself]⟩
    · have := (hM.at_ _ hm).1
      omega
theorem shortSkip_ok {q : QS} {k : Nat} {p : List Stp} {mk : List Bool} {last i : Nat} (hi : i < p.length) (hM : MarkOk q k p last 0 mk) (h1 : 1 ≤ last) {sh : List Stp} {nums : List Nat} (h : ShortOk q k p mk last i sh nums) (hm : mk.getD (i + 1) false = false) : ShortOk q k p mk last (i + 1) sh nums := by
  refine ⟨h.ok, h.free, h.nlen, h.zero, fun j hj1 hji hmj => ?_, by have := h.len; omega, ?_, fun hli => ?_⟩
  · by_cases e : j = i + 1
    · subst e; rw [hm] at hmj; cases hmj
    · exact h.nums j hj1 (by omega) hmj
  · rw [List.take_succ_eq_append_getElem hi, twos_snoc]
    have := h.twos
    omega
  · by_cases e : last = i + 1
    · have := hM.last (by omega)
      rw [e, hm] at this; cases this
    · exact h.last (by omega)
theorem shortTo_ok {q : QS} {k : Nat} {p : List Stp} (hp : POk q k p) {mk : List Bool} {last : Nat} (h1 : 1 ≤ last) (hM : MarkOk q k p last 0 mk) : ∀ (m : Nat) (sh : List Stp) (nums : List Nat), m ≤ p.length → ShortOk q k p mk last (p.length - m) sh nums → ShortOk q k p mk last p.length (shortTo p mk m sh nums).1 (shortTo p mk m sh nums).2 := by
  intro m
  induction m with
  | zero => intro sh nums _ h; simpa [shortTo] using h
  | succ m ih =>
    intro sh nums hm h
    rw [shortTo]
    have hi : p.length - (m + 1) < p.length := by omega
    have hn : p.length - m = p.length - (m + 1) + 1 := by omega
    cases hmk : mk.getD (p.length - (m + 1) + 1) false with
    | true =>
      rw [if_pos rfl]
      exact ih _ _ (by omega) (by rw [hn]; exact shortStep_ok hp hi h1 hM h hmk)
    | false =>
      rw [if_neg (by decide)]
      exact ih _ _ (by omega) (by rw [hn]; exact shortSkip_ok hi hM h1 h hmk)
theorem short_ok {q : QS} {k : Nat} {p : List Stp} (hp : POk q k p) {last : Nat} (h1 : 1 ≤ last) (hl : last ≤ p.length) (hf : Free (litsAt p last)) :
    POk q k (shortOf p last) ∧ (∀ s ∈ shortOf p last, Free s.lits) ∧ (shortOf p last).length ≤ p.length ∧ twos (shortOf p last) ≤ twos p ∧ ∃ s, (shortOf p last).getLast? = some s ∧ s.lits = litsAt p last := by
  have hM := marks_ok hp h1 hl hf
  have hz : ∀ j, (List.replicate (p.length + 1) 0).getD j 0 = 0 := fun j => by
    rw [List.getD, List.getElem?_replicate]; split <;> rfl
  have h := shortTo_ok hp h1 hM p.length [] (List.replicate (p.length + 1) 0) (Nat.le_refl _) (by
    rw [Nat.sub_self]
    exact ⟨pok_nil q k, fun s hs => by simp at hs, by simp, hz 0, fun j h1 h2 => by omega, by simp, by simp [twos], fun h => by omega⟩)
  have ht := h.twos
  rw [List.take_length] at ht
  exact ⟨h.ok, h.free, h.len, ht, h.last hl⟩
end Go.Proofs.YtgipjjhkhfihpabGreatDoor

namespace Go.Proofs.YtgipjjhkhfihpabGreatDoor
open Go.RowKit

/-! ### Lines joined to a text, and cut again -/
def joinN (m : List (List UInt8)) : List UInt8 := m.flatMap (· ++ [10])
theorem cut_line (c : UInt8) (r : List UInt8) (h : c ∉ r) : ∀ (st : List (List UInt8) × List UInt8), r.foldl (cutStep c) st = (st.1, st.2 ++ r) := by
  induction r with
  | nil => intro st; simp
  | cons b r ih =>
    intro st
    rw [List.mem_cons, not_or] at h
    rw [List.foldl_cons, ih h.2]
    unfold cutStep
    rw [if_neg (Ne.symm h.1)]
    simp
theorem cut_join (m : List (List UInt8)) (h : ∀ r ∈ m, (10 : UInt8) ∉ r) : ∀ (st : List (List UInt8)), (joinN m).foldl (cutStep 10) (st, []) = (st ++ m, []) := by
  induction m with
  | nil => intro st; simp [joinN]
  | cons r m ih =>
    intro st
    have e : joinN (r :: m) = r ++ (10 :: joinN m) := by simp [joinN]
    rw [e, List.foldl_append, cut_line 10 r (h r (by simp)), List.foldl_cons]
    have e2 : cutStep 10 (st, [] ++ r) 10 = (st ++ [r], []) := by unfold cutStep; simp
    rw [e2, ih (fun x hx => h x (by simp [hx]))]
    simp
end Go.Proofs.YtgipjjhkhfihpabGreatDoor

namespace Go.Proofs.YtgipjjhkhfihpabGreatDoor
open Go.RowKit

/-! ### Numerals -/
theorem dec_snoc (l : List UInt8) (c : UInt8) : dec (l ++ [c]) = dec l * 10 + (c.toNat - 48) := by unfold dec; rw [List.foldl_append]; rfl
theorem digit_byte (d : Nat) (h : d < 10) : (UInt8.ofNat (48 + d)).toNat = 48 + d := by
  rw [UInt8.toNat_ofNat']; omega
theorem decDigits_ok (u : Nat) : dec (Lib.decDigits u) = u ∧ (Lib.decDigits u).all isDigit = true ∧ Lib.decDigits u ≠ [] ∧ (1 ≤ u → (Lib.decDigits u).head? ≠ some 48) := by
  induction u using Nat.strongRecOn with
  | _ u ih =>
    by_cases h : u < 10
    · rw [Lib.decDigits, dif_pos h]
      have hb := digit_byte u h
      refine ⟨by show 0 * 10 + ((UInt8.ofNat (48 + u)).toNat - 48) = u; rw [hb]; omega, by simp [isDigit]; omega, by simp, fun h1 e => ?_⟩
      have e' : UInt8.ofNat (48 + u) = 48 := by injection e
      have h5 := congrArg UInt8.toNat e'
      rw [hb] at h5
      have h6 : (48 : UInt8).toNat = 48 := rfl
      omega
    · rw [Lib.decDigits, dif_neg h]
      obtain ⟨i1, i2, i3, i4⟩ := ih (u / 10) (by omega)
      have hb := digit_byte (u % 10) (by omega)
      refine ⟨by rw [dec_snoc, i1, hb]; omega, ?_, by simp, fun _ => ?_⟩
      · rw [List.all_append, i2]
        simp [isDigit]; omega
      · cases hd : Lib.decDigits (u / 10) with
        | nil => exact absurd hd i3
        | cons a r =>
          have := i4 (by omega)
          rw [hd] at this
          simpa using this
theorem decDigits_len (u : Nat) (h : u < 1000000) : (Lib.decDigits u).length ≤ 6 := by
  obtain ⟨h1, h2, h3, h4⟩ := decDigits_ok u
  by_cases h0 : u = 0
  · subst h0; rw [Lib.decDigits, dif_pos (by decide)]; simp
  · apply Classical.byContradiction
    intro hn
    have h6 := dec_ge _ h2 h3 (h4 (by omega)) 6 (by omega)
    have hm := dec_mono (Lib.decDigits u) (6 + 1)
    rw [h1] at hm
    have : (10 : Nat) ^ 6 = 1000000 := by decide
    omega
theorem cnt_digits (u : Nat) (h1 : 1 ≤ u) (h : u ≤ 100000) : cnt (Lib.decDigits u) big = u := by
  obtain ⟨a, b, c, d⟩ := decDigits_ok u
  unfold cnt
  rw [if_pos ⟨b, decDigits_len u (by omega), d h1, by rw [a]; unfold big; omega⟩, a]
theorem digits_no (u : Nat) (x : UInt8) (hx : isDigit x = false) : x ∉ Lib.decDigits u := by
  intro hm
  have := (decDigits_ok u).2.1
  rw [List.all_eq_true] at this
  rw [this x hm] at hx; cases hx
theorem decDigits_small (v : Nat) (h : v < 10) : Lib.decDigits v = [UInt8.ofNat (48 + v)] := by rw [Lib.decDigits, dif_pos h]
/-- A literal's word. -/
theorem itoa_pos (v : Nat) : Lib.itoa (litI v true) = Lib.decDigits v := by
  have e0 : litI v true = (v : Int) := rfl
  unfold Lib.itoa; rw [e0, if_neg (by omega)]; simp
theorem itoa_neg' (v : Nat) (h : 1 ≤ v) : Lib.itoa (litI v false) = 45 :: Lib.decDigits v := by
  have e0 : litI v false = -(v : Int) := rfl
  unfold Lib.itoa; rw [e0, if_pos (by omega)]; simp
theorem dig_digit (v : Nat) (h1 : 1 ≤ v) (h8 : v ≤ 8) : dig (Lib.decDigits v) = (v : Int) := by
  rw [decDigits_small v (by omega)]
  have hb := digit_byte v (by omega)
  show (if 49 ≤ ((UInt8.ofNat (48 + v)).toNat : Int) ∧ ((UInt8.ofNat (48 + v)).toNat : Int) ≤ 56 then ((UInt8.ofNat (48 + v)).toNat : Int) - 48 else 0) = (v : Int)
  rw [hb, if_pos (by omega)]
  omega
theorem litInto_word (c : Nat × Nat) (v : Nat) (s : Bool) (h1 : 1 ≤ v) (h8 : v ≤ 8) : litInto c (Lib.itoa (litI v s)) = (withLit c (litI v s), true) ∧ litVar (Lib.itoa (litI v s)) = v := by
  have hd := dig_digit v h1 h8
  cases s with
  | true =>
    rw [itoa_pos]
    have hs := decDigits_small v (by omega)
    have hne : UInt8.ofNat (48 + v) ≠ 45 := fun e => by
      have := congrArg UInt8.toNat e
      rw [digit_byte v (by omega)] at this
      simp at this; omega
    constructor
    · unfold litInto
      split
      · next r he => rw [hs] at he; injection he with he; exact absurd he hne
      · next he =>
        rw [hd]
        have e0 : litI v true = (v : Int) := rfl
        unfold withLit
        rw [e0, if_neg (by omega), bitOf_nat v h1 h8]
        simp; omega
    · unfold litVar; rw [hd, if_neg (by omega)]; simp
  | false =>
    rw [itoa_neg' v h1]
    constructor
    · show ((c.1, c.2 ||| 2 ^ (dig (Lib.decDigits v)).toNat), decide (0 < dig (Lib.decDigits v))) = _
      rw [hd]
      have e0 : litI v false = -(v : Int) := rfl
      unfold withLit
      rw [e0, if_pos (by omega), Int.neg_neg, bitOf_nat v h1 h8]
      simp; omega
    · have h0 : dig (45 :: Lib.decDigits v) = 0 := by
        rw [decDigits_small v (by omega)]; rfl
      unfold litVar
      rw [if_pos h0]
      show (dig (Lib.decDigits v)).toNat = v
      rw [hd]; simp

/-! ### Lines -/
/-- The words of a step. -/
def wordsP (s : Stp) : List (List UInt8) :=
  if s.rule = 1 then [[97], Lib.decDigits s.first]
  else if s.rule = 2 then [99] :: (listOf s.lits).map Lib.itoa
  else if s.rule = 3 then [[114], Lib.decDigits s.first, Lib.decDigits s.second, Lib.decDigits s.var]
  else [[100], Lib.decDigits s.first]
def joinW : List (List UInt8) → List UInt8
  | [] => []
  | [w] => w
  | w :: ws => w ++ 32 :: joinW ws
theorem joinW_cut (ws : List (List UInt8)) (h : ∀ w ∈ ws, (32 : UInt8) ∉ w) : ws ≠ [] → ∀ st, (joinW ws).foldl (cutStep 32) (st, []) = (st ++ ws.dropLast, ws.getLastD []) := by
  induction ws with
  | nil => intro h; exact absurd rfl h
  | cons w ws ih =>
    intro _ st
    cases ws with
    | nil =>
      show w.foldl (cutStep 32) (st, []) = _
      rw [cut_line 32 w (h w (by simp))]; simp
    | cons x ws =>
      show (w ++ 32 :: joinW (x :: ws)).foldl (cutStep 32) (st, []) = _
      rw [List.foldl_append, cut_line 32 w (h w (by simp)), List.foldl_cons]
      have : cutStep 32 (st, [] ++ w) 32 = (st ++ [w], []) := by simp [cutStep]
      rw [this, ih (fun y hy => h y (by simp [hy])) (by simp) (st ++ [w])]
      simp
theorem cut_words (ws : List (List UInt8)) (h0 : ws ≠ []) (h : ∀ w ∈ ws, (32 : UInt8) ∉ w) : cutAt 32 (joinW ws) = ws := by
  unfold cutAt cutTo
  rw [joinW_cut ws h h0 []]
  simp only [List.nil_append]
  rw [List.getLastD_eq_getLast?, List.getLast?_eq_some_getLast h0]
  exact List.dropLast_concat_getLast h0
end Go.Proofs.YtgipjjhkhfihpabGreatDoor

namespace Go.Proofs.YtgipjjhkhfihpabGreatDoor

/-! ### Blocks, by the kinds of the variables -/
def kindAt (vs : List (Nat × Bool)) (i : Nat) : Bool := (vs.getD i (0, false)).2
def newAt (vs : List (Nat × Bool)) (i : Nat) : Bool := decide (0 < i) && (kindAt vs i != kindAt vs (i - 1))
/-- What the program has gathered behind k variables: whole blocks, and the one at hand. -/
def gather (vs : List (Nat × Bool)) : Nat → List (List Nat) × List Nat
  | 0 => ([], [])
  | k + 1 => if newAt vs k then ((gather vs k).1 ++ [(gather vs k).2], [(vs.getD k (0, false)).1]) else ((gather vs k).1, (gather vs k).2 ++ [(vs.getD k (0, false)).1])
def progBlocks (vs : List (Nat × Bool)) : List (List Nat) := if 0 < (gather vs vs.length).2.length then (gather vs vs.length).1 ++ [(gather vs vs.length).2] else (gather vs vs.length).1

/-- A piece of a list. -/
def piece (l : List Nat) (a b : Nat) : List Nat := (l.drop a).take (b - a)
theorem gather_pos (vs : List (Nat × Bool)) (k : Nat) : 0 < (gather vs (k + 1)).2.length := by
  rw [gather]; split <;> simp
end Go.Proofs.YtgipjjhkhfihpabGreatDoor

namespace Go.Proofs.YtgipjjhkhfihpabGreatDoor

/-! ### Both sides' blocks are the same -/
theorem all_fold (l : List (Nat × Bool)) : ∀ (a v : Nat), (l.foldl (fun a x => if x.2 then a ||| 2 ^ x.1 else a) a).testBit v = (a.testBit v || l.any (fun x => x.2 && x.1 == v)) := by
  induction l with
  | nil => intro a v; simp
  | cons x l ih =>
    intro a v
    rw [List.foldl_cons, ih, List.any_cons]
    cases x.2 with
    | false => simp
    | true =>
      rw [if_pos rfl, Nat.testBit_or, testBit_pow, Bool.or_assoc]; simp
theorem zip_map (l : List (Nat × Bool)) : (l.map (·.1)).zip (l.map (·.2)) = l := by
  induction l with
  | nil => rfl
  | cons x l ih => simp [ih]
theorem all_bit {st : RS} {q : QS} (h : Same st q) (v : Nat) : (finish st).all.testBit v = q.vars.any (fun x => x.2 && x.1 == v) := by
  show (allTo st st.told.length).testBit v = _
  unfold allTo
  rw [h.told, h.kinds, zip_map, List.length_map, List.take_length, all_fold]
  simp
theorem any_unique (l : List (Nat × Bool)) (hn : (l.map (·.1)).Nodup) (x : Nat × Bool) (hx : x ∈ l) : l.any (fun y => y.2 && y.1 == x.1) = x.2 := by
  induction l with
  | nil => simp at hx
  | cons y l ih =>
    rw [List.map_cons, List.nodup_cons] at hn
    rw [List.any_cons]
    rcases List.mem_cons.1 hx with e | hx
    · subst e
      have : l.any (fun y => y.2 && y.1 == x.1) = false := by
        rw [List.any_eq_false]
        intro z hz hh
        simp at hh
        exact hn.1 (by rw [← hh.2]; exact List.mem_map_of_mem hz)
      rw [this]; simp
    · rw [ih hn.2 hx]
      have : (y.1 == x.1) = false := by
        rw [beq_eq_false_iff_ne]; intro e; exact hn.1 (by rw [e]; exact List.mem_map_of_mem hx)
      rw [this]; simp
theorem free_eq {st : RS} {q : QS} (h : Same st q) : freeTo st 8 = freeQ q 8 := by
  unfold freeTo freeQ
  apply List.filter_congr
  intro v hv
  rw [List.mem_map] at hv
  obtain ⟨u, hu, rfl⟩ := hv
  have : u < 8 := by simpa using hu
  rw [h.used (u + 1) (by omega) (by omega), h.seen, Bool.and_comm]
theorem order_eq {st : RS} {q : QS} (h : Same st q) : (finish st).order = (qFinish q).vars.map (·.1) := by
  show freeTo st 8 ++ st.told = (exv (freeQ q 8) ++ q.vars).map (·.1)
  rw [free_eq h, h.told, List.map_append]
  congr 1
  simp [exv, Function.comp_def]
theorem kinds_eq {st : RS} {q : QS} (h : Same st q) (hn : QNice q) : ∀ x ∈ (qFinish q).vars, (finish st).all.testBit x.1 = x.2 := by
  intro x hx
  rw [all_bit h]
  rcases List.mem_append.1 (show x ∈ exv (freeQ q 8) ++ q.vars from hx) with hx | hx
  · unfold exv at hx
    rw [List.mem_map] at hx
    obtain ⟨v, hv, rfl⟩ := hx
    unfold freeQ at hv
    rw [List.mem_filter, Bool.and_eq_true, Bool.not_eq_true'] at hv
    have hh := hv.2.1
    dsimp only
    rw [List.any_eq_false]
    intro z hz hzz
    simp at hzz
    have : hasV q.vars v = true := by unfold hasV; rw [List.any_eq_true]; exact ⟨z, hz, by simpa using hzz.2⟩
    rw [hh] at this; cases this
  · exact any_unique _ hn.nodup x hx
/-- Names: rising bounds. -/
theorem nodup_lt : ∀ (n : Nat) (l : List Nat), l.Nodup → (∀ x ∈ l, x < n) → l.length ≤ n := by
  intro n
  induction n with
  | zero =>
    intro l _ h
    cases l with
    | nil => simp
    | cons x l => exact absurd (h x (by simp)) (by omega)
  | succ n ih =>
    intro l hn h
    have h1 := ih (l.erase n) (hn.erase n) (by
      intro x hx
      rw [hn.mem_erase_iff] at hx
      have := h x hx.2; omega)
    rw [List.length_erase] at h1
    split at h1 <;> omega
theorem nodup_le (l : List Nat) (hn : l.Nodup) (hb : ∀ x ∈ l, 1 ≤ x ∧ x ≤ 8) : l.length ≤ 8 := by
  have h := nodup_lt 9 (0 :: l) (by
    rw [List.nodup_cons]
    exact ⟨fun h => by have := hb 0 h; omega, hn⟩) (by
    intro x hx
    rcases List.mem_cons.1 hx with rfl | hx
    · omega
    · have := hb x hx; omega)
  simpa using h
theorem names_all {q : QS} (hn : QNice q) : ((qFinish q).vars.map (·.1)).Nodup ∧ ∀ x ∈ (qFinish q).vars, 1 ≤ x.1 ∧ x.1 ≤ 8 := by
  show ((exv (freeQ q 8) ++ q.vars).map (·.1)).Nodup ∧ ∀ x ∈ exv (freeQ q 8) ++ q.vars, 1 ≤ x.1 ∧ x.1 ≤ 8
  have e : (exv (freeQ q 8)).map (·.1) = freeQ q 8 := by simp [exv, Function.comp_def]
  have hmem : ∀ v ∈ freeQ q 8, (1 ≤ v ∧ v ≤ 8) ∧ hasV q.vars v = false := by
    intro v hv
    unfold freeQ at hv
    rw [List.mem_filter, Bool.and_eq_true, Bool.not_eq_true', List.mem_map] at hv
    obtain ⟨⟨u, hu, rfl⟩, hh, _⟩ := hv
    have : u < 8 := by simpa using hu
    exact ⟨by omega, hh⟩
  constructor
  · rw [List.map_append, e, List.nodup_append]
    refine ⟨?_, hn.nodup, ?_⟩
    · unfold freeQ
      refine List.Pairwise.filter _ ?_
      rw [List.pairwise_map]
      exact List.pairwise_lt_range.imp (fun h => by omega)
    · intro a ha b hb e
      subst e
      rw [List.mem_map] at hb
      obtain ⟨x, hx, hxe⟩ := hb
      have : hasV q.vars a = true := by unfold hasV; rw [List.any_eq_true]; exact ⟨x, hx, by simpa using hxe⟩
      rw [(hmem a ha).2] at this; cases this
  · intro x hx
    rcases List.mem_append.1 hx with hx | hx
    · unfold exv at hx
      rw [List.mem_map] at hx
      obtain ⟨v, hv, rfl⟩ := hx
      exact (hmem v hv).1
    · exact hn.names x hx
theorem vars_le {q : QS} (hn : QNice q) : (qFinish q).vars.length ≤ 8 := by
  have h := names_all hn
  have := nodup_le _ h.1 (by
    intro x hx
    rw [List.mem_map] at hx
    obtain ⟨y, hy, rfl⟩ := hx
    exact h.2 y hy)
  simpa using this

/-! ### Where blocks end: rising, within the variables -/
end Go.Proofs.YtgipjjhkhfihpabGreatDoor

namespace Go.Proofs.YtgipjjhkhfihpabGreatDoor
open Go.RowKit

/-! ### reduced -/
end Go.Proofs.YtgipjjhkhfihpabGreatDoor

namespace Go.Proofs.YtgipjjhkhfihpabGreatDoor
open Go.RowKit

/-! ### cube -/
/-- A clause, or that it is none; c is whatever. -/
def RStPost (res : Option (Nat × Nat)) (w : World) (e : Ending) (w' : World) : Prop :=
  Below w.heap.size w w' ∧ ∃ (c : Nat × Nat) (ok : Bool), e = .returned (.tuple #[.agg #[.int .i64 (c.1 : Int), .int .i64 (c.2 : Int)], .bool ok]) ∧ ((ok = true ∧ res = some c) ∨ (ok = false ∧ res = none))
theorem RStPost.none_ {res : Option (Nat × Nat)} {w w' : World} {e : Ending} (hb : Below w.heap.size w w') (h : res = none) (c : Nat × Nat) (he : e = .returned (.tuple #[.agg #[.int .i64 (c.1 : Int), .int .i64 (c.2 : Int)], .bool false])) : RStPost res w e w' :=
  ⟨hb, c, false, he, Or.inr ⟨rfl, h⟩⟩
theorem RStPost.some_ {res : Option (Nat × Nat)} {w w' : World} {e : Ending} (hb : Below w.heap.size w w') (c : Nat × Nat) (h : res = some c) (he : e = .returned (.tuple #[.agg #[.int .i64 (c.1 : Int), .int .i64 (c.2 : Int)], .bool true])) : RStPost res w e w' :=
  ⟨hb, c, true, he, Or.inl ⟨rfl, h⟩⟩
/-- What holds of a formula that was read, for the walks. -/
structure FW (F : Form) : Prop where
  len : F.order.length ≤ 8
  names : ∀ v ∈ F.order, v ≤ 8
  cl : F.cl.length ≤ 24
  bits : ∀ c ∈ F.cl, c.1 < 512 ∧ c.2 < 512
  all : F.all < 512

end Go.Proofs.YtgipjjhkhfihpabGreatDoor

namespace Go.Proofs.YtgipjjhkhfihpabGreatDoor
open Go.RowKit

theorem okC_eq (x c : Nat × Nat) : okC x c = !missed x c := by
  unfold okC missed
  have e : ((x.1 &&& c.1) ||| (x.2 &&& c.2) != 0) = !((x.1 &&& c.1 == 0) && (x.2 &&& c.2 == 0)) := by
    have : (x.1 &&& c.1) ||| (x.2 &&& c.2) = 0 ↔ (x.1 &&& c.1 = 0 ∧ x.2 &&& c.2 = 0) := by
      constructor
      · intro h
        constructor
        · apply Nat.eq_of_testBit_eq; intro i
          have : ((x.1 &&& c.1) ||| (x.2 &&& c.2)).testBit i = false := by rw [h]; simp
          rw [Nat.testBit_or, Bool.or_eq_false_iff] at this
          rw [this.1]; simp
        · apply Nat.eq_of_testBit_eq; intro i
          have : ((x.1 &&& c.1) ||| (x.2 &&& c.2)).testBit i = false := by rw [h]; simp
          rw [Nat.testBit_or, Bool.or_eq_false_iff] at this
          rw [this.2]; simp
      · rintro ⟨h1, h2⟩; rw [h1, h2]; rfl
    rw [Bool.eq_iff_iff, bne_iff_ne, Bool.not_eq_true', Bool.and_eq_false_iff, beq_eq_false_iff_ne, beq_eq_false_iff_ne, ne_eq, this, Classical.not_and_iff_not_or_not]
  rw [e]
  cases h1 : (x.1 &&& x.2 == 0) <;> cases h2 : (x.1 &&& c.1 == 0) <;> cases h3 : (x.2 &&& c.2 == 0) <;> simp [bne, h1]
/-! ### Of formulas that were read -/
theorem allTo_small (st : RS) (h : ∀ v ∈ st.told, v ≤ 8) (k : Nat) : allTo st k < 512 := by
  unfold allTo
  have hz : ∀ x ∈ ((st.told.zip st.kinds).take k), x.1 ≤ 8 := fun x hx => h _ (List.of_mem_zip (List.mem_of_mem_take hx)).1
  suffices hh : ∀ (l : List (Nat × Bool)) (a : Nat), a < 512 → (∀ x ∈ l, x.1 ≤ 8) → l.foldl (fun a x => if x.2 then a ||| 2 ^ x.1 else a) a < 512 from hh _ 0 (by omega) hz
  intro l
  induction l with
  | nil => intro a ha _; exact ha
  | cons x l ih =>
    intro a ha hx
    rw [List.foldl_cons]
    apply ih
    · split
      · have := pow_bd x.1 (hx x (by simp))
        exact or_lt _ _ ha (by omega)
      · exact ha
    · exact fun y hy => hx y (by simp [hy])
theorem big_bit (a v : Nat) (h : a < 512) (hv : a.testBit v = true) : v ≤ 8 := by
  apply Classical.byContradiction
  intro hn
  have : a.testBit v = false := Nat.testBit_lt_two_pow (Nat.lt_of_lt_of_le (show a < 2 ^ 9 from h) (Nat.pow_le_pow_right (by omega) (by omega)))
  rw [this] at hv; cases hv
theorem fq_of {st : RS} {q0 : QS} (hs : Same st q0) (hn : QNice q0) (hc : q0.cl.length ≤ 24) : FQ (finish st) (qFinish q0) ∧ FOk (finish st) ∧ FW (finish st) := by
  have ho := order_eq hs
  have hna := names_all hn
  have hk := kinds_eq hs hn
  have hcl : (finish st).cl = q0.cl := hs.cl
  have hbits : ∀ c ∈ q0.cl, Bd c := hn.bits
  have hlen := vars_le hn
  have hv : ∀ c ∈ q0.cl, ∀ v, c.1.testBit v = true ∨ c.2.testBit v = true → v ∈ (finish st).order := by
    intro c hcm v hb
    have h8 : v ≤ 8 := by
      rcases hb with hb | hb
      · exact big_bit _ _ (hn.bits c hcm).1 hb
      · exact big_bit _ _ (hn.bits c hcm).2 hb
    have h1 : 1 ≤ v := by
      rcases Nat.eq_zero_or_pos v with e | e
      · subst e
        have := hn.bit0 c hcm
        rcases hb with hb | hb
        · rw [this.1] at hb; cases hb
        · rw [this.2] at hb; cases hb
      · exact e
    show v ∈ freeTo st 8 ++ st.told
    rw [List.mem_append]
    by_cases hsv : hasV q0.vars v = true
    · right
      rw [hs.told, List.mem_map]
      unfold hasV at hsv
      rw [List.any_eq_true] at hsv
      obtain ⟨x, hx, he⟩ := hsv
      exact ⟨x, hx, by simpa using he⟩
    · left
      rw [free_eq hs]
      unfold freeQ
      rw [List.mem_filter]
      refine ⟨List.mem_map.2 ⟨v - 1, by simp; omega, by omega⟩, ?_⟩
      rw [Bool.and_eq_true]
      refine ⟨by simpa using hsv, ?_⟩
      unfold inC
      rw [List.any_eq_true]
      refine ⟨c, hcm, ?_⟩
      rw [bitOf_nat v h1 h8, and_pow_ne, Nat.testBit_or, Bool.or_eq_true]
      exact hb
  have hnm : ∀ v ∈ (finish st).order, 1 ≤ v ∧ v ≤ 8 := by
    intro v hvv
    rw [ho, List.mem_map] at hvv
    obtain ⟨x, hx, rfl⟩ := hvv
    exact hna.2 x hx
  have htold : ∀ v ∈ st.told, v ≤ 8 := by
    intro v hvv
    rw [hs.told, List.mem_map] at hvv
    obtain ⟨x, hx, rfl⟩ := hvv
    exact (hn.names x hx).2
  refine ⟨⟨ho, hk, hna.1, hna.2, hcl, hc, hbits, hv⟩, ⟨by rw [ho]; exact hna.1, hnm, by rw [hcl]; exact hbits, by rw [hcl]; exact hv⟩, ⟨by rw [ho]; simpa using hlen, fun v h => (hnm v h).2, by rw [hcl]; exact hc, by rw [hcl]; exact hn.bits, allTo_small st htold _⟩⟩
theorem qb_of {q0 : QS} (hn : QNice q0) (hc : q0.cl.length ≤ 24) : QB (qFinish q0) := ⟨vars_le hn, hc, hn.bits, (names_all hn).2⟩
end Go.Proofs.YtgipjjhkhfihpabGreatDoor

namespace Go.Proofs.YtgipjjhkhfihpabGreatDoor
open Go.RowKit

def lineP (s : Stp) : List UInt8 := joinW (wordsP s)
def headP (truth : Bool) : List UInt8 := if truth then sTrue else sFalse
def textP (truth : Bool) (p : List Stp) : List UInt8 := joinN (headP truth :: p.map lineP)
theorem kd_cases (truth : Bool) : (truth = false ∧ kd truth = 1) ∨ (truth = true ∧ kd truth = 2) := by cases truth <;> simp [kd]
theorem getD_lits (p : List Stp) (n : Nat) (h1 : 1 ≤ n) (hn : n ≤ p.length) : (p.map (·.lits)).getD (n - 1) (0, 0) = litsAt p n := by
  obtain ⟨m, rfl⟩ : ∃ m, n = m + 1 := ⟨n - 1, by omega⟩
  rw [litsAt_in p m (by omega), List.getD, Nat.add_sub_cancel, List.getElem?_map, List.getElem?_eq_getElem (by omega)]; rfl
theorem and_zero_of_free {c : Nat × Nat} (h : Free c) : c.1 &&& c.2 = 0 := apart_bits (fun v a b => h v a b)
theorem cube_words {q : QS} (_hq : QGood q) {F : Form} (hF : FQ F q) {c : Nat × Nat} (hc : LOk q c) (hf : Free c) : ∀ (k v : Nat) (acc : Nat × Nat) (last : Nat), v + k = 9 → 1 ≤ v → last < v → (∀ s u, u < v → L acc s u = L c s u) → (∀ s u, v ≤ u → L acc s u = false) → cubeTo F.order acc last ((listFrom c k v).map Lib.itoa) = some c := by
  intro k
  induction k with
  | zero =>
    intro v acc last hv h1 _ ha hb
    simp only [listFrom, List.map_nil, cubeTo]
    congr 1
    apply L_ext
    intro s u
    rcases Nat.lt_or_ge u v with h | h
    · exact ha s u h
    · rw [hb s u h]
      cases hh : L c s u with
      | false => rfl
      | true => have := L_le8 hc.bd hh; omega
  | succ k ih =>
    intro v acc last hv h1 hla ha hb
    have h8 : v ≤ 8 := by omega
    have hp : hasLit c (v : Int) = L c true v := hasLit_L c v true h1 h8
    have hn : hasLit c (-(v : Int)) = L c false v := hasLit_L c v false h1 h8
    have one : ∀ s, L c s v = true → cubeTo F.order acc last (Lib.itoa (litI v s) :: (listFrom c k (v + 1)).map Lib.itoa) = some c := by
      intro s hs
      obtain ⟨w1, w2⟩ := litInto_word acc v s h1 h8
      have hm : v ∈ F.order := by rw [hF.order]; exact hc.vars s v hs
      rw [cubeTo, w1, w2, if_pos ⟨rfl, hla, hm⟩]
      have hno := hf.not hs
      refine ih (v + 1) _ v (by omega) (by omega) (by omega) (fun t u hu => ?_) (fun t u hu => ?_)
      · rw [L_with _ _ _ h1 h8]
        by_cases e : u = v
        · subst e
          rw [hb t u (Nat.le_refl _)]
          cases s <;> cases t <;> simp_all
        · rw [ha t u (by omega)]; simp [e]
      · rw [L_with _ _ _ h1 h8, hb t u (by omega)]
        have : u ≠ v := by omega
        simp [this]
    rw [listFrom, hp, hn]
    cases e1 : L c true v with
    | true =>
      have e2 := hf.not e1
      simp only [Bool.not_true] at e2
      rw [e2]
      simpa [litI] using one true e1
    | false =>
      cases e2 : L c false v with
      | true => simpa [litI] using one false e2
      | false =>
        simp only [Bool.false_eq_true, if_false, List.nil_append]
        refine ih (v + 1) acc last (by omega) (by omega) (by omega) (fun t u hu => ?_) (fun t u hu => hb t u (by omega))
        by_cases e : u = v
        · subst e
          rw [hb t u (Nat.le_refl _)]
          cases t
          · exact e2.symm
          · exact e1.symm
        · exact ha t u (by omega)
theorem step_words {q : QS} (hq : QGood q) {F : Form} (hF : FQ F q) (hO : FOk F) {truth : Bool} {p : List Stp} (hl : p.length ≤ 9000) {s : Stp} (hs : StOk q (kd truth) p s) (hf : Free s.lits) :
    ∃ hd tl, wordsP s = hd :: tl ∧ stepR F truth (p.map (·.lits)) hd tl = some s.lits ∧ (hd = [114] ↔ s.rule = 3) ∧ ∀ w ∈ wordsP s, (32 : UInt8) ∉ w ∧ (10 : UInt8) ∉ w := by
  have nd : ∀ u, (32 : UInt8) ∉ Lib.decDigits u ∧ (10 : UInt8) ∉ Lib.decDigits u := fun u => ⟨digits_no u 32 (by decide), digits_no u 10 (by decide)⟩
  obtain ⟨hlok, hst⟩ := hs
  rcases hst with ⟨r1, r2, r3, r4, _, r6⟩ | ⟨r1, r2, _, _, _, r6⟩ | ⟨r1, r2, r3, ⟨x, hx, hxe, hxp⟩, r5, r6, r7, r8, r9, r10⟩ | ⟨r1, r2, _, r4, r5⟩
  · have ht : truth = false := (kd_cases truth).elim (fun h => h.1) (fun h => by omega)
    subst ht
    have hclen := hF.clen
    have hw : wordsP s = [[97], Lib.decDigits s.first] := by unfold wordsP; rw [if_pos r1]
    refine ⟨[97], [Lib.decDigits s.first], hw, ?_, ⟨fun h => by simp at h, fun h => by omega⟩, fun w hm => ?_⟩
    · unfold stepR
      rw [if_pos ⟨rfl, rfl, rfl⟩]
      show axR F (cnt (Lib.decDigits s.first) big) = _
      rw [cnt_digits s.first r3 (by omega)]
      unfold axR
      rw [hF.cl, if_neg (by omega), ← r6]
      unfold apartO
      rw [if_pos (and_zero_of_free hf)]
    · rw [hw] at hm
      rcases List.mem_cons.1 hm with rfl | hm
      · decide
      · simp at hm; subst hm; exact nd _
  · have ht : truth = true := (kd_cases truth).elim (fun h => by omega) (fun h => h.1)
    subst ht
    have hw : wordsP s = [99] :: (listOf s.lits).map Lib.itoa := by unfold wordsP; rw [if_neg (by omega), if_pos r1]
    refine ⟨[99], (listOf s.lits).map Lib.itoa, hw, ?_, ⟨fun h => by simp at h, fun h => by omega⟩, fun w hm => ?_⟩
    · unfold stepR
      rw [if_neg (by simp), if_pos ⟨rfl, rfl⟩]
      unfold cubeR
      rw [show listOf s.lits = listFrom s.lits 8 1 from rfl, cube_words hq hF hlok hf 8 1 (0, 0) 0 rfl (Nat.le_refl _) (by omega) (fun t u hu => by
        have : u = 0 := by omega
        subst this
        rw [L_zero]
        cases hh : L s.lits t 0 with
        | false => rfl
        | true => have := hq.name (hlok.vars t 0 hh); omega) (fun t u _ => L_zero t u)]
      show (if satR F.cl s.lits then some s.lits else none) = _
      have : satR F.cl s.lits = true := by
        rw [hF.cl]
        unfold satR
        unfold satQ at r6
        rw [← r6]
        congr 1
        funext y
        rw [okC_eq]
      rw [if_pos this]
    · rw [hw] at hm
      rcases List.mem_cons.1 hm with rfl | hm
      · decide
      · obtain ⟨z, hz, rfl⟩ := List.mem_map.1 hm
        obtain ⟨u, t, h1, h8, rfl, _⟩ := (listOf_mem _ _).1 hz
        cases t with
        | true => rw [itoa_pos]; exact nd u
        | false =>
          rw [itoa_neg' u h1]
          have := nd u
          simp [this.1, this.2]
  · have hv := hq.qb.names x hx
    rw [hxe] at hv
    have hw : wordsP s = [[114], Lib.decDigits s.first, Lib.decDigits s.second, Lib.decDigits s.var] := by unfold wordsP; rw [if_neg (by omega), if_neg (by omega), if_pos r1]
    refine ⟨[114], [Lib.decDigits s.first, Lib.decDigits s.second, Lib.decDigits s.var], hw, ?_, ⟨fun _ => r1, fun _ => rfl⟩, fun w hm => ?_⟩
    · unfold stepR
      rw [if_neg (by simp), if_neg (by simp), if_pos ⟨rfl, rfl⟩]
      show resR F truth (p.map (·.lits)) (cnt (Lib.decDigits s.first) big) (cnt (Lib.decDigits s.second) big) (cnt (Lib.decDigits s.var) big) = _
      rw [cnt_digits s.first r2.1 (by omega), cnt_digits s.second r3.1 (by omega), cnt_digits s.var hv.1 (by omega)]
      unfold resR
      rw [List.length_map, if_neg (by omega), getD_lits p _ r2.1 r2.2, getD_lits p _ r3.1 r3.2]
      have hk : F.all.testBit s.var = truth := by
        rw [← hxe, hF.kinds x hx]
        revert hxp
        unfold pivotB kd
        cases truth <;> cases x.2 <;> simp
      have e1 : (litsAt p s.first).1.testBit s.var = true := r5
      have e2 : (litsAt p s.second).2.testBit s.var = true := r6
      rw [if_neg (by rw [hk, e1, e2]; simp)]
      have hr : resolve2 (litsAt p s.first) (litsAt p s.second) s.var = s.lits := by
        rw [r10]
        have n1 := r7.not r5
        have n2 := r8.not r6
        simp only [Bool.not_true, Bool.not_false] at n1 n2
        apply L_ext
        intro t u
        rw [L_without2 _ _ _ hv.1 hv.2]
        unfold resolve2
        by_cases e : u = s.var
        · subst e
          cases t
          · have n1' : (litsAt p s.first).2.testBit s.var = false := n1
            simp [L, testBit_less, n1']
          · have n2' : (litsAt p s.second).1.testBit s.var = false := n2
            simp [L, testBit_less, n2']
        · have e' : s.var ≠ u := Ne.symm e
          cases t <;> simp [L, testBit_less, e, e']
      rw [hr]
      unfold apartO
      rw [if_pos (and_zero_of_free hf)]
    · rw [hw] at hm
      rcases List.mem_cons.1 hm with rfl | hm
      · decide
      · simp at hm
        rcases hm with rfl | rfl | rfl <;> exact nd _
  · have hw : wordsP s = [[100], Lib.decDigits s.first] := by unfold wordsP; rw [if_neg (by omega), if_neg (by omega), if_neg (by omega)]
    refine ⟨[100], [Lib.decDigits s.first], hw, ?_, ⟨fun h => by simp at h, fun h => by omega⟩, fun w hm => ?_⟩
    · unfold stepR
      rw [if_neg (by simp), if_neg (by simp), if_neg (by simp), if_pos ⟨rfl, rfl⟩]
      show reductR F truth (p.map (·.lits)) (cnt (Lib.decDigits s.first) big) = _
      rw [cnt_digits s.first r2.1 (by omega)]
      unfold reductR
      rw [List.length_map, if_neg (by omega), getD_lits p _ r2.1 r2.2, ← redQ_eq hF hO truth, ← r5]
    · rw [hw] at hm
      rcases List.mem_cons.1 hm with rfl | hm
      · decide
      · simp at hm; subst hm; exact nd _
end Go.Proofs.YtgipjjhkhfihpabGreatDoor

namespace Go.Proofs.YtgipjjhkhfihpabGreatDoor
open Go.RowKit

theorem joinW_len (ws : List (List UInt8)) (k : Nat) (h : ∀ w ∈ ws, w.length ≤ k) : (joinW ws).length ≤ (k + 1) * ws.length := by
  induction ws with
  | nil => simp [joinW]
  | cons w ws ih =>
    have h1 := h w (by simp)
    have h2 := ih (fun x hx => h x (by simp [hx]))
    cases ws with
    | nil => simp [joinW]; omega
    | cons x ws =>
      show (w ++ 32 :: joinW (x :: ws)).length ≤ _
      simp only [List.length_append, List.length_cons] at h2 ⊢
      rw [Nat.mul_add (k + 1) (ws.length + 1) 1]
      omega
theorem listFrom_free {c : Nat × Nat} (hf : Free c) : ∀ k v, 1 ≤ v → v + k ≤ 9 → (listFrom c k v).length ≤ k := by
  intro k
  induction k with
  | zero => intro v _ _; simp [listFrom]
  | succ k ih =>
    intro v h1 h9
    have hp : hasLit c (v : Int) = L c true v := hasLit_L c v true h1 (by omega)
    have hn : hasLit c (-(v : Int)) = L c false v := hasLit_L c v false h1 (by omega)
    have := ih (v + 1) (by omega) (by omega)
    rw [listFrom, hp, hn]
    cases e1 : L c true v with
    | true =>
      have e2 := hf.not e1
      simp only [Bool.not_true] at e2
      rw [e2]; simp; omega
    | false =>
      cases e2 : L c false v with
      | true => simp; omega
      | false => simp; omega
theorem lineP_len {s : Stp} (hf : Free s.lits) (h1 : s.rule ≠ 2 → s.first < 1000000) (h2 : s.rule = 3 → s.second < 1000000 ∧ s.var < 1000000) : (lineP s).length ≤ 28 := by
  unfold lineP wordsP
  split
  · have d1 := decDigits_len _ (h1 (by omega))
    have := joinW_len [[97], Lib.decDigits s.first] 6 (by simp; exact d1)
    simp at this; omega
  · split
    · have hl := listFrom_free hf 8 1 (by omega) (by omega)
      have := joinW_len ([99] :: (listOf s.lits).map Lib.itoa) 2 (by
        intro w hw
        rcases List.mem_cons.1 hw with rfl | hw
        · simp
        · obtain ⟨z, hz, rfl⟩ := List.mem_map.1 hw
          obtain ⟨u, t, hu1, hu8, rfl, _⟩ := (listOf_mem _ _).1 hz
          have hd := decDigits_small u (by omega)
          cases t with
          | true => rw [itoa_pos, hd]; simp
          | false => rw [itoa_neg' u hu1, hd]; simp)
      have e : (listOf s.lits).length ≤ 8 := hl
      simp only [List.length_cons, List.length_map] at this
      omega
    · have d1 := decDigits_len _ (h1 (by assumption))
      split
      · next h3 =>
        have d2 := decDigits_len _ (h2 h3).1
        have d3 := decDigits_len _ (h2 h3).2
        have := joinW_len [[114], Lib.decDigits s.first, Lib.decDigits s.second, Lib.decDigits s.var] 6 (by simp; exact ⟨d1, d2, d3⟩)
        simp at this; omega
      · have := joinW_len [[100], Lib.decDigits s.first] 6 (by simp; exact d1)
        simp at this; omega
theorem joinN_len (m : List (List UInt8)) (k : Nat) (h : ∀ r ∈ m, r.length ≤ k) : (joinN m).length ≤ (k + 1) * m.length := by
  induction m with
  | nil => simp [joinN]
  | cons r m ih =>
    have h1 := h r (by simp)
    have h2 := ih (fun x hx => h x (by simp [hx]))
    simp only [joinN, List.flatMap_cons, List.length_append, List.length_cons, List.length_nil] at h2 ⊢
    rw [Nat.mul_add]
    omega
theorem joinW_mem (ws : List (List UInt8)) (x : UInt8) (hx : x ≠ 32) (h : ∀ w ∈ ws, x ∉ w) : x ∉ joinW ws := by
  induction ws with
  | nil => simp [joinW]
  | cons w ws ih =>
    have h1 := h w (by simp)
    have h2 := ih (fun y hy => h y (by simp [hy]))
    cases ws with
    | nil => exact h1
    | cons y ws =>
      show x ∉ w ++ 32 :: joinW (y :: ws)
      rw [List.mem_append, List.mem_cons]
      rintro (h3 | h3 | h3)
      · exact h1 h3
      · exact hx h3
      · exact h2 h3
theorem line_ok {q : QS} (hq : QGood q) {F : Form} (hF : FQ F q) (hO : FOk F) {truth : Bool} {p : List Stp} (hp : POk q (kd truth) p) (hf : ∀ s ∈ p, Free s.lits) (hl : p.length ≤ 9000) (i : Nat) (hi : i < p.length) : lineR F truth ((p.take i).map (·.lits)) (lineP p[i]) = some p[i].lits ∧ isTwo (lineP p[i]) = (p[i].rule == 3) ∧ (10 : UInt8) ∉ lineP p[i] := by
  obtain ⟨hd, tl, h1, h2, h3, h4⟩ := step_words hq hF hO (p := p.take i) (by simp; omega) (hp i hi) (hf _ (List.getElem_mem hi))
  have hc : cutAt 32 (lineP p[i]) = hd :: tl := by
    unfold lineP
    rw [cut_words _ (by rw [h1]; simp) (fun w hw => (h4 w hw).1), h1]
  refine ⟨?_, ?_, joinW_mem _ _ (by decide) (fun w hw => (h4 w hw).2)⟩
  · rw [lineR_eq F truth _ _ hd tl hc, if_neg (by simp; omega)]
    exact h2
  · unfold isTwo
    rw [hc]
    by_cases e : p[i].rule = 3
    · rw [h3.2 e, e]; rfl
    · have : hd ≠ [114] := fun h => e (h3.1 h)
      rw [show (p[i].rule == 3) = false from by simpa using e]
      simpa using this
theorem rows_ok {q : QS} (hq : QGood q) {F : Form} (hF : FQ F q) (hO : FOk F) {truth : Bool} {p : List Stp} (hp : POk q (kd truth) p) (hf : ∀ s ∈ p, Free s.lits) (hl : p.length ≤ 9000) : ∀ (m i n : Nat), i + m = p.length → rowsR F truth ((p.take i).map (·.lits)) n ((p.drop i).map lineP) = .inl (p.map (·.lits)) := by
  intro m
  induction m with
  | zero =>
    intro i n h
    rw [List.drop_eq_nil_of_le (by omega), List.take_of_length_le (by omega)]
    rfl
  | succ m ih =>
    intro i n h
    have hi : i < p.length := by omega
    rw [List.drop_eq_getElem_cons hi, List.map_cons, rowsR, (line_ok hq hF hO hp hf hl i hi).1]
    have := ih (i + 1) (n + 1) (by omega)
    rw [List.take_succ_eq_append_getElem hi, List.map_append] at this
    exact this
theorem two_ok {q : QS} (hq : QGood q) {F : Form} (hF : FQ F q) (hO : FOk F) {truth : Bool} {p : List Stp} (hp : POk q (kd truth) p) (hf : ∀ s ∈ p, Free s.lits) (hl : p.length ≤ 9000) : twoR (p.map lineP) = twos p := by
  unfold twoR twos
  rw [List.filter_map, List.length_map]
  congr 1
  apply List.filter_congr
  intro s hs
  obtain ⟨i, hi, rfl⟩ := List.mem_iff_getElem.1 hs
  exact (line_ok hq hF hO hp hf hl i hi).2.1
theorem proves_text {q : QS} (hq : QGood q) {F : Form} (hF : FQ F q) (hO : FOk F) {truth : Bool} {p : List Stp} (hp : POk q (kd truth) p) (hf : ∀ s ∈ p, Free s.lits) (hl : p.length ≤ 9000) (hlast : ∃ s, p.getLast? = some s ∧ s.lits = (0, 0)) : provesR F (textP truth p) = .inr (truth, twos p) := by
  have hno : ∀ r ∈ headP truth :: p.map lineP, (10 : UInt8) ∉ r := by
    intro r hr
    rcases List.mem_cons.1 hr with rfl | hr
    · cases truth <;> decide
    · obtain ⟨s, hs, rfl⟩ := List.mem_map.1 hr
      obtain ⟨i, hi, rfl⟩ := List.mem_iff_getElem.1 hs
      exact (line_ok hq hF hO hp hf hl i hi).2.2
  have hcut : cutTo 10 (textP truth p) = (headP truth :: p.map lineP, []) := by
    unfold cutTo textP
    rw [cut_join _ hno []]; rfl
  have hlen : ∀ r ∈ headP truth :: p.map lineP, r.length ≤ 28 := by
    intro r hr
    rcases List.mem_cons.1 hr with rfl | hr
    · cases truth <;> decide
    · obtain ⟨s, hs, rfl⟩ := List.mem_map.1 hr
      obtain ⟨i, hi, rfl⟩ := List.mem_iff_getElem.1 hs
      have htl : (p.take i).length ≤ 9000 := by simp; omega
      have hclen := hF.clen
      rcases (hp i hi).2 with ⟨h1, _, _, h4, _⟩ | ⟨h1, _⟩ | ⟨_, h2, h3, ⟨x, hx, hxe, _⟩, _⟩ | ⟨h1, h2, _⟩
      · exact lineP_len (hf _ hs) (fun _ => by omega) (fun h => by omega)
      · exact lineP_len (hf _ hs) (fun h => absurd h1 h) (fun h => by omega)
      · have hv := hq.qb.names x hx
        exact lineP_len (hf _ hs) (fun _ => by omega) (fun _ => ⟨by omega, by omega⟩)
      · exact lineP_len (hf _ hs) (fun _ => by omega) (fun h => by omega)
  have hlong : ¬ 262144 < (textP truth p).length := by
    have := joinN_len _ 28 hlen
    simp only [List.length_cons, List.length_map] at this
    unfold textP
    omega
  unfold provesR
  rw [if_neg hlong, hcut]
  dsimp only
  have hh : headP truth = sTrue ∨ headP truth = sFalse := by cases truth <;> simp [headP]
  have hb : (headP truth == sTrue) = truth := by cases truth <;> decide
  rw [if_pos hh, hb]
  have hr := rows_ok hq hF hO hp hf hl p.length 0 1 (by omega)
  simp only [List.take_zero, List.map_nil, List.drop_zero] at hr
  rw [hr]
  dsimp only
  have he : emptyLast (p.map (·.lits)) = true := by
    obtain ⟨s, h1, h2⟩ := hlast
    unfold emptyLast
    rw [List.getLast?_map, h1]
    show (s.lits.1 ||| s.lits.2 == 0) = true
    rw [h2]; rfl
  rw [if_pos ⟨rfl, he⟩, two_ok hq hF hO hp hf hl]
end Go.Proofs.YtgipjjhkhfihpabGreatDoor
