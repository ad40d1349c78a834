import Derived.Test.YtgipjjhkhfihpaaGreatDoorAP
import Derived.Test.YtgipjjhkhfihpaaGreatDoorAA
import Derived.Lib.ItoaLen
import Derived.Test.YtgipjjhkhfihpaaGreatDoorAK
import Derived.Test.YtgipjjhkhfihpaaGreatDoorAM
namespace Go.Proofs.YtgipjjhkhfihpaaGreatDoor
open Go.RowKit

/-! ### Steps that are needed -/
abbrev P0 : Stp := ⟨0, 0, 0, 0, (0, 0)⟩
theorem getD_set (m : List Bool) (i j : Nat) : (m.set i true).getD j false = (decide (i = j ∧ i < m.length) || m.getD j false) := by
  rw [List.getD, List.getD, List.getElem?_set]
  by_cases e : i = j
  · subst e
    by_cases h : i < m.length
    · simp [h]
    · simp [h]
  · simp [e]
structure MarkOk (q : QS) (k : Nat) (p : List Stp) (last i : Nat) (m : List Bool) : Prop where
  len : m.length = p.length + 1
  at_ : ∀ j, m.getD j false = true → j ≤ last ∧ 1 ≤ j ∧ Free (litsAt p j)
  closed : ∀ j (h : j < p.length), i ≤ j → m.getD (j + 1) false = true → p[j].rule ≠ 1 → (0 < p[j].first ∧ p[j].first < j + 1 → m.getD p[j].first false = true) ∧ (0 < p[j].second ∧ p[j].second < j + 1 → m.getD p[j].second false = true)
  last : i < last → m.getD last false = true
theorem markOne_len (b : Bool) (i n : Nat) (m : List Bool) : (markOne b i n m).length = m.length := by
  unfold markOne; split <;> simp
theorem markOne_get (b : Bool) (i n : Nat) (m : List Bool) (j : Nat) : (markOne b i n m).getD j false = (decide (b = true ∧ 0 < n ∧ n < i ∧ n = j ∧ n < m.length) || m.getD j false) := by
  unfold markOne
  split
  · next h =>
    rw [getD_set]
    simp only [h.1, h.2.1, h.2.2, true_and]
  · next h =>
    have : ¬ (b = true ∧ 0 < n ∧ n < i ∧ n = j ∧ n < m.length) := fun hh => h ⟨hh.1, hh.2.1, hh.2.2.1⟩
    simp [this]
/-- Steps ahead of a step that are made well. -/
theorem stok_ahead {q : QS} {k : Nat} {p : List Stp} (hp : POk q k p) (j : Nat) (h : j < p.length) (hr : p[j].rule ≠ 1) : (0 < p[j].first → p[j].first ≤ j ∧ Free (litsAt p p[j].first)) ∧ (0 < p[j].second → p[j].second ≤ j ∧ Free (litsAt p p[j].second)) := by
  have hlen : (p.take j).length = j := by simp; omega
  have hla : ∀ n, n ≤ j → litsAt (p.take j) n = litsAt p n := fun n hn => by
    conv => rhs; rw [← List.take_append_drop j p]
    rw [litsAt_append _ _ _ (by omega)]
  rcases (hp j h).2 with ⟨h1, _⟩ | ⟨_, _, h1, h2, _⟩ | ⟨_, h1, h2, _, _, _, h3, h4, _⟩ | ⟨_, h1, h2, h3, _⟩
  · exact absurd h1 hr
  · exact ⟨fun h => by omega, fun h => by omega⟩
  · rw [hlen] at h1 h2
    exact ⟨fun _ => ⟨h1.2, by rw [← hla _ h1.2]; exact h3⟩, fun _ => ⟨h2.2, by rw [← hla _ h2.2]; exact h4⟩⟩
  · rw [hlen] at h1
    exact ⟨fun _ => ⟨h1.2, by rw [← hla _ h1.2]; exact h3⟩, fun h => by omega⟩
theorem markStep_ok {q : QS} {k : Nat} {p : List Stp} (hp : POk q k p) {last i : Nat} (hi : i < p.length) (h1 : 1 ≤ last) (hl : last ≤ p.length) (hf : Free (litsAt p last)) {m : List Bool} (h : MarkOk q k p last (i + 1) m) : MarkOk q k p last i (markStep p last (i + 1) m) := by
  have hg : p.getD (i + 1 - 1) P0 = p[i] := by rw [Nat.add_sub_cancel, List.getD, List.getElem?_eq_getElem hi]; rfl
  unfold markStep
  rw [show (⟨0, 0, 0, 0, (0, 0)⟩ : Stp) = P0 from rfl, hg]
  dsimp only
  have hm1 : ∀ j, (if i + 1 = last then m.set (i + 1) true else m).getD j false = (decide (i + 1 = last ∧ i + 1 = j) || m.getD j false) := by
    intro j
    split
    · next e => rw [getD_set]; simp only [e, true_and]; rw [h.len]; simp only [show last < p.length + 1 from by omega, and_true]
    · next e => simp [e]
  have hm1l : (if i + 1 = last then m.set (i + 1) true else m).length = p.length + 1 := by
    split
    · rw [List.length_set]; exact h.len
    · exact h.len
  generalize (if i + 1 = last then m.set (i + 1) true else m) = m1 at *
  have hat1 : ∀ j, m1.getD j false = true → j ≤ last ∧ 1 ≤ j ∧ Free (litsAt p j) := by
    intro j hj
    rw [hm1, Bool.or_eq_true] at hj
    rcases hj with hj | hj
    · have := of_decide_eq_true hj
      rw [← this.2, this.1]; exact ⟨Nat.le_refl _, h1, hf⟩
    · exact h.at_ j hj
  have hah := stok_ahead hp i hi
  generalize hb : (m1.getD (i + 1) false && decide (p[i].rule ≠ 1)) = b at *
  have hget : ∀ j, (markOne b (i + 1) p[i].second (markOne b (i + 1) p[i].first m1)).getD j false = true ↔ ((b = true ∧ 0 < p[i].second ∧ p[i].second < i + 1 ∧ p[i].second = j) ∨ (b = true ∧ 0 < p[i].first ∧ p[i].first < i + 1 ∧ p[i].first = j) ∨ m1.getD j false = true) := by
    intro j
    rw [markOne_get, markOne_get, markOne_len, Bool.or_eq_true, Bool.or_eq_true, decide_eq_true_eq, decide_eq_true_eq, hm1l]
    constructor
    · rintro (⟨a, b, c, d, _⟩ | ⟨a, b, c, d, _⟩ | a)
      · exact Or.inl ⟨a, b, c, d⟩
      · exact Or.inr (Or.inl ⟨a, b, c, d⟩)
      · exact Or.inr (Or.inr a)
    · rintro (⟨a, b, c, d⟩ | ⟨a, b, c, d⟩ | a)
      · exact Or.inl ⟨a, b, c, d, by omega⟩
      · exact Or.inr (Or.inl ⟨a, b, c, d, by omega⟩)
      · exact Or.inr (Or.inr a)
  have hbt : b = true → m1.getD (i + 1) false = true ∧ p[i].rule ≠ 1 := by
    intro e
    rw [← hb, Bool.and_eq_true, decide_eq_true_eq] at e
    exact e
  refine ⟨by rw [markOne_len, markOne_len]; exact hm1l, fun j hj => ?_, fun j hj hij hm hr => ?_, fun hil => ?_⟩
  · rw [hget] at hj
    rcases hj with ⟨e, h2, h3, rfl⟩ | ⟨e, h2, h3, rfl⟩ | hj
    · obtain ⟨e1, e2⟩ := hbt e
      have := (hat1 _ e1).1
      exact ⟨by omega, h2, ((hah e2).2 h2).2⟩
    · obtain ⟨e1, e2⟩ := hbt e
      have := (hat1 _ e1).1
      exact ⟨by omega, h2, ((hah e2).1 h2).2⟩
    · exact hat1 j hj
  · by_cases e : j = i
    · subst e
      have hm2 : m1.getD (j + 1) false = true := by
        rw [hget] at hm
        rcases hm with ⟨_, _, h3, h4⟩ | ⟨_, _, h3, h4⟩ | hm
        · omega
        · omega
        · exact hm
      have hbb : b = true := by rw [← hb, hm2]; simpa using hr
      exact ⟨fun hh => (hget _).2 (Or.inr (Or.inl ⟨hbb, hh.1, hh.2, rfl⟩)), fun hh => (hget _).2 (Or.inl ⟨hbb, hh.1, hh.2, rfl⟩)⟩
    · have hm2 : m.getD (j + 1) false = true := by
        rw [hget] at hm
        rcases hm with ⟨_, _, h3, h4⟩ | ⟨_, _, h3, h4⟩ | hm
        · omega
        · omega
        · rw [hm1, Bool.or_eq_true] at hm
          rcases hm with hm | hm
          · have := of_decide_eq_true hm; omega
          · exact hm
      have up : ∀ n, m.getD n false = true → (markOne b (i + 1) p[i].second (markOne b (i + 1) p[i].first m1)).getD n false = true := fun n hn => (hget n).2 (Or.inr (Or.inr (by rw [hm1, hn]; simp)))
      have := h.closed j hj (by omega) hm2 hr
      exact ⟨fun hh => up _ (this.1 hh), fun hh => up _ (this.2 hh)⟩
  · rw [hget]
    right; right
    rw [hm1]
    by_cases e : i + 1 = last
    · simp [e]
    · rw [h.last (by omega)]; simp
theorem markTo_ok {q : QS} {k : Nat} {p : List Stp} (hp : POk q k p) {last : Nat} (h1 : 1 ≤ last) (hl : last ≤ p.length) (hf : Free (litsAt p last)) : ∀ (i : Nat) (m : List Bool), i ≤ p.length → MarkOk q k p last i m → MarkOk q k p last 0 (markTo p last i m) := by
  intro i
  induction i with
  | zero => intro m _ h; exact h
  | succ i ih => intro m hi h; exact ih _ (by omega) (markStep_ok hp (by omega) h1 hl hf h)
theorem marks_ok {q : QS} {k : Nat} {p : List Stp} (hp : POk q k p) {last : Nat} (h1 : 1 ≤ last) (hl : last ≤ p.length) (hf : Free (litsAt p last)) : MarkOk q k p last 0 (needs p last) := by
  have hno : ∀ j, (List.replicate (p.length + 1) false).getD j false = false := fun j => by
    rw [List.getD, List.getElem?_replicate]; split <;> rfl
  refine markTo_ok hp h1 hl hf _ _ (Nat.le_refl _) ⟨by simp, fun j hj => ?_, fun j hj hij => by omega, fun h => by omega⟩
  rw [hno] at hj; cases hj

/-! ### The short proof -/
structure ShortOk (q : QS) (k : Nat) (p : List Stp) (mk : List Bool) (last i : Nat) (sh : List Stp) (nums : List Nat) : Prop where
  ok : POk q k sh
  free : ∀ s ∈ sh, Free s.lits
  nlen : nums.length = p.length + 1
  zero : nums.getD 0 0 = 0
  nums : ∀ j, 1 ≤ j → j ≤ i → mk.getD j false = true → 1 ≤ nums.getD j 0 ∧ nums.getD j 0 ≤ sh.length ∧ litsAt sh (nums.getD j 0) = litsAt p j
  len : sh.length ≤ i
  twos : twos sh ≤ twos (p.take i)
  last : last ≤ i → ∃ s, sh.getLast? = some s ∧ s.lits = litsAt p last
theorem twos_snoc (p : List Stp) (s : Stp) : twos (p ++ [s]) = twos p + (if s.rule = 3 then 1 else 0) := by
  unfold twos
  rw [List.filter_append, List.length_append]
  by_cases h : s.rule = 3
  · simp [h]
  · simp [h]
theorem getD_setN (m : List Nat) (i j x : Nat) (h : i < m.length) : (m.set i x).getD j 0 = if i = j then x else m.getD j 0 := by
  rw [List.getD, List.getD, List.getElem?_set]
  by_cases e : i = j
  · subst e; simp [h]
  · simp [e]
theorem shortStep_ok {q : QS} {k : Nat} {p : List Stp} (hp : POk q k p) {mk : List Bool} {last i : Nat} (hi : i < p.length) (_h1 : 1 ≤ last) (hM : MarkOk q k p last 0 mk) {sh : List Stp} {nums : List Nat} (h : ShortOk q k p mk last i sh nums) (hm : mk.getD (i + 1) false = true) :
    ShortOk q k p mk last (i + 1) (sh ++ [renum nums i (p.getD i P0)]) (nums.set (i + 1) (sh.length + 1)) := by
  have hg : p.getD i P0 = p[i] := by rw [List.getD, List.getElem?_eq_getElem hi]; rfl
  rw [hg]
  have htl : (p.take i).length = i := by simp; omega
  have hla : ∀ n, n ≤ i → litsAt (p.take i) n = litsAt p n := fun n hn => by
    conv => rhs; rw [← List.take_append_drop i p]
    rw [litsAt_append _ _ _ (by omega)]
  have hlits : (renum nums i p[i]).lits = p[i].lits := rfl
  have hrule : (renum nums i p[i]).rule = p[i].rule := rfl
  have hvar : (renum nums i p[i]).var = p[i].var := rfl
  have hself : litsAt p (i + 1) = p[i].lits := litsAt_in p i hi
  have hcl := hM.closed i hi (by omega) hm
  have hnew : StOk q k sh (renum nums i p[i]) := by
    obtain ⟨hlok, hst⟩ := hp i hi
    refine ⟨hlok, ?_⟩
    rw [hrule, hlits, hvar]
    rcases hst with ⟨r1, r2, r3, r4, r5, r6⟩ | ⟨r1, r2, r3, r4, r5⟩ | ⟨r1, r2, r3, r4, r5, r6, r7, r8, r9, r10⟩ | ⟨r1, r2, r3, r4, r5⟩
    · left
      have e1 : (renum nums i p[i]).first = p[i].first := by show (if p[i].rule ≠ 1 ∧ _ then _ else _) = _; rw [if_neg (by simp [r1])]
      have e2 : (renum nums i p[i]).second = 0 := by show (if p[i].second ≤ i then _ else _) = _; rw [if_pos (by omega), r5]; exact h.zero
      rw [e1, e2]
      exact ⟨r1, r2, r3, r4, rfl, r6⟩
    · right; left
      have e1 : (renum nums i p[i]).first = 0 := by show (if p[i].rule ≠ 1 ∧ p[i].first ≤ i then _ else _) = _; rw [if_pos ⟨by omega, by omega⟩, r3]; exact h.zero
      have e2 : (renum nums i p[i]).second = 0 := by show (if p[i].second ≤ i then _ else _) = _; rw [if_pos (by omega), r4]; exact h.zero
      rw [e1, e2]
      exact ⟨r1, r2, rfl, rfl, r5⟩
    · right; right; left
      rw [htl] at r2 r3
      have hr : p[i].rule ≠ 1 := by omega
      have n1 := h.nums p[i].first r2.1 r2.2 ((hcl hr).1 ⟨by omega, by omega⟩)
      have n2 := h.nums p[i].second r3.1 r3.2 ((hcl hr).2 ⟨by omega, by omega⟩)
      have e1 : (renum nums i p[i]).first = nums.getD p[i].first 0 := by show (if p[i].rule ≠ 1 ∧ p[i].first ≤ i then _ else _) = _; rw [if_pos ⟨hr, r2.2⟩]
      have e2 : (renum nums i p[i]).second = nums.getD p[i].second 0 := by show (if p[i].second ≤ i then _ else _) = _; rw [if_pos r3.2]
      rw [hla _ r2.2] at r5 r7 r10
      rw [hla _ r3.2] at r6 r8 r10
      rw [e1, e2, n1.2.2, n2.2.2]
      exact ⟨r1, ⟨n1.1, n1.2.1⟩, ⟨n2.1, n2.2.1⟩, r4, r5, r6, r7, r8, r9, r10⟩
    · right; right; right
      rw [htl] at r2
      have hr : p[i].rule ≠ 1 := by omega
      have n1 := h.nums p[i].first r2.1 r2.2 ((hcl hr).1 ⟨by omega, by omega⟩)
      have e1 : (renum nums i p[i]).first = nums.getD p[i].first 0 := by show (if p[i].rule ≠ 1 ∧ p[i].first ≤ i then _ else _) = _; rw [if_pos ⟨hr, r2.2⟩]
      have e2 : (renum nums i p[i]).second = 0 := by show (if p[i].second ≤ i then _ else _) = _; rw [if_pos (by omega), r3]; exact h.zero
      rw [hla _ r2.2] at r4 r5
      rw [e1, e2, n1.2.2]
      exact ⟨r1, ⟨n1.1, n1.2.1⟩, rfl, r4, r5⟩
  have hsl := h.len
  refine ⟨h.ok.snoc hnew, fun s hs => ?_, by rw [List.length_set]; exact h.nlen, ?_, fun j hj1 hji hmj => ?_, by simp; omega, ?_, fun hli => ?_⟩
  · rcases List.mem_append.1 hs with hs | hs
    · exact h.free s hs
    · simp at hs; subst hs
      rw [hlits, ← hself]; exact (hM.at_ _ hm).2.2
  · rw [getD_setN _ _ _ _ (by rw [h.nlen]; omega), if_neg (by omega)]; exact h.zero
  · rw [getD_setN _ _ _ _ (by rw [h.nlen]; omega)]
    by_cases e : i + 1 = j
    · subst e
      rw [if_pos rfl]
      exact ⟨by omega, by simp, by rw [litsAt_new, hlits, hself]⟩
    · rw [if_neg e]
      have := h.nums j hj1 (by omega) hmj
      exact ⟨this.1, by rw [List.length_append]; omega, by rw [litsAt_append _ _ _ this.2.1]; exact this.2.2⟩
  · rw [twos_snoc, hrule, List.take_succ_eq_append_getElem hi, twos_snoc]
    have := h.twos
    omega
  · by_cases e : last = i + 1
    · exact ⟨renum nums i p[i], by simp, by rw [hlits, e, hself]⟩
    · have := (hM.at_ _ hm).1
      omega
theorem shortSkip_ok {q : QS} {k : Nat} {p : List Stp} {mk : List Bool} {last i : Nat} (hi : i < p.length) (hM : MarkOk q k p last 0 mk) (h1 : 1 ≤ last) {sh : List Stp} {nums : List Nat} (h : ShortOk q k p mk last i sh nums) (hm : mk.getD (i + 1) false = false) : ShortOk q k p mk last (i + 1) sh nums := by
  refine ⟨h.ok, h.free, h.nlen, h.zero, fun j hj1 hji hmj => ?_, by have := h.len; omega, ?_, fun hli => ?_⟩
  · by_cases e : j = i + 1
    · subst e; rw [hm] at hmj; cases hmj
    · exact h.nums j hj1 (by omega) hmj
  · rw [List.take_succ_eq_append_getElem hi, twos_snoc]
    have := h.twos
    omega
  · by_cases e : last = i + 1
    · have := hM.last (by omega)
      rw [e, hm] at this; cases this
    · exact h.last (by omega)
theorem shortTo_ok {q : QS} {k : Nat} {p : List Stp} (hp : POk q k p) {mk : List Bool} {last : Nat} (h1 : 1 ≤ last) (hM : MarkOk q k p last 0 mk) : ∀ (m : Nat) (sh : List Stp) (nums : List Nat), m ≤ p.length → ShortOk q k p mk last (p.length - m) sh nums → ShortOk q k p mk last p.length (shortTo p mk m sh nums).1 (shortTo p mk m sh nums).2 := by
  intro m
  induction m with
  | zero => intro sh nums _ h; simpa [shortTo] using h
  | succ m ih =>
    intro sh nums hm h
    rw [shortTo]
    have hi : p.length - (m + 1) < p.length := by omega
    have hn : p.length - m = p.length - (m + 1) + 1 := by omega
    cases hmk : mk.getD (p.length - (m + 1) + 1) false with
    | true =>
      rw [if_pos rfl]
      exact ih _ _ (by omega) (by rw [hn]; exact shortStep_ok hp hi h1 hM h hmk)
    | false =>
      rw [if_neg (by decide)]
      exact ih _ _ (by omega) (by rw [hn]; exact shortSkip_ok hi hM h1 h hmk)
theorem short_ok {q : QS} {k : Nat} {p : List Stp} (hp : POk q k p) {last : Nat} (h1 : 1 ≤ last) (hl : last ≤ p.length) (hf : Free (litsAt p last)) :
    POk q k (shortOf p last) ∧ (∀ s ∈ shortOf p last, Free s.lits) ∧ (shortOf p last).length ≤ p.length ∧ twos (shortOf p last) ≤ twos p ∧ ∃ s, (shortOf p last).getLast? = some s ∧ s.lits = litsAt p last := by
  have hM := marks_ok hp h1 hl hf
  have hz : ∀ j, (List.replicate (p.length + 1) 0).getD j 0 = 0 := fun j => by
    rw [List.getD, List.getElem?_replicate]; split <;> rfl
  have h := shortTo_ok hp h1 hM p.length [] (List.replicate (p.length + 1) 0) (Nat.le_refl _) (by
    rw [Nat.sub_self]
    exact ⟨pok_nil q k, fun s hs => by simp at hs, by simp, hz 0, fun j h1 h2 => by omega, by simp, by simp [twos], fun h => by omega⟩)
  have ht := h.twos
  rw [List.take_length] at ht
  exact ⟨h.ok, h.free, h.len, ht, h.last hl⟩
end Go.Proofs.YtgipjjhkhfihpaaGreatDoor

namespace Go.Proofs.YtgipjjhkhfihpaaGreatDoor
open Go.RowKit

/-! ### Lines joined to a text, and cut again -/
def joinN (m : List (List UInt8)) : List UInt8 := m.flatMap (· ++ [10])
theorem cut_line (c : UInt8) (r : List UInt8) (h : c ∉ r) : ∀ (st : List (List UInt8) × List UInt8), r.foldl (cutStep c) st = (st.1, st.2 ++ r) := by
  induction r with
  | nil => intro st; simp
  | cons b r ih =>
    intro st
    rw [List.mem_cons, not_or] at h
    rw [List.foldl_cons, ih h.2]
    unfold cutStep
    rw [if_neg (Ne.symm h.1)]
    simp
theorem cut_join (m : List (List UInt8)) (h : ∀ r ∈ m, (10 : UInt8) ∉ r) : ∀ (st : List (List UInt8)), (joinN m).foldl (cutStep 10) (st, []) = (st ++ m, []) := by
  induction m with
  | nil => intro st; simp [joinN]
  | cons r m ih =>
    intro st
    have e : joinN (r :: m) = r ++ (10 :: joinN m) := by simp [joinN]
    rw [e, List.foldl_append, cut_line 10 r (h r (by simp)), List.foldl_cons]
    have e2 : cutStep 10 (st, [] ++ r) 10 = (st ++ [r], []) := by unfold cutStep; simp
    rw [e2, ih (fun x hx => h x (by simp [hx]))]
    simp
end Go.Proofs.YtgipjjhkhfihpaaGreatDoor

namespace Go.Proofs.YtgipjjhkhfihpaaGreatDoor
open Go.RowKit

/-! ### Numerals -/
theorem dec_snoc (l : List UInt8) (c : UInt8) : dec (l ++ [c]) = dec l * 10 + (c.toNat - 48) := by unfold dec; rw [List.foldl_append]; rfl
theorem digit_byte (d : Nat) (h : d < 10) : (UInt8.ofNat (48 + d)).toNat = 48 + d := by
  rw [UInt8.toNat_ofNat']; omega
theorem decDigits_ok (u : Nat) : dec (Lib.decDigits u) = u ∧ (Lib.decDigits u).all isDigit = true ∧ Lib.decDigits u ≠ [] ∧ (1 ≤ u → (Lib.decDigits u).head? ≠ some 48) := by
  induction u using Nat.strongRecOn with
  | _ u ih =>
    by_cases h : u < 10
    · rw [Lib.decDigits, dif_pos h]
      have hb := digit_byte u h
      refine ⟨by show 0 * 10 + ((UInt8.ofNat (48 + u)).toNat - 48) = u; rw [hb]; omega, by simp [isDigit]; omega, by simp, fun h1 e => ?_⟩
      have e' : UInt8.ofNat (48 + u) = 48 := by injection e
      have h5 := congrArg UInt8.toNat e'
      rw [hb] at h5
      have h6 : (48 : UInt8).toNat = 48 := rfl
      omega
    · rw [Lib.decDigits, dif_neg h]
      obtain ⟨i1, i2, i3, i4⟩ := ih (u / 10) (by omega)
      have hb := digit_byte (u % 10) (by omega)
      refine ⟨by rw [dec_snoc, i1, hb]; omega, ?_, by simp, fun _ => ?_⟩
      · rw [List.all_append, i2]
        simp [isDigit]; omega
      · cases hd : Lib.decDigits (u / 10) with
        | nil => exact absurd hd i3
        | cons a r =>
          have := i4 (by omega)
          rw [hd] at this
          simpa using this
theorem decDigits_len (u : Nat) (h : u < 1000000) : (Lib.decDigits u).length ≤ 6 := by
  obtain ⟨h1, h2, h3, h4⟩ := decDigits_ok u
  by_cases h0 : u = 0
  · subst h0; rw [Lib.decDigits, dif_pos (by decide)]; simp
  · apply Classical.byContradiction
    intro hn
    have h6 := dec_ge _ h2 h3 (h4 (by omega)) 6 (by omega)
    have hm := dec_mono (Lib.decDigits u) (6 + 1)
    rw [h1] at hm
    have : (10 : Nat) ^ 6 = 1000000 := by decide
    omega
theorem cnt_digits (u : Nat) (h1 : 1 ≤ u) (h : u ≤ 100000) : cnt (Lib.decDigits u) big = u := by
  obtain ⟨a, b, c, d⟩ := decDigits_ok u
  unfold cnt
  rw [if_pos ⟨b, decDigits_len u (by omega), d h1, by rw [a]; unfold big; omega⟩, a]
theorem digits_no (u : Nat) (x : UInt8) (hx : isDigit x = false) : x ∉ Lib.decDigits u := by
  intro hm
  have := (decDigits_ok u).2.1
  rw [List.all_eq_true] at this
  rw [this x hm] at hx; cases hx
theorem decDigits_small (v : Nat) (h : v < 10) : Lib.decDigits v = [UInt8.ofNat (48 + v)] := by rw [Lib.decDigits, dif_pos h]
/-- A literal's word. -/
theorem itoa_pos (v : Nat) : Lib.itoa (litI v true) = Lib.decDigits v := by
  have e0 : litI v true = (v : Int) := rfl
  unfold Lib.itoa; rw [e0, if_neg (by omega)]; simp
theorem itoa_neg' (v : Nat) (h : 1 ≤ v) : Lib.itoa (litI v false) = 45 :: Lib.decDigits v := by
  have e0 : litI v false = -(v : Int) := rfl
  unfold Lib.itoa; rw [e0, if_pos (by omega)]; simp
theorem dig_digit (v : Nat) (h1 : 1 ≤ v) (h8 : v ≤ 8) : dig (Lib.decDigits v) = (v : Int) := by
  rw [decDigits_small v (by omega)]
  have hb := digit_byte v (by omega)
  show (if 49 ≤ ((UInt8.ofNat (48 + v)).toNat : Int) ∧ ((UInt8.ofNat (48 + v)).toNat : Int) ≤ 56 then ((UInt8.ofNat (48 + v)).toNat : Int) - 48 else 0) = (v : Int)
  rw [hb, if_pos (by omega)]
  omega
theorem litInto_word (c : Nat × Nat) (v : Nat) (s : Bool) (h1 : 1 ≤ v) (h8 : v ≤ 8) : litInto c (Lib.itoa (litI v s)) = (withLit c (litI v s), true) ∧ litVar (Lib.itoa (litI v s)) = v := by
  have hd := dig_digit v h1 h8
  cases s with
  | true =>
    rw [itoa_pos]
    have hs := decDigits_small v (by omega)
    have hne : UInt8.ofNat (48 + v) ≠ 45 := fun e => by
      have := congrArg UInt8.toNat e
      rw [digit_byte v (by omega)] at this
      simp at this; omega
    constructor
    · unfold litInto
      split
      · next r he => rw [hs] at he; injection he with he; exact absurd he hne
      · next he =>
        rw [hd]
        have e0 : litI v true = (v : Int) := rfl
        unfold withLit
        rw [e0, if_neg (by omega), bitOf_nat v h1 h8]
        simp; omega
    · unfold litVar; rw [hd, if_neg (by omega)]; simp
  | false =>
    rw [itoa_neg' v h1]
    constructor
    · show ((c.1, c.2 ||| 2 ^ (dig (Lib.decDigits v)).toNat), decide (0 < dig (Lib.decDigits v))) = _
      rw [hd]
      have e0 : litI v false = -(v : Int) := rfl
      unfold withLit
      rw [e0, if_pos (by omega), Int.neg_neg, bitOf_nat v h1 h8]
      simp; omega
    · have h0 : dig (45 :: Lib.decDigits v) = 0 := by
        rw [decDigits_small v (by omega)]; rfl
      unfold litVar
      rw [if_pos h0]
      show (dig (Lib.decDigits v)).toNat = v
      rw [hd]; simp

/-! ### Lines -/
/-- The words of a step. -/
def wordsP (s : Stp) : List (List UInt8) :=
  if s.rule = 1 then [[97], Lib.decDigits s.first]
  else if s.rule = 2 then [99] :: (listOf s.lits).map Lib.itoa
  else if s.rule = 3 then [[114], Lib.decDigits s.first, Lib.decDigits s.second, Lib.decDigits s.var]
  else [[100], Lib.decDigits s.first]
def joinW : List (List UInt8) → List UInt8
  | [] => []
  | [w] => w
  | w :: ws => w ++ 32 :: joinW ws
theorem joinW_cut (ws : List (List UInt8)) (h : ∀ w ∈ ws, (32 : UInt8) ∉ w) : ws ≠ [] → ∀ st, (joinW ws).foldl (cutStep 32) (st, []) = (st ++ ws.dropLast, ws.getLastD []) := by
  induction ws with
  | nil => intro h; exact absurd rfl h
  | cons w ws ih =>
    intro _ st
    cases ws with
    | nil =>
      show w.foldl (cutStep 32) (st, []) = _
      rw [cut_line 32 w (h w (by simp))]; simp
    | cons x ws =>
      show (w ++ 32 :: joinW (x :: ws)).foldl (cutStep 32) (st, []) = _
      rw [List.foldl_append, cut_line 32 w (h w (by simp)), List.foldl_cons]
      have : cutStep 32 (st, [] ++ w) 32 = (st ++ [w], []) := by simp [cutStep]
      rw [this, ih (fun y hy => h y (by simp [hy])) (by simp) (st ++ [w])]
      simp
theorem cut_words (ws : List (List UInt8)) (h0 : ws ≠ []) (h : ∀ w ∈ ws, (32 : UInt8) ∉ w) : cutAt 32 (joinW ws) = ws := by
  unfold cutAt cutTo
  rw [joinW_cut ws h h0 []]
  simp only [List.nil_append]
  rw [List.getLastD_eq_getLast?, List.getLast?_eq_some_getLast h0]
  exact List.dropLast_concat_getLast h0
end Go.Proofs.YtgipjjhkhfihpaaGreatDoor

namespace Go.Proofs.YtgipjjhkhfihpaaGreatDoor

/-! ### Blocks, by the kinds of the variables -/
def kindAt (vs : List (Nat × Bool)) (i : Nat) : Bool := (vs.getD i (0, false)).2
def newAt (vs : List (Nat × Bool)) (i : Nat) : Bool := decide (0 < i) && (kindAt vs i != kindAt vs (i - 1))
/-- What the program has gathered behind k variables: whole blocks, and the one at hand. -/
def gather (vs : List (Nat × Bool)) : Nat → List (List Nat) × List Nat
  | 0 => ([], [])
  | k + 1 => if newAt vs k then ((gather vs k).1 ++ [(gather vs k).2], [(vs.getD k (0, false)).1]) else ((gather vs k).1, (gather vs k).2 ++ [(vs.getD k (0, false)).1])
def progBlocks (vs : List (Nat × Bool)) : List (List Nat) := if 0 < (gather vs vs.length).2.length then (gather vs vs.length).1 ++ [(gather vs vs.length).2] else (gather vs vs.length).1

/-- A piece of a list. -/
def piece (l : List Nat) (a b : Nat) : List Nat := (l.drop a).take (b - a)
theorem gather_pos (vs : List (Nat × Bool)) (k : Nat) : 0 < (gather vs (k + 1)).2.length := by
  rw [gather]; split <;> simp
end Go.Proofs.YtgipjjhkhfihpaaGreatDoor

namespace Go.Proofs.YtgipjjhkhfihpaaGreatDoor

/-! ### Both sides' blocks are the same -/
theorem all_fold (l : List (Nat × Bool)) : ∀ (a v : Nat), (l.foldl (fun a x => if x.2 then a ||| 2 ^ x.1 else a) a).testBit v = (a.testBit v || l.any (fun x => x.2 && x.1 == v)) := by
  induction l with
  | nil => intro a v; simp
  | cons x l ih =>
    intro a v
    rw [List.foldl_cons, ih, List.any_cons]
    cases x.2 with
    | false => simp
    | true =>
      rw [if_pos rfl, Nat.testBit_or, testBit_pow, Bool.or_assoc]; simp
theorem zip_map (l : List (Nat × Bool)) : (l.map (·.1)).zip (l.map (·.2)) = l := by
  induction l with
  | nil => rfl
  | cons x l ih => simp [ih]
theorem all_bit {st : RS} {q : QS} (h : Same st q) (v : Nat) : (finish st).all.testBit v = q.vars.any (fun x => x.2 && x.1 == v) := by
  show (allTo st st.told.length).testBit v = _
  unfold allTo
  rw [h.told, h.kinds, zip_map, List.length_map, List.take_length, all_fold]
  simp
theorem any_unique (l : List (Nat × Bool)) (hn : (l.map (·.1)).Nodup) (x : Nat × Bool) (hx : x ∈ l) : l.any (fun y => y.2 && y.1 == x.1) = x.2 := by
  induction l with
  | nil => simp at hx
  | cons y l ih =>
    rw [List.map_cons, List.nodup_cons] at hn
    rw [List.any_cons]
    rcases List.mem_cons.1 hx with e | hx
    · subst e
      have : l.any (fun y => y.2 && y.1 == x.1) = false := by
        rw [List.any_eq_false]
        intro z hz hh
        simp at hh
        exact hn.1 (by rw [← hh.2]; exact List.mem_map_of_mem hz)
      rw [this]; simp
    · rw [ih hn.2 hx]
      have : (y.1 == x.1) = false := by
        rw [beq_eq_false_iff_ne]; intro e; exact hn.1 (by rw [e]; exact List.mem_map_of_mem hx)
      rw [this]; simp
theorem free_eq {st : RS} {q : QS} (h : Same st q) : freeTo st 8 = freeQ q 8 := by
  unfold freeTo freeQ
  apply List.filter_congr
  intro v hv
  rw [List.mem_map] at hv
  obtain ⟨u, hu, rfl⟩ := hv
  have : u < 8 := by simpa using hu
  rw [h.used (u + 1) (by omega) (by omega), h.seen, Bool.and_comm]
theorem order_eq {st : RS} {q : QS} (h : Same st q) : (finish st).order = (qFinish q).vars.map (·.1) := by
  show freeTo st 8 ++ st.told = (exv (freeQ q 8) ++ q.vars).map (·.1)
  rw [free_eq h, h.told, List.map_append]
  congr 1
  simp [exv, Function.comp_def]
theorem kinds_eq {st : RS} {q : QS} (h : Same st q) (hn : QNice q) : ∀ x ∈ (qFinish q).vars, (finish st).all.testBit x.1 = x.2 := by
  intro x hx
  rw [all_bit h]
  rcases List.mem_append.1 (show x ∈ exv (freeQ q 8) ++ q.vars from hx) with hx | hx
  · unfold exv at hx
    rw [List.mem_map] at hx
    obtain ⟨v, hv, rfl⟩ := hx
    unfold freeQ at hv
    rw [List.mem_filter, Bool.and_eq_true, Bool.not_eq_true'] at hv
    have hh := hv.2.1
    dsimp only
    rw [List.any_eq_false]
    intro z hz hzz
    simp at hzz
    have : hasV q.vars v = true := by unfold hasV; rw [List.any_eq_true]; exact ⟨z, hz, by simpa using hzz.2⟩
    rw [hh] at this; cases this
  · exact any_unique _ hn.nodup x hx
/-- Names: rising bounds. -/
theorem nodup_lt : ∀ (n : Nat) (l : List Nat), l.Nodup → (∀ x ∈ l, x < n) → l.length ≤ n := by
  intro n
  induction n with
  | zero =>
    intro l _ h
    cases l with
    | nil => simp
    | cons x l => exact absurd (h x (by simp)) (by omega)
  | succ n ih =>
    intro l hn h
    have h1 := ih (l.erase n) (hn.erase n) (by
      intro x hx
      rw [hn.mem_erase_iff] at hx
      have := h x hx.2; omega)
    rw [List.length_erase] at h1
    split at h1 <;> omega
theorem nodup_le (l : List Nat) (hn : l.Nodup) (hb : ∀ x ∈ l, 1 ≤ x ∧ x ≤ 8) : l.length ≤ 8 := by
  have h := nodup_lt 9 (0 :: l) (by
    rw [List.nodup_cons]
    exact ⟨fun h => by have := hb 0 h; omega, hn⟩) (by
    intro x hx
    rcases List.mem_cons.1 hx with rfl | hx
    · omega
    · have := hb x hx; omega)
  simpa using h
theorem names_all {q : QS} (hn : QNice q) : ((qFinish q).vars.map (·.1)).Nodup ∧ ∀ x ∈ (qFinish q).vars, 1 ≤ x.1 ∧ x.1 ≤ 8 := by
  show ((exv (freeQ q 8) ++ q.vars).map (·.1)).Nodup ∧ ∀ x ∈ exv (freeQ q 8) ++ q.vars, 1 ≤ x.1 ∧ x.1 ≤ 8
  have e : (exv (freeQ q 8)).map (·.1) = freeQ q 8 := by simp [exv, Function.comp_def]
  have hmem : ∀ v ∈ freeQ q 8, (1 ≤ v ∧ v ≤ 8) ∧ hasV q.vars v = false := by
    intro v hv
    unfold freeQ at hv
    rw [List.mem_filter, Bool.and_eq_true, Bool.not_eq_true', List.mem_map] at hv
    obtain ⟨⟨u, hu, rfl⟩, hh, _⟩ := hv
    have : u < 8 := by simpa using hu
    exact ⟨by omega, hh⟩
  constructor
  · rw [List.map_append, e, List.nodup_append]
    refine ⟨?_, hn.nodup, ?_⟩
    · unfold freeQ
      refine List.Pairwise.filter _ ?_
      rw [List.pairwise_map]
      exact List.pairwise_lt_range.imp (fun h => by omega)
    · intro a ha b hb e
      subst e
      rw [List.mem_map] at hb
      obtain ⟨x, hx, hxe⟩ := hb
      have : hasV q.vars a = true := by unfold hasV; rw [List.any_eq_true]; exact ⟨x, hx, by simpa using hxe⟩
      rw [(hmem a ha).2] at this; cases this
  · intro x hx
    rcases List.mem_append.1 hx with hx | hx
    · unfold exv at hx
      rw [List.mem_map] at hx
      obtain ⟨v, hv, rfl⟩ := hx
      exact (hmem v hv).1
    · exact hn.names x hx
theorem vars_le {q : QS} (hn : QNice q) : (qFinish q).vars.length ≤ 8 := by
  have h := names_all hn
  have := nodup_le _ h.1 (by
    intro x hx
    rw [List.mem_map] at hx
    obtain ⟨y, hy, rfl⟩ := hx
    exact h.2 y hy)
  simpa using this

/-! ### Where blocks end: rising, within the variables -/
end Go.Proofs.YtgipjjhkhfihpaaGreatDoor

namespace Go.Proofs.YtgipjjhkhfihpaaGreatDoor
open Go.RowKit

/-! ### reduced -/
theorem shr_bit_zero (a v : Nat) (ha : a < 512) (hv : v ≤ 8) : (bits .and .i64 ((a : Int) / 2 ^ v) 1 == 0) = !a.testBit v := by
  rw [shr_bit a v ha hv]; cases a.testBit v <;> rfl
theorem new_at {w : World} {o : Obj} {n : Nat} (h : n = w.heap.size) : (w.alloc o).heap[n]? = some o := by subst h; exact heap_alloc_new w o
theorem less_bit (a v : Nat) (ha : a < 512) (hv : v ≤ 8) : bits .andNot .i64 (a : Int) (wrap64 (2 ^ v)) = ((less a (2 ^ v) : Nat) : Int) := by
  have h := shl_one (v : Int) (by omega) (by omega)
  rw [Int.toNat_natCast] at h
  have hp := pow_bd v hv
  rw [h]
  exact i64_andNot _ _ (by omega) (by omega)
theorem lastTo_succ (order : List Nat) (kind : Nat) (c : Nat × Nat) (k v : Nat) (h : k < order.length) (hv : order[k] = v) : lastTo order kind c (k + 1) = if hasB c v && !kind.testBit v then k + 1 else lastTo order kind c k := by
  rw [lastTo]
  have : order.getD k 0 = v := by rw [List.getD, List.getElem?_eq_getElem h, hv]; rfl
  rw [this]
theorem lastTo_bound (order : List Nat) (kind : Nat) (c : Nat × Nat) (k : Nat) : lastTo order kind c k ≤ k := by
  induction k with
  | zero => exact Nat.le_refl _
  | succ k ih => rw [lastTo]; split <;> omega
def redTo (order : List Nat) (kind m : Nat) (c : Nat × Nat) (j : Nat) : Nat × Nat := ((order.drop m).take j).foldl (clr kind) c
theorem redTo_succ (order : List Nat) (kind m : Nat) (c : Nat × Nat) (j v : Nat) (h : m + j < order.length) (hv : order[m + j] = v) : redTo order kind m c (j + 1) = clr kind (redTo order kind m c j) v := by
  unfold redTo
  have hj : j < (order.drop m).length := by simp; omega
  rw [List.take_succ_eq_append_getElem hj, List.foldl_append, List.getElem_drop, hv]; rfl
theorem redTo_bd (order : List Nat) (kind m : Nat) (c : Nat × Nat) (j : Nat) (h : Bd c) : Bd (redTo order kind m c j) := clrs_bd kind _ c h
theorem redTo_end (order : List Nat) (kind : Nat) (c : Nat × Nat) (j : Nat) (h : lastTo order kind c order.length + j = order.length) : redTo order kind (lastTo order kind c order.length) c j = redR order kind c := by
  unfold redTo redR
  rw [List.take_of_length_le (by simp; omega)]

set_option maxRecDepth 100000 in
set_option maxHeartbeats 3200000 in
theorem reduced_any (lo b p0 n0 kind : Nat) (F : Form) (w : World) (hR : RefAt lo w b F) (hl : F.order.length ≤ 8) (hnm : ∀ v ∈ F.order, v ≤ 8) (hk : kind < 512) (hp0 : p0 < 512) (hn0 : n0 < 512) :
    Calls Tryz.prog 107 #[.pointer (some ⟨b, 0, none⟩), .agg #[.int .i64 (p0 : Int), .int .i64 (n0 : Int)], .int .i64 kind] w fun e w' =>
      e = .returned (.agg #[.int .i64 ((redR F.order kind (p0, n0)).1 : Int), .int .i64 ((redR F.order kind (p0, n0)).2 : Int)]) ∧ Below w.heap.size w w' := by
  obtain ⟨_, vO, vE, vC, hfb, hO, _, _⟩ := hR
  obtain ⟨aO, cO, rfl⟩ := own_form hO
  have hbw := blk_lt hfb
  have k0 : w.cell? ⟨b, 0, none⟩ = some (.slice aO F.order.length cO) := by rw [blk_cell hfb]; rfl
  have HNM := hide hnm; clear hnm
  have hor : bits .or .i64 (p0 : Int) (n0 : Int) = ((p0 ||| n0 : Nat) : Int) := i64_or _ _ (by omega) (by omega)
  have hol := or_lt p0 n0 hp0 hn0
  go_enter Tryz.func107, Tryz.ntmps107
  go_wp2_with fail
  go_loopg [7, 8] F.order.length (fun m la i wx => ∃ k : Nat, i = .int .i64 k ∧ la = .int .i64 ((lastTo F.order kind (p0, n0) k : Int) - 1) ∧ k + m = F.order.length ∧ Below w.heap.size w wx ∧ wx.heap[w.heap.size]? = some (.cells #[.int .i64 p0, .int .i64 n0] 121 (0, 0)) ∧ wx.heap[w.heap.size + 1]? = some (.cells #[.int .i64 0, .int .i64 0] 121 (0, 0)))
  case atStart => exact ⟨0, rfl, rfl, by omega, ((Below.refl _ _).alloc (Nat.le_refl _) _).alloc (by simp) _, by rw [heap_alloc_old _ _ (by simp)]; exact heap_alloc_new _ _, new_at (by simp)⟩
  case round =>
    obtain ⟨k, rfl, rfl, hkm, hb, hc, hr⟩ := hrel
    have hbs := blk_lt hr
    have c0 : wr.cell? ⟨w.heap.size, 0, none⟩ = some (.int .i64 p0) := by rw [blk_cell hc]; rfl
    have c1 : wr.cell? ⟨w.heap.size, 1, none⟩ = some (.int .i64 n0) := by rw [blk_cell hc]; rfl
    have x0 : wr.cell? ⟨b, 0, none⟩ = some (.slice aO F.order.length cO) := by rw [hb.cell (p := ⟨b, 0, none⟩) hbw]; exact k0
    have hlb := lastTo_bound F.order kind (p0, n0) k
    by_cases hlt : k < F.order.length
    · obtain ⟨g, cap, hV, hg, hg', _, hcell⟩ := own_pos hO (by omega)
      injection hV with hV _ hV2
      subst hV hV2
      have hx : wr.cell? ⟨g, k, none⟩ = some (.int .i64 (F.order[k] : Int)) := by rw [hb.cell (p := ⟨g, k, none⟩) hg']; exact hcell _ _ (ints_at _ _ hlt)
      have hv8 := unhide HNM _ (List.getElem_mem hlt)
      have HS := hide (lastTo_succ F.order kind (p0, n0) k F.order[k] hlt rfl)
      clear hcell
      generalize F.order[k] = v at *
      generalize lastTo F.order kind (p0, n0) k = la at *
      have e1 := shr_bit_eq (p0 ||| n0) v hol hv8
      have e2 := shr_bit_zero kind v hk hv8
      have HB : Hid (hasB (p0, n0) v = (p0 ||| n0).testBit v) := hide rfl
      cases h1 : (p0 ||| n0).testBit v with
      | false =>
        rw [h1] at e1
        have HL : Hid (lastTo F.order kind (p0, n0) (k + 1) = la) := hide (by rw [unhide HS, unhide HB, h1]; rfl)
        go_wp2_with fail
        go_roundg (gk - 1)
        case measure => omega
        case rel => exact ⟨k + 1, by go_num, by rw [unhide HL], by omega, hb, hc, hr⟩
      | true =>
        rw [h1] at e1
        cases h2 : kind.testBit v with
        | false =>
          rw [h2] at e2
          have HL : Hid (lastTo F.order kind (p0, n0) (k + 1) = k + 1) := hide (by rw [unhide HS, unhide HB, h1, h2]; rfl)
          go_wp2_with fail
          go_roundg (gk - 1)
          case measure => omega
          case rel => exact ⟨k + 1, by go_num, by rw [unhide HL]; exact congrArg (Value.int .i64) (by omega), by omega, hb, hc, hr⟩
        | true =>
          rw [h2] at e2
          have HL : Hid (lastTo F.order kind (p0, n0) (k + 1) = la) := hide (by rw [unhide HS, unhide HB, h1, h2]; rfl)
          go_wp2_with fail
          go_roundg (gk - 1)
          case measure => omega
          case rel => exact ⟨k + 1, by go_num, by rw [unhide HL], by omega, hb, hc, hr⟩
    · have hkl : k = F.order.length := by omega
      subst hkl
      have HE := hide (redTo_end F.order kind (p0, n0))
      have HT := hide (redTo_succ F.order kind (lastTo F.order kind (p0, n0) F.order.length) (p0, n0))
      have HBD := hide (fun j => redTo_bd F.order kind (lastTo F.order kind (p0, n0) F.order.length) (p0, n0) j ⟨hp0, hn0⟩)
      have HR0 : Hid (redTo F.order kind (lastTo F.order kind (p0, n0) F.order.length) (p0, n0) 0 = (p0, n0)) := hide rfl
      generalize lastTo F.order kind (p0, n0) F.order.length = m at *
      obtain ⟨wo, rfl⟩ : ∃ wo, wo = wr := ⟨_, rfl⟩
      go_wp2_with fail
      go_loopg [10] F.order.length (fun q i wx => ∃ (j p n : Nat), i = .int .i64 ((m + j : Nat) : Int) ∧ m + j + q = F.order.length + m ∧ m + j ≤ F.order.length ∧ redTo F.order kind m (p0, n0) j = (p, n) ∧ Below w.heap.size w wx ∧ wx.heap[w.heap.size]? = some (.cells #[.int .i64 p, .int .i64 n] 121 (0, 0)) ∧ wx.heap[w.heap.size + 1]? = some (.cells #[.int .i64 0, .int .i64 0] 121 (0, 0)))
      case atStart => exact ⟨0, p0, n0, by go_num, by omega, by omega, unhide HR0, hb, hc, hr⟩
      case round =>
        obtain ⟨j, p, n, rfl, hjq, hjl, hred, hb2, hc2, hr2⟩ := hrel
        have hbd := unhide HBD j
        rw [hred] at hbd
        have HRED := hide hred
        clear hred
        have hbs2 := blk_lt hr2
        have hbs3 : w.heap.size < wr.heap.size := by omega
        have c20 : wr.cell? ⟨w.heap.size, 0, none⟩ = some (.int .i64 p) := by rw [blk_cell hc2]; rfl
        have c21 : wr.cell? ⟨w.heap.size, 1, none⟩ = some (.int .i64 n) := by rw [blk_cell hc2]; rfl
        have r20 : wr.cell? ⟨w.heap.size + 1, 0, none⟩ = some (.int .i64 0) := by rw [blk_cell hr2]; rfl
        have r21 : wr.cell? ⟨w.heap.size + 1, 1, none⟩ = some (.int .i64 0) := by rw [blk_cell hr2]; rfl
        have z0 := blk_free hc2 0
        have z1 := blk_free hc2 1
        have y0 := blk_free hr2 0
        have y1 := blk_free hr2 1
        have x20 : wr.cell? ⟨b, 0, none⟩ = some (.slice aO F.order.length cO) := by rw [hb2.cell (p := ⟨b, 0, none⟩) hbw]; exact k0
        have hp9 : p < 512 := hbd.1
        have hn9 : n < 512 := hbd.2
        clear hbd
        by_cases hlt2 : m + j < F.order.length
        · obtain ⟨g, cap, hV, hg, hg', _, hcell⟩ := own_pos hO (by omega)
          injection hV with hV _ hV2
          subst hV hV2
          have hx : wr.cell? ⟨g, m + j, none⟩ = some (.int .i64 (F.order[m + j] : Int)) := by rw [hb2.cell (p := ⟨g, m + j, none⟩) hg']; exact hcell _ _ (ints_at _ _ hlt2)
          have hv8 := unhide HNM _ (List.getElem_mem hlt2)
          have HS := hide (unhide HT j F.order[m + j] hlt2 rfl)
          clear hcell
          generalize F.order[m + j] = v at *
          have e2 := shr_bit_eq kind v hk hv8
          have l1 := less_bit p v hp9 hv8
          have l2 := less_bit n v hn9 hv8
          cases h2 : kind.testBit v with
          | false =>
            rw [h2] at e2
            have HL : Hid (redTo F.order kind m (p0, n0) (j + 1) = (p, n)) := hide (by rw [unhide HS, unhide HRED]; unfold clr; rw [h2]; rfl)
            go_wp2_with fail
            go_roundg (gk - 1)
            case measure => omega
            case rel => exact ⟨j + 1, p, n, by go_num, by omega, by omega, unhide HL, hb2, hc2, hr2⟩
          | true =>
            rw [h2] at e2
            have HL : Hid (redTo F.order kind m (p0, n0) (j + 1) = (less p (2 ^ v), less n (2 ^ v))) := hide (by rw [unhide HS, unhide HRED]; unfold clr; rw [h2]; rfl)
            go_wp2_with fail
            go_region
            all_goals go_wp2_with fail
            all_goals go_region
            all_goals go_wp2_with fail
            go_roundg (gk - 1)
            case measure => omega
            case rel =>
              refine ⟨j + 1, less p (2 ^ v), less n (2 ^ v), by go_num, by omega, by omega, unhide HL, (((hb2.setCell (p := ⟨w.heap.size, 0, none⟩) (Nat.le_refl _) _).setCell (p := ⟨w.heap.size, 1, none⟩) (Nat.le_refl _) _).drew).drew, blk_set (blk_set hc2 0 _) 1 _, ?_⟩
              show ((wr.setCell ⟨w.heap.size, 0, none⟩ (.int .i64 (less p (2 ^ v) : Nat))).setCell ⟨w.heap.size, 1, none⟩ (.int .i64 (less n (2 ^ v) : Nat))).heap[w.heap.size + 1]? = _
              rw [Below.heap_setCell _ _ _ _ (by simp), Below.heap_setCell _ _ _ _ (by simp)]
              exact hr2
        · have HF : Hid (redR F.order kind (p0, n0) = (p, n)) := hide (by rw [← unhide HE j (by omega)]; exact unhide HRED)
          have hR := blk_set (blk_set hr2 0 (.int .i64 p)) 1 (.int .i64 n)
          have j0 := blk_cell hR 0
          have j1 := blk_cell hR 1
          go_wp2_with fail
          refine bodyPost_ret (v := .agg #[.int .i64 p, .int .i64 n]) (by simp [results, Tryz.results107, go_sem, j0, j1]) rfl ⟨by rw [unhide HF], ?_⟩
          exact (hb2.setCell (p := ⟨w.heap.size + 1, 0, none⟩) (Nat.le_succ _) _).setCell (p := ⟨w.heap.size + 1, 1, none⟩) (Nat.le_succ _) _
end Go.Proofs.YtgipjjhkhfihpaaGreatDoor
