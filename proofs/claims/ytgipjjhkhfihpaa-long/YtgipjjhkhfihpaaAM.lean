import Derived.Test.YtgipjjhkhfihpaaAL
import Derived.Test.YtgipjjhkhfihpaaAJ
import Derived.Test.YtgipjjhkhfihpaaAE
import Derived.Test.YtgipjjhkhfihpaaAK
import Derived.Test.YtgipjjhkhfihpaaAD
import Derived.Test.YtgipjjhkhfihpaaAA
import Derived.Deep.RegionLaw
namespace Go.Proofs.Ytgipjjhkhfihpaa
open Go.RowKit

theorem cnt_nil : cnt [] big = 0 := rfl
theorem cubeTo_bad (order : List Nat) (ws : List (List UInt8)) (h : [] ∈ ws) : ∀ c last, cubeTo order c last ws = none := by
  induction ws with
  | nil => simp at h
  | cons w ws ih =>
    intro c last
    rw [cubeTo]
    rcases List.mem_cons.1 h with h | h
    · subst h; rw [if_neg]; rintro ⟨h1, _⟩; cases h1
    · split
      · exact ih h _ _
      · rfl
theorem step_bad (F : Form) (truth : Bool) (ss : List (Nat × Nat)) (hd : List UInt8) (tl : List (List UInt8)) (h : hd = [] ∨ [] ∈ tl) : stepR F truth ss hd tl = none := by
  rcases h with h | h
  · subst h
    unfold stepR; rw [if_neg (by simp), if_neg (by simp), if_neg (by simp), if_neg (by simp)]
  · unfold stepR
    split
    · next hc =>
      obtain ⟨x, rfl⟩ := List.length_eq_one_iff.1 hc.2.2
      have hx : x = [] := by simpa using h
      subst hx
      show axR F (cnt [] big) = none
      rw [cnt_nil]; rfl
    · split
      · unfold cubeR; rw [cubeTo_bad _ _ h]; rfl
      · split
        · next hc =>
          obtain ⟨x, y, z, rfl⟩ := len_three hc.2
          show resR F truth ss (cnt x big) (cnt y big) (cnt z big) = none
          unfold resR
          rw [if_pos]
          simp at h
          rcases h with h | h | h
          · left; rw [h, cnt_nil]; omega
          · right; right; left; rw [h, cnt_nil]; omega
          · right; right; right; right; left; rw [h, cnt_nil]; omega
        · split
          · next hc =>
            obtain ⟨x, rfl⟩ := List.length_eq_one_iff.1 hc.2
            have hx : x = [] := by simpa using h
            subst hx
            show reductR F truth ss (cnt [] big) = none
            rw [cnt_nil]; rfl
          · rfl
theorem line_eq {F : Form} {q : QS} (h : FQ F q) (hF : FOk F) (truth : Bool) (ss : List (Nat × Nat)) (hs : ss.length ≤ 9000) (hSI : ∀ c ∈ ss, SI F c) (row : List UInt8) : lineQ q (kd truth) ss row = lineR F truth ss row := by
  obtain ⟨hd, tl, hws⟩ : ∃ hd tl, cutAt 32 row = hd :: tl := by
    cases h : cutAt 32 row with
    | nil => simp [cutAt] at h
    | cons a b => exact ⟨a, b, rfl⟩
  rw [lineR_eq F truth ss row hd tl hws]
  by_cases h9 : 9000 ≤ ss.length
  · rw [if_pos (by omega)]
    unfold lineQ; rw [if_pos h9]
  · rw [if_neg (by omega)]
    cases hsp : splitOk row with
    | true => rw [lineQ_eq q (kd truth) ss row hd tl h9 hsp hws, step_eq h hF truth ss hs hSI]
    | false =>
      rw [step_bad F truth ss hd tl (split_words row hd tl hws hsp)]
      unfold lineQ; rw [if_neg h9, hsp]; rfl
theorem si_of {F : Form} {truth : Bool} {c : Nat × Nat} (hg : Good (satB F.cl) F.all (!truth) F.order c) (hb : Bd c) : SI F c := ⟨hb, apart_bits hg.apart, hg.vars⟩
theorem lineR_good {F : Form} (hF : FOk F) (truth : Bool) (ss : List (Nat × Nat)) (hg : ∀ c ∈ ss, Good (satB F.cl) F.all (!truth) F.order c) (hb : ∀ c ∈ ss, Bd c) (row : List UInt8) (c : Nat × Nat) (h : lineR F truth ss row = some c) : Good (satB F.cl) F.all (!truth) F.order c ∧ Bd c ∧ ss.length < 9000 ∨ 9000 < ss.length := by
  unfold lineR at h
  split at h
  · cases h
  · split at h
    · cases h
    · next h9 =>
      by_cases hh : 9000 < ss.length
      · exact Or.inr hh
      · exact Or.inl ⟨good_stepR hF truth ss _ _ _ hg h, stepR_bd F truth ss _ _ c hF.bits hb h, by omega⟩
theorem rowsQ_eq {F : Form} {q : QS} (h : FQ F q) (hF : FOk F) (truth : Bool) (rs : List (List UInt8)) : ∀ (ss : List (Nat × Nat)) (n : Nat), ss.length ≤ 9000 → (∀ c ∈ ss, Good (satB F.cl) F.all (!truth) F.order c) → (∀ c ∈ ss, Bd c) → rowsQ q (kd truth) ss n rs = rowsR F truth ss n rs := by
  induction rs with
  | nil => intro ss n _ _ _; rfl
  | cons r rs ih =>
    intro ss n hs hg hb
    rw [rowsQ, rowsR, line_eq h hF truth ss hs (fun c hc => si_of (hg c hc) (hb c hc)) r]
    cases hl : lineR F truth ss r with
    | none => rfl
    | some c =>
      dsimp only
      rcases lineR_good hF truth ss hg hb r c hl with ⟨h1, h2, h3⟩ | h9
      · apply ih
        · simp; omega
        · intro c' hc'
          rcases List.mem_append.1 hc' with hc' | hc'
          · exact hg c' hc'
          · simp at hc'; subst hc'; exact h1
        · intro c' hc'
          rcases List.mem_append.1 hc' with hc' | hc'
          · exact hb c' hc'
          · simp at hc'; subst hc'; exact h2
      · omega
theorem check_eq {F : Form} {q : QS} (h : FQ F q) (hF : FOk F) (l : List UInt8) : checkQ q l = match provesR F l with
    | .inl (x, i) => (0, x, i)
    | .inr (truth, _) => (kd truth, 0, 0) := by
  unfold checkQ readQ provesR
  by_cases hl : 262144 < l.length
  · rw [if_pos hl, if_pos hl]
  · rw [if_neg hl, if_neg hl]
    cases hrows : (cutTo 10 l).1 with
    | nil => rfl
    | cons r0 rs =>
      unfold firstQ
      dsimp only
      by_cases hr : r0 = sTrue ∨ r0 = sFalse
      · rw [if_pos hr, if_pos hr]
        have hk : kindOf r0 = kd (r0 == sTrue) := by
          unfold kindOf kd
          by_cases e : r0 = sTrue
          · rw [if_pos e, if_pos (by simpa using e)]
          · rw [if_neg e, if_neg (by simpa using e)]
        unfold goQ
        rw [hk, rowsQ_eq h hF (r0 == sTrue) rs [] 1 (by simp) (by simp) (by simp)]
        cases rowsR F (r0 == sTrue) [] 1 rs with
        | inr i => rfl
        | inl ss =>
          dsimp only
          have he : closedQ ss = emptyLast ss := rfl
          rw [he]
          by_cases hc : (cutTo 10 l).2 = [] ∧ emptyLast ss = true
          · rw [if_pos hc, if_pos ⟨by simpa using hc.1, hc.2⟩]
          · rw [if_neg hc, if_neg (fun hh => hc ⟨by simpa using hh.1, hh.2⟩)]
      · rw [if_neg hr, if_neg hr]

end Go.Proofs.Ytgipjjhkhfihpaa

namespace Go.Proofs.Ytgipjjhkhfihpaa
open Go.RowKit

/-! ### The values of a game -/
def valV (c : Nat × Nat) (v : Nat) : Int := if L c false v then -1 else if L c true v then 1 else 0
theorem run_L {q : QS} (hq : QGood q) {kind : Nat} {rs : List RuleP} {g : GS} {bs : List Bool} (h : Run q kind rs g bs) (s : Bool) (v : Nat) : L g.vals s v = true ↔ ∃ j, ∃ hj : j < q.vars.length, j < bs.length ∧ q.vars[j].1 = v ∧ bs.reverse.getD j false = s := by
  have hle : bs.length ≤ q.vars.length := by
    rw [h.len]; have := offs_le (progBlocks q.vars) g.turn; rw [progBlocks_flat, List.length_map] at this; exact this
  rw [h.vals, valsTo_L _ (fun v hv => hq.name hv) bs (by simpa using hle)]
  constructor
  · rintro ⟨j, h1, h2, h3⟩
    have hj : j < q.vars.length := by omega
    exact ⟨j, hj, h1, by rw [← name_at j hj]; exact h2, h3⟩
  · rintro ⟨j, hj, h1, h2, h3⟩
    exact ⟨j, h1, by rw [name_at j hj]; exact h2, h3⟩
theorem vars_inj {q : QS} (hq : QGood q) {i j : Nat} (hi : i < q.vars.length) (hj : j < q.vars.length) (e : q.vars[i].1 = q.vars[j].1) : i = j := index_inj hq hi hj e
/-- The value of the variable at a place. -/
theorem run_val {q : QS} (hq : QGood q) {kind : Nat} {rs : List RuleP} {g : GS} {bs : List Bool} (h : Run q kind rs g bs) {j : Nat} (hj : j < q.vars.length) (hb : j < bs.length) : valV g.vals q.vars[j].1 = if bs.reverse.getD j false then 1 else -1 := by
  have hone : ∀ s, L g.vals s q.vars[j].1 = true ↔ bs.reverse.getD j false = s := fun s => by
    rw [run_L hq h]
    constructor
    · rintro ⟨i, hi, _, h2, h3⟩
      rw [vars_inj hq hi hj h2] at h3; exact h3
    · intro e; exact ⟨j, hj, hb, rfl, e⟩
  unfold valV
  cases e : bs.reverse.getD j false with
  | true =>
    have h1 := (hone true).2 e
    have h0 : L g.vals false q.vars[j].1 = false := by
      cases hc : L g.vals false q.vars[j].1 with
      | false => rfl
      | true => have := (hone false).1 hc; rw [e] at this; cases this
    rw [h0, h1]; rfl
  | false =>
    have h1 := (hone false).2 e
    rw [h1]; rfl
theorem run_none {q : QS} (hq : QGood q) {kind : Nat} {rs : List RuleP} {g : GS} {bs : List Bool} (h : Run q kind rs g bs) {v : Nat} (hv : ∀ j (hj : j < q.vars.length), j < bs.length → q.vars[j].1 ≠ v) : valV g.vals v = 0 := by
  have : ∀ s, L g.vals s v = false := fun s => by
    cases hc : L g.vals s v with
    | false => rfl
    | true =>
      obtain ⟨j, hj, h1, h2, _⟩ := (run_L hq h s v).1 hc
      exact absurd h2 (hv j hj h1)
  unfold valV; rw [this, this]; rfl
/-- A value that was told stays. -/
theorem run_stay {q : QS} (hq : QGood q) {kind : Nat} {rs : List RuleP} {g g' : GS} {bs b2 : List Bool} (h : Run q kind rs g bs) (h' : Run q kind rs g' (b2 ++ bs)) (v : Nat) : valV g.vals v = 0 ∨ valV g'.vals v = valV g.vals v := by
  by_cases e : ∃ j, ∃ hj : j < q.vars.length, j < bs.length ∧ q.vars[j].1 = v
  · obtain ⟨j, hj, h1, rfl⟩ := e
    refine Or.inr ?_
    rw [run_val hq h hj h1, run_val hq h' hj (by simp; omega), List.reverse_append, List.getD, List.getD, List.getElem?_append_left (by simpa using h1)]
  · exact Or.inl (run_none hq h (fun j hj h1 h2 => e ⟨j, hj, h1, h2⟩))
theorem move_run {q : QS} (hq : QGood q) {kind : Nat} (hk : kind = 1 ∨ kind = 2) {rs : List RuleP} {g : GS} {bs : List Bool} (h : Run q kind rs g bs) (hs : Stands q kind g) (ht : g.turn < (progBlocks q.vars).length) (bits : Nat) :
    ∃ b2, Run q kind rs (moveW rs (blW q kind) g bits) (b2 ++ bs) ∧ Stands q kind (moveW rs (blW q kind) g bits) ∧ g.turn + 1 ≤ (moveW rs (blW q kind) g bits).turn ∧
      (∀ j (hj : j < (progBlocks q.vars).length), g.turn + 1 ≤ j → j < (moveW rs (blW q kind) g bits).turn → winsW q kind (progBlocks q.vars)[j] = true) ∧
      ∀ i (hi : i < (progBlocks q.vars)[g.turn].length), valV (moveW rs (blW q kind) g bits).vals (progBlocks q.vars)[g.turn][i] = if bits.testBit i then 1 else -1 := by
  obtain ⟨b1, h1, h2, h3⟩ := move_part hq hk ht (hs.lose ht) bits (progBlocks q.vars)[g.turn].length 0 g.vals bs (by omega) h.part
  rw [List.drop_zero] at h1
  obtain ⟨b2, r1, r2, r3, r4⟩ := ans_run hq hk ((blW q kind).length - (g.turn + 1)) ⟨g.turn + 1, _⟩ _ (by show g.turn + 1 + _ = _; rw [blW_length]; omega) (h1.done ht)
  have e : moveW rs (blW q kind) g bits = ansGo rs (blW q kind) ((blW q kind).length - (g.turn + 1)) ⟨g.turn + 1, moveBlk (progBlocks q.vars)[g.turn] bits 0 g.vals⟩ := by
    unfold moveW ansW; rw [blW_at q kind _ ht]
  rw [e]
  refine ⟨b2 ++ b1, by rw [List.append_assoc]; exact r1, r2, r3, r4, fun i hi => ?_⟩
  have hlt := offs_lt g.turn i ht hi
  have hx : (q.vars[offs (progBlocks q.vars) g.turn + i]'hlt).1 = (progBlocks q.vars)[g.turn][i] := by rw [← name_at _ hlt]; exact names_at g.turn i ht hi
  have hl := h.len
  rw [← hx, run_val hq r1 hlt (by simp; omega)]
  rw [← List.append_assoc, List.reverse_append, List.getD, List.getElem?_append_right (by simp; omega)]
  have h4 := h3 i hi
  rw [Nat.zero_add] at h4
  rw [← h4, List.getD, show offs (progBlocks q.vars) g.turn + i - bs.reverse.length = i from by simp; omega, List.reverse_append, List.getElem?_append_left (by simp; omega)]
theorem open_run {q : QS} (hq : QGood q) {kind : Nat} (hk : kind = 1 ∨ kind = 2) (ss : List Stp) :
    ∃ bs, Run q kind (rulesW kind ss) (openW q kind ss) bs ∧ Stands q kind (openW q kind ss) ∧ ∀ j (hj : j < (progBlocks q.vars).length), j < (openW q kind ss).turn → winsW q kind (progBlocks q.vars)[j] = true := by
  obtain ⟨b2, r1, r2, _, r4⟩ := ans_run hq hk (rs := rulesW kind ss) (blW q kind).length ⟨0, (0, 0)⟩ [] (by show 0 + _ = _; rw [blW_length]; omega) (run_zero q kind _)
  exact ⟨b2 ++ [], r1, r2, fun j hj h => r4 j hj (Nat.zero_le _) h⟩

/-! ### At the end the side that wins has won -/
theorem emptyLast_hits {ss : List Stp} (h : closedQ (litsL ss) = true) (kind : Nat) (V : Nat × Nat) : ∃ i, ∃ hi : i < ss.length, Hits kind V ss[i].lits := by
  rw [closed_lits, Bool.and_eq_true] at h
  obtain ⟨h1, h2⟩ := h
  have hp : 0 < ss.length := by simpa using h1
  obtain ⟨m, hm⟩ : ∃ m, ss.length = m + 1 := ⟨ss.length - 1, by omega⟩
  have e1 : litsAt ss ss.length = (ss[m]'(by omega)).lits := by have h5 := litsAt_in ss m (by omega); rwa [← hm] at h5
  rw [e1] at h2
  refine ⟨m, by omega, fun s v hl => ?_⟩
  have he : emptyB (ss[m]'(by omega)).lits = true := h2
  rw [(empty_iff _).1 he s v] at hl
  cases hl
theorem won_end {q : QS} (hq : QGood q) {kind : Nat} (hk : kind = 1 ∨ kind = 2) {ss : List Stp} (hs : Steps2 q kind ss) (hc : closedQ (litsL ss) = true) {g : GS} {bs : List Bool} (h : Run q kind (rulesW kind ss) g bs) (ht : g.turn = (progBlocks q.vars).length) : WonBy q kind g.vals := by
  have hl : bs.length = q.vars.length := by rw [h.len, ht, offs_all, progBlocks_flat, List.length_map]
  obtain ⟨i, hi, hh⟩ := emptyLast_hits hc kind g.vals
  rw [h.vals] at hh ⊢
  exact won_step hq hk hs hl h.keeps i hi hh
theorem run_uniq {q : QS} (hq : QGood q) {kind : Nat} {rs : List RuleP} {g : GS} {bs : List Bool} (h : Run q kind rs g bs) {v : Nat} (h0 : L g.vals false v = true) : L g.vals true v = false := by
  cases hc : L g.vals true v with
  | false => rfl
  | true =>
    obtain ⟨i, hi, _, i2, i3⟩ := (run_L hq h _ _).1 h0
    obtain ⟨j, hj, _, j2, j3⟩ := (run_L hq h _ _).1 hc
    rw [vars_inj hq hi hj (i2.trans j2.symm), j3] at i3
    cases i3
theorem won_sat {q : QS} (hq : QGood q) {kind : Nat} {rs : List RuleP} {g : GS} {bs : List Bool} (h : Run q kind rs g bs) (hw : WonBy q kind g.vals) : satB q.cl g.vals.1 = (kind == 2) := by
  rcases hw with ⟨rfl, c, hc, _, hh⟩ | ⟨rfl, c, hc, hh⟩
  · show satB q.cl g.vals.1 = false
    cases hs : satB q.cl g.vals.1 with
    | false => rfl
    | true =>
      obtain ⟨v, ⟨h1, h2⟩ | ⟨h1, h2⟩⟩ := (satC_iff _ _).1 ((satB_iff _ _).1 hs c hc)
      · have := run_uniq hq h (hh true v h1)
        rw [show L g.vals true v = g.vals.1.testBit v from rfl, h2] at this; cases this
      · have : g.vals.1.testBit v = true := hh false v h1
        rw [h2] at this; cases this
  · show satB q.cl g.vals.1 = true
    rw [satB_iff]
    intro x hx
    unfold satQ at hc
    have ho := List.all_eq_true.1 hc x hx
    unfold okC at ho
    rw [Bool.or_eq_true] at ho
    rw [satC_iff]
    rcases ho with ho | ho
    · obtain ⟨s, v, h1, h2⟩ := (meets_iff x c).1 ho
      have h3 : L g.vals s v = true := hh s v h2
      cases s with
      | true => exact ⟨v, Or.inl ⟨h1, h3⟩⟩
      | false => exact ⟨v, Or.inr ⟨h1, run_uniq hq h h3⟩⟩
    · obtain ⟨v, h1, h2⟩ := (clash_iff x).1 ho
      cases hb : g.vals.1.testBit v with
      | true => exact ⟨v, Or.inl ⟨h1, hb⟩⟩
      | false => exact ⟨v, Or.inr ⟨h2, hb⟩⟩

/-! ### Of proofs that were read -/
theorem qgood_of {F : Form} {q : QS} (h : FQ F q) (hb : QB q) : QGood q :=
  ⟨hb, h.nodup, fun c hc s v hl => by
    rw [← h.order]
    refine h.vars c hc v ?_
    cases s with
    | true => exact Or.inl hl
    | false => exact Or.inr hl⟩
theorem steps_of {F : Form} {q : QS} (h : FQ F q) (hF : FOk F) {l : List UInt8} {kind : Nat} {ss : List Stp} (hr : readQ q l = .inr (kind, litsL ss)) (ht : Tags q kind ss) (hb : SBs ss) :
    Steps2 q kind ss ∧ closedQ (litsL ss) = true ∧ ∃ truth two, provesR F l = .inr (truth, two) ∧ kind = kd truth := by
  unfold readQ at hr
  by_cases hl : 262144 < l.length
  · rw [if_pos hl] at hr; cases hr
  · rw [if_neg hl] at hr
    cases hrows : (cutTo 10 l).1 with
    | nil => rw [hrows] at hr; cases hr
    | cons r0 rs =>
      rw [hrows] at hr
      unfold firstQ at hr
      dsimp only at hr
      by_cases hr0 : r0 = sTrue ∨ r0 = sFalse
      · rw [if_pos hr0] at hr
        have hk : kindOf r0 = kd (r0 == sTrue) := by
          unfold kindOf kd
          by_cases e : r0 = sTrue
          · rw [if_pos e, if_pos (by simpa using e)]
          · rw [if_neg e, if_neg (by simpa using e)]
        unfold goQ at hr
        rw [hk, rowsQ_eq h hF (r0 == sTrue) rs [] 1 (by simp) (by simp) (by simp)] at hr
        cases hrr : rowsR F (r0 == sTrue) [] 1 rs with
        | inr i => rw [hrr] at hr; cases hr
        | inl s2 =>
          rw [hrr] at hr
          dsimp only at hr
          split at hr
          · next hc =>
            injection hr with hr
            injection hr with e1 e2
            subst e2
            have hg := good_rows hF (r0 == sTrue) rs [] 1 _ (by simp) hrr
            have hmem : ∀ s ∈ ss, s.lits ∈ litsL ss := fun s hs => List.mem_map_of_mem hs
            refine ⟨⟨ht, fun s hs => ⟨hb.bits s hs, fun t v hv => ?_⟩, fun s hs v a b => (hg _ (hmem s hs)).apart v a b⟩, hc.2, r0 == sTrue, twoR rs, ?_, e1.symm⟩
            · rw [← h.order]
              refine (hg _ (hmem s hs)).vars v ?_
              cases t with
              | true => exact Or.inl hv
              | false => exact Or.inr hv
            · unfold provesR
              rw [if_neg hl, hrows]
              dsimp only
              rw [if_pos hr0, hrr]
              dsimp only
              rw [if_pos ⟨by simpa using hc.1, hc.2⟩]
          · cases hr
      · rw [if_neg hr0] at hr; cases hr
end Go.Proofs.Ytgipjjhkhfihpaa

namespace Go.Proofs.Ytgipjjhkhfihpaa
open Go.RowKit

/-! ### Move, Values, Turn -/
def MoveE (bl : BL) (g : GS) (bits : Int) : Nat := if bl.length ≤ g.turn then 7 else if bits < 0 ∨ (2 : Int) ^ (bl.getD g.turn ([], false)).1.length ≤ bits then 6 else 0
def MoveG (rs : List RuleP) (bl : BL) (g : GS) (bits : Int) : GS := if MoveE bl g bits = 0 then moveW rs bl g bits.toNat else g
theorem pow_le8 (k : Nat) (h : k ≤ 8) : (2 : Int) ^ k ≤ 256 := by
  have : ∀ k : Fin 9, (2 : Int) ^ k.val ≤ 256 := by decide
  exact this ⟨k, by omega⟩
theorem wrap_pow8 (k : Nat) (h : k ≤ 8) : wrap64 (2 ^ k) = (2 : Int) ^ k := by
  have h1 := pow_le8 k h
  have h0 : (0 : Int) ≤ (2 : Int) ^ k := by
    have : ∀ k : Fin 9, (0 : Int) ≤ (2 : Int) ^ k.val := by decide
    exact this ⟨k, by omega⟩
  exact IntWalk.wrap64_in _ ⟨by omega, by omega⟩
theorem moveBlk_drop (row : List Nat) (bits k : Nat) (vals : Nat × Nat) (h : k < row.length) : moveBlk (row.drop k) bits k vals = moveBlk (row.drop (k + 1)) bits (k + 1) (setW vals row[k] (bits.testBit k)) := by
  rw [List.drop_eq_getElem_cons h, moveBlk]
end Go.Proofs.Ytgipjjhkhfihpaa

namespace Go.Proofs.Ytgipjjhkhfihpaa
open Go.RowKit

/-! ### Values, Turn -/
def valTo (c : Nat × Nat) (k : Nat) : List Value := (List.range 8).map (fun i => Value.int .i64 (if i < k then valV c (i + 1) else 0))
theorem valTo_zero (c : Nat × Nat) : (valTo c 0).toArray = #[.int .i64 0, .int .i64 0, .int .i64 0, .int .i64 0, .int .i64 0, .int .i64 0, .int .i64 0, .int .i64 0] := rfl
theorem valTo_at (c : Nat × Nat) (k i : Nat) (hi : i < 8) : (valTo c k).toArray[i]? = some (.int .i64 (if i < k then valV c (i + 1) else 0)) := by
  unfold valTo; simp [hi]
theorem valTo_set (c : Nat × Nat) (k : Nat) (hk : k < 8) : (valTo c k).toArray.set! k (.int .i64 (valV c (k + 1))) = (valTo c (k + 1)).toArray := by
  apply Array.ext
  · simp [valTo]
  · intro i h1 h2
    have hi : i < 8 := by simpa [valTo] using h2
    have e2 := valTo_at c (k + 1) i hi
    rw [Array.getElem?_eq_getElem h2] at e2
    injection e2 with e2
    rw [e2]
    by_cases e : i = k
    · subst e
      simp [Array.set!]
    · have e1 := valTo_at c k i hi
      rw [Array.getElem?_eq_getElem (by simpa [valTo] using hi)] at e1
      injection e1 with e1
      simp only [Array.set!]
      rw [Array.getElem_setIfInBounds_ne (by simpa [valTo] using hi) (fun h => e h.symm), e1]
      by_cases h : i < k
      · rw [if_pos h, if_pos (by omega)]
      · rw [if_neg h, if_neg (by omega)]
theorem valTo_keep (c : Nat × Nat) (k : Nat) (h0 : valV c (k + 1) = 0) : valTo c k = valTo c (k + 1) := by
  unfold valTo
  apply List.map_congr_left
  intro i _
  by_cases e : i = k
  · subst e; rw [if_neg (by omega), if_pos (by omega), h0]
  · by_cases h : i < k
    · rw [if_pos h, if_pos (by omega)]
    · rw [if_neg h, if_neg (by omega)]
end Go.Proofs.Ytgipjjhkhfihpaa

namespace Go.Proofs.Ytgipjjhkhfihpaa
open Go.RowKit

/-! ### wins -/
set_option maxRecDepth 100000 in
set_option maxHeartbeats 1600000 in
theorem wins_any (q : QS) (aV aC aS : Option Addr) (cV nC cC nS cS kind : Nat) (row : List Nat) (vX : Value) (w : World) (hV : w.ownsRow 0 84 2 (.slice aV q.vars.length cV) q.vars.length (varCells q.vars)) (hl : q.vars.length ≤ 8) (hk : kind = 1 ∨ kind = 2)
    (hX : w.ownsRow 0 3 1 vX row.length (ints row)) (hr : row.length ≤ 8) :
    Calls Try.prog 23 #[.agg #[.slice aV q.vars.length cV, .slice aC nC cC], .agg #[.int .i64 (kind : Int), .slice aS nS cS], vX] w fun e w' => e = .returned (.bool (winsW q kind row)) ∧ Below w.heap.size w w' := by
  obtain ⟨aX, cX, rfl⟩ := own_form hX
  cases row with
  | nil =>
    go_enter Try.func23, Try.ntmps23
    go_wp2_with fail
    go_ret
    exact ⟨rfl, ((Below.refl _ _).alloc (Nat.le_refl _) _).alloc (by simp) _⟩
  | cons v r =>
    have HW : Hid (winsW q kind (v :: r) = (((findV q.vars v).getD (0, false)).2 == (kind == 1))) := hide (by
      show (uniQ q v == _) = _
      unfold uniQ
      cases findV q.vars v <;> rfl)
    obtain ⟨g, cap, hVe, hg, hg', _, hcell⟩ := own_pos hX (by simp)
    injection hVe with hVe _ hV2
    subst hVe hV2
    have hx0 : w.cell? ⟨g, 0, none⟩ = some (.int .i64 (v : Int)) := hcell 0 _ rfl
    clear hcell
    have hne0 : (((r.length + 1 : Nat) : Int) == 0) = false := by rw [beq_eq_false_iff_ne]; omega
    go_enter Try.func23, Try.ntmps23
    go_wp2_with fail
    generalize hw0 : ((w.alloc (.cells #[.slice aV q.vars.length cV, .slice aC nC cC] 44)).alloc (.cells #[.int .i64 (kind : Int), .slice aS nS cS] 51)) = u1
    have hB : Below w.heap.size w u1 := by rw [← hw0]; exact ((Below.refl _ _).alloc (Nat.le_refl _) _).alloc (by simp) _
    have hf : u1.heap[w.heap.size]? = some (.cells #[.slice aV q.vars.length cV, .slice aC nC cC] 44 (0, 0)) := by rw [← hw0, heap_alloc_old _ _ (by simp)]; exact heap_alloc_new _ _
    have hpr : u1.heap[w.heap.size + 1]? = some (.cells #[.int .i64 (kind : Int), .slice aS nS cS] 51 (0, 0)) := by rw [← hw0]; exact alloc_new_at (by simp)
    clear hw0
    refine (find_any 0 w.heap.size q.vars _ v _ (by rw [blk_cell hf]; rfl) (own_below hV hB) (by omega)).mono ?_
    rintro e u2 ⟨hb2, rfl⟩
    have hB2 := hB.trans (hb2.mono hB.size)
    have hpr2 := (hb2.block _ (blk_lt hpr)).trans hpr
    generalize (findV q.vars v).getD (0, false) = x at *
    generalize (findV q.vars v).isSome = ok at *
    obtain ⟨x1, x2⟩ := x
    have hA : Below u2.heap.size u2 (u2.alloc (.cells #[.int .i64 (x1 : Int), .bool x2] 84)) := (Below.refl _ _).alloc (Nat.le_refl _) _
    have hB3 := hB2.trans (hA.mono hB2.size)
    have hv3 := heap_alloc_new u2 (.cells #[.int .i64 (x1 : Int), .bool x2] 84)
    have hpr3 := (hA.block _ (blk_lt hpr2)).trans hpr2
    have p0 : (u2.alloc (.cells #[.int .i64 (x1 : Int), .bool x2] 84)).cell? ⟨w.heap.size + 1, 0, none⟩ = some (.int .i64 (kind : Int)) := by rw [blk_cell hpr3]; rfl
    have lp := blk_lt hpr3
    rcases hk with rfl | rfl <;> cases x2
    all_goals
      go_wp2_with fail
      go_ret
      exact ⟨by rw [unhide HW]; rfl, hB3⟩
end Go.Proofs.Ytgipjjhkhfihpaa

namespace Go.Proofs.Ytgipjjhkhfihpaa
open Go.RowKit

/-- A call of a function as one step of a region that draws. -/
theorem step_call {P : Program} {ops : Array Oper} {o : Oper} {a : Act} {w : World} {K : Act → World → Prop} {Q : Exit → Act → World → Prop} {E : Prop}
    (hg : o.guard = none) (f : FuncId) (xs : Array Operand) (ts : Array TypeId) (hop : o.op = Op.call { callee := Callee.value (Operand.func f), args := xs, argTypes := ts })
    (args : Array Value) (hargs : xs.map a.eval = args) (hcf : ∀ w, (callFunc f args).run P w = .ok (.enter f args) w) (h : Calls P f args w (fun e w' => ∃ v, e = .returned v ∧ K (a.put o.dst v) w')) :
    if Region.wanted o (yielded ops a.tmps) = true then Oper.wp P o a w K Q else E := by
  have hw : Region.wanted o (yielded ops a.tmps) = true := by simp [Region.wanted, hg]
  rw [if_pos hw]
  unfold Oper.wp
  have he : (execOp a.eval o).run P w = .ok (.enter f args) w := by
    unfold execOp
    rw [hop]
    subst hargs
    simp [go_sem]
    exact hcf w
  rw [he, Oper.upon_enter]
  refine h.mono ?_
  rintro e w' ⟨v, rfl, hk⟩
  exact hk
theorem callWins (args : Array Value) (w : World) : (callFunc 23 args).run Try.prog w = .ok (.enter 23 args) w := by kernel_rfl
end Go.Proofs.Ytgipjjhkhfihpaa

namespace Go.Proofs.Ytgipjjhkhfihpaa
open Go.RowKit

/-! ### rulesOf -/
theorem callWithout (args : Array Value) (w : World) : (callFunc 35 args).run Try.prog w = .ok (.enter 35 args) w := by kernel_rfl
theorem callTurned (args : Array Value) (w : World) : (callFunc 36 args).run Try.prog w = .ok (.enter 36 args) w := by kernel_rfl
theorem infoRule : (Try.prog.info? 96).map (fun i => (i.zero, i.size, i.bytes)) = some (some (.agg #[.int .i64 0, .int .i64 0, .int .i64 0, .int .i64 0]), 4, 32) := by kernel_rfl
theorem infoBlock : (Try.prog.info? 79).map (fun i => (i.zero, i.size, i.bytes)) = some (some (.agg #[.slice none 0 0, .bool false]), 2, 32) := by kernel_rfl
def rulesTo (kind : Nat) (p : List Stp) (k : Nat) : List RuleP := ((p.take k).filter (fun s => s.rule == 4)).map (ruleW kind p)
theorem rulesTo_succ (kind : Nat) (p : List Stp) (k : Nat) (h : k < p.length) : rulesTo kind p (k + 1) = rulesTo kind p k ++ (if p[k].rule == 4 then [ruleW kind p p[k]] else []) := by
  unfold rulesTo
  rw [List.take_succ_eq_append_getElem h, List.filter_append, List.map_append, List.filter_cons]
  congr 1
  split <;> rfl
theorem rulesTo_len (kind : Nat) (p : List Stp) (k : Nat) : (rulesTo kind p k).length ≤ k := by
  unfold rulesTo
  rw [List.length_map]
  exact Nat.le_trans (List.length_filter_le _ _) (by simp; omega)
theorem ruleCells_snoc (l : List RuleP) (r : RuleP) : ruleCells (l ++ [r]) = ruleCells l ++ [Value.int .i64 (r.1.1 : Int), Value.int .i64 (r.1.2 : Int), Value.int .i64 (r.2.1 : Int), Value.int .i64 (r.2.2 : Int)] := by simp [ruleCells]
def RulesPost (kind : Nat) (ss : List Stp) (w : World) (e : Ending) (w' : World) : Prop := ∃ vR, e = .returned vR ∧ w'.ownsRow w.heap.size 96 4 vR (rulesW kind ss).length (ruleCells (rulesW kind ss)) ∧ Below w.heap.size w w'
set_option maxRecDepth 100000 in
set_option maxHeartbeats 3200000 in
theorem rulesOf_any (ss : List Stp) (aS : Option Addr) (cS kind : Nat) (w : World) (hS : w.ownsRow 0 89 6 (.slice aS ss.length cS) ss.length (psCells ss)) (hSB : SBs ss) (hk : kind = 1 ∨ kind = 2) :
    Calls Try.prog 21 #[.agg #[.int .i64 (kind : Int), .slice aS ss.length cS]] w fun e w' => RulesPost kind ss w e w' := by
  obtain ⟨i1, hi1, hz10, hz11, hz12⟩ := info_parts infoRule
  have hsl := hSB.len
  go_enter Try.func21, Try.ntmps21
  go_wp2_with fail
  go_loopg [3, 11] (ss.length) (fun m vl i wx => ∃ (k : Nat), i = .int .i64 k ∧ k + m = ss.length ∧ wx.ownsRow (w.heap.size + 1) 96 4 vl (rulesTo kind ss k).length (ruleCells (rulesTo kind ss k)) ∧ Below w.heap.size w wx ∧ wx.heap[w.heap.size]? = some (.cells #[.int .i64 (kind : Int), .slice aS ss.length cS] 51 (0, 0)))
  case atStart => exact ⟨0, rfl, by omega, World.ownsRow_nil _ _ _ _, (Below.refl _ _).alloc (Nat.le_refl _) _, heap_alloc_new _ _⟩
  case round =>
    obtain ⟨k, rfl, hkm, hown, hb, hpb⟩ := hrel
    have lp := blk_lt hpb
    have hln := rulesTo_len kind ss k
    obtain ⟨aL, cL, rfl⟩ := own_form hown
    by_cases hlt : k < ss.length
    · have HRS := hide (rulesTo_succ kind ss k hlt)
      have hsb := hSB.bits _ (List.getElem_mem hlt)
      obtain ⟨g, cap, hVe, hg, hg', _, hcell⟩ := own_pos hS (by omega)
      injection hVe with hVe _ hV2
      subst hVe hV2
      have hc : ∀ j (hj : j < 6) u, [Value.int .i64 (ss[k].rule : Int), Value.int .i64 (ss[k].first : Int), Value.int .i64 (ss[k].second : Int), Value.int .i64 (ss[k].var : Int), Value.int .i64 (ss[k].lits.1 : Int), Value.int .i64 (ss[k].lits.2 : Int)][j]? = some u → wr.cell? ⟨g, k * 6 + j, none⟩ = some u := fun j hj u hu => by
        rw [hb.cell (p := ⟨g, k * 6 + j, none⟩) hg']
        exact hcell _ _ (by rw [psCells_at ss k j hlt hj]; exact hu)
      have hx0 : wr.cell? ⟨g, k * 6, none⟩ = some (.int .i64 (ss[k].rule : Int)) := hc 0 (by omega) _ rfl
      have hx1 : wr.cell? ⟨g, k * 6 + 1, none⟩ = some (.int .i64 (ss[k].first : Int)) := hc 1 (by omega) _ rfl
      have hx2 : wr.cell? ⟨g, k * 6 + 2, none⟩ = some (.int .i64 (ss[k].second : Int)) := hc 2 (by omega) _ rfl
      have hx3 : wr.cell? ⟨g, k * 6 + 3, none⟩ = some (.int .i64 (ss[k].var : Int)) := hc 3 (by omega) _ rfl
      have hx4 : wr.cell? ⟨g, k * 6 + 4, none⟩ = some (.int .i64 (ss[k].lits.1 : Int)) := hc 4 (by omega) _ rfl
      have hx5 : wr.cell? ⟨g, k * 6 + 5, none⟩ = some (.int .i64 (ss[k].lits.2 : Int)) := hc 5 (by omega) _ rfl
      have hgw : g < wr.heap.size := Nat.lt_of_lt_of_le hg' hb.size
      clear hc hcell
      have HRW : Hid (∀ s, ss[k] = s → ruleW kind ss ss[k] = if kind = 1 then (swapL s.lits, swapL (minus (litsAt ss s.first) s.lits)) else (s.lits, minus (litsAt ss s.first) s.lits)) := hide (fun s e => by rw [e]; rfl)
      generalize hsk : ss[k] = st at *
      have HSK := hide hsk
      clear hsk
      obtain ⟨sr, sf, s2, sv, sl1, sl2⟩ := st
      dsimp only at *
      have hA : Below wr.heap.size wr (wr.alloc (.cells #[.int .i64 (sr : Int), .int .i64 (sf : Int), .int .i64 (s2 : Int), .int .i64 (sv : Int), .int .i64 (sl1 : Int), .int .i64 (sl2 : Int)] 89)) := (Below.refl _ _).alloc (Nat.le_refl _) _
      have hst := heap_alloc_new wr (.cells #[.int .i64 (sr : Int), .int .i64 (sf : Int), .int .i64 (s2 : Int), .int .i64 (sv : Int), .int .i64 (sl1 : Int), .int .i64 (sl2 : Int)] 89)
      have hpa := (hA.block _ lp).trans hpb
      have hBa := hb.trans (hA.mono hb.size)
      have howna := own_below hown hA
      by_cases hr4 : sr = 4
      · subst hr4
        have HRN : Hid (rulesTo kind ss (k + 1) = rulesTo kind ss k ++ [if kind = 1 then (swapL (sl1, sl2), swapL (minus (litsAt ss sf) (sl1, sl2))) else ((sl1, sl2), minus (litsAt ss sf) (sl1, sl2))]) := hide (by rw [unhide HRS, unhide HRW _ rfl]; rfl)
        clear HRS HRW
        -- WALK
        go_wp2_with fail
        generalize wr.alloc (.cells #[.int .i64 4, .int .i64 (sf : Int), .int .i64 (s2 : Int), .int .i64 (sv : Int), .int .i64 (sl1 : Int), .int .i64 (sl2 : Int)] 89) = wz at *
        have hB := hBa
        have cst0 : wz.cell? ⟨wr.heap.size, 0, none⟩ = some (.int .i64 4) := by rw [blk_cell hst]; rfl
        have cst1 : wz.cell? ⟨wr.heap.size, 1, none⟩ = some (.int .i64 (sf : Int)) := by rw [blk_cell hst]; rfl
        have cst2 : wz.cell? ⟨wr.heap.size, 2, none⟩ = some (.int .i64 (s2 : Int)) := by rw [blk_cell hst]; rfl
        have cst3 : wz.cell? ⟨wr.heap.size, 3, none⟩ = some (.int .i64 (sv : Int)) := by rw [blk_cell hst]; rfl
        have cst4 : wz.cell? ⟨wr.heap.size, 4, none⟩ = some (.int .i64 (sl1 : Int)) := by rw [blk_cell hst]; rfl
        have cst5 : wz.cell? ⟨wr.heap.size, 5, none⟩ = some (.int .i64 (sl2 : Int)) := by rw [blk_cell hst]; rfl
        have lst := blk_lt hst
        have cpa0 : wz.cell? ⟨w.heap.size, 0, none⟩ = some (.int .i64 (kind : Int)) := by rw [blk_cell hpa]; rfl
        have cpa1 : wz.cell? ⟨w.heap.size, 1, none⟩ = some (.slice (some ⟨g, 0, none⟩) ss.length cS) := by rw [blk_cell hpa]; rfl
        have lpa := blk_lt hpa
        refine (plits_any 0 w.heap.size 0 ss _ sf _ (by rw [blk_cell hpa]; rfl) (own_below hS hB) (by omega)).mono ?_
        rintro e u1 ⟨rfl, b1⟩
        replace hB := hB.trans (b1.mono hB.size)
        replace hst := (b1.block _ (blk_lt hst)).trans hst
        replace cst0 : u1.cell? ⟨wr.heap.size, 0, none⟩ = some (.int .i64 4) := by rw [blk_cell hst]; rfl
        replace cst1 : u1.cell? ⟨wr.heap.size, 1, none⟩ = some (.int .i64 (sf : Int)) := by rw [blk_cell hst]; rfl
        replace cst2 : u1.cell? ⟨wr.heap.size, 2, none⟩ = some (.int .i64 (s2 : Int)) := by rw [blk_cell hst]; rfl
        replace cst3 : u1.cell? ⟨wr.heap.size, 3, none⟩ = some (.int .i64 (sv : Int)) := by rw [blk_cell hst]; rfl
        replace cst4 : u1.cell? ⟨wr.heap.size, 4, none⟩ = some (.int .i64 (sl1 : Int)) := by rw [blk_cell hst]; rfl
        replace cst5 : u1.cell? ⟨wr.heap.size, 5, none⟩ = some (.int .i64 (sl2 : Int)) := by rw [blk_cell hst]; rfl
        replace lst := blk_lt hst
        replace hpa := (b1.block _ (blk_lt hpa)).trans hpa
        replace cpa0 : u1.cell? ⟨w.heap.size, 0, none⟩ = some (.int .i64 (kind : Int)) := by rw [blk_cell hpa]; rfl
        replace cpa1 : u1.cell? ⟨w.heap.size, 1, none⟩ = some (.slice (some ⟨g, 0, none⟩) ss.length cS) := by rw [blk_cell hpa]; rfl
        replace lpa := blk_lt hpa
        replace howna := own_below howna b1
        have hla := litsAt_lt ss hSB.bits sf
        generalize litsAt ss sf = c at *
        obtain ⟨c1, c2⟩ := c
        dsimp only at hla
        go_wp2_with fail
        generalize hw0 : u1.alloc (.cells #[.int .i64 (c1 : Int), .int .i64 (c2 : Int)] 58) = u2
        have b2 : Below u1.heap.size u1 u2 := by rw [← hw0]; exact (Below.refl _ _).alloc (Nat.le_refl _) _
        have hwh : u2.heap[u1.heap.size]? = some (.cells #[.int .i64 (c1 : Int), .int .i64 (c2 : Int)] 58 (0, 0)) := by rw [← hw0]; exact heap_alloc_new _ _
        clear hw0
        replace hB := hB.trans (b2.mono hB.size)
        replace hst := (b2.block _ (blk_lt hst)).trans hst
        replace cst0 : u2.cell? ⟨wr.heap.size, 0, none⟩ = some (.int .i64 4) := by rw [blk_cell hst]; rfl
        replace cst1 : u2.cell? ⟨wr.heap.size, 1, none⟩ = some (.int .i64 (sf : Int)) := by rw [blk_cell hst]; rfl
        replace cst2 : u2.cell? ⟨wr.heap.size, 2, none⟩ = some (.int .i64 (s2 : Int)) := by rw [blk_cell hst]; rfl
        replace cst3 : u2.cell? ⟨wr.heap.size, 3, none⟩ = some (.int .i64 (sv : Int)) := by rw [blk_cell hst]; rfl
        replace cst4 : u2.cell? ⟨wr.heap.size, 4, none⟩ = some (.int .i64 (sl1 : Int)) := by rw [blk_cell hst]; rfl
        replace cst5 : u2.cell? ⟨wr.heap.size, 5, none⟩ = some (.int .i64 (sl2 : Int)) := by rw [blk_cell hst]; rfl
        replace lst := blk_lt hst
        replace hpa := (b2.block _ (blk_lt hpa)).trans hpa
        replace cpa0 : u2.cell? ⟨w.heap.size, 0, none⟩ = some (.int .i64 (kind : Int)) := by rw [blk_cell hpa]; rfl
        replace cpa1 : u2.cell? ⟨w.heap.size, 1, none⟩ = some (.slice (some ⟨g, 0, none⟩) ss.length cS) := by rw [blk_cell hpa]; rfl
        replace lpa := blk_lt hpa
        replace howna := own_below howna b2
        have cwh0 : u2.cell? ⟨u1.heap.size, 0, none⟩ = some (.int .i64 (c1 : Int)) := by rw [blk_cell hwh]; rfl
        have cwh1 : u2.cell? ⟨u1.heap.size, 1, none⟩ = some (.int .i64 (c2 : Int)) := by rw [blk_cell hwh]; rfl
        have lwh := blk_lt hwh
        have hm := minus_lt (c1, c2) (sl1, sl2) hla
        obtain ⟨wo, rfl⟩ : ∃ wo, wo = wr := ⟨_, rfl⟩
        go_cut [7] (fun s7 wx => ∃ lr, s7 = .pointer (some ⟨lr, 0, none⟩) ∧ u2.heap.size ≤ lr ∧ Below u2.heap.size u2 wx ∧ wx.heap[lr]? = some (.cells #[.int .i64 (sl1 : Int), .int .i64 (sl2 : Int), .int .i64 ((minus (c1, c2) (sl1, sl2)).1 : Int), .int .i64 ((minus (c1, c2) (sl1, sl2)).2 : Int)] 96 (0, 0)))
        case first =>
          clear hx0 hx1 hx2 hx3 hx4 hx5 hg hg' hgw hS hi1 hz10 hz11 hz12 hsl hln hown howna hb hpb lp hA hBa hB hpa cpa0 cpa1 lpa HSK HRN hkm b1 b2
          go_region_law (refine step_call rfl 35 _ _ rfl #[SetV (c1, c2), SetV (sl1, sl2)] (by simp [Act.eval]) (callWithout _) ?_; refine (lwithout_any c1 c2 sl1 sl2 _ hla.1 hla.2 hsb.1 hsb.2).mono ?_; rintro e v1 ⟨rfl, y1⟩; refine ⟨_, rfl, ?_⟩; have x1 : Below u2.heap.size u2 v1 := Below.trans (by first | exact Below.refl _ _ | exact (Below.refl _ _).drew | exact (Below.refl _ _).alloc (Nat.le_refl _) _ | exact ((Below.refl _ _).alloc (Nat.le_refl _) _).drew | exact ((Below.refl _ _).drew).alloc (Nat.le_refl _) _) (y1.mono (by simp)); have hst1 := (x1.block _ (blk_lt hst)).trans hst; have lst1 := blk_lt hst1; have e4 : v1.cell? ⟨wo.heap.size, 4, none⟩ = some (.int .i64 (sl1 : Int)) := (by rw [blk_cell hst1]; rfl); have e5 : v1.cell? ⟨wo.heap.size, 5, none⟩ = some (.int .i64 (sl2 : Int)) := (by rw [blk_cell hst1]; rfl); (try (have hq : v1.heap[u2.heap.size]? = some (.cells #[.int .i64 0, .int .i64 0, .int .i64 0, .int .i64 0] 96 (0, 0)) := (by first | exact (y1.block u2.heap.size (by simp)).trans (heap_alloc_new u2 _) | exact (y1.block u2.heap.size (by simp)).trans (heap_alloc_new u2.drew _)); have lq := blk_lt hq; have q0 : v1.cell? ⟨u2.heap.size, 0, none⟩ = some (.int .i64 0) := (by rw [blk_cell hq]; rfl); have q1 : v1.cell? ⟨u2.heap.size, 1, none⟩ = some (.int .i64 0) := (by rw [blk_cell hq]; rfl); have q2 : v1.cell? ⟨u2.heap.size, 2, none⟩ = some (.int .i64 0) := (by rw [blk_cell hq]; rfl); have q3 : v1.cell? ⟨u2.heap.size, 3, none⟩ = some (.int .i64 0) := (by rw [blk_cell hq]; rfl); have z0 := blk_free hq 0; have z1 := blk_free hq 1; have z2 := blk_free hq 2; have z3 := blk_free hq 3)))
          all_goals
            go_wp2_with fail
            go_meet
            first
              | exact ⟨_, rfl, x1.size, x1.alloc x1.size _, heap_alloc_new _ _⟩
              | exact ⟨_, rfl, Nat.le_refl _, (((x1.setCell (p := ⟨u2.heap.size, 0, none⟩) (Nat.le_refl _) _).setCell (p := ⟨u2.heap.size, 1, none⟩) (Nat.le_refl _) _).setCell (p := ⟨u2.heap.size, 2, none⟩) (Nat.le_refl _) _).setCell (p := ⟨u2.heap.size, 3, none⟩) (Nat.le_refl _) _, blk_set (blk_set (blk_set (blk_set hq 0 _) 1 _) 2 _) 3 _⟩
        case rest =>
        obtain ⟨lr, rfl, hlr, hbc, hr⟩ := hcut
        have hpc := (hbc.block _ (blk_lt hpa)).trans hpa
        have pc0 : wc.cell? ⟨w.heap.size, 0, none⟩ = some (.int .i64 (kind : Int)) := by rw [blk_cell hpc]; rfl
        have lpc := blk_lt hpc
        generalize minus (c1, c2) (sl1, sl2) = cm at *
        obtain ⟨d1, d2⟩ := cm
        dsimp only at hm hr
        have howlt : w.heap.size < u2.heap.size := lpa
        rcases hk with rfl | rfl
        · have HRN2 : Hid (rulesTo 1 ss (k + 1) = rulesTo 1 ss k ++ [((sl2, sl1), (d2, d1))]) := hide (by rw [unhide HRN, if_pos rfl]; rfl)
          have r0 : wc.cell? ⟨lr, 0, none⟩ = some (.int .i64 (sl1 : Int)) := by rw [blk_cell hr]; rfl
          have r1 : wc.cell? ⟨lr, 1, none⟩ = some (.int .i64 (sl2 : Int)) := by rw [blk_cell hr]; rfl
          have r2 : wc.cell? ⟨lr, 2, none⟩ = some (.int .i64 (d1 : Int)) := by rw [blk_cell hr]; rfl
          have r3 : wc.cell? ⟨lr, 3, none⟩ = some (.int .i64 (d2 : Int)) := by rw [blk_cell hr]; rfl
          have lrr := blk_lt hr
          clear HRN
          obtain ⟨wq, rfl⟩ : ∃ x, x = wc := ⟨_, rfl⟩
          go_upto_region 20 with fail
          go_cut [] (fun wx => Below u2.heap.size u2 wx ∧ wx.heap[lr]? = some (.cells #[.int .i64 (sl2 : Int), .int .i64 (sl1 : Int), .int .i64 (d2 : Int), .int .i64 (d1 : Int)] 96 (0, 0)))
          case first =>
            clear hx0 hx1 hx2 hx3 hx4 hx5 hg hg' hgw hS hi1 hz10 hz11 hz12 hsl hln hown howna hb hpb lp hA hBa hB hpa cpa0 cpa1 lpa HSK hkm b1 b2 HRN2
            go_region_law (first | (refine step_call rfl 36 _ _ rfl #[SetV (sl1, sl2)] (by simp [Act.eval]) (callTurned _) ?_; refine (turned_any sl1 sl2 _).mono ?_; rintro e v1 ⟨rfl, y1⟩; refine ⟨_, rfl, ?_⟩; have x1 : Below wq.heap.size wq v1 := Below.trans (by first | exact Below.refl _ _ | exact (Below.refl _ _).drew) (y1.mono (by simp)); have hr_v1 := (x1.block _ lrr).trans hr; have l_v1 := blk_lt hr_v1; have v1c0 : v1.cell? ⟨lr, 0, none⟩ = some (.int .i64 (sl1 : Int)) := (by rw [blk_cell hr_v1]; rfl); have v1c1 : v1.cell? ⟨lr, 1, none⟩ = some (.int .i64 (sl2 : Int)) := (by rw [blk_cell hr_v1]; rfl); have v1c2 : v1.cell? ⟨lr, 2, none⟩ = some (.int .i64 (d1 : Int)) := (by rw [blk_cell hr_v1]; rfl); have v1c3 : v1.cell? ⟨lr, 3, none⟩ = some (.int .i64 (d2 : Int)) := (by rw [blk_cell hr_v1]; rfl); have v1z0 := blk_free hr_v1 0; have v1z1 := blk_free hr_v1 1; have v1z2 := blk_free hr_v1 2; have v1z3 := blk_free hr_v1 3) | (refine step_call rfl 36 _ _ rfl #[SetV (d1, d2)] (by simp [Act.eval]) (callTurned _) ?_; refine (turned_any d1 d2 _).mono ?_; rintro e v2 ⟨rfl, y2⟩; refine ⟨_, rfl, ?_⟩; have x2 : Below v1.heap.size v1 v2 := Below.trans (by first | exact Below.refl _ _ | exact (Below.refl _ _).drew) (y2.mono (by simp)); have hr_v2 := ((x1.trans (x2.mono x1.size)).block _ lrr).trans hr; have l_v2 := blk_lt hr_v2; have v2c0 : v2.cell? ⟨lr, 0, none⟩ = some (.int .i64 (sl1 : Int)) := (by rw [blk_cell hr_v2]; rfl); have v2c1 : v2.cell? ⟨lr, 1, none⟩ = some (.int .i64 (sl2 : Int)) := (by rw [blk_cell hr_v2]; rfl); have v2c2 : v2.cell? ⟨lr, 2, none⟩ = some (.int .i64 (d1 : Int)) := (by rw [blk_cell hr_v2]; rfl); have v2c3 : v2.cell? ⟨lr, 3, none⟩ = some (.int .i64 (d2 : Int)) := (by rw [blk_cell hr_v2]; rfl); have v2z0 := blk_free hr_v2 0; have v2z1 := blk_free hr_v2 1; have v2z2 := blk_free hr_v2 2; have v2z3 := blk_free hr_v2 3))
            all_goals
              go_wp2_with fail
              go_meet
              have xx := hbc.trans ((x1.trans (x2.mono x1.size)).mono hbc.size)
              exact ⟨(((xx.setCell (p := ⟨lr, 0, none⟩) hlr _).setCell (p := ⟨lr, 1, none⟩) hlr _).setCell (p := ⟨lr, 2, none⟩) hlr _).setCell (p := ⟨lr, 3, none⟩) hlr _, blk_set (blk_set (blk_set (blk_set hr_v2 0 _) 1 _) 2 _) 3 _⟩
          case rest =>
          obtain ⟨hbd, hrd⟩ := hcut
          clear r0 r1 r2 r3 lrr pc0 lpc hpc hbc hr
          have r0 : wc.cell? ⟨lr, 0, none⟩ = some (.int .i64 (sl2 : Int)) := by rw [blk_cell hrd]; rfl
          have r1 : wc.cell? ⟨lr, 1, none⟩ = some (.int .i64 (sl1 : Int)) := by rw [blk_cell hrd]; rfl
          have r2 : wc.cell? ⟨lr, 2, none⟩ = some (.int .i64 (d2 : Int)) := by rw [blk_cell hrd]; rfl
          have r3 : wc.cell? ⟨lr, 3, none⟩ = some (.int .i64 (d1 : Int)) := by rw [blk_cell hrd]; rfl
          have lrr := blk_lt hrd
          have hrl : (rulesTo 1 ss k).length ≤ 9000 := by omega
          have hownc := own_below howna hbd
          have lc : w.heap.size + 1 ≤ wc.heap.size := by have := hbd.size; have := howlt; omega
          have hBc := hB.trans (hbd.mono hB.size)
          have HSN := hide (ruleCells_snoc (rulesTo 1 ss k) ((sl2, sl1), (d2, d1)))
          go_wp2_with (at_builtin; refine wpList_append_new rfl _ _ 56 rfl (w.heap.size + 1) i1 (.agg #[.int .i64 0, .int .i64 0, .int .i64 0, .int .i64 0]) 4 32 Try.underlying56 hi1 hz10 hz11 hz12 rfl (by decide) _ _ _ hownc rfl rfl rfl (by simp [Value.oneCell']) (by unfold maxLen; omega) (by omega) lc ?_; intro v4 w4 hown4 hgrow4 hnn4)
          have hB4 : Below w.heap.size w w4 := below_grown hBc hgrow4 hownc (Nat.le_succ _) hBc.size
          have hp4 : w4.heap[w.heap.size]? = some (.cells #[.int .i64 ((1 : Nat) : Int), .slice (some ⟨g, 0, none⟩) ss.length cS] 51 (0, 0)) := (hgrow4.block _ (blk_lt ((hbd.block _ (blk_lt hpa)).trans hpa)) (fun e => by have := (hownc.lt _ e.symm).1; omega)).trans ((hbd.block _ (blk_lt hpa)).trans hpa)
          obtain ⟨a4, c4, rfl⟩ := own_form hown4
          go_wp2_with fail
          go_roundg (gk - 1)
          case measure => omega
          case rel => exact ⟨k + 1, by go_num, by omega, by rw [unhide HRN2, unhide HSN]; simpa using hown4, hB4, hp4⟩
        · have HRN2 : Hid (rulesTo 2 ss (k + 1) = rulesTo 2 ss k ++ [((sl1, sl2), (d1, d2))]) := hide (by rw [unhide HRN, if_neg (by decide)])
          have r0 : wc.cell? ⟨lr, 0, none⟩ = some (.int .i64 (sl1 : Int)) := by rw [blk_cell hr]; rfl
          have r1 : wc.cell? ⟨lr, 1, none⟩ = some (.int .i64 (sl2 : Int)) := by rw [blk_cell hr]; rfl
          have r2 : wc.cell? ⟨lr, 2, none⟩ = some (.int .i64 (d1 : Int)) := by rw [blk_cell hr]; rfl
          have r3 : wc.cell? ⟨lr, 3, none⟩ = some (.int .i64 (d2 : Int)) := by rw [blk_cell hr]; rfl
          have lrr := blk_lt hr
          have hrl : (rulesTo 2 ss k).length ≤ 9000 := by omega
          have hownc := own_below howna hbc
          have lc : w.heap.size + 1 ≤ wc.heap.size := by have := hbc.size; have := howlt; omega
          have hBc := hB.trans (hbc.mono hB.size)
          have HSN := hide (ruleCells_snoc (rulesTo 2 ss k) ((sl1, sl2), (d1, d2)))
          go_wp2_with (at_builtin; refine wpList_append_new rfl _ _ 56 rfl (w.heap.size + 1) i1 (.agg #[.int .i64 0, .int .i64 0, .int .i64 0, .int .i64 0]) 4 32 Try.underlying56 hi1 hz10 hz11 hz12 rfl (by decide) _ _ _ hownc rfl rfl rfl (by simp [Value.oneCell']) (by unfold maxLen; omega) (by omega) lc ?_; intro v4 w4 hown4 hgrow4 hnn4)
          have hB4 : Below w.heap.size w w4 := below_grown hBc hgrow4 hownc (Nat.le_succ _) hBc.size
          have hp4 : w4.heap[w.heap.size]? = some (.cells #[.int .i64 ((2 : Nat) : Int), .slice (some ⟨g, 0, none⟩) ss.length cS] 51 (0, 0)) := (hgrow4.block _ (blk_lt ((hbc.block _ (blk_lt hpa)).trans hpa)) (fun e => by have := (hownc.lt _ e.symm).1; omega)).trans ((hbc.block _ (blk_lt hpa)).trans hpa)
          obtain ⟨a4, c4, rfl⟩ := own_form hown4
          go_wp2_with fail
          go_roundg (gk - 1)
          case measure => omega
          case rel => exact ⟨k + 1, by go_num, by omega, by rw [unhide HRN2, unhide HSN]; simpa using hown4, hB4, hp4⟩
      · have hne : ((sr : Int) != 4) = true := by rw [bne_iff_ne]; omega
        have HRN : Hid (rulesTo kind ss (k + 1) = rulesTo kind ss k) := hide (by rw [unhide HRS, if_neg (by simpa using hr4), List.append_nil])
        clear HRS HRW hr4
        go_wp2_with fail
        go_roundg (gk - 1)
        case measure => omega
        case rel => exact ⟨k + 1, by go_num, by omega, by rw [unhide HRN]; exact howna, hBa, hpa⟩
    · have hke : k = ss.length := by omega
      subst hke
      have HR : Hid (rulesW kind ss = rulesTo kind ss ss.length) := hide (by unfold rulesW rulesTo; rw [List.take_length])
      go_wp2_with fail
      go_ret
      exact ⟨_, rfl, by rw [unhide HR]; exact own_lo hown (by omega), hb⟩
end Go.Proofs.Ytgipjjhkhfihpaa

namespace Go.Proofs.Ytgipjjhkhfihpaa
open Go.RowKit

/-! ### A duel's Turn, Move, Values -/
end Go.Proofs.Ytgipjjhkhfihpaa
