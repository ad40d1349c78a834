import Derived.Test.YtgipjjhkhfihpaaGreatDoorAG
import Derived.Test.YtgipjjhkhfihpaaGreatDoorAD
import Derived.Test.YtgipjjhkhfihpaaGreatDoorAH
import Derived.Test.YtgipjjhkhfihpaaGreatDoorAC
import Derived.Test.YtgipjjhkhfihpaaGreatDoorAA
import Derived.Deep.RegionLaw
namespace Go.Proofs.YtgipjjhkhfihpaaGreatDoor
open Go.RowKit

/-! ### The values of a game -/
def valV (c : Nat × Nat) (v : Nat) : Int := if L c false v then -1 else if L c true v then 1 else 0
theorem run_L {q : QS} (hq : QGood q) {kind : Nat} {rs : List RuleP} {g : GS} {bs : List Bool} (h : Run q kind rs g bs) (s : Bool) (v : Nat) : L g.vals s v = true ↔ ∃ j, ∃ hj : j < q.vars.length, j < bs.length ∧ q.vars[j].1 = v ∧ bs.reverse.getD j false = s := by
  have hle : bs.length ≤ q.vars.length := by
    rw [h.len]; have := offs_le (progBlocks q.vars) g.turn; rw [progBlocks_flat, List.length_map] at this; exact this
  rw [h.vals, valsTo_L _ (fun v hv => hq.name hv) bs (by simpa using hle)]
  constructor
  · rintro ⟨j, h1, h2, h3⟩
    have hj : j < q.vars.length := by omega
    exact ⟨j, hj, h1, by rw [← name_at j hj]; exact h2, h3⟩
  · rintro ⟨j, hj, h1, h2, h3⟩
    exact ⟨j, h1, by rw [name_at j hj]; exact h2, h3⟩
theorem vars_inj {q : QS} (hq : QGood q) {i j : Nat} (hi : i < q.vars.length) (hj : j < q.vars.length) (e : q.vars[i].1 = q.vars[j].1) : i = j := index_inj hq hi hj e
/-- The value of the variable at a place. -/
theorem run_val {q : QS} (hq : QGood q) {kind : Nat} {rs : List RuleP} {g : GS} {bs : List Bool} (h : Run q kind rs g bs) {j : Nat} (hj : j < q.vars.length) (hb : j < bs.length) : valV g.vals q.vars[j].1 = if bs.reverse.getD j false then 1 else -1 := by
  have hone : ∀ s, L g.vals s q.vars[j].1 = true ↔ bs.reverse.getD j false = s := fun s => by
    rw [run_L hq h]
    constructor
    · rintro ⟨i, hi, _, h2, h3⟩
      rw [vars_inj hq hi hj h2] at h3; exact h3
    · intro e; exact ⟨j, hj, hb, rfl, e⟩
  unfold valV
  cases e : bs.reverse.getD j false with
  | true =>
    have h1 := (hone true).2 e
    have h0 : L g.vals false q.vars[j].1 = false := by
      cases hc : L g.vals false q.vars[j].1 with
      | false => rfl
      | true => have := (hone false).1 hc; rw [e] at this; cases this
    rw [h0, h1]; rfl
  | false =>
    have h1 := (hone false).2 e
    rw [h1]; rfl
theorem run_none {q : QS} (hq : QGood q) {kind : Nat} {rs : List RuleP} {g : GS} {bs : List Bool} (h : Run q kind rs g bs) {v : Nat} (hv : ∀ j (hj : j < q.vars.length), j < bs.length → q.vars[j].1 ≠ v) : valV g.vals v = 0 := by
  have : ∀ s, L g.vals s v = false := fun s => by
    cases hc : L g.vals s v with
    | false => rfl
    | true =>
      obtain ⟨j, hj, h1, h2, _⟩ := (run_L hq h s v).1 hc
      exact absurd h2 (hv j hj h1)
  unfold valV; rw [this, this]; rfl
/-- A value that was told stays. -/
theorem run_stay {q : QS} (hq : QGood q) {kind : Nat} {rs : List RuleP} {g g' : GS} {bs b2 : List Bool} (h : Run q kind rs g bs) (h' : Run q kind rs g' (b2 ++ bs)) (v : Nat) : valV g.vals v = 0 ∨ valV g'.vals v = valV g.vals v := by
  by_cases e : ∃ j, ∃ hj : j < q.vars.length, j < bs.length ∧ q.vars[j].1 = v
  · obtain ⟨j, hj, h1, rfl⟩ := e
    refine Or.inr ?_
    rw [run_val hq h hj h1, run_val hq h' hj (by simp; omega), List.reverse_append, List.getD, List.getD, List.getElem?_append_left (by simpa using h1)]
  · exact Or.inl (run_none hq h (fun j hj h1 h2 => e ⟨j, hj, h1, h2⟩))
theorem move_run {q : QS} (hq : QGood q) {kind : Nat} (hk : kind = 1 ∨ kind = 2) {rs : List RuleP} {g : GS} {bs : List Bool} (h : Run q kind rs g bs) (hs : Stands q kind g) (ht : g.turn < (progBlocks q.vars).length) (bits : Nat) :
    ∃ b2, Run q kind rs (moveW rs (blW q kind) g bits) (b2 ++ bs) ∧ Stands q kind (moveW rs (blW q kind) g bits) ∧ g.turn + 1 ≤ (moveW rs (blW q kind) g bits).turn ∧
      (∀ j (hj : j < (progBlocks q.vars).length), g.turn + 1 ≤ j → j < (moveW rs (blW q kind) g bits).turn → winsW q kind (progBlocks q.vars)[j] = true) ∧
      ∀ i (hi : i < (progBlocks q.vars)[g.turn].length), valV (moveW rs (blW q kind) g bits).vals (progBlocks q.vars)[g.turn][i] = if bits.testBit i then 1 else -1 := by
  obtain ⟨b1, h1, h2, h3⟩ := move_part hq hk ht (hs.lose ht) bits (progBlocks q.vars)[g.turn].length 0 g.vals bs (by omega) h.part
  rw [List.drop_zero] at h1
  obtain ⟨b2, r1, r2, r3, r4⟩ := ans_run hq hk ((blW q kind).length - (g.turn + 1)) ⟨g.turn + 1, _⟩ _ (by show g.turn + 1 + _ = _; rw [blW_length]; omega) (h1.done ht)
  have e : moveW rs (blW q kind) g bits = ansGo rs (blW q kind) ((blW q kind).length - (g.turn + 1)) ⟨g.turn + 1, moveBlk (progBlocks q.vars)[g.turn] bits 0 g.vals⟩ := by
    unfold moveW ansW; rw [blW_at q kind _ ht]
  rw [e]
  refine ⟨b2 ++ b1, by rw [List.append_assoc]; exact r1, r2, r3, r4, fun i hi => ?_⟩
  have hlt := offs_lt g.turn i ht hi
  have hx : (q.vars[offs (progBlocks q.vars) g.turn + i]'hlt).1 = (progBlocks q.vars)[g.turn][i] := by rw [← name_at _ hlt]; exact names_at g.turn i ht hi
  have hl := h.len
  rw [← hx, run_val hq r1 hlt (by simp; omega)]
  rw [← List.append_assoc, List.reverse_append, List.getD, List.getElem?_append_right (by simp; omega)]
  have h4 := h3 i hi
  rw [Nat.zero_add] at h4
  rw [← h4, List.getD, show offs (progBlocks q.vars) g.turn + i - bs.reverse.length = i from by simp; omega, List.reverse_append, List.getElem?_append_left (by simp; omega)]
theorem open_run {q : QS} (hq : QGood q) {kind : Nat} (hk : kind = 1 ∨ kind = 2) (ss : List Stp) :
    ∃ bs, Run q kind (rulesW kind ss) (openW q kind ss) bs ∧ Stands q kind (openW q kind ss) ∧ ∀ j (hj : j < (progBlocks q.vars).length), j < (openW q kind ss).turn → winsW q kind (progBlocks q.vars)[j] = true := by
  obtain ⟨b2, r1, r2, _, r4⟩ := ans_run hq hk (rs := rulesW kind ss) (blW q kind).length ⟨0, (0, 0)⟩ [] (by show 0 + _ = _; rw [blW_length]; omega) (run_zero q kind _)
  exact ⟨b2 ++ [], r1, r2, fun j hj h => r4 j hj (Nat.zero_le _) h⟩

/-! ### At the end the side that wins has won -/
theorem emptyLast_hits {ss : List Stp} (h : closedQ (litsL ss) = true) (kind : Nat) (V : Nat × Nat) : ∃ i, ∃ hi : i < ss.length, Hits kind V ss[i].lits := by
  rw [closed_lits, Bool.and_eq_true] at h
  obtain ⟨h1, h2⟩ := h
  have hp : 0 < ss.length := by simpa using h1
  obtain ⟨m, hm⟩ : ∃ m, ss.length = m + 1 := ⟨ss.length - 1, by omega⟩
  have e1 : litsAt ss ss.length = (ss[m]'(by omega)).lits := by have h5 := litsAt_in ss m (by omega); rwa [← hm] at h5
  rw [e1] at h2
  refine ⟨m, by omega, fun s v hl => ?_⟩
  have he : emptyB (ss[m]'(by omega)).lits = true := h2
  rw [(empty_iff _).1 he s v] at hl
  cases hl
theorem won_end {q : QS} (hq : QGood q) {kind : Nat} (hk : kind = 1 ∨ kind = 2) {ss : List Stp} (hs : Steps2 q kind ss) (hc : closedQ (litsL ss) = true) {g : GS} {bs : List Bool} (h : Run q kind (rulesW kind ss) g bs) (ht : g.turn = (progBlocks q.vars).length) : WonBy q kind g.vals := by
  have hl : bs.length = q.vars.length := by rw [h.len, ht, offs_all, progBlocks_flat, List.length_map]
  obtain ⟨i, hi, hh⟩ := emptyLast_hits hc kind g.vals
  rw [h.vals] at hh ⊢
  exact won_step hq hk hs hl h.keeps i hi hh
theorem run_uniq {q : QS} (hq : QGood q) {kind : Nat} {rs : List RuleP} {g : GS} {bs : List Bool} (h : Run q kind rs g bs) {v : Nat} (h0 : L g.vals false v = true) : L g.vals true v = false := by
  cases hc : L g.vals true v with
  | false => rfl
  | true =>
    obtain ⟨i, hi, _, i2, i3⟩ := (run_L hq h _ _).1 h0
    obtain ⟨j, hj, _, j2, j3⟩ := (run_L hq h _ _).1 hc
    rw [vars_inj hq hi hj (i2.trans j2.symm), j3] at i3
    cases i3
theorem won_sat {q : QS} (hq : QGood q) {kind : Nat} {rs : List RuleP} {g : GS} {bs : List Bool} (h : Run q kind rs g bs) (hw : WonBy q kind g.vals) : satB q.cl g.vals.1 = (kind == 2) := by
  rcases hw with ⟨rfl, c, hc, _, hh⟩ | ⟨rfl, c, hc, hh⟩
  · show satB q.cl g.vals.1 = false
    cases hs : satB q.cl g.vals.1 with
    | false => rfl
    | true =>
      obtain ⟨v, ⟨h1, h2⟩ | ⟨h1, h2⟩⟩ := (satC_iff _ _).1 ((satB_iff _ _).1 hs c hc)
      · have := run_uniq hq h (hh true v h1)
        rw [show L g.vals true v = g.vals.1.testBit v from rfl, h2] at this; cases this
      · have : g.vals.1.testBit v = true := hh false v h1
        rw [h2] at this; cases this
  · show satB q.cl g.vals.1 = true
    rw [satB_iff]
    intro x hx
    unfold satQ at hc
    have ho := List.all_eq_true.1 hc x hx
    unfold okC at ho
    rw [Bool.or_eq_true] at ho
    rw [satC_iff]
    rcases ho with ho | ho
    · obtain ⟨s, v, h1, h2⟩ := (meets_iff x c).1 ho
      have h3 : L g.vals s v = true := hh s v h2
      cases s with
      | true => exact ⟨v, Or.inl ⟨h1, h3⟩⟩
      | false => exact ⟨v, Or.inr ⟨h1, run_uniq hq h h3⟩⟩
    · obtain ⟨v, h1, h2⟩ := (clash_iff x).1 ho
      cases hb : g.vals.1.testBit v with
      | true => exact ⟨v, Or.inl ⟨h1, hb⟩⟩
      | false => exact ⟨v, Or.inr ⟨h2, hb⟩⟩

/-! ### Of proofs that were read -/
theorem qgood_of {F : Form} {q : QS} (h : FQ F q) (hb : QB q) : QGood q :=
  ⟨hb, h.nodup, fun c hc s v hl => by
    rw [← h.order]
    refine h.vars c hc v ?_
    cases s with
    | true => exact Or.inl hl
    | false => exact Or.inr hl⟩
theorem steps_of {F : Form} {q : QS} (h : FQ F q) (hF : FOk F) {l : List UInt8} {kind : Nat} {ss : List Stp} (hr : readQ q l = .inr (kind, litsL ss)) (ht : Tags q kind ss) (hb : SBs ss) :
    Steps2 q kind ss ∧ closedQ (litsL ss) = true ∧ ∃ truth two, provesR F l = .inr (truth, two) ∧ kind = kd truth := by
  unfold readQ at hr
  by_cases hl : 262144 < l.length
  · rw [if_pos hl] at hr; cases hr
  · rw [if_neg hl] at hr
    cases hrows : (cutTo 10 l).1 with
    | nil => rw [hrows] at hr; cases hr
    | cons r0 rs =>
      rw [hrows] at hr
      unfold firstQ at hr
      dsimp only at hr
      by_cases hr0 : r0 = sTrue ∨ r0 = sFalse
      · rw [if_pos hr0] at hr
        have hk : kindOf r0 = kd (r0 == sTrue) := by
          unfold kindOf kd
          by_cases e : r0 = sTrue
          · rw [if_pos e, if_pos (by simpa using e)]
          · rw [if_neg e, if_neg (by simpa using e)]
        unfold goQ at hr
        rw [hk, rowsQ_eq h hF (r0 == sTrue) rs [] 1 (by simp) (by simp) (by simp)] at hr
        cases hrr : rowsR F (r0 == sTrue) [] 1 rs with
        | inr i => rw [hrr] at hr; cases hr
        | inl s2 =>
          rw [hrr] at hr
          dsimp only at hr
          split at hr
          · next hc =>
            injection hr with hr
            injection hr with e1 e2
            subst e2
            have hg := good_rows hF (r0 == sTrue) rs [] 1 _ (by simp) hrr
            have hmem : ∀ s ∈ ss, s.lits ∈ litsL ss := fun s hs => List.mem_map_of_mem hs
            refine ⟨⟨ht, fun s hs => ⟨hb.bits s hs, fun t v hv => ?_⟩, fun s hs v a b => (hg _ (hmem s hs)).apart v a b⟩, hc.2, r0 == sTrue, twoR rs, ?_, e1.symm⟩
            · rw [← h.order]
              refine (hg _ (hmem s hs)).vars v ?_
              cases t with
              | true => exact Or.inl hv
              | false => exact Or.inr hv
            · unfold provesR
              rw [if_neg hl, hrows]
              dsimp only
              rw [if_pos hr0, hrr]
              dsimp only
              rw [if_pos ⟨by simpa using hc.1, hc.2⟩]
          · cases hr
      · rw [if_neg hr0] at hr; cases hr
end Go.Proofs.YtgipjjhkhfihpaaGreatDoor

namespace Go.Proofs.YtgipjjhkhfihpaaGreatDoor
open Go.RowKit

/-! ### Move, Values, Turn -/
def MoveE (bl : BL) (g : GS) (bits : Int) : Nat := if bl.length ≤ g.turn then 7 else if bits < 0 ∨ (2 : Int) ^ (bl.getD g.turn ([], false)).1.length ≤ bits then 6 else 0
def MoveG (rs : List RuleP) (bl : BL) (g : GS) (bits : Int) : GS := if MoveE bl g bits = 0 then moveW rs bl g bits.toNat else g
theorem pow_le8 (k : Nat) (h : k ≤ 8) : (2 : Int) ^ k ≤ 256 := by
  have : ∀ k : Fin 9, (2 : Int) ^ k.val ≤ 256 := by decide
  exact this ⟨k, by omega⟩
theorem wrap_pow8 (k : Nat) (h : k ≤ 8) : wrap64 (2 ^ k) = (2 : Int) ^ k := by
  have h1 := pow_le8 k h
  have h0 : (0 : Int) ≤ (2 : Int) ^ k := by
    have : ∀ k : Fin 9, (0 : Int) ≤ (2 : Int) ^ k.val := by decide
    exact this ⟨k, by omega⟩
  exact IntWalk.wrap64_in _ ⟨by omega, by omega⟩
theorem moveBlk_drop (row : List Nat) (bits k : Nat) (vals : Nat × Nat) (h : k < row.length) : moveBlk (row.drop k) bits k vals = moveBlk (row.drop (k + 1)) bits (k + 1) (setW vals row[k] (bits.testBit k)) := by
  rw [List.drop_eq_getElem_cons h, moveBlk]
set_option maxRecDepth 100000 in
set_option maxHeartbeats 1600000 in
theorem gmove_any (b : Nat) (t : TypeId) (bl : BL) (rs : List RuleP) (g : GS) (gv : GV) (bits : Int) (w : World) (hG : GameAt w b t bl rs g gv) (hR : RBd rs) (hB : BBd bl) (hp : g.vals.1 < 512 ∧ g.vals.2 < 512) (ht : g.turn ≤ bl.length) (hbi : i64ok bits) :
    Calls Tryz.prog 83 #[.pointer (some ⟨b, 0, none⟩), .int .i64 bits] w fun e w' => e = .returned (.int .i64 (MoveE bl g bits : Nat)) ∧ GameAt w' b t bl rs (MoveG rs bl g bits) gv ∧ Only (· = b) w w' := by
  obtain ⟨turn, p, n⟩ := g
  dsimp only at ht hp
  have lb := blk_lt hG.fb
  have hbl := hB.len
  obtain ⟨aB, cB, hBf⟩ := own_form hG.rows.oB
  have c0 : w.cell? ⟨b, 0, none⟩ = some (.slice aB bl.length cB) := by rw [blk_cell hG.fb]; exact congrArg some hBf
  have c2 : w.cell? ⟨b, 2, none⟩ = some (.int .i64 (turn : Int)) := by rw [blk_cell hG.fb]; rfl
  by_cases hl : turn < bl.length
  · have hd1 : decide ((bl.length : Int) ≤ (turn : Int)) = false := decide_eq_false (by omega)
    have hd2 : decide (bl.length ≤ turn) = false := decide_eq_false (by omega)
    have hhl : turn < gv.hdrs.length := by rw [hG.rows.len]; exact hl
    obtain ⟨e0, e1⟩ := blCells_at bl gv.hdrs turn hl hhl
    have hoB := hG.rows.oB
    rw [hBf] at hoB
    obtain ⟨gB, cap, hVe, hg, hg', _, hcell⟩ := own_pos hoB (by omega)
    injection hVe with hVe _ hV2
    subst hVe hV2
    have hx0 := hcell _ _ e0
    have hrow := hG.rows.row turn hl
    obtain ⟨aX, cX, hXf⟩ := own_form hrow
    rw [hXf] at hx0
    clear hcell e0 e1
    go_enter Tryz.func83, Tryz.ntmps83
    go_wp2_with fail
    go_quiet (fail)
    have b1 : Below w.heap.size w (w.drewN nq) := below_drewN (Below.refl _ _) nq
    have hG1 := hG.later b1
    replace hx0 : (w.drewN nq).cell? ⟨gB, turn * 2, none⟩ = _ := (b1.cell (p := ⟨gB, turn * 2, none⟩) hg').trans hx0
    replace c0 : (w.drewN nq).cell? ⟨b, 0, none⟩ = _ := (b1.cell (p := ⟨b, 0, none⟩) lb).trans c0
    replace c2 : (w.drewN nq).cell? ⟨b, 2, none⟩ = _ := (b1.cell (p := ⟨b, 2, none⟩) lb).trans c2
    have hgw : gB < (w.drewN nq).heap.size := Nat.lt_of_lt_of_le hg' b1.size
    generalize w.drewN nq = w1 at *
    have lb1 := blk_lt hG1.fb
    go_wp2_with fail
    go_quiet (fail)
    have b2 : Below w1.heap.size w1 (w1.drewN nq) := below_drewN (Below.refl _ _) nq
    have hG2 := hG1.later b2
    have hb2 : Below w.heap.size w (w1.drewN nq) := b1.trans (b2.mono b1.size)
    generalize w1.drewN nq = w2 at *
    clear hG1 b2 b1 hgw lb1 hx0 c0 c2
    have lb2 := blk_lt hG2.fb
    have hbd := hB.row _ (List.getElem_mem hl)
    obtain ⟨row, hro⟩ : ∃ row, bl[turn].1 = row := ⟨_, rfl⟩
    have hrg : (bl.getD turn ([], false)).1 = row := by rw [← hro]; simp [List.getD, hl]
    have HMG : Hid (MoveE bl ⟨turn, (p, n)⟩ bits = if bits < 0 ∨ (2 : Int) ^ row.length ≤ bits then 6 else 0) := hide (by
      unfold MoveE; rw [if_neg (by show ¬ bl.length ≤ turn; omega)]; rw [← hrg])
    have HMW : Hid (moveW rs bl ⟨turn, (p, n)⟩ bits.toNat = ansW rs bl ⟨turn + 1, moveBlk row bits.toNat 0 (p, n)⟩) := hide (by unfold moveW; rw [← hrg])
    rw [hro] at hbd ⊢
    have HRO := hide hro
    clear hro hrg
    have hlr := hbd.1
    have hw64 : wrap64 (2 ^ row.length) = (2 : Int) ^ row.length := wrap_pow8 row.length hlr
    by_cases h0 : bits < 0
    · have hd3 : decide (bits < 0) = true := decide_eq_true h0
      have HE : Hid (MoveE bl ⟨turn, (p, n)⟩ bits = 6) := hide (by rw [unhide HMG, if_pos (Or.inl h0)])
      have HF : Hid (MoveG rs bl ⟨turn, (p, n)⟩ bits = ⟨turn, (p, n)⟩) := hide (by unfold MoveG; rw [unhide HE]; rfl)
      clear h0
      go_wp2_with fail
      go_ret
      exact ⟨by rw [unhide HE]; rfl, by rw [unhide HF]; exact hG2, Only.of_below hb2⟩
    · have hd3 : decide (bits < 0) = false := decide_eq_false h0
      by_cases h1 : (2 : Int) ^ row.length ≤ bits
      · have hd4 : decide ((2 : Int) ^ row.length ≤ bits) = true := decide_eq_true h1
        have HE : Hid (MoveE bl ⟨turn, (p, n)⟩ bits = 6) := hide (by rw [unhide HMG, if_pos (Or.inr h1)])
        have HF : Hid (MoveG rs bl ⟨turn, (p, n)⟩ bits = ⟨turn, (p, n)⟩) := hide (by unfold MoveG; rw [unhide HE]; rfl)
        clear h0 h1
        go_wp2_with fail
        go_ret
        exact ⟨by rw [unhide HE]; rfl, by rw [unhide HF]; exact hG2, Only.of_below hb2⟩
      · have hd4 : decide ((2 : Int) ^ row.length ≤ bits) = false := decide_eq_false h1
        have HE : Hid (MoveE bl ⟨turn, (p, n)⟩ bits = 0) := hide (by rw [unhide HMG, if_neg (fun h => h.elim h0 h1)])
        have HF : Hid (MoveG rs bl ⟨turn, (p, n)⟩ bits = ansW rs bl ⟨turn + 1, moveBlk row bits.toNat 0 (p, n)⟩) := hide (by unfold MoveG; rw [unhide HE, if_pos rfl, unhide HMW])
        have hp9 : (2 : Int) ^ row.length ≤ 256 := pow_le8 row.length hlr
        obtain ⟨bn, rfl⟩ : ∃ bn : Nat, bits = (bn : Int) := ⟨bits.toNat, by omega⟩
        have hbn : bn < 512 := by omega
        clear h0 h1
        go_wp2_with fail
        clear hw64 hd4 hd3 hp9
        go_loopg [40] (row.length) (fun m i wx => ∃ (k : Nat) (vals : Nat × Nat), i = .int .i64 k ∧ k + m = row.length ∧ (vals.1 < 512 ∧ vals.2 < 512) ∧ moveBlk row bn 0 (p, n) = moveBlk (row.drop k) bn k vals ∧ GameAt wx b t bl rs ⟨turn, vals⟩ gv ∧ Only (· = b) w wx)
        case atStart => exact ⟨0, (p, n), rfl, by omega, hp, rfl, hG2, Only.of_below hb2⟩
        case round =>
          obtain ⟨k, vals, rfl, hk, hv9, hab, hG3, ho3⟩ := hrel
          have HAB := hide hab
          clear hab
          have lb3 := blk_lt hG3.fb
          by_cases hkl : k < row.length
          · have hr3 := hG3.rows.row turn hl
            rw [hXf] at hr3
            have hvv := hbd.2 _ (List.getElem_mem hkl)
            have hlen : bl[turn].1.length = row.length := by rw [unhide HRO]
            obtain ⟨gX, cap, hVe, hgx, hgx', _, hcell⟩ := own_pos hr3 (by omega)
            injection hVe with hVe hV1 hV2
            subst hVe hV2
            have hxk : wr.cell? ⟨gX, k, none⟩ = some (.int .i64 (row[k] : Int)) := hcell _ _ (by rw [unhide HRO]; simp [ints, hkl])
            have HST := hide (moveBlk_drop row bn k vals hkl)
            have hsb := shr_bit_eq bn k hbn (by omega)
            clear hcell hr3
            generalize row[k] = v at *
            generalize htb : bn.testBit k = x at *
            go_wp2_with fail
            refine (set_any b t bl rs ⟨turn, vals⟩ gv v x _ hG3 hv9 hvv.2).mono ?_
            rintro e w5 ⟨rfl, hG5, ho5⟩
            have hv5 := withLit_lt vals (litI v x) hv9.1 hv9.2
            go_wp2_with fail
            go_roundg (gk - 1)
            case measure => omega
            case rel => exact ⟨k + 1, setW vals v x, by go_num, by omega, hv5, by rw [unhide HAB, unhide HST], hG5, ho3.trans ho5⟩
          · have hke : k = row.length := by omega
            have HE2 : Hid (moveBlk row bn 0 (p, n) = vals) := hide (by rw [unhide HAB, hke, List.drop_length]; rfl)
            have d2 : wr.cell? ⟨b, 2, none⟩ = some (.int .i64 (turn : Int)) := by rw [blk_cell hG3.fb]; rfl
            have z2 := blk_free hG3.fb 2
            have hdk : decide ((k : Int) < (row.length : Int)) = false := decide_eq_false (by omega)
            have ho6 : Only (· = b) wr (wr.setCell ⟨b, 2, none⟩ (.int .i64 ((turn : Int) + 1))) := (Only.refl (· = b) wr).setCell (p := ⟨b, 2, none⟩) (Or.inl rfl) _
            have hG6 : GameAt (wr.setCell ⟨b, 2, none⟩ (.int .i64 ((turn : Int) + 1))) b t bl rs ⟨turn + 1, vals⟩ gv := ⟨blk_set hG3.fb 2 _, hG3.tt, hG3.rest ho6⟩
            have ho7 := ho3.trans ho6
            have HG6 := hide hG6
            have HO7 := hide ho7
            clear hG6 ho6 ho7
            go_wp2_with fail
            refine (answer_any b t bl rs ⟨turn + 1, vals⟩ gv _ (unhide HG6) hR hB hv9 (by show turn + 1 ≤ _; omega)).mono ?_
            rintro e w8 ⟨rfl, hG8, ho8⟩
            have HE3 : Hid (MoveG rs bl ⟨turn, (p, n)⟩ (bn : Int) = ansW rs bl ⟨turn + 1, vals⟩) := hide (by rw [unhide HF, Int.toNat_natCast, unhide HE2])
            go_wp2_with fail
            go_ret
            exact ⟨by rw [unhide HE]; rfl, by rw [unhide HE3]; exact hG8, (unhide HO7).trans ho8⟩
  · have hd1 : decide ((bl.length : Int) ≤ (turn : Int)) = true := decide_eq_true (by omega)
    have hd2 : decide (bl.length ≤ turn) = true := decide_eq_true (by omega)
    have HE : Hid (MoveE bl ⟨turn, (p, n)⟩ bits = 7) := hide (by unfold MoveE; rw [if_pos (by show bl.length ≤ turn; omega)])
    have HG : Hid (MoveG rs bl ⟨turn, (p, n)⟩ bits = ⟨turn, (p, n)⟩) := hide (by unfold MoveG; rw [unhide HE]; rfl)
    go_enter Tryz.func83, Tryz.ntmps83
    go_wp2_with fail
    go_quiet (fail)
    have b1 : Below w.heap.size w (w.drewN nq) := below_drewN (Below.refl _ _) nq
    have hG1 := hG.later b1
    generalize w.drewN nq = w1 at *
    go_wp2_with fail
    go_ret
    exact ⟨by rw [unhide HE]; rfl, by rw [unhide HG]; exact hG1, Only.of_below b1⟩
end Go.Proofs.YtgipjjhkhfihpaaGreatDoor

namespace Go.Proofs.YtgipjjhkhfihpaaGreatDoor
open Go.RowKit

/-! ### Values, Turn -/
def valTo (c : Nat × Nat) (k : Nat) : List Value := (List.range 8).map (fun i => Value.int .i64 (if i < k then valV c (i + 1) else 0))
theorem valTo_zero (c : Nat × Nat) : (valTo c 0).toArray = #[.int .i64 0, .int .i64 0, .int .i64 0, .int .i64 0, .int .i64 0, .int .i64 0, .int .i64 0, .int .i64 0] := rfl
theorem valTo_at (c : Nat × Nat) (k i : Nat) (hi : i < 8) : (valTo c k).toArray[i]? = some (.int .i64 (if i < k then valV c (i + 1) else 0)) := by
  unfold valTo; simp [hi]
theorem valTo_set (c : Nat × Nat) (k : Nat) (hk : k < 8) : (valTo c k).toArray.set! k (.int .i64 (valV c (k + 1))) = (valTo c (k + 1)).toArray := by
  apply Array.ext
  · simp [valTo]
  · intro i h1 h2
    have hi : i < 8 := by simpa [valTo] using h2
    have e2 := valTo_at c (k + 1) i hi
    rw [Array.getElem?_eq_getElem h2] at e2
    injection e2 with e2
    rw [e2]
    by_cases e : i = k
    · subst e
      simp [Array.set!]
    · have e1 := valTo_at c k i hi
      rw [Array.getElem?_eq_getElem (by simpa [valTo] using hi)] at e1
      injection e1 with e1
      simp only [Array.set!]
      rw [Array.getElem_setIfInBounds_ne (by simpa [valTo] using hi) (fun h => e h.symm), e1]
      by_cases h : i < k
      · rw [if_pos h, if_pos (by omega)]
      · rw [if_neg h, if_neg (by omega)]
theorem valTo_keep (c : Nat × Nat) (k : Nat) (h0 : valV c (k + 1) = 0) : valTo c k = valTo c (k + 1) := by
  unfold valTo
  apply List.map_congr_left
  intro i _
  by_cases e : i = k
  · subst e; rw [if_neg (by omega), if_pos (by omega), h0]
  · by_cases h : i < k
    · rw [if_pos h, if_pos (by omega)]
    · rw [if_neg h, if_neg (by omega)]
set_option maxRecDepth 100000 in
set_option maxHeartbeats 1600000 in
theorem gvalues_any (b : Nat) (t : TypeId) (bl : BL) (rs : List RuleP) (g : GS) (gv : GV) (w : World) (hG : GameAt w b t bl rs g gv) (hp : g.vals.1 < 512 ∧ g.vals.2 < 512) :
    Calls Tryz.prog 60 #[.pointer (some ⟨b, 0, none⟩)] w fun e w' => ∃ k, e = .returned (.slice (some ⟨k, 0, none⟩) 8 8) ∧ w.heap.size ≤ k ∧ w'.heap[k]? = some (.cells (valTo g.vals 8).toArray 3 (0, 0)) ∧ Below w.heap.size w w' := by
  obtain ⟨turn, p, n⟩ := g
  dsimp only at hp
  have lb := blk_lt hG.fb
  have hmk : ∀ w : World, (Instr.makeSlice 25 (.int .i64 8) (.int .i64 8)).run Tryz.prog w = .ok (.slice (some ⟨w.heap.size, 0, none⟩) 8 8) (w.alloc (.cells #[.int .i64 0, .int .i64 0, .int .i64 0, .int .i64 0, .int .i64 0, .int .i64 0, .int .i64 0, .int .i64 0] 3)) := fun _ => by kernel_rfl
  go_enter Tryz.func60, Tryz.ntmps60
  go_wp2_with fail
  clear hmk
  go_loopg [8] 8 (fun m i wx => ∃ (k : Nat), i = .int .i64 k ∧ k + m = 8 ∧ Below w.heap.size w wx ∧ wx.heap[w.heap.size]? = some (.cells (valTo (p, n) k).toArray 3 (0, 0)))
  case atStart => exact ⟨0, rfl, by omega, (Below.refl _ _).alloc (Nat.le_refl _) _, by rw [valTo_zero]; exact heap_alloc_new _ _⟩
  case round =>
    obtain ⟨k, rfl, hk, hb, hblk⟩ := hrel
    have hGr := hG.later hb
    have lbr := blk_lt hGr.fb
    have lk := blk_lt hblk
    by_cases hlt : k < 8
    · have HV : Hid (valV (p, n) (k + 1) = if hasLit (p, n) (-(k : Int) - 1) then -1 else if hasLit (p, n) ((k : Int) + 1) then 1 else 0) := hide (by
        unfold valV
        rw [← hasLit_L (p, n) (k + 1) false (by omega) (by omega), ← hasLit_L (p, n) (k + 1) true (by omega) (by omega)]
        rw [show litI (k + 1) false = -(k : Int) - 1 from by unfold litI; simp; omega, show litI (k + 1) true = (k : Int) + 1 from by unfold litI; simp])
      have m3 : wr.cell? ⟨b, 3, none⟩ = some (.int .i64 (p : Int)) := by rw [blk_cell hGr.fb]; rfl
      have m4 : wr.cell? ⟨b, 4, none⟩ = some (.int .i64 (n : Int)) := by rw [blk_cell hGr.fb]; rfl
      have hd : decide ((k : Int) < 8) = true := decide_eq_true (by omega)
      have hwn : IntKind.i64.wrap (-(k : Int)) = -(k : Int) := wrap_neg_small' k (by omega)
      go_wp2_with fail
      refine (has_any p n ((k : Int) + 1) _ hp.1 hp.2 (by omega) (by omega)).mono ?_
      rintro e w1 ⟨rfl, hb1⟩
      have hG1 := hGr.later hb1
      have hblk1 := (hb1.block _ lk).trans hblk
      have hB1 := hb.trans (hb1.mono hb.size)
      have lb1 := blk_lt hG1.fb
      have l1 := blk_lt hblk1
      have n3 : w1.cell? ⟨b, 3, none⟩ = some (.int .i64 (p : Int)) := by rw [blk_cell hG1.fb]; rfl
      have n4 : w1.cell? ⟨b, 4, none⟩ = some (.int .i64 (n : Int)) := by rw [blk_cell hG1.fb]; rfl
      have j0 : w1.cell? ⟨w.heap.size, k, none⟩ = some (.int .i64 0) := by rw [blk_cell hblk1, valTo_at _ _ _ hlt, if_neg (by omega)]
      have z0 := blk_free hblk1 k
      have hne : b ≠ w.heap.size := by omega
      cases h1 : hasLit (p, n) ((k : Int) + 1) with
      | true =>
        have hblk2 := blk_set hblk1 k (.int .i64 1)
        have hB2 := hB1.setCell (p := ⟨w.heap.size, k, none⟩) (Nat.le_refl _) (.int .i64 1)
        have hfb2 : (w1.setCell ⟨w.heap.size, k, none⟩ (.int .i64 1)).heap[b]? = _ := (Below.heap_setCell _ _ _ _ hne).trans hG1.fb
        have q3 : (w1.setCell ⟨w.heap.size, k, none⟩ (.int .i64 1)).cell? ⟨b, 3, none⟩ = some (.int .i64 (p : Int)) := by rw [blk_cell hfb2]; rfl
        have q4 : (w1.setCell ⟨w.heap.size, k, none⟩ (.int .i64 1)).cell? ⟨b, 4, none⟩ = some (.int .i64 (n : Int)) := by rw [blk_cell hfb2]; rfl
        have lb2 := blk_lt hfb2
        go_wp2_with fail
        refine (has_any p n (-(k : Int) - 1) _ hp.1 hp.2 (by omega) (by omega)).mono ?_
        rintro e w3 ⟨rfl, hb3⟩
        have hblk3 := (hb3.block _ (blk_lt hblk2)).trans hblk2
        have hB3 := hB2.trans (hb3.mono hB2.size)
        have l3 := blk_lt hblk3
        have i0 : w3.cell? ⟨w.heap.size, k, none⟩ = some (.int .i64 1) := by rw [blk_cell hblk3, Array.getElem?_setIfInBounds_self_of_lt (by simp [valTo]; omega)]
        have z3 := blk_free hblk3 k
        cases h2 : hasLit (p, n) (-(k : Int) - 1) with
        | true =>
          have HX : Hid (valV (p, n) (k + 1) = -1) := hide (by rw [unhide HV, h2]; rfl)
          have HB4 := hide (blk_set hblk3 k (.int .i64 (-1)))
          have HBB := hide (hB3.setCell (p := ⟨w.heap.size, k, none⟩) (Nat.le_refl _) (.int .i64 (-1)))
          go_wp2_with fail
          go_roundg (gk - 1)
          case measure => omega
          case rel => exact ⟨k + 1, by go_num, by omega, unhide HBB, by rw [← valTo_set _ _ hlt, unhide HX]; have h := unhide HB4; rw [show ((valTo (p, n) k).toArray.setIfInBounds k (Value.int .i64 1)).setIfInBounds k (Value.int .i64 (-1)) = (valTo (p, n) k).toArray.setIfInBounds k (Value.int .i64 (-1)) from by simp] at h; exact h⟩
        | false =>
          have HX : Hid (valV (p, n) (k + 1) = 1) := hide (by rw [unhide HV, h2, h1]; rfl)
          go_wp2_with fail
          go_roundg (gk - 1)
          case measure => omega
          case rel => exact ⟨k + 1, by go_num, by omega, hB3, by rw [← valTo_set _ _ hlt, unhide HX]; exact hblk3⟩
      | false =>
        go_wp2_with fail
        refine (has_any p n (-(k : Int) - 1) _ hp.1 hp.2 (by omega) (by omega)).mono ?_
        rintro e w3 ⟨rfl, hb3⟩
        have hblk3 := (hb3.block _ (blk_lt hblk1)).trans hblk1
        have hB3 := hB1.trans (hb3.mono hB1.size)
        have l3 := blk_lt hblk3
        have i0 : w3.cell? ⟨w.heap.size, k, none⟩ = some (.int .i64 0) := by rw [blk_cell hblk3, valTo_at _ _ _ hlt, if_neg (by omega)]
        have z3 := blk_free hblk3 k
        cases h2 : hasLit (p, n) (-(k : Int) - 1) with
        | true =>
          have HX : Hid (valV (p, n) (k + 1) = -1) := hide (by rw [unhide HV, h2]; rfl)
          have HB4 := hide (blk_set hblk3 k (.int .i64 (-1)))
          have HBB := hide (hB3.setCell (p := ⟨w.heap.size, k, none⟩) (Nat.le_refl _) (.int .i64 (-1)))
          go_wp2_with fail
          go_roundg (gk - 1)
          case measure => omega
          case rel => exact ⟨k + 1, by go_num, by omega, unhide HBB, by rw [← valTo_set _ _ hlt, unhide HX]; have h := unhide HB4; exact h⟩
        | false =>
          have HX : Hid (valV (p, n) (k + 1) = 0) := hide (by rw [unhide HV, h2, h1]; rfl)
          go_wp2_with fail
          go_roundg (gk - 1)
          case measure => omega
          case rel => exact ⟨k + 1, by go_num, by omega, hB3, by rw [← valTo_keep _ _ (unhide HX)]; exact hblk3⟩
    · have hk8 : k = 8 := by omega
      subst hk8
      go_wp2_with fail
      go_ret
      exact ⟨_, rfl, Nat.le_refl _, hblk, hb⟩
set_option maxRecDepth 100000 in
set_option maxHeartbeats 1600000 in
theorem gturn_any (b : Nat) (t : TypeId) (bl : BL) (rs : List RuleP) (g : GS) (gv : GV) (w : World) (hG : GameAt w b t bl rs g gv) :
    Calls Tryz.prog 59 #[.pointer (some ⟨b, 0, none⟩)] w fun e w' => e = .returned (.int .i64 (g.turn : Int)) ∧ w' = w := by
  have lb := blk_lt hG.fb
  have c2 : w.cell? ⟨b, 2, none⟩ = some (.int .i64 (g.turn : Int)) := by rw [blk_cell hG.fb]; rfl
  go_enter Tryz.func59, Tryz.ntmps59
  go_wp2_with fail
  go_ret
  exact ⟨rfl, rfl⟩
end Go.Proofs.YtgipjjhkhfihpaaGreatDoor

namespace Go.Proofs.YtgipjjhkhfihpaaGreatDoor
open Go.RowKit

/-! ### wins -/
set_option maxRecDepth 100000 in
set_option maxHeartbeats 1600000 in
theorem wins_any (q : QS) (aV aC aS : Option Addr) (cV nC cC nS cS kind : Nat) (row : List Nat) (vX : Value) (w : World) (hV : w.ownsRow 0 139 2 (.slice aV q.vars.length cV) q.vars.length (varCells q.vars)) (hl : q.vars.length ≤ 8) (hk : kind = 1 ∨ kind = 2)
    (hX : w.ownsRow 0 3 1 vX row.length (ints row)) (hr : row.length ≤ 8) :
    Calls Tryz.prog 50 #[.agg #[.slice aV q.vars.length cV, .slice aC nC cC], .agg #[.int .i64 (kind : Int), .slice aS nS cS], vX] w fun e w' => e = .returned (.bool (winsW q kind row)) ∧ Below w.heap.size w w' := by
  obtain ⟨aX, cX, rfl⟩ := own_form hX
  cases row with
  | nil =>
    go_enter Tryz.func50, Tryz.ntmps50
    go_wp2_with fail
    go_ret
    exact ⟨rfl, ((Below.refl _ _).alloc (Nat.le_refl _) _).alloc (by simp) _⟩
  | cons v r =>
    have HW : Hid (winsW q kind (v :: r) = (((findV q.vars v).getD (0, false)).2 == (kind == 1))) := hide (by
      show (uniQ q v == _) = _
      unfold uniQ
      cases findV q.vars v <;> rfl)
    obtain ⟨g, cap, hVe, hg, hg', _, hcell⟩ := own_pos hX (by simp)
    injection hVe with hVe _ hV2
    subst hVe hV2
    have hx0 : w.cell? ⟨g, 0, none⟩ = some (.int .i64 (v : Int)) := hcell 0 _ rfl
    clear hcell
    have hne0 : (((r.length + 1 : Nat) : Int) == 0) = false := by rw [beq_eq_false_iff_ne]; omega
    go_enter Tryz.func50, Tryz.ntmps50
    go_wp2_with fail
    generalize hw0 : ((w.alloc (.cells #[.slice aV q.vars.length cV, .slice aC nC cC] 60)).alloc (.cells #[.int .i64 (kind : Int), .slice aS nS cS] 67)) = u1
    have hB : Below w.heap.size w u1 := by rw [← hw0]; exact ((Below.refl _ _).alloc (Nat.le_refl _) _).alloc (by simp) _
    have hf : u1.heap[w.heap.size]? = some (.cells #[.slice aV q.vars.length cV, .slice aC nC cC] 60 (0, 0)) := by rw [← hw0, heap_alloc_old _ _ (by simp)]; exact heap_alloc_new _ _
    have hpr : u1.heap[w.heap.size + 1]? = some (.cells #[.int .i64 (kind : Int), .slice aS nS cS] 67 (0, 0)) := by rw [← hw0]; exact alloc_new_at (by simp)
    clear hw0
    refine (find_any 0 w.heap.size q.vars _ v _ (by rw [blk_cell hf]; rfl) (own_below hV hB) (by omega)).mono ?_
    rintro e u2 ⟨hb2, rfl⟩
    have hB2 := hB.trans (hb2.mono hB.size)
    have hpr2 := (hb2.block _ (blk_lt hpr)).trans hpr
    generalize (findV q.vars v).getD (0, false) = x at *
    generalize (findV q.vars v).isSome = ok at *
    obtain ⟨x1, x2⟩ := x
    have hA : Below u2.heap.size u2 (u2.alloc (.cells #[.int .i64 (x1 : Int), .bool x2] 139)) := (Below.refl _ _).alloc (Nat.le_refl _) _
    have hB3 := hB2.trans (hA.mono hB2.size)
    have hv3 := heap_alloc_new u2 (.cells #[.int .i64 (x1 : Int), .bool x2] 139)
    have hpr3 := (hA.block _ (blk_lt hpr2)).trans hpr2
    have p0 : (u2.alloc (.cells #[.int .i64 (x1 : Int), .bool x2] 139)).cell? ⟨w.heap.size + 1, 0, none⟩ = some (.int .i64 (kind : Int)) := by rw [blk_cell hpr3]; rfl
    have lp := blk_lt hpr3
    rcases hk with rfl | rfl <;> cases x2
    all_goals
      go_wp2_with fail
      go_ret
      exact ⟨by rw [unhide HW]; rfl, hB3⟩
end Go.Proofs.YtgipjjhkhfihpaaGreatDoor

namespace Go.Proofs.YtgipjjhkhfihpaaGreatDoor
open Go.RowKit

/-- A call of a function as one step of a region that draws. -/
theorem step_call {P : Program} {ops : Array Oper} {o : Oper} {a : Act} {w : World} {K : Act → World → Prop} {Q : Exit → Act → World → Prop} {E : Prop}
    (hg : o.guard = none) (f : FuncId) (xs : Array Operand) (ts : Array TypeId) (hop : o.op = Op.call { callee := Callee.value (Operand.func f), args := xs, argTypes := ts })
    (args : Array Value) (hargs : xs.map a.eval = args) (hcf : ∀ w, (callFunc f args).run P w = .ok (.enter f args) w) (h : Calls P f args w (fun e w' => ∃ v, e = .returned v ∧ K (a.put o.dst v) w')) :
    if Region.wanted o (yielded ops a.tmps) = true then Oper.wp P o a w K Q else E := by
  have hw : Region.wanted o (yielded ops a.tmps) = true := by simp [Region.wanted, hg]
  rw [if_pos hw]
  unfold Oper.wp
  have he : (execOp a.eval o).run P w = .ok (.enter f args) w := by
    unfold execOp
    rw [hop]
    subst hargs
    simp [go_sem]
    exact hcf w
  rw [he, Oper.upon_enter]
  refine h.mono ?_
  rintro e w' ⟨v, rfl, hk⟩
  exact hk
theorem callWins (args : Array Value) (w : World) : (callFunc 50 args).run Tryz.prog w = .ok (.enter 50 args) w := by kernel_rfl
end Go.Proofs.YtgipjjhkhfihpaaGreatDoor

namespace Go.Proofs.YtgipjjhkhfihpaaGreatDoor
open Go.RowKit

/-! ### rulesOf -/
theorem callWithout (args : Array Value) (w : World) : (callFunc 75 args).run Tryz.prog w = .ok (.enter 75 args) w := by kernel_rfl
theorem callTurned (args : Array Value) (w : World) : (callFunc 76 args).run Tryz.prog w = .ok (.enter 76 args) w := by kernel_rfl
theorem infoRule : (Tryz.prog.info? 149).map (fun i => (i.zero, i.size, i.bytes)) = some (some (.agg #[.int .i64 0, .int .i64 0, .int .i64 0, .int .i64 0]), 4, 32) := by kernel_rfl
theorem infoBlock : (Tryz.prog.info? 111).map (fun i => (i.zero, i.size, i.bytes)) = some (some (.agg #[.slice none 0 0, .bool false]), 2, 32) := by kernel_rfl
def rulesTo (kind : Nat) (p : List Stp) (k : Nat) : List RuleP := ((p.take k).filter (fun s => s.rule == 4)).map (ruleW kind p)
theorem rulesTo_succ (kind : Nat) (p : List Stp) (k : Nat) (h : k < p.length) : rulesTo kind p (k + 1) = rulesTo kind p k ++ (if p[k].rule == 4 then [ruleW kind p p[k]] else []) := by
  unfold rulesTo
  rw [List.take_succ_eq_append_getElem h, List.filter_append, List.map_append, List.filter_cons]
  congr 1
  split <;> rfl
theorem rulesTo_len (kind : Nat) (p : List Stp) (k : Nat) : (rulesTo kind p k).length ≤ k := by
  unfold rulesTo
  rw [List.length_map]
  exact Nat.le_trans (List.length_filter_le _ _) (by simp; omega)
theorem ruleCells_snoc (l : List RuleP) (r : RuleP) : ruleCells (l ++ [r]) = ruleCells l ++ [Value.int .i64 (r.1.1 : Int), Value.int .i64 (r.1.2 : Int), Value.int .i64 (r.2.1 : Int), Value.int .i64 (r.2.2 : Int)] := by simp [ruleCells]
def RulesPost (kind : Nat) (ss : List Stp) (w : World) (e : Ending) (w' : World) : Prop := ∃ vR, e = .returned vR ∧ w'.ownsRow w.heap.size 149 4 vR (rulesW kind ss).length (ruleCells (rulesW kind ss)) ∧ Below w.heap.size w w'
set_option maxRecDepth 100000 in
set_option maxHeartbeats 3200000 in
theorem rulesOf_any (ss : List Stp) (aS : Option Addr) (cS kind : Nat) (w : World) (hS : w.ownsRow 0 134 6 (.slice aS ss.length cS) ss.length (psCells ss)) (hSB : SBs ss) (hk : kind = 1 ∨ kind = 2) :
    Calls Tryz.prog 48 #[.agg #[.int .i64 (kind : Int), .slice aS ss.length cS]] w fun e w' => RulesPost kind ss w e w' := by
  obtain ⟨i1, hi1, hz10, hz11, hz12⟩ := info_parts infoRule
  have hsl := hSB.len
  go_enter Tryz.func48, Tryz.ntmps48
  go_wp2_with fail
  go_loopg [3, 11] (ss.length) (fun m vl i wx => ∃ (k : Nat), i = .int .i64 k ∧ k + m = ss.length ∧ wx.ownsRow (w.heap.size + 1) 149 4 vl (rulesTo kind ss k).length (ruleCells (rulesTo kind ss k)) ∧ Below w.heap.size w wx ∧ wx.heap[w.heap.size]? = some (.cells #[.int .i64 (kind : Int), .slice aS ss.length cS] 67 (0, 0)))
  case atStart => exact ⟨0, rfl, by omega, World.ownsRow_nil _ _ _ _, (Below.refl _ _).alloc (Nat.le_refl _) _, heap_alloc_new _ _⟩
  case round =>
    obtain ⟨k, rfl, hkm, hown, hb, hpb⟩ := hrel
    have lp := blk_lt hpb
    have hln := rulesTo_len kind ss k
    obtain ⟨aL, cL, rfl⟩ := own_form hown
    by_cases hlt : k < ss.length
    · have HRS := hide (rulesTo_succ kind ss k hlt)
      have hsb := hSB.bits _ (List.getElem_mem hlt)
      obtain ⟨g, cap, hVe, hg, hg', _, hcell⟩ := own_pos hS (by omega)
      injection hVe with hVe _ hV2
      subst hVe hV2
      have hc : ∀ j (hj : j < 6) u, [Value.int .i64 (ss[k].rule : Int), Value.int .i64 (ss[k].first : Int), Value.int .i64 (ss[k].second : Int), Value.int .i64 (ss[k].var : Int), Value.int .i64 (ss[k].lits.1 : Int), Value.int .i64 (ss[k].lits.2 : Int)][j]? = some u → wr.cell? ⟨g, k * 6 + j, none⟩ = some u := fun j hj u hu => by
        rw [hb.cell (p := ⟨g, k * 6 + j, none⟩) hg']
        exact hcell _ _ (by rw [psCells_at ss k j hlt hj]; exact hu)
      have hx0 : wr.cell? ⟨g, k * 6, none⟩ = some (.int .i64 (ss[k].rule : Int)) := hc 0 (by omega) _ rfl
      have hx1 : wr.cell? ⟨g, k * 6 + 1, none⟩ = some (.int .i64 (ss[k].first : Int)) := hc 1 (by omega) _ rfl
      have hx2 : wr.cell? ⟨g, k * 6 + 2, none⟩ = some (.int .i64 (ss[k].second : Int)) := hc 2 (by omega) _ rfl
      have hx3 : wr.cell? ⟨g, k * 6 + 3, none⟩ = some (.int .i64 (ss[k].var : Int)) := hc 3 (by omega) _ rfl
      have hx4 : wr.cell? ⟨g, k * 6 + 4, none⟩ = some (.int .i64 (ss[k].lits.1 : Int)) := hc 4 (by omega) _ rfl
      have hx5 : wr.cell? ⟨g, k * 6 + 5, none⟩ = some (.int .i64 (ss[k].lits.2 : Int)) := hc 5 (by omega) _ rfl
      have hgw : g < wr.heap.size := Nat.lt_of_lt_of_le hg' hb.size
      clear hc hcell
      have HRW : Hid (∀ s, ss[k] = s → ruleW kind ss ss[k] = if kind = 1 then (swapL s.lits, swapL (minus (litsAt ss s.first) s.lits)) else (s.lits, minus (litsAt ss s.first) s.lits)) := hide (fun s e => by rw [e]; rfl)
      generalize hsk : ss[k] = st at *
      have HSK := hide hsk
      clear hsk
      obtain ⟨sr, sf, s2, sv, sl1, sl2⟩ := st
      dsimp only at *
      have hA : Below wr.heap.size wr (wr.alloc (.cells #[.int .i64 (sr : Int), .int .i64 (sf : Int), .int .i64 (s2 : Int), .int .i64 (sv : Int), .int .i64 (sl1 : Int), .int .i64 (sl2 : Int)] 134)) := (Below.refl _ _).alloc (Nat.le_refl _) _
      have hst := heap_alloc_new wr (.cells #[.int .i64 (sr : Int), .int .i64 (sf : Int), .int .i64 (s2 : Int), .int .i64 (sv : Int), .int .i64 (sl1 : Int), .int .i64 (sl2 : Int)] 134)
      have hpa := (hA.block _ lp).trans hpb
      have hBa := hb.trans (hA.mono hb.size)
      have howna := own_below hown hA
      by_cases hr4 : sr = 4
      · subst hr4
        have HRN : Hid (rulesTo kind ss (k + 1) = rulesTo kind ss k ++ [if kind = 1 then (swapL (sl1, sl2), swapL (minus (litsAt ss sf) (sl1, sl2))) else ((sl1, sl2), minus (litsAt ss sf) (sl1, sl2))]) := hide (by rw [unhide HRS, unhide HRW _ rfl]; rfl)
        clear HRS HRW
        -- WALK
        go_wp2_with fail
        generalize wr.alloc (.cells #[.int .i64 4, .int .i64 (sf : Int), .int .i64 (s2 : Int), .int .i64 (sv : Int), .int .i64 (sl1 : Int), .int .i64 (sl2 : Int)] 134) = wz at *
        have hB := hBa
        have cst0 : wz.cell? ⟨wr.heap.size, 0, none⟩ = some (.int .i64 4) := by rw [blk_cell hst]; rfl
        have cst1 : wz.cell? ⟨wr.heap.size, 1, none⟩ = some (.int .i64 (sf : Int)) := by rw [blk_cell hst]; rfl
        have cst2 : wz.cell? ⟨wr.heap.size, 2, none⟩ = some (.int .i64 (s2 : Int)) := by rw [blk_cell hst]; rfl
        have cst3 : wz.cell? ⟨wr.heap.size, 3, none⟩ = some (.int .i64 (sv : Int)) := by rw [blk_cell hst]; rfl
        have cst4 : wz.cell? ⟨wr.heap.size, 4, none⟩ = some (.int .i64 (sl1 : Int)) := by rw [blk_cell hst]; rfl
        have cst5 : wz.cell? ⟨wr.heap.size, 5, none⟩ = some (.int .i64 (sl2 : Int)) := by rw [blk_cell hst]; rfl
        have lst := blk_lt hst
        have cpa0 : wz.cell? ⟨w.heap.size, 0, none⟩ = some (.int .i64 (kind : Int)) := by rw [blk_cell hpa]; rfl
        have cpa1 : wz.cell? ⟨w.heap.size, 1, none⟩ = some (.slice (some ⟨g, 0, none⟩) ss.length cS) := by rw [blk_cell hpa]; rfl
        have lpa := blk_lt hpa
        refine (plits_any 0 w.heap.size 0 ss _ sf _ (by rw [blk_cell hpa]; rfl) (own_below hS hB) (by omega)).mono ?_
        rintro e u1 ⟨rfl, b1⟩
        replace hB := hB.trans (b1.mono hB.size)
        replace hst := (b1.block _ (blk_lt hst)).trans hst
        replace cst0 : u1.cell? ⟨wr.heap.size, 0, none⟩ = some (.int .i64 4) := by rw [blk_cell hst]; rfl
        replace cst1 : u1.cell? ⟨wr.heap.size, 1, none⟩ = some (.int .i64 (sf : Int)) := by rw [blk_cell hst]; rfl
        replace cst2 : u1.cell? ⟨wr.heap.size, 2, none⟩ = some (.int .i64 (s2 : Int)) := by rw [blk_cell hst]; rfl
        replace cst3 : u1.cell? ⟨wr.heap.size, 3, none⟩ = some (.int .i64 (sv : Int)) := by rw [blk_cell hst]; rfl
        replace cst4 : u1.cell? ⟨wr.heap.size, 4, none⟩ = some (.int .i64 (sl1 : Int)) := by rw [blk_cell hst]; rfl
        replace cst5 : u1.cell? ⟨wr.heap.size, 5, none⟩ = some (.int .i64 (sl2 : Int)) := by rw [blk_cell hst]; rfl
        replace lst := blk_lt hst
        replace hpa := (b1.block _ (blk_lt hpa)).trans hpa
        replace cpa0 : u1.cell? ⟨w.heap.size, 0, none⟩ = some (.int .i64 (kind : Int)) := by rw [blk_cell hpa]; rfl
        replace cpa1 : u1.cell? ⟨w.heap.size, 1, none⟩ = some (.slice (some ⟨g, 0, none⟩) ss.length cS) := by rw [blk_cell hpa]; rfl
        replace lpa := blk_lt hpa
        replace howna := own_below howna b1
        have hla := litsAt_lt ss hSB.bits sf
        generalize litsAt ss sf = c at *
        obtain ⟨c1, c2⟩ := c
        dsimp only at hla
        go_wp2_with fail
        generalize hw0 : u1.alloc (.cells #[.int .i64 (c1 : Int), .int .i64 (c2 : Int)] 74) = u2
        have b2 : Below u1.heap.size u1 u2 := by rw [← hw0]; exact (Below.refl _ _).alloc (Nat.le_refl _) _
        have hwh : u2.heap[u1.heap.size]? = some (.cells #[.int .i64 (c1 : Int), .int .i64 (c2 : Int)] 74 (0, 0)) := by rw [← hw0]; exact heap_alloc_new _ _
        clear hw0
        replace hB := hB.trans (b2.mono hB.size)
        replace hst := (b2.block _ (blk_lt hst)).trans hst
        replace cst0 : u2.cell? ⟨wr.heap.size, 0, none⟩ = some (.int .i64 4) := by rw [blk_cell hst]; rfl
        replace cst1 : u2.cell? ⟨wr.heap.size, 1, none⟩ = some (.int .i64 (sf : Int)) := by rw [blk_cell hst]; rfl
        replace cst2 : u2.cell? ⟨wr.heap.size, 2, none⟩ = some (.int .i64 (s2 : Int)) := by rw [blk_cell hst]; rfl
        replace cst3 : u2.cell? ⟨wr.heap.size, 3, none⟩ = some (.int .i64 (sv : Int)) := by rw [blk_cell hst]; rfl
        replace cst4 : u2.cell? ⟨wr.heap.size, 4, none⟩ = some (.int .i64 (sl1 : Int)) := by rw [blk_cell hst]; rfl
        replace cst5 : u2.cell? ⟨wr.heap.size, 5, none⟩ = some (.int .i64 (sl2 : Int)) := by rw [blk_cell hst]; rfl
        replace lst := blk_lt hst
        replace hpa := (b2.block _ (blk_lt hpa)).trans hpa
        replace cpa0 : u2.cell? ⟨w.heap.size, 0, none⟩ = some (.int .i64 (kind : Int)) := by rw [blk_cell hpa]; rfl
        replace cpa1 : u2.cell? ⟨w.heap.size, 1, none⟩ = some (.slice (some ⟨g, 0, none⟩) ss.length cS) := by rw [blk_cell hpa]; rfl
        replace lpa := blk_lt hpa
        replace howna := own_below howna b2
        have cwh0 : u2.cell? ⟨u1.heap.size, 0, none⟩ = some (.int .i64 (c1 : Int)) := by rw [blk_cell hwh]; rfl
        have cwh1 : u2.cell? ⟨u1.heap.size, 1, none⟩ = some (.int .i64 (c2 : Int)) := by rw [blk_cell hwh]; rfl
        have lwh := blk_lt hwh
        have hm := minus_lt (c1, c2) (sl1, sl2) hla
        obtain ⟨wo, rfl⟩ : ∃ wo, wo = wr := ⟨_, rfl⟩
        go_cut [7] (fun s7 wx => ∃ lr, s7 = .pointer (some ⟨lr, 0, none⟩) ∧ u2.heap.size ≤ lr ∧ Below u2.heap.size u2 wx ∧ wx.heap[lr]? = some (.cells #[.int .i64 (sl1 : Int), .int .i64 (sl2 : Int), .int .i64 ((minus (c1, c2) (sl1, sl2)).1 : Int), .int .i64 ((minus (c1, c2) (sl1, sl2)).2 : Int)] 149 (0, 0)))
        case first =>
          clear hx0 hx1 hx2 hx3 hx4 hx5 hg hg' hgw hS hi1 hz10 hz11 hz12 hsl hln hown howna hb hpb lp hA hBa hB hpa cpa0 cpa1 lpa HSK HRN hkm b1 b2
          go_region_law (refine step_call rfl 75 _ _ rfl #[SetV (c1, c2), SetV (sl1, sl2)] (by simp [Act.eval]) (callWithout _) ?_; refine (lwithout_any c1 c2 sl1 sl2 _ hla.1 hla.2 hsb.1 hsb.2).mono ?_; rintro e v1 ⟨rfl, y1⟩; refine ⟨_, rfl, ?_⟩; have x1 : Below u2.heap.size u2 v1 := Below.trans (by first | exact Below.refl _ _ | exact (Below.refl _ _).drew | exact (Below.refl _ _).alloc (Nat.le_refl _) _ | exact ((Below.refl _ _).alloc (Nat.le_refl _) _).drew | exact ((Below.refl _ _).drew).alloc (Nat.le_refl _) _) (y1.mono (by simp)); have hst1 := (x1.block _ (blk_lt hst)).trans hst; have lst1 := blk_lt hst1; have e4 : v1.cell? ⟨wo.heap.size, 4, none⟩ = some (.int .i64 (sl1 : Int)) := (by rw [blk_cell hst1]; rfl); have e5 : v1.cell? ⟨wo.heap.size, 5, none⟩ = some (.int .i64 (sl2 : Int)) := (by rw [blk_cell hst1]; rfl); (try (have hq : v1.heap[u2.heap.size]? = some (.cells #[.int .i64 0, .int .i64 0, .int .i64 0, .int .i64 0] 149 (0, 0)) := (by first | exact (y1.block u2.heap.size (by simp)).trans (heap_alloc_new u2 _) | exact (y1.block u2.heap.size (by simp)).trans (heap_alloc_new u2.drew _)); have lq := blk_lt hq; have q0 : v1.cell? ⟨u2.heap.size, 0, none⟩ = some (.int .i64 0) := (by rw [blk_cell hq]; rfl); have q1 : v1.cell? ⟨u2.heap.size, 1, none⟩ = some (.int .i64 0) := (by rw [blk_cell hq]; rfl); have q2 : v1.cell? ⟨u2.heap.size, 2, none⟩ = some (.int .i64 0) := (by rw [blk_cell hq]; rfl); have q3 : v1.cell? ⟨u2.heap.size, 3, none⟩ = some (.int .i64 0) := (by rw [blk_cell hq]; rfl); have z0 := blk_free hq 0; have z1 := blk_free hq 1; have z2 := blk_free hq 2; have z3 := blk_free hq 3)))
          all_goals
            go_wp2_with fail
            go_meet
            first
              | exact ⟨_, rfl, x1.size, x1.alloc x1.size _, heap_alloc_new _ _⟩
              | exact ⟨_, rfl, Nat.le_refl _, (((x1.setCell (p := ⟨u2.heap.size, 0, none⟩) (Nat.le_refl _) _).setCell (p := ⟨u2.heap.size, 1, none⟩) (Nat.le_refl _) _).setCell (p := ⟨u2.heap.size, 2, none⟩) (Nat.le_refl _) _).setCell (p := ⟨u2.heap.size, 3, none⟩) (Nat.le_refl _) _, blk_set (blk_set (blk_set (blk_set hq 0 _) 1 _) 2 _) 3 _⟩
        case rest =>
        obtain ⟨lr, rfl, hlr, hbc, hr⟩ := hcut
        have hpc := (hbc.block _ (blk_lt hpa)).trans hpa
        have pc0 : wc.cell? ⟨w.heap.size, 0, none⟩ = some (.int .i64 (kind : Int)) := by rw [blk_cell hpc]; rfl
        have lpc := blk_lt hpc
        generalize minus (c1, c2) (sl1, sl2) = cm at *
        obtain ⟨d1, d2⟩ := cm
        dsimp only at hm hr
        have howlt : w.heap.size < u2.heap.size := lpa
        rcases hk with rfl | rfl
        · have HRN2 : Hid (rulesTo 1 ss (k + 1) = rulesTo 1 ss k ++ [((sl2, sl1), (d2, d1))]) := hide (by rw [unhide HRN, if_pos rfl]; rfl)
          have r0 : wc.cell? ⟨lr, 0, none⟩ = some (.int .i64 (sl1 : Int)) := by rw [blk_cell hr]; rfl
          have r1 : wc.cell? ⟨lr, 1, none⟩ = some (.int .i64 (sl2 : Int)) := by rw [blk_cell hr]; rfl
          have r2 : wc.cell? ⟨lr, 2, none⟩ = some (.int .i64 (d1 : Int)) := by rw [blk_cell hr]; rfl
          have r3 : wc.cell? ⟨lr, 3, none⟩ = some (.int .i64 (d2 : Int)) := by rw [blk_cell hr]; rfl
          have lrr := blk_lt hr
          clear HRN
          obtain ⟨wq, rfl⟩ : ∃ x, x = wc := ⟨_, rfl⟩
          go_upto_region 20 with fail
          go_cut [] (fun wx => Below u2.heap.size u2 wx ∧ wx.heap[lr]? = some (.cells #[.int .i64 (sl2 : Int), .int .i64 (sl1 : Int), .int .i64 (d2 : Int), .int .i64 (d1 : Int)] 149 (0, 0)))
          case first =>
            clear hx0 hx1 hx2 hx3 hx4 hx5 hg hg' hgw hS hi1 hz10 hz11 hz12 hsl hln hown howna hb hpb lp hA hBa hB hpa cpa0 cpa1 lpa HSK hkm b1 b2 HRN2
            go_region_law (first | (refine step_call rfl 76 _ _ rfl #[SetV (sl1, sl2)] (by simp [Act.eval]) (callTurned _) ?_; refine (turned_any sl1 sl2 _).mono ?_; rintro e v1 ⟨rfl, y1⟩; refine ⟨_, rfl, ?_⟩; have x1 : Below wq.heap.size wq v1 := Below.trans (by first | exact Below.refl _ _ | exact (Below.refl _ _).drew) (y1.mono (by simp)); have hr_v1 := (x1.block _ lrr).trans hr; have l_v1 := blk_lt hr_v1; have v1c0 : v1.cell? ⟨lr, 0, none⟩ = some (.int .i64 (sl1 : Int)) := (by rw [blk_cell hr_v1]; rfl); have v1c1 : v1.cell? ⟨lr, 1, none⟩ = some (.int .i64 (sl2 : Int)) := (by rw [blk_cell hr_v1]; rfl); have v1c2 : v1.cell? ⟨lr, 2, none⟩ = some (.int .i64 (d1 : Int)) := (by rw [blk_cell hr_v1]; rfl); have v1c3 : v1.cell? ⟨lr, 3, none⟩ = some (.int .i64 (d2 : Int)) := (by rw [blk_cell hr_v1]; rfl); have v1z0 := blk_free hr_v1 0; have v1z1 := blk_free hr_v1 1; have v1z2 := blk_free hr_v1 2; have v1z3 := blk_free hr_v1 3) | (refine step_call rfl 76 _ _ rfl #[SetV (d1, d2)] (by simp [Act.eval]) (callTurned _) ?_; refine (turned_any d1 d2 _).mono ?_; rintro e v2 ⟨rfl, y2⟩; refine ⟨_, rfl, ?_⟩; have x2 : Below v1.heap.size v1 v2 := Below.trans (by first | exact Below.refl _ _ | exact (Below.refl _ _).drew) (y2.mono (by simp)); have hr_v2 := ((x1.trans (x2.mono x1.size)).block _ lrr).trans hr; have l_v2 := blk_lt hr_v2; have v2c0 : v2.cell? ⟨lr, 0, none⟩ = some (.int .i64 (sl1 : Int)) := (by rw [blk_cell hr_v2]; rfl); have v2c1 : v2.cell? ⟨lr, 1, none⟩ = some (.int .i64 (sl2 : Int)) := (by rw [blk_cell hr_v2]; rfl); have v2c2 : v2.cell? ⟨lr, 2, none⟩ = some (.int .i64 (d1 : Int)) := (by rw [blk_cell hr_v2]; rfl); have v2c3 : v2.cell? ⟨lr, 3, none⟩ = some (.int .i64 (d2 : Int)) := (by rw [blk_cell hr_v2]; rfl); have v2z0 := blk_free hr_v2 0; have v2z1 := blk_free hr_v2 1; have v2z2 := blk_free hr_v2 2; have v2z3 := blk_free hr_v2 3))
            all_goals
              go_wp2_with fail
              go_meet
              have xx := hbc.trans ((x1.trans (x2.mono x1.size)).mono hbc.size)
              exact ⟨(((xx.setCell (p := ⟨lr, 0, none⟩) hlr _).setCell (p := ⟨lr, 1, none⟩) hlr _).setCell (p := ⟨lr, 2, none⟩) hlr _).setCell (p := ⟨lr, 3, none⟩) hlr _, blk_set (blk_set (blk_set (blk_set hr_v2 0 _) 1 _) 2 _) 3 _⟩
          case rest =>
          obtain ⟨hbd, hrd⟩ := hcut
          clear r0 r1 r2 r3 lrr pc0 lpc hpc hbc hr
          have r0 : wc.cell? ⟨lr, 0, none⟩ = some (.int .i64 (sl2 : Int)) := by rw [blk_cell hrd]; rfl
          have r1 : wc.cell? ⟨lr, 1, none⟩ = some (.int .i64 (sl1 : Int)) := by rw [blk_cell hrd]; rfl
          have r2 : wc.cell? ⟨lr, 2, none⟩ = some (.int .i64 (d2 : Int)) := by rw [blk_cell hrd]; rfl
          have r3 : wc.cell? ⟨lr, 3, none⟩ = some (.int .i64 (d1 : Int)) := by rw [blk_cell hrd]; rfl
          have lrr := blk_lt hrd
          have hrl : (rulesTo 1 ss k).length ≤ 9000 := by omega
          have hownc := own_below howna hbd
          have lc : w.heap.size + 1 ≤ wc.heap.size := by have := hbd.size; have := howlt; omega
          have hBc := hB.trans (hbd.mono hB.size)
          have HSN := hide (ruleCells_snoc (rulesTo 1 ss k) ((sl2, sl1), (d2, d1)))
          go_wp2_with (at_builtin; refine wpList_append_new rfl _ _ 72 rfl (w.heap.size + 1) i1 (.agg #[.int .i64 0, .int .i64 0, .int .i64 0, .int .i64 0]) 4 32 Tryz.underlying72 hi1 hz10 hz11 hz12 rfl (by decide) _ _ _ hownc rfl rfl rfl (by simp [Value.oneCell']) (by unfold maxLen; omega) (by omega) lc ?_; intro v4 w4 hown4 hgrow4 hnn4)
          have hB4 : Below w.heap.size w w4 := below_grown hBc hgrow4 hownc (Nat.le_succ _) hBc.size
          have hp4 : w4.heap[w.heap.size]? = some (.cells #[.int .i64 ((1 : Nat) : Int), .slice (some ⟨g, 0, none⟩) ss.length cS] 67 (0, 0)) := (hgrow4.block _ (blk_lt ((hbd.block _ (blk_lt hpa)).trans hpa)) (fun e => by have := (hownc.lt _ e.symm).1; omega)).trans ((hbd.block _ (blk_lt hpa)).trans hpa)
          obtain ⟨a4, c4, rfl⟩ := own_form hown4
          go_wp2_with fail
          go_roundg (gk - 1)
          case measure => omega
          case rel => exact ⟨k + 1, by go_num, by omega, by rw [unhide HRN2, unhide HSN]; simpa using hown4, hB4, hp4⟩
        · have HRN2 : Hid (rulesTo 2 ss (k + 1) = rulesTo 2 ss k ++ [((sl1, sl2), (d1, d2))]) := hide (by rw [unhide HRN, if_neg (by decide)])
          have r0 : wc.cell? ⟨lr, 0, none⟩ = some (.int .i64 (sl1 : Int)) := by rw [blk_cell hr]; rfl
          have r1 : wc.cell? ⟨lr, 1, none⟩ = some (.int .i64 (sl2 : Int)) := by rw [blk_cell hr]; rfl
          have r2 : wc.cell? ⟨lr, 2, none⟩ = some (.int .i64 (d1 : Int)) := by rw [blk_cell hr]; rfl
          have r3 : wc.cell? ⟨lr, 3, none⟩ = some (.int .i64 (d2 : Int)) := by rw [blk_cell hr]; rfl
          have lrr := blk_lt hr
          have hrl : (rulesTo 2 ss k).length ≤ 9000 := by omega
          have hownc := own_below howna hbc
          have lc : w.heap.size + 1 ≤ wc.heap.size := by have := hbc.size; have := howlt; omega
          have hBc := hB.trans (hbc.mono hB.size)
          have HSN := hide (ruleCells_snoc (rulesTo 2 ss k) ((sl1, sl2), (d1, d2)))
          go_wp2_with (at_builtin; refine wpList_append_new rfl _ _ 72 rfl (w.heap.size + 1) i1 (.agg #[.int .i64 0, .int .i64 0, .int .i64 0, .int .i64 0]) 4 32 Tryz.underlying72 hi1 hz10 hz11 hz12 rfl (by decide) _ _ _ hownc rfl rfl rfl (by simp [Value.oneCell']) (by unfold maxLen; omega) (by omega) lc ?_; intro v4 w4 hown4 hgrow4 hnn4)
          have hB4 : Below w.heap.size w w4 := below_grown hBc hgrow4 hownc (Nat.le_succ _) hBc.size
          have hp4 : w4.heap[w.heap.size]? = some (.cells #[.int .i64 ((2 : Nat) : Int), .slice (some ⟨g, 0, none⟩) ss.length cS] 67 (0, 0)) := (hgrow4.block _ (blk_lt ((hbc.block _ (blk_lt hpa)).trans hpa)) (fun e => by have := (hownc.lt _ e.symm).1; omega)).trans ((hbc.block _ (blk_lt hpa)).trans hpa)
          obtain ⟨a4, c4, rfl⟩ := own_form hown4
          go_wp2_with fail
          go_roundg (gk - 1)
          case measure => omega
          case rel => exact ⟨k + 1, by go_num, by omega, by rw [unhide HRN2, unhide HSN]; simpa using hown4, hB4, hp4⟩
      · have hne : ((sr : Int) != 4) = true := by rw [bne_iff_ne]; omega
        have HRN : Hid (rulesTo kind ss (k + 1) = rulesTo kind ss k) := hide (by rw [unhide HRS, if_neg (by simpa using hr4), List.append_nil])
        clear HRS HRW hr4
        go_wp2_with fail
        go_roundg (gk - 1)
        case measure => omega
        case rel => exact ⟨k + 1, by go_num, by omega, by rw [unhide HRN]; exact howna, hBa, hpa⟩
    · have hke : k = ss.length := by omega
      subst hke
      have HR : Hid (rulesW kind ss = rulesTo kind ss ss.length) := hide (by unfold rulesW rulesTo; rw [List.take_length])
      go_wp2_with fail
      go_ret
      exact ⟨_, rfl, by rw [unhide HR]; exact own_lo hown (by omega), hb⟩
end Go.Proofs.YtgipjjhkhfihpaaGreatDoor

namespace Go.Proofs.YtgipjjhkhfihpaaGreatDoor
open Go.RowKit

/-! ### A duel's Turn, Move, Values -/
set_option maxRecDepth 100000 in
set_option maxHeartbeats 1600000 in
theorem dturn_any (b : Nat) (t : TypeId) (bl : BL) (rs : List RuleP) (g : GS) (gv : GV) (w : World) (hG : GameAt w b t bl rs g gv) :
    Calls Tryz.prog 36 #[.pointer (some ⟨b, 0, none⟩)] w fun e w' => e = .returned (.int .i64 (g.turn : Int)) ∧ w' = w := by
  have lb := blk_lt hG.fb
  go_enter Tryz.func36, Tryz.ntmps36
  go_wp2_with fail
  refine (gturn_any b t bl rs g gv w hG).mono ?_
  rintro e w1 ⟨rfl, hw1⟩
  subst hw1
  go_wp2_with fail
  go_ret
  exact ⟨rfl, rfl⟩
set_option maxRecDepth 100000 in
set_option maxHeartbeats 1600000 in
theorem dvalues_any (b : Nat) (t : TypeId) (bl : BL) (rs : List RuleP) (g : GS) (gv : GV) (w : World) (hG : GameAt w b t bl rs g gv) (hp : g.vals.1 < 512 ∧ g.vals.2 < 512) :
    Calls Tryz.prog 37 #[.pointer (some ⟨b, 0, none⟩)] w fun e w' => ∃ k, e = .returned (.slice (some ⟨k, 0, none⟩) 8 8) ∧ w.heap.size ≤ k ∧ w'.heap[k]? = some (.cells (valTo g.vals 8).toArray 3 (0, 0)) ∧ Below w.heap.size w w' := by
  have lb := blk_lt hG.fb
  go_enter Tryz.func37, Tryz.ntmps37
  go_wp2_with fail
  refine (gvalues_any b t bl rs g gv w hG hp).mono ?_
  rintro e w1 ⟨k, rfl, h1, h2, h3⟩
  go_wp2_with fail
  go_ret
  exact ⟨k, rfl, h1, h2, h3⟩
set_option maxRecDepth 100000 in
set_option maxHeartbeats 1600000 in
theorem dmove_any (b : Nat) (t : TypeId) (bl : BL) (rs : List RuleP) (g : GS) (gv : GV) (bits : Int) (w : World) (hG : GameAt w b t bl rs g gv) (hR : RBd rs) (hB : BBd bl) (hp : g.vals.1 < 512 ∧ g.vals.2 < 512) (ht : g.turn ≤ bl.length) (hbi : i64ok bits) :
    Calls Tryz.prog 53 #[.pointer (some ⟨b, 0, none⟩), .int .i64 bits] w fun e w' => e = .returned (.int .i64 (MoveE bl g bits : Nat)) ∧ GameAt w' b t bl rs (MoveG rs bl g bits) gv ∧ Only (· = b) w w' := by
  have lb := blk_lt hG.fb
  go_enter Tryz.func53, Tryz.ntmps53
  go_wp2_with fail
  refine (gmove_any b t bl rs g gv bits w hG hR hB hp ht hbi).mono ?_
  rintro e w1 ⟨rfl, h2, h3⟩
  go_wp2_with fail
  go_ret
  exact ⟨rfl, h2, h3⟩
end Go.Proofs.YtgipjjhkhfihpaaGreatDoor

namespace Go.Proofs.YtgipjjhkhfihpaaGreatDoor
open Go.RowKit

/-! ### Open -/
def GFresh (n : Nat) (gv : GV) : Prop := (∀ k, gv.vB.ownBlock = some k → n ≤ k) ∧ (∀ k, gv.vR.ownBlock = some k → n ≤ k) ∧ ∀ j (hj : j < gv.hdrs.length) k, gv.hdrs[j].ownBlock = some k → n ≤ k
def GameV (g : GS) (gv : GV) : Value := .agg #[gv.vB, gv.vR, .int .i64 (g.turn : Int), .int .i64 (g.vals.1 : Int), .int .i64 (g.vals.2 : Int)]
def OpenPost (q : QS) (kind : Nat) (ss : List Stp) (w : World) (e : Ending) (w' : World) : Prop :=
  ∃ gv, e = .returned (GameV (openW q kind ss) gv) ∧ GRows w' (blW q kind) (rulesW kind ss) gv ∧ GFresh w.heap.size gv ∧ Below w.heap.size w w'
theorem flat_len (bs : List (List Nat)) (h : ∀ b ∈ bs, b ≠ []) : bs.length ≤ bs.flatten.length := by
  induction bs with
  | nil => simp
  | cons b bs ih =>
    have h1 := ih (fun x hx => h x (List.mem_cons_of_mem _ hx))
    have h2 : 0 < b.length := List.length_pos_iff.2 (h b (by simp))
    simp only [List.flatten_cons, List.length_append, List.length_cons]
    omega
theorem blocks_le (vs : List (Nat × Bool)) (h : vs.length ≤ 8) : (progBlocks vs).length ≤ 8 := by
  have := flat_len (progBlocks vs) (fun b hb => (progBlocks_kind vs b hb).1)
  rw [progBlocks_flat, List.length_map] at this
  omega
theorem block_len (vs : List (Nat × Bool)) (h : vs.length ≤ 8) (b : List Nat) (hb : b ∈ progBlocks vs) : b.length ≤ 8 := by
  have h1 : b.length ≤ (progBlocks vs).flatten.length := by
    have := (List.sublist_flatten_of_mem hb).length_le
    exact this
  rw [progBlocks_flat, List.length_map] at h1
  omega
theorem bbd_of {q : QS} (hQ : QB q) (kind : Nat) : BBd (blW q kind) := by
  refine ⟨by rw [blW_length]; exact blocks_le q.vars hQ.vl, fun x hx => ?_⟩
  obtain ⟨b, hb, rfl⟩ := List.mem_map.1 (show x ∈ (progBlocks q.vars).map _ from hx)
  refine ⟨block_len q.vars hQ.vl b hb, fun v hv => ?_⟩
  have hm : v ∈ (progBlocks q.vars).flatten := List.mem_flatten.2 ⟨b, hb, hv⟩
  rw [progBlocks_flat] at hm
  obtain ⟨y, hy, rfl⟩ := List.mem_map.1 hm
  exact hQ.names y hy
theorem rbd_of {ss : List Stp} (h : SBs ss) (kind : Nat) : RBd (rulesW kind ss) := by
  refine ⟨?_, fun r hr => ?_⟩
  · unfold rulesW
    rw [List.length_map]
    exact Nat.le_trans (List.length_filter_le _ _) h.len
  · unfold rulesW at hr
    obtain ⟨s, hs, rfl⟩ := List.mem_map.1 hr
    have hs' := h.bits s (List.mem_filter.1 hs).1
    have hm := minus_lt (litsAt ss s.first) s.lits (litsAt_lt ss h.bits s.first)
    unfold ruleW swapL
    split
    · exact ⟨⟨hs'.2, hs'.1⟩, hm.2, hm.1⟩
    · exact ⟨hs', hm⟩
theorem ans_lt (rs : List RuleP) (bl : BL) : ∀ (m : Nat) (g : GS), g.vals.1 < 512 ∧ g.vals.2 < 512 → (ansGo rs bl m g).vals.1 < 512 ∧ (ansGo rs bl m g).vals.2 < 512 := by
  have hblk : ∀ (vs : List Nat) (c : Nat × Nat), c.1 < 512 ∧ c.2 < 512 → (ansBlock rs vs c).1 < 512 ∧ (ansBlock rs vs c).2 < 512 := by
    intro vs
    induction vs with
    | nil => intro c h; exact h
    | cons v vs ih => intro c h; exact ih _ (withLit_lt _ _ h.1 h.2)
  intro m
  induction m with
  | zero => intro g h; exact h
  | succ m ih =>
    intro g h
    rw [ansGo]
    split
    · exact ih _ (hblk _ _ h)
    · exact h
/-- While the blocks are gathered. -/
structure OAt (u wx : World) (gb : Nat) (bl : BL) (hdrs : List Value) (vR : Value) (k : Nat) (vB : Value) : Prop where
  gg : wx.heap[gb]? = some (.cells #[vB, vR, .int .i64 0, .int .i64 0, .int .i64 0] 76 (0, 0))
  oB : wx.ownsRow u.heap.size 111 2 vB k (blCells (bl.take k) (hdrs.take k))
  only : Only (· = gb) u wx
theorem blCells_snoc (bl : BL) (hdrs : List Value) (k : Nat) (h : k < bl.length) (hh : k < hdrs.length) : blCells (bl.take (k + 1)) (hdrs.take (k + 1)) = blCells (bl.take k) (hdrs.take k) ++ [hdrs[k], .bool bl[k].2] := by
  unfold blCells
  rw [List.take_succ_eq_append_getElem h, List.take_succ_eq_append_getElem hh, List.zip_append (by simp; omega), List.flatMap_append]
  simp
set_option maxRecDepth 100000 in
set_option maxHeartbeats 3200000 in
theorem popen_any (q : QS) (ss : List Stp) (aV aC aS : Option Addr) (cV cC cS kind : Nat) (w : World) (hV : w.ownsRow 0 139 2 (.slice aV q.vars.length cV) q.vars.length (varCells q.vars)) (hl : q.vars.length ≤ 8)
    (hS : w.ownsRow 0 134 6 (.slice aS ss.length cS) ss.length (psCells ss)) (hSB : SBs ss) (hk : kind = 1 ∨ kind = 2) (hQ : QB q) :
    Calls Tryz.prog 26 #[.agg #[.slice aV q.vars.length cV, .slice aC q.cl.length cC], .agg #[.int .i64 (kind : Int), .slice aS ss.length cS]] w fun e w' => OpenPost q kind ss w e w' := by
  obtain ⟨i1, hi1, hz10, hz11, hz12⟩ := info_parts infoBlock
  go_enter Tryz.func26, Tryz.ntmps26
  go_wp2_with fail
  generalize hw0 : (((w.alloc (.cells #[.slice aV q.vars.length cV, .slice aC q.cl.length cC] 60)).alloc (.cells #[.int .i64 (kind : Int), .slice aS ss.length cS] 67)).alloc (.cells #[.slice none 0 0, .slice none 0 0, .int .i64 0, .int .i64 0, .int .i64 0] 76)) = u1
  have hB : Below w.heap.size w u1 := by rw [← hw0]; exact (((Below.refl _ _).alloc (Nat.le_refl _) _).alloc (by simp; try omega) _).alloc (by simp; try omega) _
  have hff : u1.heap[w.heap.size]? = some (.cells #[.slice aV q.vars.length cV, .slice aC q.cl.length cC] 60 (0, 0)) := by rw [← hw0, heap_alloc_old _ _ (by simp; try omega), heap_alloc_old _ _ (by simp; try omega)]; exact alloc_new_at (by simp)
  have hpp : u1.heap[w.heap.size + 1]? = some (.cells #[.int .i64 (kind : Int), .slice aS ss.length cS] 67 (0, 0)) := by rw [← hw0, heap_alloc_old _ _ (by simp; try omega)]; exact alloc_new_at (by simp)
  have hrs : u1.heap[w.heap.size + 1 + 1]? = some (.cells #[.slice none 0 0, .slice none 0 0, .int .i64 0, .int .i64 0, .int .i64 0] 76 (0, 0)) := by rw [← hw0]; exact alloc_new_at (by simp)
  clear hw0
  have cff0 : u1.cell? ⟨w.heap.size, 0, none⟩ = some (.slice aV q.vars.length cV) := by rw [blk_cell hff]; rfl
  have cff1 : u1.cell? ⟨w.heap.size, 1, none⟩ = some (.slice aC q.cl.length cC) := by rw [blk_cell hff]; rfl
  have lff := blk_lt hff
  have cpp0 : u1.cell? ⟨w.heap.size + 1, 0, none⟩ = some (.int .i64 (kind : Int)) := by rw [blk_cell hpp]; rfl
  have cpp1 : u1.cell? ⟨w.heap.size + 1, 1, none⟩ = some (.slice aS ss.length cS) := by rw [blk_cell hpp]; rfl
  have lpp := blk_lt hpp
  have crs0 : u1.cell? ⟨w.heap.size + 1 + 1, 0, none⟩ = some (.slice none 0 0) := by rw [blk_cell hrs]; rfl
  have crs1 : u1.cell? ⟨w.heap.size + 1 + 1, 1, none⟩ = some (.slice none 0 0) := by rw [blk_cell hrs]; rfl
  have crs2 : u1.cell? ⟨w.heap.size + 1 + 1, 2, none⟩ = some (.int .i64 0) := by rw [blk_cell hrs]; rfl
  have crs3 : u1.cell? ⟨w.heap.size + 1 + 1, 3, none⟩ = some (.int .i64 0) := by rw [blk_cell hrs]; rfl
  have crs4 : u1.cell? ⟨w.heap.size + 1 + 1, 4, none⟩ = some (.int .i64 0) := by rw [blk_cell hrs]; rfl
  have lrs := blk_lt hrs
  have hsz1 : w.heap.size ≤ u1.heap.size := hB.size
  refine (rulesOf_any ss aS cS kind _ (own_below hS hB) hSB hk).mono ?_
  rintro e u2 ⟨vR, rfl, hoR, b2⟩
  replace hB := hB.trans (b2.mono hB.size)
  replace hff := (b2.block _ (blk_lt hff)).trans hff
  replace cff0 : u2.cell? ⟨w.heap.size, 0, none⟩ = some (.slice aV q.vars.length cV) := by rw [blk_cell hff]; rfl
  replace cff1 : u2.cell? ⟨w.heap.size, 1, none⟩ = some (.slice aC q.cl.length cC) := by rw [blk_cell hff]; rfl
  replace lff := blk_lt hff
  replace hpp := (b2.block _ (blk_lt hpp)).trans hpp
  replace cpp0 : u2.cell? ⟨w.heap.size + 1, 0, none⟩ = some (.int .i64 (kind : Int)) := by rw [blk_cell hpp]; rfl
  replace cpp1 : u2.cell? ⟨w.heap.size + 1, 1, none⟩ = some (.slice aS ss.length cS) := by rw [blk_cell hpp]; rfl
  replace lpp := blk_lt hpp
  replace hrs := (b2.block _ (blk_lt hrs)).trans hrs
  replace crs0 : u2.cell? ⟨w.heap.size + 1 + 1, 0, none⟩ = some (.slice none 0 0) := by rw [blk_cell hrs]; rfl
  replace crs1 : u2.cell? ⟨w.heap.size + 1 + 1, 1, none⟩ = some (.slice none 0 0) := by rw [blk_cell hrs]; rfl
  replace crs2 : u2.cell? ⟨w.heap.size + 1 + 1, 2, none⟩ = some (.int .i64 0) := by rw [blk_cell hrs]; rfl
  replace crs3 : u2.cell? ⟨w.heap.size + 1 + 1, 3, none⟩ = some (.int .i64 0) := by rw [blk_cell hrs]; rfl
  replace crs4 : u2.cell? ⟨w.heap.size + 1 + 1, 4, none⟩ = some (.int .i64 0) := by rw [blk_cell hrs]; rfl
  replace lrs := blk_lt hrs
  have hsz2 : w.heap.size + 1 + 1 < u2.heap.size := lrs
  obtain ⟨aR, cR, rfl⟩ := own_form hoR
  have HRlt : Hid (∀ k, (Value.slice aR (rulesW kind ss).length cR).ownBlock = some k → u1.heap.size ≤ k ∧ k < u2.heap.size) := hide (fun k hk => hoR.lt k hk)
  have hRl : (rulesW kind ss).length ≤ 9000 := by have h1 := rulesTo_len kind ss ss.length; have h2 := hSB.len; unfold rulesTo at h1; rw [List.take_length] at h1; unfold rulesW; omega
  generalize hrw : rulesW kind ss = rs at *
  have HRW := hide hrw
  clear hrw
  go_wp2_with fail
  generalize hw0 : u2.alloc (.cells #[.slice none 0 0, .slice aR rs.length cR, .int .i64 0, .int .i64 0, .int .i64 0] 76) = u3
  have b3 : Below u2.heap.size u2 u3 := by rw [← hw0]; exact (Below.refl _ _).alloc (Nat.le_refl _) _
  have hgg : u3.heap[u2.heap.size]? = some (.cells #[.slice none 0 0, .slice aR rs.length cR, .int .i64 0, .int .i64 0, .int .i64 0] 76 (0, 0)) := by rw [← hw0]; exact heap_alloc_new _ _
  clear hw0
  replace hB := hB.trans (b3.mono hB.size)
  replace hff := (b3.block _ (blk_lt hff)).trans hff
  replace cff0 : u3.cell? ⟨w.heap.size, 0, none⟩ = some (.slice aV q.vars.length cV) := by rw [blk_cell hff]; rfl
  replace cff1 : u3.cell? ⟨w.heap.size, 1, none⟩ = some (.slice aC q.cl.length cC) := by rw [blk_cell hff]; rfl
  replace lff := blk_lt hff
  replace hpp := (b3.block _ (blk_lt hpp)).trans hpp
  replace cpp0 : u3.cell? ⟨w.heap.size + 1, 0, none⟩ = some (.int .i64 (kind : Int)) := by rw [blk_cell hpp]; rfl
  replace cpp1 : u3.cell? ⟨w.heap.size + 1, 1, none⟩ = some (.slice aS ss.length cS) := by rw [blk_cell hpp]; rfl
  replace lpp := blk_lt hpp
  replace hrs := (b3.block _ (blk_lt hrs)).trans hrs
  replace crs0 : u3.cell? ⟨w.heap.size + 1 + 1, 0, none⟩ = some (.slice none 0 0) := by rw [blk_cell hrs]; rfl
  replace crs1 : u3.cell? ⟨w.heap.size + 1 + 1, 1, none⟩ = some (.slice none 0 0) := by rw [blk_cell hrs]; rfl
  replace crs2 : u3.cell? ⟨w.heap.size + 1 + 1, 2, none⟩ = some (.int .i64 0) := by rw [blk_cell hrs]; rfl
  replace crs3 : u3.cell? ⟨w.heap.size + 1 + 1, 3, none⟩ = some (.int .i64 0) := by rw [blk_cell hrs]; rfl
  replace crs4 : u3.cell? ⟨w.heap.size + 1 + 1, 4, none⟩ = some (.int .i64 0) := by rw [blk_cell hrs]; rfl
  replace lrs := blk_lt hrs
  replace hoR := own_below hoR b3
  have cgg0 : u3.cell? ⟨u2.heap.size, 0, none⟩ = some (.slice none 0 0) := by rw [blk_cell hgg]; rfl
  have cgg1 : u3.cell? ⟨u2.heap.size, 1, none⟩ = some (.slice aR rs.length cR) := by rw [blk_cell hgg]; rfl
  have cgg2 : u3.cell? ⟨u2.heap.size, 2, none⟩ = some (.int .i64 0) := by rw [blk_cell hgg]; rfl
  have cgg3 : u3.cell? ⟨u2.heap.size, 3, none⟩ = some (.int .i64 0) := by rw [blk_cell hgg]; rfl
  have cgg4 : u3.cell? ⟨u2.heap.size, 4, none⟩ = some (.int .i64 0) := by rw [blk_cell hgg]; rfl
  have lgg := blk_lt hgg
  have hsz3 : u2.heap.size < u3.heap.size := lgg
  refine (qblocks_any 0 w.heap.size q _ aV cV cff0 lff (own_below hV hB) (by omega)).mono ?_
  rintro e u4 ⟨v, hdrs, rfl, hoH, hRA, b4⟩
  replace hB := hB.trans (b4.mono hB.size)
  replace hff := (b4.block _ (blk_lt hff)).trans hff
  replace cff0 : u4.cell? ⟨w.heap.size, 0, none⟩ = some (.slice aV q.vars.length cV) := by rw [blk_cell hff]; rfl
  replace cff1 : u4.cell? ⟨w.heap.size, 1, none⟩ = some (.slice aC q.cl.length cC) := by rw [blk_cell hff]; rfl
  replace lff := blk_lt hff
  replace hpp := (b4.block _ (blk_lt hpp)).trans hpp
  replace cpp0 : u4.cell? ⟨w.heap.size + 1, 0, none⟩ = some (.int .i64 (kind : Int)) := by rw [blk_cell hpp]; rfl
  replace cpp1 : u4.cell? ⟨w.heap.size + 1, 1, none⟩ = some (.slice aS ss.length cS) := by rw [blk_cell hpp]; rfl
  replace lpp := blk_lt hpp
  replace hrs := (b4.block _ (blk_lt hrs)).trans hrs
  replace crs0 : u4.cell? ⟨w.heap.size + 1 + 1, 0, none⟩ = some (.slice none 0 0) := by rw [blk_cell hrs]; rfl
  replace crs1 : u4.cell? ⟨w.heap.size + 1 + 1, 1, none⟩ = some (.slice none 0 0) := by rw [blk_cell hrs]; rfl
  replace crs2 : u4.cell? ⟨w.heap.size + 1 + 1, 2, none⟩ = some (.int .i64 0) := by rw [blk_cell hrs]; rfl
  replace crs3 : u4.cell? ⟨w.heap.size + 1 + 1, 3, none⟩ = some (.int .i64 0) := by rw [blk_cell hrs]; rfl
  replace crs4 : u4.cell? ⟨w.heap.size + 1 + 1, 4, none⟩ = some (.int .i64 0) := by rw [blk_cell hrs]; rfl
  replace lrs := blk_lt hrs
  replace hgg := (b4.block _ (blk_lt hgg)).trans hgg
  replace cgg0 : u4.cell? ⟨u2.heap.size, 0, none⟩ = some (.slice none 0 0) := by rw [blk_cell hgg]; rfl
  replace cgg1 : u4.cell? ⟨u2.heap.size, 1, none⟩ = some (.slice aR rs.length cR) := by rw [blk_cell hgg]; rfl
  replace cgg2 : u4.cell? ⟨u2.heap.size, 2, none⟩ = some (.int .i64 0) := by rw [blk_cell hgg]; rfl
  replace cgg3 : u4.cell? ⟨u2.heap.size, 3, none⟩ = some (.int .i64 0) := by rw [blk_cell hgg]; rfl
  replace cgg4 : u4.cell? ⟨u2.heap.size, 4, none⟩ = some (.int .i64 0) := by rw [blk_cell hgg]; rfl
  replace lgg := blk_lt hgg
  replace hoR := own_below hoR b4
  obtain ⟨aH, cH, rfl⟩ := own_form hoH
  go_wp2_with fail
  have hHl := hRA.len
  have hbl : (progBlocks q.vars).length ≤ 8 := blocks_le q.vars hl
  obtain ⟨bl, hbl0⟩ : ∃ bl, blW q kind = bl := ⟨_, rfl⟩
  have hbll : bl.length = (progBlocks q.vars).length := by rw [← hbl0, blW_length]
  have HBL := hide hbl0
  clear hbl0
  go_loopg [13] ((progBlocks q.vars).length) (fun m i wx => ∃ (k : Nat) (vB : Value), i = .int .i64 k ∧ k + m = (progBlocks q.vars).length ∧ OAt u4 wx u2.heap.size bl hdrs (.slice aR rs.length cR) k vB)
  case atStart => exact ⟨0, .slice none 0 0, rfl, by omega, hgg, World.ownsRow_nil _ _ _ _, Only.refl _ _⟩
  case round =>
    obtain ⟨k, vB, rfl, hkm, ⟨hgr, hoB, hon⟩⟩ := hrel
    have lgr := blk_lt hgr
    have hBr : Below w.heap.size w wr := hB.trans (hon.below (B := w.heap.size) hB.size (fun j hj e => by omega))
    have hffr := (hon.block _ lff (by omega)).trans hff
    have hppr := (hon.block _ lpp (by omega)).trans hpp
    have f0 : wr.cell? ⟨w.heap.size, 0, none⟩ = some (.slice aV q.vars.length cV) := by rw [blk_cell hffr]; rfl
    have f1 : wr.cell? ⟨w.heap.size, 1, none⟩ = some (.slice aC q.cl.length cC) := by rw [blk_cell hffr]; rfl
    have p0 : wr.cell? ⟨w.heap.size + 1, 0, none⟩ = some (.int .i64 (kind : Int)) := by rw [blk_cell hppr]; rfl
    have p1 : wr.cell? ⟨w.heap.size + 1, 1, none⟩ = some (.slice aS ss.length cS) := by rw [blk_cell hppr]; rfl
    have lf := blk_lt hffr
    have lp := blk_lt hppr
    obtain ⟨aB, cB, rfl⟩ := own_form hoB
    have g0 : wr.cell? ⟨u2.heap.size, 0, none⟩ = some (.slice aB k cB) := by rw [blk_cell hgr]; rfl
    have hoHr := own_keep hoH hon (fun j hj e => by have := (hoH.lt j hj).1; omega)
    by_cases hlt : k < (progBlocks q.vars).length
    · have hkh : k < hdrs.length := by omega
      have hkb : k < bl.length := by omega
      have hXr := own_keep (hRA.row k hlt).1 hon (fun j hj e => by have := ((hRA.row k hlt).1.lt j hj).1; omega)
      have hb8 := block_len q.vars hl _ (List.getElem_mem hlt)
      have HSN := hide (blCells_snoc bl hdrs k hkb hkh)
      have HWN : Hid (bl[k].2 = winsW q kind (progBlocks q.vars)[k]) := hide (by
        have h := blW_at q kind k hlt
        rw [unhide HBL] at h
        rw [show bl.getD k ([], false) = bl[k] from by simp [List.getD, hkb]] at h
        rw [h])
      obtain ⟨gH, cap, hVe, hg, hg', _, hcell⟩ := own_pos hoHr (by omega)
      injection hVe with hVe _ hV2
      subst hVe hV2
      have hxk : wr.cell? ⟨gH, k, none⟩ = some hdrs[k] := hcell _ _ (by simp [hkh])
      obtain ⟨aX, cX, hXf⟩ := own_form hXr
      rw [hXf] at hxk hXr
      have HXF := hide hXf
      clear hcell hXf
      have hX0 := own_lo (lo := 0) hXr (Nat.zero_le _)
      have hne0 := own_type_ne hoB hgr (by decide)
      have HNE := hide hne0
      clear hne0
      have hVr := own_below hV hBr
      obtain ⟨wo, rfl⟩ : ∃ wo, wo = wr := ⟨_, rfl⟩
      go_upto_region 30 with fail
      go_region_law (first | (refine step_call rfl 50 _ _ rfl #[.agg #[.slice aV q.vars.length cV, .slice aC q.cl.length cC], .agg #[.int .i64 (kind : Int), .slice aS ss.length cS], .slice aX (progBlocks q.vars)[k].length cX] (by simp [Act.eval]) (callWins _) ?_; refine (wins_any q aV aC aS cV q.cl.length cC ss.length cS kind (progBlocks q.vars)[k] _ _ (own_below hVr (Below.refl _ wo).drew) hl hk (own_below hX0 (Below.refl _ wo).drew) hb8).mono ?_; rintro e v1 ⟨rfl, y1⟩; refine ⟨_, rfl, ?_⟩; have x1 : Below wo.heap.size wo v1 := Below.trans (Below.refl _ wo).drew y1; have hgv := (x1.block _ lgr).trans hgr; have gv0 : v1.cell? ⟨u2.heap.size, 0, none⟩ = some (.slice aB k cB) := (by rw [blk_cell hgv]; rfl); have lgv := blk_lt hgv) | (refine step_append_at rfl (.tmp 18) (.tmp 25) 71 rfl u4.heap.size 111 i1 (.agg #[.slice none 0 0, .bool false]) 2 32 Tryz.underlying71 hi1 hz10 hz11 hz12 rfl (by decide) (.slice aB k cB) k (blCells (bl.take k) (hdrs.take k)) ((own_below hoB x1).alloc _) (by simp [Act.eval]) ⟨v1.heap.size, 0, none⟩ 1 1 [.slice aX (progBlocks q.vars)[k].length cX, .bool (winsW q kind (progBlocks q.vars)[k])] (by simp [Act.eval]) rfl (new_cells v1 [.slice aX (progBlocks q.vars)[k].length cX, .bool (winsW q kind (progBlocks q.vars)[k])] 111) (by simp [Value.oneCell']) (by decide) (by unfold maxLen; omega) (by omega) (by have := x1.size; have := hon.size; simp; omega) ?_; intro v' w' hown' hgrow hmv; obtain ⟨g4, cap4, rfl, hg4, hg4', hcap4, hcell4⟩ := own_pos hown' (by omega); have hgg' : w'.heap[u2.heap.size]? = some (.cells #[.slice aB k cB, .slice aR rs.length cR, .int .i64 0, .int .i64 0, .int .i64 0] 76 (0, 0)) := (hgrow.block _ (by simp; omega) (fun e => unhide HNE e.symm)).trans ((heap_alloc_old v1 _ lgv).trans hgv); have gw0 : w'.cell? ⟨u2.heap.size, 0, none⟩ = some (.slice aB k cB) := (by rw [blk_cell hgg']; rfl); have gz0 := blk_free hgg' 0; have lgw := blk_lt hgg'))
      all_goals
        have hns := own_type_ne hown' hgg' (by decide)
        have HO : Hid (OAt u4 (w'.setCell ⟨u2.heap.size, 0, none⟩ (.slice (some ⟨g4, 0, none⟩) (k + 1) cap4)) u2.heap.size bl hdrs (.slice aR rs.length cR) (k + 1) (.slice (some ⟨g4, 0, none⟩) (k + 1) cap4)) := hide ⟨blk_set hgg' 0 _, by rw [unhide HSN, unhide HXF, unhide HWN]; exact own_set_ne hown' (p := ⟨u2.heap.size, 0, none⟩) hns _, (((hon.trans (Only.of_below x1)).alloc _).grown hgrow (fun j hj => Or.inr (hoB.lt j hj).1)).setAt 0 _⟩
        clear hown' hgrow hmv hcell4 hns
        go_wp2_with fail
        go_roundg (gk - 1)
        case measure => omega
        case rel => exact ⟨k + 1, _, by go_num, by omega, unhide HO⟩
    · have hkn : k = (progBlocks q.vars).length := by omega
      subst hkn
      have hdk : decide (((progBlocks q.vars).length : Int) < ((progBlocks q.vars).length : Int)) = false := by simp
      have hRr := own_keep hoR hon (fun j hj e => by have := (unhide HRlt j hj).2; omega)
      have hG : GameAt wr u2.heap.size 76 bl rs ⟨0, (0, 0)⟩ ⟨.slice aB (progBlocks q.vars).length cB, .slice aR rs.length cR, hdrs⟩ := by
        refine ⟨hgr, Or.inl rfl, ?_, own_lo hRr (Nat.zero_le _), by rw [hbll]; exact hHl, fun j hj => ?_⟩
        · have h := own_lo (lo := 0) hoB (Nat.zero_le _)
          rw [List.take_of_length_le (by omega), List.take_of_length_le (by omega)] at h
          rw [hbll]; exact h
        · have hj' : j < (progBlocks q.vars).length := by omega
          have h := own_lo (lo := 0) (own_keep (hRA.row j hj').1 hon (fun i hi e => by have := ((hRA.row j hj').1.lt i hi).1; omega)) (Nat.zero_le _)
          have hrow : bl[j].1 = (progBlocks q.vars)[j] := by
            have h2 := blW_at q kind j hj'
            rw [unhide HBL] at h2
            rw [show bl.getD j ([], false) = bl[j] from by simp [List.getD, hj]] at h2
            rw [h2]
          rw [hrow]; exact h
      have hFr : GFresh w.heap.size ⟨.slice aB (progBlocks q.vars).length cB, .slice aR rs.length cR, hdrs⟩ := by
        refine ⟨fun j hj => ?_, fun j hj => ?_, fun i hi j hj => ?_⟩
        · have := (hoB.lt j hj).1; have := hB.size; omega
        · have := (unhide HRlt j hj).1; omega
        · have hi' : i < (progBlocks q.vars).length := by rw [← hHl]; exact hi
          have := ((hRA.row i hi').1.lt j hj).1; omega
      have HFR := hide hFr
      have hbd := bbd_of hQ kind
      rw [unhide HBL] at hbd
      have hrbd := rbd_of hSB kind
      rw [unhide HRW] at hrbd
      have hrsr := (hon.block _ lrs (by omega)).trans hrs
      clear hFr hRr hoHr f0 f1 p0 p1 g0
      go_wp2_with fail
      refine (answer_any u2.heap.size _ bl rs ⟨0, (0, 0)⟩ _ _ hG hrbd hbd ⟨by decide, by decide⟩ (Nat.zero_le _)).mono ?_
      rintro e w8 ⟨rfl, hG8, ho8⟩
      have HOW : Hid (openW q kind ss = ansW rs bl ⟨0, (0, 0)⟩) := hide (by unfold openW; rw [unhide HRW, unhide HBL])
      generalize ansW rs bl ⟨0, (0, 0)⟩ = g8 at *
      obtain ⟨t8, v1, v2⟩ := g8
      have hrs8 := (ho8.block _ (blk_lt hrsr) (by omega)).trans hrsr
      have x0 : w8.cell? ⟨u2.heap.size, 0, none⟩ = some (.slice aB (progBlocks q.vars).length cB) := by rw [blk_cell hG8.fb]; rfl
      have x1 : w8.cell? ⟨u2.heap.size, 1, none⟩ = some (.slice aR rs.length cR) := by rw [blk_cell hG8.fb]; rfl
      have x2 : w8.cell? ⟨u2.heap.size, 2, none⟩ = some (.int .i64 (t8 : Int)) := by rw [blk_cell hG8.fb]; rfl
      have x3 : w8.cell? ⟨u2.heap.size, 3, none⟩ = some (.int .i64 (v1 : Int)) := by rw [blk_cell hG8.fb]; rfl
      have x4 : w8.cell? ⟨u2.heap.size, 4, none⟩ = some (.int .i64 (v2 : Int)) := by rw [blk_cell hG8.fb]; rfl
      have lx := blk_lt hG8.fb
      have ly := blk_lt hrs8
      have y0 : w8.cell? ⟨w.heap.size + 1 + 1, 0, none⟩ = some (.slice none 0 0) := by rw [blk_cell hrs8]; rfl
      have y1 : w8.cell? ⟨w.heap.size + 1 + 1, 1, none⟩ = some (.slice none 0 0) := by rw [blk_cell hrs8]; rfl
      have y2 : w8.cell? ⟨w.heap.size + 1 + 1, 2, none⟩ = some (.int .i64 0) := by rw [blk_cell hrs8]; rfl
      have y3 : w8.cell? ⟨w.heap.size + 1 + 1, 3, none⟩ = some (.int .i64 0) := by rw [blk_cell hrs8]; rfl
      have y4 : w8.cell? ⟨w.heap.size + 1 + 1, 4, none⟩ = some (.int .i64 0) := by rw [blk_cell hrs8]; rfl
      have z0 := blk_free hrs8 0
      have z1 := blk_free hrs8 1
      have z2 := blk_free hrs8 2
      have z3 := blk_free hrs8 3
      have z4 := blk_free hrs8 4
      have hR := blk_set (blk_set (blk_set (blk_set (blk_set hrs8 0 (.slice aB (progBlocks q.vars).length cB)) 1 (.slice aR rs.length cR)) 2 (.int .i64 (t8 : Int))) 3 (.int .i64 (v1 : Int))) 4 (.int .i64 (v2 : Int))
      have j0 := blk_cell hR 0
      have j1 := blk_cell hR 1
      have j2 := blk_cell hR 2
      have j3 := blk_cell hR 3
      have j4 := blk_cell hR 4
      have hB8 : Below w.heap.size w w8 := hBr.trans (ho8.below (B := w.heap.size) hBr.size (fun j hj e => by omega))
      go_wp2_with fail
      refine bodyPost_ret (v := GameV ⟨t8, (v1, v2)⟩ ⟨.slice aB (progBlocks q.vars).length cB, .slice aR rs.length cR, hdrs⟩) (by simp [results, Tryz.results26, go_sem, j0, j1, j2, j3, j4, GameV]) rfl ⟨⟨.slice aB (progBlocks q.vars).length cB, .slice aR rs.length cR, hdrs⟩, by rw [unhide HOW], ?_, unhide HFR, ?_⟩
      · rw [unhide HBL, unhide HRW]
        have ho9 : Only (· = w.heap.size + 1 + 1) w8 (((((w8.setCell ⟨w.heap.size + 1 + 1, 0, none⟩ (.slice aB (progBlocks q.vars).length cB)).setCell ⟨w.heap.size + 1 + 1, 1, none⟩ (.slice aR rs.length cR)).setCell ⟨w.heap.size + 1 + 1, 2, none⟩ (.int .i64 (t8 : Int))).setCell ⟨w.heap.size + 1 + 1, 3, none⟩ (.int .i64 (v1 : Int))).setCell ⟨w.heap.size + 1 + 1, 4, none⟩ (.int .i64 (v2 : Int))) := (((((Only.refl (· = w.heap.size + 1 + 1) w8).setAt 0 _).setAt 1 _).setAt 2 _).setAt 3 _).setAt 4 _
        refine hG8.rows.keep ho9 (fun j cs e hj ht hjb => ?_)
        subst hjb
        have he := blk_type hj hrs8
        rcases ht with h2 | h2 | ⟨h2, _⟩ <;> (rw [he] at h2; revert h2; decide)
      · exact ((((hB8.setCell (p := ⟨w.heap.size + 1 + 1, 0, none⟩) (by show w.heap.size ≤ w.heap.size + 1 + 1; omega) _).setCell (p := ⟨w.heap.size + 1 + 1, 1, none⟩) (by show w.heap.size ≤ w.heap.size + 1 + 1; omega) _).setCell (p := ⟨w.heap.size + 1 + 1, 2, none⟩) (by show w.heap.size ≤ w.heap.size + 1 + 1; omega) _).setCell (p := ⟨w.heap.size + 1 + 1, 3, none⟩) (by show w.heap.size ≤ w.heap.size + 1 + 1; omega) _).setCell (p := ⟨w.heap.size + 1 + 1, 4, none⟩) (by show w.heap.size ≤ w.heap.size + 1 + 1; omega) _
end Go.Proofs.YtgipjjhkhfihpaaGreatDoor

namespace Go.Proofs.YtgipjjhkhfihpaaGreatDoor
open Go.RowKit

/-! ### A duel is opened -/
def DOpenPost (q : QS) (l : List UInt8) (w : World) (e : Ending) (w' : World) : Prop :=
  Below w.heap.size w w' ∧ match readQ q l with
    | .inl (x, i) => e = .returned (.tuple #[.pointer none, .int .i64 (x : Int), .int .i64 (i : Int)])
    | .inr (kind, ls) => ∃ ss db gv, litsL ss = ls ∧ Tagged q kind l ss ∧ SBs ss ∧ e = .returned (.tuple #[.pointer (some ⟨db, 0, none⟩), .int .i64 0, .int .i64 0]) ∧
      GameAt w' db 79 (blW q kind) (rulesW kind ss) (openW q kind ss) gv ∧ w.heap.size ≤ db ∧ GFresh w.heap.size gv
theorem readQ_pos {q : QS} {l : List UInt8} {x i : Nat} (h : readQ q l = .inl (x, i)) : 0 < x := by
  unfold readQ at h
  split at h
  · injection h with h; injection h with h1 h2; omega
  · unfold firstQ at h
    split at h
    · injection h with h; injection h with h1 h2; omega
    · split at h
      · unfold goQ at h
        split at h
        · injection h with h; injection h with h1 h2; omega
        · split at h
          · cases h
          · injection h with h; injection h with h1 h2; omega
      · injection h with h; injection h with h1 h2; omega
theorem readQ_kind {q : QS} {l : List UInt8} {kind : Nat} {ls : List (Nat × Nat)} (h : readQ q l = .inr (kind, ls)) : kind = 1 ∨ kind = 2 := by
  unfold readQ at h
  split at h
  · cases h
  · unfold firstQ at h
    split at h
    · cases h
    · split at h
      · unfold goQ at h
        split at h
        · cases h
        · split at h
          · injection h with h
            injection h with h1 h2
            rw [← h1]; unfold kindOf; split
            · exact Or.inr rfl
            · exact Or.inl rfl
          · cases h
      · cases h
set_option maxRecDepth 100000 in
set_option maxHeartbeats 1600000 in
theorem dopen_any (lo b : Nat) (q : QS) (l : List UInt8) (w : World) (hP : ProgAt lo w b q) (hQ : QB q) :
    Calls Tryz.prog 18 #[.pointer (some ⟨b, 0, none⟩), .string ⟨l.toArray⟩] w fun e w' => DOpenPost q l w e w' := by
  obtain ⟨_, vV, vC, hfb, hV, hC⟩ := hP
  have hbw := blk_lt hfb
  have k0 : w.cell? ⟨b, 0, none⟩ = some vV := by rw [blk_cell hfb]; rfl
  have k1 : w.cell? ⟨b, 1, none⟩ = some vC := by rw [blk_cell hfb]; rfl
  obtain ⟨aV, cV, rfl⟩ := own_form hV
  obtain ⟨aC, cC, rfl⟩ := own_form hC
  go_enter Tryz.func18, Tryz.ntmps18
  go_wp2_with fail
  refine (formula_any b _ _ aV aC _ cV _ cC rfl rfl w hfb).mono ?_
  rintro e w0 ⟨rfl, hA⟩
  go_wp2_with fail
  have hfm := heap_alloc_new w0 (.cells #[.slice aV q.vars.length cV, .slice aC q.cl.length cC] 60)
  have hA1 : Below w.heap.size w (w0.alloc (.cells #[.slice aV q.vars.length cV, .slice aC q.cl.length cC] 60)) := hA.alloc hA.size _
  generalize w0.alloc (.cells #[.slice aV q.vars.length cV, .slice aC q.cl.length cC] 60) = u1 at *
  refine (pread_any q _ _ l _ (own_lo (lo := 0) (own_below hV hA1) (Nat.zero_le _)) (own_lo (lo := 0) (own_below hC hA1) (Nat.zero_le _)) hQ).mono ?_
  rintro e w1 ⟨hb1, hp⟩
  have hB1 : Below w.heap.size w w1 := hA1.trans (hb1.mono hA1.size)
  cases hq : readQ q l with
  | inl xi =>
    obtain ⟨x, i⟩ := xi
    rw [hq] at hp
    have hp' : e = .returned (.tuple #[.agg #[.int .i64 0, .slice none 0 0], .int .i64 (x : Int), .int .i64 (i : Int)]) := hp
    subst hp'
    have HC := hide hq
    have hx := readQ_pos hq
    have hxb : ((x : Int) != 0) = true := by rw [bne_iff_ne]; omega
    clear hp hq
    go_wp2_with fail
    go_ret3
    exact ⟨hB1.alloc hB1.size _, by rw [unhide HC]; rfl⟩
  | inr ks =>
    obtain ⟨kind, ls⟩ := ks
    rw [hq] at hp
    obtain ⟨ss, vS, hls, htg, hsb, rfl, hS⟩ := hp
    have HC := hide hq
    have hk := readQ_kind hq
    clear hq
    obtain ⟨aS, cS, rfl⟩ := own_form hS
    have hA2 : Below w1.heap.size w1 (w1.alloc (.cells #[.int .i64 (kind : Int), .slice aS ss.length cS] 67)) := (Below.refl _ _).alloc (Nat.le_refl _) _
    have hpr := heap_alloc_new w1 (.cells #[.int .i64 (kind : Int), .slice aS ss.length cS] 67)
    have hfm1 := (hb1.block _ (blk_lt hfm)).trans hfm
    have hfm2 := (hA2.block _ (blk_lt hfm1)).trans hfm1
    have hB2 := hB1.trans (hA2.mono hB1.size)
    have hV2 := own_lo (lo := 0) (own_below hV hB2) (Nat.zero_le _)
    have hS2 := own_lo (lo := 0) (own_below hS hA2) (Nat.zero_le _)
    have f0 : (w1.alloc (.cells #[.int .i64 (kind : Int), .slice aS ss.length cS] 67)).cell? ⟨w0.heap.size, 0, none⟩ = some (.slice aV q.vars.length cV) := by rw [blk_cell hfm2]; rfl
    have f1 : (w1.alloc (.cells #[.int .i64 (kind : Int), .slice aS ss.length cS] 67)).cell? ⟨w0.heap.size, 1, none⟩ = some (.slice aC q.cl.length cC) := by rw [blk_cell hfm2]; rfl
    have p0 : (w1.alloc (.cells #[.int .i64 (kind : Int), .slice aS ss.length cS] 67)).cell? ⟨w1.heap.size, 0, none⟩ = some (.int .i64 (kind : Int)) := by rw [blk_cell hpr]; rfl
    have p1 : (w1.alloc (.cells #[.int .i64 (kind : Int), .slice aS ss.length cS] 67)).cell? ⟨w1.heap.size, 1, none⟩ = some (.slice aS ss.length cS) := by rw [blk_cell hpr]; rfl
    have lf := blk_lt hfm2
    have lp := blk_lt hpr
    go_wp2_with fail
    refine (popen_any q ss aV aC aS cV cC cS kind _ hV2 hQ.vl hS2 hsb hk hQ).mono ?_
    rintro e w3 ⟨⟨vB, vR, hdrs⟩, rfl, hrows, hfr, hb3⟩
    have hB3 := hB2.trans (hb3.mono hB2.size)
    obtain ⟨aB, cB, hBf⟩ := own_form hrows.oB
    obtain ⟨aR, cR, hRf⟩ := own_form hrows.oR
    dsimp only at hBf hRf
    subst hBf hRf
    have HRO : Hid (∀ w', Below w3.heap.size w3 w' → GRows w' (blW q kind) (rulesW kind ss) ⟨.slice aB (blW q kind).length cB, .slice aR (rulesW kind ss).length cR, hdrs⟩) := hide (fun w' h => hrows.later h)
    have HFR : Hid (GFresh w.heap.size ⟨.slice aB (blW q kind).length cB, .slice aR (rulesW kind ss).length cR, hdrs⟩) := hide ⟨fun k hk => Nat.le_trans hB2.size (hfr.1 k hk), fun k hk => Nat.le_trans hB2.size (hfr.2.1 k hk), fun j hj k hk => Nat.le_trans hB2.size (hfr.2.2 j hj k hk)⟩
    have hs3 := hB3.size
    have HT := hide htg
    have HS := hide hsb
    clear hrows hfr htg hsb
    generalize hgo : openW q kind ss = go at *
    have HGO := hide hgo
    clear hgo
    obtain ⟨t0, v0, v1⟩ := go
    unfold GameV
    dsimp only
    go_wp2_with fail
    go_ret3
    have hA3 : Below w3.heap.size w3 (w3.alloc (.cells #[.slice aB (blW q kind).length cB, .slice aR (rulesW kind ss).length cR, .int .i64 (t0 : Int), .int .i64 (v0 : Int), .int .i64 (v1 : Int)] 79)) := (Below.refl _ _).alloc (Nat.le_refl _) _
    refine ⟨hB3.trans (hA3.mono hB3.size), ?_⟩
    rw [unhide HC]
    exact ⟨ss, w3.heap.size, ⟨.slice aB (blW q kind).length cB, .slice aR (rulesW kind ss).length cR, hdrs⟩, hls, unhide HT, unhide HS, rfl, by rw [unhide HGO]; exact ⟨heap_alloc_new _ _, Or.inr rfl, unhide HRO _ hA3⟩, hs3, unhide HFR⟩
end Go.Proofs.YtgipjjhkhfihpaaGreatDoor

namespace Go.Proofs.YtgipjjhkhfihpaaGreatDoor
open Go.RowKit

/-- A row of n numbers, all of them x. -/
def marks (n : Nat) (x : Int) : Array Value := (List.replicate n (Value.int .i64 x)).toArray
def halfMarks (cur : Array Value) (i : Nat) (x : Int) : Array Value := (List.replicate i (Value.int .i64 x) ++ cur.toList.drop i).toArray
theorem halfMarks_zero (cur : Array Value) (x : Int) : halfMarks cur 0 x = cur := by simp [halfMarks]
theorem halfMarks_all (cur : Array Value) (x : Int) : halfMarks cur cur.size x = marks cur.size x := by
  unfold halfMarks marks
  rw [List.drop_of_length_le (by simp)]; simp
theorem halfMarks_size (cur : Array Value) (i : Nat) (x : Int) (h : i ≤ cur.size) : (halfMarks cur i x).size = cur.size := by
  simp [halfMarks]; omega
theorem halfMarks_succ (cur : Array Value) (i : Nat) (x : Int) (h : i < cur.size) : (halfMarks cur i x).setIfInBounds i (.int .i64 x) = halfMarks cur (i + 1) x := by
  unfold halfMarks
  apply Array.ext'
  rw [Array.toList_setIfInBounds]
  simp only
  rw [List.set_append_right _ _ (by simp)]
  simp only [List.length_replicate, Nat.sub_self]
  rw [List.drop_eq_getElem_cons (by simpa using h), List.set_cons_zero, List.replicate_succ', List.append_assoc]
  rfl

theorem Tryz.info25 : (Tryz.prog.info? 25).map (fun i => (i.zero, i.size, i.bytes)) = some (some (.slice none 0 0), 1, 24) := by kernel_rfl

/-- What 'mine' leaves. -/
structure MinePost (bw g : Nat) (cap : Nat) (nls : Nat) (hdrs : List Value) (vls : Value) (text : List UInt8) (px pf : Option Addr) (proof : List UInt8) (c4 c6 : Value) (w : World) (e : Ending) (w' : World) : Prop where
  ret : e = .returned (.tuple #[])
  only : Only (fun k => k = bw ∨ k = g ∨ vls.ownBlock = some k) w w'
  row : w'.heap[g]? = some (.cells (marks cap (-10 - (nls : Int))) 3 (0, 0))
  at_ : ∃ vls', WAt w' bw text px pf proof c4 vls' c6 ∧ w'.ownsRow (bw + 1) 25 1 vls' (nls + 1) (hdrs ++ [.slice (some ⟨g, 0, none⟩) cap cap]) ∧ (vls'.ownBlock = vls.ownBlock ∨ ∃ k, vls'.ownBlock = some k ∧ w.heap.size ≤ k)

set_option maxRecDepth 100000 in
set_option maxHeartbeats 1600000 in
theorem mine_any (bw g n cap : Nat) (cur : Array Value) (nls : Nat) (hdrs : List Value) (vls : Value) (text : List UInt8) (px pf : Option Addr) (proof : List UInt8) (c4 c6 : Value) (w : World)
    (hw : WAt w bw text px pf proof c4 vls c6) (hg : w.heap[g]? = some (.cells cur 3 (0, 0))) (hcs : cur.size = cap) (hnc : n ≤ cap) (hcm : cap ≤ maxLen) (hls : w.ownsRow (bw + 1) 25 1 vls nls hdrs) (hnl : nls ≤ 1073741824) :
    Calls Tryz.prog 39 #[.pointer (some ⟨bw, 0, none⟩), .slice (some ⟨g, 0, none⟩) n cap] w fun e w' => MinePost bw g cap nls hdrs vls text px pf proof c4 c6 w e w' := by
  have hbw : bw < w.heap.size := blk_lt hw
  have hgs : g < w.heap.size := blk_lt hg
  have hne : g ≠ bw := by
    intro e; subst e
    unfold WAt at hw
    rw [hg] at hw
    simp at hw
  have hapart : vls.ownBlock ≠ some g := fun e => by
    rcases hls.2 with ⟨rfl, _⟩ | ⟨g', c', cur', rfl, _, hh, _⟩
    · simp [Value.ownBlock] at e
    · simp [Value.ownBlock] at e
      subst e
      rw [hg] at hh
      simp at hh
  have hapw : vls.ownBlock ≠ some bw := fun e => by have := hls.lt _ e; omega
  have HCS := hide hcs; clear hcs
  obtain ⟨al, cl, rfl⟩ := own_form hls
  have hcm' := hcm
  unfold maxLen at hcm
  obtain ⟨i0, hi, hz0, hz1, hz2⟩ := info_parts Tryz.info25
  have h5 : w.cell? ⟨bw, 5, none⟩ = some (.slice al nls cl) := by rw [blk_cell hw]; rfl
  go_enter Tryz.func39, Tryz.ntmps39
  go_wp2_with fail
  go_loopg [4] cap (fun q i wx => ∃ k : Nat, i = .int .i64 k ∧ k + q = cap ∧ Only (· = g) w wx ∧ wx.heap[g]? = some (.cells (halfMarks cur k (-10 - (nls : Int))) 3 (0, 0)))
  case atStart => exact ⟨0, rfl, by omega, Only.refl _ _, by rw [halfMarks_zero]; exact hg⟩
  case round =>
    obtain ⟨k, rfl, hk, ho, hgx⟩ := hrel
    have hwx : WAt wr bw text px pf proof c4 (.slice al nls cl) c6 := (ho.block bw hbw (fun e => hne e.symm)).trans hw
    have k5 : wr.cell? ⟨bw, 5, none⟩ = some (.slice al nls cl) := by rw [blk_cell hwx]; rfl
    by_cases hlt : k < cap
    · have hsz := halfMarks_size cur k (-10 - (nls : Int)) (by have := unhide HCS; omega)
      obtain ⟨u, hu⟩ : ∃ u, wr.cell? ⟨g, k, none⟩ = some u := by
        rw [blk_cell hgx]
        exact ⟨_, Array.getElem?_eq_getElem (by rw [hsz]; have := unhide HCS; omega)⟩
      have hz := blk_free hgx k
      have HHS := hide (halfMarks_succ cur k (-10 - (nls : Int)) (by have := unhide HCS; omega))
      have HST := hide (blk_set hgx k (.int .i64 (-10 - (nls : Int))))
      clear hsz
      go_wp2_with fail
      go_roundg (gk - 1)
      case measure => omega
      case rel => exact ⟨k + 1, by go_num, by omega, ho.setAt _ _, by rw [← unhide HHS]; exact unhide HST⟩
    · have hkl : k = cap := by omega
      subst hkl
      have hgm : wr.heap[g]? = some (.cells (marks k (-10 - (nls : Int))) 3 (0, 0)) := by
        have h1 := halfMarks_all cur (-10 - (nls : Int))
        rw [unhide HCS] at h1
        rw [← h1]; exact hgx
      have hlsx : wr.ownsRow (bw + 1) 25 1 (.slice al nls cl) nls hdrs := hls.kept (row := some g) ⟨ho.os, ho.tape, ho.output, ho.size, fun j hj hne => ho.block j hj (fun e => hne (by rw [e]))⟩ (Or.inr hapart)
      have hbs : bw + 1 ≤ wr.heap.size := by have := ho.size; omega
      go_wp2_with (at_builtin; refine wpList_append_at rfl (.tmp 28) (.tmp 30) 45 rfl (bw + 1) i0 (.slice none 0 0) 1 24 Tryz.underlying45 hi hz0 hz1 hz2 rfl (by decide) _ _ _ hlsx rfl rfl rfl (by simp [Value.oneCell']) (by unfold maxLen; omega) (by omega) hbs ?_; intro v' w4 hown4 hgrow hat; have hw4 : WAt w4 bw text px pf proof c4 (.slice al nls cl) c6 := (hgrow.block bw (blk_lt hwx) (fun e => hapw e.symm)).trans hwx; obtain ⟨g3, cap3, rfl, hg3, hg3', hcap3, hcell3⟩ := own_pos hown4 (by omega); have hq5 : w4.cell? ⟨bw, 5, none⟩ = some (.slice al nls cl) := (by rw [blk_cell hw4]; rfl); have hqz := blk_free hw4 5)
      go_end0
      refine ⟨rfl, ?_, ?_, _, blk_set hw4 5 _, ownsRow_setCell_below hown4 (a := ⟨bw, 5, none⟩) (Nat.lt_succ_self bw) _, ?_⟩
      · refine Only.setCell ?_ (p := ⟨bw, 5, none⟩) (Or.inl (Or.inl rfl)) _
        exact (ho.mono (fun k _ h => Or.inr (Or.inl h))).grown hgrow (fun k hk => Or.inl (Or.inr (Or.inr hk)))
      · rw [Below.heap_setCell _ _ _ _ hne]
        rw [hgrow.block g (blk_lt hgm) (fun e => hapart e.symm)]
        exact hgm
      · rcases hat with h | ⟨k', h1, h2⟩
        · exact Or.inl h
        · exact Or.inr ⟨k', h1, by have := ho.size; omega⟩
end Go.Proofs.YtgipjjhkhfihpaaGreatDoor
