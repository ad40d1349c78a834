import Derived.Test.YtgipjjhkhfihpabGreatDoorBE
import Derived.Test.YtgipjjhkhfihpabGreatDoorAF
import Derived.Test.YtgipjjhkhfihpabGreatDoorBF
import Derived.Test.YtgipjjhkhfihpabGreatDoorAB
import Derived.Test.YtgipjjhkhfihpabGreatDoorAH
import Derived.Deep.QuietTactic
import Derived.BigQuiet
import Derived.Test.YtgipjjhkhfihpabGreatDoorAL
import Derived.Test.YtgipjjhkhfihpabGreatDoorAK
import Derived.Deep.DeepCutAuto
import Derived.Deep.RegionWith
namespace Go.Proofs.YtgipjjhkhfihpabGreatDoor
open Go.RowKit

/-! ### The values of a game -/
def valV (c : Nat × Nat) (v : Nat) : Int := if L c false v then -1 else if L c true v then 1 else 0
theorem run_L {q : QS} (hq : QGood q) {kind : Nat} {rs : List RuleP} {g : GS} {bs : List Bool} (h : Run q kind rs g bs) (s : Bool) (v : Nat) : L g.vals s v = true ↔ ∃ j, ∃ hj : j < q.vars.length, j < bs.length ∧ q.vars[j].1 = v ∧ bs.reverse.getD j false = s := by
  have hle : bs.length ≤ q.vars.length := by
    rw [h.len]; have := offs_le (progBlocks q.vars) g.turn; rw [progBlocks_flat, List.length_map] at this; exact this
  rw [h.vals, valsTo_L _ (fun v hv => hq.name hv) bs (by simpa using hle)]
  constructor
  · rintro ⟨j, h1, h2, h3⟩
    have hj : j < q.vars.length := by omega
    exact ⟨j, hj, h1, by rw [← name_at j hj]; exact h2, h3⟩
  · rintro ⟨j, hj, h1, h2, h3⟩
    exact ⟨j, h1, by rw [name_at j hj]; exact h2, h3⟩
theorem vars_inj {q : QS} (hq : QGood q) {i j : Nat} (hi : i < q.vars.length) (hj : j < q.vars.length) (e : q.vars[i].1 = q.vars[j].1) : i = j := index_inj hq hi hj e
/-- The value of the variable at a place. -/
theorem run_val {q : QS} (hq : QGood q) {kind : Nat} {rs : List RuleP} {g : GS} {bs : List Bool} (h : Run q kind rs g bs) {j : Nat} (hj : j < q.vars.length) (hb : j < bs.length) : valV g.vals q.vars[j].1 = if bs.reverse.getD j false then 1 else -1 := by
  have hone : ∀ s, L g.vals s q.vars[j].1 = true ↔ bs.reverse.getD j false = s := fun s => by
    rw [run_L hq h]
    constructor
    · rintro ⟨i, hi, _, h2, h3⟩
      rw [vars_inj hq hi hj h2] at h3; exact h3
    · intro e; exact ⟨j, hj, hb, rfl, e⟩
  unfold valV
  cases e : bs.reverse.getD j false with
  | true =>
    have h1 := (hone true).2 e
    have h0 : L g.vals false q.vars[j].1 = false := by
      cases hc : L g.vals false q.vars[j].1 with
      | false => rfl
      | true => have := (hone false).1 hc; rw [e] at this; cases this
    rw [h0, h1]; rfl
  | false =>
    have h1 := (hone false).2 e
    rw [h1]; rfl
theorem move_run {q : QS} (hq : QGood q) {kind : Nat} (hk : kind = 1 ∨ kind = 2) {rs : List RuleP} {g : GS} {bs : List Bool} (h : Run q kind rs g bs) (hs : Stands q kind g) (ht : g.turn < (progBlocks q.vars).length) (bits : Nat) :
    ∃ b2, Run q kind rs (moveW rs (blW q kind) g bits) (b2 ++ bs) ∧ Stands q kind (moveW rs (blW q kind) g bits) ∧ g.turn + 1 ≤ (moveW rs (blW q kind) g bits).turn ∧
      (∀ j (hj : j < (progBlocks q.vars).length), g.turn + 1 ≤ j → j < (moveW rs (blW q kind) g bits).turn → winsW q kind (progBlocks q.vars)[j] = true) ∧
      ∀ i (hi : i < (progBlocks q.vars)[g.turn].length), valV (moveW rs (blW q kind) g bits).vals (progBlocks q.vars)[g.turn][i] = if bits.testBit i then 1 else -1 := by
  obtain ⟨b1, h1, h2, h3⟩ := move_part hq hk ht (hs.lose ht) bits (progBlocks q.vars)[g.turn].length 0 g.vals bs (by omega) h.part
  rw [List.drop_zero] at h1
  obtain ⟨b2, r1, r2, r3, r4⟩ := ans_run hq hk ((blW q kind).length - (g.turn + 1)) ⟨g.turn + 1, _⟩ _ (by show g.turn + 1 + _ = _; rw [blW_length]; omega) (h1.done ht)
  have e : moveW rs (blW q kind) g bits = ansGo rs (blW q kind) ((blW q kind).length - (g.turn + 1)) ⟨g.turn + 1, moveBlk (progBlocks q.vars)[g.turn] bits 0 g.vals⟩ := by
    unfold moveW ansW; rw [blW_at q kind _ ht]
  rw [e]
  refine ⟨b2 ++ b1, by rw [List.append_assoc]; exact r1, r2, r3, r4, fun i hi => ?_⟩
  have hlt := offs_lt g.turn i ht hi
  have hx : (q.vars[offs (progBlocks q.vars) g.turn + i]'hlt).1 = (progBlocks q.vars)[g.turn][i] := by rw [← name_at _ hlt]; exact names_at g.turn i ht hi
  have hl := h.len
  rw [← hx, run_val hq r1 hlt (by simp; omega)]
  rw [← List.append_assoc, List.reverse_append, List.getD, List.getElem?_append_right (by simp; omega)]
  have h4 := h3 i hi
  rw [Nat.zero_add] at h4
  rw [← h4, List.getD, show offs (progBlocks q.vars) g.turn + i - bs.reverse.length = i from by simp; omega, List.reverse_append, List.getElem?_append_left (by simp; omega)]
theorem open_run {q : QS} (hq : QGood q) {kind : Nat} (hk : kind = 1 ∨ kind = 2) (ss : List Stp) :
    ∃ bs, Run q kind (rulesW kind ss) (openW q kind ss) bs ∧ Stands q kind (openW q kind ss) ∧ ∀ j (hj : j < (progBlocks q.vars).length), j < (openW q kind ss).turn → winsW q kind (progBlocks q.vars)[j] = true := by
  obtain ⟨b2, r1, r2, _, r4⟩ := ans_run hq hk (rs := rulesW kind ss) (blW q kind).length ⟨0, (0, 0)⟩ [] (by show 0 + _ = _; rw [blW_length]; omega) (run_zero q kind _)
  exact ⟨b2 ++ [], r1, r2, fun j hj h => r4 j hj (Nat.zero_le _) h⟩

/-! ### At the end the side that wins has won -/
theorem emptyLast_hits {ss : List Stp} (h : closedQ (litsL ss) = true) (kind : Nat) (V : Nat × Nat) : ∃ i, ∃ hi : i < ss.length, Hits kind V ss[i].lits := by
  rw [closed_lits, Bool.and_eq_true] at h
  obtain ⟨h1, h2⟩ := h
  have hp : 0 < ss.length := by simpa using h1
  obtain ⟨m, hm⟩ : ∃ m, ss.length = m + 1 := ⟨ss.length - 1, by omega⟩
  have e1 : litsAt ss ss.length = (ss[m]'(by omega)).lits := by have h5 := litsAt_in ss m (by omega); rwa [← hm] at h5
  rw [e1] at h2
  refine ⟨m, by omega, fun s v hl => ?_⟩
  have he : emptyB (ss[m]'(by omega)).lits = true := h2
  rw [(empty_iff _).1 he s v] at hl
  cases hl
theorem won_end {q : QS} (hq : QGood q) {kind : Nat} (hk : kind = 1 ∨ kind = 2) {ss : List Stp} (hs : Steps2 q kind ss) (hc : closedQ (litsL ss) = true) {g : GS} {bs : List Bool} (h : Run q kind (rulesW kind ss) g bs) (ht : g.turn = (progBlocks q.vars).length) : WonBy q kind g.vals := by
  have hl : bs.length = q.vars.length := by rw [h.len, ht, offs_all, progBlocks_flat, List.length_map]
  obtain ⟨i, hi, hh⟩ := emptyLast_hits hc kind g.vals
  rw [h.vals] at hh ⊢
  exact won_step hq hk hs hl h.keeps i hi hh
theorem run_uniq {q : QS} (hq : QGood q) {kind : Nat} {rs : List RuleP} {g : GS} {bs : List Bool} (h : Run q kind rs g bs) {v : Nat} (h0 : L g.vals false v = true) : L g.vals true v = false := by
  cases hc : L g.vals true v with
  | false => rfl
  | true =>
    obtain ⟨i, hi, _, i2, i3⟩ := (run_L hq h _ _).1 h0
    obtain ⟨j, hj, _, j2, j3⟩ := (run_L hq h _ _).1 hc
    rw [vars_inj hq hi hj (i2.trans j2.symm), j3] at i3
    cases i3
theorem won_sat {q : QS} (hq : QGood q) {kind : Nat} {rs : List RuleP} {g : GS} {bs : List Bool} (h : Run q kind rs g bs) (hw : WonBy q kind g.vals) : satB q.cl g.vals.1 = (kind == 2) := by
  rcases hw with ⟨rfl, c, hc, _, hh⟩ | ⟨rfl, c, hc, hh⟩
  · show satB q.cl g.vals.1 = false
    cases hs : satB q.cl g.vals.1 with
    | false => rfl
    | true =>
      obtain ⟨v, ⟨h1, h2⟩ | ⟨h1, h2⟩⟩ := (satC_iff _ _).1 ((satB_iff _ _).1 hs c hc)
      · have := run_uniq hq h (hh true v h1)
        rw [show L g.vals true v = g.vals.1.testBit v from rfl, h2] at this; cases this
      · have : g.vals.1.testBit v = true := hh false v h1
        rw [h2] at this; cases this
  · show satB q.cl g.vals.1 = true
    rw [satB_iff]
    intro x hx
    unfold satQ at hc
    have ho := List.all_eq_true.1 hc x hx
    unfold okC at ho
    rw [Bool.or_eq_true] at ho
    rw [satC_iff]
    rcases ho with ho | ho
    · obtain ⟨s, v, h1, h2⟩ := (meets_iff x c).1 ho
      have h3 : L g.vals s v = true := hh s v h2
      cases s with
      | true => exact ⟨v, Or.inl ⟨h1, h3⟩⟩
      | false => exact ⟨v, Or.inr ⟨h1, run_uniq hq h h3⟩⟩
    · obtain ⟨v, h1, h2⟩ := (clash_iff x).1 ho
      cases hb : g.vals.1.testBit v with
      | true => exact ⟨v, Or.inl ⟨h1, hb⟩⟩
      | false => exact ⟨v, Or.inr ⟨h2, hb⟩⟩

/-! ### Of proofs that were read -/
theorem steps_of {F : Form} {q : QS} (h : FQ F q) (hF : FOk F) {l : List UInt8} {kind : Nat} {ss : List Stp} (hr : readQ q l = .inr (kind, litsL ss)) (ht : Tags q kind ss) (hb : SBs ss) :
    Steps2 q kind ss ∧ closedQ (litsL ss) = true ∧ ∃ truth two, provesR F l = .inr (truth, two) ∧ kind = kd truth := by
  unfold readQ at hr
  by_cases hl : 262144 < l.length
  · rw [if_pos hl] at hr; cases hr
  · rw [if_neg hl] at hr
    cases hrows : (cutTo 10 l).1 with
    | nil => rw [hrows] at hr; cases hr
    | cons r0 rs =>
      rw [hrows] at hr
      unfold firstQ at hr
      dsimp only at hr
      by_cases hr0 : r0 = sTrue ∨ r0 = sFalse
      · rw [if_pos hr0] at hr
        have hk : kindOf r0 = kd (r0 == sTrue) := by
          unfold kindOf kd
          by_cases e : r0 = sTrue
          · rw [if_pos e, if_pos (by simpa using e)]
          · rw [if_neg e, if_neg (by simpa using e)]
        unfold goQ at hr
        rw [hk, rowsQ_eq h hF (r0 == sTrue) rs [] 1 (by simp) (by simp) (by simp)] at hr
        cases hrr : rowsR F (r0 == sTrue) [] 1 rs with
        | inr i => rw [hrr] at hr; cases hr
        | inl s2 =>
          rw [hrr] at hr
          dsimp only at hr
          split at hr
          · next hc =>
            injection hr with hr
            injection hr with e1 e2
            subst e2
            have hg := good_rows hF (r0 == sTrue) rs [] 1 _ (by simp) hrr
            have hmem : ∀ s ∈ ss, s.lits ∈ litsL ss := fun s hs => List.mem_map_of_mem hs
            refine ⟨⟨ht, fun s hs => ⟨hb.bits s hs, fun t v hv => ?_⟩, fun s hs v a b => (hg _ (hmem s hs)).apart v a b⟩, hc.2, r0 == sTrue, twoR rs, ?_, e1.symm⟩
            · rw [← h.order]
              refine (hg _ (hmem s hs)).vars v ?_
              cases t with
              | true => exact Or.inl hv
              | false => exact Or.inr hv
            · unfold provesR
              rw [if_neg hl, hrows]
              dsimp only
              rw [if_pos hr0, hrr]
              dsimp only
              rw [if_pos ⟨by simpa using hc.1, hc.2⟩]
          · cases hr
      · rw [if_neg hr0] at hr; cases hr
end Go.Proofs.YtgipjjhkhfihpabGreatDoor

namespace Go.Proofs.YtgipjjhkhfihpabGreatDoor
open Go.RowKit

theorem Tryz.infoInts : (Tryz.prog.info? 59).map (fun i => (i.zero, i.size, i.bytes)) = some (some (.slice none 0 0), 1, 24) := by kernel_rfl

/-- Lists of numbers, each in a row of its own; their headers in a row. -/
structure RowsAt (base : Nat) (w : World) (bs : List (List Nat)) (hdrs : List Value) : Prop where
  len : hdrs.length = bs.length
  row : ∀ j (hj : j < bs.length), w.ownsRow base 3 1 (hdrs[j]'(by omega)) bs[j].length (ints bs[j]) ∧ bs[j] ≠ []
  apart : ∀ i j (hi : i < hdrs.length) (hj : j < hdrs.length), i ≠ j → apart hdrs[i] hdrs[j]
structure BInv (base : Nat) (w : World) (bs : List (List Nat)) (cur : List Nat) (hdrs : List Value) (vB vb : Value) : Prop where
  rows : RowsAt base w bs hdrs
  oB : w.ownsRow base 59 1 vB bs.length hdrs
  ob : w.ownsRow base 3 1 vb cur.length (ints cur)
  ap : ∀ j (hj : j < hdrs.length), apart vb hdrs[j]

theorem RowsAt.later {base : Nat} {w w' : World} {bs : List (List Nat)} {hdrs : List Value} (h : RowsAt base w bs hdrs) (hb : Below w.heap.size w w') : RowsAt base w' bs hdrs :=
  ⟨h.len, fun j hj => ⟨own_below (h.row j hj).1 hb, (h.row j hj).2⟩, h.apart⟩
theorem BInv.later {base : Nat} {w w' : World} {bs : List (List Nat)} {cur : List Nat} {hdrs : List Value} {vB vb : Value} (h : BInv base w bs cur hdrs vB vb) (hb : Below w.heap.size w w') : BInv base w' bs cur hdrs vB vb :=
  ⟨h.rows.later hb, own_below h.oB hb, own_below h.ob hb, h.ap⟩

theorem BInv.push_block {base : Nat} {w w' : World} {bs : List (List Nat)} {cur : List Nat} {hdrs : List Value} {vB vb v' : Value} (h : BInv base w bs cur hdrs vB vb) (hc : cur ≠ []) (hg : w.grownBy w' vB.ownBlock)
    (hown : w'.ownsRow base 59 1 v' (bs.length + 1) (hdrs ++ [vb])) : BInv base w' (bs ++ [cur]) [] (hdrs ++ [vb]) v' (.slice none 0 0) := by
  have hl := h.rows.len
  have kb := own_kept h.ob (Below.refl _ _) h.oB hg (by decide)
  refine ⟨⟨by simp [hl], ?_, ?_⟩, by simpa using hown, World.ownsRow_nil _ _ _ _, fun _ _ => apart_nil _⟩
  · intro j hj
    by_cases hjl : j < bs.length
    · have := h.rows.row j hjl
      simp only [List.getElem_append_left hjl, List.getElem_append_left (show j < hdrs.length by omega)]
      exact ⟨own_kept this.1 (Below.refl _ _) h.oB hg (by decide), this.2⟩
    · have hje : j = bs.length := by simp at hj; omega
      subst hje
      simp only [List.getElem_concat_length]
      rw [show (hdrs ++ [vb])[bs.length]'(by simp; omega) = vb from by simp [← hl]]
      exact ⟨kb, hc⟩
  · intro i j hi hj hij
    by_cases hil : i < hdrs.length
    · by_cases hjl : j < hdrs.length
      · simp only [List.getElem_append_left hil, List.getElem_append_left hjl]
        exact h.rows.apart i j hil hjl hij
      · have hje : j = hdrs.length := by simp at hj; omega
        subst hje
        simp only [List.getElem_append_left hil, List.getElem_concat_length]
        exact (h.ap i hil).symm
    · have hie : i = hdrs.length := by simp at hi; omega
      subst hie
      have hjl : j < hdrs.length := by simp at hj; omega
      simp only [List.getElem_append_left hjl, List.getElem_concat_length]
      exact h.ap j hjl
theorem BInv.push_var {base : Nat} {w w' : World} {bs : List (List Nat)} {cur : List Nat} {hdrs : List Value} {vB vb v' : Value} {x : Nat} (h : BInv base w bs cur hdrs vB vb) (hg : w.grownBy w' vb.ownBlock)
    (hown : w'.ownsRow base 3 1 v' (cur.length + 1) (ints cur ++ [.int .i64 (x : Int)])) (hat : v'.ownBlock = vb.ownBlock ∨ ∃ k, v'.ownBlock = some k ∧ w.heap.size ≤ k) : BInv base w' bs (cur ++ [x]) hdrs vB v' := by
  refine ⟨⟨h.rows.len, fun j hj => ⟨?_, (h.rows.row j hj).2⟩, h.rows.apart⟩, own_kept h.oB (Below.refl _ _) h.ob hg (by decide), by simpa [ints] using hown, fun j hj => ?_⟩
  · have hl := h.rows.len
    exact (h.rows.row j hj).1.kept hg (h.ap j (by omega)).symm.keep
  · have hl := h.rows.len
    exact (h.ap j hj).grown (h.rows.row j (by omega)).1 hat

/-- A block of another kind is as it was behind an append. -/
theorem blk_kept {w w' : World} {v : Value} {base n size g : Nat} {e t : TypeId} {xs : List Value} {cs : Array Value} (hg : w.grownBy w' v.ownBlock) (ho : w.ownsRow base e size v n xs) (hb : w.heap[g]? = some (.cells cs t (0, 0))) (he : t ≠ e) : w'.heap[g]? = some (.cells cs t (0, 0)) := by
  rw [hg.block g (blk_lt hb) (fun eq => by
    rcases ho.2 with ⟨rfl, _⟩ | ⟨g', cap, cur', rfl, _, hh, _⟩
    · simp [Value.ownBlock] at eq
    · simp [Value.ownBlock] at eq
      subst eq
      rw [hb] at hh
      simp at hh
      exact he hh.2)]
  exact hb

theorem gather_len (vs : List (Nat × Bool)) (k : Nat) : (gather vs k).1.length ≤ k ∧ (gather vs k).2.length ≤ k := by
  induction k with
  | zero => simp [gather]
  | succ k ih =>
    rw [gather]
    split <;> simp <;> omega

def QBlocksPost (vs : List (Nat × Bool)) (w : World) (e : Ending) (w' : World) : Prop :=
  ∃ v hdrs, e = .returned v ∧ w'.ownsRow w.heap.size 59 1 v (progBlocks vs).length hdrs ∧ RowsAt w.heap.size w' (progBlocks vs) hdrs ∧ Below w.heap.size w w'

set_option maxRecDepth 100000 in
set_option maxHeartbeats 3200000 in
theorem qblocks_any (base b : Nat) (q : QS) (w : World) (aV : Option Addr) (cV : Nat) (hf : w.cell? ⟨b, 0, none⟩ = some (.slice aV q.vars.length cV)) (hb : b < w.heap.size) (hV : w.ownsRow base 109 2 (.slice aV q.vars.length cV) q.vars.length (varCells q.vars)) (hl : q.vars.length ≤ 1048576) :
    Calls Tryz.prog 37 #[.pointer (some ⟨b, 0, none⟩)] w fun e w' => QBlocksPost q.vars w e w' := by
  obtain ⟨i3, hi3, hz30, hz31, hz32⟩ := info_parts Tryz.info3
  obtain ⟨i5, hi5, hz50, hz51, hz52⟩ := info_parts Tryz.infoInts
  go_enter Tryz.func37, Tryz.ntmps37
  go_wp2_with fail
  go_loopg [3, 4, 12] (q.vars.length) (fun n vB vb i wx => ∃ (k : Nat) (hdrs : List Value), i = .int .i64 k ∧ k + n = q.vars.length ∧ BInv w.heap.size wx (gather q.vars k).1 (gather q.vars k).2 hdrs vB vb ∧ Below w.heap.size w wx)
  case atStart => exact ⟨0, [], rfl, by omega, ⟨⟨rfl, fun j hj => by simp [gather] at hj, fun i j hi => by simp at hi⟩, World.ownsRow_nil _ _ _ _, World.ownsRow_nil _ _ _ _, fun j hj => by simp at hj⟩, Below.refl _ _⟩
  case round =>
    obtain ⟨k, hdrs, rfl, hk, hB, hbx⟩ := hrel
    have hbs := hbx.size
    obtain ⟨gl1, gl2⟩ := gather_len q.vars k
    by_cases hlt : k < q.vars.length
    · obtain ⟨g, cap, hVe, hg, hg', _, hcell⟩ := own_pos hV (by omega)
      injection hVe with hVe _ hV2
      subst hVe hV2
      have hgw : g < wr.heap.size := by omega
      have hbw : b < wr.heap.size := by omega
      obtain ⟨ha, hb'⟩ := varCells_at q.vars k hlt
      have hx0 : wr.cell? ⟨g, k * 2, none⟩ = some (.int .i64 (q.vars[k].1 : Int)) := by rw [hbx.cell (p := ⟨g, k * 2, none⟩) hg']; exact hcell _ _ ha
      have hx1 : wr.cell? ⟨g, k * 2 + 1, none⟩ = some (.bool q.vars[k].2) := by rw [hbx.cell (p := ⟨g, k * 2 + 1, none⟩) hg']; exact hcell _ _ hb'
      have hf1 : wr.cell? ⟨b, 0, none⟩ = some (.slice (some ⟨g, 0, none⟩) q.vars.length cV) := by rw [hbx.cell (p := ⟨b, 0, none⟩) hb]; exact hf
      have hdk : decide ((k : Int) < (q.vars.length : Int)) = true := by simp; omega
      have HG : Hid (gather q.vars (k + 1) = if newAt q.vars k then ((gather q.vars k).1 ++ [(gather q.vars k).2], [q.vars[k].1]) else ((gather q.vars k).1, (gather q.vars k).2 ++ [q.vars[k].1])) := hide (by
        rw [gather]; simp [List.getD, hlt])
      by_cases h0 : 0 < k
      · obtain ⟨ha1, hb1⟩ := varCells_at q.vars (k - 1) (by omega)
        have hy1 : wr.cell? ⟨g, (k - 1) * 2 + 1, none⟩ = some (.bool q.vars[k - 1].2) := by rw [hbx.cell (p := ⟨g, (k - 1) * 2 + 1, none⟩) hg']; exact hcell _ _ hb1
        have hd0 : decide (0 < k) = true := by simpa using h0
        have HN : Hid (newAt q.vars k = (q.vars[k].2 != q.vars[k - 1].2)) := hide (by
          unfold newAt kindAt; simp [List.getD, hlt, show k - 1 < q.vars.length by omega, h0])
        have hcur : (gather q.vars k).2 ≠ [] := by
          intro e
          have := gather_pos q.vars (k - 1)
          rw [show k - 1 + 1 = k from by omega, e] at this
          simp at this
        clear hcell ha hb' ha1 hb1
        generalize gather q.vars k = G at *
        obtain ⟨bs, cur⟩ := G
        dsimp only at hB gl1 gl2 hcur
        generalize q.vars[k - 1] = y at *
        generalize q.vars[k] = x at *
        obtain ⟨x1, x2⟩ := x
        obtain ⟨y1, y2⟩ := y
        dsimp only at hx0 hx1 hy1
        have hbelA : ∀ nq, Below wr.heap.size wr ((wr.alloc (.cells #[.int .i64 (x1 : Int), .bool x2] 109)).drewN nq) := fun nq => below_drewN ((Below.refl _ _).alloc (Nat.le_refl _) _) nq
        have hcvA : ∀ nq, ((wr.alloc (.cells #[.int .i64 (x1 : Int), .bool x2] 109)).drewN nq).heap[wr.heap.size]? = some (.cells #[.int .i64 (x1 : Int), .bool x2] 109 (0, 0)) := fun nq => heap_alloc_new wr _
        have HBA := hide hbelA
        have HCA := hide hcvA
        clear hbelA hcvA
        cases hxy : (x2 != y2) with
        | false =>
          have HN2 : Hid (newAt q.vars k = false) := hide (by rw [unhide HN]; exact hxy)
          have HXY := hide hxy
          clear hxy
          cases x2 <;> cases y2 <;> first | (exfalso; exact absurd (unhide HXY) (by decide)) | skip
          all_goals
            go_wp2_with fail
            go_quiet (fail)
            have hb1 := unhide HBA nq
            have hc1 := unhide HCA nq
            generalize World.drewN _ nq = W at *
            have hBW := hB.later hb1
            have hbW : Below w.heap.size w W := hbx.trans (hb1.mono hbs)
            have hbWs := hbW.size
            have hcv : W.cell? ⟨wr.heap.size, 0, none⟩ = some (.int .i64 (x1 : Int)) := by rw [blk_cell hc1]; rfl
            go_wp2_with (at_builtin; refine wpList_append_at rfl (.tmp 37) (.tmp 40) 59 rfl w.heap.size i3 (.int .i64 0) 1 8 Tryz.underlying59 hi3 hz30 hz31 hz32 rfl (by decide) _ _ _ hBW.ob rfl rfl rfl (by simp [Value.oneCell']) (by unfold maxLen; omega) (by omega) hbWs ?_; intro v5 w5 hown5 hgrow5 hat5)
            go_roundg (gk - 1)
            case measure => omega
            case rel =>
              refine ⟨k + 1, hdrs, by go_num, by omega, ?_, below_grown hbW hgrow5 hBW.ob (Nat.le_refl _) hbWs⟩
              rw [unhide HG, unhide HN2, if_neg (by decide)]
              exact hBW.push_var hgrow5 hown5 hat5
        | true =>
          have HN2 : Hid (newAt q.vars k = true) := hide (by rw [unhide HN]; exact hxy)
          have HXY := hide hxy
          clear hxy
          have hcl : 0 < cur.length := List.length_pos_iff.2 hcur
          cases x2 <;> cases y2 <;> first | (exfalso; exact absurd (unhide HXY) (by decide)) | skip
          all_goals
            go_wp2_with fail
            go_quiet (fail)
            have hb1 := unhide HBA nq
            have hc1 := unhide HCA nq
            generalize World.drewN _ nq = W at *
            have hBW := hB.later hb1
            have hbW : Below w.heap.size w W := hbx.trans (hb1.mono hbs)
            have hbWs := hbW.size
            obtain ⟨gb, capb, rfl, _, _, _, _⟩ := own_pos hBW.ob hcl
            go_wp2_with (first | (at_builtin; refine wpList_append_at rfl (.tmp 33) (.tmp 35) 64 rfl w.heap.size i5 (.slice none 0 0) 1 24 Tryz.underlying64 hi5 hz50 hz51 hz52 rfl (by decide) _ _ _ hBW.oB rfl rfl rfl (by simp [Value.oneCell']) (by unfold maxLen; omega) (by omega) hbWs ?_; intro v4 w4 hown4 hgrow4 hat4; have hB4 := hBW.push_block hcur hgrow4 hown4; have hc4 := blk_kept hgrow4 hBW.oB hc1 (by decide); have hcv : w4.cell? ⟨wr.heap.size, 0, none⟩ = some (.int .i64 (x1 : Int)) := (by rw [blk_cell hc4]; rfl); have hb4 := below_grown hbW hgrow4 hBW.oB (Nat.le_refl _) hbWs; have hb4s := hb4.size) | (at_builtin; refine wpList_append_at rfl (.tmp 37) (.tmp 40) 59 rfl w.heap.size i3 (.int .i64 0) 1 8 Tryz.underlying59 hi3 hz30 hz31 hz32 rfl (by decide) _ _ _ hB4.ob rfl rfl rfl (by simp [Value.oneCell']) (by unfold maxLen; simp) (by simp) hb4s ?_; intro v5 w5 hown5 hgrow5 hat5))
            go_roundg (gk - 1)
            case measure => omega
            case rel =>
              refine ⟨k + 1, hdrs ++ [.slice (some ⟨gb, 0, none⟩) cur.length capb], by go_num, by omega, ?_, below_grown hb4 hgrow5 hB4.ob (Nat.le_refl _) hb4s⟩
              rw [unhide HG, unhide HN2, if_pos rfl]
              exact hB4.push_var hgrow5 hown5 hat5
      · have hd0 : decide (0 < k) = false := by simpa using h0
        have HN2 : Hid (newAt q.vars k = false) := hide (by unfold newAt; rw [hd0]; rfl)
        clear hcell ha hb' h0
        generalize gather q.vars k = G at *
        obtain ⟨bs, cur⟩ := G
        dsimp only at hB gl1 gl2
        generalize q.vars[k] = x at *
        obtain ⟨x1, x2⟩ := x
        dsimp only at hx0 hx1
        have HBA : Hid (∀ nq, Below wr.heap.size wr ((wr.alloc (.cells #[.int .i64 (x1 : Int), .bool x2] 109)).drewN nq)) := hide (fun nq => below_drewN ((Below.refl _ _).alloc (Nat.le_refl _) _) nq)
        have HCA : Hid (∀ nq, ((wr.alloc (.cells #[.int .i64 (x1 : Int), .bool x2] 109)).drewN nq).heap[wr.heap.size]? = some (.cells #[.int .i64 (x1 : Int), .bool x2] 109 (0, 0))) := hide (fun nq => heap_alloc_new wr _)
        go_wp2_with fail
        go_quiet (fail)
        have hb1 := unhide HBA nq
        have hc1 := unhide HCA nq
        generalize World.drewN _ nq = W at *
        have hBW := hB.later hb1
        have hbW : Below w.heap.size w W := hbx.trans (hb1.mono hbs)
        have hbWs := hbW.size
        have hcv : W.cell? ⟨wr.heap.size, 0, none⟩ = some (.int .i64 (x1 : Int)) := by rw [blk_cell hc1]; rfl
        go_wp2_with (at_builtin; refine wpList_append_at rfl (.tmp 37) (.tmp 40) 59 rfl w.heap.size i3 (.int .i64 0) 1 8 Tryz.underlying59 hi3 hz30 hz31 hz32 rfl (by decide) _ _ _ hBW.ob rfl rfl rfl (by simp [Value.oneCell']) (by unfold maxLen; omega) (by omega) hbWs ?_; intro v5 w5 hown5 hgrow5 hat5)
        go_roundg (gk - 1)
        case measure => omega
        case rel =>
          refine ⟨k + 1, hdrs, by go_num, by omega, ?_, below_grown hbW hgrow5 hBW.ob (Nat.le_refl _) hbWs⟩
          rw [unhide HG, unhide HN2, if_neg (by decide)]
          exact hBW.push_var hgrow5 hown5 hat5
    · have hkl : k = q.vars.length := by omega
      subst hkl
      have hdk : decide ((q.vars.length : Int) < (q.vars.length : Int)) = false := by simp
      obtain ⟨pb, hpb⟩ : ∃ pb, progBlocks q.vars = pb := ⟨_, rfl⟩
      have hpb2 := hpb
      unfold progBlocks at hpb2
      have HPB := hide hpb
      have HPB2 := hide hpb2
      clear hpb hpb2
      generalize gather q.vars q.vars.length = G at *
      obtain ⟨bs, cur⟩ := G
      dsimp only at hB gl1 gl2
      by_cases hc : 0 < cur.length
      · have hdc : decide (0 < cur.length) = true := by simpa using hc
        have HP : Hid (progBlocks q.vars = bs ++ [cur]) := hide (by rw [unhide HPB, ← unhide HPB2]; exact if_pos hc)
        obtain ⟨gb, capb, rfl, _, _, _, _⟩ := own_pos hB.ob hc
        have hcur : cur ≠ [] := List.length_pos_iff.1 hc
        go_wp2_with (at_builtin; refine wpList_append_at rfl (.tmp 46) (.tmp 48) 64 rfl w.heap.size i5 (.slice none 0 0) 1 24 Tryz.underlying64 hi5 hz50 hz51 hz52 rfl (by decide) _ _ _ hB.oB rfl rfl rfl (by simp [Value.oneCell']) (by unfold maxLen; omega) (by omega) hbs ?_; intro v4 w4 hown4 hgrow4 hat4)
        go_ret
        have hB4 := hB.push_block hcur hgrow4 hown4
        refine ⟨v4, hdrs ++ [.slice (some ⟨gb, 0, none⟩) cur.length capb], rfl, ?_, ?_, below_grown hbx hgrow4 hB.oB (Nat.le_refl _) hbs⟩
        · rw [unhide HP]; exact hB4.oB
        · rw [unhide HP]; exact hB4.rows
      · have hdc : decide (0 < cur.length) = false := by simpa using hc
        have HP : Hid (progBlocks q.vars = bs) := hide (by rw [unhide HPB, ← unhide HPB2]; exact if_neg hc)
        obtain ⟨ab, cb, rfl⟩ := own_form hB.ob
        go_wp2_with fail
        go_ret
        refine ⟨_, hdrs, rfl, ?_, ?_, hbx⟩
        · rw [unhide HP]; exact hB.oB
        · rw [unhide HP]; exact hB.rows
end Go.Proofs.YtgipjjhkhfihpabGreatDoor

namespace Go.Proofs.YtgipjjhkhfihpabGreatDoor
open Go.RowKit

/-! ### A game in memory -/
def ruleCells (l : List RuleP) : List Value := l.flatMap (fun r => [Value.int .i64 (r.1.1 : Int), Value.int .i64 (r.1.2 : Int), Value.int .i64 (r.2.1 : Int), Value.int .i64 (r.2.2 : Int)])
theorem ruleCells_at (l : List RuleP) (k j : Nat) (h : k < l.length) (hj : j < 4) : (ruleCells l)[k * 4 + j]? = [Value.int .i64 (l[k].1.1 : Int), Value.int .i64 (l[k].1.2 : Int), Value.int .i64 (l[k].2.1 : Int), Value.int .i64 (l[k].2.2 : Int)][j]? := by
  induction l generalizing k with
  | nil => simp at h
  | cons a l ih =>
    cases k with
    | zero =>
      simp only [ruleCells, List.flatMap_cons, Nat.zero_mul, Nat.zero_add, List.getElem_cons_zero]
      rw [List.getElem?_append_left (by simpa using hj)]
    | succ k =>
      have := ih k (by simpa using h)
      simp only [ruleCells, List.flatMap_cons] at this ⊢
      rw [show (k + 1) * 4 + j = (k * 4 + j) + 4 from by omega, List.getElem?_append_right (by simp)]
      simpa using this
def blCells (l : BL) (hdrs : List Value) : List Value := (l.zip hdrs).flatMap (fun x => [x.2, Value.bool x.1.2])
theorem blCells_at (l : BL) (hdrs : List Value) (k : Nat) (h : k < l.length) (hh : k < hdrs.length) : (blCells l hdrs)[k * 2]? = some hdrs[k] ∧ (blCells l hdrs)[k * 2 + 1]? = some (.bool l[k].2) := by
  induction l generalizing k hdrs with
  | nil => simp at h
  | cons a l ih =>
    match hdrs, hh with
    | b :: hs, hh =>
      cases k with
      | zero => simp [blCells]
      | succ k =>
        have := ih hs k (by simpa using h) (by simpa using hh)
        simp only [blCells, List.zip_cons_cons, List.flatMap_cons] at this ⊢
        rw [show (k + 1) * 2 = k * 2 + 2 from by omega, show k * 2 + 2 + 1 = (k * 2 + 1) + 2 from by omega, List.getElem?_append_right (by simp), List.getElem?_append_right (by simp)]
        simpa using this
structure RBd (rs : List RuleP) : Prop where
  len : rs.length ≤ 9000
  bits : ∀ r ∈ rs, (r.1.1 < 512 ∧ r.1.2 < 512) ∧ r.2.1 < 512 ∧ r.2.2 < 512
structure GV where
  vB : Value
  vR : Value
  hdrs : List Value
/-- The rows of a game, which no one writes. -/
structure GRows (w : World) (bl : BL) (rs : List RuleP) (v : GV) : Prop where
  oB : w.ownsRow 0 131 2 v.vB bl.length (blCells bl v.hdrs)
  oR : w.ownsRow 0 151 4 v.vR rs.length (ruleCells rs)
  len : v.hdrs.length = bl.length
  row : ∀ j (hj : j < bl.length), w.ownsRow 0 3 1 (v.hdrs[j]'(by omega)) bl[j].1.length (ints bl[j].1)
structure GameAt (w : World) (b : Nat) (t : TypeId) (bl : BL) (rs : List RuleP) (g : GS) (v : GV) : Prop where
  fb : w.heap[b]? = some (.cells #[v.vB, v.vR, .int .i64 (g.turn : Int), .int .i64 (g.vals.1 : Int), .int .i64 (g.vals.2 : Int)] t (0, 0))
  tt : t = 99 ∨ t = 102
  rows : GRows w bl rs v
theorem GRows.keep {T : Nat → Prop} {w w' : World} {bl : BL} {rs : List RuleP} {v : GV} (h : GRows w bl rs v) (ho : Only T w w') (hT : ∀ k cs e, w.heap[k]? = some (.cells cs e (0, 0)) → e = 131 ∨ e = 151 ∨ (e = 3 ∧ ∃ j, ∃ hj : j < v.hdrs.length, v.hdrs[j].ownBlock = some k) → ¬ T k) : GRows w' bl rs v := by
  have hl := h.len
  refine ⟨own_keep h.oB ho (fun k hk => ?_), own_keep h.oR ho (fun k hk => ?_), h.len, fun j hj => own_keep (h.row j hj) ho (fun k hk => ?_)⟩
  · obtain ⟨c, hc⟩ := own_bk h.oB k hk; exact hT k _ _ hc (Or.inl rfl)
  · obtain ⟨c, hc⟩ := own_bk h.oR k hk; exact hT k _ _ hc (Or.inr (Or.inl rfl))
  · obtain ⟨c, hc⟩ := own_bk (h.row j hj) k hk; exact hT k _ _ hc (Or.inr (Or.inr ⟨rfl, j, by omega, hk⟩))
theorem GRows.later {w w' : World} {bl : BL} {rs : List RuleP} {v : GV} (h : GRows w bl rs v) (hb : Below w.heap.size w w') : GRows w' bl rs v :=
  h.keep (T := fun _ => False) (Only.of_below hb) (fun _ _ _ _ _ h => h)
theorem GameAt.later {w w' : World} {b : Nat} {t : TypeId} {bl : BL} {rs : List RuleP} {g : GS} {v : GV} (h : GameAt w b t bl rs g v) (hb : Below w.heap.size w w') : GameAt w' b t bl rs g v :=
  ⟨(hb.block b (blk_lt h.fb)).trans h.fb, h.tt, h.rows.later hb⟩
/-- Stores into the game's own block leave its rows. -/
theorem GameAt.rest {w w' : World} {b : Nat} {t : TypeId} {bl : BL} {rs : List RuleP} {g : GS} {v : GV} (h : GameAt w b t bl rs g v) (ho : Only (· = b) w w') : GRows w' bl rs v :=
  h.rows.keep ho (fun k cs e hk ht hkb => by
    subst hkb
    have he := blk_type hk h.fb
    rcases h.tt with h1 | h1 <;> rcases ht with h2 | h2 | ⟨h2, _⟩ <;> (rw [he, h1] at h2; revert h2; decide))
/-! ### fits, wanted, set -/
set_option maxRecDepth 100000 in
set_option maxHeartbeats 1600000 in
theorem fits_any (r1 r2 t1 t2 v p n : Nat) (w : World) (hr : (r1 < 512 ∧ r2 < 512) ∧ t1 < 512 ∧ t2 < 512) (hp : p < 512 ∧ n < 512) :
    Calls Tryz.prog 106 #[.agg #[.int .i64 (r1 : Int), .int .i64 (r2 : Int), .int .i64 (t1 : Int), .int .i64 (t2 : Int)], .int .i64 (v : Int), SetV (p, n)] w fun e w' => e = .returned (.bool (fitsW v (p, n) ((r1, r2), (t1, t2)))) ∧ Below w.heap.size w w' := by
  have HF : Hid (fitsW v (p, n) ((r1, r2), (t1, t2)) = (emptyB (minus (r1, r2) (p, n)) && hasVarB (t1, t2) v)) := hide rfl
  go_enter Tryz.func106, Tryz.ntmps106
  go_wp2_with fail
  generalize hw0 : ((w.alloc (.cells #[.int .i64 (r1 : Int), .int .i64 (r2 : Int), .int .i64 (t1 : Int), .int .i64 (t2 : Int)] 151)).alloc (.cells #[.int .i64 (p : Int), .int .i64 (n : Int)] 77)) = u1
  have hB : Below w.heap.size w u1 := by rw [← hw0]; exact ((Below.refl _ _).alloc (Nat.le_refl _) _).alloc (by simp) _
  have hru : u1.heap[w.heap.size]? = some (.cells #[.int .i64 (r1 : Int), .int .i64 (r2 : Int), .int .i64 (t1 : Int), .int .i64 (t2 : Int)] 151 (0, 0)) := by rw [← hw0, heap_alloc_old _ _ (by simp)]; exact alloc_new_at (by simp)
  have hva : u1.heap[w.heap.size + 1]? = some (.cells #[.int .i64 (p : Int), .int .i64 (n : Int)] 77 (0, 0)) := by rw [← hw0]; exact alloc_new_at (by simp)
  clear hw0
  have cru0 : u1.cell? ⟨w.heap.size, 0, none⟩ = some (.int .i64 (r1 : Int)) := by rw [blk_cell hru]; rfl
  have cru1 : u1.cell? ⟨w.heap.size, 1, none⟩ = some (.int .i64 (r2 : Int)) := by rw [blk_cell hru]; rfl
  have cru2 : u1.cell? ⟨w.heap.size, 2, none⟩ = some (.int .i64 (t1 : Int)) := by rw [blk_cell hru]; rfl
  have cru3 : u1.cell? ⟨w.heap.size, 3, none⟩ = some (.int .i64 (t2 : Int)) := by rw [blk_cell hru]; rfl
  have lru := blk_lt hru
  have cva0 : u1.cell? ⟨w.heap.size + 1, 0, none⟩ = some (.int .i64 (p : Int)) := by rw [blk_cell hva]; rfl
  have cva1 : u1.cell? ⟨w.heap.size + 1, 1, none⟩ = some (.int .i64 (n : Int)) := by rw [blk_cell hva]; rfl
  have lva := blk_lt hva
  refine (lwithout_any r1 r2 p n _ hr.1.1 hr.1.2 hp.1 hp.2).mono ?_
  rintro e u2 ⟨rfl, b2⟩
  replace hB := hB.trans (b2.mono hB.size)
  replace hru := (b2.block _ (blk_lt hru)).trans hru
  replace cru0 : u2.cell? ⟨w.heap.size, 0, none⟩ = some (.int .i64 (r1 : Int)) := by rw [blk_cell hru]; rfl
  replace cru1 : u2.cell? ⟨w.heap.size, 1, none⟩ = some (.int .i64 (r2 : Int)) := by rw [blk_cell hru]; rfl
  replace cru2 : u2.cell? ⟨w.heap.size, 2, none⟩ = some (.int .i64 (t1 : Int)) := by rw [blk_cell hru]; rfl
  replace cru3 : u2.cell? ⟨w.heap.size, 3, none⟩ = some (.int .i64 (t2 : Int)) := by rw [blk_cell hru]; rfl
  replace lru := blk_lt hru
  replace hva := (b2.block _ (blk_lt hva)).trans hva
  replace cva0 : u2.cell? ⟨w.heap.size + 1, 0, none⟩ = some (.int .i64 (p : Int)) := by rw [blk_cell hva]; rfl
  replace cva1 : u2.cell? ⟨w.heap.size + 1, 1, none⟩ = some (.int .i64 (n : Int)) := by rw [blk_cell hva]; rfl
  replace lva := blk_lt hva
  have hm := minus_lt (r1, r2) (p, n) hr.1
  generalize hea : minus (r1, r2) (p, n) = c at *
  clear hea
  obtain ⟨d1, d2⟩ := c
  dsimp only at hm
  go_wp2_with fail
  generalize hw0 : u2.alloc (.cells #[.int .i64 (d1 : Int), .int .i64 (d2 : Int)] 77) = u3
  have b3 : Below u2.heap.size u2 u3 := by rw [← hw0]; exact (Below.refl _ _).alloc (Nat.le_refl _) _
  have hop : u3.heap[u2.heap.size]? = some (.cells #[.int .i64 (d1 : Int), .int .i64 (d2 : Int)] 77 (0, 0)) := by rw [← hw0]; exact heap_alloc_new _ _
  clear hw0
  replace hB := hB.trans (b3.mono hB.size)
  replace hru := (b3.block _ (blk_lt hru)).trans hru
  replace cru0 : u3.cell? ⟨w.heap.size, 0, none⟩ = some (.int .i64 (r1 : Int)) := by rw [blk_cell hru]; rfl
  replace cru1 : u3.cell? ⟨w.heap.size, 1, none⟩ = some (.int .i64 (r2 : Int)) := by rw [blk_cell hru]; rfl
  replace cru2 : u3.cell? ⟨w.heap.size, 2, none⟩ = some (.int .i64 (t1 : Int)) := by rw [blk_cell hru]; rfl
  replace cru3 : u3.cell? ⟨w.heap.size, 3, none⟩ = some (.int .i64 (t2 : Int)) := by rw [blk_cell hru]; rfl
  replace lru := blk_lt hru
  replace hva := (b3.block _ (blk_lt hva)).trans hva
  replace cva0 : u3.cell? ⟨w.heap.size + 1, 0, none⟩ = some (.int .i64 (p : Int)) := by rw [blk_cell hva]; rfl
  replace cva1 : u3.cell? ⟨w.heap.size + 1, 1, none⟩ = some (.int .i64 (n : Int)) := by rw [blk_cell hva]; rfl
  replace lva := blk_lt hva
  have cop0 : u3.cell? ⟨u2.heap.size, 0, none⟩ = some (.int .i64 (d1 : Int)) := by rw [blk_cell hop]; rfl
  have cop1 : u3.cell? ⟨u2.heap.size, 1, none⟩ = some (.int .i64 (d2 : Int)) := by rw [blk_cell hop]; rfl
  have lop := blk_lt hop
  refine (empty_any d1 d2 _ hm.1 hm.2).mono ?_
  rintro e u4 ⟨rfl, b4⟩
  replace hB := hB.trans (b4.mono hB.size)
  replace hru := (b4.block _ (blk_lt hru)).trans hru
  replace cru0 : u4.cell? ⟨w.heap.size, 0, none⟩ = some (.int .i64 (r1 : Int)) := by rw [blk_cell hru]; rfl
  replace cru1 : u4.cell? ⟨w.heap.size, 1, none⟩ = some (.int .i64 (r2 : Int)) := by rw [blk_cell hru]; rfl
  replace cru2 : u4.cell? ⟨w.heap.size, 2, none⟩ = some (.int .i64 (t1 : Int)) := by rw [blk_cell hru]; rfl
  replace cru3 : u4.cell? ⟨w.heap.size, 3, none⟩ = some (.int .i64 (t2 : Int)) := by rw [blk_cell hru]; rfl
  replace lru := blk_lt hru
  replace hva := (b4.block _ (blk_lt hva)).trans hva
  replace cva0 : u4.cell? ⟨w.heap.size + 1, 0, none⟩ = some (.int .i64 (p : Int)) := by rw [blk_cell hva]; rfl
  replace cva1 : u4.cell? ⟨w.heap.size + 1, 1, none⟩ = some (.int .i64 (n : Int)) := by rw [blk_cell hva]; rfl
  replace lva := blk_lt hva
  replace hop := (b4.block _ (blk_lt hop)).trans hop
  replace cop0 : u4.cell? ⟨u2.heap.size, 0, none⟩ = some (.int .i64 (d1 : Int)) := by rw [blk_cell hop]; rfl
  replace cop1 : u4.cell? ⟨u2.heap.size, 1, none⟩ = some (.int .i64 (d2 : Int)) := by rw [blk_cell hop]; rfl
  replace lop := blk_lt hop
  cases hem : (d1 ||| d2 == 0) with
  | false =>
    have HF2 : Hid (fitsW v (p, n) ((r1, r2), (t1, t2)) = false) := hide (by rw [unhide HF]; show ((d1 ||| d2 == 0) && _) = _; rw [hem]; rfl)
    go_wp2_with fail
    go_ret
    exact ⟨by rw [unhide HF2]; rfl, hB⟩
  | true =>
    have HF2 : Hid (fitsW v (p, n) ((r1, r2), (t1, t2)) = ((t1 ||| t2) &&& bitOf (v : Int) != 0)) := hide (by rw [unhide HF]; show ((d1 ||| d2 == 0) && _) = _; rw [hem]; rfl)
    go_wp2_with fail
    refine (hasVar_any t1 t2 v _ hr.2.1 hr.2.2).mono ?_
    rintro e u9 ⟨rfl, b9⟩
    go_wp2_with fail
    go_ret
    exact ⟨by rw [unhide HF2]; rfl, hB.trans (b9.mono hB.size)⟩

theorem wanted_step (rs : List RuleP) (vals : Nat × Nat) (v k : Nat) (h : k < rs.length) : wantedW (rs.drop k) vals v = if fitsW v vals rs[k] then hasLit rs[k].2 (v : Int) else wantedW (rs.drop (k + 1)) vals v := by
  unfold wantedW
  rw [List.drop_eq_getElem_cons h, List.find?_cons]
  cases fitsW v vals rs[k] <;> rfl
set_option maxRecDepth 100000 in
set_option maxHeartbeats 1600000 in
theorem wanted_any (b : Nat) (t : TypeId) (bl : BL) (rs : List RuleP) (g : GS) (gv : GV) (v : Nat) (w : World) (hG : GameAt w b t bl rs g gv) (hR : RBd rs) (hp : g.vals.1 < 512 ∧ g.vals.2 < 512) (hv : v ≤ 8) :
    Calls Tryz.prog 91 #[.pointer (some ⟨b, 0, none⟩), .int .i64 (v : Int)] w fun e w' => e = .returned (.bool (wantedW rs g.vals v)) ∧ Below w.heap.size w w' := by
  obtain ⟨turn, p, n⟩ := g
  have hbw := blk_lt hG.fb
  obtain ⟨aR, cR, hRf⟩ := own_form hG.rows.oR
  have hoR := hG.rows.oR
  rw [hRf] at hoR
  have k1 : w.cell? ⟨b, 1, none⟩ = some (.slice aR rs.length cR) := by rw [blk_cell hG.fb]; exact congrArg some hRf
  have hrl := hR.len
  go_enter Tryz.func91, Tryz.ntmps91
  go_wp2_with fail
  go_loopg [12] (rs.length) (fun m i wx => ∃ (k : Nat), i = .int .i64 k ∧ k + m = rs.length ∧ wantedW rs (p, n) v = wantedW (rs.drop k) (p, n) v ∧ Below w.heap.size w wx)
  case atStart => exact ⟨0, rfl, by omega, rfl, Below.refl _ _⟩
  case round =>
    obtain ⟨k, rfl, hk, hwt, hb⟩ := hrel
    have hGr := hG.later hb
    have lb := blk_lt hGr.fb
    have m3 : wr.cell? ⟨b, 3, none⟩ = some (.int .i64 (p : Int)) := by rw [blk_cell hGr.fb]; rfl
    have m4 : wr.cell? ⟨b, 4, none⟩ = some (.int .i64 (n : Int)) := by rw [blk_cell hGr.fb]; rfl
    by_cases hlt : k < rs.length
    · have HW : Hid (wantedW rs (p, n) v = if fitsW v (p, n) rs[k] then hasLit rs[k].2 (v : Int) else wantedW (rs.drop (k + 1)) (p, n) v) := hide (by rw [hwt]; exact wanted_step rs (p, n) v k hlt)
      have hbd := hR.bits _ (List.getElem_mem hlt)
      obtain ⟨g, cap, hVe, hg, hg', _, hcell⟩ := own_pos hoR (by omega)
      injection hVe with hVe _ hV2
      subst hVe hV2
      have hc : ∀ j (hj : j < 4) u, [Value.int .i64 (rs[k].1.1 : Int), Value.int .i64 (rs[k].1.2 : Int), Value.int .i64 (rs[k].2.1 : Int), Value.int .i64 (rs[k].2.2 : Int)][j]? = some u → wr.cell? ⟨g, k * 4 + j, none⟩ = some u := fun j hj u hu => by
        rw [hb.cell (p := ⟨g, k * 4 + j, none⟩) hg']
        exact hcell _ _ (by rw [ruleCells_at rs k j hlt hj]; exact hu)
      have hx0 : wr.cell? ⟨g, k * 4, none⟩ = some (.int .i64 (rs[k].1.1 : Int)) := hc 0 (by omega) _ rfl
      have hx1 : wr.cell? ⟨g, k * 4 + 1, none⟩ = some (.int .i64 (rs[k].1.2 : Int)) := hc 1 (by omega) _ rfl
      have hx2 : wr.cell? ⟨g, k * 4 + 2, none⟩ = some (.int .i64 (rs[k].2.1 : Int)) := hc 2 (by omega) _ rfl
      have hx3 : wr.cell? ⟨g, k * 4 + 3, none⟩ = some (.int .i64 (rs[k].2.2 : Int)) := hc 3 (by omega) _ rfl
      have hgw : g < wr.heap.size := Nat.lt_of_lt_of_le hg' hb.size
      clear hc hcell hwt
      generalize rs[k] = r at *
      obtain ⟨⟨r1, r2⟩, t1, t2⟩ := r
      dsimp only at *
      go_wp2_with fail
      have hA : Below wr.heap.size wr (wr.alloc (.cells #[.int .i64 (r1 : Int), .int .i64 (r2 : Int), .int .i64 (t1 : Int), .int .i64 (t2 : Int)] 151)) := (Below.refl _ _).alloc (Nat.le_refl _) _
      have hru := heap_alloc_new wr (.cells #[.int .i64 (r1 : Int), .int .i64 (r2 : Int), .int .i64 (t1 : Int), .int .i64 (t2 : Int)] 151)
      have hGa := hGr.later hA
      have hBa := hb.trans (hA.mono hb.size)
      generalize wr.alloc (.cells #[.int .i64 (r1 : Int), .int .i64 (r2 : Int), .int .i64 (t1 : Int), .int .i64 (t2 : Int)] 151) = wa at *
      have cru0 : wa.cell? ⟨wr.heap.size, 0, none⟩ = some (.int .i64 (r1 : Int)) := by rw [blk_cell hru]; rfl
      have cru1 : wa.cell? ⟨wr.heap.size, 1, none⟩ = some (.int .i64 (r2 : Int)) := by rw [blk_cell hru]; rfl
      have cru2 : wa.cell? ⟨wr.heap.size, 2, none⟩ = some (.int .i64 (t1 : Int)) := by rw [blk_cell hru]; rfl
      have cru3 : wa.cell? ⟨wr.heap.size, 3, none⟩ = some (.int .i64 (t2 : Int)) := by rw [blk_cell hru]; rfl
      have lru := blk_lt hru
      have lba := blk_lt hGa.fb
      have n3 : wa.cell? ⟨b, 3, none⟩ = some (.int .i64 (p : Int)) := by rw [blk_cell hGa.fb]; rfl
      have n4 : wa.cell? ⟨b, 4, none⟩ = some (.int .i64 (n : Int)) := by rw [blk_cell hGa.fb]; rfl
      obtain ⟨wo, rfl⟩ : ∃ wo, wo = wr := ⟨_, rfl⟩
      go_cut [22] (fun s22 wx => s22 = .bool (fitsW v (p, n) ((r1, r2), (t1, t2))) ∧ Below wa.heap.size wa wx)
      case first =>
        go_region_with (go_at_call 106; refine (fits_any r1 r2 t1 t2 v p n _ hbd hp).mono ?_; rintro e v1 ⟨rfl, y1⟩; have x1 : Below wa.heap.size wa v1 := Below.trans (by first | exact Below.refl _ _ | exact (Below.refl _ _).drew) (y1.mono (by simp)))
        all_goals
          go_wp2_with fail
          go_meet
          exact ⟨rfl, x1⟩
      case rest =>
      obtain ⟨rfl, hbc⟩ := hcut
      have hBc := hBa.trans (hbc.mono hBa.size)
      have hru2 := (hbc.block _ (blk_lt hru)).trans hru
      have d0 : wc.cell? ⟨wo.heap.size, 0, none⟩ = some (.int .i64 (r1 : Int)) := by rw [blk_cell hru2]; rfl
      have d1 : wc.cell? ⟨wo.heap.size, 1, none⟩ = some (.int .i64 (r2 : Int)) := by rw [blk_cell hru2]; rfl
      have d2 : wc.cell? ⟨wo.heap.size, 2, none⟩ = some (.int .i64 (t1 : Int)) := by rw [blk_cell hru2]; rfl
      have d3 : wc.cell? ⟨wo.heap.size, 3, none⟩ = some (.int .i64 (t2 : Int)) := by rw [blk_cell hru2]; rfl
      have lru2 := blk_lt hru2
      cases hft : fitsW v (p, n) ((r1, r2), (t1, t2)) with
      | true =>
        have HW2 : Hid (wantedW rs (p, n) v = hasLit (t1, t2) (v : Int)) := hide (by rw [unhide HW, hft]; rfl)
        go_wp2_with fail
        refine (has_any t1 t2 (v : Int) _ hbd.2.1 hbd.2.2 (by omega) (by omega)).mono ?_
        rintro e w9 ⟨rfl, b9⟩
        go_wp2_with fail
        go_ret
        exact ⟨by rw [unhide HW2]; rfl, hBc.trans (b9.mono hBc.size)⟩
      | false =>
        have HW2 : Hid (wantedW rs (p, n) v = wantedW (rs.drop (k + 1)) (p, n) v) := hide (by rw [unhide HW, hft]; rfl)
        go_wp2_with fail
        go_roundg (gk - 1)
        case measure => omega
        case rel => exact ⟨k + 1, by go_num, by omega, unhide HW2, hBc⟩
    · have hkl : k = rs.length := by omega
      subst hkl
      have HW : Hid (wantedW rs (p, n) v = false) := hide (by rw [hwt, List.drop_length]; rfl)
      clear hwt
      go_wp2_with fail
      go_ret
      exact ⟨by rw [unhide HW]; rfl, hb⟩

set_option maxRecDepth 100000 in
set_option maxHeartbeats 1600000 in
theorem set_any (b : Nat) (t : TypeId) (bl : BL) (rs : List RuleP) (g : GS) (gv : GV) (v : Nat) (x : Bool) (w : World) (hG : GameAt w b t bl rs g gv) (hp : g.vals.1 < 512 ∧ g.vals.2 < 512) (hv : v ≤ 8) :
    Calls Tryz.prog 65 #[.pointer (some ⟨b, 0, none⟩), .int .i64 (v : Int), .bool x] w fun e w' => e = .returned (.tuple #[]) ∧ GameAt w' b t bl rs ⟨g.turn, setW g.vals v x⟩ gv ∧ Only (· = b) w w' := by
  obtain ⟨turn, p, n⟩ := g
  dsimp only at hp
  have lb := blk_lt hG.fb
  have m3 : w.cell? ⟨b, 3, none⟩ = some (.int .i64 (p : Int)) := by rw [blk_cell hG.fb]; rfl
  have m4 : w.cell? ⟨b, 4, none⟩ = some (.int .i64 (n : Int)) := by rw [blk_cell hG.fb]; rfl
  have hwn : IntKind.i64.wrap (-(v : Int)) = -(v : Int) := wrap_neg_small' v hv
  have HS : Hid (setW (p, n) v x = withLit (p, n) (litI v x)) := hide rfl
  go_enter Tryz.func65, Tryz.ntmps65
  cases x with
  | true =>
    have HS2 : Hid (setW (p, n) v true = withLit (p, n) ((v : Int))) := hide rfl
    go_wp2_with fail
    refine (with_any p n ((v : Int)) _ hp.1 hp.2 (by omega) (by omega)).mono ?_
    rintro e w1 ⟨rfl, hb1⟩
    have hG1 := hG.later hb1
    have lb1 := blk_lt hG1.fb
    have k3 : w1.cell? ⟨b, 3, none⟩ = some (.int .i64 (p : Int)) := by rw [blk_cell hG1.fb]; rfl
    have k4 : w1.cell? ⟨b, 4, none⟩ = some (.int .i64 (n : Int)) := by rw [blk_cell hG1.fb]; rfl
    have z3 := blk_free hG1.fb 3
    have z4 := blk_free hG1.fb 4
    generalize withLit (p, n) ((v : Int)) = c at *
    obtain ⟨d1, d2⟩ := c
    go_wp2_with fail
    go_end0
    have ho : Only (· = b) w1 ((w1.setCell ⟨b, 3, none⟩ (.int .i64 (d1 : Int))).setCell ⟨b, 4, none⟩ (.int .i64 (d2 : Int))) := ((Only.refl (· = b) w1).setCell (p := ⟨b, 3, none⟩) (Or.inl rfl) _).setCell (p := ⟨b, 4, none⟩) (Or.inl rfl) _
    refine ⟨rfl, ⟨?_, hG.tt, hG1.rest ho⟩, (Only.of_below hb1).trans ho⟩
    rw [unhide HS2]
    exact blk_set (blk_set hG1.fb 3 _) 4 _
  | false =>
    have HS2 : Hid (setW (p, n) v false = withLit (p, n) (-(v : Int))) := hide rfl
    go_wp2_with fail
    refine (with_any p n (-(v : Int)) _ hp.1 hp.2 (by omega) (by omega)).mono ?_
    rintro e w1 ⟨rfl, hb1⟩
    have hG1 := hG.later hb1
    have lb1 := blk_lt hG1.fb
    have k3 : w1.cell? ⟨b, 3, none⟩ = some (.int .i64 (p : Int)) := by rw [blk_cell hG1.fb]; rfl
    have k4 : w1.cell? ⟨b, 4, none⟩ = some (.int .i64 (n : Int)) := by rw [blk_cell hG1.fb]; rfl
    have z3 := blk_free hG1.fb 3
    have z4 := blk_free hG1.fb 4
    generalize withLit (p, n) (-(v : Int)) = c at *
    obtain ⟨d1, d2⟩ := c
    go_wp2_with fail
    go_end0
    have ho : Only (· = b) w1 ((w1.setCell ⟨b, 3, none⟩ (.int .i64 (d1 : Int))).setCell ⟨b, 4, none⟩ (.int .i64 (d2 : Int))) := ((Only.refl (· = b) w1).setCell (p := ⟨b, 3, none⟩) (Or.inl rfl) _).setCell (p := ⟨b, 4, none⟩) (Or.inl rfl) _
    refine ⟨rfl, ⟨?_, hG.tt, hG1.rest ho⟩, (Only.of_below hb1).trans ho⟩
    rw [unhide HS2]
    exact blk_set (blk_set hG1.fb 3 _) 4 _
end Go.Proofs.YtgipjjhkhfihpabGreatDoor

namespace Go.Proofs.YtgipjjhkhfihpabGreatDoor
open Go.RowKit

/-! ### answer -/
structure BBd (bl : BL) : Prop where
  len : bl.length ≤ 8
  row : ∀ x ∈ bl, x.1.length ≤ 8 ∧ ∀ v ∈ x.1, 1 ≤ v ∧ v ≤ 8
set_option maxRecDepth 100000 in
set_option maxHeartbeats 1600000 in
theorem answer_any (b : Nat) (t : TypeId) (bl : BL) (rs : List RuleP) (g : GS) (gv : GV) (w : World) (hG : GameAt w b t bl rs g gv) (hR : RBd rs) (hB : BBd bl) (hp : g.vals.1 < 512 ∧ g.vals.2 < 512) (ht : g.turn ≤ bl.length) :
    Calls Tryz.prog 64 #[.pointer (some ⟨b, 0, none⟩)] w fun e w' => e = .returned (.tuple #[]) ∧ GameAt w' b t bl rs (ansW rs bl g) gv ∧ Only (· = b) w w' := by
  have lb := blk_lt hG.fb
  have hbl := hB.len
  go_enter Tryz.func64, Tryz.ntmps64
  go_wp2_with fail
  have HB := hide hB
  clear hB
  go_loopg [] (bl.length + 1 - g.turn) (fun m wx => ∃ (g' : GS), g'.turn ≤ bl.length ∧ m + g'.turn = bl.length + 1 ∧ (g'.vals.1 < 512 ∧ g'.vals.2 < 512) ∧ ansW rs bl g = ansW rs bl g' ∧ GameAt wx b t bl rs g' gv ∧ Only (· = b) w wx)
  case atStart => exact ⟨g, ht, by omega, hp, rfl, hG, Only.refl _ _⟩
  case round =>
    obtain ⟨⟨turn, p, n⟩, hle, hm, hlt, hans, hGr, ho⟩ := hrel
    dsimp only at hle hm hlt
    have HA := hide hans
    clear hans
    have lbr := blk_lt hGr.fb
    obtain ⟨aB, cB, hBf⟩ := own_form hGr.rows.oB
    have c0 : wr.cell? ⟨b, 0, none⟩ = some (.slice aB bl.length cB) := by rw [blk_cell hGr.fb]; exact congrArg some hBf
    have c2 : wr.cell? ⟨b, 2, none⟩ = some (.int .i64 (turn : Int)) := by rw [blk_cell hGr.fb]; rfl
    by_cases hl : turn < bl.length
    · have hd1 : decide ((turn : Int) < (bl.length : Int)) = true := decide_eq_true (by omega)
      have hd2 : decide (turn < bl.length) = true := decide_eq_true hl
      have hhl : turn < gv.hdrs.length := by rw [hGr.rows.len]; exact hl
      obtain ⟨e0, e1⟩ := blCells_at bl gv.hdrs turn hl hhl
      have hoB := hGr.rows.oB
      rw [hBf] at hoB
      obtain ⟨gB, cap, hVe, hg, hg', _, hcell⟩ := own_pos hoB (by omega)
      injection hVe with hVe _ hV2
      subst hVe hV2
      have hx0 := hcell _ _ e0
      have hx1 := hcell _ _ e1
      have hrow := hGr.rows.row turn hl
      obtain ⟨aX, cX, hXf⟩ := own_form hrow
      rw [hXf] at hx0
      have HAG : Hid (bl[turn].2 = true → ansW rs bl ⟨turn, (p, n)⟩ = ansW rs bl ⟨turn + 1, ansBlock rs bl[turn].1 (p, n)⟩) := hide (fun h => by
        unfold ansW
        rw [show bl.length - (GS.mk turn (p, n)).turn = (bl.length - (turn + 1)) + 1 from by show bl.length - turn = _; omega, ansGo]
        rw [show bl.getD (GS.mk turn (p, n)).turn ([], false) = bl[turn] from by simp [List.getD, hl], if_pos h])
      have HAS : Hid (bl[turn].2 = false → ansW rs bl ⟨turn, (p, n)⟩ = ⟨turn, (p, n)⟩) := hide (fun h => by
        unfold ansW
        rw [show bl.length - (GS.mk turn (p, n)).turn = (bl.length - (turn + 1)) + 1 from by show bl.length - turn = _; omega, ansGo]
        rw [show bl.getD (GS.mk turn (p, n)).turn ([], false) = bl[turn] from by simp [List.getD, hl], if_neg (by rw [h]; decide)])
      have hbd := (unhide HB).row _ (List.getElem_mem hl)
      have HRW := hide hrow
      clear hcell e0 e1 hrow hoB
      cases hw : bl[turn].2 with
      | true =>
        rw [hw] at hx1
        have HF : Hid (ansW rs bl g = ansW rs bl ⟨turn + 1, ansBlock rs bl[turn].1 (p, n)⟩) := hide (by rw [unhide HA]; exact unhide HAG hw)
        go_wp2_with fail
        go_quiet (fail)
        have b1 : Below wr.heap.size wr (wr.drewN nq) := below_drewN (Below.refl _ _) nq
        have hG1 := hGr.later b1
        have ho1 : Only (· = b) w (wr.drewN nq) := ho.trans (Only.of_below b1)
        have hgw : gB < (wr.drewN nq).heap.size := Nat.lt_of_lt_of_le hg' b1.size
        replace hx0 : (wr.drewN nq).cell? ⟨gB, turn * 2, none⟩ = _ := (b1.cell (p := ⟨gB, turn * 2, none⟩) hg').trans hx0
        replace c0 : (wr.drewN nq).cell? ⟨b, 0, none⟩ = _ := (b1.cell (p := ⟨b, 0, none⟩) lbr).trans c0
        replace c2 : (wr.drewN nq).cell? ⟨b, 2, none⟩ = _ := (b1.cell (p := ⟨b, 2, none⟩) lbr).trans c2
        generalize wr.drewN nq = w1 at *
        have lb1 := blk_lt hG1.fb
        clear hx1
        go_wp2_with fail
        go_quiet (fail)
        have b2 : Below w1.heap.size w1 (w1.drewN nq) := below_drewN (Below.refl _ _) nq
        have hG2 := hG1.later b2
        have ho2 : Only (· = b) w (w1.drewN nq) := ho1.trans (Only.of_below b2)
        generalize w1.drewN nq = w2 at *
        clear hG1 ho1 b2 b1 hgw lb1 hx0 c0 c2
        go_wp2_with fail
        obtain ⟨wo, rfl⟩ : ∃ wo, wo = wr := ⟨_, rfl⟩
        obtain ⟨gko, rfl⟩ : ∃ x, x = gk := ⟨_, rfl⟩
        obtain ⟨row, hrow⟩ : ∃ row, bl[turn].1 = row := ⟨_, rfl⟩
        rw [hrow] at hbd HF ⊢
        have HRO := hide hrow
        clear hrow HAG HAS
        go_loopg [40] (row.length) (fun m i wx => ∃ (k : Nat) (vals : Nat × Nat), i = .int .i64 k ∧ k + m = row.length ∧ (vals.1 < 512 ∧ vals.2 < 512) ∧ ansBlock rs row (p, n) = ansBlock rs (row.drop k) vals ∧ GameAt wx b t bl rs ⟨turn, vals⟩ gv ∧ Only (· = b) w wx)
        case atStart => exact ⟨0, (p, n), rfl, by omega, hlt, rfl, hG2, ho2⟩
        case round =>
          obtain ⟨k, vals, rfl, hk, hv9, hab, hG3, ho3⟩ := hrel
          have HAB := hide hab
          clear hab
          have lb3 := blk_lt hG3.fb
          by_cases hkl : k < row.length
          · have hr3 := hG3.rows.row turn hl
            rw [hXf] at hr3
            have hvv := hbd.2 _ (List.getElem_mem hkl)
            have hlen : bl[turn].1.length = row.length := by rw [unhide HRO]
            obtain ⟨gX, cap, hVe, hgx, hgx', _, hcell⟩ := own_pos hr3 (by omega)
            injection hVe with hVe hV1 hV2
            subst hVe hV2
            have hxk : wr.cell? ⟨gX, k, none⟩ = some (.int .i64 (row[k] : Int)) := hcell _ _ (by rw [unhide HRO]; simp [ints, hkl])
            have HST : Hid (ansBlock rs (row.drop k) vals = ansBlock rs (row.drop (k + 1)) (setW vals row[k] (wantedW rs vals row[k]))) := hide (by rw [List.drop_eq_getElem_cons hkl]; rfl)
            clear hcell hr3
            generalize row[k] = v at *
            go_wp2_with fail
            refine (wanted_any b t bl rs ⟨turn, vals⟩ gv v _ hG3 hR hv9 hvv.2).mono ?_
            rintro e w4 ⟨rfl, hb4⟩
            have hG4 := hG3.later hb4
            have ho4 := ho3.trans (Only.of_below hb4)
            dsimp only
            generalize wantedW rs vals v = wx at *
            go_wp2_with fail
            refine (set_any b t bl rs ⟨turn, vals⟩ gv v wx _ hG4 hv9 hvv.2).mono ?_
            rintro e w5 ⟨rfl, hG5, ho5⟩
            have hv5 := withLit_lt vals (litI v wx) hv9.1 hv9.2
            go_wp2_with fail
            go_roundg (gk - 1)
            case measure => omega
            case rel => exact ⟨k + 1, setW vals v wx, by go_num, by omega, hv5, by rw [unhide HAB, unhide HST], hG5, ho4.trans ho5⟩
          · have hke : k = row.length := by omega
            have HE : Hid (ansBlock rs row (p, n) = vals) := hide (by rw [unhide HAB, hke, List.drop_length]; rfl)
            have d2 : wr.cell? ⟨b, 2, none⟩ = some (.int .i64 (turn : Int)) := by rw [blk_cell hG3.fb]; rfl
            have z2 := blk_free hG3.fb 2
            have hdk : decide ((k : Int) < (row.length : Int)) = false := decide_eq_false (by omega)
            have ho6 : Only (· = b) wr (wr.setCell ⟨b, 2, none⟩ (.int .i64 ((turn : Int) + 1))) := (Only.refl (· = b) wr).setCell (p := ⟨b, 2, none⟩) (Or.inl rfl) _
            have hG6 : GameAt (wr.setCell ⟨b, 2, none⟩ (.int .i64 ((turn : Int) + 1))) b t bl rs ⟨turn + 1, vals⟩ gv := ⟨blk_set hG3.fb 2 _, hG3.tt, hG3.rest ho6⟩
            have ho7 := ho3.trans ho6
            have HG6 := hide hG6
            have HO7 := hide ho7
            clear hG6 ho6 ho7
            go_wp2_with fail
            go_roundg (gko - 1)
            case measure => omega
            case rel => exact ⟨⟨turn + 1, vals⟩, by show turn + 1 ≤ _; omega, by show _ + (turn + 1) = _; omega, hv9, by rw [unhide HF, unhide HE], unhide HG6, unhide HO7⟩
      | false =>
        rw [hw] at hx1
        have HF : Hid (ansW rs bl g = ⟨turn, (p, n)⟩) := hide (by rw [unhide HA]; exact unhide HAS hw)
        go_wp2_with fail
        go_quiet (fail)
        have b1 : Below wr.heap.size wr (wr.drewN nq) := below_drewN (Below.refl _ _) nq
        have hG1 := hGr.later b1
        have ho1 : Only (· = b) w (wr.drewN nq) := ho.trans (Only.of_below b1)
        generalize wr.drewN nq = w1 at *
        go_wp2_with fail
        go_end0
        exact ⟨rfl, by rw [unhide HF]; exact hG1, ho1⟩
    · have hd1 : decide ((turn : Int) < (bl.length : Int)) = false := decide_eq_false (by omega)
      have hd2 : decide (turn < bl.length) = false := decide_eq_false hl
      have HF : Hid (ansW rs bl g = ⟨turn, (p, n)⟩) := hide (by
        rw [unhide HA]
        unfold ansW
        rw [show bl.length - (GS.mk turn (p, n)).turn = 0 from by show bl.length - turn = _; omega, ansGo])
      go_wp2_with fail
      go_quiet (fail)
      have b1 : Below wr.heap.size wr (wr.drewN nq) := below_drewN (Below.refl _ _) nq
      have hG1 := hGr.later b1
      have ho1 : Only (· = b) w (wr.drewN nq) := ho.trans (Only.of_below b1)
      generalize wr.drewN nq = w1 at *
      go_wp2_with fail
      go_end0
      exact ⟨rfl, by rw [unhide HF]; exact hG1, ho1⟩
end Go.Proofs.YtgipjjhkhfihpabGreatDoor

namespace Go.Proofs.YtgipjjhkhfihpabGreatDoor
open Go.RowKit

/-- One step of a script. -/
structure OpV where
  kind : Int
  a : Int
  b : Int
  c : Int
  s : List UInt8
  t : List UInt8
def OpV.cells (o : OpV) : List Value := [.int .i64 o.kind, .int .i64 o.a, .int .i64 o.b, .int .i64 o.c, S o.s, S o.t]
def i64ok (x : Int) : Prop := -9223372036854775808 ≤ x ∧ x ≤ 9223372036854775807
theorem Only.pre {T : Nat → Prop} {a b c : World} (h : Below a.heap.size a b) (k : Only T b c) : Only T a c := (Only.of_below h).trans k

end Go.Proofs.YtgipjjhkhfihpabGreatDoor
