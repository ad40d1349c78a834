import Derived.Test.YtgipjjhkhfihpabGreatDoorBE
import Derived.Test.YtgipjjhkhfihpabGreatDoorAZ
import Derived.Test.YtgipjjhkhfihpabGreatDoorAF
import Derived.Test.YtgipjjhkhfihpabGreatDoorAH
namespace Go.Proofs.YtgipjjhkhfihpabGreatDoor
open Go.RowKit

/-! ### readLine -/
def lineQ (q : QS) (kind : Nat) (ss : List (Nat × Nat)) (line : List UInt8) : Option (Nat × Nat) :=
  if 9000 ≤ ss.length then none else if splitOk line then (match cutAt 32 line with | [] => none | hd :: tl => stepQ q kind ss hd tl) else none
theorem lineQ_eq (q : QS) (kind : Nat) (ss : List (Nat × Nat)) (line hd : List UInt8) (tl : List (List UInt8)) (hl : ¬ 9000 ≤ ss.length) (hs : splitOk line = true) (h : cutAt 32 line = hd :: tl) : lineQ q kind ss line = stepQ q kind ss hd tl := by
  unfold lineQ; rw [if_neg hl, if_pos hs, h]
theorem litsL_snoc (ss : List Stp) (s : Stp) : litsL (ss ++ [s]) = litsL ss ++ [s.lits] := by simp [litsL]
theorem PInv.push {w w' : World} {b : Nat} {q : QS} {kind : Nat} {ss : List Stp} {vV vC vS : Value} {s : Stp} {e : Ending} (h : PInv w b q kind ss vV vC vS) (ha : AddPost (b + 1) b 2 ss vS s #[vV, vC, .int .i64 kind, vS] 93 w e w') : e = .returned (.int .i64 ((ss.length : Int) + 1)) ∧ (∃ v', PInv w' b q kind (ss ++ [s]) vV vC v') ∧ Below b w w' := by
  obtain ⟨v', h0, h1, h2, h3, h4⟩ := ha
  have hb : Below b w w' := h3.below (Nat.le_of_lt (blk_lt h.fb)) (fun k hk hh => by
    rcases hh with e | e
    · omega
    · have := (h.oS.lt k e).1; omega)
  exact ⟨h0, ⟨v', h2, own_under h.oV h.lV hb, own_under h.oC h.lC hb, by simpa using h1, h.lV, h.lC⟩, hb⟩
def PLinePost (b : Nat) (q : QS) (kind : Nat) (ss : List Stp) (vV vC : Value) (line : List UInt8) (w : World) (e : Ending) (w' : World) : Prop :=
  Below b w w' ∧ match lineQ q kind (litsL ss) line with
    | none => e = .returned (.bool false)
    | some c => e = .returned (.bool true) ∧ (c.1 < 512 ∧ c.2 < 512) ∧ ∃ s vS', s.lits = c ∧ TagM q kind ss (cutAt 32 line) s ∧ PInv w' b q kind (ss ++ [s]) vV vC vS'

set_option maxRecDepth 100000 in
set_option maxHeartbeats 3200000 in
theorem preadLine_any (b : Nat) (q : QS) (kind : Nat) (ss : List Stp) (vV vC vS : Value) (k : Nat) (line : List UInt8) (w : World) (hP : PInv w b q kind ss vV vC vS) (hQ : QB q) (hS : SBs ss) (hk : 1 ≤ k) (hl : line.length ≤ 1048570) :
    Calls Tryz.prog 33 #[.pointer (some ⟨b, 0, none⟩), .int .i64 k, .string ⟨line.toArray⟩] w fun e w' => PLinePost b q kind ss vV vC line w e w' := by
  have hbw := blk_lt hP.fb
  have hsl := hS.len
  obtain ⟨aS, cS, rfl⟩ := own_form hP.oS
  have k3 : w.cell? ⟨b, 3, none⟩ = some (.slice aS ss.length cS) := by rw [blk_cell hP.fb]; rfl
  have hkb : ((k : Int) == 0) = false := by rw [beq_eq_false_iff_ne]; omega
  by_cases h9 : 9000 ≤ ss.length
  · have hd9 : decide ((9000 : Int) ≤ (ss.length : Int)) = true := by simp; omega
    have HF : Hid (lineQ q kind (litsL ss) line = none) := hide (by unfold lineQ; rw [if_pos (by simpa [litsL] using h9)])
    clear h9
    go_enter Tryz.func33, Tryz.ntmps33
    go_wp2_with fail
    go_ret
    exact ⟨Below.refl _ _, by rw [unhide HF]; rfl⟩
  · have hd9 : decide ((9000 : Int) ≤ (ss.length : Int)) = false := by simp; omega
    have H9 := hide h9
    clear h9
    go_enter Tryz.func33, Tryz.ntmps33
    go_wp2_with fail
    refine (split_any line w (by omega)).mono ?_
    rintro e w2 ⟨hb, hsp⟩
    cases hok : splitOk line with
    | false =>
      rw [hok, if_neg (by decide)] at hsp
      subst hsp
      have HF : Hid (lineQ q kind (litsL ss) line = none) := hide (by unfold lineQ; rw [if_neg (by simpa [litsL] using unhide H9), hok]; rfl)
      go_wp2_with fail
      go_ret
      exact ⟨hb.mono (Nat.le_of_lt hbw), by rw [unhide HF]; rfl⟩
    | true =>
      rw [hok, if_pos rfl] at hsp
      obtain ⟨v, rfl, hown⟩ := hsp
      have hwl : (cutAt 32 line).length ≤ 1048571 := by have := cutTo_size 32 line; simp [cutAt]; omega
      have hwl2 : ∀ x ∈ cutAt 32 line, x.length ≤ 1048576 := fun x hx => by have := cutAt_len 32 line x hx; omega
      obtain ⟨hd, tl, hws⟩ : ∃ hd tl, cutAt 32 line = hd :: tl := by
        cases h : cutAt 32 line with
        | nil => simp [cutAt] at h
        | cons a b => exact ⟨a, b, rfl⟩
      have HQ := hide (lineQ_eq q kind (litsL ss) line hd tl (by simpa [litsL] using unhide H9) hok hws)
      have HWE := hide hws
      rw [hws] at hown hwl hwl2
      clear hws hok
      rcases hown.2 with ⟨_, h0⟩ | ⟨g, cap, cur, rfl, hbg, hg, hnc, hcm, hcs, htake⟩
      · simp at h0
      simp only [List.length_cons] at hwl hnc
      have hST : StrsAt w2 (some ⟨g, 0, none⟩) (hd :: tl) := fun _ => ⟨g, 0, cur, rfl, hg, fun j hj => by
        have h1 := hown.cellAt j (by simpa using hj)
        rw [blk_cell hg] at h1
        rw [Nat.zero_add, h1, List.getElem?_map, List.getElem?_eq_getElem hj]; rfl⟩
      have HWL : Hid (∀ x ∈ tl, x.length ≤ 1048576) := hide (fun x hx => hwl2 x (List.mem_cons_of_mem _ hx))
      have hP2 := hP.later hb
      clear hwl2 htake hcs hcm
      simp only [List.length_cons]
      go_wp2_with fail
      refine (readStep_any b q kind ss vV vC _ hd tl g 0 cap w2 hP2 hQ hS hST (by omega) (by omega) (unhide HWL)).mono ?_
      rintro e w3 ⟨hb3, s, ok, rfl, hlt, hok⟩
      obtain ⟨sr, sf, ss2, sv, sl⟩ := s
      obtain ⟨p, n⟩ := sl
      have hb03 : Below w.heap.size w w3 := below_trans hb hb3
      have hP3 := hP2.later hb3
      have hA3 : Below w3.heap.size w3 (w3.alloc (.cells #[.int .i64 (sr : Int), .int .i64 (sf : Int), .int .i64 (ss2 : Int), .int .i64 (sv : Int), .int .i64 (p : Int), .int .i64 (n : Int)] 91)) := (Below.refl _ _).alloc (Nat.le_refl _) _
      have hf3 := heap_alloc_new w3 (.cells #[.int .i64 (sr : Int), .int .i64 (sf : Int), .int .i64 (ss2 : Int), .int .i64 (sv : Int), .int .i64 (p : Int), .int .i64 (n : Int)] 91)
      have hbz : Below w.heap.size w (w3.alloc (.cells #[.int .i64 (sr : Int), .int .i64 (sf : Int), .int .i64 (ss2 : Int), .int .i64 (sv : Int), .int .i64 (p : Int), .int .i64 (n : Int)] 91)) := below_trans hb03 hA3
      have hP4 := hP3.later hA3
      rcases hok with ⟨rfl, hok, htag⟩ | ⟨rfl, hok⟩
      · have HF : Hid (lineQ q kind (litsL ss) line = some (p, n)) := hide (by rw [unhide HQ]; exact hok)
        have HTAG := hide htag
        clear hok htag
        go_wp2_with fail
        generalize w3.alloc (.cells #[.int .i64 (sr : Int), .int .i64 (sf : Int), .int .i64 (ss2 : Int), .int .i64 (sv : Int), .int .i64 (p : Int), .int .i64 (n : Int)] 91) = wz at *
        have q0 : wz.cell? ⟨w3.heap.size, 0, none⟩ = some (.int .i64 (sr : Int)) := by rw [blk_cell hf3]; rfl
        have q1 : wz.cell? ⟨w3.heap.size, 1, none⟩ = some (.int .i64 (sf : Int)) := by rw [blk_cell hf3]; rfl
        have q2 : wz.cell? ⟨w3.heap.size, 2, none⟩ = some (.int .i64 (ss2 : Int)) := by rw [blk_cell hf3]; rfl
        have q3 : wz.cell? ⟨w3.heap.size, 3, none⟩ = some (.int .i64 (sv : Int)) := by rw [blk_cell hf3]; rfl
        have q4 : wz.cell? ⟨w3.heap.size, 4, none⟩ = some (.int .i64 (p : Int)) := by rw [blk_cell hf3]; rfl
        have q5 : wz.cell? ⟨w3.heap.size, 5, none⟩ = some (.int .i64 (n : Int)) := by rw [blk_cell hf3]; rfl
        have lf3 := blk_lt hf3
        have lb4 := blk_lt hP4.fb
        have hd9 : Below wz.heap.size wz wz.drew := (Below.refl _ wz).drew
        go_region_with (go_at_call 48; refine (add_any (b + 1) b 2 ss (.slice aS ss.length cS) ⟨sr, sf, ss2, sv, (p, n)⟩ _ _ _ (hP4.later hd9).fb rfl (by decide) (hP4.later hd9).oS (by omega) (blk_lt (hP4.later hd9).fb)).mono ?_; intro e w4 hadd; obtain ⟨he4, hJ4, hbJ⟩ := (hP4.later hd9).push hadd; subst he4; clear hadd)
        all_goals
          obtain ⟨v', hJ⟩ := hJ4
          go_wp2_with fail
          go_ret
          refine ⟨((hbz.mono (Nat.le_of_lt hbw)).trans (hd9.mono (Nat.le_of_lt lb4))).trans hbJ, ?_⟩
          rw [unhide HF]
          exact ⟨rfl, hlt, ⟨sr, sf, ss2, sv, (p, n)⟩, v', rfl, by rw [unhide HWE]; exact unhide HTAG, hJ⟩
      · have HF : Hid (lineQ q kind (litsL ss) line = none) := hide (by rw [unhide HQ]; exact hok)
        clear hok
        go_wp2_with fail
        go_ret
        exact ⟨hbz.mono (Nat.le_of_lt hbw), by rw [unhide HF]; rfl⟩
end Go.Proofs.YtgipjjhkhfihpabGreatDoor

namespace Go.Proofs.YtgipjjhkhfihpabGreatDoor
open Go.RowKit

/-! ### Read -/
def rowsQ (q : QS) (kind : Nat) : List (Nat × Nat) → Nat → List (List UInt8) → List (Nat × Nat) ⊕ Nat
  | ss, _, [] => .inl ss
  | ss, n, r :: rs => match lineQ q kind ss r with
    | none => .inr (n + 1)
    | some c => rowsQ q kind (ss ++ [c]) (n + 1) rs
def goQ (q : QS) (ended : Bool) (total : Nat) (kind : Nat) (ss : List (Nat × Nat)) (n : Nat) (rs : List (List UInt8)) : (Nat × Nat) ⊕ (Nat × List (Nat × Nat)) :=
  match rowsQ q kind ss n rs with
  | .inr i => .inl (5, i)
  | .inl ss' => if ended = true ∧ closedQ ss' = true then .inr (kind, ss') else .inl (5, total + 1)
def kindOf (r0 : List UInt8) : Nat := if r0 = sTrue then 2 else 1
def firstQ (q : QS) (ended : Bool) (rows : List (List UInt8)) : (Nat × Nat) ⊕ (Nat × List (Nat × Nat)) :=
  match rows with
  | [] => .inl (5, 1)
  | r0 :: rs => if r0 = sTrue ∨ r0 = sFalse then goQ q ended (rs.length + 1) (kindOf r0) [] 1 rs else .inl (5, 1)
def readQ (q : QS) (l : List UInt8) : (Nat × Nat) ⊕ (Nat × List (Nat × Nat)) :=
  if 262144 < l.length then .inl (1, 0) else firstQ q (decide ((cutTo 10 l).2 = [])) (cutTo 10 l).1
theorem rows_first (q : QS) (ended : Bool) (rows : List (List UInt8)) (h : 0 < rows.length) : firstQ q ended rows = if rows[0] = sTrue ∨ rows[0] = sFalse then goQ q ended rows.length (kindOf rows[0]) [] 1 (rows.drop 1) else .inl (5, 1) := by
  cases rows with
  | nil => simp at h
  | cons r0 rs => rfl
theorem PInv.setKind {w : World} {b : Nat} {q : QS} {kind : Nat} {ss : List Stp} {vV vC vS : Value} (h : PInv w b q kind ss vV vC vS) (kd : Nat) : PInv (w.setCell ⟨b, 2, none⟩ (.int .i64 kd)) b q kd ss vV vC vS := by
  have hb : Below b w (w.setCell ⟨b, 2, none⟩ (.int .i64 kd)) := (Below.refl b w).setCell (p := ⟨b, 2, none⟩) (Nat.le_refl _) _
  exact ⟨blk_set h.fb 2 _, own_under h.oV h.lV hb, own_under h.oC h.lC hb, ownsRow_setCell_below h.oS (a := ⟨b, 2, none⟩) (Nat.lt_succ_self b) _, h.lV, h.lC⟩
/-- Which steps reduce which, by the lines. -/
def Marks (rows : List (List UInt8)) (ss : List Stp) : Prop := ∀ i (h : i < ss.length), stMark ss[i] = markOf i (cutAt 32 (rows.getD (i + 1) []))
theorem marks_nil (rows : List (List UInt8)) : Marks rows [] := fun i h => by simp at h
theorem Marks.snoc {rows : List (List UInt8)} {ss : List Stp} {s : Stp} (h : Marks rows ss) (hs : stMark s = markOf ss.length (cutAt 32 (rows.getD (ss.length + 1) []))) : Marks rows (ss ++ [s]) := by
  intro i hi
  by_cases e : i < ss.length
  · rw [List.getElem_append_left e]
    exact h i e
  · have e2 : i = ss.length := by simp at hi; omega
    subst e2
    simpa using hs
def Tagged (q : QS) (kind : Nat) (l : List UInt8) (ss : List Stp) : Prop := Tags q kind ss ∧ Marks (cutTo 10 l).1 ss
def PReadPost (q : QS) (l : List UInt8) (w : World) (e : Ending) (w' : World) : Prop :=
  Below w.heap.size w w' ∧ match readQ q l with
    | .inl (x, i) => e = .returned (.tuple #[.agg #[.int .i64 0, .slice none 0 0], .int .i64 (x : Int), .int .i64 (i : Int)])
    | .inr (kind, ls) => ∃ ss vS, litsL ss = ls ∧ Tagged q kind l ss ∧ SBs ss ∧ e = .returned (.tuple #[.agg #[.int .i64 (kind : Int), vS], .int .i64 0, .int .i64 0]) ∧ w'.ownsRow w.heap.size 91 6 vS ss.length (psCells ss)

set_option maxRecDepth 100000 in
set_option maxHeartbeats 1600000 in
theorem preadFirst_any (b : Nat) (vV vC vS : Value) (kind : Nat) (l : List UInt8) (w : World) (hfb : w.heap[b]? = some (.cells #[vV, vC, .int .i64 kind, vS] 93 (0, 0))) :
    Calls Tryz.prog 33 #[.pointer (some ⟨b, 0, none⟩), .int .i64 0, .string ⟨l.toArray⟩] w fun e w' => KindPost b l w e w' := by
  go_enter Tryz.func33, Tryz.ntmps33
  go_wp2_with fail
  refine (readKind_any b vV vC vS kind l w hfb).mono ?_
  intro e w1 hk
  have hr : ∃ o, e = .returned (.bool o) := by
    rcases hk with h | h | h
    · exact ⟨_, h.2.1⟩
    · exact ⟨_, h.2.1⟩
    · exact ⟨_, h.2.2.1⟩
  obtain ⟨o, rfl⟩ := hr
  have HK := hide hk
  clear hk
  go_wp2_with fail
  go_ret
  exact unhide HK

set_option maxRecDepth 100000 in
set_option maxHeartbeats 3200000 in
theorem pread_any (q : QS) (vV vC : Value) (l : List UInt8) (w : World) (hV : w.ownsRow 0 109 2 vV q.vars.length (varCells q.vars)) (hC : w.ownsRow 0 77 2 vC q.cl.length (pairs q.cl)) (hQ : QB q) :
    Calls Tryz.prog 17 #[.agg #[vV, vC], .string ⟨l.toArray⟩] w fun e w' => PReadPost q l w e w' := by
  by_cases hlong : 262144 < l.length
  · have hd : decide ((262144 : Int) < (l.length : Int)) = true := by simp; omega
    have HF : Hid (readQ q l = .inl (1, 0)) := hide (by unfold readQ; rw [if_pos hlong])
    clear hlong
    obtain ⟨aV, cV, rfl⟩ := own_form hV
    obtain ⟨aC, cC, rfl⟩ := own_form hC
    go_enter Tryz.func17, Tryz.ntmps17
    go_wp2_with fail
    refine bodyPost_ret (v := .tuple #[.agg #[.int .i64 0, .slice none 0 0], .int .i64 1, .int .i64 0]) (by simp [results, Tryz.results17, go_sem]) rfl ⟨((Below.refl _ _).alloc (Nat.le_refl _) _).alloc (by simp) _, ?_⟩
    rw [unhide HF]; rfl
  · have hl : l.length ≤ 262144 := by omega
    have hd : decide ((262144 : Int) < (l.length : Int)) = false := by simp; omega
    have hdr := cutTo_size 10 l
    have HSP : Hid (readQ q l = firstQ q (decide ((cutTo 10 l).2 = [])) (cutTo 10 l).1) := hide (by unfold readQ; rw [if_neg hlong])
    clear hlong
    have HlV : Hid (∀ k, vV.ownBlock = some k → k < w.heap.size) := hide (fun k hk => (hV.lt k hk).2)
    have HlC : Hid (∀ k, vC.ownBlock = some k → k < w.heap.size) := hide (fun k hk => (hC.lt k hk).2)
    obtain ⟨aV, cV, rfl⟩ := own_form hV
    obtain ⟨aC, cC, rfl⟩ := own_form hC
    have hA0 : Below w.heap.size w ((w.alloc (.cells #[.slice aV q.vars.length cV, .slice aC q.cl.length cC] 44)).alloc (.cells #[.int .i64 0, .slice none 0 0] 51)) := ((Below.refl _ _).alloc (Nat.le_refl _) _).alloc (by simp) _
    have hf0 : ((w.alloc (.cells #[.slice aV q.vars.length cV, .slice aC q.cl.length cC] 44)).alloc (.cells #[.int .i64 0, .slice none 0 0] 51)).heap[w.heap.size]? = some (.cells #[.slice aV q.vars.length cV, .slice aC q.cl.length cC] 44 (0, 0)) := by
      rw [heap_alloc_old _ _ (by simp)]; exact heap_alloc_new _ _
    have hr0 : ((w.alloc (.cells #[.slice aV q.vars.length cV, .slice aC q.cl.length cC] 44)).alloc (.cells #[.int .i64 0, .slice none 0 0] 51)).heap[w.heap.size + 1]? = some (.cells #[.int .i64 0, .slice none 0 0] 51 (0, 0)) := alloc_new_at (by simp)
    go_enter Tryz.func17, Tryz.ntmps17
    go_wp2_with fail
    refine (lines_any l _ (by omega)).mono ?_
    rintro e w1 ⟨v, rfl, hown, hb1⟩
    have hB1 : Below w.heap.size w w1 := hA0.trans (hb1.mono hA0.size)
    have hf1 := (hb1.block _ (blk_lt hf0)).trans hf0
    have hr1 := (hb1.block _ (blk_lt hr0)).trans hr0
    have hsz1 : w.heap.size + 1 < w1.heap.size := blk_lt hr1
    have f10 : w1.cell? ⟨w.heap.size, 0, none⟩ = some (.slice aV q.vars.length cV) := by rw [blk_cell hf1]; rfl
    have f11 : w1.cell? ⟨w.heap.size, 1, none⟩ = some (.slice aC q.cl.length cC) := by rw [blk_cell hf1]; rfl
    have HRL : Hid (∀ r ∈ (cutTo 10 l).1, r.length ≤ 262144) := hide (fun r hr => by
      have := cutAt_len 10 l r (by unfold cutAt; exact List.mem_append_left _ hr); omega)
    have hoV1 := own_below hV hB1
    have hoC1 := own_below hC hB1
    generalize hrows : (cutTo 10 l).1 = rows at *
    obtain ⟨aL, cL, rfl⟩ := own_form hown
    obtain ⟨ended, hended⟩ : ∃ o, decide ((cutTo 10 l).2 = []) = o := ⟨_, rfl⟩
    rw [hended] at HSP ⊢
    have hown1 := own_lo (lo := 0) hown (Nat.zero_le _)
    have HROWS := hide hrows
    clear hown hrows hended
    have hrows2 : rows.length ≤ 262144 := by omega
    clear hdr
    go_wp2_with fail
    go_loopg [25] (rows.length) (fun m i wx => ∃ (k kind : Nat) (ss : List Stp) (vS : Value), i = .int .i64 k ∧ k + m = rows.length ∧ SBs ss ∧ (Tags q kind ss ∧ Marks rows ss) ∧ PInv wx w1.heap.size q kind ss (.slice aV q.vars.length cV) (.slice aC q.cl.length cC) vS ∧ Below w1.heap.size w1 wx ∧
      ((k = 0 ∧ kind = 0 ∧ ss = []) ∨ (1 ≤ k ∧ ss.length + 1 = k ∧ readQ q l = goQ q ended rows.length kind (litsL ss) k (rows.drop k))))
    case atStart =>
      refine ⟨0, 0, [], _, rfl, by omega, ⟨by simp, by simp⟩, ⟨tags_nil q 0, marks_nil rows⟩, ⟨heap_alloc_new _ _, hoV1.alloc _, hoC1.alloc _, World.ownsRow_nil _ _ _ _, fun k hk => Nat.lt_of_lt_of_le (unhide HlV k hk) hB1.size, fun k hk => Nat.lt_of_lt_of_le (unhide HlC k hk) hB1.size⟩, (Below.refl _ _).alloc (Nat.le_refl _) _, Or.inl ⟨rfl, rfl, rfl⟩⟩
    case round =>
      obtain ⟨k, kind, ss, vS, rfl, hk, hSB, hTg, hP, hbx, hph⟩ := hrel
      have HTG := hide hTg
      clear hTg
      have HPH := hide hph
      clear hph
      have hBx : Below w.heap.size w wr := hB1.trans (hbx.mono hB1.size)
      have hrx := (hbx.block _ hsz1).trans hr1
      have r0 : wr.cell? ⟨w.heap.size + 1, 0, none⟩ = some (.int .i64 0) := by rw [blk_cell hrx]; rfl
      have r1 : wr.cell? ⟨w.heap.size + 1, 1, none⟩ = some (.slice none 0 0) := by rw [blk_cell hrx]; rfl
      by_cases hlt : k < rows.length
      · obtain ⟨g, cap, hVe, hg, hg', _, hcell⟩ := own_pos hown1 (by omega)
        injection hVe with hVe _ hV2
        subst hVe hV2
        have hcj : wr.cell? ⟨g, k, none⟩ = some (S rows[k]) := by
          rw [hbx.cell (p := ⟨g, k, none⟩) hg']; exact hcell k _ (by simp [hlt])
        have hrl := unhide HRL _ (List.getElem_mem hlt)
        clear hcell
        go_wp2_with fail
        rcases unhide HPH with ⟨hk0, hkd, hss⟩ | ⟨hk1, hsk, hrq⟩
        · have HK0 := hide hk0
          subst hk0 hkd hss
          have HRQ : Hid (readQ q l = if rows[0] = sTrue ∨ rows[0] = sFalse then goQ q ended rows.length (kindOf rows[0]) [] 1 (rows.drop 1) else .inl (5, 1)) := hide (by
            rw [unhide HSP]
            exact rows_first q ended rows hlt)
          refine (preadFirst_any w1.heap.size _ _ vS 0 rows[0] wr hP.fb).mono ?_
          intro e w2 hkp
          have hkind : ∀ kd : Nat, PInv (wr.setCell ⟨w1.heap.size, 2, none⟩ (.int .i64 kd)) w1.heap.size q kd [] (.slice aV q.vars.length cV) (.slice aC q.cl.length cC) vS ∧ Below w1.heap.size w1 (wr.setCell ⟨w1.heap.size, 2, none⟩ (.int .i64 kd)) := fun kd => ⟨hP.setKind kd, hbx.setCell (p := ⟨w1.heap.size, 2, none⟩) (Nat.le_refl _) _⟩
          rcases hkp with ⟨h1, rfl, rfl⟩ | ⟨h1, rfl, rfl⟩ | ⟨h1, h2, rfl, hw2⟩
          · have HG : Hid (readQ q l = goQ q ended rows.length 1 [] 1 (rows.drop 1)) := hide (by
              rw [unhide HRQ, if_pos (Or.inr h1), h1]; rfl)
            obtain ⟨hPk, hbk⟩ := hkind 1
            have HPk := hide hPk
            have HBk := hide hbk
            clear h1 hPk hbk hkind
            go_wp2_with fail
            go_roundg (gk - 1)
            case measure => omega
            case rel => exact ⟨1, 1, [], vS, by go_num, by omega, hSB, ⟨tags_nil q 1, marks_nil rows⟩, unhide HPk, unhide HBk, Or.inr ⟨by omega, rfl, unhide HG⟩⟩
          · have HG : Hid (readQ q l = goQ q ended rows.length 2 [] 1 (rows.drop 1)) := hide (by
              rw [unhide HRQ, if_pos (Or.inl h1), h1]; rfl)
            obtain ⟨hPk, hbk⟩ := hkind 2
            have HPk := hide hPk
            have HBk := hide hbk
            clear h1 hPk hbk hkind
            go_wp2_with fail
            go_roundg (gk - 1)
            case measure => omega
            case rel => exact ⟨1, 2, [], vS, by go_num, by omega, hSB, ⟨tags_nil q 2, marks_nil rows⟩, unhide HPk, unhide HBk, Or.inr ⟨by omega, rfl, unhide HG⟩⟩
          · have HG : Hid (readQ q l = .inl (5, 1)) := hide (by rw [unhide HRQ, if_neg (fun h => h.elim h1 h2)])
            subst hw2
            clear h1 h2 hkind
            have hz := hrx
            have r20 : w2.cell? ⟨w.heap.size + 1, 0, none⟩ = some (.int .i64 0) := by rw [blk_cell hz]; rfl
            have r21 : w2.cell? ⟨w.heap.size + 1, 1, none⟩ = some (.slice none 0 0) := by rw [blk_cell hz]; rfl
            have y20 := blk_free hz 0
            have y21 := blk_free hz 1
            have hR := blk_set (blk_set hz 0 (.int .i64 0)) 1 (.slice none 0 0)
            have j0 := blk_cell hR 0
            have j1 := blk_cell hR 1
            go_wp2_with fail
            refine bodyPost_ret (v := .tuple #[.agg #[.int .i64 0, .slice none 0 0], .int .i64 5, .int .i64 1]) (by simp [results, Tryz.results17, go_sem, j0, j1]) rfl ⟨?_, ?_⟩
            · exact (hBx.setCell (p := ⟨w.heap.size + 1, 0, none⟩) (Nat.le_succ _) _).setCell (p := ⟨w.heap.size + 1, 1, none⟩) (Nat.le_succ _) _
            · rw [unhide HG]; exact congrArg (fun m : Int => Ending.returned (.tuple #[.agg #[.int .i64 0, .slice none 0 0], .int .i64 5, .int .i64 m])) (by omega)
        · have HSK := hide hsk
          clear hsk
          have hrq2 : readQ q l = match lineQ q kind (litsL ss) rows[k] with
              | none => .inl (5, k + 1)
              | some c => goQ q ended rows.length kind (litsL ss ++ [c]) (k + 1) (rows.drop (k + 1)) := by
            rw [hrq]
            unfold goQ
            rw [List.drop_eq_getElem_cons hlt, rowsQ]
            cases lineQ q kind (litsL ss) rows[k] <;> rfl
          have HRQ := hide hrq2
          clear hrq2 hrq
          refine (preadLine_any w1.heap.size q kind ss _ _ vS k rows[k] wr hP hQ hSB hk1 (by omega)).mono ?_
          rintro e w2 ⟨hb2, hp⟩
          have hb3 : Below w1.heap.size w1 w2 := hbx.trans hb2
          have hB3 : Below w.heap.size w w2 := hB1.trans (hb3.mono hB1.size)
          cases hq : lineQ q kind (litsL ss) rows[k] with
          | none =>
            rw [hq] at hp
            have hp' : e = .returned (.bool false) := hp
            subst hp'
            have HF : Hid (readQ q l = .inl (5, k + 1)) := hide (by rw [unhide HRQ, hq])
            clear hp hq
            have hz := (hb3.block _ hsz1).trans hr1
            have r20 : w2.cell? ⟨w.heap.size + 1, 0, none⟩ = some (.int .i64 0) := by rw [blk_cell hz]; rfl
            have r21 : w2.cell? ⟨w.heap.size + 1, 1, none⟩ = some (.slice none 0 0) := by rw [blk_cell hz]; rfl
            have y20 := blk_free hz 0
            have y21 := blk_free hz 1
            have hR := blk_set (blk_set hz 0 (.int .i64 0)) 1 (.slice none 0 0)
            have j0 := blk_cell hR 0
            have j1 := blk_cell hR 1
            go_wp2_with fail
            refine bodyPost_ret (v := .tuple #[.agg #[.int .i64 0, .slice none 0 0], .int .i64 5, .int .i64 ((k : Int) + 1)]) (by simp [results, Tryz.results17, go_sem, j0, j1]) rfl ⟨?_, ?_⟩
            · exact (hB3.setCell (p := ⟨w.heap.size + 1, 0, none⟩) (Nat.le_succ _) _).setCell (p := ⟨w.heap.size + 1, 1, none⟩) (Nat.le_succ _) _
            · rw [unhide HF]; exact congrArg (fun m : Int => Ending.returned (.tuple #[.agg #[.int .i64 0, .slice none 0 0], .int .i64 5, .int .i64 m])) (by omega)
          | some c =>
            rw [hq] at hp
            have hp' : e = .returned (.bool true) ∧ (c.1 < 512 ∧ c.2 < 512) ∧ ∃ s vS', s.lits = c ∧ TagM q kind ss (cutAt 32 rows[k]) s ∧ PInv w2 w1.heap.size q kind (ss ++ [s]) (.slice aV q.vars.length cV) (.slice aC q.cl.length cC) vS' := hp
            obtain ⟨rfl, hlt2, s, vS', hsc, htg, hP'⟩ := hp'
            have HTN : Hid (Tags q kind (ss ++ [s]) ∧ Marks rows (ss ++ [s])) := hide ⟨(unhide HTG).1.snoc htg.1, (unhide HTG).2.snoc (by
              rw [htg.2, unhide HSK]; simp [List.getD, hlt])⟩
            clear htg
            have HF : Hid (readQ q l = goQ q ended rows.length kind (litsL (ss ++ [s])) (k + 1) (rows.drop (k + 1))) := hide (by rw [unhide HRQ, hq, litsL_snoc, hsc])
            have hSB' : SBs (ss ++ [s]) := ⟨by
              have : ¬ 9000 ≤ ss.length := fun h9 => by unfold lineQ at hq; rw [if_pos (by simpa [litsL] using h9)] at hq; cases hq
              simp; omega, fun c' hc' => by
              rcases List.mem_append.1 hc' with hc' | hc'
              · exact hSB.bits c' hc'
              · simp at hc'; subst hc'; rw [hsc]; exact hlt2⟩
            have HS := hide hSB'
            clear hp hq hSB' hsc
            go_wp2_with fail
            go_roundg (gk - 1)
            case measure => omega
            case rel => exact ⟨k + 1, kind, ss ++ [s], vS', by go_num, by omega, unhide HS, unhide HTN, hP', hb3, Or.inr ⟨by omega, by have := unhide HSK; simp; omega, unhide HF⟩⟩
      · have hkl : k = rows.length := by omega
        have HRQ : Hid (readQ q l = if ended = true ∧ closedQ (litsL ss) = true then .inr (kind, litsL ss) else .inl (5, rows.length + 1)) := hide (by
          rcases unhide HPH with ⟨hk0, hkd, hss⟩ | ⟨hk1, _, hrq⟩
          · have : rows = [] := List.eq_nil_of_length_eq_zero (by omega)
            rw [unhide HSP, this, hss, if_neg (by intro h; cases h.2)]
            rfl
          · rw [hrq, hkl, List.drop_length]; rfl)
        subst hkl
        cases ended with
        | false =>
          have HF : Hid (readQ q l = .inl (5, rows.length + 1)) := hide (by rw [unhide HRQ, if_neg (by intro h; cases h.1)])
          have hz := hrx
          have r20 : wr.cell? ⟨w.heap.size + 1, 0, none⟩ = some (.int .i64 0) := by rw [blk_cell hz]; rfl
          have r21 : wr.cell? ⟨w.heap.size + 1, 1, none⟩ = some (.slice none 0 0) := by rw [blk_cell hz]; rfl
          have y20 := blk_free hz 0
          have y21 := blk_free hz 1
          have hR := blk_set (blk_set hz 0 (.int .i64 0)) 1 (.slice none 0 0)
          have j0 := blk_cell hR 0
          have j1 := blk_cell hR 1
          go_wp2_with fail
          refine bodyPost_ret (v := .tuple #[.agg #[.int .i64 0, .slice none 0 0], .int .i64 5, .int .i64 ((rows.length : Int) + 1)]) (by simp [results, Tryz.results17, go_sem, j0, j1]) rfl ⟨?_, ?_⟩
          · exact (hBx.setCell (p := ⟨w.heap.size + 1, 0, none⟩) (Nat.le_succ _) _).setCell (p := ⟨w.heap.size + 1, 1, none⟩) (Nat.le_succ _) _
          · rw [unhide HF]; exact congrArg (fun m : Int => Ending.returned (.tuple #[.agg #[.int .i64 0, .slice none 0 0], .int .i64 5, .int .i64 m])) (by omega)
        | true =>
          go_wp2_with fail
          refine (closed_any w1.heap.size q kind ss _ _ vS wr hP hSB).mono ?_
          rintro e w2 ⟨rfl, hb2⟩
          have hP2 := hP.later hb2
          have hb3 : Below w1.heap.size w1 w2 := hbx.trans (hb2.mono hbx.size)
          have hB3 : Below w.heap.size w w2 := hB1.trans (hb3.mono hB1.size)
          cases hcl : closedQ (litsL ss) with
          | false =>
            have HF : Hid (readQ q l = .inl (5, rows.length + 1)) := hide (by rw [unhide HRQ, if_neg (by rw [hcl]; intro h; cases h.2)])
            clear hcl
            have hz := (hb3.block _ hsz1).trans hr1
            have r20 : w2.cell? ⟨w.heap.size + 1, 0, none⟩ = some (.int .i64 0) := by rw [blk_cell hz]; rfl
            have r21 : w2.cell? ⟨w.heap.size + 1, 1, none⟩ = some (.slice none 0 0) := by rw [blk_cell hz]; rfl
            have y20 := blk_free hz 0
            have y21 := blk_free hz 1
            have hR := blk_set (blk_set hz 0 (.int .i64 0)) 1 (.slice none 0 0)
            have j0 := blk_cell hR 0
            have j1 := blk_cell hR 1
            go_wp2_with fail
            refine bodyPost_ret (v := .tuple #[.agg #[.int .i64 0, .slice none 0 0], .int .i64 5, .int .i64 ((rows.length : Int) + 1)]) (by simp [results, Tryz.results17, go_sem, j0, j1]) rfl ⟨?_, ?_⟩
            · exact (hB3.setCell (p := ⟨w.heap.size + 1, 0, none⟩) (Nat.le_succ _) _).setCell (p := ⟨w.heap.size + 1, 1, none⟩) (Nat.le_succ _) _
            · rw [unhide HF]; exact congrArg (fun m : Int => Ending.returned (.tuple #[.agg #[.int .i64 0, .slice none 0 0], .int .i64 5, .int .i64 m])) (by omega)
          | true =>
            have HSBH := hide hSB
            have HF : Hid (readQ q l = .inr (kind, litsL ss)) := hide (by rw [unhide HRQ, if_pos (by simp [hcl])])
            clear hcl
            have hz := (hb3.block _ hsz1).trans hr1
            have r20 : w2.cell? ⟨w.heap.size + 1, 0, none⟩ = some (.int .i64 0) := by rw [blk_cell hz]; rfl
            have r21 : w2.cell? ⟨w.heap.size + 1, 1, none⟩ = some (.slice none 0 0) := by rw [blk_cell hz]; rfl
            have y20 := blk_free hz 0
            have y21 := blk_free hz 1
            have p2 : w2.cell? ⟨w1.heap.size, 2, none⟩ = some (.int .i64 kind) := by rw [blk_cell hP2.fb]; rfl
            have p3 : w2.cell? ⟨w1.heap.size, 3, none⟩ = some vS := by rw [blk_cell hP2.fb]; rfl
            obtain ⟨aS, cS, rfl⟩ := own_form hP2.oS
            have hO := ownsRow_setCell_below (ownsRow_setCell_below hP2.oS (a := ⟨w.heap.size + 1, 0, none⟩) (show w.heap.size + 1 < w1.heap.size + 1 by omega) (.int .i64 kind)) (a := ⟨w.heap.size + 1, 1, none⟩) (show w.heap.size + 1 < w1.heap.size + 1 by omega) (.slice aS ss.length cS)
            have HO := hide (own_lo (lo := w.heap.size) hO (by omega))
            clear hO
            have hR := blk_set (blk_set hz 0 (.int .i64 kind)) 1 (.slice aS ss.length cS)
            have j0 := blk_cell hR 0
            have j1 := blk_cell hR 1
            go_wp2_with fail
            refine bodyPost_ret (v := .tuple #[.agg #[.int .i64 kind, .slice aS ss.length cS], .int .i64 0, .int .i64 0]) (by simp [results, Tryz.results17, go_sem, j0, j1]) rfl ⟨?_, ?_⟩
            · exact (hB3.setCell (p := ⟨w.heap.size + 1, 0, none⟩) (Nat.le_succ _) _).setCell (p := ⟨w.heap.size + 1, 1, none⟩) (Nat.le_succ _) _
            · rw [unhide HF]; exact ⟨ss, _, rfl, ⟨(unhide HTG).1, by rw [unhide HROWS]; exact (unhide HTG).2⟩, unhide HSBH, rfl, unhide HO⟩
end Go.Proofs.YtgipjjhkhfihpabGreatDoor

namespace Go.Proofs.YtgipjjhkhfihpabGreatDoor
open Go.RowKit

/-! ### Check -/
def checkQ (q : QS) (l : List UInt8) : Nat × Nat × Nat := match readQ q l with
  | .inl (x, i) => (0, x, i)
  | .inr (kind, _) => (kind, 0, 0)
def CheckPost (q : QS) (l : List UInt8) (w : World) (e : Ending) (w' : World) : Prop :=
  Below w.heap.size w w' ∧ e = .returned (.tuple #[.int .i64 ((checkQ q l).1 : Int), .int .i64 ((checkQ q l).2.1 : Int), .int .i64 ((checkQ q l).2.2 : Int)])

set_option maxRecDepth 100000 in
set_option maxHeartbeats 1600000 in
theorem check_any (lo b : Nat) (q : QS) (l : List UInt8) (w : World) (hP : ProgAt lo w b q) (hQ : QB q) :
    Calls Tryz.prog 9 #[.pointer (some ⟨b, 0, none⟩), .string ⟨l.toArray⟩] w fun e w' => CheckPost q l w e w' := by
  obtain ⟨_, vV, vC, hfb, hV, hC⟩ := hP
  have hbw := blk_lt hfb
  have k0 : w.cell? ⟨b, 0, none⟩ = some vV := by rw [blk_cell hfb]; rfl
  have k1 : w.cell? ⟨b, 1, none⟩ = some vC := by rw [blk_cell hfb]; rfl
  obtain ⟨aV, cV, rfl⟩ := own_form hV
  obtain ⟨aC, cC, rfl⟩ := own_form hC
  go_enter Tryz.func9, Tryz.ntmps9
  go_wp2_with fail
  refine (formula_any b _ _ aV aC _ cV _ cC rfl rfl w hfb).mono ?_
  rintro e w0 ⟨rfl, hA⟩
  go_wp2_with fail
  refine (pread_any q _ _ l _ (own_lo (lo := 0) (own_below hV hA) (Nat.zero_le _)) (own_lo (lo := 0) (own_below hC hA) (Nat.zero_le _)) hQ).mono ?_
  rintro e w1 ⟨hb1, hp⟩
  have hB1 : Below w.heap.size w w1 := hA.trans (hb1.mono hA.size)
  cases hq : readQ q l with
  | inl xi =>
    obtain ⟨x, i⟩ := xi
    rw [hq] at hp
    have hp' : e = .returned (.tuple #[.agg #[.int .i64 0, .slice none 0 0], .int .i64 (x : Int), .int .i64 (i : Int)]) := hp
    subst hp'
    have HC : Hid (checkQ q l = (0, x, i)) := hide (by unfold checkQ; rw [hq])
    clear hp hq
    go_wp2_with fail
    go_ret3
    exact ⟨hB1.alloc hB1.size _, by rw [unhide HC]; rfl⟩
  | inr ks =>
    obtain ⟨kind, ls⟩ := ks
    rw [hq] at hp
    obtain ⟨ss, vS, _, _, _, rfl, hS⟩ := hp
    have HC : Hid (checkQ q l = (kind, 0, 0)) := hide (by unfold checkQ; rw [hq])
    clear hq
    obtain ⟨aS, cS, rfl⟩ := own_form hS
    go_wp2_with fail
    go_ret3
    exact ⟨hB1.alloc hB1.size _, by rw [unhide HC]; rfl⟩
end Go.Proofs.YtgipjjhkhfihpabGreatDoor

namespace Go.Proofs.YtgipjjhkhfihpabGreatDoor
open Go.RowKit

/-! Steps -/
theorem ahead_eq (ss : List (Nat × Nat)) (w : List UInt8) (hs : ss.length ≤ 9000) : aheadQ ss w = if cnt w big < 1 ∨ ss.length < cnt w big then none else some (ss.getD (cnt w big - 1) (0, 0)) := by
  unfold aheadQ
  rw [num_cnt w ss.length (by omega)]
  by_cases h : cnt w big < 1 ∨ ss.length < cnt w big
  · rw [if_pos h, if_neg (by omega)]; rfl
  · rw [if_neg h, if_pos (by omega)]
    have hlt : cnt w big - 1 < ss.length := by omega
    simp only [Option.bind_some]
    rw [List.getElem?_eq_getElem hlt, getD_at _ _ _ hlt]
theorem axiom_eq {F : Form} {q : QS} (h : FQ F q) (x : List UInt8) : axiomQ q 1 [x] = axR F (cnt x big) := by
  unfold axiomQ axR
  rw [if_pos rfl, h.cl]
  dsimp only
  rw [num_cnt x q.cl.length (by have := h.clen; omega)]
  by_cases hb : cnt x big < 1 ∨ q.cl.length < cnt x big
  · rw [if_pos hb, if_neg (by omega)]; rfl
  · rw [if_neg hb, if_pos (by omega)]
    have hlt : cnt x big - 1 < q.cl.length := by omega
    simp only [Option.bind_some]
    rw [List.getElem?_eq_getElem hlt, getD_at _ _ _ hlt]
    simp only [Option.bind_some]
    unfold apartO
    by_cases hz : q.cl[cnt x big - 1].1 &&& q.cl[cnt x big - 1].2 = 0
    · rw [if_pos hz, if_neg (by simp [hz])]
    · rw [if_neg hz, if_pos (by simpa using hz)]
theorem reduct_eq {F : Form} {q : QS} (h : FQ F q) (hF : FOk F) (truth : Bool) (ss : List (Nat × Nat)) (hs : ss.length ≤ 9000) (x : List UInt8) : reductQ q (kd truth) ss [x] = reductR F truth ss (cnt x big) := by
  unfold reductQ reductR
  dsimp only
  rw [ahead_eq ss x hs]
  by_cases hb : cnt x big < 1 ∨ ss.length < cnt x big
  · rw [if_pos hb, if_pos hb]; rfl
  · rw [if_neg hb, if_neg hb]
    simp only [Option.map_some]
    rw [redQ_eq h hF truth]
theorem piv_eq {F : Form} {q : QS} (h : FQ F q) (truth : Bool) (z : List UInt8) : pivQ q (kd truth) z = if 1 ≤ cnt z big ∧ cnt z big ≤ 8 ∧ cnt z big ∈ F.order ∧ F.all.testBit (cnt z big) = truth then some (cnt z big) else none := by
  have hd := dig_num z
  rw [num_cnt z 8 (by omega)] at hd
  unfold pivQ
  have hbd := dig_bd z
  by_cases h0 : dig z = 0
  · rw [if_pos h0] at hd
    rw [if_neg (by omega), if_neg]
    rintro ⟨h1, h2, _⟩
    rw [if_pos ⟨h1, h2⟩] at hd; cases hd
  · rw [if_neg h0] at hd
    have hc : 1 ≤ cnt z big ∧ cnt z big ≤ 8 := by
      apply Classical.byContradiction
      intro hn
      rw [if_neg hn] at hd; cases hd
    rw [if_pos hc] at hd
    have he : cnt z big = (dig z).toNat := Option.some.inj hd
    rw [if_pos (by omega), ← he]
    rcases find_mem h (cnt z big) with ⟨x, h1, h2, h3, h4⟩ | ⟨h1, h2⟩
    · rw [h1]
      simp only [Option.bind_some]
      have hk := h.kinds x h3
      rw [h2] at hk
      have hp : pivotB (kd truth) x.2 = (F.all.testBit (cnt z big) == truth) := by
        rw [hk]; unfold pivotB kd; cases truth <;> cases x.2 <;> rfl
      rw [hp]
      by_cases hb : F.all.testBit (cnt z big) = truth
      · rw [if_pos (by simpa using hb), if_pos ⟨hc.1, hc.2, h4, hb⟩]
      · rw [if_neg (by simpa using hb), if_neg (fun hh => hb hh.2.2.2)]
    · rw [h1, if_neg (fun hh => h2 hh.2.2.1)]; rfl
theorem resQ2_eq {F : Form} (a b : Nat × Nat) (v : Nat) (h1 : 1 ≤ v) (h8 : v ≤ 8) (sa : SI F a) (sb : SI F b) : resQ2 a b v = if a.1.testBit v = false ∨ b.2.testBit v = false then none else apartO (resolve2 a b v) := by
  by_cases ha : a.1.testBit v = true
  · by_cases hb : b.2.testBit v = true
    · have e : without2 a b v = resolve2 a b v := by
        have na : a.2.testBit v = false := by
          cases hh : a.2.testBit v with
          | false => rfl
          | true => exact (bits_apart sa.apart v ha hh).elim
        have nb : b.1.testBit v = false := by
          cases hh : b.1.testBit v with
          | false => rfl
          | true => exact (bits_apart sb.apart v hh hb).elim
        unfold without2 without resolve2
        rw [bitOf_nat v h1 h8]
        apply pair_ext
        · intro u
          show (less (a.1 ||| b.1) (2 ^ v)).testBit u = (less a.1 (2 ^ v) ||| b.1).testBit u
          rw [testBit_less, Nat.testBit_or, Nat.testBit_or, testBit_less, Nat.testBit_two_pow]
          by_cases e : v = u
          · subst e; simp [nb]
          · simp [e]
        · intro u
          show (less (a.2 ||| b.2) (2 ^ v)).testBit u = (a.2 ||| less b.2 (2 ^ v)).testBit u
          rw [testBit_less, Nat.testBit_or, Nat.testBit_or, testBit_less, Nat.testBit_two_pow]
          by_cases e : v = u
          · subst e; simp [na]
          · simp [e]
      have e1 : resQ2 a b v = (if (without2 a b v).1 &&& (without2 a b v).2 != 0 then none else some (without2 a b v)) := by
        unfold resQ2; rw [hasLit_pos a v h1 h8, hasLit_neg b v h1 h8, if_pos ⟨ha, hb⟩]
      rw [e1, e, if_neg (show ¬ (a.1.testBit v = false ∨ b.2.testBit v = false) by rw [ha, hb]; simp)]
      unfold apartO
      by_cases hz2 : (resolve2 a b v).1 &&& (resolve2 a b v).2 = 0
      · rw [if_pos hz2, if_neg (by simp [hz2])]
      · rw [if_neg hz2, if_pos (by simpa using hz2)]
    · have hb' : b.2.testBit v = false := by simpa using hb
      rw [if_pos (Or.inr hb')]
      unfold resQ2; rw [hasLit_neg b v h1 h8, if_neg (fun hh => hb hh.2)]
  · have ha' : a.1.testBit v = false := by simpa using ha
    rw [if_pos (Or.inl ha')]
    unfold resQ2; rw [hasLit_pos a v h1 h8, if_neg (fun hh => ha hh.1)]
theorem res_eq {F : Form} {q : QS} (h : FQ F q) (truth : Bool) (ss : List (Nat × Nat)) (hs : ss.length ≤ 9000) (hSI : ∀ c ∈ ss, SI F c) (x y z : List UInt8) : resQ q (kd truth) ss [x, y, z] = resR F truth ss (cnt x big) (cnt y big) (cnt z big) := by
  have LQ : resQ q (kd truth) ss [x, y, z] = (aheadQ ss x).bind fun a => (aheadQ ss y).bind fun b => (pivQ q (kd truth) z).bind fun v => resQ2 a b v := rfl
  have RN : (cnt x big < 1 ∨ ss.length < cnt x big ∨ cnt y big < 1 ∨ ss.length < cnt y big ∨ cnt z big < 1 ∨ 8 < cnt z big) → resR F truth ss (cnt x big) (cnt y big) (cnt z big) = none := fun hh => by unfold resR; rw [if_pos hh]
  rw [LQ]
  by_cases hx : cnt x big < 1 ∨ ss.length < cnt x big
  · rw [ahead_eq ss x hs, if_pos hx, RN (by omega)]; rfl
  · rw [ahead_eq ss x hs, if_neg hx, Option.bind_some]
    by_cases hy : cnt y big < 1 ∨ ss.length < cnt y big
    · rw [ahead_eq ss y hs, if_pos hy, RN (by omega)]; rfl
    · rw [ahead_eq ss y hs, if_neg hy, Option.bind_some]
      by_cases hz : cnt z big < 1 ∨ 8 < cnt z big
      · rw [piv_eq h truth z, if_neg (by omega), RN (by omega)]; rfl
      · have h1 : 1 ≤ cnt z big := by omega
        have h8 : cnt z big ≤ 8 := by omega
        have ia : cnt x big - 1 < ss.length := by omega
        have ib : cnt y big - 1 < ss.length := by omega
        have hR : resR F truth ss (cnt x big) (cnt y big) (cnt z big) = if F.all.testBit (cnt z big) ≠ truth ∨ ss[cnt x big - 1].1.testBit (cnt z big) = false ∨ ss[cnt y big - 1].2.testBit (cnt z big) = false then none else apartO (resolve2 ss[cnt x big - 1] ss[cnt y big - 1] (cnt z big)) := by
          unfold resR
          rw [if_neg (by omega), getD_at _ _ _ ia, getD_at _ _ _ ib]
        rw [hR, getD_at _ _ _ ia, getD_at _ _ _ ib, piv_eq h truth z]
        have sa := hSI _ (List.getElem_mem ia)
        have sb := hSI _ (List.getElem_mem ib)
        clear RN LQ hR
        generalize ss[cnt x big - 1] = a at *
        generalize ss[cnt y big - 1] = b at *
        generalize cnt z big = v at *
        by_cases hk : F.all.testBit v = truth
        · by_cases hm : v ∈ F.order
          · have hc : (1 ≤ v ∧ v ≤ 8 ∧ v ∈ F.order ∧ F.all.testBit v = truth) := ⟨h1, h8, hm, hk⟩
            rw [if_pos hc, Option.bind_some, resQ2_eq a b v h1 h8 sa sb]
            by_cases hh : a.1.testBit v = false ∨ b.2.testBit v = false
            · rw [if_pos hh, if_pos (Or.inr hh)]
            · rw [if_neg hh, if_neg (by rintro (h' | h'); exact h' hk; exact hh h')]
          · have hc : ¬ (1 ≤ v ∧ v ≤ 8 ∧ v ∈ F.order ∧ F.all.testBit v = truth) := fun hh => hm hh.2.2.1
            have ha : a.1.testBit v = false := by
              cases hh : a.1.testBit v with
              | false => rfl
              | true => exact absurd (sa.vars v (Or.inl hh)) hm
            rw [if_neg hc, if_pos (Or.inr (Or.inl ha))]; rfl
        · have hc : ¬ (1 ≤ v ∧ v ≤ 8 ∧ v ∈ F.order ∧ F.all.testBit v = truth) := fun hh => hk hh.2.2.2
          rw [if_neg hc, if_pos (Or.inl hk)]; rfl

/-! Cubes -/
theorem lit_eq (c : Nat × Nat) (w : List UInt8) : (litInto c w).2 = litGood w ∧ (litGood w = true → (litInto c w).1 = withLit c (litNum w) ∧ (litNum w).natAbs = litVar w) := by
  obtain ⟨h1, h2⟩ := litInto_good c w
  refine ⟨h1, fun hg => ⟨h2 hg, ?_⟩⟩
  unfold litGood at hg
  unfold litNum litVar
  by_cases hh : w.head? = some 45
  · rw [if_pos hh] at hg ⊢
    have hd : 0 < dig w.tail := of_decide_eq_true hg
    have h0 : dig w = 0 := by
      cases w with
      | nil => simp at hh
      | cons a r =>
        simp at hh; subst hh
        cases r with
        | nil => rfl
        | cons b r => rfl
    rw [if_pos h0]; omega
  · rw [if_neg hh] at hg ⊢
    have hd : 0 < dig w := of_decide_eq_true hg
    rw [if_neg (by omega)]; omega
theorem cube_eq {F : Form} {q : QS} (h : FQ F q) (ws : List (List UInt8)) : ∀ (c : Nat × Nat) (last : Nat), cubeQ q.vars c last ws = cubeTo F.order c last ws := by
  induction ws with
  | nil => intro c last; rfl
  | cons w ws ih =>
    intro c last
    obtain ⟨h1, h2⟩ := lit_eq c w
    rw [cubeQ, cubeTo, h1]
    cases hg : litGood w with
    | false => rw [if_neg (by decide), if_neg (fun hh => by cases hh.1)]
    | true =>
      obtain ⟨h3, h4⟩ := h2 hg
      rw [if_pos rfl, h4, h3]
      rcases find_mem h (litVar w) with ⟨x, f1, f2, f3, f4⟩ | ⟨f1, f2⟩
      · rw [f1]
        dsimp only
        rw [f2]
        by_cases hle : litVar w ≤ last
        · rw [if_pos hle, if_neg (fun hh => by have := hh.2.1; omega)]
        · rw [if_neg hle, if_pos ⟨rfl, by omega, f4⟩, ih]
      · rw [f1]
        dsimp only
        rw [if_neg (fun hh => f2 hh.2.2)]
theorem cubeStep_eq {F : Form} {q : QS} (h : FQ F q) (ws : List (List UInt8)) : cubeStepQ q 2 ws = cubeR F ws := by
  unfold cubeStepQ cubeR
  rw [if_pos rfl, cube_eq h, h.cl]
  congr 1
  funext c
  have : satQ q.cl c = satR q.cl c := by
    unfold satQ satR
    congr 1
    funext x
    exact okC_eq x c
  rw [this]

/-! Lines -/
theorem step_eq {F : Form} {q : QS} (h : FQ F q) (hF : FOk F) (truth : Bool) (ss : List (Nat × Nat)) (hs : ss.length ≤ 9000) (hSI : ∀ c ∈ ss, SI F c) (hd : List UInt8) (tl : List (List UInt8)) : stepQ q (kd truth) ss hd tl = stepR F truth ss hd tl := by
  unfold stepQ
  by_cases ha : hd = [97]
  · subst ha
    rw [if_pos rfl]
    cases truth with
    | true =>
      have e1 : stepR F true ss [97] tl = none := rfl
      rw [e1]; rfl
    | false =>
      by_cases hl : tl.length = 1
      · obtain ⟨x, rfl⟩ := List.length_eq_one_iff.1 hl
        exact axiom_eq h x
      · have e1 : stepR F false ss [97] tl = none := by unfold stepR; rw [if_neg (fun h => hl h.2.2), if_neg (by simp), if_neg (by simp), if_neg (by simp)]
        rw [e1]
        unfold axiomQ
        split
        · split
          · simp at hl
          · rfl
        · rfl
  · rw [if_neg ha]
    by_cases hc : hd = [99]
    · subst hc
      rw [if_pos rfl]
      cases truth with
      | false =>
        have e1 : stepR F false ss [99] tl = none := rfl
        rw [e1]; rfl
      | true =>
        have e1 : stepR F true ss [99] tl = cubeR F tl := rfl
        rw [e1]; exact cubeStep_eq h tl
    · rw [if_neg hc]
      by_cases hr : hd = [114]
      · subst hr
        rw [if_pos rfl]
        by_cases hl : tl.length = 3
        · obtain ⟨x, y, z, rfl⟩ := len_three hl
          rw [res_eq h truth ss hs hSI]
          unfold stepR; rw [if_neg (by simp), if_neg (by simp), if_pos ⟨rfl, rfl⟩]; rfl
        · have e1 : stepR F truth ss [114] tl = none := by unfold stepR; rw [if_neg (by simp), if_neg (by simp), if_neg (fun h => hl h.2), if_neg (by simp)]
          rw [e1]
          unfold resQ
          split
          · simp at hl
          · rfl
      · rw [if_neg hr]
        by_cases hdd : hd = [100]
        · subst hdd
          rw [if_pos rfl]
          by_cases hl : tl.length = 1
          · obtain ⟨x, rfl⟩ := List.length_eq_one_iff.1 hl
            rw [reduct_eq h hF truth ss hs]
            unfold stepR; rw [if_neg (by simp), if_neg (by simp), if_neg (by simp), if_pos ⟨rfl, rfl⟩]; rfl
          · have e1 : stepR F truth ss [100] tl = none := by unfold stepR; rw [if_neg (by simp), if_neg (by simp), if_neg (by simp), if_neg (fun h => hl h.2)]
            rw [e1]
            unfold reductQ
            split
            · simp at hl
            · rfl
        · rw [if_neg hdd]
          unfold stepR; rw [if_neg (fun h => ha h.1), if_neg (fun h => hc h.1), if_neg (fun h => hr h.1), if_neg (fun h => hdd h.1)]
end Go.Proofs.YtgipjjhkhfihpabGreatDoor

namespace Go.Proofs.YtgipjjhkhfihpabGreatDoor
open Go.RowKit

theorem cnt_nil : cnt [] big = 0 := rfl
theorem cubeTo_bad (order : List Nat) (ws : List (List UInt8)) (h : [] ∈ ws) : ∀ c last, cubeTo order c last ws = none := by
  induction ws with
  | nil => simp at h
  | cons w ws ih =>
    intro c last
    rw [cubeTo]
    rcases List.mem_cons.1 h with h | h
    · subst h; rw [if_neg]; rintro ⟨h1, _⟩; cases h1
    · split
      · exact ih h _ _
      · rfl
theorem step_bad (F : Form) (truth : Bool) (ss : List (Nat × Nat)) (hd : List UInt8) (tl : List (List UInt8)) (h : hd = [] ∨ [] ∈ tl) : stepR F truth ss hd tl = none := by
  rcases h with h | h
  · subst h
    unfold stepR; rw [if_neg (by simp), if_neg (by simp), if_neg (by simp), if_neg (by simp)]
  · unfold stepR
    split
    · next hc =>
      obtain ⟨x, rfl⟩ := List.length_eq_one_iff.1 hc.2.2
      have hx : x = [] := by simpa using h
      subst hx
      show axR F (cnt [] big) = none
      rw [cnt_nil]; rfl
    · split
      · unfold cubeR; rw [cubeTo_bad _ _ h]; rfl
      · split
        · next hc =>
          obtain ⟨x, y, z, rfl⟩ := len_three hc.2
          show resR F truth ss (cnt x big) (cnt y big) (cnt z big) = none
          unfold resR
          rw [if_pos]
          simp at h
          rcases h with h | h | h
          · left; rw [h, cnt_nil]; omega
          · right; right; left; rw [h, cnt_nil]; omega
          · right; right; right; right; left; rw [h, cnt_nil]; omega
        · split
          · next hc =>
            obtain ⟨x, rfl⟩ := List.length_eq_one_iff.1 hc.2
            have hx : x = [] := by simpa using h
            subst hx
            show reductR F truth ss (cnt [] big) = none
            rw [cnt_nil]; rfl
          · rfl
theorem line_eq {F : Form} {q : QS} (h : FQ F q) (hF : FOk F) (truth : Bool) (ss : List (Nat × Nat)) (hs : ss.length ≤ 9000) (hSI : ∀ c ∈ ss, SI F c) (row : List UInt8) : lineQ q (kd truth) ss row = lineR F truth ss row := by
  obtain ⟨hd, tl, hws⟩ : ∃ hd tl, cutAt 32 row = hd :: tl := by
    cases h : cutAt 32 row with
    | nil => simp [cutAt] at h
    | cons a b => exact ⟨a, b, rfl⟩
  rw [lineR_eq F truth ss row hd tl hws]
  by_cases h9 : 9000 ≤ ss.length
  · rw [if_pos (by omega)]
    unfold lineQ; rw [if_pos h9]
  · rw [if_neg (by omega)]
    cases hsp : splitOk row with
    | true => rw [lineQ_eq q (kd truth) ss row hd tl h9 hsp hws, step_eq h hF truth ss hs hSI]
    | false =>
      rw [step_bad F truth ss hd tl (split_words row hd tl hws hsp)]
      unfold lineQ; rw [if_neg h9, hsp]; rfl
theorem si_of {F : Form} {truth : Bool} {c : Nat × Nat} (hg : Good (satB F.cl) F.all (!truth) F.order c) (hb : Bd c) : SI F c := ⟨hb, apart_bits hg.apart, hg.vars⟩
theorem lineR_good {F : Form} (hF : FOk F) (truth : Bool) (ss : List (Nat × Nat)) (hg : ∀ c ∈ ss, Good (satB F.cl) F.all (!truth) F.order c) (hb : ∀ c ∈ ss, Bd c) (row : List UInt8) (c : Nat × Nat) (h : lineR F truth ss row = some c) : Good (satB F.cl) F.all (!truth) F.order c ∧ Bd c ∧ ss.length < 9000 ∨ 9000 < ss.length := by
  unfold lineR at h
  split at h
  · cases h
  · split at h
    · cases h
    · next h9 =>
      by_cases hh : 9000 < ss.length
      · exact Or.inr hh
      · exact Or.inl ⟨good_stepR hF truth ss _ _ _ hg h, stepR_bd F truth ss _ _ c hF.bits hb h, by omega⟩
theorem rowsQ_eq {F : Form} {q : QS} (h : FQ F q) (hF : FOk F) (truth : Bool) (rs : List (List UInt8)) : ∀ (ss : List (Nat × Nat)) (n : Nat), ss.length ≤ 9000 → (∀ c ∈ ss, Good (satB F.cl) F.all (!truth) F.order c) → (∀ c ∈ ss, Bd c) → rowsQ q (kd truth) ss n rs = rowsR F truth ss n rs := by
  induction rs with
  | nil => intro ss n _ _ _; rfl
  | cons r rs ih =>
    intro ss n hs hg hb
    rw [rowsQ, rowsR, line_eq h hF truth ss hs (fun c hc => si_of (hg c hc) (hb c hc)) r]
    cases hl : lineR F truth ss r with
    | none => rfl
    | some c =>
      dsimp only
      rcases lineR_good hF truth ss hg hb r c hl with ⟨h1, h2, h3⟩ | h9
      · apply ih
        · simp; omega
        · intro c' hc'
          rcases List.mem_append.1 hc' with hc' | hc'
          · exact hg c' hc'
          · simp at hc'; subst hc'; exact h1
        · intro c' hc'
          rcases List.mem_append.1 hc' with hc' | hc'
          · exact hb c' hc'
          · simp at hc'; subst hc'; exact h2
      · omega
theorem check_eq {F : Form} {q : QS} (h : FQ F q) (hF : FOk F) (l : List UInt8) : checkQ q l = match provesR F l with
    | .inl (x, i) => (0, x, i)
    | .inr (truth, _) => (kd truth, 0, 0) := by
  unfold checkQ readQ provesR
  by_cases hl : 262144 < l.length
  · rw [if_pos hl, if_pos hl]
  · rw [if_neg hl, if_neg hl]
    cases hrows : (cutTo 10 l).1 with
    | nil => rfl
    | cons r0 rs =>
      unfold firstQ
      dsimp only
      by_cases hr : r0 = sTrue ∨ r0 = sFalse
      · rw [if_pos hr, if_pos hr]
        have hk : kindOf r0 = kd (r0 == sTrue) := by
          unfold kindOf kd
          by_cases e : r0 = sTrue
          · rw [if_pos e, if_pos (by simpa using e)]
          · rw [if_neg e, if_neg (by simpa using e)]
        unfold goQ
        rw [hk, rowsQ_eq h hF (r0 == sTrue) rs [] 1 (by simp) (by simp) (by simp)]
        cases rowsR F (r0 == sTrue) [] 1 rs with
        | inr i => rfl
        | inl ss =>
          dsimp only
          have he : closedQ ss = emptyLast ss := rfl
          rw [he]
          by_cases hc : (cutTo 10 l).2 = [] ∧ emptyLast ss = true
          · rw [if_pos hc, if_pos ⟨by simpa using hc.1, hc.2⟩]
          · rw [if_neg hc, if_neg (fun hh => hc ⟨by simpa using hh.1, hh.2⟩)]
      · rw [if_neg hr, if_neg hr]

end Go.Proofs.YtgipjjhkhfihpabGreatDoor
