import Derived.Test.YtgipjjhkhfihpaaGreatDoorDN
import Derived.Test.YtgipjjhkhfihpaaGreatDoorDD
import Derived.Test.YtgipjjhkhfihpaaGreatDoorDL
import Derived.Test.YtgipjjhkhfihpaaGreatDoorDH
namespace Go.Proofs.YtgipjjhkhfihpaaGreatDoor
open Go.RowKit

/-! ### Read -/
def rowsQ (q : QS) (kind : Nat) : List (Nat × Nat) → Nat → List (List UInt8) → List (Nat × Nat) ⊕ Nat
  | ss, _, [] => .inl ss
  | ss, n, r :: rs => match lineQ q kind ss r with
    | none => .inr (n + 1)
    | some c => rowsQ q kind (ss ++ [c]) (n + 1) rs
def goQ (q : QS) (ended : Bool) (total : Nat) (kind : Nat) (ss : List (Nat × Nat)) (n : Nat) (rs : List (List UInt8)) : (Nat × Nat) ⊕ (Nat × List (Nat × Nat)) :=
  match rowsQ q kind ss n rs with
  | .inr i => .inl (5, i)
  | .inl ss' => if ended = true ∧ closedQ ss' = true then .inr (kind, ss') else .inl (5, total + 1)
def kindOf (r0 : List UInt8) : Nat := if r0 = sTrue then 2 else 1
def firstQ (q : QS) (ended : Bool) (rows : List (List UInt8)) : (Nat × Nat) ⊕ (Nat × List (Nat × Nat)) :=
  match rows with
  | [] => .inl (5, 1)
  | r0 :: rs => if r0 = sTrue ∨ r0 = sFalse then goQ q ended (rs.length + 1) (kindOf r0) [] 1 rs else .inl (5, 1)
def readQ (q : QS) (l : List UInt8) : (Nat × Nat) ⊕ (Nat × List (Nat × Nat)) :=
  if 262144 < l.length then .inl (1, 0) else firstQ q (decide ((cutTo 10 l).2 = [])) (cutTo 10 l).1
theorem rows_first (q : QS) (ended : Bool) (rows : List (List UInt8)) (h : 0 < rows.length) : firstQ q ended rows = if rows[0] = sTrue ∨ rows[0] = sFalse then goQ q ended rows.length (kindOf rows[0]) [] 1 (rows.drop 1) else .inl (5, 1) := by
  cases rows with
  | nil => simp at h
  | cons r0 rs => rfl
theorem PInv.setKind {w : World} {b : Nat} {q : QS} {kind : Nat} {ss : List Stp} {vV vC vS : Value} (h : PInv w b q kind ss vV vC vS) (kd : Nat) : PInv (w.setCell ⟨b, 2, none⟩ (.int .i64 kd)) b q kd ss vV vC vS := by
  have hb : Below b w (w.setCell ⟨b, 2, none⟩ (.int .i64 kd)) := (Below.refl b w).setCell (p := ⟨b, 2, none⟩) (Nat.le_refl _) _
  exact ⟨blk_set h.fb 2 _, own_under h.oV h.lV hb, own_under h.oC h.lC hb, ownsRow_setCell_below h.oS (a := ⟨b, 2, none⟩) (Nat.lt_succ_self b) _, h.lV, h.lC⟩
/-- Which steps reduce which, by the lines. -/
def Marks (rows : List (List UInt8)) (ss : List Stp) : Prop := ∀ i (h : i < ss.length), stMark ss[i] = markOf i (cutAt 32 (rows.getD (i + 1) []))
theorem marks_nil (rows : List (List UInt8)) : Marks rows [] := fun i h => by simp at h
theorem Marks.snoc {rows : List (List UInt8)} {ss : List Stp} {s : Stp} (h : Marks rows ss) (hs : stMark s = markOf ss.length (cutAt 32 (rows.getD (ss.length + 1) []))) : Marks rows (ss ++ [s]) := by
  intro i hi
  by_cases e : i < ss.length
  · rw [List.getElem_append_left e]
    exact h i e
  · have e2 : i = ss.length := by simp at hi; omega
    subst e2
    simpa using hs
def Tagged (q : QS) (kind : Nat) (l : List UInt8) (ss : List Stp) : Prop := Tags q kind ss ∧ Marks (cutTo 10 l).1 ss
def PReadPost (q : QS) (l : List UInt8) (w : World) (e : Ending) (w' : World) : Prop :=
  Below w.heap.size w w' ∧ match readQ q l with
    | .inl (x, i) => e = .returned (.tuple #[.agg #[.int .i64 0, .slice none 0 0], .int .i64 (x : Int), .int .i64 (i : Int)])
    | .inr (kind, ls) => ∃ ss vS, litsL ss = ls ∧ Tagged q kind l ss ∧ SBs ss ∧ e = .returned (.tuple #[.agg #[.int .i64 (kind : Int), vS], .int .i64 0, .int .i64 0]) ∧ w'.ownsRow w.heap.size 134 6 vS ss.length (psCells ss)

set_option maxRecDepth 100000 in
set_option maxHeartbeats 1600000 in
theorem preadFirst_any (b : Nat) (vV vC vS : Value) (kind : Nat) (l : List UInt8) (w : World) (hfb : w.heap[b]? = some (.cells #[vV, vC, .int .i64 kind, vS] 105 (0, 0))) :
    Calls Tryz.prog 46 #[.pointer (some ⟨b, 0, none⟩), .int .i64 0, .string ⟨l.toArray⟩] w fun e w' => KindPost b l w e w' := by
  go_enter Tryz.func46, Tryz.ntmps46
  go_wp2_with fail
  refine (readKind_any b vV vC vS kind l w hfb).mono ?_
  intro e w1 hk
  have hr : ∃ o, e = .returned (.bool o) := by
    rcases hk with h | h | h
    · exact ⟨_, h.2.1⟩
    · exact ⟨_, h.2.1⟩
    · exact ⟨_, h.2.2.1⟩
  obtain ⟨o, rfl⟩ := hr
  have HK := hide hk
  clear hk
  go_wp2_with fail
  go_ret
  exact unhide HK

set_option maxRecDepth 100000 in
set_option maxHeartbeats 3200000 in
theorem pread_any (q : QS) (vV vC : Value) (l : List UInt8) (w : World) (hV : w.ownsRow 0 139 2 vV q.vars.length (varCells q.vars)) (hC : w.ownsRow 0 74 2 vC q.cl.length (pairs q.cl)) (hQ : QB q) :
    Calls Tryz.prog 24 #[.agg #[vV, vC], .string ⟨l.toArray⟩] w fun e w' => PReadPost q l w e w' := by
  by_cases hlong : 262144 < l.length
  · have hd : decide ((262144 : Int) < (l.length : Int)) = true := by simp; omega
    have HF : Hid (readQ q l = .inl (1, 0)) := hide (by unfold readQ; rw [if_pos hlong])
    clear hlong
    obtain ⟨aV, cV, rfl⟩ := own_form hV
    obtain ⟨aC, cC, rfl⟩ := own_form hC
    go_enter Tryz.func24, Tryz.ntmps24
    go_wp2_with fail
    refine bodyPost_ret (v := .tuple #[.agg #[.int .i64 0, .slice none 0 0], .int .i64 1, .int .i64 0]) (by simp [results, Tryz.results24, go_sem]) rfl ⟨((Below.refl _ _).alloc (Nat.le_refl _) _).alloc (by simp) _, ?_⟩
    rw [unhide HF]; rfl
  · have hl : l.length ≤ 262144 := by omega
    have hd : decide ((262144 : Int) < (l.length : Int)) = false := by simp; omega
    have hdr := cutTo_size 10 l
    have HSP : Hid (readQ q l = firstQ q (decide ((cutTo 10 l).2 = [])) (cutTo 10 l).1) := hide (by unfold readQ; rw [if_neg hlong])
    clear hlong
    have HlV : Hid (∀ k, vV.ownBlock = some k → k < w.heap.size) := hide (fun k hk => (hV.lt k hk).2)
    have HlC : Hid (∀ k, vC.ownBlock = some k → k < w.heap.size) := hide (fun k hk => (hC.lt k hk).2)
    obtain ⟨aV, cV, rfl⟩ := own_form hV
    obtain ⟨aC, cC, rfl⟩ := own_form hC
    have hA0 : Below w.heap.size w ((w.alloc (.cells #[.slice aV q.vars.length cV, .slice aC q.cl.length cC] 60)).alloc (.cells #[.int .i64 0, .slice none 0 0] 67)) := ((Below.refl _ _).alloc (Nat.le_refl _) _).alloc (by simp) _
    have hf0 : ((w.alloc (.cells #[.slice aV q.vars.length cV, .slice aC q.cl.length cC] 60)).alloc (.cells #[.int .i64 0, .slice none 0 0] 67)).heap[w.heap.size]? = some (.cells #[.slice aV q.vars.length cV, .slice aC q.cl.length cC] 60 (0, 0)) := by
      rw [heap_alloc_old _ _ (by simp)]; exact heap_alloc_new _ _
    have hr0 : ((w.alloc (.cells #[.slice aV q.vars.length cV, .slice aC q.cl.length cC] 60)).alloc (.cells #[.int .i64 0, .slice none 0 0] 67)).heap[w.heap.size + 1]? = some (.cells #[.int .i64 0, .slice none 0 0] 67 (0, 0)) := alloc_new_at (by simp)
    go_enter Tryz.func24, Tryz.ntmps24
    go_wp2_with fail
    refine (lines_any l _ (by omega)).mono ?_
    rintro e w1 ⟨v, rfl, hown, hb1⟩
    have hB1 : Below w.heap.size w w1 := hA0.trans (hb1.mono hA0.size)
    have hf1 := (hb1.block _ (blk_lt hf0)).trans hf0
    have hr1 := (hb1.block _ (blk_lt hr0)).trans hr0
    have hsz1 : w.heap.size + 1 < w1.heap.size := blk_lt hr1
    have f10 : w1.cell? ⟨w.heap.size, 0, none⟩ = some (.slice aV q.vars.length cV) := by rw [blk_cell hf1]; rfl
    have f11 : w1.cell? ⟨w.heap.size, 1, none⟩ = some (.slice aC q.cl.length cC) := by rw [blk_cell hf1]; rfl
    have HRL : Hid (∀ r ∈ (cutTo 10 l).1, r.length ≤ 262144) := hide (fun r hr => by
      have := cutAt_len 10 l r (by unfold cutAt; exact List.mem_append_left _ hr); omega)
    have hoV1 := own_below hV hB1
    have hoC1 := own_below hC hB1
    generalize hrows : (cutTo 10 l).1 = rows at *
    obtain ⟨aL, cL, rfl⟩ := own_form hown
    obtain ⟨ended, hended⟩ : ∃ o, decide ((cutTo 10 l).2 = []) = o := ⟨_, rfl⟩
    rw [hended] at HSP ⊢
    have hown1 := own_lo (lo := 0) hown (Nat.zero_le _)
    have HROWS := hide hrows
    clear hown hrows hended
    have hrows2 : rows.length ≤ 262144 := by omega
    clear hdr
    go_wp2_with fail
    go_loopg [25] (rows.length) (fun m i wx => ∃ (k kind : Nat) (ss : List Stp) (vS : Value), i = .int .i64 k ∧ k + m = rows.length ∧ SBs ss ∧ (Tags q kind ss ∧ Marks rows ss) ∧ PInv wx w1.heap.size q kind ss (.slice aV q.vars.length cV) (.slice aC q.cl.length cC) vS ∧ Below w1.heap.size w1 wx ∧
      ((k = 0 ∧ kind = 0 ∧ ss = []) ∨ (1 ≤ k ∧ ss.length + 1 = k ∧ readQ q l = goQ q ended rows.length kind (litsL ss) k (rows.drop k))))
    case atStart =>
      refine ⟨0, 0, [], _, rfl, by omega, ⟨by simp, by simp⟩, ⟨tags_nil q 0, marks_nil rows⟩, ⟨heap_alloc_new _ _, hoV1.alloc _, hoC1.alloc _, World.ownsRow_nil _ _ _ _, fun k hk => Nat.lt_of_lt_of_le (unhide HlV k hk) hB1.size, fun k hk => Nat.lt_of_lt_of_le (unhide HlC k hk) hB1.size⟩, (Below.refl _ _).alloc (Nat.le_refl _) _, Or.inl ⟨rfl, rfl, rfl⟩⟩
    case round =>
      obtain ⟨k, kind, ss, vS, rfl, hk, hSB, hTg, hP, hbx, hph⟩ := hrel
      have HTG := hide hTg
      clear hTg
      have HPH := hide hph
      clear hph
      have hBx : Below w.heap.size w wr := hB1.trans (hbx.mono hB1.size)
      have hrx := (hbx.block _ hsz1).trans hr1
      have r0 : wr.cell? ⟨w.heap.size + 1, 0, none⟩ = some (.int .i64 0) := by rw [blk_cell hrx]; rfl
      have r1 : wr.cell? ⟨w.heap.size + 1, 1, none⟩ = some (.slice none 0 0) := by rw [blk_cell hrx]; rfl
      by_cases hlt : k < rows.length
      · obtain ⟨g, cap, hVe, hg, hg', _, hcell⟩ := own_pos hown1 (by omega)
        injection hVe with hVe _ hV2
        subst hVe hV2
        have hcj : wr.cell? ⟨g, k, none⟩ = some (S rows[k]) := by
          rw [hbx.cell (p := ⟨g, k, none⟩) hg']; exact hcell k _ (by simp [hlt])
        have hrl := unhide HRL _ (List.getElem_mem hlt)
        clear hcell
        go_wp2_with fail
        rcases unhide HPH with ⟨hk0, hkd, hss⟩ | ⟨hk1, hsk, hrq⟩
        · have HK0 := hide hk0
          subst hk0 hkd hss
          have HRQ : Hid (readQ q l = if rows[0] = sTrue ∨ rows[0] = sFalse then goQ q ended rows.length (kindOf rows[0]) [] 1 (rows.drop 1) else .inl (5, 1)) := hide (by
            rw [unhide HSP]
            exact rows_first q ended rows hlt)
          refine (preadFirst_any w1.heap.size _ _ vS 0 rows[0] wr hP.fb).mono ?_
          intro e w2 hkp
          have hkind : ∀ kd : Nat, PInv (wr.setCell ⟨w1.heap.size, 2, none⟩ (.int .i64 kd)) w1.heap.size q kd [] (.slice aV q.vars.length cV) (.slice aC q.cl.length cC) vS ∧ Below w1.heap.size w1 (wr.setCell ⟨w1.heap.size, 2, none⟩ (.int .i64 kd)) := fun kd => ⟨hP.setKind kd, hbx.setCell (p := ⟨w1.heap.size, 2, none⟩) (Nat.le_refl _) _⟩
          rcases hkp with ⟨h1, rfl, rfl⟩ | ⟨h1, rfl, rfl⟩ | ⟨h1, h2, rfl, hw2⟩
          · have HG : Hid (readQ q l = goQ q ended rows.length 1 [] 1 (rows.drop 1)) := hide (by
              rw [unhide HRQ, if_pos (Or.inr h1), h1]; rfl)
            obtain ⟨hPk, hbk⟩ := hkind 1
            have HPk := hide hPk
            have HBk := hide hbk
            clear h1 hPk hbk hkind
            go_wp2_with fail
            go_roundg (gk - 1)
            case measure => omega
            case rel => exact ⟨1, 1, [], vS, by go_num, by omega, hSB, ⟨tags_nil q 1, marks_nil rows⟩, unhide HPk, unhide HBk, Or.inr ⟨by omega, rfl, unhide HG⟩⟩
          · have HG : Hid (readQ q l = goQ q ended rows.length 2 [] 1 (rows.drop 1)) := hide (by
              rw [unhide HRQ, if_pos (Or.inl h1), h1]; rfl)
            obtain ⟨hPk, hbk⟩ := hkind 2
            have HPk := hide hPk
            have HBk := hide hbk
            clear h1 hPk hbk hkind
            go_wp2_with fail
            go_roundg (gk - 1)
            case measure => omega
            case rel => exact ⟨1, 2, [], vS, by go_num, by omega, hSB, ⟨tags_nil q 2, marks_nil rows⟩, unhide HPk, unhide HBk, Or.inr ⟨by omega, rfl, unhide HG⟩⟩
          · have HG : Hid (readQ q l = .inl (5, 1)) := hide (by rw [unhide HRQ, if_neg (fun h => h.elim h1 h2)])
            subst hw2
            clear h1 h2 hkind
            have hz := hrx
            have r20 : w2.cell? ⟨w.heap.size + 1, 0, none⟩ = some (.int .i64 0) := by rw [blk_cell hz]; rfl
            have r21 : w2.cell? ⟨w.heap.size + 1, 1, none⟩ = some (.slice none 0 0) := by rw [blk_cell hz]; rfl
            have y20 := blk_free hz 0
            have y21 := blk_free hz 1
            have hR := blk_set (blk_set hz 0 (.int .i64 0)) 1 (.slice none 0 0)
            have j0 := blk_cell hR 0
            have j1 := blk_cell hR 1
            go_wp2_with fail
            refine bodyPost_ret (v := .tuple #[.agg #[.int .i64 0, .slice none 0 0], .int .i64 5, .int .i64 1]) (by simp [results, Tryz.results24, go_sem, j0, j1]) rfl ⟨?_, ?_⟩
            · exact (hBx.setCell (p := ⟨w.heap.size + 1, 0, none⟩) (Nat.le_succ _) _).setCell (p := ⟨w.heap.size + 1, 1, none⟩) (Nat.le_succ _) _
            · rw [unhide HG]; exact congrArg (fun m : Int => Ending.returned (.tuple #[.agg #[.int .i64 0, .slice none 0 0], .int .i64 5, .int .i64 m])) (by omega)
        · have HSK := hide hsk
          clear hsk
          have hrq2 : readQ q l = match lineQ q kind (litsL ss) rows[k] with
              | none => .inl (5, k + 1)
              | some c => goQ q ended rows.length kind (litsL ss ++ [c]) (k + 1) (rows.drop (k + 1)) := by
            rw [hrq]
            unfold goQ
            rw [List.drop_eq_getElem_cons hlt, rowsQ]
            cases lineQ q kind (litsL ss) rows[k] <;> rfl
          have HRQ := hide hrq2
          clear hrq2 hrq
          refine (preadLine_any w1.heap.size q kind ss _ _ vS k rows[k] wr hP hQ hSB hk1 (by omega)).mono ?_
          rintro e w2 ⟨hb2, hp⟩
          have hb3 : Below w1.heap.size w1 w2 := hbx.trans hb2
          have hB3 : Below w.heap.size w w2 := hB1.trans (hb3.mono hB1.size)
          cases hq : lineQ q kind (litsL ss) rows[k] with
          | none =>
            rw [hq] at hp
            have hp' : e = .returned (.bool false) := hp
            subst hp'
            have HF : Hid (readQ q l = .inl (5, k + 1)) := hide (by rw [unhide HRQ, hq])
            clear hp hq
            have hz := (hb3.block _ hsz1).trans hr1
            have r20 : w2.cell? ⟨w.heap.size + 1, 0, none⟩ = some (.int .i64 0) := by rw [blk_cell hz]; rfl
            have r21 : w2.cell? ⟨w.heap.size + 1, 1, none⟩ = some (.slice none 0 0) := by rw [blk_cell hz]; rfl
            have y20 := blk_free hz 0
            have y21 := blk_free hz 1
            have hR := blk_set (blk_set hz 0 (.int .i64 0)) 1 (.slice none 0 0)
            have j0 := blk_cell hR 0
            have j1 := blk_cell hR 1
            go_wp2_with fail
            refine bodyPost_ret (v := .tuple #[.agg #[.int .i64 0, .slice none 0 0], .int .i64 5, .int .i64 ((k : Int) + 1)]) (by simp [results, Tryz.results24, go_sem, j0, j1]) rfl ⟨?_, ?_⟩
            · exact (hB3.setCell (p := ⟨w.heap.size + 1, 0, none⟩) (Nat.le_succ _) _).setCell (p := ⟨w.heap.size + 1, 1, none⟩) (Nat.le_succ _) _
            · rw [unhide HF]; exact congrArg (fun m : Int => Ending.returned (.tuple #[.agg #[.int .i64 0, .slice none 0 0], .int .i64 5, .int .i64 m])) (by omega)
          | some c =>
            rw [hq] at hp
            have hp' : e = .returned (.bool true) ∧ (c.1 < 512 ∧ c.2 < 512) ∧ ∃ s vS', s.lits = c ∧ TagM q kind ss (cutAt 32 rows[k]) s ∧ PInv w2 w1.heap.size q kind (ss ++ [s]) (.slice aV q.vars.length cV) (.slice aC q.cl.length cC) vS' := hp
            obtain ⟨rfl, hlt2, s, vS', hsc, htg, hP'⟩ := hp'
            have HTN : Hid (Tags q kind (ss ++ [s]) ∧ Marks rows (ss ++ [s])) := hide ⟨(unhide HTG).1.snoc htg.1, (unhide HTG).2.snoc (by
              rw [htg.2, unhide HSK]; simp [List.getD, hlt])⟩
            clear htg
            have HF : Hid (readQ q l = goQ q ended rows.length kind (litsL (ss ++ [s])) (k + 1) (rows.drop (k + 1))) := hide (by rw [unhide HRQ, hq, litsL_snoc, hsc])
            have hSB' : SBs (ss ++ [s]) := ⟨by
              have : ¬ 9000 ≤ ss.length := fun h9 => by unfold lineQ at hq; rw [if_pos (by simpa [litsL] using h9)] at hq; cases hq
              simp; omega, fun c' hc' => by
              rcases List.mem_append.1 hc' with hc' | hc'
              · exact hSB.bits c' hc'
              · simp at hc'; subst hc'; rw [hsc]; exact hlt2⟩
            have HS := hide hSB'
            clear hp hq hSB' hsc
            go_wp2_with fail
            go_roundg (gk - 1)
            case measure => omega
            case rel => exact ⟨k + 1, kind, ss ++ [s], vS', by go_num, by omega, unhide HS, unhide HTN, hP', hb3, Or.inr ⟨by omega, by have := unhide HSK; simp; omega, unhide HF⟩⟩
      · have hkl : k = rows.length := by omega
        have HRQ : Hid (readQ q l = if ended = true ∧ closedQ (litsL ss) = true then .inr (kind, litsL ss) else .inl (5, rows.length + 1)) := hide (by
          rcases unhide HPH with ⟨hk0, hkd, hss⟩ | ⟨hk1, _, hrq⟩
          · have : rows = [] := List.eq_nil_of_length_eq_zero (by omega)
            rw [unhide HSP, this, hss, if_neg (by intro h; cases h.2)]
            rfl
          · rw [hrq, hkl, List.drop_length]; rfl)
        subst hkl
        cases ended with
        | false =>
          have HF : Hid (readQ q l = .inl (5, rows.length + 1)) := hide (by rw [unhide HRQ, if_neg (by intro h; cases h.1)])
          have hz := hrx
          have r20 : wr.cell? ⟨w.heap.size + 1, 0, none⟩ = some (.int .i64 0) := by rw [blk_cell hz]; rfl
          have r21 : wr.cell? ⟨w.heap.size + 1, 1, none⟩ = some (.slice none 0 0) := by rw [blk_cell hz]; rfl
          have y20 := blk_free hz 0
          have y21 := blk_free hz 1
          have hR := blk_set (blk_set hz 0 (.int .i64 0)) 1 (.slice none 0 0)
          have j0 := blk_cell hR 0
          have j1 := blk_cell hR 1
          go_wp2_with fail
          refine bodyPost_ret (v := .tuple #[.agg #[.int .i64 0, .slice none 0 0], .int .i64 5, .int .i64 ((rows.length : Int) + 1)]) (by simp [results, Tryz.results24, go_sem, j0, j1]) rfl ⟨?_, ?_⟩
          · exact (hBx.setCell (p := ⟨w.heap.size + 1, 0, none⟩) (Nat.le_succ _) _).setCell (p := ⟨w.heap.size + 1, 1, none⟩) (Nat.le_succ _) _
          · rw [unhide HF]; exact congrArg (fun m : Int => Ending.returned (.tuple #[.agg #[.int .i64 0, .slice none 0 0], .int .i64 5, .int .i64 m])) (by omega)
        | true =>
          go_wp2_with fail
          refine (closed_any w1.heap.size q kind ss _ _ vS wr hP hSB).mono ?_
          rintro e w2 ⟨rfl, hb2⟩
          have hP2 := hP.later hb2
          have hb3 : Below w1.heap.size w1 w2 := hbx.trans (hb2.mono hbx.size)
          have hB3 : Below w.heap.size w w2 := hB1.trans (hb3.mono hB1.size)
          cases hcl : closedQ (litsL ss) with
          | false =>
            have HF : Hid (readQ q l = .inl (5, rows.length + 1)) := hide (by rw [unhide HRQ, if_neg (by rw [hcl]; intro h; cases h.2)])
            clear hcl
            have hz := (hb3.block _ hsz1).trans hr1
            have r20 : w2.cell? ⟨w.heap.size + 1, 0, none⟩ = some (.int .i64 0) := by rw [blk_cell hz]; rfl
            have r21 : w2.cell? ⟨w.heap.size + 1, 1, none⟩ = some (.slice none 0 0) := by rw [blk_cell hz]; rfl
            have y20 := blk_free hz 0
            have y21 := blk_free hz 1
            have hR := blk_set (blk_set hz 0 (.int .i64 0)) 1 (.slice none 0 0)
            have j0 := blk_cell hR 0
            have j1 := blk_cell hR 1
            go_wp2_with fail
            refine bodyPost_ret (v := .tuple #[.agg #[.int .i64 0, .slice none 0 0], .int .i64 5, .int .i64 ((rows.length : Int) + 1)]) (by simp [results, Tryz.results24, go_sem, j0, j1]) rfl ⟨?_, ?_⟩
            · exact (hB3.setCell (p := ⟨w.heap.size + 1, 0, none⟩) (Nat.le_succ _) _).setCell (p := ⟨w.heap.size + 1, 1, none⟩) (Nat.le_succ _) _
            · rw [unhide HF]; exact congrArg (fun m : Int => Ending.returned (.tuple #[.agg #[.int .i64 0, .slice none 0 0], .int .i64 5, .int .i64 m])) (by omega)
          | true =>
            have HSBH := hide hSB
            have HF : Hid (readQ q l = .inr (kind, litsL ss)) := hide (by rw [unhide HRQ, if_pos (by simp [hcl])])
            clear hcl
            have hz := (hb3.block _ hsz1).trans hr1
            have r20 : w2.cell? ⟨w.heap.size + 1, 0, none⟩ = some (.int .i64 0) := by rw [blk_cell hz]; rfl
            have r21 : w2.cell? ⟨w.heap.size + 1, 1, none⟩ = some (.slice none 0 0) := by rw [blk_cell hz]; rfl
            have y20 := blk_free hz 0
            have y21 := blk_free hz 1
            have p2 : w2.cell? ⟨w1.heap.size, 2, none⟩ = some (.int .i64 kind) := by rw [blk_cell hP2.fb]; rfl
            have p3 : w2.cell? ⟨w1.heap.size, 3, none⟩ = some vS := by rw [blk_cell hP2.fb]; rfl
            obtain ⟨aS, cS, rfl⟩ := own_form hP2.oS
            have hO := ownsRow_setCell_below (ownsRow_setCell_below hP2.oS (a := ⟨w.heap.size + 1, 0, none⟩) (show w.heap.size + 1 < w1.heap.size + 1 by omega) (.int .i64 kind)) (a := ⟨w.heap.size + 1, 1, none⟩) (show w.heap.size + 1 < w1.heap.size + 1 by omega) (.slice aS ss.length cS)
            have HO := hide (own_lo (lo := w.heap.size) hO (by omega))
            clear hO
            have hR := blk_set (blk_set hz 0 (.int .i64 kind)) 1 (.slice aS ss.length cS)
            have j0 := blk_cell hR 0
            have j1 := blk_cell hR 1
            go_wp2_with fail
            refine bodyPost_ret (v := .tuple #[.agg #[.int .i64 kind, .slice aS ss.length cS], .int .i64 0, .int .i64 0]) (by simp [results, Tryz.results24, go_sem, j0, j1]) rfl ⟨?_, ?_⟩
            · exact (hB3.setCell (p := ⟨w.heap.size + 1, 0, none⟩) (Nat.le_succ _) _).setCell (p := ⟨w.heap.size + 1, 1, none⟩) (Nat.le_succ _) _
            · rw [unhide HF]; exact ⟨ss, _, rfl, ⟨(unhide HTG).1, by rw [unhide HROWS]; exact (unhide HTG).2⟩, unhide HSBH, rfl, unhide HO⟩
end Go.Proofs.YtgipjjhkhfihpaaGreatDoor

namespace Go.Proofs.YtgipjjhkhfihpaaGreatDoor
open Go.RowKit

set_option maxRecDepth 100000 in
set_option maxHeartbeats 800000 in
theorem formula_any (b : Nat) (vV vC : Value) (aV aC : Option Addr) (nV cV nC cC : Nat) (hV : vV = .slice aV nV cV) (hC : vC = .slice aC nC cC) (w : World) (hb : w.heap[b]? = some (.cells #[vV, vC] 64 (0, 0))) :
    Calls Tryz.prog 25 #[.pointer (some ⟨b, 0, none⟩)] w fun e w' => e = .returned (.agg #[vV, vC]) ∧ Below w.heap.size w w' := by
  subst hV hC
  have hf0 : w.cell? ⟨b, 0, none⟩ = some (.slice aV nV cV) := by rw [blk_cell hb]; rfl
  have hf1 : w.cell? ⟨b, 1, none⟩ = some (.slice aC nC cC) := by rw [blk_cell hb]; rfl
  have hbl := blk_lt hb
  go_enter Tryz.func25, Tryz.ntmps25
  go_wp2_with fail
  refine bodyPost_ret (v := .agg #[.slice aV nV cV, .slice aC nC cC]) (by simp [results, Tryz.results25, go_sem]) rfl ⟨rfl, ?_⟩
  exact (Below.refl _ _).alloc (Nat.le_refl _) _
end Go.Proofs.YtgipjjhkhfihpaaGreatDoor

namespace Go.Proofs.YtgipjjhkhfihpaaGreatDoor
open Go.RowKit

/-! ### Check -/
def checkQ (q : QS) (l : List UInt8) : Nat × Nat × Nat := match readQ q l with
  | .inl (x, i) => (0, x, i)
  | .inr (kind, _) => (kind, 0, 0)
def CheckPost (q : QS) (l : List UInt8) (w : World) (e : Ending) (w' : World) : Prop :=
  Below w.heap.size w w' ∧ e = .returned (.tuple #[.int .i64 ((checkQ q l).1 : Int), .int .i64 ((checkQ q l).2.1 : Int), .int .i64 ((checkQ q l).2.2 : Int)])

set_option maxRecDepth 100000 in
set_option maxHeartbeats 1600000 in
theorem check_any (lo b : Nat) (q : QS) (l : List UInt8) (w : World) (hP : ProgAt lo w b q) (hQ : QB q) :
    Calls Tryz.prog 17 #[.pointer (some ⟨b, 0, none⟩), .string ⟨l.toArray⟩] w fun e w' => CheckPost q l w e w' := by
  obtain ⟨_, vV, vC, hfb, hV, hC⟩ := hP
  have hbw := blk_lt hfb
  have k0 : w.cell? ⟨b, 0, none⟩ = some vV := by rw [blk_cell hfb]; rfl
  have k1 : w.cell? ⟨b, 1, none⟩ = some vC := by rw [blk_cell hfb]; rfl
  obtain ⟨aV, cV, rfl⟩ := own_form hV
  obtain ⟨aC, cC, rfl⟩ := own_form hC
  go_enter Tryz.func17, Tryz.ntmps17
  go_wp2_with fail
  refine (formula_any b _ _ aV aC _ cV _ cC rfl rfl w hfb).mono ?_
  rintro e w0 ⟨rfl, hA⟩
  go_wp2_with fail
  refine (pread_any q _ _ l _ (own_lo (lo := 0) (own_below hV hA) (Nat.zero_le _)) (own_lo (lo := 0) (own_below hC hA) (Nat.zero_le _)) hQ).mono ?_
  rintro e w1 ⟨hb1, hp⟩
  have hB1 : Below w.heap.size w w1 := hA.trans (hb1.mono hA.size)
  cases hq : readQ q l with
  | inl xi =>
    obtain ⟨x, i⟩ := xi
    rw [hq] at hp
    have hp' : e = .returned (.tuple #[.agg #[.int .i64 0, .slice none 0 0], .int .i64 (x : Int), .int .i64 (i : Int)]) := hp
    subst hp'
    have HC : Hid (checkQ q l = (0, x, i)) := hide (by unfold checkQ; rw [hq])
    clear hp hq
    go_wp2_with fail
    go_ret3
    exact ⟨hB1.alloc hB1.size _, by rw [unhide HC]; rfl⟩
  | inr ks =>
    obtain ⟨kind, ls⟩ := ks
    rw [hq] at hp
    obtain ⟨ss, vS, _, _, _, rfl, hS⟩ := hp
    have HC : Hid (checkQ q l = (kind, 0, 0)) := hide (by unfold checkQ; rw [hq])
    clear hq
    obtain ⟨aS, cS, rfl⟩ := own_form hS
    go_wp2_with fail
    go_ret3
    exact ⟨hB1.alloc hB1.size _, by rw [unhide HC]; rfl⟩
end Go.Proofs.YtgipjjhkhfihpaaGreatDoor

namespace Go.Proofs.YtgipjjhkhfihpaaGreatDoor

/-! ### Both sides' blocks are the same -/
theorem all_fold (l : List (Nat × Bool)) : ∀ (a v : Nat), (l.foldl (fun a x => if x.2 then a ||| 2 ^ x.1 else a) a).testBit v = (a.testBit v || l.any (fun x => x.2 && x.1 == v)) := by
  induction l with
  | nil => intro a v; simp
  | cons x l ih =>
    intro a v
    rw [List.foldl_cons, ih, List.any_cons]
    cases x.2 with
    | false => simp
    | true =>
      rw [if_pos rfl, Nat.testBit_or, testBit_pow, Bool.or_assoc]; simp
theorem zip_map (l : List (Nat × Bool)) : (l.map (·.1)).zip (l.map (·.2)) = l := by
  induction l with
  | nil => rfl
  | cons x l ih => simp [ih]
theorem all_bit {st : RS} {q : QS} (h : Same st q) (v : Nat) : (finish st).all.testBit v = q.vars.any (fun x => x.2 && x.1 == v) := by
  show (allTo st st.told.length).testBit v = _
  unfold allTo
  rw [h.told, h.kinds, zip_map, List.length_map, List.take_length, all_fold]
  simp
theorem any_unique (l : List (Nat × Bool)) (hn : (l.map (·.1)).Nodup) (x : Nat × Bool) (hx : x ∈ l) : l.any (fun y => y.2 && y.1 == x.1) = x.2 := by
  induction l with
  | nil => simp at hx
  | cons y l ih =>
    rw [List.map_cons, List.nodup_cons] at hn
    rw [List.any_cons]
    rcases List.mem_cons.1 hx with e | hx
    · subst e
      have : l.any (fun y => y.2 && y.1 == x.1) = false := by
        rw [List.any_eq_false]
        intro z hz hh
        simp at hh
        exact hn.1 (by rw [← hh.2]; exact List.mem_map_of_mem hz)
      rw [this]; simp
    · rw [ih hn.2 hx]
      have : (y.1 == x.1) = false := by
        rw [beq_eq_false_iff_ne]; intro e; exact hn.1 (by rw [e]; exact List.mem_map_of_mem hx)
      rw [this]; simp
theorem free_eq {st : RS} {q : QS} (h : Same st q) : freeTo st 8 = freeQ q 8 := by
  unfold freeTo freeQ
  apply List.filter_congr
  intro v hv
  rw [List.mem_map] at hv
  obtain ⟨u, hu, rfl⟩ := hv
  have : u < 8 := by simpa using hu
  rw [h.used (u + 1) (by omega) (by omega), h.seen, Bool.and_comm]
theorem order_eq {st : RS} {q : QS} (h : Same st q) : (finish st).order = (qFinish q).vars.map (·.1) := by
  show freeTo st 8 ++ st.told = (exv (freeQ q 8) ++ q.vars).map (·.1)
  rw [free_eq h, h.told, List.map_append]
  congr 1
  simp [exv, Function.comp_def]
theorem kinds_eq {st : RS} {q : QS} (h : Same st q) (hn : QNice q) : ∀ x ∈ (qFinish q).vars, (finish st).all.testBit x.1 = x.2 := by
  intro x hx
  rw [all_bit h]
  rcases List.mem_append.1 (show x ∈ exv (freeQ q 8) ++ q.vars from hx) with hx | hx
  · unfold exv at hx
    rw [List.mem_map] at hx
    obtain ⟨v, hv, rfl⟩ := hx
    unfold freeQ at hv
    rw [List.mem_filter, Bool.and_eq_true, Bool.not_eq_true'] at hv
    have hh := hv.2.1
    dsimp only
    rw [List.any_eq_false]
    intro z hz hzz
    simp at hzz
    have : hasV q.vars v = true := by unfold hasV; rw [List.any_eq_true]; exact ⟨z, hz, by simpa using hzz.2⟩
    rw [hh] at this; cases this
  · exact any_unique _ hn.nodup x hx
theorem finish_ends {st : RS} {q : QS} (h : Same st q) (hn : QNice q) : (finish st).ends = endsOf (qFinish q).vars := by
  have := ends_eq (qFinish q).vars (finish st).all (kinds_eq h hn)
  rw [← this]
  show endsTo (finish st).order (finish st).all (finish st).order.length = _
  rw [order_eq h, List.length_map]
theorem progBlocks_len (vs : List (Nat × Bool)) : (progBlocks vs).length = (endsOf vs).length := by rw [progBlocks_eq]; simp

/-- Names: rising bounds. -/
theorem nodup_lt : ∀ (n : Nat) (l : List Nat), l.Nodup → (∀ x ∈ l, x < n) → l.length ≤ n := by
  intro n
  induction n with
  | zero =>
    intro l _ h
    cases l with
    | nil => simp
    | cons x l => exact absurd (h x (by simp)) (by omega)
  | succ n ih =>
    intro l hn h
    have h1 := ih (l.erase n) (hn.erase n) (by
      intro x hx
      rw [hn.mem_erase_iff] at hx
      have := h x hx.2; omega)
    rw [List.length_erase] at h1
    split at h1 <;> omega
theorem nodup_le (l : List Nat) (hn : l.Nodup) (hb : ∀ x ∈ l, 1 ≤ x ∧ x ≤ 8) : l.length ≤ 8 := by
  have h := nodup_lt 9 (0 :: l) (by
    rw [List.nodup_cons]
    exact ⟨fun h => by have := hb 0 h; omega, hn⟩) (by
    intro x hx
    rcases List.mem_cons.1 hx with rfl | hx
    · omega
    · have := hb x hx; omega)
  simpa using h
theorem names_all {q : QS} (hn : QNice q) : ((qFinish q).vars.map (·.1)).Nodup ∧ ∀ x ∈ (qFinish q).vars, 1 ≤ x.1 ∧ x.1 ≤ 8 := by
  show ((exv (freeQ q 8) ++ q.vars).map (·.1)).Nodup ∧ ∀ x ∈ exv (freeQ q 8) ++ q.vars, 1 ≤ x.1 ∧ x.1 ≤ 8
  have e : (exv (freeQ q 8)).map (·.1) = freeQ q 8 := by simp [exv, Function.comp_def]
  have hmem : ∀ v ∈ freeQ q 8, (1 ≤ v ∧ v ≤ 8) ∧ hasV q.vars v = false := by
    intro v hv
    unfold freeQ at hv
    rw [List.mem_filter, Bool.and_eq_true, Bool.not_eq_true', List.mem_map] at hv
    obtain ⟨⟨u, hu, rfl⟩, hh, _⟩ := hv
    have : u < 8 := by simpa using hu
    exact ⟨by omega, hh⟩
  constructor
  · rw [List.map_append, e, List.nodup_append]
    refine ⟨?_, hn.nodup, ?_⟩
    · unfold freeQ
      refine List.Pairwise.filter _ ?_
      rw [List.pairwise_map]
      exact List.pairwise_lt_range.imp (fun h => by omega)
    · intro a ha b hb e
      subst e
      rw [List.mem_map] at hb
      obtain ⟨x, hx, hxe⟩ := hb
      have : hasV q.vars a = true := by unfold hasV; rw [List.any_eq_true]; exact ⟨x, hx, by simpa using hxe⟩
      rw [(hmem a ha).2] at this; cases this
  · intro x hx
    rcases List.mem_append.1 hx with hx | hx
    · unfold exv at hx
      rw [List.mem_map] at hx
      obtain ⟨v, hv, rfl⟩ := hx
      exact (hmem v hv).1
    · exact hn.names x hx
theorem vars_le {q : QS} (hn : QNice q) : (qFinish q).vars.length ≤ 8 := by
  have h := names_all hn
  have := nodup_le _ h.1 (by
    intro x hx
    rw [List.mem_map] at hx
    obtain ⟨y, hy, rfl⟩ := hx
    exact h.2 y hy)
  simpa using this

/-! ### Where blocks end: rising, within the variables -/
theorem cuts_sorted (vs : List (Nat × Bool)) (k : Nat) : (cutsTo vs k).Pairwise (· < ·) := by
  unfold cutsTo
  exact List.Pairwise.filter _ List.pairwise_lt_range
theorem ends_sorted (vs : List (Nat × Bool)) : (endsOf vs).Pairwise (· < ·) := by
  unfold endsOf
  split
  · rw [List.pairwise_append]
    refine ⟨cuts_sorted _ _, by simp, ?_⟩
    intro a ha b hb
    simp at hb; subst hb
    exact (cutsTo_lt vs _ a ha).2
  · simp
theorem ends_mem (vs : List (Nat × Bool)) : ∀ x ∈ endsOf vs, 0 < x ∧ x ≤ vs.length := by
  unfold endsOf
  split
  · intro x hx
    rcases List.mem_append.1 hx with hx | hx
    · have := cutsTo_lt vs _ x hx; omega
    · simp at hx; omega
  · simp
theorem ends_len (vs : List (Nat × Bool)) : (endsOf vs).length ≤ vs.length := by
  unfold endsOf
  split
  · next h =>
    have hc : (cutsTo vs vs.length).length ≤ vs.length - 1 := by
      obtain ⟨n, hn⟩ : ∃ n, vs.length = n + 1 := ⟨vs.length - 1, by omega⟩
      rw [hn]
      unfold cutsTo
      rw [show List.range (n + 1) = 0 :: (List.range n).map (· + 1) from List.range_succ_eq_map, List.filter_cons, if_neg (by simp [newAt])]
      refine Nat.le_trans (List.length_filter_le _ _) ?_
      simp
    simp; omega
  · simp
theorem start_le (vs : List (Nat × Bool)) (k : Nat) (h : k < (endsOf vs).length) : startOf (endsOf vs) k ≤ (endsOf vs).getD k 0 := by
  unfold startOf
  split
  · have hs := ends_sorted vs
    rw [List.pairwise_iff_getElem] at hs
    have := hs (k - 1) k (by omega) h (by omega)
    simp only [List.getD, List.getElem?_eq_getElem h, List.getElem?_eq_getElem (show k - 1 < (endsOf vs).length by omega), Option.getD_some]
    omega
  · omega
theorem end_le (vs : List (Nat × Bool)) (k : Nat) (h : k < (endsOf vs).length) : (endsOf vs).getD k 0 ≤ vs.length := by
  simp only [List.getD, List.getElem?_eq_getElem h, Option.getD_some]
  exact (ends_mem vs _ (List.getElem_mem h)).2
end Go.Proofs.YtgipjjhkhfihpaaGreatDoor

namespace Go.Proofs.YtgipjjhkhfihpaaGreatDoor
open Go.RowKit

/-! ### reduced -/
theorem shr_bit_zero (a v : Nat) (ha : a < 512) (hv : v ≤ 8) : (bits .and .i64 ((a : Int) / 2 ^ v) 1 == 0) = !a.testBit v := by
  rw [shr_bit a v ha hv]; cases a.testBit v <;> rfl
theorem new_at {w : World} {o : Obj} {n : Nat} (h : n = w.heap.size) : (w.alloc o).heap[n]? = some o := by subst h; exact heap_alloc_new w o
theorem less_bit (a v : Nat) (ha : a < 512) (hv : v ≤ 8) : bits .andNot .i64 (a : Int) (wrap64 (2 ^ v)) = ((less a (2 ^ v) : Nat) : Int) := by
  have h := shl_one (v : Int) (by omega) (by omega)
  rw [Int.toNat_natCast] at h
  have hp := pow_bd v hv
  rw [h]
  exact i64_andNot _ _ (by omega) (by omega)
theorem lastTo_succ (order : List Nat) (kind : Nat) (c : Nat × Nat) (k v : Nat) (h : k < order.length) (hv : order[k] = v) : lastTo order kind c (k + 1) = if hasB c v && !kind.testBit v then k + 1 else lastTo order kind c k := by
  rw [lastTo]
  have : order.getD k 0 = v := by rw [List.getD, List.getElem?_eq_getElem h, hv]; rfl
  rw [this]
theorem lastTo_bound (order : List Nat) (kind : Nat) (c : Nat × Nat) (k : Nat) : lastTo order kind c k ≤ k := by
  induction k with
  | zero => exact Nat.le_refl _
  | succ k ih => rw [lastTo]; split <;> omega
def redTo (order : List Nat) (kind m : Nat) (c : Nat × Nat) (j : Nat) : Nat × Nat := ((order.drop m).take j).foldl (clr kind) c
theorem redTo_succ (order : List Nat) (kind m : Nat) (c : Nat × Nat) (j v : Nat) (h : m + j < order.length) (hv : order[m + j] = v) : redTo order kind m c (j + 1) = clr kind (redTo order kind m c j) v := by
  unfold redTo
  have hj : j < (order.drop m).length := by simp; omega
  rw [List.take_succ_eq_append_getElem hj, List.foldl_append, List.getElem_drop, hv]; rfl
theorem redTo_bd (order : List Nat) (kind m : Nat) (c : Nat × Nat) (j : Nat) (h : Bd c) : Bd (redTo order kind m c j) := clrs_bd kind _ c h
theorem redTo_end (order : List Nat) (kind : Nat) (c : Nat × Nat) (j : Nat) (h : lastTo order kind c order.length + j = order.length) : redTo order kind (lastTo order kind c order.length) c j = redR order kind c := by
  unfold redTo redR
  rw [List.take_of_length_le (by simp; omega)]

set_option maxRecDepth 100000 in
set_option maxHeartbeats 3200000 in
theorem reduced_any (lo b p0 n0 kind : Nat) (F : Form) (w : World) (hR : RefAt lo w b F) (hl : F.order.length ≤ 8) (hnm : ∀ v ∈ F.order, v ≤ 8) (hk : kind < 512) (hp0 : p0 < 512) (hn0 : n0 < 512) :
    Calls Tryz.prog 107 #[.pointer (some ⟨b, 0, none⟩), .agg #[.int .i64 (p0 : Int), .int .i64 (n0 : Int)], .int .i64 kind] w fun e w' =>
      e = .returned (.agg #[.int .i64 ((redR F.order kind (p0, n0)).1 : Int), .int .i64 ((redR F.order kind (p0, n0)).2 : Int)]) ∧ Below w.heap.size w w' := by
  obtain ⟨_, vO, vE, vC, hfb, hO, _, _⟩ := hR
  obtain ⟨aO, cO, rfl⟩ := own_form hO
  have hbw := blk_lt hfb
  have k0 : w.cell? ⟨b, 0, none⟩ = some (.slice aO F.order.length cO) := by rw [blk_cell hfb]; rfl
  have HNM := hide hnm; clear hnm
  have hor : bits .or .i64 (p0 : Int) (n0 : Int) = ((p0 ||| n0 : Nat) : Int) := i64_or _ _ (by omega) (by omega)
  have hol := or_lt p0 n0 hp0 hn0
  go_enter Tryz.func107, Tryz.ntmps107
  go_wp2_with fail
  go_loopg [7, 8] F.order.length (fun m la i wx => ∃ k : Nat, i = .int .i64 k ∧ la = .int .i64 ((lastTo F.order kind (p0, n0) k : Int) - 1) ∧ k + m = F.order.length ∧ Below w.heap.size w wx ∧ wx.heap[w.heap.size]? = some (.cells #[.int .i64 p0, .int .i64 n0] 121 (0, 0)) ∧ wx.heap[w.heap.size + 1]? = some (.cells #[.int .i64 0, .int .i64 0] 121 (0, 0)))
  case atStart => exact ⟨0, rfl, rfl, by omega, ((Below.refl _ _).alloc (Nat.le_refl _) _).alloc (by simp) _, by rw [heap_alloc_old _ _ (by simp)]; exact heap_alloc_new _ _, new_at (by simp)⟩
  case round =>
    obtain ⟨k, rfl, rfl, hkm, hb, hc, hr⟩ := hrel
    have hbs := blk_lt hr
    have c0 : wr.cell? ⟨w.heap.size, 0, none⟩ = some (.int .i64 p0) := by rw [blk_cell hc]; rfl
    have c1 : wr.cell? ⟨w.heap.size, 1, none⟩ = some (.int .i64 n0) := by rw [blk_cell hc]; rfl
    have x0 : wr.cell? ⟨b, 0, none⟩ = some (.slice aO F.order.length cO) := by rw [hb.cell (p := ⟨b, 0, none⟩) hbw]; exact k0
    have hlb := lastTo_bound F.order kind (p0, n0) k
    by_cases hlt : k < F.order.length
    · obtain ⟨g, cap, hV, hg, hg', _, hcell⟩ := own_pos hO (by omega)
      injection hV with hV _ hV2
      subst hV hV2
      have hx : wr.cell? ⟨g, k, none⟩ = some (.int .i64 (F.order[k] : Int)) := by rw [hb.cell (p := ⟨g, k, none⟩) hg']; exact hcell _ _ (ints_at _ _ hlt)
      have hv8 := unhide HNM _ (List.getElem_mem hlt)
      have HS := hide (lastTo_succ F.order kind (p0, n0) k F.order[k] hlt rfl)
      clear hcell
      generalize F.order[k] = v at *
      generalize lastTo F.order kind (p0, n0) k = la at *
      have e1 := shr_bit_eq (p0 ||| n0) v hol hv8
      have e2 := shr_bit_zero kind v hk hv8
      have HB : Hid (hasB (p0, n0) v = (p0 ||| n0).testBit v) := hide rfl
      cases h1 : (p0 ||| n0).testBit v with
      | false =>
        rw [h1] at e1
        have HL : Hid (lastTo F.order kind (p0, n0) (k + 1) = la) := hide (by rw [unhide HS, unhide HB, h1]; rfl)
        go_wp2_with fail
        go_roundg (gk - 1)
        case measure => omega
        case rel => exact ⟨k + 1, by go_num, by rw [unhide HL], by omega, hb, hc, hr⟩
      | true =>
        rw [h1] at e1
        cases h2 : kind.testBit v with
        | false =>
          rw [h2] at e2
          have HL : Hid (lastTo F.order kind (p0, n0) (k + 1) = k + 1) := hide (by rw [unhide HS, unhide HB, h1, h2]; rfl)
          go_wp2_with fail
          go_roundg (gk - 1)
          case measure => omega
          case rel => exact ⟨k + 1, by go_num, by rw [unhide HL]; exact congrArg (Value.int .i64) (by omega), by omega, hb, hc, hr⟩
        | true =>
          rw [h2] at e2
          have HL : Hid (lastTo F.order kind (p0, n0) (k + 1) = la) := hide (by rw [unhide HS, unhide HB, h1, h2]; rfl)
          go_wp2_with fail
          go_roundg (gk - 1)
          case measure => omega
          case rel => exact ⟨k + 1, by go_num, by rw [unhide HL], by omega, hb, hc, hr⟩
    · have hkl : k = F.order.length := by omega
      subst hkl
      have HE := hide (redTo_end F.order kind (p0, n0))
      have HT := hide (redTo_succ F.order kind (lastTo F.order kind (p0, n0) F.order.length) (p0, n0))
      have HBD := hide (fun j => redTo_bd F.order kind (lastTo F.order kind (p0, n0) F.order.length) (p0, n0) j ⟨hp0, hn0⟩)
      have HR0 : Hid (redTo F.order kind (lastTo F.order kind (p0, n0) F.order.length) (p0, n0) 0 = (p0, n0)) := hide rfl
      generalize lastTo F.order kind (p0, n0) F.order.length = m at *
      obtain ⟨wo, rfl⟩ : ∃ wo, wo = wr := ⟨_, rfl⟩
      go_wp2_with fail
      go_loopg [10] F.order.length (fun q i wx => ∃ (j p n : Nat), i = .int .i64 ((m + j : Nat) : Int) ∧ m + j + q = F.order.length + m ∧ m + j ≤ F.order.length ∧ redTo F.order kind m (p0, n0) j = (p, n) ∧ Below w.heap.size w wx ∧ wx.heap[w.heap.size]? = some (.cells #[.int .i64 p, .int .i64 n] 121 (0, 0)) ∧ wx.heap[w.heap.size + 1]? = some (.cells #[.int .i64 0, .int .i64 0] 121 (0, 0)))
      case atStart => exact ⟨0, p0, n0, by go_num, by omega, by omega, unhide HR0, hb, hc, hr⟩
      case round =>
        obtain ⟨j, p, n, rfl, hjq, hjl, hred, hb2, hc2, hr2⟩ := hrel
        have hbd := unhide HBD j
        rw [hred] at hbd
        have HRED := hide hred
        clear hred
        have hbs2 := blk_lt hr2
        have hbs3 : w.heap.size < wr.heap.size := by omega
        have c20 : wr.cell? ⟨w.heap.size, 0, none⟩ = some (.int .i64 p) := by rw [blk_cell hc2]; rfl
        have c21 : wr.cell? ⟨w.heap.size, 1, none⟩ = some (.int .i64 n) := by rw [blk_cell hc2]; rfl
        have r20 : wr.cell? ⟨w.heap.size + 1, 0, none⟩ = some (.int .i64 0) := by rw [blk_cell hr2]; rfl
        have r21 : wr.cell? ⟨w.heap.size + 1, 1, none⟩ = some (.int .i64 0) := by rw [blk_cell hr2]; rfl
        have z0 := blk_free hc2 0
        have z1 := blk_free hc2 1
        have y0 := blk_free hr2 0
        have y1 := blk_free hr2 1
        have x20 : wr.cell? ⟨b, 0, none⟩ = some (.slice aO F.order.length cO) := by rw [hb2.cell (p := ⟨b, 0, none⟩) hbw]; exact k0
        have hp9 : p < 512 := hbd.1
        have hn9 : n < 512 := hbd.2
        clear hbd
        by_cases hlt2 : m + j < F.order.length
        · obtain ⟨g, cap, hV, hg, hg', _, hcell⟩ := own_pos hO (by omega)
          injection hV with hV _ hV2
          subst hV hV2
          have hx : wr.cell? ⟨g, m + j, none⟩ = some (.int .i64 (F.order[m + j] : Int)) := by rw [hb2.cell (p := ⟨g, m + j, none⟩) hg']; exact hcell _ _ (ints_at _ _ hlt2)
          have hv8 := unhide HNM _ (List.getElem_mem hlt2)
          have HS := hide (unhide HT j F.order[m + j] hlt2 rfl)
          clear hcell
          generalize F.order[m + j] = v at *
          have e2 := shr_bit_eq kind v hk hv8
          have l1 := less_bit p v hp9 hv8
          have l2 := less_bit n v hn9 hv8
          cases h2 : kind.testBit v with
          | false =>
            rw [h2] at e2
            have HL : Hid (redTo F.order kind m (p0, n0) (j + 1) = (p, n)) := hide (by rw [unhide HS, unhide HRED]; unfold clr; rw [h2]; rfl)
            go_wp2_with fail
            go_roundg (gk - 1)
            case measure => omega
            case rel => exact ⟨j + 1, p, n, by go_num, by omega, by omega, unhide HL, hb2, hc2, hr2⟩
          | true =>
            rw [h2] at e2
            have HL : Hid (redTo F.order kind m (p0, n0) (j + 1) = (less p (2 ^ v), less n (2 ^ v))) := hide (by rw [unhide HS, unhide HRED]; unfold clr; rw [h2]; rfl)
            go_wp2_with fail
            go_region
            all_goals go_wp2_with fail
            all_goals go_region
            all_goals go_wp2_with fail
            go_roundg (gk - 1)
            case measure => omega
            case rel =>
              refine ⟨j + 1, less p (2 ^ v), less n (2 ^ v), by go_num, by omega, by omega, unhide HL, (((hb2.setCell (p := ⟨w.heap.size, 0, none⟩) (Nat.le_refl _) _).setCell (p := ⟨w.heap.size, 1, none⟩) (Nat.le_refl _) _).drew).drew, blk_set (blk_set hc2 0 _) 1 _, ?_⟩
              show ((wr.setCell ⟨w.heap.size, 0, none⟩ (.int .i64 (less p (2 ^ v) : Nat))).setCell ⟨w.heap.size, 1, none⟩ (.int .i64 (less n (2 ^ v) : Nat))).heap[w.heap.size + 1]? = _
              rw [Below.heap_setCell _ _ _ _ (by simp), Below.heap_setCell _ _ _ _ (by simp)]
              exact hr2
        · have HF : Hid (redR F.order kind (p0, n0) = (p, n)) := hide (by rw [← unhide HE j (by omega)]; exact unhide HRED)
          have hR := blk_set (blk_set hr2 0 (.int .i64 p)) 1 (.int .i64 n)
          have j0 := blk_cell hR 0
          have j1 := blk_cell hR 1
          go_wp2_with fail
          refine bodyPost_ret (v := .agg #[.int .i64 p, .int .i64 n]) (by simp [results, Tryz.results107, go_sem, j0, j1]) rfl ⟨by rw [unhide HF], ?_⟩
          exact (hb2.setCell (p := ⟨w.heap.size + 1, 0, none⟩) (Nat.le_succ _) _).setCell (p := ⟨w.heap.size + 1, 1, none⟩) (Nat.le_succ _) _
end Go.Proofs.YtgipjjhkhfihpaaGreatDoor
