import Derived.Test.YtgipjjhkhfihpaaGreatDoorAG
import Derived.Test.YtgipjjhkhfihpaaGreatDoorAD
import Derived.Laws.MakeOwn
namespace Go.Proofs.YtgipjjhkhfihpaaGreatDoor
open Go.RowKit

/-! ### needed -/
def boolCells (l : List Bool) : List Value := l.map Value.bool
theorem boolCells_set (l : List Bool) (i : Nat) (b : Bool) : (boolCells l).toArray.setIfInBounds i (.bool b) = (boolCells (l.set i b)).toArray := by
  simp [boolCells]
theorem boolCells_at (l : List Bool) (i : Nat) (h : i < l.length) : (boolCells l).toArray[i]? = some (.bool (l.getD i false)) := by
  simp [boolCells, List.getElem?_eq_getElem h]
theorem made_one (z : Value) (n : Nat) : madeCells #[z] n = (List.replicate n z).toArray := by
  apply Array.ext
  · simp [madeCells]
  · intro i h1 h2
    simp [madeCells, Nat.mod_one]
def NeededPost (p : List Stp) (last : Nat) (w : World) (e : Ending) (w' : World) : Prop := ∃ g, e = .returned (.slice (some ⟨g, 0, none⟩) (p.length + 1) (p.length + 1)) ∧ w.heap.size ≤ g ∧ w'.heap[g]? = some (.cells (boolCells (needs p last)).toArray 4 (0, 0)) ∧ Below w.heap.size w w'
theorem markStep_len (p : List Stp) (last i : Nat) (m : List Bool) : (markStep p last i m).length = m.length := by
  unfold markStep markOne
  dsimp only
  split <;> split <;> split <;> simp
theorem markStep_as (p : List Stp) (last i : Nat) (mk M : List Bool) (st : Stp) (hM : (if i + 1 = last then mk.set (i + 1) true else mk) = M) (hi : i < p.length) (hst : p[i] = st) :
    markStep p last (i + 1) mk = if M.getD (i + 1) false = true ∧ st.rule ≠ 1 then markOne true (i + 1) st.second (markOne true (i + 1) st.first M) else M := by
  have hg : p.getD (i + 1 - 1) ⟨0, 0, 0, 0, (0, 0)⟩ = st := by
    rw [Nat.add_sub_cancel, List.getD_eq_getElem?_getD, List.getElem?_eq_getElem hi]; exact hst
  unfold markStep
  dsimp only
  rw [hM, hg]
  by_cases h1 : M.getD (i + 1) false = true
  · by_cases h2 : st.rule ≠ 1
    · rw [if_pos ⟨h1, h2⟩, h1, decide_eq_true h2]; rfl
    · rw [if_neg (fun h => h2 h.2), decide_eq_false h2, Bool.and_false]
      unfold markOne
      rw [if_neg (fun h => by cases h.1), if_neg (fun h => by cases h.1)]
  · rw [if_neg (fun h => h1 h.1)]
    have h3 : M.getD (i + 1) false = false := by simpa using h1
    rw [h3, Bool.false_and]
    unfold markOne
    rw [if_neg (fun h => by cases h.1), if_neg (fun h => by cases h.1)]
theorem markOne_in (i n : Nat) (m : List Bool) (h0 : 0 < n) (h1 : n < i) : markOne true i n m = m.set n true := by unfold markOne; rw [if_pos ⟨rfl, h0, h1⟩]
theorem markOne_out (i n : Nat) (m : List Bool) (h : ¬ (0 < n ∧ n < i)) : markOne true i n m = m := by unfold markOne; rw [if_neg (fun hh => h hh.2)]
theorem cell_other2 {w : World} {c k : Nat} (u : Value) {b : Nat} (hne : c ≠ b) (o : Nat) : (w.setCell ⟨c, k, none⟩ u).cell? ⟨b, o, none⟩ = w.cell? ⟨b, o, none⟩ := by
  unfold World.cell?
  have : (w.setCell ⟨c, k, none⟩ u).heap[b]? = w.heap[b]? := by simp [World.setCell, Array.getElem?_modify, hne]
  rw [this]
set_option maxRecDepth 100000 in
set_option maxHeartbeats 3200000 in
theorem needed_any (b o : Nat) (cells : Array Value) (t : TypeId) (p : List Stp) (vS : Value) (kind last : Nat) (w : World) (hP : PAt w b o cells t p vS kind) (hl : p.length ≤ 100000) :
    Calls Tryz.prog 93 #[.pointer (some ⟨b, o, none⟩), .int .i64 (last : Int)] w fun e w' => NeededPost p last w e w' := by
  obtain ⟨aS, cS, rfl⟩ := own_form hP.own
  have hbw := blk_lt hP.fb
  have cs1 : w.cell? ⟨b, o + 1, none⟩ = some (.slice aS p.length cS) := by rw [blk_cell hP.fb]; exact hP.cs
  have hmk : ∀ w : World, (Instr.makeSlice 154 (.int .i64 ((p.length : Int) + 1)) (.int .i64 ((p.length : Int) + 1))).run Tryz.prog w = .ok (.slice (some ⟨w.heap.size, 0, none⟩) (p.length + 1) (p.length + 1)) (w.alloc (.cells (boolCells (List.replicate (p.length + 1) false)).toArray 4)) := fun w => by
    obtain ⟨i1, hi1, hz10, hz11, hz12⟩ := info_parts (show (Tryz.prog.info? 4).map (fun i => (i.zero, i.size, i.bytes)) = some (some (.bool false), 1, 1) by kernel_rfl)
    have h := run_makeSlice (P := Tryz.prog) w 154 4 i1 (.bool false) Tryz.underlying154 hi1 hz10 .i64 .i64 ((p.length + 1 : Nat) : Int) ((p.length + 1 : Nat) : Int) (by omega) (by omega) (by rw [hz11]; simp; omega) (by rw [hz12]; omega) (by omega)
    rw [hz11, Int.toNat_natCast, Nat.mul_one] at h
    rw [show (Value.bool false).cells = #[.bool false] from rfl, made_one] at h
    have e2 : boolCells (List.replicate (p.length + 1) false) = List.replicate (p.length + 1) (Value.bool false) := by simp [boolCells]
    rw [e2]
    exact h
  go_enter Tryz.func93, Tryz.ntmps93
  go_wp2_with fail
  have h0 : (w.alloc (.cells (boolCells (List.replicate (p.length + 1) false)).toArray 4)).cell? ⟨b, o + 1, none⟩ = some (.slice aS p.length cS) := by rw [((Below.refl w.heap.size w).alloc (Nat.le_refl _) _).cell (p := ⟨b, o + 1, none⟩) hbw]; exact cs1
  go_wp2_with fail
  go_loopg [6] (p.length + 1) (fun m iv wx => ∃ (k : Nat) (mk : List Bool), iv = .int .i64 (k : Int) ∧ k + 1 ≤ m ∧ m ≤ k + 1 ∧ k ≤ p.length ∧ mk.length = p.length + 1 ∧ needs p last = markTo p last k mk ∧ Below w.heap.size w wx ∧ wx.heap[w.heap.size]? = some (.cells (boolCells mk).toArray 4 (0, 0)))
  case atStart => exact ⟨p.length, List.replicate (p.length + 1) false, rfl, by omega, by omega, by omega, by simp, rfl, (Below.refl _ _).alloc (Nat.le_refl _) _, heap_alloc_new _ _⟩
  case round =>
    obtain ⟨k, mk, rfl, hkm, hkm2, hkl, hml, hmk2, hb, hg⟩ := hrel
    have HMK := hide hmk2
    clear hmk2
    have HML := hide hml
    clear hml
    have hlg := blk_lt hg
    have hPr := hP.later hb
    have cr1 : wr.cell? ⟨b, o + 1, none⟩ = some (.slice aS p.length cS) := by rw [blk_cell hPr.fb]; exact hPr.cs
    have lbr := blk_lt hPr.fb
    cases k with
    | zero =>
      have HF : Hid (needs p last = mk) := hide (by rw [unhide HMK]; rfl)
      have hd0 : decide ((0 : Int) < (0 : Int)) = false := by decide
      go_wp2_with fail
      go_ret
      exact ⟨w.heap.size, rfl, Nat.le_refl _, by rw [unhide HF]; exact hg, hb⟩
    | succ i =>
      have hd0 : decide ((0 : Int) < ((i + 1 : Nat) : Int)) = true := decide_eq_true (by omega)
      have HST : Hid (needs p last = markTo p last i (markStep p last (i + 1) mk)) := hide (by rw [unhide HMK]; rfl)
      clear HMK
      have hi : i < p.length := by omega
      obtain ⟨g2, cap, hVe, _, hg2', _, hcell⟩ := own_pos hPr.own (by omega)
      injection hVe with hVe _ hV2
      subst hVe hV2
      obtain ⟨st, hst⟩ : ∃ X, p[i] = X := ⟨_, rfl⟩
      obtain ⟨HMS⟩ : Nonempty (Hid (∀ M, (if i + 1 = last then mk.set (i + 1) true else mk) = M → markStep p last (i + 1) mk = if M.getD (i + 1) false = true ∧ st.rule ≠ 1 then markOne true (i + 1) st.second (markOne true (i + 1) st.first M) else M)) := ⟨hide (fun M hM => markStep_as p last i mk M st hM hi hst)⟩
      have e0 : wr.cell? ⟨g2, i * 6, none⟩ = some (.int .i64 (p[i].rule : Int)) := hcell _ _ (psCells_at p i 0 hi (by omega))
      have e1 : wr.cell? ⟨g2, i * 6 + 1, none⟩ = some (.int .i64 (p[i].first : Int)) := hcell _ _ (psCells_at p i 1 hi (by omega))
      have e2 : wr.cell? ⟨g2, i * 6 + 2, none⟩ = some (.int .i64 (p[i].second : Int)) := hcell _ _ (psCells_at p i 2 hi (by omega))
      have e3 : wr.cell? ⟨g2, i * 6 + 3, none⟩ = some (.int .i64 (p[i].var : Int)) := hcell _ _ (psCells_at p i 3 hi (by omega))
      have e4 : wr.cell? ⟨g2, i * 6 + 4, none⟩ = some (.int .i64 (p[i].lits.1 : Int)) := hcell _ _ (psCells_at p i 4 hi (by omega))
      have e5 : wr.cell? ⟨g2, i * 6 + 5, none⟩ = some (.int .i64 (p[i].lits.2 : Int)) := hcell _ _ (psCells_at p i 5 hi (by omega))
      rw [hst] at e0 e1 e2 e3 e4 e5
      clear hst hcell
      obtain ⟨sr, sf, ss, sv, l1, l2⟩ := st
      dsimp only at *
      have hgne : g2 ≠ w.heap.size := by
        intro e
        subst e
        exact absurd (own_type_ne hPr.own hg (by decide)) (fun h => h rfl)
      have hd2 : decide ((i : Int) < (p.length : Int)) = true := decide_eq_true (by omega)
      have hd3 : decide (i < p.length) = true := decide_eq_true hi
      by_cases hil : i + 1 = last
      · skip
        have hd1 : (((i + 1 : Nat) : Int) == (last : Int)) = true := by rw [beq_iff_eq]; omega
        have hd1' : ((i : Int) + 1 == (last : Int)) = true := by rw [beq_iff_eq]; omega
        have HIL := hide hil
        clear hil
        have cL : wr.cell? ⟨w.heap.size, i + 1, none⟩ = some (.bool (mk.getD (i + 1) false)) := by rw [blk_cell hg]; exact boolCells_at _ _ (by rw [unhide HML]; omega)
        have zL := blk_free hg (i + 1)
        have hgL := blk_set hg (i + 1) (.bool true)
        rw [boolCells_set] at hgL
        have hbL := hb.setCell (p := ⟨w.heap.size, i + 1, none⟩) (Nat.le_refl _) (.bool true)
        have hdn0 : decide ((i : Int) + 1 < (p.length : Int) + 1) = true := decide_eq_true (by omega)
        have hdn20 : decide (i + 1 < p.length + 1) = true := decide_eq_true (by omega)
        have k0 := (cell_other2 (w := wr) (c := w.heap.size) (k := i + 1) (.bool true) (fun e => hgne e.symm) (i * 6)).trans e0
        have k1 := (cell_other2 (w := wr) (c := w.heap.size) (k := i + 1) (.bool true) (fun e => hgne e.symm) (i * 6 + 1)).trans e1
        have k2 := (cell_other2 (w := wr) (c := w.heap.size) (k := i + 1) (.bool true) (fun e => hgne e.symm) (i * 6 + 2)).trans e2
        have k3 := (cell_other2 (w := wr) (c := w.heap.size) (k := i + 1) (.bool true) (fun e => hgne e.symm) (i * 6 + 3)).trans e3
        have k4 := (cell_other2 (w := wr) (c := w.heap.size) (k := i + 1) (.bool true) (fun e => hgne e.symm) (i * 6 + 4)).trans e4
        have k5 := (cell_other2 (w := wr) (c := w.heap.size) (k := i + 1) (.bool true) (fun e => hgne e.symm) (i * 6 + 5)).trans e5
        have hbne : w.heap.size ≠ b := by omega
        have kr1 := (cell_other2 (w := wr) (c := w.heap.size) (k := i + 1) (.bool true) hbne (o + 1)).trans cr1

        have HM2 : Hid (needs p last = markTo p last i (if (mk.set (i + 1) true).getD (i + 1) false = true ∧ sr ≠ 1 then markOne true (i + 1) ss (markOne true (i + 1) sf (mk.set (i + 1) true)) else (mk.set (i + 1) true))) := hide (by rw [unhide HST, unhide HMS (mk.set (i + 1) true) (if_pos (unhide HIL))])
        have HML2 : Hid ((mk.set (i + 1) true).length = p.length + 1) := hide (by rw [List.length_set]; exact unhide HML)
        have hA : Below (wr.setCell ⟨w.heap.size, i + 1, none⟩ (.bool true)).heap.size (wr.setCell ⟨w.heap.size, i + 1, none⟩ (.bool true)) ((wr.setCell ⟨w.heap.size, i + 1, none⟩ (.bool true)).alloc (.cells #[.int .i64 (sr : Int), .int .i64 (sf : Int), .int .i64 (ss : Int), .int .i64 (sv : Int), .int .i64 (l1 : Int), .int .i64 (l2 : Int)] 134)) := (Below.refl _ _).alloc (Nat.le_refl _) _
        have hgY := (hA.block _ (blk_lt hgL)).trans hgL
        have hbY := hbL.trans (hA.mono hbL.size)
        have hsY := heap_alloc_new (wr.setCell ⟨w.heap.size, i + 1, none⟩ (.bool true)) (.cells #[.int .i64 (sr : Int), .int .i64 (sf : Int), .int .i64 (ss : Int), .int .i64 (sv : Int), .int .i64 (l1 : Int), .int .i64 (l2 : Int)] 134)
        have hszX : (wr.setCell ⟨w.heap.size, i + 1, none⟩ (.bool true)).heap.size = wr.heap.size := by simp [World.setCell]
        rw [hszX] at hsY
        have nY : ((wr.setCell ⟨w.heap.size, i + 1, none⟩ (.bool true)).alloc (.cells #[.int .i64 (sr : Int), .int .i64 (sf : Int), .int .i64 (ss : Int), .int .i64 (sv : Int), .int .i64 (l1 : Int), .int .i64 (l2 : Int)] 134)).cell? ⟨w.heap.size, i + 1, none⟩ = some (.bool ((mk.set (i + 1) true).getD (i + 1) false)) := by rw [blk_cell hgY]; exact boolCells_at _ _ (by rw [unhide HML2]; omega)
        have q0 : ((wr.setCell ⟨w.heap.size, i + 1, none⟩ (.bool true)).alloc (.cells #[.int .i64 (sr : Int), .int .i64 (sf : Int), .int .i64 (ss : Int), .int .i64 (sv : Int), .int .i64 (l1 : Int), .int .i64 (l2 : Int)] 134)).cell? ⟨wr.heap.size, 0, none⟩ = some (.int .i64 (sr : Int)) := by rw [blk_cell hsY]; rfl
        have q1 : ((wr.setCell ⟨w.heap.size, i + 1, none⟩ (.bool true)).alloc (.cells #[.int .i64 (sr : Int), .int .i64 (sf : Int), .int .i64 (ss : Int), .int .i64 (sv : Int), .int .i64 (l1 : Int), .int .i64 (l2 : Int)] 134)).cell? ⟨wr.heap.size, 1, none⟩ = some (.int .i64 (sf : Int)) := by rw [blk_cell hsY]; rfl
        have q2 : ((wr.setCell ⟨w.heap.size, i + 1, none⟩ (.bool true)).alloc (.cells #[.int .i64 (sr : Int), .int .i64 (sf : Int), .int .i64 (ss : Int), .int .i64 (sv : Int), .int .i64 (l1 : Int), .int .i64 (l2 : Int)] 134)).cell? ⟨wr.heap.size, 2, none⟩ = some (.int .i64 (ss : Int)) := by rw [blk_cell hsY]; rfl
        have lsY := blk_lt hsY
        have lgY := blk_lt hgY
        obtain ⟨MM, hMM⟩ : ∃ Z, (mk.set (i + 1) true) = Z := ⟨_, rfl⟩
        rw [hMM] at HM2 HML2 hgY nY
        clear hMM
        have hdn : decide ((i : Int) + 1 < (p.length : Int) + 1) = true := decide_eq_true (by omega)
        have hdn2 : decide (i + 1 < p.length + 1) = true := decide_eq_true (by omega)
        cases hnb : MM.getD (i + 1) false with
        | false =>
          rw [hnb] at nY
          have HF : Hid (needs p last = markTo p last i MM) := hide (by rw [unhide HM2, if_neg (fun h => by rw [hnb] at h; cases h.1)])
          clear hnb
          go_wp2_with fail
          go_roundg (gk - 1)
          case measure => omega
          case rel => exact ⟨i, MM, by go_num, by omega, by omega, by omega, unhide HML2, unhide HF, hbY, hgY⟩
        | true =>
          rw [hnb] at nY
          by_cases hr1 : sr = 1
          · have hd5 : ((sr : Int) == 1) = true := by rw [beq_iff_eq]; omega
            have HF : Hid (needs p last = markTo p last i MM) := hide (by rw [unhide HM2, if_neg (fun h => h.2 hr1)])
            clear hnb hr1
            go_wp2_with fail
            go_roundg (gk - 1)
            case measure => omega
            case rel => exact ⟨i, MM, by go_num, by omega, by omega, by omega, unhide HML2, unhide HF, hbY, hgY⟩
          · have hd5 : ((sr : Int) == 1) = false := by rw [beq_eq_false_iff_ne]; omega
            have HF : Hid (needs p last = markTo p last i (markOne true (i + 1) ss (markOne true (i + 1) sf MM))) := hide (by rw [unhide HM2, if_pos ⟨hnb, hr1⟩])
            clear hnb hr1
            go_wp2_with fail
            generalize ((wr.setCell ⟨w.heap.size, i + 1, none⟩ (.bool true)).alloc (.cells #[.int .i64 (sr : Int), .int .i64 (sf : Int), .int .i64 (ss : Int), .int .i64 (sv : Int), .int .i64 (l1 : Int), .int .i64 (l2 : Int)] 134)) = wy at *
            obtain ⟨wo, hwo⟩ : ∃ wo, wo = (wr.setCell ⟨w.heap.size, i + 1, none⟩ (.bool true)) := ⟨_, rfl⟩
            obtain ⟨go, rfl⟩ : ∃ go, go = gk := ⟨_, rfl⟩
            go_loopg [55] 2 (fun m iv wx => ∃ (N : List Bool), N.length = p.length + 1 ∧ Below w.heap.size w wx ∧ wx.heap[w.heap.size]? = some (.cells (boolCells N).toArray 4 (0, 0)) ∧ ((iv = .int .i64 0 ∧ m = 2 ∧ needs p last = markTo p last i (markOne true (i + 1) ss (markOne true (i + 1) sf N))) ∨ (iv = .int .i64 1 ∧ m = 1 ∧ needs p last = markTo p last i (markOne true (i + 1) ss N)) ∨ (iv = .int .i64 2 ∧ m = 0 ∧ needs p last = markTo p last i N)))
            case atStart => exact ⟨MM, unhide HML2, hbY, hgY, Or.inl ⟨rfl, rfl, unhide HF⟩⟩
            case round =>
              obtain ⟨N, hNl, hbN, hgN, hN⟩ := hrel
              have hix0 : ∀ w : World, (Instr.index 186 (.agg #[.int .i64 (sf : Int), .int .i64 (ss : Int)]) (.int .i64 0)).run Tryz.prog w = .ok (.int .i64 (sf : Int)) w := fun w => by kernel_rfl
              have hix1 : ∀ w : World, (Instr.index 186 (.agg #[.int .i64 (sf : Int), .int .i64 (ss : Int)]) (.int .i64 1)).run Tryz.prog w = .ok (.int .i64 (ss : Int)) w := fun w => by kernel_rfl
              have HNL := hide hNl
              have lgN := blk_lt hgN
              rcases hN with ⟨rfl, hm, hN⟩ | ⟨rfl, hm, hN⟩ | ⟨rfl, hm, hN⟩
              · have HN := hide hN
                clear hN hNl
                rcases (show sf = 0 ∨ (0 < sf ∧ sf < i + 1) ∨ (0 < sf ∧ ¬ sf < i + 1) by omega) with hx | hx | hx
                · have g1 : decide ((0 : Int) < (sf : Int)) = false := decide_eq_false (by omega)
                  have g1n : decide (0 < sf) = false := decide_eq_false (by omega)
                  have HO := hide (markOne_out (i + 1) sf N (by omega))
                  clear hx
                  go_wp2_with fail
                  go_roundg (gk - 1)
                  case measure => omega
                  case rel => exact ⟨N, unhide HNL, hbN, hgN, Or.inr (Or.inl ⟨rfl, by omega, by rw [unhide HN, unhide HO]⟩)⟩
                · have g1 : decide ((0 : Int) < (sf : Int)) = true := decide_eq_true (by omega)
                  have g1n : decide (0 < sf) = true := decide_eq_true (by omega)
                  have g2' : decide ((sf : Int) < (i : Int) + 1) = true := decide_eq_true (by omega)
                  have g2n : decide (sf < i + 1) = true := decide_eq_true (by omega)
                  have hxl : sf < p.length + 1 := by omega
                  have g3 : decide ((sf : Int) < (p.length : Int) + 1) = true := decide_eq_true (by omega)
                  have g4 : decide (sf < p.length + 1) = true := decide_eq_true (by omega)
                  have HO := hide (markOne_in (i + 1) sf N hx.1 hx.2)
                  clear hx
                  have cx : wr.cell? ⟨w.heap.size, sf, none⟩ = some (.bool (N.getD sf false)) := by rw [blk_cell hgN]; exact boolCells_at _ _ (by rw [unhide HNL]; exact of_decide_eq_true g4)
                  have zx := blk_free hgN sf
                  have hgS := blk_set hgN sf (.bool true)
                  rw [boolCells_set] at hgS
                  go_wp2_with fail
                  go_roundg (gk - 1)
                  case measure => omega
                  case rel => exact ⟨N.set sf true, by rw [List.length_set]; exact unhide HNL, hbN.setCell (p := ⟨w.heap.size, sf, none⟩) (Nat.le_refl _) _, hgS, Or.inr (Or.inl ⟨rfl, by omega, by rw [unhide HN, unhide HO]⟩)⟩
                · have g1 : decide ((0 : Int) < (sf : Int)) = true := decide_eq_true (by omega)
                  have g1n : decide (0 < sf) = true := decide_eq_true (by omega)
                  have g2' : decide ((sf : Int) < (i : Int) + 1) = false := decide_eq_false (by omega)
                  have g2n : decide (sf < i + 1) = false := decide_eq_false (by omega)
                  have HO := hide (markOne_out (i + 1) sf N (by omega))
                  clear hx
                  go_wp2_with fail
                  go_roundg (gk - 1)
                  case measure => omega
                  case rel => exact ⟨N, unhide HNL, hbN, hgN, Or.inr (Or.inl ⟨rfl, by omega, by rw [unhide HN, unhide HO]⟩)⟩
              · have HN := hide hN
                clear hN hNl
                rcases (show ss = 0 ∨ (0 < ss ∧ ss < i + 1) ∨ (0 < ss ∧ ¬ ss < i + 1) by omega) with hx | hx | hx
                · have g1 : decide ((0 : Int) < (ss : Int)) = false := decide_eq_false (by omega)
                  have g1n : decide (0 < ss) = false := decide_eq_false (by omega)
                  have HO := hide (markOne_out (i + 1) ss N (by omega))
                  clear hx
                  go_wp2_with fail
                  go_roundg (gk - 1)
                  case measure => omega
                  case rel => exact ⟨N, unhide HNL, hbN, hgN, Or.inr (Or.inr ⟨rfl, by omega, by rw [unhide HN, unhide HO]⟩)⟩
                · have g1 : decide ((0 : Int) < (ss : Int)) = true := decide_eq_true (by omega)
                  have g1n : decide (0 < ss) = true := decide_eq_true (by omega)
                  have g2' : decide ((ss : Int) < (i : Int) + 1) = true := decide_eq_true (by omega)
                  have g2n : decide (ss < i + 1) = true := decide_eq_true (by omega)
                  have hxl : ss < p.length + 1 := by omega
                  have g3 : decide ((ss : Int) < (p.length : Int) + 1) = true := decide_eq_true (by omega)
                  have g4 : decide (ss < p.length + 1) = true := decide_eq_true (by omega)
                  have HO := hide (markOne_in (i + 1) ss N hx.1 hx.2)
                  clear hx
                  have cx : wr.cell? ⟨w.heap.size, ss, none⟩ = some (.bool (N.getD ss false)) := by rw [blk_cell hgN]; exact boolCells_at _ _ (by rw [unhide HNL]; exact of_decide_eq_true g4)
                  have zx := blk_free hgN ss
                  have hgS := blk_set hgN ss (.bool true)
                  rw [boolCells_set] at hgS
                  go_wp2_with fail
                  go_roundg (gk - 1)
                  case measure => omega
                  case rel => exact ⟨N.set ss true, by rw [List.length_set]; exact unhide HNL, hbN.setCell (p := ⟨w.heap.size, ss, none⟩) (Nat.le_refl _) _, hgS, Or.inr (Or.inr ⟨rfl, by omega, by rw [unhide HN, unhide HO]⟩)⟩
                · have g1 : decide ((0 : Int) < (ss : Int)) = true := decide_eq_true (by omega)
                  have g1n : decide (0 < ss) = true := decide_eq_true (by omega)
                  have g2' : decide ((ss : Int) < (i : Int) + 1) = false := decide_eq_false (by omega)
                  have g2n : decide (ss < i + 1) = false := decide_eq_false (by omega)
                  have HO := hide (markOne_out (i + 1) ss N (by omega))
                  clear hx
                  go_wp2_with fail
                  go_roundg (gk - 1)
                  case measure => omega
                  case rel => exact ⟨N, unhide HNL, hbN, hgN, Or.inr (Or.inr ⟨rfl, by omega, by rw [unhide HN, unhide HO]⟩)⟩
              · have HN := hide hN
                clear hN hNl
                go_wp2_with fail
                go_roundg (go - 1)
                case measure => omega
                case rel => exact ⟨i, N, by go_num, by omega, by omega, by omega, unhide HNL, unhide HN, hbN, hgN⟩
      · skip
        have hd1 : (((i + 1 : Nat) : Int) == (last : Int)) = false := by rw [beq_eq_false_iff_ne]; omega
        have hd1' : ((i : Int) + 1 == (last : Int)) = false := by rw [beq_eq_false_iff_ne]; omega
        have HIL := hide hil
        clear hil

        have HM2 : Hid (needs p last = markTo p last i (if (mk).getD (i + 1) false = true ∧ sr ≠ 1 then markOne true (i + 1) ss (markOne true (i + 1) sf (mk)) else (mk))) := hide (by rw [unhide HST, unhide HMS (mk) (if_neg (unhide HIL))])
        have HML2 : Hid ((mk).length = p.length + 1) := HML
        have hA : Below wr.heap.size wr (wr.alloc (.cells #[.int .i64 (sr : Int), .int .i64 (sf : Int), .int .i64 (ss : Int), .int .i64 (sv : Int), .int .i64 (l1 : Int), .int .i64 (l2 : Int)] 134)) := (Below.refl _ _).alloc (Nat.le_refl _) _
        have hgY := (hA.block _ (blk_lt hg)).trans hg
        have hbY := hb.trans (hA.mono hb.size)
        have hsY := heap_alloc_new wr (.cells #[.int .i64 (sr : Int), .int .i64 (sf : Int), .int .i64 (ss : Int), .int .i64 (sv : Int), .int .i64 (l1 : Int), .int .i64 (l2 : Int)] 134)
        have hszX : wr.heap.size = wr.heap.size := rfl
        rw [hszX] at hsY
        have nY : (wr.alloc (.cells #[.int .i64 (sr : Int), .int .i64 (sf : Int), .int .i64 (ss : Int), .int .i64 (sv : Int), .int .i64 (l1 : Int), .int .i64 (l2 : Int)] 134)).cell? ⟨w.heap.size, i + 1, none⟩ = some (.bool ((mk).getD (i + 1) false)) := by rw [blk_cell hgY]; exact boolCells_at _ _ (by rw [unhide HML2]; omega)
        have q0 : (wr.alloc (.cells #[.int .i64 (sr : Int), .int .i64 (sf : Int), .int .i64 (ss : Int), .int .i64 (sv : Int), .int .i64 (l1 : Int), .int .i64 (l2 : Int)] 134)).cell? ⟨wr.heap.size, 0, none⟩ = some (.int .i64 (sr : Int)) := by rw [blk_cell hsY]; rfl
        have q1 : (wr.alloc (.cells #[.int .i64 (sr : Int), .int .i64 (sf : Int), .int .i64 (ss : Int), .int .i64 (sv : Int), .int .i64 (l1 : Int), .int .i64 (l2 : Int)] 134)).cell? ⟨wr.heap.size, 1, none⟩ = some (.int .i64 (sf : Int)) := by rw [blk_cell hsY]; rfl
        have q2 : (wr.alloc (.cells #[.int .i64 (sr : Int), .int .i64 (sf : Int), .int .i64 (ss : Int), .int .i64 (sv : Int), .int .i64 (l1 : Int), .int .i64 (l2 : Int)] 134)).cell? ⟨wr.heap.size, 2, none⟩ = some (.int .i64 (ss : Int)) := by rw [blk_cell hsY]; rfl
        have lsY := blk_lt hsY
        have lgY := blk_lt hgY
        obtain ⟨MM, hMM⟩ : ∃ Z, (mk) = Z := ⟨_, rfl⟩
        rw [hMM] at HM2 HML2 hgY nY
        clear hMM
        have hdn : decide ((i : Int) + 1 < (p.length : Int) + 1) = true := decide_eq_true (by omega)
        have hdn2 : decide (i + 1 < p.length + 1) = true := decide_eq_true (by omega)
        cases hnb : MM.getD (i + 1) false with
        | false =>
          rw [hnb] at nY
          have HF : Hid (needs p last = markTo p last i MM) := hide (by rw [unhide HM2, if_neg (fun h => by rw [hnb] at h; cases h.1)])
          clear hnb
          go_wp2_with fail
          go_roundg (gk - 1)
          case measure => omega
          case rel => exact ⟨i, MM, by go_num, by omega, by omega, by omega, unhide HML2, unhide HF, hbY, hgY⟩
        | true =>
          rw [hnb] at nY
          by_cases hr1 : sr = 1
          · have hd5 : ((sr : Int) == 1) = true := by rw [beq_iff_eq]; omega
            have HF : Hid (needs p last = markTo p last i MM) := hide (by rw [unhide HM2, if_neg (fun h => h.2 hr1)])
            clear hnb hr1
            go_wp2_with fail
            go_roundg (gk - 1)
            case measure => omega
            case rel => exact ⟨i, MM, by go_num, by omega, by omega, by omega, unhide HML2, unhide HF, hbY, hgY⟩
          · have hd5 : ((sr : Int) == 1) = false := by rw [beq_eq_false_iff_ne]; omega
            have HF : Hid (needs p last = markTo p last i (markOne true (i + 1) ss (markOne true (i + 1) sf MM))) := hide (by rw [unhide HM2, if_pos ⟨hnb, hr1⟩])
            clear hnb hr1
            go_wp2_with fail
            generalize (wr.alloc (.cells #[.int .i64 (sr : Int), .int .i64 (sf : Int), .int .i64 (ss : Int), .int .i64 (sv : Int), .int .i64 (l1 : Int), .int .i64 (l2 : Int)] 134)) = wy at *
            obtain ⟨wo, hwo⟩ : ∃ wo, wo = wr := ⟨_, rfl⟩
            obtain ⟨go, rfl⟩ : ∃ go, go = gk := ⟨_, rfl⟩
            go_loopg [55] 2 (fun m iv wx => ∃ (N : List Bool), N.length = p.length + 1 ∧ Below w.heap.size w wx ∧ wx.heap[w.heap.size]? = some (.cells (boolCells N).toArray 4 (0, 0)) ∧ ((iv = .int .i64 0 ∧ m = 2 ∧ needs p last = markTo p last i (markOne true (i + 1) ss (markOne true (i + 1) sf N))) ∨ (iv = .int .i64 1 ∧ m = 1 ∧ needs p last = markTo p last i (markOne true (i + 1) ss N)) ∨ (iv = .int .i64 2 ∧ m = 0 ∧ needs p last = markTo p last i N)))
            case atStart => exact ⟨MM, unhide HML2, hbY, hgY, Or.inl ⟨rfl, rfl, unhide HF⟩⟩
            case round =>
              obtain ⟨N, hNl, hbN, hgN, hN⟩ := hrel
              have hix0 : ∀ w : World, (Instr.index 186 (.agg #[.int .i64 (sf : Int), .int .i64 (ss : Int)]) (.int .i64 0)).run Tryz.prog w = .ok (.int .i64 (sf : Int)) w := fun w => by kernel_rfl
              have hix1 : ∀ w : World, (Instr.index 186 (.agg #[.int .i64 (sf : Int), .int .i64 (ss : Int)]) (.int .i64 1)).run Tryz.prog w = .ok (.int .i64 (ss : Int)) w := fun w => by kernel_rfl
              have HNL := hide hNl
              have lgN := blk_lt hgN
              rcases hN with ⟨rfl, hm, hN⟩ | ⟨rfl, hm, hN⟩ | ⟨rfl, hm, hN⟩
              · have HN := hide hN
                clear hN hNl
                rcases (show sf = 0 ∨ (0 < sf ∧ sf < i + 1) ∨ (0 < sf ∧ ¬ sf < i + 1) by omega) with hx | hx | hx
                · have g1 : decide ((0 : Int) < (sf : Int)) = false := decide_eq_false (by omega)
                  have g1n : decide (0 < sf) = false := decide_eq_false (by omega)
                  have HO := hide (markOne_out (i + 1) sf N (by omega))
                  clear hx
                  go_wp2_with fail
                  go_roundg (gk - 1)
                  case measure => omega
                  case rel => exact ⟨N, unhide HNL, hbN, hgN, Or.inr (Or.inl ⟨rfl, by omega, by rw [unhide HN, unhide HO]⟩)⟩
                · have g1 : decide ((0 : Int) < (sf : Int)) = true := decide_eq_true (by omega)
                  have g1n : decide (0 < sf) = true := decide_eq_true (by omega)
                  have g2' : decide ((sf : Int) < (i : Int) + 1) = true := decide_eq_true (by omega)
                  have g2n : decide (sf < i + 1) = true := decide_eq_true (by omega)
                  have hxl : sf < p.length + 1 := by omega
                  have g3 : decide ((sf : Int) < (p.length : Int) + 1) = true := decide_eq_true (by omega)
                  have g4 : decide (sf < p.length + 1) = true := decide_eq_true (by omega)
                  have HO := hide (markOne_in (i + 1) sf N hx.1 hx.2)
                  clear hx
                  have cx : wr.cell? ⟨w.heap.size, sf, none⟩ = some (.bool (N.getD sf false)) := by rw [blk_cell hgN]; exact boolCells_at _ _ (by rw [unhide HNL]; exact of_decide_eq_true g4)
                  have zx := blk_free hgN sf
                  have hgS := blk_set hgN sf (.bool true)
                  rw [boolCells_set] at hgS
                  go_wp2_with fail
                  go_roundg (gk - 1)
                  case measure => omega
                  case rel => exact ⟨N.set sf true, by rw [List.length_set]; exact unhide HNL, hbN.setCell (p := ⟨w.heap.size, sf, none⟩) (Nat.le_refl _) _, hgS, Or.inr (Or.inl ⟨rfl, by omega, by rw [unhide HN, unhide HO]⟩)⟩
                · have g1 : decide ((0 : Int) < (sf : Int)) = true := decide_eq_true (by omega)
                  have g1n : decide (0 < sf) = true := decide_eq_true (by omega)
                  have g2' : decide ((sf : Int) < (i : Int) + 1) = false := decide_eq_false (by omega)
                  have g2n : decide (sf < i + 1) = false := decide_eq_false (by omega)
                  have HO := hide (markOne_out (i + 1) sf N (by omega))
                  clear hx
                  go_wp2_with fail
                  go_roundg (gk - 1)
                  case measure => omega
                  case rel => exact ⟨N, unhide HNL, hbN, hgN, Or.inr (Or.inl ⟨rfl, by omega, by rw [unhide HN, unhide HO]⟩)⟩
              · have HN := hide hN
                clear hN hNl
                rcases (show ss = 0 ∨ (0 < ss ∧ ss < i + 1) ∨ (0 < ss ∧ ¬ ss < i + 1) by omega) with hx | hx | hx
                · have g1 : decide ((0 : Int) < (ss : Int)) = false := decide_eq_false (by omega)
                  have g1n : decide (0 < ss) = false := decide_eq_false (by omega)
                  have HO := hide (markOne_out (i + 1) ss N (by omega))
                  clear hx
                  go_wp2_with fail
                  go_roundg (gk - 1)
                  case measure => omega
                  case rel => exact ⟨N, unhide HNL, hbN, hgN, Or.inr (Or.inr ⟨rfl, by omega, by rw [unhide HN, unhide HO]⟩)⟩
                · have g1 : decide ((0 : Int) < (ss : Int)) = true := decide_eq_true (by omega)
                  have g1n : decide (0 < ss) = true := decide_eq_true (by omega)
                  have g2' : decide ((ss : Int) < (i : Int) + 1) = true := decide_eq_true (by omega)
                  have g2n : decide (ss < i + 1) = true := decide_eq_true (by omega)
                  have hxl : ss < p.length + 1 := by omega
                  have g3 : decide ((ss : Int) < (p.length : Int) + 1) = true := decide_eq_true (by omega)
                  have g4 : decide (ss < p.length + 1) = true := decide_eq_true (by omega)
                  have HO := hide (markOne_in (i + 1) ss N hx.1 hx.2)
                  clear hx
                  have cx : wr.cell? ⟨w.heap.size, ss, none⟩ = some (.bool (N.getD ss false)) := by rw [blk_cell hgN]; exact boolCells_at _ _ (by rw [unhide HNL]; exact of_decide_eq_true g4)
                  have zx := blk_free hgN ss
                  have hgS := blk_set hgN ss (.bool true)
                  rw [boolCells_set] at hgS
                  go_wp2_with fail
                  go_roundg (gk - 1)
                  case measure => omega
                  case rel => exact ⟨N.set ss true, by rw [List.length_set]; exact unhide HNL, hbN.setCell (p := ⟨w.heap.size, ss, none⟩) (Nat.le_refl _) _, hgS, Or.inr (Or.inr ⟨rfl, by omega, by rw [unhide HN, unhide HO]⟩)⟩
                · have g1 : decide ((0 : Int) < (ss : Int)) = true := decide_eq_true (by omega)
                  have g1n : decide (0 < ss) = true := decide_eq_true (by omega)
                  have g2' : decide ((ss : Int) < (i : Int) + 1) = false := decide_eq_false (by omega)
                  have g2n : decide (ss < i + 1) = false := decide_eq_false (by omega)
                  have HO := hide (markOne_out (i + 1) ss N (by omega))
                  clear hx
                  go_wp2_with fail
                  go_roundg (gk - 1)
                  case measure => omega
                  case rel => exact ⟨N, unhide HNL, hbN, hgN, Or.inr (Or.inr ⟨rfl, by omega, by rw [unhide HN, unhide HO]⟩)⟩
              · have HN := hide hN
                clear hN hNl
                go_wp2_with fail
                go_roundg (go - 1)
                case measure => omega
                case rel => exact ⟨i, N, by go_num, by omega, by omega, by omega, unhide HNL, unhide HN, hbN, hgN⟩
end Go.Proofs.YtgipjjhkhfihpaaGreatDoor
