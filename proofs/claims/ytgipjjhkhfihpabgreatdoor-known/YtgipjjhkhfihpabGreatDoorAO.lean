import Derived.Test.YtgipjjhkhfihpabGreatDoorAJ
import Derived.Test.YtgipjjhkhfihpabGreatDoorAB
import Derived.Laws.MakeOwn
import Derived.Test.YtgipjjhkhfihpabGreatDoorAD
import Derived.Test.YtgipjjhkhfihpabGreatDoorAN
import Derived.Test.YtgipjjhkhfihpabGreatDoorAM
namespace Go.Proofs.YtgipjjhkhfihpabGreatDoor
open Go.RowKit

/-! ### needed -/
def boolCells (l : List Bool) : List Value := l.map Value.bool
theorem boolCells_set (l : List Bool) (i : Nat) (b : Bool) : (boolCells l).toArray.setIfInBounds i (.bool b) = (boolCells (l.set i b)).toArray := by
  simp [boolCells]
theorem boolCells_at (l : List Bool) (i : Nat) (h : i < l.length) : (boolCells l).toArray[i]? = some (.bool (l.getD i false)) := by
  simp [boolCells, List.getElem?_eq_getElem h]
theorem made_one (z : Value) (n : Nat) : madeCells #[z] n = (List.replicate n z).toArray := by
  apply Array.ext
  · simp [madeCells]
  · intro i h1 h2
    simp [madeCells, Nat.mod_one]
def NeededPost (p : List Stp) (last : Nat) (w : World) (e : Ending) (w' : World) : Prop := ∃ g, e = .returned (.slice (some ⟨g, 0, none⟩) (p.length + 1) (p.length + 1)) ∧ w.heap.size ≤ g ∧ w'.heap[g]? = some (.cells (boolCells (needs p last)).toArray 4 (0, 0)) ∧ Below w.heap.size w w'
theorem markStep_len (p : List Stp) (last i : Nat) (m : List Bool) : (markStep p last i m).length = m.length := by
  unfold markStep markOne
  dsimp only
  split <;> split <;> split <;> simp
theorem markStep_as (p : List Stp) (last i : Nat) (mk M : List Bool) (st : Stp) (hM : (if i + 1 = last then mk.set (i + 1) true else mk) = M) (hi : i < p.length) (hst : p[i] = st) :
    markStep p last (i + 1) mk = if M.getD (i + 1) false = true ∧ st.rule ≠ 1 then markOne true (i + 1) st.second (markOne true (i + 1) st.first M) else M := by
  have hg : p.getD (i + 1 - 1) ⟨0, 0, 0, 0, (0, 0)⟩ = st := by
    rw [Nat.add_sub_cancel, List.getD_eq_getElem?_getD, List.getElem?_eq_getElem hi]; exact hst
  unfold markStep
  dsimp only
  rw [hM, hg]
  by_cases h1 : M.getD (i + 1) false = true
  · by_cases h2 : st.rule ≠ 1
    · rw [if_pos ⟨h1, h2⟩, h1, decide_eq_true h2]; rfl
    · rw [if_neg (fun h => h2 h.2), decide_eq_false h2, Bool.and_false]
      unfold markOne
      rw [if_neg (fun h => by cases h.1), if_neg (fun h => by cases h.1)]
  · rw [if_neg (fun h => h1 h.1)]
    have h3 : M.getD (i + 1) false = false := by simpa using h1
    rw [h3, Bool.false_and]
    unfold markOne
    rw [if_neg (fun h => by cases h.1), if_neg (fun h => by cases h.1)]
theorem markOne_in (i n : Nat) (m : List Bool) (h0 : 0 < n) (h1 : n < i) : markOne true i n m = m.set n true := by unfold markOne; rw [if_pos ⟨rfl, h0, h1⟩]
theorem markOne_out (i n : Nat) (m : List Bool) (h : ¬ (0 < n ∧ n < i)) : markOne true i n m = m := by unfold markOne; rw [if_neg (fun hh => h hh.2)]
theorem cell_other2 {w : World} {c k : Nat} (u : Value) {b : Nat} (hne : c ≠ b) (o : Nat) : (w.setCell ⟨c, k, none⟩ u).cell? ⟨b, o, none⟩ = w.cell? ⟨b, o, none⟩ := by
  unfold World.cell?
  have : (w.setCell ⟨c, k, none⟩ u).heap[b]? = w.heap[b]? := by simp [World.setCell, Array.getElem?_modify, hne]
  rw [this]
set_option maxRecDepth 100000 in
set_option maxHeartbeats 3200000 in
theorem needed_any (b o : Nat) (cells : Array Value) (t : TypeId) (p : List Stp) (vS : Value) (kind last : Nat) (w : World) (hP : PAt w b o cells t p vS kind) (hl : p.length ≤ 100000) :
    Calls Tryz.prog 54 #[.pointer (some ⟨b, o, none⟩), .int .i64 (last : Int)] w fun e w' => NeededPost p last w e w' := by
  obtain ⟨aS, cS, rfl⟩ := own_form hP.own
  have hbw := blk_lt hP.fb
  have cs1 : w.cell? ⟨b, o + 1, none⟩ = some (.slice aS p.length cS) := by rw [blk_cell hP.fb]; exact hP.cs
  have hmk : ∀ w : World, (Instr.makeSlice 122 (.int .i64 ((p.length : Int) + 1)) (.int .i64 ((p.length : Int) + 1))).run Tryz.prog w = .ok (.slice (some ⟨w.heap.size, 0, none⟩) (p.length + 1) (p.length + 1)) (w.alloc (.cells (boolCells (List.replicate (p.length + 1) false)).toArray 4)) := fun w => by
    obtain ⟨i1, hi1, hz10, hz11, hz12⟩ := info_parts (show (Tryz.prog.info? 4).map (fun i => (i.zero, i.size, i.bytes)) = some (some (.bool false), 1, 1) by kernel_rfl)
    have h := run_makeSlice (P := Tryz.prog) w 122 4 i1 (.bool false) Tryz.underlying122 hi1 hz10 .i64 .i64 ((p.length + 1 : Nat) : Int) ((p.length + 1 : Nat) : Int) (by omega) (by omega) (by rw [hz11]; simp; omega) (by rw [hz12]; omega) (by omega)
    rw [hz11, Int.toNat_natCast, Nat.mul_one] at h
    rw [show (Value.bool false).cells = #[.bool false] from rfl, made_one] at h
    have e2 : boolCells (List.replicate (p.length + 1) false) = List.replicate (p.length + 1) (Value.bool false) := by simp [boolCells]
    rw [e2]
    exact h
  go_enter Tryz.func54, Tryz.ntmps54
  go_wp2_with fail
  have h0 : (w.alloc (.cells (boolCells (List.replicate (p.length + 1) false)).toArray 4)).cell? ⟨b, o + 1, none⟩ = some (.slice aS p.length cS) := by rw [((Below.refl w.heap.size w).alloc (Nat.le_refl _) _).cell (p := ⟨b, o + 1, none⟩) hbw]; exact cs1
  go_wp2_with fail
  go_loopg [6] (p.length + 1) (fun m iv wx => ∃ (k : Nat) (mk : List Bool), iv = .int .i64 (k : Int) ∧ k + 1 ≤ m ∧ m ≤ k + 1 ∧ k ≤ p.length ∧ mk.length = p.length + 1 ∧ needs p last = markTo p last k mk ∧ Below w.heap.size w wx ∧ wx.heap[w.heap.size]? = some (.cells (boolCells mk).toArray 4 (0, 0)))
  case atStart => exact ⟨p.length, List.replicate (p.length + 1) false, rfl, by omega, by omega, by omega, by simp, rfl, (Below.refl _ _).alloc (Nat.le_refl _) _, heap_alloc_new _ _⟩
  case round =>
    obtain ⟨k, mk, rfl, hkm, hkm2, hkl, hml, hmk2, hb, hg⟩ := hrel
    have HMK := hide hmk2
    clear hmk2
    have HML := hide hml
    clear hml
    have hlg := blk_lt hg
    have hPr := hP.later hb
    have cr1 : wr.cell? ⟨b, o + 1, none⟩ = some (.slice aS p.length cS) := by rw [blk_cell hPr.fb]; exact hPr.cs
    have lbr := blk_lt hPr.fb
    cases k with
    | zero =>
      have HF : Hid (needs p last = mk) := hide (by rw [unhide HMK]; rfl)
      have hd0 : decide ((0 : Int) < (0 : Int)) = false := by decide
      go_wp2_with fail
      go_ret
      exact ⟨w.heap.size, rfl, Nat.le_refl _, by rw [unhide HF]; exact hg, hb⟩
    | succ i =>
      have hd0 : decide ((0 : Int) < ((i + 1 : Nat) : Int)) = true := decide_eq_true (by omega)
      have HST : Hid (needs p last = markTo p last i (markStep p last (i + 1) mk)) := hide (by rw [unhide HMK]; rfl)
      clear HMK
      have hi : i < p.length := by omega
      obtain ⟨g2, cap, hVe, _, hg2', _, hcell⟩ := own_pos hPr.own (by omega)
      injection hVe with hVe _ hV2
      subst hVe hV2
      obtain ⟨st, hst⟩ : ∃ X, p[i] = X := ⟨_, rfl⟩
      obtain ⟨HMS⟩ : Nonempty (Hid (∀ M, (if i + 1 = last then mk.set (i + 1) true else mk) = M → markStep p last (i + 1) mk = if M.getD (i + 1) false = true ∧ st.rule ≠ 1 then markOne true (i + 1) st.second (markOne true (i + 1) st.first M) else M)) := ⟨hide (fun M hM => markStep_as p last i mk M st hM hi hst)⟩
      have e0 : wr.cell? ⟨g2, i * 6, none⟩ = some (.int .i64 (p[i].rule : Int)) := hcell _ _ (psCells_at p i 0 hi (by omega))
      have e1 : wr.cell? ⟨g2, i * 6 + 1, none⟩ = some (.int .i64 (p[i].first : Int)) := hcell _ _ (psCells_at p i 1 hi (by omega))
      have e2 : wr.cell? ⟨g2, i * 6 + 2, none⟩ = some (.int .i64 (p[i].second : Int)) := hcell _ _ (psCells_at p i 2 hi (by omega))
      have e3 : wr.cell? ⟨g2, i * 6 + 3, none⟩ = some (.int .i64 (p[i].var : Int)) := hcell _ _ (psCells_at p i 3 hi (by omega))
      have e4 : wr.cell? ⟨g2, i * 6 + 4, none⟩ = some (.int .i64 (p[i].lits.1 : Int)) := hcell _ _ (psCells_at p i 4 hi (by omega))
      have e5 : wr.cell? ⟨g2, i * 6 + 5, none⟩ = some (.int .i64 (p[i].lits.2 : Int)) := hcell _ _ (psCells_at p i 5 hi (by omega))
      rw [hst] at e0 e1 e2 e3 e4 e5
      clear hst hcell
      obtain ⟨sr, sf, ss, sv, l1, l2⟩ := st
      dsimp only at *
      have hgne : g2 ≠ w.heap.size := by
        intro e
        subst e
        exact absurd (own_type_ne hPr.own hg (by decide)) (fun h => h rfl)
      have hd2 : decide ((i : Int) < (p.length : Int)) = true := decide_eq_true (by omega)
      have hd3 : decide (i < p.length) = true := decide_eq_true hi
      by_cases hil : i + 1 = last
      · skip
        have hd1 : (((i + 1 : Nat) : Int) == (last : Int)) = true := by rw [beq_iff_eq]; omega
        have hd1' : ((i : Int) + 1 == (last : Int)) = true := by rw [beq_iff_eq]; omega
        have HIL := hide hil
        clear hil
        have cL : wr.cell? ⟨w.heap.size, i + 1, none⟩ = some (.bool (mk.getD (i + 1) false)) := by rw [blk_cell hg]; exact boolCells_at _ _ (by rw [unhide HML]; omega)
        have zL := blk_free hg (i + 1)
        have hgL := blk_set hg (i + 1) (.bool true)
        rw [boolCells_set] at hgL
        have hbL := hb.setCell (p := ⟨w.heap.size, i + 1, none⟩) (Nat.le_refl _) (.bool true)
        have hdn0 : decide ((i : Int) + 1 < (p.length : Int) + 1) = true := decide_eq_true (by omega)
        have hdn20 : decide (i + 1 < p.length + 1) = true := decide_eq_true (by omega)
        have k0 := (cell_other2 (w := wr) (c := w.heap.size) (k := i + 1) (.bool true) (fun e => hgne e.symm) (i * 6)).trans e0
        have k1 := (cell_other2 (w := wr) (c := w.heap.size) (k := i + 1) (.bool true) (fun e => hgne e.symm) (i * 6 + 1)).trans e1
        have k2 := (cell_other2 (w := wr) (c := w.heap.size) (k := i + 1) (.bool true) (fun e => hgne e.symm) (i * 6 + 2)).trans e2
        have k3 := (cell_other2 (w := wr) (c := w.heap.size) (k := i + 1) (.bool true) (fun e => hgne e.symm) (i * 6 + 3)).trans e3
        have k4 := (cell_other2 (w := wr) (c := w.heap.size) (k := i + 1) (.bool true) (fun e => hgne e.symm) (i * 6 + 4)).trans e4
        have k5 := (cell_other2 (w := wr) (c := w.heap.size) (k := i + 1) (.bool true) (fun e => hgne e.symm) (i * 6 + 5)).trans e5
        have hbne : w.heap.size ≠ b := by omega
        have kr1 := (cell_other2 (w := wr) (c := w.heap.size) (k := i + 1) (.bool true) hbne (o + 1)).trans cr1

        have HM2 : Hid (needs p last = markTo p last i (if (mk.set (i + 1) true).getD (i + 1) false = true ∧ sr ≠ 1 then markOne true (i + 1) ss (markOne true (i + 1) sf (mk.set (i + 1) true)) else (mk.set (i + 1) true))) := hide (by rw [unhide HST, unhide HMS (mk.set (i + 1) true) (if_pos (unhide HIL))])
        have HML2 : Hid ((mk.set (i + 1) true).length = p.length + 1) := hide (by rw [List.length_set]; exact unhide HML)
        have hA : Below (wr.setCell ⟨w.heap.size, i + 1, none⟩ (.bool true)).heap.size (wr.setCell ⟨w.heap.size, i + 1, none⟩ (.bool true)) ((wr.setCell ⟨w.heap.size, i + 1, none⟩ (.bool true)).alloc (.cells #[.int .i64 (sr : Int), .int .i64 (sf : Int), .int .i64 (ss : Int), .int .i64 (sv : Int), .int .i64 (l1 : Int), .int .i64 (l2 : Int)] 91)) := (Below.refl _ _).alloc (Nat.le_refl _) _
        have hgY := (hA.block _ (blk_lt hgL)).trans hgL
        have hbY := hbL.trans (hA.mono hbL.size)
        have hsY := heap_alloc_new (wr.setCell ⟨w.heap.size, i + 1, none⟩ (.bool true)) (.cells #[.int .i64 (sr : Int), .int .i64 (sf : Int), .int .i64 (ss : Int), .int .i64 (sv : Int), .int .i64 (l1 : Int), .int .i64 (l2 : Int)] 91)
        have hszX : (wr.setCell ⟨w.heap.size, i + 1, none⟩ (.bool true)).heap.size = wr.heap.size := by simp [World.setCell]
        rw [hszX] at hsY
        have nY : ((wr.setCell ⟨w.heap.size, i + 1, none⟩ (.bool true)).alloc (.cells #[.int .i64 (sr : Int), .int .i64 (sf : Int), .int .i64 (ss : Int), .int .i64 (sv : Int), .int .i64 (l1 : Int), .int .i64 (l2 : Int)] 91)).cell? ⟨w.heap.size, i + 1, none⟩ = some (.bool ((mk.set (i + 1) true).getD (i + 1) false)) := by rw [blk_cell hgY]; exact boolCells_at _ _ (by rw [unhide HML2]; omega)
        have q0 : ((wr.setCell ⟨w.heap.size, i + 1, none⟩ (.bool true)).alloc (.cells #[.int .i64 (sr : Int), .int .i64 (sf : Int), .int .i64 (ss : Int), .int .i64 (sv : Int), .int .i64 (l1 : Int), .int .i64 (l2 : Int)] 91)).cell? ⟨wr.heap.size, 0, none⟩ = some (.int .i64 (sr : Int)) := by rw [blk_cell hsY]; rfl
        have q1 : ((wr.setCell ⟨w.heap.size, i + 1, none⟩ (.bool true)).alloc (.cells #[.int .i64 (sr : Int), .int .i64 (sf : Int), .int .i64 (ss : Int), .int .i64 (sv : Int), .int .i64 (l1 : Int), .int .i64 (l2 : Int)] 91)).cell? ⟨wr.heap.size, 1, none⟩ = some (.int .i64 (sf : Int)) := by rw [blk_cell hsY]; rfl
        have q2 : ((wr.setCell ⟨w.heap.size, i + 1, none⟩ (.bool true)).alloc (.cells #[.int .i64 (sr : Int), .int .i64 (sf : Int), .int .i64 (ss : Int), .int .i64 (sv : Int), .int .i64 (l1 : Int), .int .i64 (l2 : Int)] 91)).cell? ⟨wr.heap.size, 2, none⟩ = some (.int .i64 (ss : Int)) := by rw [blk_cell hsY]; rfl
        have lsY := blk_lt hsY
        have lgY := blk_lt hgY
        obtain ⟨MM, hMM⟩ : ∃ Z, (mk.set (i + 1) true) = Z := ⟨_, rfl⟩
        rw [hMM] at HM2 HML2 hgY nY
        clear hMM
        have hdn : decide ((i : Int) + 1 < (p.length : Int) + 1) = true := decide_eq_true (by omega)
        have hdn2 : decide (i + 1 < p.length + 1) = true := decide_eq_true (by omega)
        cases hnb : MM.getD (i + 1) false with
        | false =>
          rw [hnb] at nY
          have HF : Hid (needs p last = markTo p last i MM) := hide (by rw [unhide HM2, if_neg (fun h => by rw [hnb] at h; cases h.1)])
          clear hnb
          go_wp2_with fail
          go_roundg (gk - 1)
          case measure => omega
          case rel => exact ⟨i, MM, by go_num, by omega, by omega, by omega, unhide HML2, unhide HF, hbY, hgY⟩
        | true =>
          rw [hnb] at nY
          by_cases hr1 : sr = 1
          · have hd5 : ((sr : Int) == 1) = true := by rw [beq_iff_eq]; omega
            have HF : Hid (needs p last = markTo p last i MM) := hide (by rw [unhide HM2, if_neg (fun h => h.2 hr1)])
            clear hnb hr1
            go_wp2_with fail
            go_roundg (gk - 1)
            case measure => omega
            case rel => exact ⟨i, MM, by go_num, by omega, by omega, by omega, unhide HML2, unhide HF, hbY, hgY⟩
          · have hd5 : ((sr : Int) == 1) = false := by rw [beq_eq_false_iff_ne]; omega
            have HF : Hid (needs p last = markTo p last i (markOne true (i + 1) ss (markOne true (i + 1) sf MM))) := hide (by rw [unhide HM2, if_pos ⟨hnb, hr1⟩])
            clear hnb hr1
            go_wp2_with fail
            generalize ((wr.setCell ⟨w.heap.size, i + 1, none⟩ (.bool true)).alloc (.cells #[.int .i64 (sr : Int), .int .i64 (sf : Int), .int .i64 (ss : Int), .int .i64 (sv : Int), .int .i64 (l1 : Int), .int .i64 (l2 : Int)] 91)) = wy at *
            obtain ⟨wo, hwo⟩ : ∃ wo, wo = (wr.setCell ⟨w.heap.size, i + 1, none⟩ (.bool true)) := ⟨_, rfl⟩
            obtain ⟨go, rfl⟩ : ∃ go, go = gk := ⟨_, rfl⟩
            go_loopg [55] 2 (fun m iv wx => ∃ (N : List Bool), N.length = p.length + 1 ∧ Below w.heap.size w wx ∧ wx.heap[w.heap.size]? = some (.cells (boolCells N).toArray 4 (0, 0)) ∧ ((iv = .int .i64 0 ∧ m = 2 ∧ needs p last = markTo p last i (markOne true (i + 1) ss (markOne true (i + 1) sf N))) ∨ (iv = .int .i64 1 ∧ m = 1 ∧ needs p last = markTo p last i (markOne true (i + 1) ss N)) ∨ (iv = .int .i64 2 ∧ m = 0 ∧ needs p last = markTo p last i N)))
            case atStart => exact ⟨MM, unhide HML2, hbY, hgY, Or.inl ⟨rfl, rfl, unhide HF⟩⟩
            case round =>
              obtain ⟨N, hNl, hbN, hgN, hN⟩ := hrel
              have hix0 : ∀ w : World, (Instr.index 149 (.agg #[.int .i64 (sf : Int), .int .i64 (ss : Int)]) (.int .i64 0)).run Tryz.prog w = .ok (.int .i64 (sf : Int)) w := fun w => by kernel_rfl
              have hix1 : ∀ w : World, (Instr.index 149 (.agg #[.int .i64 (sf : Int), .int .i64 (ss : Int)]) (.int .i64 1)).run Tryz.prog w = .ok (.int .i64 (ss : Int)) w := fun w => by kernel_rfl
              have HNL := hide hNl
              have lgN := blk_lt hgN
              rcases hN with ⟨rfl, hm, hN⟩ | ⟨rfl, hm, hN⟩ | ⟨rfl, hm, hN⟩
              · have HN := hide hN
                clear hN hNl
                rcases (show sf = 0 ∨ (0 < sf ∧ sf < i + 1) ∨ (0 < sf ∧ ¬ sf < i + 1) by omega) with hx | hx | hx
                · have g1 : decide ((0 : Int) < (sf : Int)) = false := decide_eq_false (by omega)
                  have g1n : decide (0 < sf) = false := decide_eq_false (by omega)
                  have HO := hide (markOne_out (i + 1) sf N (by omega))
                  clear hx
                  go_wp2_with fail
                  go_roundg (gk - 1)
                  case measure => omega
                  case rel => exact ⟨N, unhide HNL, hbN, hgN, Or.inr (Or.inl ⟨rfl, by omega, by rw [unhide HN, unhide HO]⟩)⟩
                · have g1 : decide ((0 : Int) < (sf : Int)) = true := decide_eq_true (by omega)
                  have g1n : decide (0 < sf) = true := decide_eq_true (by omega)
                  have g2' : decide ((sf : Int) < (i : Int) + 1) = true := decide_eq_true (by omega)
                  have g2n : decide (sf < i + 1) = true := decide_eq_true (by omega)
                  have hxl : sf < p.length + 1 := by omega
                  have g3 : decide ((sf : Int) < (p.length : Int) + 1) = true := decide_eq_true (by omega)
                  have g4 : decide (sf < p.length + 1) = true := decide_eq_true (by omega)
                  have HO := hide (markOne_in (i + 1) sf N hx.1 hx.2)
                  clear hx
                  have cx : wr.cell? ⟨w.heap.size, sf, none⟩ = some (.bool (N.getD sf false)) := by rw [blk_cell hgN]; exact boolCells_at _ _ (by rw [unhide HNL]; exact of_decide_eq_true g4)
                  have zx := blk_free hgN sf
                  have hgS := blk_set hgN sf (.bool true)
                  rw [boolCells_set] at hgS
                  go_wp2_with fail
                  go_roundg (gk - 1)
                  case measure => omega
                  case rel => exact ⟨N.set sf true, by rw [List.length_set]; exact unhide HNL, hbN.setCell (p := ⟨w.heap.size, sf, none⟩) (Nat.le_refl _) _, hgS, Or.inr (Or.inl ⟨rfl, by omega, by rw [unhide HN, unhide HO]⟩)⟩
                · have g1 : decide ((0 : Int) < (sf : Int)) = true := decide_eq_true (by omega)
                  have g1n : decide (0 < sf) = true := decide_eq_true (by omega)
                  have g2' : decide ((sf : Int) < (i : Int) + 1) = false := decide_eq_false (by omega)
                  have g2n : decide (sf < i + 1) = false := decide_eq_false (by omega)
                  have HO := hide (markOne_out (i + 1) sf N (by omega))
                  clear hx
                  go_wp2_with fail
                  go_roundg (gk - 1)
                  case measure => omega
                  case rel => exact ⟨N, unhide HNL, hbN, hgN, Or.inr (Or.inl ⟨rfl, by omega, by rw [unhide HN, unhide HO]⟩)⟩
              · have HN := hide hN
                clear hN hNl
                rcases (show ss = 0 ∨ (0 < ss ∧ ss < i + 1) ∨ (0 < ss ∧ ¬ ss < i + 1) by omega) with hx | hx | hx
                · have g1 : decide ((0 : Int) < (ss : Int)) = false := decide_eq_false (by omega)
                  have g1n : decide (0 < ss) = false := decide_eq_false (by omega)
                  have HO := hide (markOne_out (i + 1) ss N (by omega))
                  clear hx
                  go_wp2_with fail
                  go_roundg (gk - 1)
                  case measure => omega
                  case rel => exact ⟨N, unhide HNL, hbN, hgN, Or.inr (Or.inr ⟨rfl, by omega, by rw [unhide HN, unhide HO]⟩)⟩
                · have g1 : decide ((0 : Int) < (ss : Int)) = true := decide_eq_true (by omega)
                  have g1n : decide (0 < ss) = true := decide_eq_true (by omega)
                  have g2' : decide ((ss : Int) < (i : Int) + 1) = true := decide_eq_true (by omega)
                  have g2n : decide (ss < i + 1) = true := decide_eq_true (by omega)
                  have hxl : ss < p.length + 1 := by omega
                  have g3 : decide ((ss : Int) < (p.length : Int) + 1) = true := decide_eq_true (by omega)
                  have g4 : decide (ss < p.length + 1) = true := decide_eq_true (by omega)
                  have HO := hide (markOne_in (i + 1) ss N hx.1 hx.2)
                  clear hx
                  have cx : wr.cell? ⟨w.heap.size, ss, none⟩ = some (.bool (N.getD ss false)) := by rw [blk_cell hgN]; exact boolCells_at _ _ (by rw [unhide HNL]; exact of_decide_eq_true g4)
                  have zx := blk_free hgN ss
                  have hgS := blk_set hgN ss (.bool true)
                  rw [boolCells_set] at hgS
                  go_wp2_with fail
                  go_roundg (gk - 1)
                  case measure => omega
                  case rel => exact ⟨N.set ss true, by rw [List.length_set]; exact unhide HNL, hbN.setCell (p := ⟨w.heap.size, ss, none⟩) (Nat.le_refl _) _, hgS, Or.inr (Or.inr ⟨rfl, by omega, by rw [unhide HN, unhide HO]⟩)⟩
                · have g1 : decide ((0 : Int) < (ss : Int)) = true := decide_eq_true (by omega)
                  have g1n : decide (0 < ss) = true := decide_eq_true (by omega)
                  have g2' : decide ((ss : Int) < (i : Int) + 1) = false := decide_eq_false (by omega)
                  have g2n : decide (ss < i + 1) = false := decide_eq_false (by omega)
                  have HO := hide (markOne_out (i + 1) ss N (by omega))
                  clear hx
                  go_wp2_with fail
                  go_roundg (gk - 1)
                  case measure => omega
                  case rel => exact ⟨N, unhide HNL, hbN, hgN, Or.inr (Or.inr ⟨rfl, by omega, by rw [unhide HN, unhide HO]⟩)⟩
              · have HN := hide hN
                clear hN hNl
                go_wp2_with fail
                go_roundg (go - 1)
                case measure => omega
                case rel => exact ⟨i, N, by go_num, by omega, by omega, by omega, unhide HNL, unhide HN, hbN, hgN⟩
      · skip
        have hd1 : (((i + 1 : Nat) : Int) == (last : Int)) = false := by rw [beq_eq_false_iff_ne]; omega
        have hd1' : ((i : Int) + 1 == (last : Int)) = false := by rw [beq_eq_false_iff_ne]; omega
        have HIL := hide hil
        clear hil

        have HM2 : Hid (needs p last = markTo p last i (if (mk).getD (i + 1) false = true ∧ sr ≠ 1 then markOne true (i + 1) ss (markOne true (i + 1) sf (mk)) else (mk))) := hide (by rw [unhide HST, unhide HMS (mk) (if_neg (unhide HIL))])
        have HML2 : Hid ((mk).length = p.length + 1) := HML
        have hA : Below wr.heap.size wr (wr.alloc (.cells #[.int .i64 (sr : Int), .int .i64 (sf : Int), .int .i64 (ss : Int), .int .i64 (sv : Int), .int .i64 (l1 : Int), .int .i64 (l2 : Int)] 91)) := (Below.refl _ _).alloc (Nat.le_refl _) _
        have hgY := (hA.block _ (blk_lt hg)).trans hg
        have hbY := hb.trans (hA.mono hb.size)
        have hsY := heap_alloc_new wr (.cells #[.int .i64 (sr : Int), .int .i64 (sf : Int), .int .i64 (ss : Int), .int .i64 (sv : Int), .int .i64 (l1 : Int), .int .i64 (l2 : Int)] 91)
        have hszX : wr.heap.size = wr.heap.size := rfl
        rw [hszX] at hsY
        have nY : (wr.alloc (.cells #[.int .i64 (sr : Int), .int .i64 (sf : Int), .int .i64 (ss : Int), .int .i64 (sv : Int), .int .i64 (l1 : Int), .int .i64 (l2 : Int)] 91)).cell? ⟨w.heap.size, i + 1, none⟩ = some (.bool ((mk).getD (i + 1) false)) := by rw [blk_cell hgY]; exact boolCells_at _ _ (by rw [unhide HML2]; omega)
        have q0 : (wr.alloc (.cells #[.int .i64 (sr : Int), .int .i64 (sf : Int), .int .i64 (ss : Int), .int .i64 (sv : Int), .int .i64 (l1 : Int), .int .i64 (l2 : Int)] 91)).cell? ⟨wr.heap.size, 0, none⟩ = some (.int .i64 (sr : Int)) := by rw [blk_cell hsY]; rfl
        have q1 : (wr.alloc (.cells #[.int .i64 (sr : Int), .int .i64 (sf : Int), .int .i64 (ss : Int), .int .i64 (sv : Int), .int .i64 (l1 : Int), .int .i64 (l2 : Int)] 91)).cell? ⟨wr.heap.size, 1, none⟩ = some (.int .i64 (sf : Int)) := by rw [blk_cell hsY]; rfl
        have q2 : (wr.alloc (.cells #[.int .i64 (sr : Int), .int .i64 (sf : Int), .int .i64 (ss : Int), .int .i64 (sv : Int), .int .i64 (l1 : Int), .int .i64 (l2 : Int)] 91)).cell? ⟨wr.heap.size, 2, none⟩ = some (.int .i64 (ss : Int)) := by rw [blk_cell hsY]; rfl
        have lsY := blk_lt hsY
        have lgY := blk_lt hgY
        obtain ⟨MM, hMM⟩ : ∃ Z, (mk) = Z := ⟨_, rfl⟩
        rw [hMM] at HM2 HML2 hgY nY
        clear hMM
        have hdn : decide ((i : Int) + 1 < (p.length : Int) + 1) = true := decide_eq_true (by omega)
        have hdn2 : decide (i + 1 < p.length + 1) = true := decide_eq_true (by omega)
        cases hnb : MM.getD (i + 1) false with
        | false =>
          rw [hnb] at nY
          have HF : Hid (needs p last = markTo p last i MM) := hide (by rw [unhide HM2, if_neg (fun h => by rw [hnb] at h; cases h.1)])
          clear hnb
          go_wp2_with fail
          go_roundg (gk - 1)
          case measure => omega
          case rel => exact ⟨i, MM, by go_num, by omega, by omega, by omega, unhide HML2, unhide HF, hbY, hgY⟩
        | true =>
          rw [hnb] at nY
          by_cases hr1 : sr = 1
          · have hd5 : ((sr : Int) == 1) = true := by rw [beq_iff_eq]; omega
            have HF : Hid (needs p last = markTo p last i MM) := hide (by rw [unhide HM2, if_neg (fun h => h.2 hr1)])
            clear hnb hr1
            go_wp2_with fail
            go_roundg (gk - 1)
            case measure => omega
            case rel => exact ⟨i, MM, by go_num, by omega, by omega, by omega, unhide HML2, unhide HF, hbY, hgY⟩
          · have hd5 : ((sr : Int) == 1) = false := by rw [beq_eq_false_iff_ne]; omega
            have HF : Hid (needs p last = markTo p last i (markOne true (i + 1) ss (markOne true (i + 1) sf MM))) := hide (by rw [unhide HM2, if_pos ⟨hnb, hr1⟩])
            clear hnb hr1
            go_wp2_with fail
            generalize (wr.alloc (.cells #[.int .i64 (sr : Int), .int .i64 (sf : Int), .int .i64 (ss : Int), .int .i64 (sv : Int), .int .i64 (l1 : Int), .int .i64 (l2 : Int)] 91)) = wy at *
            obtain ⟨wo, hwo⟩ : ∃ wo, wo = wr := ⟨_, rfl⟩
            obtain ⟨go, rfl⟩ : ∃ go, go = gk := ⟨_, rfl⟩
            go_loopg [55] 2 (fun m iv wx => ∃ (N : List Bool), N.length = p.length + 1 ∧ Below w.heap.size w wx ∧ wx.heap[w.heap.size]? = some (.cells (boolCells N).toArray 4 (0, 0)) ∧ ((iv = .int .i64 0 ∧ m = 2 ∧ needs p last = markTo p last i (markOne true (i + 1) ss (markOne true (i + 1) sf N))) ∨ (iv = .int .i64 1 ∧ m = 1 ∧ needs p last = markTo p last i (markOne true (i + 1) ss N)) ∨ (iv = .int .i64 2 ∧ m = 0 ∧ needs p last = markTo p last i N)))
            case atStart => exact ⟨MM, unhide HML2, hbY, hgY, Or.inl ⟨rfl, rfl, unhide HF⟩⟩
            case round =>
              obtain ⟨N, hNl, hbN, hgN, hN⟩ := hrel
              have hix0 : ∀ w : World, (Instr.index 149 (.agg #[.int .i64 (sf : Int), .int .i64 (ss : Int)]) (.int .i64 0)).run Tryz.prog w = .ok (.int .i64 (sf : Int)) w := fun w => by kernel_rfl
              have hix1 : ∀ w : World, (Instr.index 149 (.agg #[.int .i64 (sf : Int), .int .i64 (ss : Int)]) (.int .i64 1)).run Tryz.prog w = .ok (.int .i64 (ss : Int)) w := fun w => by kernel_rfl
              have HNL := hide hNl
              have lgN := blk_lt hgN
              rcases hN with ⟨rfl, hm, hN⟩ | ⟨rfl, hm, hN⟩ | ⟨rfl, hm, hN⟩
              · have HN := hide hN
                clear hN hNl
                rcases (show sf = 0 ∨ (0 < sf ∧ sf < i + 1) ∨ (0 < sf ∧ ¬ sf < i + 1) by omega) with hx | hx | hx
                · have g1 : decide ((0 : Int) < (sf : Int)) = false := decide_eq_false (by omega)
                  have g1n : decide (0 < sf) = false := decide_eq_false (by omega)
                  have HO := hide (markOne_out (i + 1) sf N (by omega))
                  clear hx
                  go_wp2_with fail
                  go_roundg (gk - 1)
                  case measure => omega
                  case rel => exact ⟨N, unhide HNL, hbN, hgN, Or.inr (Or.inl ⟨rfl, by omega, by rw [unhide HN, unhide HO]⟩)⟩
                · have g1 : decide ((0 : Int) < (sf : Int)) = true := decide_eq_true (by omega)
                  have g1n : decide (0 < sf) = true := decide_eq_true (by omega)
                  have g2' : decide ((sf : Int) < (i : Int) + 1) = true := decide_eq_true (by omega)
                  have g2n : decide (sf < i + 1) = true := decide_eq_true (by omega)
                  have hxl : sf < p.length + 1 := by omega
                  have g3 : decide ((sf : Int) < (p.length : Int) + 1) = true := decide_eq_true (by omega)
                  have g4 : decide (sf < p.length + 1) = true := decide_eq_true (by omega)
                  have HO := hide (markOne_in (i + 1) sf N hx.1 hx.2)
                  clear hx
                  have cx : wr.cell? ⟨w.heap.size, sf, none⟩ = some (.bool (N.getD sf false)) := by rw [blk_cell hgN]; exact boolCells_at _ _ (by rw [unhide HNL]; exact of_decide_eq_true g4)
                  have zx := blk_free hgN sf
                  have hgS := blk_set hgN sf (.bool true)
                  rw [boolCells_set] at hgS
                  go_wp2_with fail
                  go_roundg (gk - 1)
                  case measure => omega
                  case rel => exact ⟨N.set sf true, by rw [List.length_set]; exact unhide HNL, hbN.setCell (p := ⟨w.heap.size, sf, none⟩) (Nat.le_refl _) _, hgS, Or.inr (Or.inl ⟨rfl, by omega, by rw [unhide HN, unhide HO]⟩)⟩
                · have g1 : decide ((0 : Int) < (sf : Int)) = true := decide_eq_true (by omega)
                  have g1n : decide (0 < sf) = true := decide_eq_true (by omega)
                  have g2' : decide ((sf : Int) < (i : Int) + 1) = false := decide_eq_false (by omega)
                  have g2n : decide (sf < i + 1) = false := decide_eq_false (by omega)
                  have HO := hide (markOne_out (i + 1) sf N (by omega))
                  clear hx
                  go_wp2_with fail
                  go_roundg (gk - 1)
                  case measure => omega
                  case rel => exact ⟨N, unhide HNL, hbN, hgN, Or.inr (Or.inl ⟨rfl, by omega, by rw [unhide HN, unhide HO]⟩)⟩
              · have HN := hide hN
                clear hN hNl
                rcases (show ss = 0 ∨ (0 < ss ∧ ss < i + 1) ∨ (0 < ss ∧ ¬ ss < i + 1) by omega) with hx | hx | hx
                · have g1 : decide ((0 : Int) < (ss : Int)) = false := decide_eq_false (by omega)
                  have g1n : decide (0 < ss) = false := decide_eq_false (by omega)
                  have HO := hide (markOne_out (i + 1) ss N (by omega))
                  clear hx
                  go_wp2_with fail
                  go_roundg (gk - 1)
                  case measure => omega
                  case rel => exact ⟨N, unhide HNL, hbN, hgN, Or.inr (Or.inr ⟨rfl, by omega, by rw [unhide HN, unhide HO]⟩)⟩
                · have g1 : decide ((0 : Int) < (ss : Int)) = true := decide_eq_true (by omega)
                  have g1n : decide (0 < ss) = true := decide_eq_true (by omega)
                  have g2' : decide ((ss : Int) < (i : Int) + 1) = true := decide_eq_true (by omega)
                  have g2n : decide (ss < i + 1) = true := decide_eq_true (by omega)
                  have hxl : ss < p.length + 1 := by omega
                  have g3 : decide ((ss : Int) < (p.length : Int) + 1) = true := decide_eq_true (by omega)
                  have g4 : decide (ss < p.length + 1) = true := decide_eq_true (by omega)
                  have HO := hide (markOne_in (i + 1) ss N hx.1 hx.2)
                  clear hx
                  have cx : wr.cell? ⟨w.heap.size, ss, none⟩ = some (.bool (N.getD ss false)) := by rw [blk_cell hgN]; exact boolCells_at _ _ (by rw [unhide HNL]; exact of_decide_eq_true g4)
                  have zx := blk_free hgN ss
                  have hgS := blk_set hgN ss (.bool true)
                  rw [boolCells_set] at hgS
                  go_wp2_with fail
                  go_roundg (gk - 1)
                  case measure => omega
                  case rel => exact ⟨N.set ss true, by rw [List.length_set]; exact unhide HNL, hbN.setCell (p := ⟨w.heap.size, ss, none⟩) (Nat.le_refl _) _, hgS, Or.inr (Or.inr ⟨rfl, by omega, by rw [unhide HN, unhide HO]⟩)⟩
                · have g1 : decide ((0 : Int) < (ss : Int)) = true := decide_eq_true (by omega)
                  have g1n : decide (0 < ss) = true := decide_eq_true (by omega)
                  have g2' : decide ((ss : Int) < (i : Int) + 1) = false := decide_eq_false (by omega)
                  have g2n : decide (ss < i + 1) = false := decide_eq_false (by omega)
                  have HO := hide (markOne_out (i + 1) ss N (by omega))
                  clear hx
                  go_wp2_with fail
                  go_roundg (gk - 1)
                  case measure => omega
                  case rel => exact ⟨N, unhide HNL, hbN, hgN, Or.inr (Or.inr ⟨rfl, by omega, by rw [unhide HN, unhide HO]⟩)⟩
              · have HN := hide hN
                clear hN hNl
                go_wp2_with fail
                go_roundg (go - 1)
                case measure => omega
                case rel => exact ⟨i, N, by go_num, by omega, by omega, by omega, unhide HNL, unhide HN, hbN, hgN⟩
end Go.Proofs.YtgipjjhkhfihpabGreatDoor

namespace Go.Proofs.YtgipjjhkhfihpabGreatDoor
open Go.RowKit

/-! ### Needed -/
theorem ints_set (l : List Nat) (i : Nat) (b : Nat) : (ints l).toArray.setIfInBounds i (.int .i64 (b : Int)) = (ints (l.set i b)).toArray := by
  simp [ints]
theorem ints_at' (l : List Nat) (i : Nat) (h : i < l.length) : (ints l).toArray[i]? = some (.int .i64 (l.getD i 0 : Int)) := by
  simp [ints, List.getElem?_eq_getElem h]
theorem shortTo_yes (p : List Stp) (mk : List Bool) (m k : Nat) (sh : List Stp) (nums : List Nat) (hk : k + (m + 1) = p.length) (st : Stp) (hst : p[k]'(by omega) = st) (h : mk.getD (k + 1) false = true) : shortTo p mk (m + 1) sh nums = shortTo p mk m (sh ++ [renum nums k st]) (nums.set (k + 1) (sh.length + 1)) := by
  have e : p.length - (m + 1) = k := by omega
  have hg : p.getD k ⟨0, 0, 0, 0, (0, 0)⟩ = st := by rw [List.getD_eq_getElem?_getD, List.getElem?_eq_getElem (by omega)]; exact hst
  rw [shortTo]
  rw [e, h, if_pos rfl, hg]
theorem shortTo_no (p : List Stp) (mk : List Bool) (m k : Nat) (sh : List Stp) (nums : List Nat) (hk : k + (m + 1) = p.length) (h : mk.getD (k + 1) false = false) : shortTo p mk (m + 1) sh nums = shortTo p mk m sh nums := by
  have e : p.length - (m + 1) = k := by omega
  rw [shortTo]
  rw [e, h, if_neg (by decide)]
theorem needs_len (p : List Stp) (last : Nat) : (needs p last).length = p.length + 1 := by
  unfold needs
  suffices h : ∀ i m, (markTo p last i m).length = m.length by rw [h]; simp
  intro i
  induction i with
  | zero => intro m; rfl
  | succ i ih => intro m; rw [markTo, ih, markStep_len]
def ShortPost (p : List Stp) (kind last : Nat) (w : World) (e : Ending) (w' : World) : Prop := ∃ v, e = .returned (.agg #[.int .i64 (kind : Int), v]) ∧ w'.ownsRow w.heap.size 91 6 v (shortOf p last).length (psCells (shortOf p last)) ∧ Below w.heap.size w w'
set_option maxRecDepth 100000 in
set_option maxHeartbeats 3200000 in
theorem short_any (b o : Nat) (cells : Array Value) (t : TypeId) (p : List Stp) (vS : Value) (kind last : Nat) (w : World) (hP : PAt w b o cells t p vS kind) (hl : p.length ≤ 100000) :
    Calls Tryz.prog 31 #[.pointer (some ⟨b, o, none⟩), .int .i64 (last : Int)] w fun e w' => ShortPost p kind last w e w' := by
  obtain ⟨aS, cS, rfl⟩ := own_form hP.own
  have hbw := blk_lt hP.fb
  have hmk : ∀ w : World, (Instr.makeSlice 59 (.int .i64 ((p.length : Int) + 1)) (.int .i64 ((p.length : Int) + 1))).run Tryz.prog w = .ok (.slice (some ⟨w.heap.size, 0, none⟩) (p.length + 1) (p.length + 1)) (w.alloc (.cells (ints (List.replicate (p.length + 1) 0)).toArray 3)) := fun w => by
    obtain ⟨i1, hi1, hz10, hz11, hz12⟩ := info_parts Tryz.info3
    have h := run_makeSlice (P := Tryz.prog) w 59 3 i1 (.int .i64 0) Tryz.underlying59 hi1 hz10 .i64 .i64 ((p.length + 1 : Nat) : Int) ((p.length + 1 : Nat) : Int) (by omega) (by omega) (by rw [hz11]; simp; omega) (by rw [hz12]; omega) (by omega)
    rw [hz11, Int.toNat_natCast, Nat.mul_one] at h
    rw [show (Value.int .i64 0).cells = #[.int .i64 0] from rfl, made_one] at h
    have e2 : ints (List.replicate (p.length + 1) 0) = List.replicate (p.length + 1) (Value.int .i64 0) := by simp [ints]
    rw [e2]
    exact h
  go_enter Tryz.func31, Tryz.ntmps31
  go_wp2_with fail
  have hA : Below w.heap.size w (w.alloc (.cells #[.int .i64 0, .slice none 0 0] 51)) := (Below.refl _ _).alloc (Nat.le_refl _) _
  have hrs := heap_alloc_new w (.cells #[.int .i64 0, .slice none 0 0] 51)
  refine (needed_any b o cells t p _ kind last _ (hP.later hA) hl).mono ?_
  rintro e u1 ⟨gN, rfl, hgN, hnd, hb1⟩
  replace hrs := (hb1.block _ (blk_lt hrs)).trans hrs
  have hB1 : Below w.heap.size w u1 := hA.trans (hb1.mono hA.size)
  clear hA hb1
  have hP1 := hP.later hB1
  have ck1 : u1.cell? ⟨b, o, none⟩ = some (.int .i64 (kind : Int)) := by rw [blk_cell hP1.fb]; exact hP1.ck
  have cs1 : u1.cell? ⟨b, o + 1, none⟩ = some (.slice aS p.length cS) := by rw [blk_cell hP1.fb]; exact hP1.cs
  have lb1 := blk_lt hP1.fb
  have hA2 : Below u1.heap.size u1 (u1.alloc (.cells #[.int .i64 (kind : Int), .slice none 0 0] 51)) := (Below.refl _ _).alloc (Nat.le_refl _) _
  have cs2 : (u1.alloc (.cells #[.int .i64 (kind : Int), .slice none 0 0] 51)).cell? ⟨b, o + 1, none⟩ = some (.slice aS p.length cS) := by rw [hA2.cell (p := ⟨b, o + 1, none⟩) lb1]; exact cs1
  have hA3 := (Below.refl (u1.heap.size + 1) (u1.alloc (.cells #[.int .i64 (kind : Int), .slice none 0 0] 51))).alloc (by simp) (.cells (ints (List.replicate (p.length + 1) 0)).toArray 3)
  have cs3 : ((u1.alloc (.cells #[.int .i64 (kind : Int), .slice none 0 0] 51)).alloc (.cells (ints (List.replicate (p.length + 1) 0)).toArray 3)).cell? ⟨b, o + 1, none⟩ = some (.slice aS p.length cS) := by rw [hA3.cell (p := ⟨b, o + 1, none⟩) (show b < u1.heap.size + 1 by omega)]; exact cs2
  go_wp2_with fail
  -- LOOP
  have HNL := hide (needs_len p last)
  have hrs2 := (hA2.block _ (blk_lt hrs)).trans hrs
  have hnd2 := (hA2.block _ (blk_lt hnd)).trans hnd
  have hsh2 := heap_alloc_new u1 (.cells #[.int .i64 (kind : Int), .slice none 0 0] 51)
  have hB2 := hB1.trans (hA2.mono hB1.size)
  have l1' : w.heap.size < u1.heap.size := blk_lt hrs
  have l2' : gN < u1.heap.size := blk_lt hnd
  have hrs3 := (hA3.block w.heap.size (by omega)).trans hrs2
  have hnd3 := (hA3.block gN (by omega)).trans hnd2
  have hsh3 := (hA3.block u1.heap.size (by omega)).trans hsh2
  have hnu3 : ((u1.alloc (.cells #[.int .i64 (kind : Int), .slice none 0 0] 51)).alloc (.cells (ints (List.replicate (p.length + 1) 0)).toArray 3)).heap[u1.heap.size + 1]? = some (.cells (ints (List.replicate (p.length + 1) 0)).toArray 3 (0, 0)) := alloc_new_at (by simp)
  have hB3 : Below w.heap.size w ((u1.alloc (.cells #[.int .i64 (kind : Int), .slice none 0 0] 51)).alloc (.cells (ints (List.replicate (p.length + 1) 0)).toArray 3)) := hB2.trans (hA3.mono (by omega))
  have hsz3 : ((u1.alloc (.cells #[.int .i64 (kind : Int), .slice none 0 0] 51)).alloc (.cells (ints (List.replicate (p.length + 1) 0)).toArray 3)).heap.size = u1.heap.size + 2 := by simp
  generalize ((u1.alloc (.cells #[.int .i64 (kind : Int), .slice none 0 0] 51)).alloc (.cells (ints (List.replicate (p.length + 1) 0)).toArray 3)) = u3 at *
  clear hA2 hA3 hrs2 hnd2 hsh2 hB2 cs2 cs3 cs1 ck1
  go_loopg [30] (p.length) (fun m i wx => ∃ (k : Nat) (sh : List Stp) (nums : List Nat) (v : Value), i = .int .i64 k ∧ k + m = p.length ∧ shortOf p last = (shortTo p (needs p last) m sh nums).1 ∧ sh.length ≤ k ∧ nums.length = p.length + 1 ∧ Below w.heap.size w wx ∧ wx.heap[w.heap.size]? = some (.cells #[.int .i64 0, .slice none 0 0] 51 (0, 0)) ∧ wx.heap[gN]? = some (.cells (boolCells (needs p last)).toArray 4 (0, 0)) ∧ wx.heap[u1.heap.size]? = some (.cells #[.int .i64 (kind : Int), v] 51 (0, 0)) ∧ wx.heap[u1.heap.size + 1]? = some (.cells (ints nums).toArray 3 (0, 0)) ∧ wx.ownsRow (u1.heap.size + 2) 91 6 v sh.length (psCells sh))
  case atStart => exact ⟨0, [], List.replicate (p.length + 1) 0, .slice none 0 0, rfl, by omega, rfl, Nat.le_refl _, by simp, hB3, hrs3, hnd3, hsh3, hnu3, World.ownsRow_nil _ _ _ _⟩
  case round =>
    clear hB3 hrs3 hnd3 hsh3 hnu3 hsz3 hrs hnd
    obtain ⟨k, sh, nums, v, rfl, hkm, hsho, hshl, hnl, hB, hrs, hnd, hsh, hnu, hown⟩ := hrel
    have HSH := hide hsho
    clear hsho
    have HNN := hide hnl
    clear hnl
    have lnd := blk_lt hnd
    have lsh := blk_lt hsh
    have lnu := blk_lt hnu
    have hPr := hP.later hB
    obtain ⟨aV, cV, rfl⟩ := own_form hown
    by_cases hlt : k < p.length
    · have hd3 : decide ((k : Int) < (p.length : Int)) = true := decide_eq_true (by omega)
      have hd4 : decide (k < p.length) = true := decide_eq_true hlt
      obtain ⟨m, hm⟩ : ∃ m, gk = m + 1 := ⟨gk - 1, by omega⟩
      obtain ⟨g2, cap, hVe, _, hg2', _, hcell⟩ := own_pos hPr.own (by omega)
      injection hVe with hVe _ hV2
      subst hVe hV2
      obtain ⟨st, hst⟩ : ∃ X, p[k] = X := ⟨_, rfl⟩
      have HYES := hide (fun h => shortTo_yes p (needs p last) m k sh nums (by omega) st hst h)
      have HNO := hide (fun h => shortTo_no p (needs p last) m k sh nums (by omega) h)
      have e0 : wr.cell? ⟨g2, k * 6, none⟩ = some (.int .i64 (p[k].rule : Int)) := hcell _ _ (psCells_at p k 0 hlt (by omega))
      have e1 : wr.cell? ⟨g2, k * 6 + 1, none⟩ = some (.int .i64 (p[k].first : Int)) := hcell _ _ (psCells_at p k 1 hlt (by omega))
      have e2 : wr.cell? ⟨g2, k * 6 + 2, none⟩ = some (.int .i64 (p[k].second : Int)) := hcell _ _ (psCells_at p k 2 hlt (by omega))
      have e3 : wr.cell? ⟨g2, k * 6 + 3, none⟩ = some (.int .i64 (p[k].var : Int)) := hcell _ _ (psCells_at p k 3 hlt (by omega))
      have e4 : wr.cell? ⟨g2, k * 6 + 4, none⟩ = some (.int .i64 (p[k].lits.1 : Int)) := hcell _ _ (psCells_at p k 4 hlt (by omega))
      have e5 : wr.cell? ⟨g2, k * 6 + 5, none⟩ = some (.int .i64 (p[k].lits.2 : Int)) := hcell _ _ (psCells_at p k 5 hlt (by omega))
      rw [hst] at e0 e1 e2 e3 e4 e5
      clear hst hcell
      obtain ⟨sr, sf, ss, sv, l1, l2⟩ := st
      dsimp only at *
      rw [hm] at HSH
      have hA : Below wr.heap.size wr (wr.alloc (.cells #[.int .i64 (sr : Int), .int .i64 (sf : Int), .int .i64 (ss : Int), .int .i64 (sv : Int), .int .i64 (l1 : Int), .int .i64 (l2 : Int)] 91)) := (Below.refl _ _).alloc (Nat.le_refl _) _
      have ndA : (wr.alloc (.cells #[.int .i64 (sr : Int), .int .i64 (sf : Int), .int .i64 (ss : Int), .int .i64 (sv : Int), .int .i64 (l1 : Int), .int .i64 (l2 : Int)] 91)).cell? ⟨gN, k + 1, none⟩ = some (.bool ((needs p last).getD (k + 1) false)) := by rw [hA.cell (p := ⟨gN, k + 1, none⟩) lnd, blk_cell hnd]; exact boolCells_at _ _ (by rw [unhide HNL]; omega)
      have hk1 : k + 1 < p.length + 1 := by omega
      cases hnb : (needs p last).getD (k + 1) false with
      | false =>
        rw [hnb] at ndA
        have HN : Hid (shortOf p last = (shortTo p (needs p last) m sh nums).1) := hide (by rw [unhide HSH, unhide HNO hnb])
        clear hnb
        go_wp2_with fail
        go_roundg (gk - 1)
        case measure => omega
        case rel => exact ⟨k + 1, sh, nums, _, by go_num, by omega, by rw [show gk - 1 = m by omega]; exact unhide HN, by omega, unhide HNN, hB.trans (hA.mono hB.size), (hA.block _ (blk_lt hrs)).trans hrs, (hA.block _ lnd).trans hnd, (hA.block _ lsh).trans hsh, (hA.block _ lnu).trans hnu, own_below hown hA⟩
      | true =>
        rw [hnb] at ndA
        have HN : Hid (shortOf p last = (shortTo p (needs p last) m (sh ++ [renum nums k ⟨sr, sf, ss, sv, (l1, l2)⟩]) (nums.set (k + 1) (sh.length + 1))).1) := hide (by rw [unhide HSH, unhide HYES hnb])
        clear hnb
        have hd5 : decide ((0 : Int) ≤ (sf : Int)) = true := decide_eq_true (by omega)
        have hd6 : decide ((0 : Int) ≤ (ss : Int)) = true := decide_eq_true (by omega)
        by_cases hs : ss ≤ k
        · rcases (show (sr ≠ 1 ∧ sf ≤ k) ∨ sr = 1 ∨ (sr ≠ 1 ∧ ¬ sf ≤ k) by omega) with hf | hf | hf
          · skip
            have g1 : ((sr : Int) == 1) = false := by rw [beq_eq_false_iff_ne]; omega
            have g1n : (sr == 1) = false := by rw [beq_eq_false_iff_ne]; omega
            have g1m : ((sr : Int) != 1) = true := by rw [bne, g1]; rfl
            have g1p : (sr != 1) = true := by rw [bne, g1n]; rfl
            have g1d : decide ((sr : Int) = 1) = false := decide_eq_false (by omega)
            have g1e : decide (sr = 1) = false := decide_eq_false (by omega)
            have g2' : decide ((sf : Int) ≤ (k : Int)) = true := decide_eq_true (by omega)
            have g2n : decide (sf ≤ k) = true := decide_eq_true (by omega)
            have hfl : sf < p.length + 1 := by omega
            have g3 : decide ((ss : Int) ≤ (k : Int)) = true := decide_eq_true (by omega)
            have g3n : decide (ss ≤ k) = true := decide_eq_true (by omega)
            have hsl : ss < p.length + 1 := by omega
            have HRN : Hid (renum nums k ⟨sr, sf, ss, sv, (l1, l2)⟩ = ⟨sr, nums.getD sf 0, nums.getD ss 0, sv, (l1, l2)⟩) := hide (by unfold renum; dsimp only; rw [if_pos hf, if_pos hs])
            rw [unhide HRN] at HN
            clear hf hs HRN
            have nf : (wr.alloc (.cells #[.int .i64 (sr : Int), .int .i64 (sf : Int), .int .i64 (ss : Int), .int .i64 (sv : Int), .int .i64 (l1 : Int), .int .i64 (l2 : Int)] 91)).cell? ⟨u1.heap.size + 1, sf, none⟩ = some (.int .i64 (nums.getD sf 0 : Int)) := by rw [hA.cell (p := ⟨u1.heap.size + 1, sf, none⟩) lnu, blk_cell hnu]; exact ints_at' _ _ (by rw [unhide HNN]; exact hfl)
            have hA' : Below wr.heap.size wr (wr.alloc (.cells #[.int .i64 (sr : Int), .int .i64 (nums.getD sf 0 : Int), .int .i64 (ss : Int), .int .i64 (sv : Int), .int .i64 (l1 : Int), .int .i64 (l2 : Int)] 91)) := (Below.refl _ _).alloc (Nat.le_refl _) _
            have nS : (wr.alloc (.cells #[.int .i64 (sr : Int), .int .i64 (nums.getD sf 0 : Int), .int .i64 (ss : Int), .int .i64 (sv : Int), .int .i64 (l1 : Int), .int .i64 (l2 : Int)] 91)).cell? ⟨u1.heap.size + 1, ss, none⟩ = some (.int .i64 (nums.getD ss 0 : Int)) := by rw [hA'.cell (p := ⟨u1.heap.size + 1, ss, none⟩) lnu, blk_cell hnu]; exact ints_at' _ _ (by rw [unhide HNN]; exact hsl)
            have hA4 : Below wr.heap.size wr (wr.alloc (.cells #[.int .i64 (sr : Int), .int .i64 (nums.getD sf 0 : Int), .int .i64 (nums.getD ss 0 : Int), .int .i64 (sv : Int), .int .i64 (l1 : Int), .int .i64 (l2 : Int)] 91)) := (Below.refl _ _).alloc (Nat.le_refl _) _
            generalize nums.getD sf 0 = F at *
            generalize nums.getD ss 0 = G at *
            go_wp2_with fail
            have hsh4 := (hA4.block _ lsh).trans hsh
            have hnu4 := (hA4.block _ lnu).trans hnu
            have hnd4 := (hA4.block _ lnd).trans hnd
            have hrs4 := (hA4.block _ (blk_lt hrs)).trans hrs
            have hown4 := own_below hown hA4
            have hB4 := hB.trans (hA4.mono hB.size)
            have hz4 : wr.heap.size ≤ (wr.alloc (.cells #[.int .i64 (sr : Int), .int .i64 (F : Int), .int .i64 (G : Int), .int .i64 (sv : Int), .int .i64 (l1 : Int), .int .i64 (l2 : Int)] 91)).heap.size := hA4.size
            generalize (wr.alloc (.cells #[.int .i64 (sr : Int), .int .i64 (F : Int), .int .i64 (G : Int), .int .i64 (sv : Int), .int .i64 (l1 : Int), .int .i64 (l2 : Int)] 91)) = w4 at *
            refine (add_any (u1.heap.size + 2) u1.heap.size 0 sh (.slice aV sh.length cV) ⟨sr, F, G, sv, (l1, l2)⟩ #[.int .i64 (kind : Int), .slice aV sh.length cV] 51 _ hsh4 rfl (by decide) hown4 (by omega) (by omega)).mono ?_
            rintro e w5 ⟨v5, rfl, ho5, hf5, hn5, hm5⟩
            have hT : ∀ k, k < u1.heap.size + 2 → k ≠ u1.heap.size → ¬ (k = u1.heap.size ∨ (Value.slice aV sh.length cV).ownBlock = some k) := fun k hk hne h => by
              rcases h with h | h
              · exact hne h
              · have := own_ge hown4 h; omega
            have hnu5 := (hn5.block (u1.heap.size + 1) (blk_lt hnu4) (hT _ (by omega) (by omega))).trans hnu4
            have hnd5 := (hn5.block gN (blk_lt hnd4) (hT _ (by omega) (by omega))).trans hnd4
            have hrs5 := (hn5.block w.heap.size (blk_lt hrs4) (hT _ (by omega) (by omega))).trans hrs4
            have hB5 := hn5.under hB4 (Nat.le_refl _) (fun k hk => by
              rcases hk with h | h
              · omega
              · have := own_ge hown4 h; omega)
            have hnuS : (w5.setCell ⟨u1.heap.size + 1, k + 1, none⟩ (.int .i64 ((sh.length : Int) + 1))).heap[u1.heap.size + 1]? = some (.cells (ints (nums.set (k + 1) (sh.length + 1))).toArray 3 (0, 0)) := by
              have h := blk_set hnu5 (k + 1) (.int .i64 ((sh.length + 1 : Nat) : Int))
              rw [ints_set] at h
              exact h
            have cn5 : w5.cell? ⟨u1.heap.size + 1, k + 1, none⟩ = some (.int .i64 (nums.getD (k + 1) 0 : Int)) := by rw [blk_cell hnu5]; exact ints_at' _ _ (by rw [unhide HNN]; exact hk1)
            have zn5 := blk_free hnu5 (k + 1)
            have ln5 := blk_lt hnu5
            have hne5 : v5.ownBlock ≠ some (u1.heap.size + 1) := fun e => by have := own_ge ho5 e; omega
            go_wp2_with fail
            go_roundg (gk - 1)
            case measure => omega
            case rel => exact ⟨k + 1, sh ++ [⟨sr, F, G, sv, (l1, l2)⟩], nums.set (k + 1) (sh.length + 1), v5, by go_num, by omega, by rw [show gk - 1 = m by omega]; exact unhide HN, by rw [List.length_append]; simp; omega, by rw [List.length_set]; exact unhide HNN, hB5.setCell (p := ⟨u1.heap.size + 1, k + 1, none⟩) (by show w.heap.size ≤ u1.heap.size + 1; omega) _, blk_other hrs5 (by omega) _ _, blk_other hnd5 (by omega) _ _, blk_other hf5 (by omega) _ _, hnuS, by rw [List.length_append]; exact own_set_ne ho5 (p := ⟨u1.heap.size + 1, k + 1, none⟩) hne5 _⟩
          · skip
            have g1 : ((sr : Int) == 1) = true := by rw [beq_iff_eq]; omega
            have g1n : (sr == 1) = true := by rw [beq_iff_eq]; omega
            have g1m : ((sr : Int) != 1) = false := by rw [bne, g1]; rfl
            have g1p : (sr != 1) = false := by rw [bne, g1n]; rfl
            have g1d : decide ((sr : Int) = 1) = true := decide_eq_true (by omega)
            have g1e : decide (sr = 1) = true := decide_eq_true (by omega)
            have g3 : decide ((ss : Int) ≤ (k : Int)) = true := decide_eq_true (by omega)
            have g3n : decide (ss ≤ k) = true := decide_eq_true (by omega)
            have hsl : ss < p.length + 1 := by omega
            have HRN : Hid (renum nums k ⟨sr, sf, ss, sv, (l1, l2)⟩ = ⟨sr, sf, nums.getD ss 0, sv, (l1, l2)⟩) := hide (by unfold renum; dsimp only; rw [if_neg (by omega), if_pos hs])
            rw [unhide HRN] at HN
            clear hf hs HRN
            have hA' : Below wr.heap.size wr (wr.alloc (.cells #[.int .i64 (sr : Int), .int .i64 (sf : Int), .int .i64 (ss : Int), .int .i64 (sv : Int), .int .i64 (l1 : Int), .int .i64 (l2 : Int)] 91)) := (Below.refl _ _).alloc (Nat.le_refl _) _
            have nS : (wr.alloc (.cells #[.int .i64 (sr : Int), .int .i64 (sf : Int), .int .i64 (ss : Int), .int .i64 (sv : Int), .int .i64 (l1 : Int), .int .i64 (l2 : Int)] 91)).cell? ⟨u1.heap.size + 1, ss, none⟩ = some (.int .i64 (nums.getD ss 0 : Int)) := by rw [hA'.cell (p := ⟨u1.heap.size + 1, ss, none⟩) lnu, blk_cell hnu]; exact ints_at' _ _ (by rw [unhide HNN]; exact hsl)
            have hA4 : Below wr.heap.size wr (wr.alloc (.cells #[.int .i64 (sr : Int), .int .i64 (sf : Int), .int .i64 (nums.getD ss 0 : Int), .int .i64 (sv : Int), .int .i64 (l1 : Int), .int .i64 (l2 : Int)] 91)) := (Below.refl _ _).alloc (Nat.le_refl _) _
            generalize nums.getD ss 0 = G at *
            go_wp2_with fail
            have hsh4 := (hA4.block _ lsh).trans hsh
            have hnu4 := (hA4.block _ lnu).trans hnu
            have hnd4 := (hA4.block _ lnd).trans hnd
            have hrs4 := (hA4.block _ (blk_lt hrs)).trans hrs
            have hown4 := own_below hown hA4
            have hB4 := hB.trans (hA4.mono hB.size)
            have hz4 : wr.heap.size ≤ (wr.alloc (.cells #[.int .i64 (sr : Int), .int .i64 (sf : Int), .int .i64 (G : Int), .int .i64 (sv : Int), .int .i64 (l1 : Int), .int .i64 (l2 : Int)] 91)).heap.size := hA4.size
            generalize (wr.alloc (.cells #[.int .i64 (sr : Int), .int .i64 (sf : Int), .int .i64 (G : Int), .int .i64 (sv : Int), .int .i64 (l1 : Int), .int .i64 (l2 : Int)] 91)) = w4 at *
            refine (add_any (u1.heap.size + 2) u1.heap.size 0 sh (.slice aV sh.length cV) ⟨sr, sf, G, sv, (l1, l2)⟩ #[.int .i64 (kind : Int), .slice aV sh.length cV] 51 _ hsh4 rfl (by decide) hown4 (by omega) (by omega)).mono ?_
            rintro e w5 ⟨v5, rfl, ho5, hf5, hn5, hm5⟩
            have hT : ∀ k, k < u1.heap.size + 2 → k ≠ u1.heap.size → ¬ (k = u1.heap.size ∨ (Value.slice aV sh.length cV).ownBlock = some k) := fun k hk hne h => by
              rcases h with h | h
              · exact hne h
              · have := own_ge hown4 h; omega
            have hnu5 := (hn5.block (u1.heap.size + 1) (blk_lt hnu4) (hT _ (by omega) (by omega))).trans hnu4
            have hnd5 := (hn5.block gN (blk_lt hnd4) (hT _ (by omega) (by omega))).trans hnd4
            have hrs5 := (hn5.block w.heap.size (blk_lt hrs4) (hT _ (by omega) (by omega))).trans hrs4
            have hB5 := hn5.under hB4 (Nat.le_refl _) (fun k hk => by
              rcases hk with h | h
              · omega
              · have := own_ge hown4 h; omega)
            have hnuS : (w5.setCell ⟨u1.heap.size + 1, k + 1, none⟩ (.int .i64 ((sh.length : Int) + 1))).heap[u1.heap.size + 1]? = some (.cells (ints (nums.set (k + 1) (sh.length + 1))).toArray 3 (0, 0)) := by
              have h := blk_set hnu5 (k + 1) (.int .i64 ((sh.length + 1 : Nat) : Int))
              rw [ints_set] at h
              exact h
            have cn5 : w5.cell? ⟨u1.heap.size + 1, k + 1, none⟩ = some (.int .i64 (nums.getD (k + 1) 0 : Int)) := by rw [blk_cell hnu5]; exact ints_at' _ _ (by rw [unhide HNN]; exact hk1)
            have zn5 := blk_free hnu5 (k + 1)
            have ln5 := blk_lt hnu5
            have hne5 : v5.ownBlock ≠ some (u1.heap.size + 1) := fun e => by have := own_ge ho5 e; omega
            go_wp2_with fail
            go_roundg (gk - 1)
            case measure => omega
            case rel => exact ⟨k + 1, sh ++ [⟨sr, sf, G, sv, (l1, l2)⟩], nums.set (k + 1) (sh.length + 1), v5, by go_num, by omega, by rw [show gk - 1 = m by omega]; exact unhide HN, by rw [List.length_append]; simp; omega, by rw [List.length_set]; exact unhide HNN, hB5.setCell (p := ⟨u1.heap.size + 1, k + 1, none⟩) (by show w.heap.size ≤ u1.heap.size + 1; omega) _, blk_other hrs5 (by omega) _ _, blk_other hnd5 (by omega) _ _, blk_other hf5 (by omega) _ _, hnuS, by rw [List.length_append]; exact own_set_ne ho5 (p := ⟨u1.heap.size + 1, k + 1, none⟩) hne5 _⟩
          · skip
            have g1 : ((sr : Int) == 1) = false := by rw [beq_eq_false_iff_ne]; omega
            have g1n : (sr == 1) = false := by rw [beq_eq_false_iff_ne]; omega
            have g1m : ((sr : Int) != 1) = true := by rw [bne, g1]; rfl
            have g1p : (sr != 1) = true := by rw [bne, g1n]; rfl
            have g1d : decide ((sr : Int) = 1) = false := decide_eq_false (by omega)
            have g1e : decide (sr = 1) = false := decide_eq_false (by omega)
            have g2' : decide ((sf : Int) ≤ (k : Int)) = false := decide_eq_false (by omega)
            have g2n : decide (sf ≤ k) = false := decide_eq_false (by omega)
            have g3 : decide ((ss : Int) ≤ (k : Int)) = true := decide_eq_true (by omega)
            have g3n : decide (ss ≤ k) = true := decide_eq_true (by omega)
            have hsl : ss < p.length + 1 := by omega
            have HRN : Hid (renum nums k ⟨sr, sf, ss, sv, (l1, l2)⟩ = ⟨sr, sf, nums.getD ss 0, sv, (l1, l2)⟩) := hide (by unfold renum; dsimp only; rw [if_neg (by omega), if_pos hs])
            rw [unhide HRN] at HN
            clear hf hs HRN
            have hA' : Below wr.heap.size wr (wr.alloc (.cells #[.int .i64 (sr : Int), .int .i64 (sf : Int), .int .i64 (ss : Int), .int .i64 (sv : Int), .int .i64 (l1 : Int), .int .i64 (l2 : Int)] 91)) := (Below.refl _ _).alloc (Nat.le_refl _) _
            have nS : (wr.alloc (.cells #[.int .i64 (sr : Int), .int .i64 (sf : Int), .int .i64 (ss : Int), .int .i64 (sv : Int), .int .i64 (l1 : Int), .int .i64 (l2 : Int)] 91)).cell? ⟨u1.heap.size + 1, ss, none⟩ = some (.int .i64 (nums.getD ss 0 : Int)) := by rw [hA'.cell (p := ⟨u1.heap.size + 1, ss, none⟩) lnu, blk_cell hnu]; exact ints_at' _ _ (by rw [unhide HNN]; exact hsl)
            have hA4 : Below wr.heap.size wr (wr.alloc (.cells #[.int .i64 (sr : Int), .int .i64 (sf : Int), .int .i64 (nums.getD ss 0 : Int), .int .i64 (sv : Int), .int .i64 (l1 : Int), .int .i64 (l2 : Int)] 91)) := (Below.refl _ _).alloc (Nat.le_refl _) _
            generalize nums.getD ss 0 = G at *
            go_wp2_with fail
            have hsh4 := (hA4.block _ lsh).trans hsh
            have hnu4 := (hA4.block _ lnu).trans hnu
            have hnd4 := (hA4.block _ lnd).trans hnd
            have hrs4 := (hA4.block _ (blk_lt hrs)).trans hrs
            have hown4 := own_below hown hA4
            have hB4 := hB.trans (hA4.mono hB.size)
            have hz4 : wr.heap.size ≤ (wr.alloc (.cells #[.int .i64 (sr : Int), .int .i64 (sf : Int), .int .i64 (G : Int), .int .i64 (sv : Int), .int .i64 (l1 : Int), .int .i64 (l2 : Int)] 91)).heap.size := hA4.size
            generalize (wr.alloc (.cells #[.int .i64 (sr : Int), .int .i64 (sf : Int), .int .i64 (G : Int), .int .i64 (sv : Int), .int .i64 (l1 : Int), .int .i64 (l2 : Int)] 91)) = w4 at *
            refine (add_any (u1.heap.size + 2) u1.heap.size 0 sh (.slice aV sh.length cV) ⟨sr, sf, G, sv, (l1, l2)⟩ #[.int .i64 (kind : Int), .slice aV sh.length cV] 51 _ hsh4 rfl (by decide) hown4 (by omega) (by omega)).mono ?_
            rintro e w5 ⟨v5, rfl, ho5, hf5, hn5, hm5⟩
            have hT : ∀ k, k < u1.heap.size + 2 → k ≠ u1.heap.size → ¬ (k = u1.heap.size ∨ (Value.slice aV sh.length cV).ownBlock = some k) := fun k hk hne h => by
              rcases h with h | h
              · exact hne h
              · have := own_ge hown4 h; omega
            have hnu5 := (hn5.block (u1.heap.size + 1) (blk_lt hnu4) (hT _ (by omega) (by omega))).trans hnu4
            have hnd5 := (hn5.block gN (blk_lt hnd4) (hT _ (by omega) (by omega))).trans hnd4
            have hrs5 := (hn5.block w.heap.size (blk_lt hrs4) (hT _ (by omega) (by omega))).trans hrs4
            have hB5 := hn5.under hB4 (Nat.le_refl _) (fun k hk => by
              rcases hk with h | h
              · omega
              · have := own_ge hown4 h; omega)
            have hnuS : (w5.setCell ⟨u1.heap.size + 1, k + 1, none⟩ (.int .i64 ((sh.length : Int) + 1))).heap[u1.heap.size + 1]? = some (.cells (ints (nums.set (k + 1) (sh.length + 1))).toArray 3 (0, 0)) := by
              have h := blk_set hnu5 (k + 1) (.int .i64 ((sh.length + 1 : Nat) : Int))
              rw [ints_set] at h
              exact h
            have cn5 : w5.cell? ⟨u1.heap.size + 1, k + 1, none⟩ = some (.int .i64 (nums.getD (k + 1) 0 : Int)) := by rw [blk_cell hnu5]; exact ints_at' _ _ (by rw [unhide HNN]; exact hk1)
            have zn5 := blk_free hnu5 (k + 1)
            have ln5 := blk_lt hnu5
            have hne5 : v5.ownBlock ≠ some (u1.heap.size + 1) := fun e => by have := own_ge ho5 e; omega
            go_wp2_with fail
            go_roundg (gk - 1)
            case measure => omega
            case rel => exact ⟨k + 1, sh ++ [⟨sr, sf, G, sv, (l1, l2)⟩], nums.set (k + 1) (sh.length + 1), v5, by go_num, by omega, by rw [show gk - 1 = m by omega]; exact unhide HN, by rw [List.length_append]; simp; omega, by rw [List.length_set]; exact unhide HNN, hB5.setCell (p := ⟨u1.heap.size + 1, k + 1, none⟩) (by show w.heap.size ≤ u1.heap.size + 1; omega) _, blk_other hrs5 (by omega) _ _, blk_other hnd5 (by omega) _ _, blk_other hf5 (by omega) _ _, hnuS, by rw [List.length_append]; exact own_set_ne ho5 (p := ⟨u1.heap.size + 1, k + 1, none⟩) hne5 _⟩
        · rcases (show (sr ≠ 1 ∧ sf ≤ k) ∨ sr = 1 ∨ (sr ≠ 1 ∧ ¬ sf ≤ k) by omega) with hf | hf | hf
          · skip
            have g1 : ((sr : Int) == 1) = false := by rw [beq_eq_false_iff_ne]; omega
            have g1n : (sr == 1) = false := by rw [beq_eq_false_iff_ne]; omega
            have g1m : ((sr : Int) != 1) = true := by rw [bne, g1]; rfl
            have g1p : (sr != 1) = true := by rw [bne, g1n]; rfl
            have g1d : decide ((sr : Int) = 1) = false := decide_eq_false (by omega)
            have g1e : decide (sr = 1) = false := decide_eq_false (by omega)
            have g2' : decide ((sf : Int) ≤ (k : Int)) = true := decide_eq_true (by omega)
            have g2n : decide (sf ≤ k) = true := decide_eq_true (by omega)
            have hfl : sf < p.length + 1 := by omega
            have g3 : decide ((ss : Int) ≤ (k : Int)) = false := decide_eq_false (by omega)
            have g3n : decide (ss ≤ k) = false := decide_eq_false (by omega)
            have HRN : Hid (renum nums k ⟨sr, sf, ss, sv, (l1, l2)⟩ = ⟨sr, nums.getD sf 0, ss, sv, (l1, l2)⟩) := hide (by unfold renum; dsimp only; rw [if_pos hf, if_neg hs])
            rw [unhide HRN] at HN
            clear hf hs HRN
            have nf : (wr.alloc (.cells #[.int .i64 (sr : Int), .int .i64 (sf : Int), .int .i64 (ss : Int), .int .i64 (sv : Int), .int .i64 (l1 : Int), .int .i64 (l2 : Int)] 91)).cell? ⟨u1.heap.size + 1, sf, none⟩ = some (.int .i64 (nums.getD sf 0 : Int)) := by rw [hA.cell (p := ⟨u1.heap.size + 1, sf, none⟩) lnu, blk_cell hnu]; exact ints_at' _ _ (by rw [unhide HNN]; exact hfl)
            have hA4 : Below wr.heap.size wr (wr.alloc (.cells #[.int .i64 (sr : Int), .int .i64 (nums.getD sf 0 : Int), .int .i64 (ss : Int), .int .i64 (sv : Int), .int .i64 (l1 : Int), .int .i64 (l2 : Int)] 91)) := (Below.refl _ _).alloc (Nat.le_refl _) _
            generalize nums.getD sf 0 = F at *
            go_wp2_with fail
            have hsh4 := (hA4.block _ lsh).trans hsh
            have hnu4 := (hA4.block _ lnu).trans hnu
            have hnd4 := (hA4.block _ lnd).trans hnd
            have hrs4 := (hA4.block _ (blk_lt hrs)).trans hrs
            have hown4 := own_below hown hA4
            have hB4 := hB.trans (hA4.mono hB.size)
            have hz4 : wr.heap.size ≤ (wr.alloc (.cells #[.int .i64 (sr : Int), .int .i64 (F : Int), .int .i64 (ss : Int), .int .i64 (sv : Int), .int .i64 (l1 : Int), .int .i64 (l2 : Int)] 91)).heap.size := hA4.size
            generalize (wr.alloc (.cells #[.int .i64 (sr : Int), .int .i64 (F : Int), .int .i64 (ss : Int), .int .i64 (sv : Int), .int .i64 (l1 : Int), .int .i64 (l2 : Int)] 91)) = w4 at *
            refine (add_any (u1.heap.size + 2) u1.heap.size 0 sh (.slice aV sh.length cV) ⟨sr, F, ss, sv, (l1, l2)⟩ #[.int .i64 (kind : Int), .slice aV sh.length cV] 51 _ hsh4 rfl (by decide) hown4 (by omega) (by omega)).mono ?_
            rintro e w5 ⟨v5, rfl, ho5, hf5, hn5, hm5⟩
            have hT : ∀ k, k < u1.heap.size + 2 → k ≠ u1.heap.size → ¬ (k = u1.heap.size ∨ (Value.slice aV sh.length cV).ownBlock = some k) := fun k hk hne h => by
              rcases h with h | h
              · exact hne h
              · have := own_ge hown4 h; omega
            have hnu5 := (hn5.block (u1.heap.size + 1) (blk_lt hnu4) (hT _ (by omega) (by omega))).trans hnu4
            have hnd5 := (hn5.block gN (blk_lt hnd4) (hT _ (by omega) (by omega))).trans hnd4
            have hrs5 := (hn5.block w.heap.size (blk_lt hrs4) (hT _ (by omega) (by omega))).trans hrs4
            have hB5 := hn5.under hB4 (Nat.le_refl _) (fun k hk => by
              rcases hk with h | h
              · omega
              · have := own_ge hown4 h; omega)
            have hnuS : (w5.setCell ⟨u1.heap.size + 1, k + 1, none⟩ (.int .i64 ((sh.length : Int) + 1))).heap[u1.heap.size + 1]? = some (.cells (ints (nums.set (k + 1) (sh.length + 1))).toArray 3 (0, 0)) := by
              have h := blk_set hnu5 (k + 1) (.int .i64 ((sh.length + 1 : Nat) : Int))
              rw [ints_set] at h
              exact h
            have cn5 : w5.cell? ⟨u1.heap.size + 1, k + 1, none⟩ = some (.int .i64 (nums.getD (k + 1) 0 : Int)) := by rw [blk_cell hnu5]; exact ints_at' _ _ (by rw [unhide HNN]; exact hk1)
            have zn5 := blk_free hnu5 (k + 1)
            have ln5 := blk_lt hnu5
            have hne5 : v5.ownBlock ≠ some (u1.heap.size + 1) := fun e => by have := own_ge ho5 e; omega
            go_wp2_with fail
            go_roundg (gk - 1)
            case measure => omega
            case rel => exact ⟨k + 1, sh ++ [⟨sr, F, ss, sv, (l1, l2)⟩], nums.set (k + 1) (sh.length + 1), v5, by go_num, by omega, by rw [show gk - 1 = m by omega]; exact unhide HN, by rw [List.length_append]; simp; omega, by rw [List.length_set]; exact unhide HNN, hB5.setCell (p := ⟨u1.heap.size + 1, k + 1, none⟩) (by show w.heap.size ≤ u1.heap.size + 1; omega) _, blk_other hrs5 (by omega) _ _, blk_other hnd5 (by omega) _ _, blk_other hf5 (by omega) _ _, hnuS, by rw [List.length_append]; exact own_set_ne ho5 (p := ⟨u1.heap.size + 1, k + 1, none⟩) hne5 _⟩
          · skip
            have g1 : ((sr : Int) == 1) = true := by rw [beq_iff_eq]; omega
            have g1n : (sr == 1) = true := by rw [beq_iff_eq]; omega
            have g1m : ((sr : Int) != 1) = false := by rw [bne, g1]; rfl
            have g1p : (sr != 1) = false := by rw [bne, g1n]; rfl
            have g1d : decide ((sr : Int) = 1) = true := decide_eq_true (by omega)
            have g1e : decide (sr = 1) = true := decide_eq_true (by omega)
            have g3 : decide ((ss : Int) ≤ (k : Int)) = false := decide_eq_false (by omega)
            have g3n : decide (ss ≤ k) = false := decide_eq_false (by omega)
            have HRN : Hid (renum nums k ⟨sr, sf, ss, sv, (l1, l2)⟩ = ⟨sr, sf, ss, sv, (l1, l2)⟩) := hide (by unfold renum; dsimp only; rw [if_neg (by omega), if_neg hs])
            rw [unhide HRN] at HN
            clear hf hs HRN
            have hA4 : Below wr.heap.size wr (wr.alloc (.cells #[.int .i64 (sr : Int), .int .i64 (sf : Int), .int .i64 (ss : Int), .int .i64 (sv : Int), .int .i64 (l1 : Int), .int .i64 (l2 : Int)] 91)) := (Below.refl _ _).alloc (Nat.le_refl _) _
            go_wp2_with fail
            have hsh4 := (hA4.block _ lsh).trans hsh
            have hnu4 := (hA4.block _ lnu).trans hnu
            have hnd4 := (hA4.block _ lnd).trans hnd
            have hrs4 := (hA4.block _ (blk_lt hrs)).trans hrs
            have hown4 := own_below hown hA4
            have hB4 := hB.trans (hA4.mono hB.size)
            have hz4 : wr.heap.size ≤ (wr.alloc (.cells #[.int .i64 (sr : Int), .int .i64 (sf : Int), .int .i64 (ss : Int), .int .i64 (sv : Int), .int .i64 (l1 : Int), .int .i64 (l2 : Int)] 91)).heap.size := hA4.size
            generalize (wr.alloc (.cells #[.int .i64 (sr : Int), .int .i64 (sf : Int), .int .i64 (ss : Int), .int .i64 (sv : Int), .int .i64 (l1 : Int), .int .i64 (l2 : Int)] 91)) = w4 at *
            refine (add_any (u1.heap.size + 2) u1.heap.size 0 sh (.slice aV sh.length cV) ⟨sr, sf, ss, sv, (l1, l2)⟩ #[.int .i64 (kind : Int), .slice aV sh.length cV] 51 _ hsh4 rfl (by decide) hown4 (by omega) (by omega)).mono ?_
            rintro e w5 ⟨v5, rfl, ho5, hf5, hn5, hm5⟩
            have hT : ∀ k, k < u1.heap.size + 2 → k ≠ u1.heap.size → ¬ (k = u1.heap.size ∨ (Value.slice aV sh.length cV).ownBlock = some k) := fun k hk hne h => by
              rcases h with h | h
              · exact hne h
              · have := own_ge hown4 h; omega
            have hnu5 := (hn5.block (u1.heap.size + 1) (blk_lt hnu4) (hT _ (by omega) (by omega))).trans hnu4
            have hnd5 := (hn5.block gN (blk_lt hnd4) (hT _ (by omega) (by omega))).trans hnd4
            have hrs5 := (hn5.block w.heap.size (blk_lt hrs4) (hT _ (by omega) (by omega))).trans hrs4
            have hB5 := hn5.under hB4 (Nat.le_refl _) (fun k hk => by
              rcases hk with h | h
              · omega
              · have := own_ge hown4 h; omega)
            have hnuS : (w5.setCell ⟨u1.heap.size + 1, k + 1, none⟩ (.int .i64 ((sh.length : Int) + 1))).heap[u1.heap.size + 1]? = some (.cells (ints (nums.set (k + 1) (sh.length + 1))).toArray 3 (0, 0)) := by
              have h := blk_set hnu5 (k + 1) (.int .i64 ((sh.length + 1 : Nat) : Int))
              rw [ints_set] at h
              exact h
            have cn5 : w5.cell? ⟨u1.heap.size + 1, k + 1, none⟩ = some (.int .i64 (nums.getD (k + 1) 0 : Int)) := by rw [blk_cell hnu5]; exact ints_at' _ _ (by rw [unhide HNN]; exact hk1)
            have zn5 := blk_free hnu5 (k + 1)
            have ln5 := blk_lt hnu5
            have hne5 : v5.ownBlock ≠ some (u1.heap.size + 1) := fun e => by have := own_ge ho5 e; omega
            go_wp2_with fail
            go_roundg (gk - 1)
            case measure => omega
            case rel => exact ⟨k + 1, sh ++ [⟨sr, sf, ss, sv, (l1, l2)⟩], nums.set (k + 1) (sh.length + 1), v5, by go_num, by omega, by rw [show gk - 1 = m by omega]; exact unhide HN, by rw [List.length_append]; simp; omega, by rw [List.length_set]; exact unhide HNN, hB5.setCell (p := ⟨u1.heap.size + 1, k + 1, none⟩) (by show w.heap.size ≤ u1.heap.size + 1; omega) _, blk_other hrs5 (by omega) _ _, blk_other hnd5 (by omega) _ _, blk_other hf5 (by omega) _ _, hnuS, by rw [List.length_append]; exact own_set_ne ho5 (p := ⟨u1.heap.size + 1, k + 1, none⟩) hne5 _⟩
          · skip
            have g1 : ((sr : Int) == 1) = false := by rw [beq_eq_false_iff_ne]; omega
            have g1n : (sr == 1) = false := by rw [beq_eq_false_iff_ne]; omega
            have g1m : ((sr : Int) != 1) = true := by rw [bne, g1]; rfl
            have g1p : (sr != 1) = true := by rw [bne, g1n]; rfl
            have g1d : decide ((sr : Int) = 1) = false := decide_eq_false (by omega)
            have g1e : decide (sr = 1) = false := decide_eq_false (by omega)
            have g2' : decide ((sf : Int) ≤ (k : Int)) = false := decide_eq_false (by omega)
            have g2n : decide (sf ≤ k) = false := decide_eq_false (by omega)
            have g3 : decide ((ss : Int) ≤ (k : Int)) = false := decide_eq_false (by omega)
            have g3n : decide (ss ≤ k) = false := decide_eq_false (by omega)
            have HRN : Hid (renum nums k ⟨sr, sf, ss, sv, (l1, l2)⟩ = ⟨sr, sf, ss, sv, (l1, l2)⟩) := hide (by unfold renum; dsimp only; rw [if_neg (by omega), if_neg hs])
            rw [unhide HRN] at HN
            clear hf hs HRN
            have hA4 : Below wr.heap.size wr (wr.alloc (.cells #[.int .i64 (sr : Int), .int .i64 (sf : Int), .int .i64 (ss : Int), .int .i64 (sv : Int), .int .i64 (l1 : Int), .int .i64 (l2 : Int)] 91)) := (Below.refl _ _).alloc (Nat.le_refl _) _
            go_wp2_with fail
            have hsh4 := (hA4.block _ lsh).trans hsh
            have hnu4 := (hA4.block _ lnu).trans hnu
            have hnd4 := (hA4.block _ lnd).trans hnd
            have hrs4 := (hA4.block _ (blk_lt hrs)).trans hrs
            have hown4 := own_below hown hA4
            have hB4 := hB.trans (hA4.mono hB.size)
            have hz4 : wr.heap.size ≤ (wr.alloc (.cells #[.int .i64 (sr : Int), .int .i64 (sf : Int), .int .i64 (ss : Int), .int .i64 (sv : Int), .int .i64 (l1 : Int), .int .i64 (l2 : Int)] 91)).heap.size := hA4.size
            generalize (wr.alloc (.cells #[.int .i64 (sr : Int), .int .i64 (sf : Int), .int .i64 (ss : Int), .int .i64 (sv : Int), .int .i64 (l1 : Int), .int .i64 (l2 : Int)] 91)) = w4 at *
            refine (add_any (u1.heap.size + 2) u1.heap.size 0 sh (.slice aV sh.length cV) ⟨sr, sf, ss, sv, (l1, l2)⟩ #[.int .i64 (kind : Int), .slice aV sh.length cV] 51 _ hsh4 rfl (by decide) hown4 (by omega) (by omega)).mono ?_
            rintro e w5 ⟨v5, rfl, ho5, hf5, hn5, hm5⟩
            have hT : ∀ k, k < u1.heap.size + 2 → k ≠ u1.heap.size → ¬ (k = u1.heap.size ∨ (Value.slice aV sh.length cV).ownBlock = some k) := fun k hk hne h => by
              rcases h with h | h
              · exact hne h
              · have := own_ge hown4 h; omega
            have hnu5 := (hn5.block (u1.heap.size + 1) (blk_lt hnu4) (hT _ (by omega) (by omega))).trans hnu4
            have hnd5 := (hn5.block gN (blk_lt hnd4) (hT _ (by omega) (by omega))).trans hnd4
            have hrs5 := (hn5.block w.heap.size (blk_lt hrs4) (hT _ (by omega) (by omega))).trans hrs4
            have hB5 := hn5.under hB4 (Nat.le_refl _) (fun k hk => by
              rcases hk with h | h
              · omega
              · have := own_ge hown4 h; omega)
            have hnuS : (w5.setCell ⟨u1.heap.size + 1, k + 1, none⟩ (.int .i64 ((sh.length : Int) + 1))).heap[u1.heap.size + 1]? = some (.cells (ints (nums.set (k + 1) (sh.length + 1))).toArray 3 (0, 0)) := by
              have h := blk_set hnu5 (k + 1) (.int .i64 ((sh.length + 1 : Nat) : Int))
              rw [ints_set] at h
              exact h
            have cn5 : w5.cell? ⟨u1.heap.size + 1, k + 1, none⟩ = some (.int .i64 (nums.getD (k + 1) 0 : Int)) := by rw [blk_cell hnu5]; exact ints_at' _ _ (by rw [unhide HNN]; exact hk1)
            have zn5 := blk_free hnu5 (k + 1)
            have ln5 := blk_lt hnu5
            have hne5 : v5.ownBlock ≠ some (u1.heap.size + 1) := fun e => by have := own_ge ho5 e; omega
            go_wp2_with fail
            go_roundg (gk - 1)
            case measure => omega
            case rel => exact ⟨k + 1, sh ++ [⟨sr, sf, ss, sv, (l1, l2)⟩], nums.set (k + 1) (sh.length + 1), v5, by go_num, by omega, by rw [show gk - 1 = m by omega]; exact unhide HN, by rw [List.length_append]; simp; omega, by rw [List.length_set]; exact unhide HNN, hB5.setCell (p := ⟨u1.heap.size + 1, k + 1, none⟩) (by show w.heap.size ≤ u1.heap.size + 1; omega) _, blk_other hrs5 (by omega) _ _, blk_other hnd5 (by omega) _ _, blk_other hf5 (by omega) _ _, hnuS, by rw [List.length_append]; exact own_set_ne ho5 (p := ⟨u1.heap.size + 1, k + 1, none⟩) hne5 _⟩
    · have hd3 : decide ((k : Int) < (p.length : Int)) = false := decide_eq_false (by omega)
      have hd4 : decide (k < p.length) = false := decide_eq_false hlt
      have hg0 : gk = 0 := by omega
      have HF : Hid (shortOf p last = sh) := hide (by rw [unhide HSH, hg0]; rfl)
      have cq0 : wr.cell? ⟨u1.heap.size, 0, none⟩ = some (.int .i64 (kind : Int)) := by rw [blk_cell hsh]; rfl
      have cq1 : wr.cell? ⟨u1.heap.size, 1, none⟩ = some (.slice aV sh.length cV) := by rw [blk_cell hsh]; rfl
      have cr0 : wr.cell? ⟨w.heap.size, 0, none⟩ = some (.int .i64 0) := by rw [blk_cell hrs]; rfl
      have cr1 : wr.cell? ⟨w.heap.size, 1, none⟩ = some (.slice none 0 0) := by rw [blk_cell hrs]; rfl
      have z0 := blk_free hrs 0
      have z1 := blk_free hrs 1
      have lrs := blk_lt hrs
      have hR := blk_set (blk_set hrs 0 (.int .i64 (kind : Int))) 1 (.slice aV sh.length cV)
      have j0 := blk_cell hR 0
      have j1 := blk_cell hR 1
      clear hg0
      go_wp2_with fail
      refine bodyPost_ret (v := .agg #[.int .i64 (kind : Int), .slice aV sh.length cV]) (by simp [results, Tryz.results31, go_sem, j0, j1]) rfl ⟨_, rfl, ?_, (hB.setCell (p := ⟨w.heap.size, 0, none⟩) (Nat.le_refl _) _).setCell (p := ⟨w.heap.size, 1, none⟩) (Nat.le_refl _) _⟩
      rw [unhide HF]
      have hne0 : ∀ k, (Value.slice aV sh.length cV).ownBlock = some k → k ≠ w.heap.size := fun k hk e => by have := own_ge hown hk; omega
      exact own_lo (own_set_ne (own_set_ne hown (p := ⟨w.heap.size, 0, none⟩) (fun e => hne0 _ e rfl) _) (p := ⟨w.heap.size, 1, none⟩) (fun e => hne0 _ e rfl) _) (by omega)
end Go.Proofs.YtgipjjhkhfihpabGreatDoor

namespace Go.Proofs.YtgipjjhkhfihpabGreatDoor
open Go.RowKit

/-! ### Solve -/
theorem look_all : ∀ m, LookSpec m := by
  intro m
  induction m with
  | zero => exact look_of_branch 0 branch_zero
  | succ m ih => exact look_of_branch (m + 1) (branch_succ m ih)
theorem uniTo_lt (vs : List (Nat × Bool)) (u : Nat × Nat) (h : u.1 < 512 ∧ u.2 < 512) : (uniTo vs u).1 < 512 ∧ (uniTo vs u).2 < 512 := by
  unfold uniTo
  induction vs generalizing u with
  | nil => exact h
  | cons v vs ih =>
    rw [List.foldl_cons]
    apply ih
    split
    · have h1 := withLit_lt u v.1 h.1 h.2
      exact withLit_lt _ _ h1.1 h1.2
    · exact h
theorem begin_cbd {q : QS} (hq : QGood q) {budget room : Nat} (hb : budget ≤ 1048576) (hr : room ≤ 64) : CBd (beginC q budget room) := ⟨hq, uni_ok hq, uniTo_lt _ _ ⟨by decide, by decide⟩, hb, hr⟩
theorem begin_in {q : QS} (hq : QGood q) (budget room : Nat) : LookIn (beginC q budget room) q.vars.length 0 (0, 0) (beginS q) := by
  have h1 := hq.qb.vl
  have h2 := hq.qb.cl
  refine ⟨⟨begin_inv hq budget room, ?_, Nat.zero_le _⟩, path_zero _, Nat.zero_add _, ?_⟩
  · show (axioms q.cl).length + 0 ≤ 100 + 12 * 0
    rw [axioms_len]; omega
  · have h3 : 2 ^ (q.vars.length + 1) ≤ 2 ^ 9 := Nat.pow_le_pow_right (by decide) (by omega)
    have h4 : (2 : Nat) ^ 9 = 512 := by decide
    show 0 + 2 ^ (q.vars.length + 1) ≤ 2001
    omega
/-- The proof that goes with an answer. -/
def solvedP (r : SS × (Nat × Nat)) : Nat × List Stp := if r.2.1 = 1 then (1, shortOf r.1.ref r.2.2) else if r.2.1 = 2 then (2, shortOf r.1.aff r.2.2) else (0, [])
theorem look_kind {C : SC} {m : Nat} {path : Nat × Nat} {S : SS} {r : SS × (Nat × Nat)} (h : LookOk C m path S r) : r.2.1 = 0 ∨ r.2.1 = 1 ∨ r.2.1 = 2 := by
  by_cases h0 : r.2.1 = 0
  · exact Or.inl h0
  · exact Or.inr (h.fact h0).inn.kind
def SolvePost (r : SS × (Nat × Nat)) (w : World) (e : Ending) (w' : World) : Prop := ∃ v, e = .returned (.agg #[.int .i64 (r.2.1 : Int), .int .i64 (r.1.nodes : Int), .int .i64 (r.1.most : Int), .int .i64 ((solvedP r).1 : Int), v]) ∧ w'.ownsRow w.heap.size 91 6 v (solvedP r).2.length (psCells (solvedP r).2) ∧ Below w.heap.size w w'
set_option maxRecDepth 100000 in
set_option maxHeartbeats 6400000 in
theorem ssolve_any (q : QS) (aV aC : Option Addr) (cV cC budget room : Nat) (w : World) (hoV : w.ownsRow 0 109 2 (.slice aV q.vars.length cV) q.vars.length (varCells q.vars)) (hoC : w.ownsRow 0 77 2 (.slice aC q.cl.length cC) q.cl.length (pairs q.cl)) (hq : QGood q) (hbu : budget ≤ 1048576) (hro : room ≤ 64) :
    Calls Tryz.prog 14 #[.agg #[.slice aV q.vars.length cV, .slice aC q.cl.length cC], .int .i64 (budget : Int), .int .i64 (room : Int)] w fun e w' => SolvePost (solveM q budget room) w e w' := by
  have hvl := hq.qb.vl
  have hcl := hq.qb.cl
  have hcb := begin_cbd hq hbu hro
  have hin := begin_in hq budget room
  have hlk := hin.lk hcb
  have hlo := hin.out hcb
  have HSM : Hid (solveM q budget room = lookM (beginC q budget room) q.vars.length (0, 0) 0 (beginS q)) := hide rfl
  go_enter Tryz.func14, Tryz.ntmps14
  go_wp2_with fail
  generalize hw0 : ((w.alloc (.cells #[.slice aV q.vars.length cV, .slice aC q.cl.length cC] 44)).alloc (.cells #[.int .i64 0, .int .i64 0, .int .i64 0, .int .i64 0, .slice none 0 0] 53)) = u1
  have hB : Below w.heap.size w u1 := by rw [← hw0]; exact ((Below.refl _ _).alloc (Nat.le_refl _) _).alloc (by simp; try omega) _
  have hfo : u1.heap[w.heap.size]? = some (.cells #[.slice aV q.vars.length cV, .slice aC q.cl.length cC] 44 (0, 0)) := by rw [← hw0, heap_alloc_old _ _ (by simp; try omega)]; exact alloc_new_at (by simp)
  have hrs : u1.heap[w.heap.size + 1]? = some (.cells #[.int .i64 0, .int .i64 0, .int .i64 0, .int .i64 0, .slice none 0 0] 53 (0, 0)) := by rw [← hw0]; exact alloc_new_at (by simp)
  clear hw0
  have cfo0 : u1.cell? ⟨w.heap.size, 0, none⟩ = some (.slice aV q.vars.length cV) := by rw [blk_cell hfo]; rfl
  have cfo1 : u1.cell? ⟨w.heap.size, 1, none⟩ = some (.slice aC q.cl.length cC) := by rw [blk_cell hfo]; rfl
  have lfo := blk_lt hfo
  have crs0 : u1.cell? ⟨w.heap.size + 1, 0, none⟩ = some (.int .i64 0) := by rw [blk_cell hrs]; rfl
  have crs1 : u1.cell? ⟨w.heap.size + 1, 1, none⟩ = some (.int .i64 0) := by rw [blk_cell hrs]; rfl
  have crs2 : u1.cell? ⟨w.heap.size + 1, 2, none⟩ = some (.int .i64 0) := by rw [blk_cell hrs]; rfl
  have crs3 : u1.cell? ⟨w.heap.size + 1, 3, none⟩ = some (.int .i64 0) := by rw [blk_cell hrs]; rfl
  have crs4 : u1.cell? ⟨w.heap.size + 1, 4, none⟩ = some (.slice none 0 0) := by rw [blk_cell hrs]; rfl
  have lrs := blk_lt hrs
  have hoV1 := own_below hoV hB
  have hoC1 := own_below hoC hB
  refine (begin_any q aV aC cV cC budget room _ hoV1 hoC1 hq.qb hbu hro).mono ?_
  rintro e u2 ⟨b0, V, rfl, hS0, hVv, hVc, hfr, hfa, hfk, b2⟩
  replace hB := hB.trans (b2.mono hB.size)
  replace hrs := (b2.block _ (blk_lt hrs)).trans hrs
  have hrl : w.heap.size + 1 < u1.heap.size := lrs
  clear hfo cfo0 cfo1 lfo crs0 crs1 crs2 crs3 crs4 lrs
  obtain ⟨aR, cR, hVR⟩ := own_form hS0.oR
  obtain ⟨aA, cA, hVA⟩ := own_form hS0.oA
  obtain ⟨aK, cK, hVK⟩ := hS0.oK.form
  have HCS : Hid (sCells (beginC q budget room) (beginS q) V = #[.slice aV q.vars.length cV, .slice aC q.cl.length cC, .int .i64 ((beginC q budget room).uni.1 : Int), .int .i64 ((beginC q budget room).uni.2 : Int), .int .i64 (budget : Int), .int .i64 0, .int .i64 1, .slice aR (beginS q).ref.length cR, .int .i64 2, .slice aA (beginS q).aff.length cA, .int .i64 (room : Int), .slice aK (beginS q).kept.length cK, .int .i64 0]) := hide (by simp only [sCells, hVv, hVc, hVR, hVA, hVK]; rfl)
  rw [unhide HCS]
  obtain ⟨C, hCe⟩ : ∃ X, X = beginC q budget room := ⟨_, rfl⟩
  obtain ⟨S, hSe⟩ : ∃ X, X = beginS q := ⟨_, rfl⟩
  have hCq : C.q = q := by rw [hCe]; rfl
  rw [← hCe] at hcb hin hlk hlo HSM hS0 HCS ⊢
  rw [← hSe] at hin hlk hlo HSM hS0 HCS ⊢
  clear hCe hSe
  obtain ⟨⟨n1, n2⟩, hne⟩ : ∃ X, X = C.uni := ⟨_, rfl⟩
  rw [← hne] at HCS ⊢
  clear hne
  dsimp only at HCS ⊢
  generalize hLR : S.ref.length = lr at *
  generalize hLA : S.aff.length = la at *
  generalize hLK : S.kept.length = lk at *
  go_wp2_with fail
  have hA3 : Below u2.heap.size u2 (u2.alloc (.cells #[.slice aV q.vars.length cV, .slice aC q.cl.length cC, .int .i64 (n1 : Int), .int .i64 (n2 : Int), .int .i64 (budget : Int), .int .i64 0, .int .i64 1, .slice aR lr cR, .int .i64 2, .slice aA la cA, .int .i64 (room : Int), .slice aK lk cK, .int .i64 0] 82)) := (Below.refl _ _).alloc (Nat.le_refl _) _
  have hSb : (u2.alloc (.cells #[.slice aV q.vars.length cV, .slice aC q.cl.length cC, .int .i64 (n1 : Int), .int .i64 (n2 : Int), .int .i64 (budget : Int), .int .i64 0, .int .i64 1, .slice aR lr cR, .int .i64 2, .slice aA la cA, .int .i64 (room : Int), .slice aK lk cK, .int .i64 0] 82)).heap[u2.heap.size]? = some (.cells (sCells C S V) 82 (0, 0)) := by rw [unhide HCS]; exact heap_alloc_new _ _
  have hS9 := hS0.later hA3
  have hS : SAt (u2.alloc (.cells #[.slice aV q.vars.length cV, .slice aC q.cl.length cC, .int .i64 (n1 : Int), .int .i64 (n2 : Int), .int .i64 (budget : Int), .int .i64 0, .int .i64 1, .slice aR lr cR, .int .i64 2, .slice aA la cA, .int .i64 (room : Int), .slice aK lk cK, .int .i64 0] 82)) u2.heap.size C S V := ⟨hSb, hS9.oV, hS9.oC, hS9.oR, hS9.oA, hS9.oK, hS9.ap⟩
  have hl2 : w.heap.size + 1 < u2.heap.size := blk_lt hrs
  replace hrs := (hA3.block _ hl2).trans hrs
  replace hB := hB.trans (hA3.mono hB.size)
  have nrs : Far u2.heap.size V (w.heap.size + 1) := ⟨by omega, fun e => (by rw [hVv] at e; have := (hoV.lt _ e).2; omega), fun e => (by rw [hVc] at e; have := (hoC.lt _ e).2; omega), fun e => (by have := hfr _ e; omega), fun e => (by have := hfa _ e; omega), fun e => (by have := hfk _ e; omega)⟩
  have HFR : Hid ((∀ k, V.r.ownBlock = some k → w.heap.size ≤ k) ∧ (∀ k, V.a.ownBlock = some k → w.heap.size ≤ k) ∧ (∀ k, V.k.ownBlock = some k → w.heap.size ≤ k)) := hide ⟨fun k hk => (by have := hfr _ hk; omega), fun k hk => (by have := hfa _ hk; omega), fun k hk => (by have := hfk _ hk; omega)⟩
  clear hSb hS9 hS0 HCS hfr hfa hfk hVR hVA hVK
  generalize (u2.alloc (.cells #[.slice aV q.vars.length cV, .slice aC q.cl.length cC, .int .i64 (n1 : Int), .int .i64 (n2 : Int), .int .i64 (budget : Int), .int .i64 0, .int .i64 1, .slice aR lr cR, .int .i64 2, .slice aA la cA, .int .i64 (room : Int), .slice aK lk cK, .int .i64 0] 82)) = u3 at *
  clear hA3
  refine (look_all q.vars.length u2.heap.size C S V (0, 0) 0 _ hcb hin hS).mono ?_
  rintro e u4 ⟨rfl, V2, hS2, hM2⟩
  have lrs := blk_lt hrs
  replace hrs := hM2.blk hrs nrs
  replace nrs := hM2.far lrs nrs
  have hB4 := hM2.only.under hB (Nat.le_refl _) (fun k hk => by
    rcases hk with hk | hk | hk | hk
    · omega
    · exact (unhide HFR).1 k hk
    · exact (unhide HFR).2.1 k hk
    · exact (unhide HFR).2.2 k hk)
  replace hB := hB4
  replace hS := hS2
  clear hB4 hS2 hM2 lrs HFR
  generalize lookM C q.vars.length (0, 0) 0 S = R at *
  obtain ⟨S4, f1, f2⟩ := R
  have hki := look_kind hlk
  have hpl1 := hlo.plen 1
  have hpl2 := hlo.plen 2
  dsimp only at hS hlo hki hpl1 hpl2 ⊢
  have HSX : Hid (solveM q budget room = (S4, f1, f2)) := HSM
  have cb5 : u4.cell? ⟨u2.heap.size, 5, none⟩ = some (.int .i64 (S4.nodes : Int)) := by rw [blk_cell hS.fb]; rfl
  have cb12 : u4.cell? ⟨u2.heap.size, 12, none⟩ = some (.int .i64 (S4.most : Int)) := by rw [blk_cell hS.fb]; rfl
  have lb := blk_lt hS.fb
  rcases hki with hki | hki | hki
  · have hd1 : ((f1 : Int) == 1) = false := by rw [beq_eq_false_iff_ne]; omega
    have hn1 : (f1 == 1) = false := by rw [beq_eq_false_iff_ne]; omega
    have hd2 : ((f1 : Int) == 2) = false := by rw [beq_eq_false_iff_ne]; omega
    have hn2 : (f1 == 2) = false := by rw [beq_eq_false_iff_ne]; omega
    have HSP : Hid (solvedP (S4, f1, f2) = (0, [])) := hide (by unfold solvedP; rw [if_neg (show ¬ f1 = 1 by omega), if_neg (show ¬ f1 = 2 by omega)])
    clear hki
    have hA5 : Below u4.heap.size u4 ((u4.alloc (.cells #[.int .i64 (f1 : Int), .int .i64 (f2 : Int)] 85)).alloc (.cells #[.int .i64 (f1 : Int), .int .i64 (S4.nodes : Int), .int .i64 (S4.most : Int), .int .i64 0, .slice none 0 0] 53)) := ((Below.refl _ _).alloc (Nat.le_refl _) _).alloc (by simp) _
    have hrs5 := (hA5.block _ (blk_lt hrs)).trans hrs
    have hB5 := hB.trans (hA5.mono hB.size)
    go_wp2_with (refine wpList_store_row rfl 53 _ _ rfl (w.heap.size + 1) _ rfl rfl 53 _ hrs5 (by kernel_rfl) rfl (by simp [Value.oneCell']) ?_)
    refine bodyPost_ret (v := .agg #[.int .i64 (f1 : Int), .int .i64 (S4.nodes : Int), .int .i64 (S4.most : Int), .int .i64 0, .slice none 0 0]) (results_cell_row rfl _ _ (w.heap.size + 1) 53 _ (0, 0) _ rfl (setRow_heap _ _ _ _ _ _ hrs5) Tryz.underlying53 rfl (by kernel_rfl)) rfl ?_
    rw [unhide HSX]
    refine ⟨.slice none 0 0, by rw [unhide HSP]; rfl, by rw [unhide HSP]; exact World.ownsRow_nil _ _ _ _, below_setRow hB5 (Nat.le_succ _) _⟩
  · have hd1 : ((f1 : Int) == 1) = true := by rw [beq_iff_eq]; omega
    have hn1 : (f1 == 1) = true := by rw [beq_iff_eq]; exact hki
    have hd2 : ((f1 : Int) == 2) = false := by rw [beq_eq_false_iff_ne]; omega
    have hn2 : (f1 == 2) = false := by rw [beq_eq_false_iff_ne]; omega
    have HSP : Hid (solvedP (S4, f1, f2) = (1, shortOf S4.ref f2)) := hide (by unfold solvedP; rw [if_pos (show f1 = 1 from hki)])
    clear hki
    have hA5 : Below u4.heap.size u4 ((u4.alloc (.cells #[.int .i64 (f1 : Int), .int .i64 (f2 : Int)] 85)).alloc (.cells #[.int .i64 (f1 : Int), .int .i64 (S4.nodes : Int), .int .i64 (S4.most : Int), .int .i64 0, .slice none 0 0] 53)) := ((Below.refl _ _).alloc (Nat.le_refl _) _).alloc (by simp) _
    have hrs5 := (hA5.block _ (blk_lt hrs)).trans hrs
    have hB5 := hB.trans (hA5.mono hB.size)
    have hfd : ((u4.alloc (.cells #[.int .i64 (f1 : Int), .int .i64 (f2 : Int)] 85)).alloc (.cells #[.int .i64 (f1 : Int), .int .i64 (S4.nodes : Int), .int .i64 (S4.most : Int), .int .i64 0, .slice none 0 0] 53)).heap[u4.heap.size]? = some (.cells #[.int .i64 (f1 : Int), .int .i64 (f2 : Int)] 85 (0, 0)) := by rw [heap_alloc_old _ _ (by simp)]; exact alloc_new_at (by simp)
    have han : ((u4.alloc (.cells #[.int .i64 (f1 : Int), .int .i64 (f2 : Int)] 85)).alloc (.cells #[.int .i64 (f1 : Int), .int .i64 (S4.nodes : Int), .int .i64 (S4.most : Int), .int .i64 0, .slice none 0 0] 53)).heap[u4.heap.size + 1]? = some (.cells #[.int .i64 (f1 : Int), .int .i64 (S4.nodes : Int), .int .i64 (S4.most : Int), .int .i64 0, .slice none 0 0] 53 (0, 0)) := alloc_new_at (by simp)
    have hS5 := hS.later hA5
    go_wp2_with fail
    have hz45 : u4.heap.size + 2 = ((u4.alloc (.cells #[.int .i64 (f1 : Int), .int .i64 (f2 : Int)] 85)).alloc (.cells #[.int .i64 (f1 : Int), .int .i64 (S4.nodes : Int), .int .i64 (S4.most : Int), .int .i64 0, .slice none 0 0] 53)).heap.size := by simp
    generalize ((u4.alloc (.cells #[.int .i64 (f1 : Int), .int .i64 (f2 : Int)] 85)).alloc (.cells #[.int .i64 (f1 : Int), .int .i64 (S4.nodes : Int), .int .i64 (S4.most : Int), .int .i64 0, .slice none 0 0] 53)) = u5 at *
    refine (short_any u2.heap.size 6 (sCells C S4 V2) 82 S4.ref V2.r 1 f2 _ (hS5.pat (Or.inl rfl)) (by have := hpl1; exact Nat.le_trans this (by decide))).mono ?_
    rintro e u6 ⟨v6, rfl, ho6, b6⟩
    replace hrs5 := (b6.block _ (blk_lt hrs5)).trans hrs5
    replace han := (b6.block _ (blk_lt han)).trans han
    replace hB5 := hB5.trans (b6.mono hB5.size)
    obtain ⟨a6, c6, rfl⟩ := own_form ho6
    generalize hSL : shortOf S4.ref f2 = sl at *
    have z3 := blk_free han 3
    have z4 := blk_free han 4
    have q3 : u6.cell? ⟨u4.heap.size + 1, 3, none⟩ = some (.int .i64 0) := by rw [blk_cell han]; rfl
    have q4 : u6.cell? ⟨u4.heap.size + 1, 4, none⟩ = some (.slice none 0 0) := by rw [blk_cell han]; rfl
    have lan := blk_lt han
    have hanS : ((u6.setCell ⟨u4.heap.size + 1, 3, none⟩ (.int .i64 1)).setCell ⟨u4.heap.size + 1, 4, none⟩ (.slice a6 sl.length c6)).heap[u4.heap.size + 1]? = some (.cells #[.int .i64 (f1 : Int), .int .i64 (S4.nodes : Int), .int .i64 (S4.most : Int), .int .i64 1, .slice a6 sl.length c6] 53 (0, 0)) := blk_set (blk_set han 3 (.int .i64 1)) 4 (.slice a6 sl.length c6)
    have hl4 : w.heap.size + 1 < u4.heap.size := blk_lt hrs
    have hrsS := blk_other (blk_other hrs5 (c := u4.heap.size + 1) (by omega) 3 (.int .i64 1)) (c := u4.heap.size + 1) (by omega) 4 (.slice a6 sl.length c6)
    have hne : (Value.slice a6 sl.length c6).ownBlock ≠ some (u4.heap.size + 1) := fun e => (by have := own_ge ho6 e; omega)
    have hne2 : (Value.slice a6 sl.length c6).ownBlock ≠ some (w.heap.size + 1) := fun e => (by have := own_ge ho6 e; omega)
    have hoS := own_set_ne (own_set_ne ho6 (p := ⟨u4.heap.size + 1, 3, none⟩) hne (.int .i64 1)) (p := ⟨u4.heap.size + 1, 4, none⟩) hne (.slice a6 sl.length c6)
    have hBS := (hB5.setCell (p := ⟨u4.heap.size + 1, 3, none⟩) (show w.heap.size ≤ u4.heap.size + 1 by omega) (.int .i64 1)).setCell (p := ⟨u4.heap.size + 1, 4, none⟩) (show w.heap.size ≤ u4.heap.size + 1 by omega) (.slice a6 sl.length c6)
    go_wp2_with (first | (refine wpList_load_row rfl 53 _ rfl (u4.heap.size + 1) rfl 53 _ (0, 0) _ hanS Tryz.underlying53 rfl (by kernel_rfl) ?_) | (refine wpList_store_row rfl 53 _ _ rfl (w.heap.size + 1) _ rfl rfl 53 _ hrsS (by kernel_rfl) rfl (by simp [Value.oneCell']) ?_))
    refine bodyPost_ret (v := .agg #[.int .i64 (f1 : Int), .int .i64 (S4.nodes : Int), .int .i64 (S4.most : Int), .int .i64 1, .slice a6 sl.length c6]) (results_cell_row rfl _ _ (w.heap.size + 1) 53 _ (0, 0) _ rfl (setRow_heap _ _ _ _ _ _ hrsS) Tryz.underlying53 rfl (by kernel_rfl)) rfl ?_
    rw [unhide HSX]
    refine ⟨.slice a6 sl.length c6, by rw [unhide HSP]; rfl, ?_, below_setRow hBS (Nat.le_succ _) _⟩
    rw [unhide HSP]
    exact own_lo (own_keep hoS (only_setRow _ (w.heap.size + 1) _) (fun k hk e => hne2 (by rw [hk, e]))) (by omega)
  · have hd1 : ((f1 : Int) == 1) = false := by rw [beq_eq_false_iff_ne]; omega
    have hn1 : (f1 == 1) = false := by rw [beq_eq_false_iff_ne]; omega
    have hd2 : ((f1 : Int) == 2) = true := by rw [beq_iff_eq]; omega
    have hn2 : (f1 == 2) = true := by rw [beq_iff_eq]; exact hki
    have HSP : Hid (solvedP (S4, f1, f2) = (2, shortOf S4.aff f2)) := hide (by unfold solvedP; rw [if_neg (show ¬ f1 = 1 by omega), if_pos (show f1 = 2 from hki)])
    clear hki
    have hA5 : Below u4.heap.size u4 ((u4.alloc (.cells #[.int .i64 (f1 : Int), .int .i64 (f2 : Int)] 85)).alloc (.cells #[.int .i64 (f1 : Int), .int .i64 (S4.nodes : Int), .int .i64 (S4.most : Int), .int .i64 0, .slice none 0 0] 53)) := ((Below.refl _ _).alloc (Nat.le_refl _) _).alloc (by simp) _
    have hrs5 := (hA5.block _ (blk_lt hrs)).trans hrs
    have hB5 := hB.trans (hA5.mono hB.size)
    have hfd : ((u4.alloc (.cells #[.int .i64 (f1 : Int), .int .i64 (f2 : Int)] 85)).alloc (.cells #[.int .i64 (f1 : Int), .int .i64 (S4.nodes : Int), .int .i64 (S4.most : Int), .int .i64 0, .slice none 0 0] 53)).heap[u4.heap.size]? = some (.cells #[.int .i64 (f1 : Int), .int .i64 (f2 : Int)] 85 (0, 0)) := by rw [heap_alloc_old _ _ (by simp)]; exact alloc_new_at (by simp)
    have han : ((u4.alloc (.cells #[.int .i64 (f1 : Int), .int .i64 (f2 : Int)] 85)).alloc (.cells #[.int .i64 (f1 : Int), .int .i64 (S4.nodes : Int), .int .i64 (S4.most : Int), .int .i64 0, .slice none 0 0] 53)).heap[u4.heap.size + 1]? = some (.cells #[.int .i64 (f1 : Int), .int .i64 (S4.nodes : Int), .int .i64 (S4.most : Int), .int .i64 0, .slice none 0 0] 53 (0, 0)) := alloc_new_at (by simp)
    have hS5 := hS.later hA5
    go_wp2_with fail
    have hz45 : u4.heap.size + 2 = ((u4.alloc (.cells #[.int .i64 (f1 : Int), .int .i64 (f2 : Int)] 85)).alloc (.cells #[.int .i64 (f1 : Int), .int .i64 (S4.nodes : Int), .int .i64 (S4.most : Int), .int .i64 0, .slice none 0 0] 53)).heap.size := by simp
    generalize ((u4.alloc (.cells #[.int .i64 (f1 : Int), .int .i64 (f2 : Int)] 85)).alloc (.cells #[.int .i64 (f1 : Int), .int .i64 (S4.nodes : Int), .int .i64 (S4.most : Int), .int .i64 0, .slice none 0 0] 53)) = u5 at *
    refine (short_any u2.heap.size 8 (sCells C S4 V2) 82 S4.aff V2.a 2 f2 _ (hS5.pat (Or.inr rfl)) (by have := hpl2; exact Nat.le_trans this (by decide))).mono ?_
    rintro e u6 ⟨v6, rfl, ho6, b6⟩
    replace hrs5 := (b6.block _ (blk_lt hrs5)).trans hrs5
    replace han := (b6.block _ (blk_lt han)).trans han
    replace hB5 := hB5.trans (b6.mono hB5.size)
    obtain ⟨a6, c6, rfl⟩ := own_form ho6
    generalize hSL : shortOf S4.aff f2 = sl at *
    have z3 := blk_free han 3
    have z4 := blk_free han 4
    have q3 : u6.cell? ⟨u4.heap.size + 1, 3, none⟩ = some (.int .i64 0) := by rw [blk_cell han]; rfl
    have q4 : u6.cell? ⟨u4.heap.size + 1, 4, none⟩ = some (.slice none 0 0) := by rw [blk_cell han]; rfl
    have lan := blk_lt han
    have hanS : ((u6.setCell ⟨u4.heap.size + 1, 3, none⟩ (.int .i64 2)).setCell ⟨u4.heap.size + 1, 4, none⟩ (.slice a6 sl.length c6)).heap[u4.heap.size + 1]? = some (.cells #[.int .i64 (f1 : Int), .int .i64 (S4.nodes : Int), .int .i64 (S4.most : Int), .int .i64 2, .slice a6 sl.length c6] 53 (0, 0)) := blk_set (blk_set han 3 (.int .i64 2)) 4 (.slice a6 sl.length c6)
    have hl4 : w.heap.size + 1 < u4.heap.size := blk_lt hrs
    have hrsS := blk_other (blk_other hrs5 (c := u4.heap.size + 1) (by omega) 3 (.int .i64 2)) (c := u4.heap.size + 1) (by omega) 4 (.slice a6 sl.length c6)
    have hne : (Value.slice a6 sl.length c6).ownBlock ≠ some (u4.heap.size + 1) := fun e => (by have := own_ge ho6 e; omega)
    have hne2 : (Value.slice a6 sl.length c6).ownBlock ≠ some (w.heap.size + 1) := fun e => (by have := own_ge ho6 e; omega)
    have hoS := own_set_ne (own_set_ne ho6 (p := ⟨u4.heap.size + 1, 3, none⟩) hne (.int .i64 2)) (p := ⟨u4.heap.size + 1, 4, none⟩) hne (.slice a6 sl.length c6)
    have hBS := (hB5.setCell (p := ⟨u4.heap.size + 1, 3, none⟩) (show w.heap.size ≤ u4.heap.size + 1 by omega) (.int .i64 2)).setCell (p := ⟨u4.heap.size + 1, 4, none⟩) (show w.heap.size ≤ u4.heap.size + 1 by omega) (.slice a6 sl.length c6)
    go_wp2_with (first | (refine wpList_load_row rfl 53 _ rfl (u4.heap.size + 1) rfl 53 _ (0, 0) _ hanS Tryz.underlying53 rfl (by kernel_rfl) ?_) | (refine wpList_store_row rfl 53 _ _ rfl (w.heap.size + 1) _ rfl rfl 53 _ hrsS (by kernel_rfl) rfl (by simp [Value.oneCell']) ?_))
    refine bodyPost_ret (v := .agg #[.int .i64 (f1 : Int), .int .i64 (S4.nodes : Int), .int .i64 (S4.most : Int), .int .i64 2, .slice a6 sl.length c6]) (results_cell_row rfl _ _ (w.heap.size + 1) 53 _ (0, 0) _ rfl (setRow_heap _ _ _ _ _ _ hrsS) Tryz.underlying53 rfl (by kernel_rfl)) rfl ?_
    rw [unhide HSX]
    refine ⟨.slice a6 sl.length c6, by rw [unhide HSP]; rfl, ?_, below_setRow hBS (Nat.le_succ _) _⟩
    rw [unhide HSP]
    exact own_lo (own_keep hoS (only_setRow _ (w.heap.size + 1) _) (fun k hk e => hne2 (by rw [hk, e]))) (by omega)
end Go.Proofs.YtgipjjhkhfihpabGreatDoor
