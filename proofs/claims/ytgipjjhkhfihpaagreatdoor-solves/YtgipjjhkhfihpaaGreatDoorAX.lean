import Derived.Test.YtgipjjhkhfihpaaGreatDoorAW
import Derived.Test.YtgipjjhkhfihpaaGreatDoorAT
import Derived.Test.YtgipjjhkhfihpaaGreatDoorAV
namespace Go.Proofs.YtgipjjhkhfihpaaGreatDoor
open Go.RowKit

/-! ### Needed -/
theorem ints_set (l : List Nat) (i : Nat) (b : Nat) : (ints l).toArray.setIfInBounds i (.int .i64 (b : Int)) = (ints (l.set i b)).toArray := by
  simp [ints]
theorem ints_at' (l : List Nat) (i : Nat) (h : i < l.length) : (ints l).toArray[i]? = some (.int .i64 (l.getD i 0 : Int)) := by
  simp [ints, List.getElem?_eq_getElem h]
theorem shortTo_yes (p : List Stp) (mk : List Bool) (m k : Nat) (sh : List Stp) (nums : List Nat) (hk : k + (m + 1) = p.length) (st : Stp) (hst : p[k]'(by omega) = st) (h : mk.getD (k + 1) false = true) : shortTo p mk (m + 1) sh nums = shortTo p mk m (sh ++ [renum nums k st]) (nums.set (k + 1) (sh.length + 1)) := by
  have e : p.length - (m + 1) = k := by omega
  have hg : p.getD k ⟨0, 0, 0, 0, (0, 0)⟩ = st := by rw [List.getD_eq_getElem?_getD, List.getElem?_eq_getElem (by omega)]; exact hst
  rw [shortTo]
  rw [e, h, if_pos rfl, hg]
theorem shortTo_no (p : List Stp) (mk : List Bool) (m k : Nat) (sh : List Stp) (nums : List Nat) (hk : k + (m + 1) = p.length) (h : mk.getD (k + 1) false = false) : shortTo p mk (m + 1) sh nums = shortTo p mk m sh nums := by
  have e : p.length - (m + 1) = k := by omega
  rw [shortTo]
  rw [e, h, if_neg (by decide)]
theorem needs_len (p : List Stp) (last : Nat) : (needs p last).length = p.length + 1 := by
  unfold needs
  suffices h : ∀ i m, (markTo p last i m).length = m.length by rw [h]; simp
  intro i
  induction i with
  | zero => intro m; rfl
  | succ i ih => intro m; rw [markTo, ih, markStep_len]
def ShortPost (p : List Stp) (kind last : Nat) (w : World) (e : Ending) (w' : World) : Prop := ∃ v, e = .returned (.agg #[.int .i64 (kind : Int), v]) ∧ w'.ownsRow w.heap.size 134 6 v (shortOf p last).length (psCells (shortOf p last)) ∧ Below w.heap.size w w'
set_option maxRecDepth 100000 in
set_option maxHeartbeats 3200000 in
theorem short_any (b o : Nat) (cells : Array Value) (t : TypeId) (p : List Stp) (vS : Value) (kind last : Nat) (w : World) (hP : PAt w b o cells t p vS kind) (hl : p.length ≤ 100000) :
    Calls Tryz.prog 63 #[.pointer (some ⟨b, o, none⟩), .int .i64 (last : Int)] w fun e w' => ShortPost p kind last w e w' := by
  obtain ⟨aS, cS, rfl⟩ := own_form hP.own
  have hbw := blk_lt hP.fb
  have hmk : ∀ w : World, (Instr.makeSlice 25 (.int .i64 ((p.length : Int) + 1)) (.int .i64 ((p.length : Int) + 1))).run Tryz.prog w = .ok (.slice (some ⟨w.heap.size, 0, none⟩) (p.length + 1) (p.length + 1)) (w.alloc (.cells (ints (List.replicate (p.length + 1) 0)).toArray 3)) := fun w => by
    obtain ⟨i1, hi1, hz10, hz11, hz12⟩ := info_parts Tryz.info3
    have h := run_makeSlice (P := Tryz.prog) w 25 3 i1 (.int .i64 0) Tryz.underlying25 hi1 hz10 .i64 .i64 ((p.length + 1 : Nat) : Int) ((p.length + 1 : Nat) : Int) (by omega) (by omega) (by rw [hz11]; simp; omega) (by rw [hz12]; omega) (by omega)
    rw [hz11, Int.toNat_natCast, Nat.mul_one] at h
    rw [show (Value.int .i64 0).cells = #[.int .i64 0] from rfl, made_one] at h
    have e2 : ints (List.replicate (p.length + 1) 0) = List.replicate (p.length + 1) (Value.int .i64 0) := by simp [ints]
    rw [e2]
    exact h
  go_enter Tryz.func63, Tryz.ntmps63
  go_wp2_with fail
  have hA : Below w.heap.size w (w.alloc (.cells #[.int .i64 0, .slice none 0 0] 67)) := (Below.refl _ _).alloc (Nat.le_refl _) _
  have hrs := heap_alloc_new w (.cells #[.int .i64 0, .slice none 0 0] 67)
  refine (needed_any b o cells t p _ kind last _ (hP.later hA) hl).mono ?_
  rintro e u1 ⟨gN, rfl, hgN, hnd, hb1⟩
  replace hrs := (hb1.block _ (blk_lt hrs)).trans hrs
  have hB1 : Below w.heap.size w u1 := hA.trans (hb1.mono hA.size)
  clear hA hb1
  have hP1 := hP.later hB1
  have ck1 : u1.cell? ⟨b, o, none⟩ = some (.int .i64 (kind : Int)) := by rw [blk_cell hP1.fb]; exact hP1.ck
  have cs1 : u1.cell? ⟨b, o + 1, none⟩ = some (.slice aS p.length cS) := by rw [blk_cell hP1.fb]; exact hP1.cs
  have lb1 := blk_lt hP1.fb
  have hA2 : Below u1.heap.size u1 (u1.alloc (.cells #[.int .i64 (kind : Int), .slice none 0 0] 67)) := (Below.refl _ _).alloc (Nat.le_refl _) _
  have cs2 : (u1.alloc (.cells #[.int .i64 (kind : Int), .slice none 0 0] 67)).cell? ⟨b, o + 1, none⟩ = some (.slice aS p.length cS) := by rw [hA2.cell (p := ⟨b, o + 1, none⟩) lb1]; exact cs1
  have hA3 := (Below.refl (u1.heap.size + 1) (u1.alloc (.cells #[.int .i64 (kind : Int), .slice none 0 0] 67))).alloc (by simp) (.cells (ints (List.replicate (p.length + 1) 0)).toArray 3)
  have cs3 : ((u1.alloc (.cells #[.int .i64 (kind : Int), .slice none 0 0] 67)).alloc (.cells (ints (List.replicate (p.length + 1) 0)).toArray 3)).cell? ⟨b, o + 1, none⟩ = some (.slice aS p.length cS) := by rw [hA3.cell (p := ⟨b, o + 1, none⟩) (show b < u1.heap.size + 1 by omega)]; exact cs2
  go_wp2_with fail
  -- LOOP
  have HNL := hide (needs_len p last)
  have hrs2 := (hA2.block _ (blk_lt hrs)).trans hrs
  have hnd2 := (hA2.block _ (blk_lt hnd)).trans hnd
  have hsh2 := heap_alloc_new u1 (.cells #[.int .i64 (kind : Int), .slice none 0 0] 67)
  have hB2 := hB1.trans (hA2.mono hB1.size)
  have l1' : w.heap.size < u1.heap.size := blk_lt hrs
  have l2' : gN < u1.heap.size := blk_lt hnd
  have hrs3 := (hA3.block w.heap.size (by omega)).trans hrs2
  have hnd3 := (hA3.block gN (by omega)).trans hnd2
  have hsh3 := (hA3.block u1.heap.size (by omega)).trans hsh2
  have hnu3 : ((u1.alloc (.cells #[.int .i64 (kind : Int), .slice none 0 0] 67)).alloc (.cells (ints (List.replicate (p.length + 1) 0)).toArray 3)).heap[u1.heap.size + 1]? = some (.cells (ints (List.replicate (p.length + 1) 0)).toArray 3 (0, 0)) := alloc_new_at (by simp)
  have hB3 : Below w.heap.size w ((u1.alloc (.cells #[.int .i64 (kind : Int), .slice none 0 0] 67)).alloc (.cells (ints (List.replicate (p.length + 1) 0)).toArray 3)) := hB2.trans (hA3.mono (by omega))
  have hsz3 : ((u1.alloc (.cells #[.int .i64 (kind : Int), .slice none 0 0] 67)).alloc (.cells (ints (List.replicate (p.length + 1) 0)).toArray 3)).heap.size = u1.heap.size + 2 := by simp
  generalize ((u1.alloc (.cells #[.int .i64 (kind : Int), .slice none 0 0] 67)).alloc (.cells (ints (List.replicate (p.length + 1) 0)).toArray 3)) = u3 at *
  clear hA2 hA3 hrs2 hnd2 hsh2 hB2 cs2 cs3 cs1 ck1
  go_loopg [30] (p.length) (fun m i wx => ∃ (k : Nat) (sh : List Stp) (nums : List Nat) (v : Value), i = .int .i64 k ∧ k + m = p.length ∧ shortOf p last = (shortTo p (needs p last) m sh nums).1 ∧ sh.length ≤ k ∧ nums.length = p.length + 1 ∧ Below w.heap.size w wx ∧ wx.heap[w.heap.size]? = some (.cells #[.int .i64 0, .slice none 0 0] 67 (0, 0)) ∧ wx.heap[gN]? = some (.cells (boolCells (needs p last)).toArray 4 (0, 0)) ∧ wx.heap[u1.heap.size]? = some (.cells #[.int .i64 (kind : Int), v] 67 (0, 0)) ∧ wx.heap[u1.heap.size + 1]? = some (.cells (ints nums).toArray 3 (0, 0)) ∧ wx.ownsRow (u1.heap.size + 2) 134 6 v sh.length (psCells sh))
  case atStart => exact ⟨0, [], List.replicate (p.length + 1) 0, .slice none 0 0, rfl, by omega, rfl, Nat.le_refl _, by simp, hB3, hrs3, hnd3, hsh3, hnu3, World.ownsRow_nil _ _ _ _⟩
  case round =>
    clear hB3 hrs3 hnd3 hsh3 hnu3 hsz3 hrs hnd
    obtain ⟨k, sh, nums, v, rfl, hkm, hsho, hshl, hnl, hB, hrs, hnd, hsh, hnu, hown⟩ := hrel
    have HSH := hide hsho
    clear hsho
    have HNN := hide hnl
    clear hnl
    have lnd := blk_lt hnd
    have lsh := blk_lt hsh
    have lnu := blk_lt hnu
    have hPr := hP.later hB
    obtain ⟨aV, cV, rfl⟩ := own_form hown
    by_cases hlt : k < p.length
    · have hd3 : decide ((k : Int) < (p.length : Int)) = true := decide_eq_true (by omega)
      have hd4 : decide (k < p.length) = true := decide_eq_true hlt
      obtain ⟨m, hm⟩ : ∃ m, gk = m + 1 := ⟨gk - 1, by omega⟩
      obtain ⟨g2, cap, hVe, _, hg2', _, hcell⟩ := own_pos hPr.own (by omega)
      injection hVe with hVe _ hV2
      subst hVe hV2
      obtain ⟨st, hst⟩ : ∃ X, p[k] = X := ⟨_, rfl⟩
      have HYES := hide (fun h => shortTo_yes p (needs p last) m k sh nums (by omega) st hst h)
      have HNO := hide (fun h => shortTo_no p (needs p last) m k sh nums (by omega) h)
      have e0 : wr.cell? ⟨g2, k * 6, none⟩ = some (.int .i64 (p[k].rule : Int)) := hcell _ _ (psCells_at p k 0 hlt (by omega))
      have e1 : wr.cell? ⟨g2, k * 6 + 1, none⟩ = some (.int .i64 (p[k].first : Int)) := hcell _ _ (psCells_at p k 1 hlt (by omega))
      have e2 : wr.cell? ⟨g2, k * 6 + 2, none⟩ = some (.int .i64 (p[k].second : Int)) := hcell _ _ (psCells_at p k 2 hlt (by omega))
      have e3 : wr.cell? ⟨g2, k * 6 + 3, none⟩ = some (.int .i64 (p[k].var : Int)) := hcell _ _ (psCells_at p k 3 hlt (by omega))
      have e4 : wr.cell? ⟨g2, k * 6 + 4, none⟩ = some (.int .i64 (p[k].lits.1 : Int)) := hcell _ _ (psCells_at p k 4 hlt (by omega))
      have e5 : wr.cell? ⟨g2, k * 6 + 5, none⟩ = some (.int .i64 (p[k].lits.2 : Int)) := hcell _ _ (psCells_at p k 5 hlt (by omega))
      rw [hst] at e0 e1 e2 e3 e4 e5
      clear hst hcell
      obtain ⟨sr, sf, ss, sv, l1, l2⟩ := st
      dsimp only at *
      rw [hm] at HSH
      have hA : Below wr.heap.size wr (wr.alloc (.cells #[.int .i64 (sr : Int), .int .i64 (sf : Int), .int .i64 (ss : Int), .int .i64 (sv : Int), .int .i64 (l1 : Int), .int .i64 (l2 : Int)] 134)) := (Below.refl _ _).alloc (Nat.le_refl _) _
      have ndA : (wr.alloc (.cells #[.int .i64 (sr : Int), .int .i64 (sf : Int), .int .i64 (ss : Int), .int .i64 (sv : Int), .int .i64 (l1 : Int), .int .i64 (l2 : Int)] 134)).cell? ⟨gN, k + 1, none⟩ = some (.bool ((needs p last).getD (k + 1) false)) := by rw [hA.cell (p := ⟨gN, k + 1, none⟩) lnd, blk_cell hnd]; exact boolCells_at _ _ (by rw [unhide HNL]; omega)
      have hk1 : k + 1 < p.length + 1 := by omega
      cases hnb : (needs p last).getD (k + 1) false with
      | false =>
        rw [hnb] at ndA
        have HN : Hid (shortOf p last = (shortTo p (needs p last) m sh nums).1) := hide (by rw [unhide HSH, unhide HNO hnb])
        clear hnb
        go_wp2_with fail
        go_roundg (gk - 1)
        case measure => omega
        case rel => exact ⟨k + 1, sh, nums, _, by go_num, by omega, by rw [show gk - 1 = m by omega]; exact unhide HN, by omega, unhide HNN, hB.trans (hA.mono hB.size), (hA.block _ (blk_lt hrs)).trans hrs, (hA.block _ lnd).trans hnd, (hA.block _ lsh).trans hsh, (hA.block _ lnu).trans hnu, own_below hown hA⟩
      | true =>
        rw [hnb] at ndA
        have HN : Hid (shortOf p last = (shortTo p (needs p last) m (sh ++ [renum nums k ⟨sr, sf, ss, sv, (l1, l2)⟩]) (nums.set (k + 1) (sh.length + 1))).1) := hide (by rw [unhide HSH, unhide HYES hnb])
        clear hnb
        have hd5 : decide ((0 : Int) ≤ (sf : Int)) = true := decide_eq_true (by omega)
        have hd6 : decide ((0 : Int) ≤ (ss : Int)) = true := decide_eq_true (by omega)
        by_cases hs : ss ≤ k
        · rcases (show (sr ≠ 1 ∧ sf ≤ k) ∨ sr = 1 ∨ (sr ≠ 1 ∧ ¬ sf ≤ k) by omega) with hf | hf | hf
          · skip
            have g1 : ((sr : Int) == 1) = false := by rw [beq_eq_false_iff_ne]; omega
            have g1n : (sr == 1) = false := by rw [beq_eq_false_iff_ne]; omega
            have g1m : ((sr : Int) != 1) = true := by rw [bne, g1]; rfl
            have g1p : (sr != 1) = true := by rw [bne, g1n]; rfl
            have g1d : decide ((sr : Int) = 1) = false := decide_eq_false (by omega)
            have g1e : decide (sr = 1) = false := decide_eq_false (by omega)
            have g2' : decide ((sf : Int) ≤ (k : Int)) = true := decide_eq_true (by omega)
            have g2n : decide (sf ≤ k) = true := decide_eq_true (by omega)
            have hfl : sf < p.length + 1 := by omega
            have g3 : decide ((ss : Int) ≤ (k : Int)) = true := decide_eq_true (by omega)
            have g3n : decide (ss ≤ k) = true := decide_eq_true (by omega)
            have hsl : ss < p.length + 1 := by omega
            have HRN : Hid (renum nums k ⟨sr, sf, ss, sv, (l1, l2)⟩ = ⟨sr, nums.getD sf 0, nums.getD ss 0, sv, (l1, l2)⟩) := hide (by unfold renum; dsimp only; rw [if_pos hf, if_pos hs])
            rw [unhide HRN] at HN
            clear hf hs HRN
            have nf : (wr.alloc (.cells #[.int .i64 (sr : Int), .int .i64 (sf : Int), .int .i64 (ss : Int), .int .i64 (sv : Int), .int .i64 (l1 : Int), .int .i64 (l2 : Int)] 134)).cell? ⟨u1.heap.size + 1, sf, none⟩ = some (.int .i64 (nums.getD sf 0 : Int)) := by rw [hA.cell (p := ⟨u1.heap.size + 1, sf, none⟩) lnu, blk_cell hnu]; exact ints_at' _ _ (by rw [unhide HNN]; exact hfl)
            have hA' : Below wr.heap.size wr (wr.alloc (.cells #[.int .i64 (sr : Int), .int .i64 (nums.getD sf 0 : Int), .int .i64 (ss : Int), .int .i64 (sv : Int), .int .i64 (l1 : Int), .int .i64 (l2 : Int)] 134)) := (Below.refl _ _).alloc (Nat.le_refl _) _
            have nS : (wr.alloc (.cells #[.int .i64 (sr : Int), .int .i64 (nums.getD sf 0 : Int), .int .i64 (ss : Int), .int .i64 (sv : Int), .int .i64 (l1 : Int), .int .i64 (l2 : Int)] 134)).cell? ⟨u1.heap.size + 1, ss, none⟩ = some (.int .i64 (nums.getD ss 0 : Int)) := by rw [hA'.cell (p := ⟨u1.heap.size + 1, ss, none⟩) lnu, blk_cell hnu]; exact ints_at' _ _ (by rw [unhide HNN]; exact hsl)
            have hA4 : Below wr.heap.size wr (wr.alloc (.cells #[.int .i64 (sr : Int), .int .i64 (nums.getD sf 0 : Int), .int .i64 (nums.getD ss 0 : Int), .int .i64 (sv : Int), .int .i64 (l1 : Int), .int .i64 (l2 : Int)] 134)) := (Below.refl _ _).alloc (Nat.le_refl _) _
            generalize nums.getD sf 0 = F at *
            generalize nums.getD ss 0 = G at *
            go_wp2_with fail
            have hsh4 := (hA4.block _ lsh).trans hsh
            have hnu4 := (hA4.block _ lnu).trans hnu
            have hnd4 := (hA4.block _ lnd).trans hnd
            have hrs4 := (hA4.block _ (blk_lt hrs)).trans hrs
            have hown4 := own_below hown hA4
            have hB4 := hB.trans (hA4.mono hB.size)
            have hz4 : wr.heap.size ≤ (wr.alloc (.cells #[.int .i64 (sr : Int), .int .i64 (F : Int), .int .i64 (G : Int), .int .i64 (sv : Int), .int .i64 (l1 : Int), .int .i64 (l2 : Int)] 134)).heap.size := hA4.size
            generalize (wr.alloc (.cells #[.int .i64 (sr : Int), .int .i64 (F : Int), .int .i64 (G : Int), .int .i64 (sv : Int), .int .i64 (l1 : Int), .int .i64 (l2 : Int)] 134)) = w4 at *
            refine (add_any (u1.heap.size + 2) u1.heap.size 0 sh (.slice aV sh.length cV) ⟨sr, F, G, sv, (l1, l2)⟩ #[.int .i64 (kind : Int), .slice aV sh.length cV] 67 _ hsh4 rfl (by decide) hown4 (by omega) (by omega)).mono ?_
            rintro e w5 ⟨v5, rfl, ho5, hf5, hn5, hm5⟩
            have hT : ∀ k, k < u1.heap.size + 2 → k ≠ u1.heap.size → ¬ (k = u1.heap.size ∨ (Value.slice aV sh.length cV).ownBlock = some k) := fun k hk hne h => by
              rcases h with h | h
              · exact hne h
              · have := own_ge hown4 h; omega
            have hnu5 := (hn5.block (u1.heap.size + 1) (blk_lt hnu4) (hT _ (by omega) (by omega))).trans hnu4
            have hnd5 := (hn5.block gN (blk_lt hnd4) (hT _ (by omega) (by omega))).trans hnd4
            have hrs5 := (hn5.block w.heap.size (blk_lt hrs4) (hT _ (by omega) (by omega))).trans hrs4
            have hB5 := hn5.under hB4 (Nat.le_refl _) (fun k hk => by
              rcases hk with h | h
              · omega
              · have := own_ge hown4 h; omega)
            have hnuS : (w5.setCell ⟨u1.heap.size + 1, k + 1, none⟩ (.int .i64 ((sh.length : Int) + 1))).heap[u1.heap.size + 1]? = some (.cells (ints (nums.set (k + 1) (sh.length + 1))).toArray 3 (0, 0)) := by
              have h := blk_set hnu5 (k + 1) (.int .i64 ((sh.length + 1 : Nat) : Int))
              rw [ints_set] at h
              exact h
            have cn5 : w5.cell? ⟨u1.heap.size + 1, k + 1, none⟩ = some (.int .i64 (nums.getD (k + 1) 0 : Int)) := by rw [blk_cell hnu5]; exact ints_at' _ _ (by rw [unhide HNN]; exact hk1)
            have zn5 := blk_free hnu5 (k + 1)
            have ln5 := blk_lt hnu5
            have hne5 : v5.ownBlock ≠ some (u1.heap.size + 1) := fun e => by have := own_ge ho5 e; omega
            go_wp2_with fail
            go_roundg (gk - 1)
            case measure => omega
            case rel => exact ⟨k + 1, sh ++ [⟨sr, F, G, sv, (l1, l2)⟩], nums.set (k + 1) (sh.length + 1), v5, by go_num, by omega, by rw [show gk - 1 = m by omega]; exact unhide HN, by rw [List.length_append]; simp; omega, by rw [List.length_set]; exact unhide HNN, hB5.setCell (p := ⟨u1.heap.size + 1, k + 1, none⟩) (by show w.heap.size ≤ u1.heap.size + 1; omega) _, blk_other hrs5 (by omega) _ _, blk_other hnd5 (by omega) _ _, blk_other hf5 (by omega) _ _, hnuS, by rw [List.length_append]; exact own_set_ne ho5 (p := ⟨u1.heap.size + 1, k + 1, none⟩) hne5 _⟩
          · skip
            have g1 : ((sr : Int) == 1) = true := by rw [beq_iff_eq]; omega
            have g1n : (sr == 1) = true := by rw [beq_iff_eq]; omega
            have g1m : ((sr : Int) != 1) = false := by rw [bne, g1]; rfl
            have g1p : (sr != 1) = false := by rw [bne, g1n]; rfl
            have g1d : decide ((sr : Int) = 1) = true := decide_eq_true (by omega)
            have g1e : decide (sr = 1) = true := decide_eq_true (by omega)
            have g3 : decide ((ss : Int) ≤ (k : Int)) = true := decide_eq_true (by omega)
            have g3n : decide (ss ≤ k) = true := decide_eq_true (by omega)
            have hsl : ss < p.length + 1 := by omega
            have HRN : Hid (renum nums k ⟨sr, sf, ss, sv, (l1, l2)⟩ = ⟨sr, sf, nums.getD ss 0, sv, (l1, l2)⟩) := hide (by unfold renum; dsimp only; rw [if_neg (by omega), if_pos hs])
            rw [unhide HRN] at HN
            clear hf hs HRN
            have hA' : Below wr.heap.size wr (wr.alloc (.cells #[.int .i64 (sr : Int), .int .i64 (sf : Int), .int .i64 (ss : Int), .int .i64 (sv : Int), .int .i64 (l1 : Int), .int .i64 (l2 : Int)] 134)) := (Below.refl _ _).alloc (Nat.le_refl _) _
            have nS : (wr.alloc (.cells #[.int .i64 (sr : Int), .int .i64 (sf : Int), .int .i64 (ss : Int), .int .i64 (sv : Int), .int .i64 (l1 : Int), .int .i64 (l2 : Int)] 134)).cell? ⟨u1.heap.size + 1, ss, none⟩ = some (.int .i64 (nums.getD ss 0 : Int)) := by rw [hA'.cell (p := ⟨u1.heap.size + 1, ss, none⟩) lnu, blk_cell hnu]; exact ints_at' _ _ (by rw [unhide HNN]; exact hsl)
            have hA4 : Below wr.heap.size wr (wr.alloc (.cells #[.int .i64 (sr : Int), .int .i64 (sf : Int), .int .i64 (nums.getD ss 0 : Int), .int .i64 (sv : Int), .int .i64 (l1 : Int), .int .i64 (l2 : Int)] 134)) := (Below.refl _ _).alloc (Nat.le_refl _) _
            generalize nums.getD ss 0 = G at *
            go_wp2_with fail
            have hsh4 := (hA4.block _ lsh).trans hsh
            have hnu4 := (hA4.block _ lnu).trans hnu
            have hnd4 := (hA4.block _ lnd).trans hnd
            have hrs4 := (hA4.block _ (blk_lt hrs)).trans hrs
            have hown4 := own_below hown hA4
            have hB4 := hB.trans (hA4.mono hB.size)
            have hz4 : wr.heap.size ≤ (wr.alloc (.cells #[.int .i64 (sr : Int), .int .i64 (sf : Int), .int .i64 (G : Int), .int .i64 (sv : Int), .int .i64 (l1 : Int), .int .i64 (l2 : Int)] 134)).heap.size := hA4.size
            generalize (wr.alloc (.cells #[.int .i64 (sr : Int), .int .i64 (sf : Int), .int .i64 (G : Int), .int .i64 (sv : Int), .int .i64 (l1 : Int), .int .i64 (l2 : Int)] 134)) = w4 at *
            refine (add_any (u1.heap.size + 2) u1.heap.size 0 sh (.slice aV sh.length cV) ⟨sr, sf, G, sv, (l1, l2)⟩ #[.int .i64 (kind : Int), .slice aV sh.length cV] 67 _ hsh4 rfl (by decide) hown4 (by omega) (by omega)).mono ?_
            rintro e w5 ⟨v5, rfl, ho5, hf5, hn5, hm5⟩
            have hT : ∀ k, k < u1.heap.size + 2 → k ≠ u1.heap.size → ¬ (k = u1.heap.size ∨ (Value.slice aV sh.length cV).ownBlock = some k) := fun k hk hne h => by
              rcases h with h | h
              · exact hne h
              · have := own_ge hown4 h; omega
            have hnu5 := (hn5.block (u1.heap.size + 1) (blk_lt hnu4) (hT _ (by omega) (by omega))).trans hnu4
            have hnd5 := (hn5.block gN (blk_lt hnd4) (hT _ (by omega) (by omega))).trans hnd4
            have hrs5 := (hn5.block w.heap.size (blk_lt hrs4) (hT _ (by omega) (by omega))).trans hrs4
            have hB5 := hn5.under hB4 (Nat.le_refl _) (fun k hk => by
              rcases hk with h | h
              · omega
              · have := own_ge hown4 h; omega)
            have hnuS : (w5.setCell ⟨u1.heap.size + 1, k + 1, none⟩ (.int .i64 ((sh.length : Int) + 1))).heap[u1.heap.size + 1]? = some (.cells (ints (nums.set (k + 1) (sh.length + 1))).toArray 3 (0, 0)) := by
              have h := blk_set hnu5 (k + 1) (.int .i64 ((sh.length + 1 : Nat) : Int))
              rw [ints_set] at h
              exact h
            have cn5 : w5.cell? ⟨u1.heap.size + 1, k + 1, none⟩ = some (.int .i64 (nums.getD (k + 1) 0 : Int)) := by rw [blk_cell hnu5]; exact ints_at' _ _ (by rw [unhide HNN]; exact hk1)
            have zn5 := blk_free hnu5 (k + 1)
            have ln5 := blk_lt hnu5
            have hne5 : v5.ownBlock ≠ some (u1.heap.size + 1) := fun e => by have := own_ge ho5 e; omega
            go_wp2_with fail
            go_roundg (gk - 1)
            case measure => omega
            case rel => exact ⟨k + 1, sh ++ [⟨sr, sf, G, sv, (l1, l2)⟩], nums.set (k + 1) (sh.length + 1), v5, by go_num, by omega, by rw [show gk - 1 = m by omega]; exact unhide HN, by rw [List.length_append]; simp; omega, by rw [List.length_set]; exact unhide HNN, hB5.setCell (p := ⟨u1.heap.size + 1, k + 1, none⟩) (by show w.heap.size ≤ u1.heap.size + 1; omega) _, blk_other hrs5 (by omega) _ _, blk_other hnd5 (by omega) _ _, blk_other hf5 (by omega) _ _, hnuS, by rw [List.length_append]; exact own_set_ne ho5 (p := ⟨u1.heap.size + 1, k + 1, none⟩) hne5 _⟩
          · skip
            have g1 : ((sr : Int) == 1) = false := by rw [beq_eq_false_iff_ne]; omega
            have g1n : (sr == 1) = false := by rw [beq_eq_false_iff_ne]; omega
            have g1m : ((sr : Int) != 1) = true := by rw [bne, g1]; rfl
            have g1p : (sr != 1) = true := by rw [bne, g1n]; rfl
            have g1d : decide ((sr : Int) = 1) = false := decide_eq_false (by omega)
            have g1e : decide (sr = 1) = false := decide_eq_false (by omega)
            have g2' : decide ((sf : Int) ≤ (k : Int)) = false := decide_eq_false (by omega)
            have g2n : decide (sf ≤ k) = false := decide_eq_false (by omega)
            have g3 : decide ((ss : Int) ≤ (k : Int)) = true := decide_eq_true (by omega)
            have g3n : decide (ss ≤ k) = true := decide_eq_true (by omega)
            have hsl : ss < p.length + 1 := by omega
            have HRN : Hid (renum nums k ⟨sr, sf, ss, sv, (l1, l2)⟩ = ⟨sr, sf, nums.getD ss 0, sv, (l1, l2)⟩) := hide (by unfold renum; dsimp only; rw [if_neg (by omega), if_pos hs])
            rw [unhide HRN] at HN
            clear hf hs HRN
            have hA' : Below wr.heap.size wr (wr.alloc (.cells #[.int .i64 (sr : Int), .int .i64 (sf : Int), .int .i64 (ss : Int), .int .i64 (sv : Int), .int .i64 (l1 : Int), .int .i64 (l2 : Int)] 134)) := (Below.refl _ _).alloc (Nat.le_refl _) _
            have nS : (wr.alloc (.cells #[.int .i64 (sr : Int), .int .i64 (sf : Int), .int .i64 (ss : Int), .int .i64 (sv : Int), .int .i64 (l1 : Int), .int .i64 (l2 : Int)] 134)).cell? ⟨u1.heap.size + 1, ss, none⟩ = some (.int .i64 (nums.getD ss 0 : Int)) := by rw [hA'.cell (p := ⟨u1.heap.size + 1, ss, none⟩) lnu, blk_cell hnu]; exact ints_at' _ _ (by rw [unhide HNN]; exact hsl)
            have hA4 : Below wr.heap.size wr (wr.alloc (.cells #[.int .i64 (sr : Int), .int .i64 (sf : Int), .int .i64 (nums.getD ss 0 : Int), .int .i64 (sv : Int), .int .i64 (l1 : Int), .int .i64 (l2 : Int)] 134)) := (Below.refl _ _).alloc (Nat.le_refl _) _
            generalize nums.getD ss 0 = G at *
            go_wp2_with fail
            have hsh4 := (hA4.block _ lsh).trans hsh
            have hnu4 := (hA4.block _ lnu).trans hnu
            have hnd4 := (hA4.block _ lnd).trans hnd
            have hrs4 := (hA4.block _ (blk_lt hrs)).trans hrs
            have hown4 := own_below hown hA4
            have hB4 := hB.trans (hA4.mono hB.size)
            have hz4 : wr.heap.size ≤ (wr.alloc (.cells #[.int .i64 (sr : Int), .int .i64 (sf : Int), .int .i64 (G : Int), .int .i64 (sv : Int), .int .i64 (l1 : Int), .int .i64 (l2 : Int)] 134)).heap.size := hA4.size
            generalize (wr.alloc (.cells #[.int .i64 (sr : Int), .int .i64 (sf : Int), .int .i64 (G : Int), .int .i64 (sv : Int), .int .i64 (l1 : Int), .int .i64 (l2 : Int)] 134)) = w4 at *
            refine (add_any (u1.heap.size + 2) u1.heap.size 0 sh (.slice aV sh.length cV) ⟨sr, sf, G, sv, (l1, l2)⟩ #[.int .i64 (kind : Int), .slice aV sh.length cV] 67 _ hsh4 rfl (by decide) hown4 (by omega) (by omega)).mono ?_
            rintro e w5 ⟨v5, rfl, ho5, hf5, hn5, hm5⟩
            have hT : ∀ k, k < u1.heap.size + 2 → k ≠ u1.heap.size → ¬ (k = u1.heap.size ∨ (Value.slice aV sh.length cV).ownBlock = some k) := fun k hk hne h => by
              rcases h with h | h
              · exact hne h
              · have := own_ge hown4 h; omega
            have hnu5 := (hn5.block (u1.heap.size + 1) (blk_lt hnu4) (hT _ (by omega) (by omega))).trans hnu4
            have hnd5 := (hn5.block gN (blk_lt hnd4) (hT _ (by omega) (by omega))).trans hnd4
            have hrs5 := (hn5.block w.heap.size (blk_lt hrs4) (hT _ (by omega) (by omega))).trans hrs4
            have hB5 := hn5.under hB4 (Nat.le_refl _) (fun k hk => by
              rcases hk with h | h
              · omega
              · have := own_ge hown4 h; omega)
            have hnuS : (w5.setCell ⟨u1.heap.size + 1, k + 1, none⟩ (.int .i64 ((sh.length : Int) + 1))).heap[u1.heap.size + 1]? = some (.cells (ints (nums.set (k + 1) (sh.length + 1))).toArray 3 (0, 0)) := by
              have h := blk_set hnu5 (k + 1) (.int .i64 ((sh.length + 1 : Nat) : Int))
              rw [ints_set] at h
              exact h
            have cn5 : w5.cell? ⟨u1.heap.size + 1, k + 1, none⟩ = some (.int .i64 (nums.getD (k + 1) 0 : Int)) := by rw [blk_cell hnu5]; exact ints_at' _ _ (by rw [unhide HNN]; exact hk1)
            have zn5 := blk_free hnu5 (k + 1)
            have ln5 := blk_lt hnu5
            have hne5 : v5.ownBlock ≠ some (u1.heap.size + 1) := fun e => by have := own_ge ho5 e; omega
            go_wp2_with fail
            go_roundg (gk - 1)
            case measure => omega
            case rel => exact ⟨k + 1, sh ++ [⟨sr, sf, G, sv, (l1, l2)⟩], nums.set (k + 1) (sh.length + 1), v5, by go_num, by omega, by rw [show gk - 1 = m by omega]; exact unhide HN, by rw [List.length_append]; simp; omega, by rw [List.length_set]; exact unhide HNN, hB5.setCell (p := ⟨u1.heap.size + 1, k + 1, none⟩) (by show w.heap.size ≤ u1.heap.size + 1; omega) _, blk_other hrs5 (by omega) _ _, blk_other hnd5 (by omega) _ _, blk_other hf5 (by omega) _ _, hnuS, by rw [List.length_append]; exact own_set_ne ho5 (p := ⟨u1.heap.size + 1, k + 1, none⟩) hne5 _⟩
        · rcases (show (sr ≠ 1 ∧ sf ≤ k) ∨ sr = 1 ∨ (sr ≠ 1 ∧ ¬ sf ≤ k) by omega) with hf | hf | hf
          · skip
            have g1 : ((sr : Int) == 1) = false := by rw [beq_eq_false_iff_ne]; omega
            have g1n : (sr == 1) = false := by rw [beq_eq_false_iff_ne]; omega
            have g1m : ((sr : Int) != 1) = true := by rw [bne, g1]; rfl
            have g1p : (sr != 1) = true := by rw [bne, g1n]; rfl
            have g1d : decide ((sr : Int) = 1) = false := decide_eq_false (by omega)
            have g1e : decide (sr = 1) = false := decide_eq_false (by omega)
            have g2' : decide ((sf : Int) ≤ (k : Int)) = true := decide_eq_true (by omega)
            have g2n : decide (sf ≤ k) = true := decide_eq_true (by omega)
            have hfl : sf < p.length + 1 := by omega
            have g3 : decide ((ss : Int) ≤ (k : Int)) = false := decide_eq_false (by omega)
            have g3n : decide (ss ≤ k) = false := decide_eq_false (by omega)
            have HRN : Hid (renum nums k ⟨sr, sf, ss, sv, (l1, l2)⟩ = ⟨sr, nums.getD sf 0, ss, sv, (l1, l2)⟩) := hide (by unfold renum; dsimp only; rw [if_pos hf, if_neg hs])
            rw [unhide HRN] at HN
            clear hf hs HRN
            have nf : (wr.alloc (.cells #[.int .i64 (sr : Int), .int .i64 (sf : Int), .int .i64 (ss : Int), .int .i64 (sv : Int), .int .i64 (l1 : Int), .int .i64 (l2 : Int)] 134)).cell? ⟨u1.heap.size + 1, sf, none⟩ = some (.int .i64 (nums.getD sf 0 : Int)) := by rw [hA.cell (p := ⟨u1.heap.size + 1, sf, none⟩) lnu, blk_cell hnu]; exact ints_at' _ _ (by rw [unhide HNN]; exact hfl)
            have hA4 : Below wr.heap.size wr (wr.alloc (.cells #[.int .i64 (sr : Int), .int .i64 (nums.getD sf 0 : Int), .int .i64 (ss : Int), .int .i64 (sv : Int), .int .i64 (l1 : Int), .int .i64 (l2 : Int)] 134)) := (Below.refl _ _).alloc (Nat.le_refl _) _
            generalize nums.getD sf 0 = F at *
            go_wp2_with fail
            have hsh4 := (hA4.block _ lsh).trans hsh
            have hnu4 := (hA4.block _ lnu).trans hnu
            have hnd4 := (hA4.block _ lnd).trans hnd
            have hrs4 := (hA4.block _ (blk_lt hrs)).trans hrs
            have hown4 := own_below hown hA4
            have hB4 := hB.trans (hA4.mono hB.size)
            have hz4 : wr.heap.size ≤ (wr.alloc (.cells #[.int .i64 (sr : Int), .int .i64 (F : Int), .int .i64 (ss : Int), .int .i64 (sv : Int), .int .i64 (l1 : Int), .int .i64 (l2 : Int)] 134)).heap.size := hA4.size
            generalize (wr.alloc (.cells #[.int .i64 (sr : Int), .int .i64 (F : Int), .int .i64 (ss : Int), .int .i64 (sv : Int), .int .i64 (l1 : Int), .int .i64 (l2 : Int)] 134)) = w4 at *
            refine (add_any (u1.heap.size + 2) u1.heap.size 0 sh (.slice aV sh.length cV) ⟨sr, F, ss, sv, (l1, l2)⟩ #[.int .i64 (kind : Int), .slice aV sh.length cV] 67 _ hsh4 rfl (by decide) hown4 (by omega) (by omega)).mono ?_
            rintro e w5 ⟨v5, rfl, ho5, hf5, hn5, hm5⟩
            have hT : ∀ k, k < u1.heap.size + 2 → k ≠ u1.heap.size → ¬ (k = u1.heap.size ∨ (Value.slice aV sh.length cV).ownBlock = some k) := fun k hk hne h => by
              rcases h with h | h
              · exact hne h
              · have := own_ge hown4 h; omega
            have hnu5 := (hn5.block (u1.heap.size + 1) (blk_lt hnu4) (hT _ (by omega) (by omega))).trans hnu4
            have hnd5 := (hn5.block gN (blk_lt hnd4) (hT _ (by omega) (by omega))).trans hnd4
            have hrs5 := (hn5.block w.heap.size (blk_lt hrs4) (hT _ (by omega) (by omega))).trans hrs4
            have hB5 := hn5.under hB4 (Nat.le_refl _) (fun k hk => by
              rcases hk with h | h
              · omega
              · have := own_ge hown4 h; omega)
            have hnuS : (w5.setCell ⟨u1.heap.size + 1, k + 1, none⟩ (.int .i64 ((sh.length : Int) + 1))).heap[u1.heap.size + 1]? = some (.cells (ints (nums.set (k + 1) (sh.length + 1))).toArray 3 (0, 0)) := by
              have h := blk_set hnu5 (k + 1) (.int .i64 ((sh.length + 1 : Nat) : Int))
              rw [ints_set] at h
              exact h
            have cn5 : w5.cell? ⟨u1.heap.size + 1, k + 1, none⟩ = some (.int .i64 (nums.getD (k + 1) 0 : Int)) := by rw [blk_cell hnu5]; exact ints_at' _ _ (by rw [unhide HNN]; exact hk1)
            have zn5 := blk_free hnu5 (k + 1)
            have ln5 := blk_lt hnu5
            have hne5 : v5.ownBlock ≠ some (u1.heap.size + 1) := fun e => by have := own_ge ho5 e; omega
            go_wp2_with fail
            go_roundg (gk - 1)
            case measure => omega
            case rel => exact ⟨k + 1, sh ++ [⟨sr, F, ss, sv, (l1, l2)⟩], nums.set (k + 1) (sh.length + 1), v5, by go_num, by omega, by rw [show gk - 1 = m by omega]; exact unhide HN, by rw [List.length_append]; simp; omega, by rw [List.length_set]; exact unhide HNN, hB5.setCell (p := ⟨u1.heap.size + 1, k + 1, none⟩) (by show w.heap.size ≤ u1.heap.size + 1; omega) _, blk_other hrs5 (by omega) _ _, blk_other hnd5 (by omega) _ _, blk_other hf5 (by omega) _ _, hnuS, by rw [List.length_append]; exact own_set_ne ho5 (p := ⟨u1.heap.size + 1, k + 1, none⟩) hne5 _⟩
          · skip
            have g1 : ((sr : Int) == 1) = true := by rw [beq_iff_eq]; omega
            have g1n : (sr == 1) = true := by rw [beq_iff_eq]; omega
            have g1m : ((sr : Int) != 1) = false := by rw [bne, g1]; rfl
            have g1p : (sr != 1) = false := by rw [bne, g1n]; rfl
            have g1d : decide ((sr : Int) = 1) = true := decide_eq_true (by omega)
            have g1e : decide (sr = 1) = true := decide_eq_true (by omega)
            have g3 : decide ((ss : Int) ≤ (k : Int)) = false := decide_eq_false (by omega)
            have g3n : decide (ss ≤ k) = false := decide_eq_false (by omega)
            have HRN : Hid (renum nums k ⟨sr, sf, ss, sv, (l1, l2)⟩ = ⟨sr, sf, ss, sv, (l1, l2)⟩) := hide (by unfold renum; dsimp only; rw [if_neg (by omega), if_neg hs])
            rw [unhide HRN] at HN
            clear hf hs HRN
            have hA4 : Below wr.heap.size wr (wr.alloc (.cells #[.int .i64 (sr : Int), .int .i64 (sf : Int), .int .i64 (ss : Int), .int .i64 (sv : Int), .int .i64 (l1 : Int), .int .i64 (l2 : Int)] 134)) := (Below.refl _ _).alloc (Nat.le_refl _) _
            go_wp2_with fail
            have hsh4 := (hA4.block _ lsh).trans hsh
            have hnu4 := (hA4.block _ lnu).trans hnu
            have hnd4 := (hA4.block _ lnd).trans hnd
            have hrs4 := (hA4.block _ (blk_lt hrs)).trans hrs
            have hown4 := own_below hown hA4
            have hB4 := hB.trans (hA4.mono hB.size)
            have hz4 : wr.heap.size ≤ (wr.alloc (.cells #[.int .i64 (sr : Int), .int .i64 (sf : Int), .int .i64 (ss : Int), .int .i64 (sv : Int), .int .i64 (l1 : Int), .int .i64 (l2 : Int)] 134)).heap.size := hA4.size
            generalize (wr.alloc (.cells #[.int .i64 (sr : Int), .int .i64 (sf : Int), .int .i64 (ss : Int), .int .i64 (sv : Int), .int .i64 (l1 : Int), .int .i64 (l2 : Int)] 134)) = w4 at *
            refine (add_any (u1.heap.size + 2) u1.heap.size 0 sh (.slice aV sh.length cV) ⟨sr, sf, ss, sv, (l1, l2)⟩ #[.int .i64 (kind : Int), .slice aV sh.length cV] 67 _ hsh4 rfl (by decide) hown4 (by omega) (by omega)).mono ?_
            rintro e w5 ⟨v5, rfl, ho5, hf5, hn5, hm5⟩
            have hT : ∀ k, k < u1.heap.size + 2 → k ≠ u1.heap.size → ¬ (k = u1.heap.size ∨ (Value.slice aV sh.length cV).ownBlock = some k) := fun k hk hne h => by
              rcases h with h | h
              · exact hne h
              · have := own_ge hown4 h; omega
            have hnu5 := (hn5.block (u1.heap.size + 1) (blk_lt hnu4) (hT _ (by omega) (by omega))).trans hnu4
            have hnd5 := (hn5.block gN (blk_lt hnd4) (hT _ (by omega) (by omega))).trans hnd4
            have hrs5 := (hn5.block w.heap.size (blk_lt hrs4) (hT _ (by omega) (by omega))).trans hrs4
            have hB5 := hn5.under hB4 (Nat.le_refl _) (fun k hk => by
              rcases hk with h | h
              · omega
              · have := own_ge hown4 h; omega)
            have hnuS : (w5.setCell ⟨u1.heap.size + 1, k + 1, none⟩ (.int .i64 ((sh.length : Int) + 1))).heap[u1.heap.size + 1]? = some (.cells (ints (nums.set (k + 1) (sh.length + 1))).toArray 3 (0, 0)) := by
              have h := blk_set hnu5 (k + 1) (.int .i64 ((sh.length + 1 : Nat) : Int))
              rw [ints_set] at h
              exact h
            have cn5 : w5.cell? ⟨u1.heap.size + 1, k + 1, none⟩ = some (.int .i64 (nums.getD (k + 1) 0 : Int)) := by rw [blk_cell hnu5]; exact ints_at' _ _ (by rw [unhide HNN]; exact hk1)
            have zn5 := blk_free hnu5 (k + 1)
            have ln5 := blk_lt hnu5
            have hne5 : v5.ownBlock ≠ some (u1.heap.size + 1) := fun e => by have := own_ge ho5 e; omega
            go_wp2_with fail
            go_roundg (gk - 1)
            case measure => omega
            case rel => exact ⟨k + 1, sh ++ [⟨sr, sf, ss, sv, (l1, l2)⟩], nums.set (k + 1) (sh.length + 1), v5, by go_num, by omega, by rw [show gk - 1 = m by omega]; exact unhide HN, by rw [List.length_append]; simp; omega, by rw [List.length_set]; exact unhide HNN, hB5.setCell (p := ⟨u1.heap.size + 1, k + 1, none⟩) (by show w.heap.size ≤ u1.heap.size + 1; omega) _, blk_other hrs5 (by omega) _ _, blk_other hnd5 (by omega) _ _, blk_other hf5 (by omega) _ _, hnuS, by rw [List.length_append]; exact own_set_ne ho5 (p := ⟨u1.heap.size + 1, k + 1, none⟩) hne5 _⟩
          · skip
            have g1 : ((sr : Int) == 1) = false := by rw [beq_eq_false_iff_ne]; omega
            have g1n : (sr == 1) = false := by rw [beq_eq_false_iff_ne]; omega
            have g1m : ((sr : Int) != 1) = true := by rw [bne, g1]; rfl
            have g1p : (sr != 1) = true := by rw [bne, g1n]; rfl
            have g1d : decide ((sr : Int) = 1) = false := decide_eq_false (by omega)
            have g1e : decide (sr = 1) = false := decide_eq_false (by omega)
            have g2' : decide ((sf : Int) ≤ (k : Int)) = false := decide_eq_false (by omega)
            have g2n : decide (sf ≤ k) = false := decide_eq_false (by omega)
            have g3 : decide ((ss : Int) ≤ (k : Int)) = false := decide_eq_false (by omega)
            have g3n : decide (ss ≤ k) = false := decide_eq_false (by omega)
            have HRN : Hid (renum nums k ⟨sr, sf, ss, sv, (l1, l2)⟩ = ⟨sr, sf, ss, sv, (l1, l2)⟩) := hide (by unfold renum; dsimp only; rw [if_neg (by omega), if_neg hs])
            rw [unhide HRN] at HN
            clear hf hs HRN
            have hA4 : Below wr.heap.size wr (wr.alloc (.cells #[.int .i64 (sr : Int), .int .i64 (sf : Int), .int .i64 (ss : Int), .int .i64 (sv : Int), .int .i64 (l1 : Int), .int .i64 (l2 : Int)] 134)) := (Below.refl _ _).alloc (Nat.le_refl _) _
            go_wp2_with fail
            have hsh4 := (hA4.block _ lsh).trans hsh
            have hnu4 := (hA4.block _ lnu).trans hnu
            have hnd4 := (hA4.block _ lnd).trans hnd
            have hrs4 := (hA4.block _ (blk_lt hrs)).trans hrs
            have hown4 := own_below hown hA4
            have hB4 := hB.trans (hA4.mono hB.size)
            have hz4 : wr.heap.size ≤ (wr.alloc (.cells #[.int .i64 (sr : Int), .int .i64 (sf : Int), .int .i64 (ss : Int), .int .i64 (sv : Int), .int .i64 (l1 : Int), .int .i64 (l2 : Int)] 134)).heap.size := hA4.size
            generalize (wr.alloc (.cells #[.int .i64 (sr : Int), .int .i64 (sf : Int), .int .i64 (ss : Int), .int .i64 (sv : Int), .int .i64 (l1 : Int), .int .i64 (l2 : Int)] 134)) = w4 at *
            refine (add_any (u1.heap.size + 2) u1.heap.size 0 sh (.slice aV sh.length cV) ⟨sr, sf, ss, sv, (l1, l2)⟩ #[.int .i64 (kind : Int), .slice aV sh.length cV] 67 _ hsh4 rfl (by decide) hown4 (by omega) (by omega)).mono ?_
            rintro e w5 ⟨v5, rfl, ho5, hf5, hn5, hm5⟩
            have hT : ∀ k, k < u1.heap.size + 2 → k ≠ u1.heap.size → ¬ (k = u1.heap.size ∨ (Value.slice aV sh.length cV).ownBlock = some k) := fun k hk hne h => by
              rcases h with h | h
              · exact hne h
              · have := own_ge hown4 h; omega
            have hnu5 := (hn5.block (u1.heap.size + 1) (blk_lt hnu4) (hT _ (by omega) (by omega))).trans hnu4
            have hnd5 := (hn5.block gN (blk_lt hnd4) (hT _ (by omega) (by omega))).trans hnd4
            have hrs5 := (hn5.block w.heap.size (blk_lt hrs4) (hT _ (by omega) (by omega))).trans hrs4
            have hB5 := hn5.under hB4 (Nat.le_refl _) (fun k hk => by
              rcases hk with h | h
              · omega
              · have := own_ge hown4 h; omega)
            have hnuS : (w5.setCell ⟨u1.heap.size + 1, k + 1, none⟩ (.int .i64 ((sh.length : Int) + 1))).heap[u1.heap.size + 1]? = some (.cells (ints (nums.set (k + 1) (sh.length + 1))).toArray 3 (0, 0)) := by
              have h := blk_set hnu5 (k + 1) (.int .i64 ((sh.length + 1 : Nat) : Int))
              rw [ints_set] at h
              exact h
            have cn5 : w5.cell? ⟨u1.heap.size + 1, k + 1, none⟩ = some (.int .i64 (nums.getD (k + 1) 0 : Int)) := by rw [blk_cell hnu5]; exact ints_at' _ _ (by rw [unhide HNN]; exact hk1)
            have zn5 := blk_free hnu5 (k + 1)
            have ln5 := blk_lt hnu5
            have hne5 : v5.ownBlock ≠ some (u1.heap.size + 1) := fun e => by have := own_ge ho5 e; omega
            go_wp2_with fail
            go_roundg (gk - 1)
            case measure => omega
            case rel => exact ⟨k + 1, sh ++ [⟨sr, sf, ss, sv, (l1, l2)⟩], nums.set (k + 1) (sh.length + 1), v5, by go_num, by omega, by rw [show gk - 1 = m by omega]; exact unhide HN, by rw [List.length_append]; simp; omega, by rw [List.length_set]; exact unhide HNN, hB5.setCell (p := ⟨u1.heap.size + 1, k + 1, none⟩) (by show w.heap.size ≤ u1.heap.size + 1; omega) _, blk_other hrs5 (by omega) _ _, blk_other hnd5 (by omega) _ _, blk_other hf5 (by omega) _ _, hnuS, by rw [List.length_append]; exact own_set_ne ho5 (p := ⟨u1.heap.size + 1, k + 1, none⟩) hne5 _⟩
    · have hd3 : decide ((k : Int) < (p.length : Int)) = false := decide_eq_false (by omega)
      have hd4 : decide (k < p.length) = false := decide_eq_false hlt
      have hg0 : gk = 0 := by omega
      have HF : Hid (shortOf p last = sh) := hide (by rw [unhide HSH, hg0]; rfl)
      have cq0 : wr.cell? ⟨u1.heap.size, 0, none⟩ = some (.int .i64 (kind : Int)) := by rw [blk_cell hsh]; rfl
      have cq1 : wr.cell? ⟨u1.heap.size, 1, none⟩ = some (.slice aV sh.length cV) := by rw [blk_cell hsh]; rfl
      have cr0 : wr.cell? ⟨w.heap.size, 0, none⟩ = some (.int .i64 0) := by rw [blk_cell hrs]; rfl
      have cr1 : wr.cell? ⟨w.heap.size, 1, none⟩ = some (.slice none 0 0) := by rw [blk_cell hrs]; rfl
      have z0 := blk_free hrs 0
      have z1 := blk_free hrs 1
      have lrs := blk_lt hrs
      have hR := blk_set (blk_set hrs 0 (.int .i64 (kind : Int))) 1 (.slice aV sh.length cV)
      have j0 := blk_cell hR 0
      have j1 := blk_cell hR 1
      clear hg0
      go_wp2_with fail
      refine bodyPost_ret (v := .agg #[.int .i64 (kind : Int), .slice aV sh.length cV]) (by simp [results, Tryz.results63, go_sem, j0, j1]) rfl ⟨_, rfl, ?_, (hB.setCell (p := ⟨w.heap.size, 0, none⟩) (Nat.le_refl _) _).setCell (p := ⟨w.heap.size, 1, none⟩) (Nat.le_refl _) _⟩
      rw [unhide HF]
      have hne0 : ∀ k, (Value.slice aV sh.length cV).ownBlock = some k → k ≠ w.heap.size := fun k hk e => by have := own_ge hown hk; omega
      exact own_lo (own_set_ne (own_set_ne hown (p := ⟨w.heap.size, 0, none⟩) (fun e => hne0 _ e rfl) _) (p := ⟨w.heap.size, 1, none⟩) (fun e => hne0 _ e rfl) _) (by omega)
end Go.Proofs.YtgipjjhkhfihpaaGreatDoor
