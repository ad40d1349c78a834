import Derived.Test.YtgipjjhkhfihpaaGreatDoorSC
import Derived.Test.YtgipjjhkhfihpaaGreatDoorAM
namespace Go.Proofs.YtgipjjhkhfihpaaGreatDoor
open Go.RowKit

/-! ### Proves -/
theorem rowsR_append (F : Form) (truth : Bool) (a b : List (List UInt8)) : ∀ (ss : List (Nat × Nat)) (n : Nat), rowsR F truth ss n (a ++ b) = match rowsR F truth ss n a with
    | .inr i => .inr i
    | .inl ss' => rowsR F truth ss' (n + a.length) b := by
  induction a with
  | nil => intro ss n; rfl
  | cons r a ih =>
    intro ss n
    rw [List.cons_append, rowsR, rowsR]
    cases lineR F truth ss r with
    | none => rfl
    | some c =>
      dsimp only
      rw [ih, show n + 1 + a.length = n + (r :: a).length from by simp; omega]
theorem twoR_snoc (rs : List (List UInt8)) (r : List UInt8) : twoR (rs ++ [r]) = twoR rs + (if isTwo r then 1 else 0) := by
  unfold twoR
  rw [List.filter_append, List.length_append]
  congr 1
  cases h : isTwo r <;> simp [h]
/-- What Proves holds behind some lines. -/
def PState (F : Form) (rows : List (List UInt8)) (truth : Bool) (ss : List (Nat × Nat)) (two : Nat) : Prop :=
  (rows = [] ∧ truth = false ∧ ss = [] ∧ two = 0) ∨ ∃ r0 rs, rows = r0 :: rs ∧ (r0 = sTrue ∨ r0 = sFalse) ∧ truth = (r0 == sTrue) ∧ rowsR F truth [] 1 rs = .inl ss ∧ two = twoR rs
theorem twoR_le (rs : List (List UInt8)) : twoR rs ≤ rs.length := List.length_filter_le _ _
theorem PState.two_le {F : Form} {rows : List (List UInt8)} {truth : Bool} {ss : List (Nat × Nat)} {two : Nat} (h : PState F rows truth ss two) : two ≤ rows.length := by
  rcases h with ⟨_, _, _, rfl⟩ | ⟨r0, rs, rfl, _, _, _, rfl⟩
  · omega
  · have := twoR_le rs; simp; omega
/-- The first line is none. -/
theorem proves_first (F : Form) (l : List UInt8) (hl : ¬ 262144 < l.length) (row : List UInt8) (hp : [row] <+: (cutTo 10 l).1) (hr : ¬ (row = sTrue ∨ row = sFalse)) : provesR F l = .inl (5, 1) := by
  obtain ⟨rest, hrest⟩ := hp
  unfold provesR
  rw [if_neg hl, ← hrest]
  show (if row = sTrue ∨ row = sFalse then _ else _) = _
  rw [if_neg hr]
/-- A line further on is none. -/
theorem proves_line (F : Form) (l : List UInt8) (hl : ¬ 262144 < l.length) (r0 row : List UInt8) (rs : List (List UInt8)) (ss : List (Nat × Nat)) (hp : (r0 :: rs ++ [row]) <+: (cutTo 10 l).1) (hr : r0 = sTrue ∨ r0 = sFalse) (hrs : rowsR F (r0 == sTrue) [] 1 rs = .inl ss) (hn : lineR F (r0 == sTrue) ss row = none) : provesR F l = .inl (5, rs.length + 2) := by
  obtain ⟨rest, hrest⟩ := hp
  unfold provesR
  rw [if_neg hl, ← hrest, List.cons_append, List.cons_append]
  dsimp only
  rw [if_pos hr, List.append_assoc, rowsR_append, hrs]
  dsimp only
  rw [List.singleton_append, rowsR, hn]
  dsimp only
  rw [show 1 + rs.length + 1 = rs.length + 2 from by omega]
/-- All lines are steps. -/
theorem proves_end (F : Form) (l : List UInt8) (hl : ¬ 262144 < l.length) (truth : Bool) (ss : List (Nat × Nat)) (two : Nat) (h : PState F (cutTo 10 l).1 truth ss two) : provesR F l = if (cutTo 10 l).2 = [] ∧ emptyLast ss = true then .inr (truth, two) else .inl (5, (cutTo 10 l).1.length + 1) := by
  unfold provesR
  rw [if_neg hl]
  rcases h with ⟨h1, h2, h3, h4⟩ | ⟨r0, rs, h1, h2, h3, h4, h5⟩
  · rw [h1, h3]
    dsimp only
    rw [if_neg (by intro h; cases h.2)]
    rfl
  · rw [h1]
    dsimp only
    rw [if_pos h2, ← h3, h4, h5]
    rfl
theorem PState.step {F : Form} {rows : List (List UInt8)} {truth : Bool} {ss : List (Nat × Nat)} {two : Nat} (h : PState F rows truth ss two) (hne : rows ≠ []) (row : List UInt8) (c : Nat × Nat) (hl : lineR F truth ss row = some c) : PState F (rows ++ [row]) truth (ss ++ [c]) (two + if isTwo row then 1 else 0) := by
  rcases h with ⟨h1, _⟩ | ⟨r0, rs, h1, h2, h3, h4, h5⟩
  · exact absurd h1 hne
  · refine Or.inr ⟨r0, rs ++ [row], by rw [h1]; rfl, h2, h3, ?_, by rw [h5, twoR_snoc]⟩
    rw [rowsR_append, h4]
    dsimp only
    rw [rowsR, hl]
    rfl
theorem step_le {F : Form} {truth : Bool} {ss : List (Nat × Nat)} {row : List UInt8} {c : Nat × Nat} (h : lineR F truth ss row = some c) (hs : ss.length ≤ 9000) : ss.length + 1 ≤ 9000 := by
  unfold lineR at h
  split at h
  · cases h
  · split at h
    · cases h
    · next h9 => omega

def ProvesPost (F : Form) (l : List UInt8) (w : World) (e : Ending) (w' : World) : Prop :=
  Below w.heap.size w w' ∧ match provesR F l with
    | .inl (x, i) => e = .returned (.tuple #[.int .i64 0, .int .i64 (x : Int), .int .i64 (i : Int), .int .i64 0])
    | .inr (truth, two) => e = .returned (.tuple #[.int .i64 (if truth then 2 else 1), .int .i64 0, .int .i64 0, .int .i64 (two : Int)])

attribute [local go_sem] ba_get

set_option maxRecDepth 100000 in
set_option maxHeartbeats 12800000 in
theorem proves_any (lo b : Nat) (F : Form) (l : List UInt8) (w : World) (hR : RefAt lo w b F) (hF : FW F) :
    Calls Tryz.prog 57 #[.pointer (some ⟨b, 0, none⟩), .string ⟨l.toArray⟩] w fun e w' => ProvesPost F l w e w' := by
  by_cases hlong : 262144 < l.length
  · have hd : decide ((262144 : Int) < (l.length : Int)) = true := by simp; omega
    have HF : Hid (provesR F l = .inl (1, 0)) := hide (by unfold provesR; rw [if_pos hlong])
    clear hlong
    go_enter Tryz.func57, Tryz.ntmps57
    go_wp2_with fail
    refine bodyPost_ret (v := .tuple #[.int .i64 0, .int .i64 1, .int .i64 0, .int .i64 0]) (by simp [results, Tryz.results57, go_sem]) rfl ⟨Below.refl _ _, by rw [unhide HF]; rfl⟩
  · have hd : decide ((262144 : Int) < (l.length : Int)) = false := by simp; omega
    have hll : l.length ≤ 262144 := by omega
    have HLG := hide hlong
    clear hlong
    obtain ⟨i0, hi, hz0, hz1, hz2⟩ := info_parts Tryz.info121
    have HFW := hide hF
    have HBIT := hide hF.bits
    clear hF
    go_enter Tryz.func57, Tryz.ntmps57
    go_wp2_with fail
    go_loopg [8, 9, 10, 11, 12, 13] l.length (fun m tr v tw nn t i wx => ∃ (k s : Nat) (truth : Bool) (ss : List (Nat × Nat)) (two : Nat) (tt : List UInt8), i = .int .i64 k ∧ k + m = l.length ∧ tr = .bool truth ∧ tw = .int .i64 two ∧ nn = .int .i64 ((cutTo 10 (l.take k)).1.length : Nat) ∧ t = S tt ∧ tt.length = s ∧ s + (cutTo 10 (l.take k)).2.length = k ∧
      wx.ownsRow w.heap.size 121 2 v ss.length (pairs ss) ∧ Below w.heap.size w wx ∧ PState F (cutTo 10 (l.take k)).1 truth ss two ∧ ss.length ≤ 9000 ∧ (∀ c ∈ ss, Bd c))
    case atStart => exact ⟨0, 0, false, [], 0, [], rfl, by omega, rfl, rfl, rfl, rfl, rfl, rfl, World.ownsRow_nil _ _ _ _, Below.refl _ _, Or.inl ⟨rfl, rfl, rfl, rfl⟩, by simp, by simp⟩
    case round =>
      obtain ⟨k, s, truth, ss, two, tt, rfl, hkm, rfl, rfl, rfl, rfl, hts, hsk, hown, hb, hst, hs9, hbd⟩ := hrel
      have HST := hide hst
      have HBD := hide hbd
      have HSK := hide hsk
      have htl := hst.two_le
      have hcs := cutTo_size 10 (l.take k)
      rw [List.length_take] at hcs
      have hsle : s ≤ k := by omega
      have HP := hide (cut_piece 10 l k s (by omega) hsk)
      clear hst hbd hsk
      have hbs := hb.size
      obtain ⟨aS, cS, rfl⟩ := own_form hown
      by_cases hlt : k < l.length
      · have hdl : decide ((k : Int) < (l.length : Int)) = true := by simp; omega
        by_cases hc : l[k] = 10
        · have hcb : ((l[k].toNat : Int) != 10) = false := by rw [hc]; rfl
          have HCT : Hid (cutTo 10 (l.take (k + 1)) = ((cutTo 10 (l.take k)).1 ++ [(cutTo 10 (l.take k)).2], [])) := hide (by rw [cutTo_take 10 l k hlt]; unfold cutStep; rw [if_pos hc])
          have HPX := hide (cutTo_prefix 10 l (k + 1))
          rw [unhide HCT] at HPX
          have htx : (ByteArray.mk l.toArray).extract 0 (k + 1) = ⟨(l.take (k + 1)).toArray⟩ := by rw [ba_extract]; rfl
          have hrw : (ByteArray.mk l.toArray).extract s k = ⟨((cutTo 10 (l.take k)).2).toArray⟩ := by rw [ba_extract, unhide HP]
          have hrl : (cutTo 10 (l.take k)).2.length ≤ 262144 := by omega
          have hrn : (cutTo 10 (l.take k)).1.length ≤ 262144 := by omega
          clear hc
          generalize (cutTo 10 (l.take k)).2 = row at *
          generalize hrows : (cutTo 10 (l.take k)).1 = rows at *
          clear hrows
          by_cases hr0 : rows.length = 0
          · have hz : rows = [] := List.eq_nil_of_length_eq_zero hr0
            subst hz
            rcases unhide HST with ⟨_, htr, hss, htw⟩ | ⟨r0, rs, h1, _⟩
            · subst htr hss htw
              by_cases ht : row = sTrue
              · have hrt : (row == [112, 114, 111, 111, 102, 32, 116, 114, 117, 101]) = true := by rw [ht]; rfl
                have HST2 : Hid (PState F [row] true [] 0) := hide (Or.inr ⟨row, [], rfl, Or.inl ht, by rw [ht]; rfl, rfl, rfl⟩)
                clear ht
                go_wp2_with fail
                go_roundg (gk - 1)
                case measure => omega
                case rel =>
                  refine ⟨k + 1, k + 1, true, [], 0, l.take (k + 1), by go_num, by omega, rfl, rfl, by rw [unhide HCT]; rfl, rfl, by simp; omega, by rw [unhide HCT]; rfl, hown, hb, ?_, hs9, unhide HBD⟩
                  rw [unhide HCT]; exact unhide HST2
              · have hrt : (row == [112, 114, 111, 111, 102, 32, 116, 114, 117, 101]) = false := by rw [beq_eq_false_iff_ne]; exact ht
                by_cases hf : row = sFalse
                · have hrf : (row == [112, 114, 111, 111, 102, 32, 102, 97, 108, 115, 101]) = true := by rw [hf]; rfl
                  have HST2 : Hid (PState F [row] false [] 0) := hide (Or.inr ⟨row, [], rfl, Or.inr hf, by rw [hf]; rfl, rfl, rfl⟩)
                  clear ht hf
                  go_wp2_with fail
                  go_roundg (gk - 1)
                  case measure => omega
                  case rel =>
                    refine ⟨k + 1, k + 1, false, [], 0, l.take (k + 1), by go_num, by omega, rfl, rfl, by rw [unhide HCT]; rfl, rfl, by simp; omega, by rw [unhide HCT]; rfl, hown, hb, ?_, hs9, unhide HBD⟩
                    rw [unhide HCT]; exact unhide HST2
                · have hrf : (row == [112, 114, 111, 111, 102, 32, 102, 97, 108, 115, 101]) = false := by rw [beq_eq_false_iff_ne]; exact hf
                  have HF : Hid (provesR F l = .inl (5, 1)) := hide (proves_first F l (unhide HLG) row (unhide HPX) (fun h => h.elim ht hf))
                  clear ht hf
                  go_wp2_with fail
                  refine bodyPost_ret (v := .tuple #[.int .i64 0, .int .i64 5, .int .i64 1, .int .i64 0]) (by simp [results, Tryz.results57, go_sem]) rfl ⟨hb, by rw [unhide HF]; rfl⟩
            · cases h1
          · have hn1 : (((rows.length : Nat) : Int) + 1 == 1) = false := by rw [beq_eq_false_iff_ne]; omega
            have HNE : Hid (rows ≠ []) := hide (fun e => hr0 (by rw [e]; rfl))
            clear hr0
            have HNONE : Hid (lineR F truth ss row = none → provesR F l = .inl (5, rows.length + 1)) := hide (fun hn => by
              rcases unhide HST with ⟨h1, _⟩ | ⟨r0, rs, h1, h2, h3, h4, _⟩
              · exact absurd h1 (unhide HNE)
              · have hpx := unhide HPX
                rw [h1] at hpx ⊢
                rw [h3] at h4 hn
                exact proves_line F l (unhide HLG) r0 row rs ss hpx h2 h4 hn)
            go_wp2_with fail
            refine (cut_any row 32 wr (by omega)).mono ?_
            rintro e w1 ⟨v, rfl, hown1, hb1⟩
            have hB1 : Below w.heap.size w w1 := hb.trans (hb1.mono hbs)
            have hwl : (cutAt 32 row).length ≤ 262145 := by have := cutTo_size 32 row; simp [cutAt]; omega
            have hwl2 : ∀ x ∈ cutAt 32 row, x.length ≤ 1048576 := fun x hx => by have := cutAt_len 32 row x hx; omega
            obtain ⟨hd, tl, hws⟩ : ∃ hd tl, cutAt 32 row = hd :: tl := by
              cases h : cutAt 32 row with
              | nil => simp [cutAt] at h
              | cons a b => exact ⟨a, b, rfl⟩
            have HLR := hide (lineR_eq F truth ss row hd tl hws)
            have HTWO : Hid (isTwo row = (hd == [114])) := hide (by unfold isTwo; rw [hws]; rfl)
            rw [hws] at hown1 hwl hwl2
            clear hws
            rcases hown1.2 with ⟨_, h0⟩ | ⟨g, cap, cur, rfl, hbg, hg, hnc, hcm, hcs2, htake⟩
            · simp at h0
            simp only [List.length_cons] at hwl hnc
            have hSTR : StrsAt w1 (some ⟨g, 0, none⟩) (hd :: tl) := fun _ => ⟨g, 0, cur, rfl, hg, fun j hj => by
              have h1 := hown1.cellAt j (by simpa using hj)
              rw [blk_cell hg] at h1
              rw [Nat.zero_add, h1, List.getElem?_map, List.getElem?_eq_getElem hj]; rfl⟩
            have hIn : StepIn lo b F ss aS cS w.heap.size hd tl g 0 cap w1 := ⟨hR.later hB1, unhide HFW, own_below hown hb1, hs9, unhide HBD, hSTR, by omega, by omega, fun x hx => hwl2 x (List.mem_cons_of_mem _ hx)⟩
            have HIN := hide hIn
            have hwc : w1.cell? ⟨g, 0, none⟩ = some (S hd) := by rw [hown1.cellAt 0 (by simp)]; rfl
            have hownw := own_below hown hb1
            have hgw := blk_lt hg
            clear hwl2 htake hcs2 hcm hIn hSTR hown1
            simp only [List.length_cons]
            go_wp2_with fail
            refine (step_any lo b F ss aS cS w.heap.size truth hd tl g 0 cap w1 (unhide HIN)).mono ?_
            rintro e w2 ⟨hb2, c, ok, rfl, hok⟩
            obtain ⟨p, n⟩ := c
            dsimp only
            have hB2 : Below w.heap.size w w2 := hB1.trans (hb2.mono hB1.size)
            have hBz : Below w.heap.size w (w2.alloc (.cells #[.int .i64 (p : Int), .int .i64 (n : Int)] 121)) := hB2.alloc hB2.size _
            have hownz : (w2.alloc (.cells #[.int .i64 (p : Int), .int .i64 (n : Int)] 121)).ownsRow w.heap.size 121 2 (.slice aS ss.length cS) ss.length (pairs ss) := (own_below hownw hb2).alloc _
            have hbsz := hBz.size
            have hwc2 : w2.cell? ⟨g, 0, none⟩ = some (S hd) := by rw [hb2.cell (p := ⟨g, 0, none⟩) hgw]; exact hwc
            have hgw2 : g < w2.heap.size := cell_lt hwc2
            rcases hok with ⟨rfl, hok⟩ | ⟨rfl, hok⟩
            · by_cases h9 : ss.length = 9000
              · have hq9 : ((ss.length : Int) == 9000) = true := by rw [beq_iff_eq]; omega
                have HF : Hid (provesR F l = .inl (5, rows.length + 1)) := hide (unhide HNONE (by rw [unhide HLR, if_pos h9]))
                clear hok h9
                go_wp2_with fail
                refine bodyPost_ret (v := .tuple #[.int .i64 0, .int .i64 5, .int .i64 ((rows.length : Int) + 1), .int .i64 0]) (by simp [results, Tryz.results57, go_sem]) rfl ⟨hBz, ?_⟩
                rw [unhide HF]; exact congrArg (fun m : Int => Ending.returned (.tuple #[.int .i64 0, .int .i64 5, .int .i64 m, .int .i64 0])) (by simp)
              · have hq9 : ((ss.length : Int) == 9000) = false := by rw [beq_eq_false_iff_ne]; omega
                have HLS : Hid (lineR F truth ss row = some (p, n)) := hide (by rw [unhide HLR, if_neg h9]; exact hok)
                have HCB : Hid (Bd (p, n)) := hide (stepR_bd F truth ss hd tl (p, n) (unhide HBIT) (unhide HBD) hok)
                clear hok h9
                by_cases hr : hd = [114]
                · subst hr
                  have HTW : Hid ((if isTwo row then 1 else 0) = 1) := hide (by rw [unhide HTWO]; rfl)
                  go_wp2_with (at_builtin; refine wpList_append_new' rfl _ _ 90 rfl w.heap.size i0 (.agg #[.int .i64 0, .int .i64 0]) 2 16 Tryz.underlying90 hi hz0 hz1 hz2 rfl (by decide) _ _ _ hownz rfl _ rfl (by simp) rfl (by simp [Value.oneCell']) (by unfold maxLen; omega) (by omega) hbsz ?_; intro v' w4 hown4 hgrow hnn)
                  go_roundg (gk - 1)
                  case measure => omega
                  case rel =>
                    refine ⟨k + 1, k + 1, truth, ss ++ [(p, n)], two + 1, l.take (k + 1), by go_num, by omega, rfl, by go_num, by rw [unhide HCT]; exact congrArg (Value.int .i64) (by simp), rfl, by simp; omega, by rw [unhide HCT]; rfl, ?_, below_grown hBz hgrow hownz (Nat.le_refl _) hbsz, ?_, ?_, ?_⟩
                    · rw [pairs_snoc]; simpa using hown4
                    · rw [unhide HCT]
                      have := (unhide HST).step (unhide HNE) row (p, n) (unhide HLS)
                      rw [unhide HTW] at this
                      exact this
                    · have := step_le (unhide HLS) hs9; simpa using this
                    · intro c hc
                      rcases List.mem_append.1 hc with hc | hc
                      · exact unhide HBD c hc
                      · simp at hc; subst hc; exact unhide HCB
                · have hrb : (hd == [114]) = false := by simp [hr]
                  have HTW : Hid ((if isTwo row then 1 else 0) = 0) := hide (by rw [unhide HTWO, hrb]; rfl)
                  clear hr
                  go_wp2_with (at_builtin; refine wpList_append_new' rfl _ _ 90 rfl w.heap.size i0 (.agg #[.int .i64 0, .int .i64 0]) 2 16 Tryz.underlying90 hi hz0 hz1 hz2 rfl (by decide) _ _ _ hownz rfl _ rfl (by simp) rfl (by simp [Value.oneCell']) (by unfold maxLen; omega) (by omega) hbsz ?_; intro v' w4 hown4 hgrow hnn)
                  go_roundg (gk - 1)
                  case measure => omega
                  case rel =>
                    refine ⟨k + 1, k + 1, truth, ss ++ [(p, n)], two, l.take (k + 1), by go_num, by omega, rfl, rfl, by rw [unhide HCT]; exact congrArg (Value.int .i64) (by simp), rfl, by simp; omega, by rw [unhide HCT]; rfl, ?_, below_grown hBz hgrow hownz (Nat.le_refl _) hbsz, ?_, ?_, ?_⟩
                    · rw [pairs_snoc]; simpa using hown4
                    · rw [unhide HCT]
                      have := (unhide HST).step (unhide HNE) row (p, n) (unhide HLS)
                      rw [unhide HTW] at this
                      exact this
                    · have := step_le (unhide HLS) hs9; simpa using this
                    · intro c hc
                      rcases List.mem_append.1 hc with hc | hc
                      · exact unhide HBD c hc
                      · simp at hc; subst hc; exact unhide HCB
            · have HF : Hid (provesR F l = .inl (5, rows.length + 1)) := hide (unhide HNONE (by
                rw [unhide HLR]
                split
                · rfl
                · exact hok))
              clear hok
              go_wp2_with fail
              refine bodyPost_ret (v := .tuple #[.int .i64 0, .int .i64 5, .int .i64 ((rows.length : Int) + 1), .int .i64 0]) (by simp [results, Tryz.results57, go_sem]) rfl ⟨hBz, ?_⟩
              rw [unhide HF]; exact congrArg (fun m : Int => Ending.returned (.tuple #[.int .i64 0, .int .i64 5, .int .i64 m, .int .i64 0])) (by simp)
        · have hcb : ((l[k].toNat : Int) != 10) = true := by
            rw [bne_iff_ne]; intro e; exact hc (by apply UInt8.toNat_inj.1; show _ = 10; omega)
          have HCT : Hid (cutTo 10 (l.take (k + 1)) = ((cutTo 10 (l.take k)).1, (cutTo 10 (l.take k)).2 ++ [l[k]])) := hide (by rw [cutTo_take 10 l k hlt]; unfold cutStep; rw [if_neg hc])
          clear hc
          go_wp2_with fail
          go_roundg (gk - 1)
          case measure => omega
          case rel =>
            refine ⟨k + 1, s, truth, ss, two, tt, by go_num, by omega, rfl, rfl, by rw [unhide HCT], rfl, hts, ?_, hown, hb, ?_, hs9, unhide HBD⟩
            · rw [unhide HCT]; have := unhide HSK; simp; omega
            · rw [unhide HCT]; exact unhide HST
      · have hkl : k = l.length := by omega
        subst hkl
        have HT : Hid (l.take l.length = l) := hide List.take_length
        rw [unhide HT] at HST HSK hcs ⊢
        have hdl : decide ((l.length : Int) < (l.length : Int)) = false := by simp
        have HEND := hide (proves_end F l (unhide HLG) truth ss two (unhide HST))
        have hrn : (cutTo 10 l).1.length ≤ 262144 := by omega
        clear HP
        by_cases htail : (cutTo 10 l).2 = []
        · have hsl : ¬ s < l.length := by have := unhide HSK; rw [htail] at this; simp at this; omega
          have hq1 : decide ((s : Int) < (l.length : Int)) = false := by simp; omega
          have hq2 : decide (s < l.length) = false := by simp; omega
          by_cases hss : ss = []
          · have HF : Hid (provesR F l = .inl (5, (cutTo 10 l).1.length + 1)) := hide (by rw [unhide HEND, hss, if_neg (by intro h; cases h.2)])
            subst hss
            clear htail hsl
            go_wp2_with fail
            go_quiet (fail)
            go_wp2_with fail
            refine bodyPost_ret (v := .tuple #[.int .i64 0, .int .i64 5, .int .i64 (((cutTo 10 l).1.length : Int) + 1), .int .i64 0]) (by simp [results, Tryz.results57, go_sem]) rfl ⟨below_drewN hb nq, ?_⟩
            rw [unhide HF]; exact congrArg (fun m : Int => Ending.returned (.tuple #[.int .i64 0, .int .i64 5, .int .i64 m, .int .i64 0])) (by simp)
          · have hpos : 0 < ss.length := List.length_pos_iff.2 hss
            obtain ⟨m, hm⟩ : ∃ m, ss.length = m + 1 := ⟨ss.length - 1, by omega⟩
            have hml : m < ss.length := by omega
            have HEL : Hid (emptyLast ss = (ss[m].1 ||| ss[m].2 == 0)) := hide (by
              unfold emptyLast
              have : ss.getLast? = some ss[m] := by rw [List.getLast?_eq_getElem?, show ss.length - 1 = m from by omega, List.getElem?_eq_getElem hml]
              rw [this])
            obtain ⟨g, cap, hVe, hg, hg', _, hcell⟩ := own_pos hown (by omega)
            injection hVe with hVe _ hV2
            subst hVe hV2
            obtain ⟨ha, hb'⟩ := pairs_at ss m hml
            have hx0 : wr.cell? ⟨g, m * 2, none⟩ = some (.int .i64 (ss[m].1 : Int)) := hcell _ _ ha
            have hx1 : wr.cell? ⟨g, m * 2 + 1, none⟩ = some (.int .i64 (ss[m].2 : Int)) := hcell _ _ hb'
            have hlt9 := unhide HBD _ (List.getElem_mem hml)
            clear hcell ha hb' hss hpos
            generalize ss[m] = c at *
            obtain ⟨p, n⟩ := c
            have hp9 : p < 512 := hlt9.1
            have hn9 : n < 512 := hlt9.2
            dsimp only at hx0 hx1 HEL
            have hor : bits .or .i64 (p : Int) (n : Int) = ((p ||| n : Nat) : Int) := i64_or _ _ (by omega) (by omega)
            have hne : (((p ||| n : Nat) : Int) != 0) = (p ||| n != 0) := by rw [Bool.eq_iff_iff, bne_iff_ne, bne_iff_ne]; omega
            have hmI : (m : Int) < (ss.length : Int) := by omega
            have hmI2 : (m : Int) < (m : Int) + 1 := by omega
            have hwm : IntKind.i64.wrap (m : Int) = (m : Int) := wrap_i64_nat m (by omega)
            have hm0 : decide ((m : Int) < 0) = false := by simp
            rw [hm]
            rw [hm] at hown
            have HTAIL := hide htail
            cases hz : (p ||| n == 0) with
            | false =>
              have hnz : (p ||| n != 0) = true := by rw [bne, hz]; rfl
              rw [hnz] at hne
              have HF : Hid (provesR F l = .inl (5, (cutTo 10 l).1.length + 1)) := hide (by rw [unhide HEND, if_neg (by rw [unhide HEL, hz]; intro h; cases h.2)])
              clear htail hsl hz hnz
              go_wp2_with fail
              go_quiet (fail)
              go_wp2_with fail
              refine bodyPost_ret (v := .tuple #[.int .i64 0, .int .i64 5, .int .i64 (((cutTo 10 l).1.length : Int) + 1), .int .i64 0]) (by simp [results, Tryz.results57, go_sem]) rfl ⟨below_drewN hb nq, ?_⟩
              rw [unhide HF]; exact congrArg (fun m : Int => Ending.returned (.tuple #[.int .i64 0, .int .i64 5, .int .i64 m, .int .i64 0])) (by simp)
            | true =>
              have hnz : (p ||| n != 0) = false := by rw [bne, hz]; rfl
              rw [hnz] at hne
              have HF : Hid (provesR F l = .inr (truth, two)) := hide (by rw [unhide HEND, if_pos ⟨htail, by rw [unhide HEL, hz]⟩])
              clear htail hsl hz hnz
              cases truth with
              | true =>
                go_wp2_with fail
                go_quiet (fail)
                go_wp2_with fail
                refine bodyPost_ret (v := .tuple #[.int .i64 2, .int .i64 0, .int .i64 0, .int .i64 (two : Int)]) (by simp [results, Tryz.results57, go_sem]) rfl ⟨below_drewN hb nq, ?_⟩
                rw [unhide HF]; rfl
              | false =>
                go_wp2_with fail
                go_quiet (fail)
                go_wp2_with fail
                refine bodyPost_ret (v := .tuple #[.int .i64 1, .int .i64 0, .int .i64 0, .int .i64 (two : Int)]) (by simp [results, Tryz.results57, go_sem]) rfl ⟨below_drewN hb nq, ?_⟩
                rw [unhide HF]; rfl
        · have hsl : s < l.length := by
            have h1 : 0 < (cutTo 10 l).2.length := List.length_pos_iff.2 htail
            have := unhide HSK; omega
          have hq1 : decide ((s : Int) < (l.length : Int)) = true := by simp; omega
          have hq2 : decide (s < l.length) = true := by simp; omega
          have HF : Hid (provesR F l = .inl (5, (cutTo 10 l).1.length + 1)) := hide (by rw [unhide HEND, if_neg (fun h => htail h.1)])
          clear htail hsl
          go_wp2_with fail
          go_quiet (fail)
          go_wp2_with fail
          refine bodyPost_ret (v := .tuple #[.int .i64 0, .int .i64 5, .int .i64 (((cutTo 10 l).1.length : Int) + 1), .int .i64 0]) (by simp [results, Tryz.results57, go_sem]) rfl ⟨below_drewN hb nq, ?_⟩
          rw [unhide HF]; exact congrArg (fun m : Int => Ending.returned (.tuple #[.int .i64 0, .int .i64 5, .int .i64 m, .int .i64 0])) (by simp)
end Go.Proofs.YtgipjjhkhfihpaaGreatDoor

namespace Go.Proofs.YtgipjjhkhfihpaaGreatDoor
open Go.RowKit

/-! ### from, Truth -/
set_option maxRecDepth 100000 in
set_option maxHeartbeats 1600000 in
theorem from_any (lo b : Nat) (F : Form) (hl : F.order.length ≤ 8) (hnm : ∀ v ∈ F.order, v ≤ 8) (hall : F.all < 512) (hcl : ∀ c ∈ F.cl, c.1 < 512 ∧ c.2 < 512) (hcl2 : F.cl.length ≤ 24) :
    ∀ (d k t : Nat) (w : World), k + d = F.order.length → t < 512 → RefAt lo w b F →
    Calls Tryz.prog 85 #[.pointer (some ⟨b, 0, none⟩), .int .i64 k, .int .i64 t] w fun e w' => e = .returned (.bool (fromL (satB F.cl) F.all (F.order.drop k) t)) ∧ Below w.heap.size w w' := by
  intro d
  induction d with
  | zero =>
    intro k t w hk ht hR
    have hR0 := hR
    obtain ⟨_, vO, vE, vC, hfb, hO, _, _⟩ := hR
    obtain ⟨aO, cO, rfl⟩ := own_form hO
    have k0 : w.cell? ⟨b, 0, none⟩ = some (.slice aO F.order.length cO) := by rw [blk_cell hfb]; rfl
    have HF : Hid (fromL (satB F.cl) F.all (F.order.drop k) t = satB F.cl t) := hide (by rw [show k = F.order.length from by omega, List.drop_length]; rfl)
    have hkb : ((k : Int) == (F.order.length : Int)) = true := by rw [beq_iff_eq]; omega
    have hkb2 : (k == F.order.length) = true := by rw [beq_iff_eq]; omega
    clear hk
    go_enter Tryz.func85, Tryz.ntmps85
    go_wp2_with fail
    refine (satisfied_any lo b t F w hR0 ht hcl (by omega)).mono ?_
    rintro e w1 ⟨rfl, hb1⟩
    go_wp2_with fail
    go_ret
    exact ⟨ret_bool (unhide HF).symm, hb1⟩
  | succ d ih =>
    intro k t w hk ht hR
    have hR0 := hR
    obtain ⟨_, vO, vE, vC, hfb, hO, _, _⟩ := hR
    obtain ⟨aO, cO, rfl⟩ := own_form hO
    have hbw := blk_lt hfb
    have k0 : w.cell? ⟨b, 0, none⟩ = some (.slice aO F.order.length cO) := by rw [blk_cell hfb]; rfl
    have hkl : k < F.order.length := by omega
    obtain ⟨g, cap, hV, hg, hg', _, hcell⟩ := own_pos hO (by omega)
    injection hV with hV _ hV2
    subst hV hV2
    have hx : w.cell? ⟨g, k, none⟩ = some (.int .i64 (F.order[k] : Int)) := hcell _ _ (ints_at _ _ hkl)
    have hv8 := hnm _ (List.getElem_mem hkl)
    have HF : Hid (fromL (satB F.cl) F.all (F.order.drop k) t = if fromL (satB F.cl) F.all (F.order.drop (k + 1)) (t ||| 2 ^ F.order[k]) != F.all.testBit F.order[k] then fromL (satB F.cl) F.all (F.order.drop (k + 1)) (t ||| 2 ^ F.order[k]) else fromL (satB F.cl) F.all (F.order.drop (k + 1)) t) := hide (by rw [List.drop_eq_getElem_cons hkl]; rfl)
    have hkb : ((k : Int) == (F.order.length : Int)) = false := by rw [beq_eq_false_iff_ne]; omega
    have hkb2 : (k == F.order.length) = false := by rw [beq_eq_false_iff_ne]; omega
    have hkI : (k : Int) < (F.order.length : Int) := by omega
    have HK := hide hk
    have HNM := hide hnm
    have HCL := hide hcl
    clear hcell hk hnm hcl
    generalize F.order[k] = v at *
    have hor := or_bit t ht (v : Int) (by omega) (by omega)
    rw [Int.toNat_natCast] at hor
    have hp2 : 2 ^ v < 512 := by have := pow_bd v hv8; omega
    have hto := or_lt t (2 ^ v) ht hp2
    have HIH1 := hide (fun wx hx => ih (k + 1) (t ||| 2 ^ v) wx (by have := unhide HK; omega) hto hx)
    have HIH2 := hide (fun wx hx => ih (k + 1) t wx (by have := unhide HK; omega) ht hx)
    have hk1 : ((k : Int) + 1) = ((k + 1 : Nat) : Int) := by omega
    have HK1 := hide hk1
    clear ih hk1
    go_enter Tryz.func85, Tryz.ntmps85
    go_wp2_with fail
    rw [unhide HK1]
    refine (unhide HIH1 w hR0).mono ?_
    rintro e w1 ⟨rfl, hb1⟩
    have hR1 := hR0.later hb1
    have y1 : w1.cell? ⟨b, 1, none⟩ = some (.int .i64 F.all) := by rw [hb1.cell (p := ⟨b, 1, none⟩) hbw, blk_cell hfb]; rfl
    generalize fromL (satB F.cl) F.all (F.order.drop (k + 1)) (t ||| 2 ^ v) = a at *
    go_wp2_with fail
    refine (universal_any b F.all v w1 hall hv8 y1).mono ?_
    rintro e w2 ⟨rfl, hw2⟩
    subst hw2
    generalize F.all.testBit v = u at *
    cases a with
    | false =>
      cases u with
      | false =>
        have HG : Hid (fromL (satB F.cl) F.all (F.order.drop k) t = fromL (satB F.cl) F.all (F.order.drop (k + 1)) t) := hide (by rw [unhide HF]; rfl)
        go_wp2_with fail
        try rw [unhide HK1]
        refine (unhide HIH2 w2 hR1).mono ?_
        rintro e w3 ⟨rfl, hb3⟩
        have hb13 := below_trans hb1 hb3
        go_wp2_with fail
        go_ret
        exact ⟨ret_bool (unhide HG).symm, hb13⟩
      | true =>
        have HG : Hid (fromL (satB F.cl) F.all (F.order.drop k) t = false) := hide (by rw [unhide HF]; rfl)
        go_wp2_with fail
        go_ret
        exact ⟨ret_bool (unhide HG).symm, hb1⟩
    | true =>
      cases u with
      | false =>
        have HG : Hid (fromL (satB F.cl) F.all (F.order.drop k) t = true) := hide (by rw [unhide HF]; rfl)
        go_wp2_with fail
        go_ret
        exact ⟨ret_bool (unhide HG).symm, hb1⟩
      | true =>
        have HG : Hid (fromL (satB F.cl) F.all (F.order.drop k) t = fromL (satB F.cl) F.all (F.order.drop (k + 1)) t) := hide (by rw [unhide HF]; rfl)
        go_wp2_with fail
        try rw [unhide HK1]
        refine (unhide HIH2 w2 hR1).mono ?_
        rintro e w3 ⟨rfl, hb3⟩
        have hb13 := below_trans hb1 hb3
        go_wp2_with fail
        go_ret
        exact ⟨ret_bool (unhide HG).symm, hb13⟩

set_option maxRecDepth 100000 in
set_option maxHeartbeats 400000 in
theorem truth_any (lo b : Nat) (F : Form) (hl : F.order.length ≤ 8) (hnm : ∀ v ∈ F.order, v ≤ 8) (hall : F.all < 512) (hcl : ∀ c ∈ F.cl, c.1 < 512 ∧ c.2 < 512) (hcl2 : F.cl.length ≤ 24) (w : World) (hR : RefAt lo w b F) :
    Calls Tryz.prog 56 #[.pointer (some ⟨b, 0, none⟩)] w fun e w' => e = .returned (.bool (fromL (satB F.cl) F.all F.order 0)) ∧ Below w.heap.size w w' := by
  have HC : Hid (Calls Tryz.prog 85 #[.pointer (some ⟨b, 0, none⟩), .int .i64 0, .int .i64 0] w fun e w' => e = .returned (.bool (fromL (satB F.cl) F.all F.order 0)) ∧ Below w.heap.size w w') := hide (from_any lo b F hl hnm hall hcl hcl2 F.order.length 0 0 w (by omega) (by omega) hR)
  go_enter Tryz.func56, Tryz.ntmps56
  go_wp2_with fail
  refine (unhide HC).mono ?_
  rintro e w1 ⟨rfl, hb1⟩
  go_wp2_with fail
  go_ret
  exact ⟨rfl, hb1⟩
end Go.Proofs.YtgipjjhkhfihpaaGreatDoor
