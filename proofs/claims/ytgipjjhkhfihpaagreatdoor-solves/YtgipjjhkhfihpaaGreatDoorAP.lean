import Derived.Test.YtgipjjhkhfihpaaGreatDoorAO
import Derived.Test.YtgipjjhkhfihpaaGreatDoorAD
import Derived.Test.YtgipjjhkhfihpaaGreatDoorAE
import Derived.Test.YtgipjjhkhfihpaaGreatDoorAN
import Derived.Test.YtgipjjhkhfihpaaGreatDoorAM
import Derived.Deep.RegionWith
import Derived.Test.YtgipjjhkhfihpaaGreatDoorAC
namespace Go.Proofs.YtgipjjhkhfihpaaGreatDoor
open Go.RowKit

/-! ### Proves -/
theorem rowsR_append (F : Form) (truth : Bool) (a b : List (List UInt8)) : ∀ (ss : List (Nat × Nat)) (n : Nat), rowsR F truth ss n (a ++ b) = match rowsR F truth ss n a with
    | .inr i => .inr i
    | .inl ss' => rowsR F truth ss' (n + a.length) b := by
  induction a with
  | nil => intro ss n; rfl
  | cons r a ih =>
    intro ss n
    rw [List.cons_append, rowsR, rowsR]
    cases lineR F truth ss r with
    | none => rfl
    | some c =>
      dsimp only
      rw [ih, show n + 1 + a.length = n + (r :: a).length from by simp; omega]
theorem twoR_snoc (rs : List (List UInt8)) (r : List UInt8) : twoR (rs ++ [r]) = twoR rs + (if isTwo r then 1 else 0) := by
  unfold twoR
  rw [List.filter_append, List.length_append]
  congr 1
  cases h : isTwo r <;> simp [h]
/-- What Proves holds behind some lines. -/
def PState (F : Form) (rows : List (List UInt8)) (truth : Bool) (ss : List (Nat × Nat)) (two : Nat) : Prop :=
  (rows = [] ∧ truth = false ∧ ss = [] ∧ two = 0) ∨ ∃ r0 rs, rows = r0 :: rs ∧ (r0 = sTrue ∨ r0 = sFalse) ∧ truth = (r0 == sTrue) ∧ rowsR F truth [] 1 rs = .inl ss ∧ two = twoR rs
theorem twoR_le (rs : List (List UInt8)) : twoR rs ≤ rs.length := List.length_filter_le _ _
theorem PState.two_le {F : Form} {rows : List (List UInt8)} {truth : Bool} {ss : List (Nat × Nat)} {two : Nat} (h : PState F rows truth ss two) : two ≤ rows.length := by
  rcases h with ⟨_, _, _, rfl⟩ | ⟨r0, rs, rfl, _, _, _, rfl⟩
  · omega
  · have := twoR_le rs; simp; omega
/-- The first line is none. -/
theorem proves_first (F : Form) (l : List UInt8) (hl : ¬ 262144 < l.length) (row : List UInt8) (hp : [row] <+: (cutTo 10 l).1) (hr : ¬ (row = sTrue ∨ row = sFalse)) : provesR F l = .inl (5, 1) := by
  obtain ⟨rest, hrest⟩ := hp
  unfold provesR
  rw [if_neg hl, ← hrest]
  show (if row = sTrue ∨ row = sFalse then _ else _) = _
  rw [if_neg hr]
/-- A line further on is none. -/
theorem proves_line (F : Form) (l : List UInt8) (hl : ¬ 262144 < l.length) (r0 row : List UInt8) (rs : List (List UInt8)) (ss : List (Nat × Nat)) (hp : (r0 :: rs ++ [row]) <+: (cutTo 10 l).1) (hr : r0 = sTrue ∨ r0 = sFalse) (hrs : rowsR F (r0 == sTrue) [] 1 rs = .inl ss) (hn : lineR F (r0 == sTrue) ss row = none) : provesR F l = .inl (5, rs.length + 2) := by
  obtain ⟨rest, hrest⟩ := hp
  unfold provesR
  rw [if_neg hl, ← hrest, List.cons_append, List.cons_append]
  dsimp only
  rw [if_pos hr, List.append_assoc, rowsR_append, hrs]
  dsimp only
  rw [List.singleton_append, rowsR, hn]
  dsimp only
  rw [show 1 + rs.length + 1 = rs.length + 2 from by omega]
/-- All lines are steps. -/
theorem proves_end (F : Form) (l : List UInt8) (hl : ¬ 262144 < l.length) (truth : Bool) (ss : List (Nat × Nat)) (two : Nat) (h : PState F (cutTo 10 l).1 truth ss two) : provesR F l = if (cutTo 10 l).2 = [] ∧ emptyLast ss = true then .inr (truth, two) else .inl (5, (cutTo 10 l).1.length + 1) := by
  unfold provesR
  rw [if_neg hl]
  rcases h with ⟨h1, h2, h3, h4⟩ | ⟨r0, rs, h1, h2, h3, h4, h5⟩
  · rw [h1, h3]
    dsimp only
    rw [if_neg (by intro h; cases h.2)]
    rfl
  · rw [h1]
    dsimp only
    rw [if_pos h2, ← h3, h4, h5]
    rfl
theorem PState.step {F : Form} {rows : List (List UInt8)} {truth : Bool} {ss : List (Nat × Nat)} {two : Nat} (h : PState F rows truth ss two) (hne : rows ≠ []) (row : List UInt8) (c : Nat × Nat) (hl : lineR F truth ss row = some c) : PState F (rows ++ [row]) truth (ss ++ [c]) (two + if isTwo row then 1 else 0) := by
  rcases h with ⟨h1, _⟩ | ⟨r0, rs, h1, h2, h3, h4, h5⟩
  · exact absurd h1 hne
  · refine Or.inr ⟨r0, rs ++ [row], by rw [h1]; rfl, h2, h3, ?_, by rw [h5, twoR_snoc]⟩
    rw [rowsR_append, h4]
    dsimp only
    rw [rowsR, hl]
    rfl
theorem step_le {F : Form} {truth : Bool} {ss : List (Nat × Nat)} {row : List UInt8} {c : Nat × Nat} (h : lineR F truth ss row = some c) (hs : ss.length ≤ 9000) : ss.length + 1 ≤ 9000 := by
  unfold lineR at h
  split at h
  · cases h
  · split at h
    · cases h
    · next h9 => omega

def ProvesPost (F : Form) (l : List UInt8) (w : World) (e : Ending) (w' : World) : Prop :=
  Below w.heap.size w w' ∧ match provesR F l with
    | .inl (x, i) => e = .returned (.tuple #[.int .i64 0, .int .i64 (x : Int), .int .i64 (i : Int), .int .i64 0])
    | .inr (truth, two) => e = .returned (.tuple #[.int .i64 (if truth then 2 else 1), .int .i64 0, .int .i64 0, .int .i64 (two : Int)])

attribute [local go_sem] ba_get

set_option maxRecDepth 100000 in
set_option maxHeartbeats 12800000 in
theorem proves_any (lo b : Nat) (F : Form) (l : List UInt8) (w : World) (hR : RefAt lo w b F) (hF : FW F) :
    Calls Tryz.prog 57 #[.pointer (some ⟨b, 0, none⟩), .string ⟨l.toArray⟩] w fun e w' => ProvesPost F l w e w' := by
  by_cases hlong : 262144 < l.length
  · have hd : decide ((262144 : Int) < (l.length : Int)) = true := by simp; omega
    have HF : Hid (provesR F l = .inl (1, 0)) := hide (by unfold provesR; rw [if_pos hlong])
    clear hlong
    go_enter Tryz.func57, Tryz.ntmps57
    go_wp2_with fail
    refine bodyPost_ret (v := .tuple #[.int .i64 0, .int .i64 1, .int .i64 0, .int .i64 0]) (by simp [results, Tryz.results57, go_sem]) rfl ⟨Below.refl _ _, by rw [unhide HF]; rfl⟩
  · have hd : decide ((262144 : Int) < (l.length : Int)) = false := by simp; omega
    have hll : l.length ≤ 262144 := by omega
    have HLG := hide hlong
    clear hlong
    obtain ⟨i0, hi, hz0, hz1, hz2⟩ := info_parts Tryz.info121
    have HFW := hide hF
    have HBIT := hide hF.bits
    clear hF
    go_enter Tryz.func57, Tryz.ntmps57
    go_wp2_with fail
    go_loopg [8, 9, 10, 11, 12, 13] l.length (fun m tr v tw nn t i wx => ∃ (k s : Nat) (truth : Bool) (ss : List (Nat × Nat)) (two : Nat) (tt : List UInt8), i = .int .i64 k ∧ k + m = l.length ∧ tr = .bool truth ∧ tw = .int .i64 two ∧ nn = .int .i64 ((cutTo 10 (l.take k)).1.length : Nat) ∧ t = S tt ∧ tt.length = s ∧ s + (cutTo 10 (l.take k)).2.length = k ∧
      wx.ownsRow w.heap.size 121 2 v ss.length (pairs ss) ∧ Below w.heap.size w wx ∧ PState F (cutTo 10 (l.take k)).1 truth ss two ∧ ss.length ≤ 9000 ∧ (∀ c ∈ ss, Bd c))
    case atStart => exact ⟨0, 0, false, [], 0, [], rfl, by omega, rfl, rfl, rfl, rfl, rfl, rfl, World.ownsRow_nil _ _ _ _, Below.refl _ _, Or.inl ⟨rfl, rfl, rfl, rfl⟩, by simp, by simp⟩
    case round =>
      obtain ⟨k, s, truth, ss, two, tt, rfl, hkm, rfl, rfl, rfl, rfl, hts, hsk, hown, hb, hst, hs9, hbd⟩ := hrel
      have HST := hide hst
      have HBD := hide hbd
      have HSK := hide hsk
      have htl := hst.two_le
      have hcs := cutTo_size 10 (l.take k)
      rw [List.length_take] at hcs
      have hsle : s ≤ k := by omega
      have HP := hide (cut_piece 10 l k s (by omega) hsk)
      clear hst hbd hsk
      have hbs := hb.size
      obtain ⟨aS, cS, rfl⟩ := own_form hown
      by_cases hlt : k < l.length
      · have hdl : decide ((k : Int) < (l.length : Int)) = true := by simp; omega
        by_cases hc : l[k] = 10
        · have hcb : ((l[k].toNat : Int) != 10) = false := by rw [hc]; rfl
          have HCT : Hid (cutTo 10 (l.take (k + 1)) = ((cutTo 10 (l.take k)).1 ++ [(cutTo 10 (l.take k)).2], [])) := hide (by rw [cutTo_take 10 l k hlt]; unfold cutStep; rw [if_pos hc])
          have HPX := hide (cutTo_prefix 10 l (k + 1))
          rw [unhide HCT] at HPX
          have htx : (ByteArray.mk l.toArray).extract 0 (k + 1) = ⟨(l.take (k + 1)).toArray⟩ := by rw [ba_extract]; rfl
          have hrw : (ByteArray.mk l.toArray).extract s k = ⟨((cutTo 10 (l.take k)).2).toArray⟩ := by rw [ba_extract, unhide HP]
          have hrl : (cutTo 10 (l.take k)).2.length ≤ 262144 := by omega
          have hrn : (cutTo 10 (l.take k)).1.length ≤ 262144 := by omega
          clear hc
          generalize (cutTo 10 (l.take k)).2 = row at *
          generalize hrows : (cutTo 10 (l.take k)).1 = rows at *
          clear hrows
          by_cases hr0 : rows.length = 0
          · have hz : rows = [] := List.eq_nil_of_length_eq_zero hr0
            subst hz
            rcases unhide HST with ⟨_, htr, hss, htw⟩ | ⟨r0, rs, h1, _⟩
            · subst htr hss htw
              by_cases ht : row = sTrue
              · have hrt : (row == [112, 114, 111, 111, 102, 32, 116, 114, 117, 101]) = true := by rw [ht]; rfl
                have HST2 : Hid (PState F [row] true [] 0) := hide (Or.inr ⟨row, [], rfl, Or.inl ht, by rw [ht]; rfl, rfl, rfl⟩)
                clear ht
                go_wp2_with fail
                go_roundg (gk - 1)
                case measure => omega
                case rel =>
                  refine ⟨k + 1, k + 1, true, [], 0, l.take (k + 1), by go_num, by omega, rfl, rfl, by rw [unhide HCT]; rfl, rfl, by simp; omega, by rw [unhide HCT]; rfl, hown, hb, ?_, hs9, unhide HBD⟩
                  rw [unhide HCT]; exact unhide HST2
              · have hrt : (row == [112, 114, 111, 111, 102, 32, 116, 114, 117, 101]) = false := by rw [beq_eq_false_iff_ne]; exact ht
                by_cases hf : row = sFalse
                · have hrf : (row == [112, 114, 111, 111, 102, 32, 102, 97, 108, 115, 101]) = true := by rw [hf]; rfl
                  have HST2 : Hid (PState F [row] false [] 0) := hide (Or.inr ⟨row, [], rfl, Or.inr hf, by rw [hf]; rfl, rfl, rfl⟩)
                  clear ht hf
                  go_wp2_with fail
                  go_roundg (gk - 1)
                  case measure => omega
                  case rel =>
                    refine ⟨k + 1, k + 1, false, [], 0, l.take (k + 1), by go_num, by omega, rfl, rfl, by rw [unhide HCT]; rfl, rfl, by simp; omega, by rw [unhide HCT]; rfl, hown, hb, ?_, hs9, unhide HBD⟩
                    rw [unhide HCT]; exact unhide HST2
                · have hrf : (row == [112, 114, 111, 111, 102, 32, 102, 97, 108, 115, 101]) = false := by rw [beq_eq_false_iff_ne]; exact hf
                  have HF : Hid (provesR F l = .inl (5, 1)) := hide (proves_first F l (unhide HLG) row (unhide HPX) (fun h => h.elim ht hf))
                  clear ht hf
                  go_wp2_with fail
                  refine bodyPost_ret (v := .tuple #[.int .i64 0, .int .i64 5, .int .i64 1, .int .i64 0]) (by simp [results, Tryz.results57, go_sem]) rfl ⟨hb, by rw [unhide HF]; rfl⟩
            · cases h1
          · have hn1 : (((rows.length : Nat) : Int) + 1 == 1) = false := by rw [beq_eq_false_iff_ne]; omega
            have HNE : Hid (rows ≠ []) := hide (fun e => hr0 (by rw [e]; rfl))
            clear hr0
            have HNONE : Hid (lineR F truth ss row = none → provesR F l = .inl (5, rows.length + 1)) := hide (fun hn => by
              rcases unhide HST with ⟨h1, _⟩ | ⟨r0, rs, h1, h2, h3, h4, _⟩
              · exact absurd h1 (unhide HNE)
              · have hpx := unhide HPX
                rw [h1] at hpx ⊢
                rw [h3] at h4 hn
                exact proves_line F l (unhide HLG) r0 row rs ss hpx h2 h4 hn)
            go_wp2_with fail
            refine (cut_any row 32 wr (by omega)).mono ?_
            rintro e w1 ⟨v, rfl, hown1, hb1⟩
            have hB1 : Below w.heap.size w w1 := hb.trans (hb1.mono hbs)
            have hwl : (cutAt 32 row).length ≤ 262145 := by have := cutTo_size 32 row; simp [cutAt]; omega
            have hwl2 : ∀ x ∈ cutAt 32 row, x.length ≤ 1048576 := fun x hx => by have := cutAt_len 32 row x hx; omega
            obtain ⟨hd, tl, hws⟩ : ∃ hd tl, cutAt 32 row = hd :: tl := by
              cases h : cutAt 32 row with
              | nil => simp [cutAt] at h
              | cons a b => exact ⟨a, b, rfl⟩
            have HLR := hide (lineR_eq F truth ss row hd tl hws)
            have HTWO : Hid (isTwo row = (hd == [114])) := hide (by unfold isTwo; rw [hws]; rfl)
            rw [hws] at hown1 hwl hwl2
            clear hws
            rcases hown1.2 with ⟨_, h0⟩ | ⟨g, cap, cur, rfl, hbg, hg, hnc, hcm, hcs2, htake⟩
            · simp at h0
            simp only [List.length_cons] at hwl hnc
            have hSTR : StrsAt w1 (some ⟨g, 0, none⟩) (hd :: tl) := fun _ => ⟨g, 0, cur, rfl, hg, fun j hj => by
              have h1 := hown1.cellAt j (by simpa using hj)
              rw [blk_cell hg] at h1
              rw [Nat.zero_add, h1, List.getElem?_map, List.getElem?_eq_getElem hj]; rfl⟩
            have hIn : StepIn lo b F ss aS cS w.heap.size hd tl g 0 cap w1 := ⟨hR.later hB1, unhide HFW, own_below hown hb1, hs9, unhide HBD, hSTR, by omega, by omega, fun x hx => hwl2 x (List.mem_cons_of_mem _ hx)⟩
            have HIN := hide hIn
            have hwc : w1.cell? ⟨g, 0, none⟩ = some (S hd) := by rw [hown1.cellAt 0 (by simp)]; rfl
            have hownw := own_below hown hb1
            have hgw := blk_lt hg
            clear hwl2 htake hcs2 hcm hIn hSTR hown1
            simp only [List.length_cons]
            go_wp2_with fail
            refine (step_any lo b F ss aS cS w.heap.size truth hd tl g 0 cap w1 (unhide HIN)).mono ?_
            rintro e w2 ⟨hb2, c, ok, rfl, hok⟩
            obtain ⟨p, n⟩ := c
            dsimp only
            have hB2 : Below w.heap.size w w2 := hB1.trans (hb2.mono hB1.size)
            have hBz : Below w.heap.size w (w2.alloc (.cells #[.int .i64 (p : Int), .int .i64 (n : Int)] 121)) := hB2.alloc hB2.size _
            have hownz : (w2.alloc (.cells #[.int .i64 (p : Int), .int .i64 (n : Int)] 121)).ownsRow w.heap.size 121 2 (.slice aS ss.length cS) ss.length (pairs ss) := (own_below hownw hb2).alloc _
            have hbsz := hBz.size
            have hwc2 : w2.cell? ⟨g, 0, none⟩ = some (S hd) := by rw [hb2.cell (p := ⟨g, 0, none⟩) hgw]; exact hwc
            have hgw2 : g < w2.heap.size := cell_lt hwc2
            rcases hok with ⟨rfl, hok⟩ | ⟨rfl, hok⟩
            · by_cases h9 : ss.length = 9000
              · have hq9 : ((ss.length : Int) == 9000) = true := by rw [beq_iff_eq]; omega
                have HF : Hid (provesR F l = .inl (5, rows.length + 1)) := hide (unhide HNONE (by rw [unhide HLR, if_pos h9]))
                clear hok h9
                go_wp2_with fail
                refine bodyPost_ret (v := .tuple #[.int .i64 0, .int .i64 5, .int .i64 ((rows.length : Int) + 1), .int .i64 0]) (by simp [results, Tryz.results57, go_sem]) rfl ⟨hBz, ?_⟩
                rw [unhide HF]; exact congrArg (fun m : Int => Ending.returned (.tuple #[.int .i64 0, .int .i64 5, .int .i64 m, .int .i64 0])) (by simp)
              · have hq9 : ((ss.length : Int) == 9000) = false := by rw [beq_eq_false_iff_ne]; omega
                have HLS : Hid (lineR F truth ss row = some (p, n)) := hide (by rw [unhide HLR, if_neg h9]; exact hok)
                have HCB : Hid (Bd (p, n)) := hide (stepR_bd F truth ss hd tl (p, n) (unhide HBIT) (unhide HBD) hok)
                clear hok h9
                by_cases hr : hd = [114]
                · subst hr
                  have HTW : Hid ((if isTwo row then 1 else 0) = 1) := hide (by rw [unhide HTWO]; rfl)
                  go_wp2_with (at_builtin; refine wpList_append_new' rfl _ _ 90 rfl w.heap.size i0 (.agg #[.int .i64 0, .int .i64 0]) 2 16 Tryz.underlying90 hi hz0 hz1 hz2 rfl (by decide) _ _ _ hownz rfl _ rfl (by simp) rfl (by simp [Value.oneCell']) (by unfold maxLen; omega) (by omega) hbsz ?_; intro v' w4 hown4 hgrow hnn)
                  go_roundg (gk - 1)
                  case measure => omega
                  case rel =>
                    refine ⟨k + 1, k + 1, truth, ss ++ [(p, n)], two + 1, l.take (k + 1), by go_num, by omega, rfl, by go_num, by rw [unhide HCT]; exact congrArg (Value.int .i64) (by simp), rfl, by simp; omega, by rw [unhide HCT]; rfl, ?_, below_grown hBz hgrow hownz (Nat.le_refl _) hbsz, ?_, ?_, ?_⟩
                    · rw [pairs_snoc]; simpa using hown4
                    · rw [unhide HCT]
                      have := (unhide HST).step (unhide HNE) row (p, n) (unhide HLS)
                      rw [unhide HTW] at this
                      exact this
                    · have := step_le (unhide HLS) hs9; simpa using this
                    · intro c hc
                      rcases List.mem_append.1 hc with hc | hc
                      · exact unhide HBD c hc
                      · simp at hc; subst hc; exact unhide HCB
                · have hrb : (hd == [114]) = false := by simp [hr]
                  have HTW : Hid ((if isTwo row then 1 else 0) = 0) := hide (by rw [unhide HTWO, hrb]; rfl)
                  clear hr
                  go_wp2_with (at_builtin; refine wpList_append_new' rfl _ _ 90 rfl w.heap.size i0 (.agg #[.int .i64 0, .int .i64 0]) 2 16 Tryz.underlying90 hi hz0 hz1 hz2 rfl (by decide) _ _ _ hownz rfl _ rfl (by simp) rfl (by simp [Value.oneCell']) (by unfold maxLen; omega) (by omega) hbsz ?_; intro v' w4 hown4 hgrow hnn)
                  go_roundg (gk - 1)
                  case measure => omega
                  case rel =>
                    refine ⟨k + 1, k + 1, truth, ss ++ [(p, n)], two, l.take (k + 1), by go_num, by omega, rfl, rfl, by rw [unhide HCT]; exact congrArg (Value.int .i64) (by simp), rfl, by simp; omega, by rw [unhide HCT]; rfl, ?_, below_grown hBz hgrow hownz (Nat.le_refl _) hbsz, ?_, ?_, ?_⟩
                    · rw [pairs_snoc]; simpa using hown4
                    · rw [unhide HCT]
                      have := (unhide HST).step (unhide HNE) row (p, n) (unhide HLS)
                      rw [unhide HTW] at this
                      exact this
                    · have := step_le (unhide HLS) hs9; simpa using this
                    · intro c hc
                      rcases List.mem_append.1 hc with hc | hc
                      · exact unhide HBD c hc
                      · simp at hc; subst hc; exact unhide HCB
            · have HF : Hid (provesR F l = .inl (5, rows.length + 1)) := hide (unhide HNONE (by
                rw [unhide HLR]
                split
                · rfl
                · exact hok))
              clear hok
              go_wp2_with fail
              refine bodyPost_ret (v := .tuple #[.int .i64 0, .int .i64 5, .int .i64 ((rows.length : Int) + 1), .int .i64 0]) (by simp [results, Tryz.results57, go_sem]) rfl ⟨hBz, ?_⟩
              rw [unhide HF]; exact congrArg (fun m : Int => Ending.returned (.tuple #[.int .i64 0, .int .i64 5, .int .i64 m, .int .i64 0])) (by simp)
        · have hcb : ((l[k].toNat : Int) != 10) = true := by
            rw [bne_iff_ne]; intro e; exact hc (by apply UInt8.toNat_inj.1; show _ = 10; omega)
          have HCT : Hid (cutTo 10 (l.take (k + 1)) = ((cutTo 10 (l.take k)).1, (cutTo 10 (l.take k)).2 ++ [l[k]])) := hide (by rw [cutTo_take 10 l k hlt]; unfold cutStep; rw [if_neg hc])
          clear hc
          go_wp2_with fail
          go_roundg (gk - 1)
          case measure => omega
          case rel =>
            refine ⟨k + 1, s, truth, ss, two, tt, by go_num, by omega, rfl, rfl, by rw [unhide HCT], rfl, hts, ?_, hown, hb, ?_, hs9, unhide HBD⟩
            · rw [unhide HCT]; have := unhide HSK; simp; omega
            · rw [unhide HCT]; exact unhide HST
      · have hkl : k = l.length := by omega
        subst hkl
        have HT : Hid (l.take l.length = l) := hide List.take_length
        rw [unhide HT] at HST HSK hcs ⊢
        have hdl : decide ((l.length : Int) < (l.length : Int)) = false := by simp
        have HEND := hide (proves_end F l (unhide HLG) truth ss two (unhide HST))
        have hrn : (cutTo 10 l).1.length ≤ 262144 := by omega
        clear HP
        by_cases htail : (cutTo 10 l).2 = []
        · have hsl : ¬ s < l.length := by have := unhide HSK; rw [htail] at this; simp at this; omega
          have hq1 : decide ((s : Int) < (l.length : Int)) = false := by simp; omega
          have hq2 : decide (s < l.length) = false := by simp; omega
          by_cases hss : ss = []
          · have HF : Hid (provesR F l = .inl (5, (cutTo 10 l).1.length + 1)) := hide (by rw [unhide HEND, hss, if_neg (by intro h; cases h.2)])
            subst hss
            clear htail hsl
            go_wp2_with fail
            go_quiet (fail)
            go_wp2_with fail
            refine bodyPost_ret (v := .tuple #[.int .i64 0, .int .i64 5, .int .i64 (((cutTo 10 l).1.length : Int) + 1), .int .i64 0]) (by simp [results, Tryz.results57, go_sem]) rfl ⟨below_drewN hb nq, ?_⟩
            rw [unhide HF]; exact congrArg (fun m : Int => Ending.returned (.tuple #[.int .i64 0, .int .i64 5, .int .i64 m, .int .i64 0])) (by simp)
          · have hpos : 0 < ss.length := List.length_pos_iff.2 hss
            obtain ⟨m, hm⟩ : ∃ m, ss.length = m + 1 := ⟨ss.length - 1, by omega⟩
            have hml : m < ss.length := by omega
            have HEL : Hid (emptyLast ss = (ss[m].1 ||| ss[m].2 == 0)) := hide (by
              unfold emptyLast
              have : ss.getLast? = some ss[m] := by rw [List.getLast?_eq_getElem?, show ss.length - 1 = m from by omega, List.getElem?_eq_getElem hml]
              rw [this])
            obtain ⟨g, cap, hVe, hg, hg', _, hcell⟩ := own_pos hown (by omega)
            injection hVe with hVe _ hV2
            subst hVe hV2
            obtain ⟨ha, hb'⟩ := pairs_at ss m hml
            have hx0 : wr.cell? ⟨g, m * 2, none⟩ = some (.int .i64 (ss[m].1 : Int)) := hcell _ _ ha
            have hx1 : wr.cell? ⟨g, m * 2 + 1, none⟩ = some (.int .i64 (ss[m].2 : Int)) := hcell _ _ hb'
            have hlt9 := unhide HBD _ (List.getElem_mem hml)
            clear hcell ha hb' hss hpos
            generalize ss[m] = c at *
            obtain ⟨p, n⟩ := c
            have hp9 : p < 512 := hlt9.1
            have hn9 : n < 512 := hlt9.2
            dsimp only at hx0 hx1 HEL
            have hor : bits .or .i64 (p : Int) (n : Int) = ((p ||| n : Nat) : Int) := i64_or _ _ (by omega) (by omega)
            have hne : (((p ||| n : Nat) : Int) != 0) = (p ||| n != 0) := by rw [Bool.eq_iff_iff, bne_iff_ne, bne_iff_ne]; omega
            have hmI : (m : Int) < (ss.length : Int) := by omega
            have hmI2 : (m : Int) < (m : Int) + 1 := by omega
            have hwm : IntKind.i64.wrap (m : Int) = (m : Int) := wrap_i64_nat m (by omega)
            have hm0 : decide ((m : Int) < 0) = false := by simp
            rw [hm]
            rw [hm] at hown
            have HTAIL := hide htail
            cases hz : (p ||| n == 0) with
            | false =>
              have hnz : (p ||| n != 0) = true := by rw [bne, hz]; rfl
              rw [hnz] at hne
              have HF : Hid (provesR F l = .inl (5, (cutTo 10 l).1.length + 1)) := hide (by rw [unhide HEND, if_neg (by rw [unhide HEL, hz]; intro h; cases h.2)])
              clear htail hsl hz hnz
              go_wp2_with fail
              go_quiet (fail)
              go_wp2_with fail
              refine bodyPost_ret (v := .tuple #[.int .i64 0, .int .i64 5, .int .i64 (((cutTo 10 l).1.length : Int) + 1), .int .i64 0]) (by simp [results, Tryz.results57, go_sem]) rfl ⟨below_drewN hb nq, ?_⟩
              rw [unhide HF]; exact congrArg (fun m : Int => Ending.returned (.tuple #[.int .i64 0, .int .i64 5, .int .i64 m, .int .i64 0])) (by simp)
            | true =>
              have hnz : (p ||| n != 0) = false := by rw [bne, hz]; rfl
              rw [hnz] at hne
              have HF : Hid (provesR F l = .inr (truth, two)) := hide (by rw [unhide HEND, if_pos ⟨htail, by rw [unhide HEL, hz]⟩])
              clear htail hsl hz hnz
              cases truth with
              | true =>
                go_wp2_with fail
                go_quiet (fail)
                go_wp2_with fail
                refine bodyPost_ret (v := .tuple #[.int .i64 2, .int .i64 0, .int .i64 0, .int .i64 (two : Int)]) (by simp [results, Tryz.results57, go_sem]) rfl ⟨below_drewN hb nq, ?_⟩
                rw [unhide HF]; rfl
              | false =>
                go_wp2_with fail
                go_quiet (fail)
                go_wp2_with fail
                refine bodyPost_ret (v := .tuple #[.int .i64 1, .int .i64 0, .int .i64 0, .int .i64 (two : Int)]) (by simp [results, Tryz.results57, go_sem]) rfl ⟨below_drewN hb nq, ?_⟩
                rw [unhide HF]; rfl
        · have hsl : s < l.length := by
            have h1 : 0 < (cutTo 10 l).2.length := List.length_pos_iff.2 htail
            have := unhide HSK; omega
          have hq1 : decide ((s : Int) < (l.length : Int)) = true := by simp; omega
          have hq2 : decide (s < l.length) = true := by simp; omega
          have HF : Hid (provesR F l = .inl (5, (cutTo 10 l).1.length + 1)) := hide (by rw [unhide HEND, if_neg (fun h => htail h.1)])
          clear htail hsl
          go_wp2_with fail
          go_quiet (fail)
          go_wp2_with fail
          refine bodyPost_ret (v := .tuple #[.int .i64 0, .int .i64 5, .int .i64 (((cutTo 10 l).1.length : Int) + 1), .int .i64 0]) (by simp [results, Tryz.results57, go_sem]) rfl ⟨below_drewN hb nq, ?_⟩
          rw [unhide HF]; exact congrArg (fun m : Int => Ending.returned (.tuple #[.int .i64 0, .int .i64 5, .int .i64 m, .int .i64 0])) (by simp)
end Go.Proofs.YtgipjjhkhfihpaaGreatDoor

namespace Go.Proofs.YtgipjjhkhfihpaaGreatDoor
open Go.RowKit

/-! ### from, Truth -/
theorem fromL_cons (sat : Nat → Bool) (all v : Nat) (vs : List Nat) (t : Nat) : fromL sat all (v :: vs) t = if fromL sat all vs (t ||| 2 ^ v) != all.testBit v then fromL sat all vs (t ||| 2 ^ v) else fromL sat all vs t := rfl

set_option maxRecDepth 100000 in
set_option maxHeartbeats 1600000 in
theorem from_any (lo b : Nat) (F : Form) (hl : F.order.length ≤ 8) (hnm : ∀ v ∈ F.order, v ≤ 8) (hall : F.all < 512) (hcl : ∀ c ∈ F.cl, c.1 < 512 ∧ c.2 < 512) (hcl2 : F.cl.length ≤ 24) :
    ∀ (d k t : Nat) (w : World), k + d = F.order.length → t < 512 → RefAt lo w b F →
    Calls Tryz.prog 85 #[.pointer (some ⟨b, 0, none⟩), .int .i64 k, .int .i64 t] w fun e w' => e = .returned (.bool (fromL (satB F.cl) F.all (F.order.drop k) t)) ∧ Below w.heap.size w w' := by
  intro d
  induction d with
  | zero =>
    intro k t w hk ht hR
    have hR0 := hR
    obtain ⟨_, vO, vE, vC, hfb, hO, _, _⟩ := hR
    obtain ⟨aO, cO, rfl⟩ := own_form hO
    have k0 : w.cell? ⟨b, 0, none⟩ = some (.slice aO F.order.length cO) := by rw [blk_cell hfb]; rfl
    have HF : Hid (fromL (satB F.cl) F.all (F.order.drop k) t = satB F.cl t) := hide (by rw [show k = F.order.length from by omega, List.drop_length]; rfl)
    have hkb : ((k : Int) == (F.order.length : Int)) = true := by rw [beq_iff_eq]; omega
    have hkb2 : (k == F.order.length) = true := by rw [beq_iff_eq]; omega
    clear hk
    go_enter Tryz.func85, Tryz.ntmps85
    go_wp2_with fail
    refine (satisfied_any lo b t F w hR0 ht hcl (by omega)).mono ?_
    rintro e w1 ⟨rfl, hb1⟩
    go_wp2_with fail
    go_ret
    exact ⟨ret_bool (unhide HF).symm, hb1⟩
  | succ d ih =>
    intro k t w hk ht hR
    have hR0 := hR
    obtain ⟨_, vO, vE, vC, hfb, hO, _, _⟩ := hR
    obtain ⟨aO, cO, rfl⟩ := own_form hO
    have hbw := blk_lt hfb
    have k0 : w.cell? ⟨b, 0, none⟩ = some (.slice aO F.order.length cO) := by rw [blk_cell hfb]; rfl
    have hkl : k < F.order.length := by omega
    obtain ⟨g, cap, hV, hg, hg', _, hcell⟩ := own_pos hO (by omega)
    injection hV with hV _ hV2
    subst hV hV2
    have hx : w.cell? ⟨g, k, none⟩ = some (.int .i64 (F.order[k] : Int)) := hcell _ _ (ints_at _ _ hkl)
    have hv8 := hnm _ (List.getElem_mem hkl)
    have HF : Hid (fromL (satB F.cl) F.all (F.order.drop k) t = if fromL (satB F.cl) F.all (F.order.drop (k + 1)) (t ||| 2 ^ F.order[k]) != F.all.testBit F.order[k] then fromL (satB F.cl) F.all (F.order.drop (k + 1)) (t ||| 2 ^ F.order[k]) else fromL (satB F.cl) F.all (F.order.drop (k + 1)) t) := hide (by rw [List.drop_eq_getElem_cons hkl]; rfl)
    have hkb : ((k : Int) == (F.order.length : Int)) = false := by rw [beq_eq_false_iff_ne]; omega
    have hkb2 : (k == F.order.length) = false := by rw [beq_eq_false_iff_ne]; omega
    have hkI : (k : Int) < (F.order.length : Int) := by omega
    have HK := hide hk
    have HNM := hide hnm
    have HCL := hide hcl
    clear hcell hk hnm hcl
    generalize F.order[k] = v at *
    have hor := or_bit t ht (v : Int) (by omega) (by omega)
    rw [Int.toNat_natCast] at hor
    have hp2 : 2 ^ v < 512 := by have := pow_bd v hv8; omega
    have hto := or_lt t (2 ^ v) ht hp2
    have HIH1 := hide (fun wx hx => ih (k + 1) (t ||| 2 ^ v) wx (by have := unhide HK; omega) hto hx)
    have HIH2 := hide (fun wx hx => ih (k + 1) t wx (by have := unhide HK; omega) ht hx)
    have hk1 : ((k : Int) + 1) = ((k + 1 : Nat) : Int) := by omega
    have HK1 := hide hk1
    clear ih hk1
    go_enter Tryz.func85, Tryz.ntmps85
    go_wp2_with fail
    rw [unhide HK1]
    refine (unhide HIH1 w hR0).mono ?_
    rintro e w1 ⟨rfl, hb1⟩
    have hR1 := hR0.later hb1
    have y1 : w1.cell? ⟨b, 1, none⟩ = some (.int .i64 F.all) := by rw [hb1.cell (p := ⟨b, 1, none⟩) hbw, blk_cell hfb]; rfl
    generalize fromL (satB F.cl) F.all (F.order.drop (k + 1)) (t ||| 2 ^ v) = a at *
    go_wp2_with fail
    refine (universal_any b F.all v w1 hall hv8 y1).mono ?_
    rintro e w2 ⟨rfl, hw2⟩
    subst hw2
    generalize F.all.testBit v = u at *
    cases a with
    | false =>
      cases u with
      | false =>
        have HG : Hid (fromL (satB F.cl) F.all (F.order.drop k) t = fromL (satB F.cl) F.all (F.order.drop (k + 1)) t) := hide (by rw [unhide HF]; rfl)
        go_wp2_with fail
        try rw [unhide HK1]
        refine (unhide HIH2 w2 hR1).mono ?_
        rintro e w3 ⟨rfl, hb3⟩
        have hb13 := below_trans hb1 hb3
        go_wp2_with fail
        go_ret
        exact ⟨ret_bool (unhide HG).symm, hb13⟩
      | true =>
        have HG : Hid (fromL (satB F.cl) F.all (F.order.drop k) t = false) := hide (by rw [unhide HF]; rfl)
        go_wp2_with fail
        go_ret
        exact ⟨ret_bool (unhide HG).symm, hb1⟩
    | true =>
      cases u with
      | false =>
        have HG : Hid (fromL (satB F.cl) F.all (F.order.drop k) t = true) := hide (by rw [unhide HF]; rfl)
        go_wp2_with fail
        go_ret
        exact ⟨ret_bool (unhide HG).symm, hb1⟩
      | true =>
        have HG : Hid (fromL (satB F.cl) F.all (F.order.drop k) t = fromL (satB F.cl) F.all (F.order.drop (k + 1)) t) := hide (by rw [unhide HF]; rfl)
        go_wp2_with fail
        try rw [unhide HK1]
        refine (unhide HIH2 w2 hR1).mono ?_
        rintro e w3 ⟨rfl, hb3⟩
        have hb13 := below_trans hb1 hb3
        go_wp2_with fail
        go_ret
        exact ⟨ret_bool (unhide HG).symm, hb13⟩

set_option maxRecDepth 100000 in
set_option maxHeartbeats 400000 in
theorem truth_any (lo b : Nat) (F : Form) (hl : F.order.length ≤ 8) (hnm : ∀ v ∈ F.order, v ≤ 8) (hall : F.all < 512) (hcl : ∀ c ∈ F.cl, c.1 < 512 ∧ c.2 < 512) (hcl2 : F.cl.length ≤ 24) (w : World) (hR : RefAt lo w b F) :
    Calls Tryz.prog 56 #[.pointer (some ⟨b, 0, none⟩)] w fun e w' => e = .returned (.bool (fromL (satB F.cl) F.all F.order 0)) ∧ Below w.heap.size w w' := by
  have HC : Hid (Calls Tryz.prog 85 #[.pointer (some ⟨b, 0, none⟩), .int .i64 0, .int .i64 0] w fun e w' => e = .returned (.bool (fromL (satB F.cl) F.all F.order 0)) ∧ Below w.heap.size w w') := hide (from_any lo b F hl hnm hall hcl hcl2 F.order.length 0 0 w (by omega) (by omega) hR)
  go_enter Tryz.func56, Tryz.ntmps56
  go_wp2_with fail
  refine (unhide HC).mono ?_
  rintro e w1 ⟨rfl, hb1⟩
  go_wp2_with fail
  go_ret
  exact ⟨rfl, hb1⟩
end Go.Proofs.YtgipjjhkhfihpaaGreatDoor

namespace Go.Proofs.YtgipjjhkhfihpaaGreatDoor
open Go.RowKit

/-! ### solves -/
def SolvesPost (bw : Nat) (text proof : List UInt8) (px pf : Option Addr) (c4 c5 c6 : Value) (w : World) (e : Ending) (w' : World) : Prop :=
  e = .returned (.bool true) ∧ Only (· = bw) w w' ∧ ∃ proof', WAt w' bw text px pf proof' c4 c5 c6 ∧ proof'.length ≤ max proof.length 262144
set_option maxRecDepth 100000 in
set_option maxHeartbeats 6400000 in
theorem solves_bad (bw b1 b2 _lo : Nat) (q : QS) (a l : Int) (text proof : List UInt8) (c4 c5 c6 : Value) (w : World) (hw : WAt w bw text (some ⟨b1, 0, none⟩) (some ⟨b2, 0, none⟩) proof c4 c5 c6) (hln : loadSpec text = .inr q) (h : a < 0 ∨ 1048576 < a ∨ l < 0 ∨ 64 < l) :
    Calls Tryz.prog 32 #[.pointer (some ⟨bw, 0, none⟩), .int .i64 a, .int .i64 l] w fun e w' => SolvesPost bw text proof (some ⟨b1, 0, none⟩) (some ⟨b2, 0, none⟩) c4 c5 c6 w e w' := by
  have hbw : bw < w.heap.size := blk_lt hw
  have k1 : w.cell? ⟨bw, 1, none⟩ = some (.pointer (some ⟨b1, 0, none⟩)) := by rw [blk_cell hw]; rfl
  have HV : Hid (VdV ⟨0, 0, 0, []⟩ = .agg #[.int .i64 0, .int .i64 0, .int .i64 0, .string ⟨#[]⟩]) := hide rfl
  have HLN := hide hln
  clear hln
  go_enter Tryz.func32, Tryz.ntmps32
  go_wp2_with fail
  refine (dsolve_bad b1 a l w h).mono ?_
  rintro e u1 ⟨rfl, c1⟩
  rw [unhide HV]
  have hw1 := hw.later c1
  have hA1 : Below u1.heap.size u1 (u1.alloc (.cells #[.int .i64 0, .int .i64 0, .int .i64 0, .string ⟨#[]⟩] 54)) := (Below.refl _ _).alloc (Nat.le_refl _) _
  have hw1a := hw1.later hA1
  have hv1 := heap_alloc_new u1 (.cells #[.int .i64 0, .int .i64 0, .int .i64 0, .string ⟨#[]⟩] 54)
  have k0 : (u1.alloc (.cells #[.int .i64 0, .int .i64 0, .int .i64 0, .string ⟨#[]⟩] 54)).cell? ⟨bw, 0, none⟩ = some (S text) := by rw [blk_cell hw1a]; rfl
  have l1 := blk_lt hw1a
  have hB1 := c1.trans (hA1.mono c1.size)
  go_wp2_with fail
  generalize (u1.alloc (.cells #[.int .i64 0, .int .i64 0, .int .i64 0, .string ⟨#[]⟩] 54)) = u2 at *
  refine (load_any text u2).mono ?_
  rintro e u3 ⟨c3, hp3⟩
  rw [unhide HLN] at hp3
  obtain ⟨by_, rfl, hPy⟩ := hp3
  have hw3 := hw1a.later c3
  have hv3 := (c3.block _ (blk_lt hv1)).trans hv1
  have hB3 := hB1.trans (c3.mono hB1.size)
  go_wp2_with fail
  refine (dsolve_bad by_ a l u3 h).mono ?_
  rintro e u4 ⟨rfl, c4'⟩
  rw [unhide HV]
  have hv4 := (c4'.block _ (blk_lt hv3)).trans hv3
  have hw4 := hw3.later c4'
  have hB4 := hB3.trans (c4'.mono hB3.size)
  have hA4 : Below u4.heap.size u4 (u4.alloc (.cells #[.int .i64 0, .int .i64 0, .int .i64 0, .string ⟨#[]⟩] 54)) := (Below.refl _ _).alloc (Nat.le_refl _) _
  have hv4a := (hA4.block _ (blk_lt hv4)).trans hv4
  have q0 : (u4.alloc (.cells #[.int .i64 0, .int .i64 0, .int .i64 0, .string ⟨#[]⟩] 54)).cell? ⟨u1.heap.size, 0, none⟩ = some (.int .i64 0) := by rw [blk_cell hv4a]; rfl
  have q1 : (u4.alloc (.cells #[.int .i64 0, .int .i64 0, .int .i64 0, .string ⟨#[]⟩] 54)).cell? ⟨u1.heap.size, 1, none⟩ = some (.int .i64 0) := by rw [blk_cell hv4a]; rfl
  have q2 : (u4.alloc (.cells #[.int .i64 0, .int .i64 0, .int .i64 0, .string ⟨#[]⟩] 54)).cell? ⟨u1.heap.size, 2, none⟩ = some (.int .i64 0) := by rw [blk_cell hv4a]; rfl
  have q3 : (u4.alloc (.cells #[.int .i64 0, .int .i64 0, .int .i64 0, .string ⟨#[]⟩] 54)).cell? ⟨u1.heap.size, 3, none⟩ = some (.string ⟨#[]⟩) := by rw [blk_cell hv4a]; rfl
  have lv4 := blk_lt hv4a
  have lv4' := blk_lt hv4
  rcases (show a < 0 ∨ (¬ a < 0 ∧ 1048576 < a) ∨ (¬ a < 0 ∧ ¬ 1048576 < a ∧ l < 0) ∨ (¬ a < 0 ∧ ¬ 1048576 < a ∧ ¬ l < 0 ∧ 64 < l) by omega) with h | h | h | h
  · have d0 : decide (a < 0) = true := decide_eq_true (by omega)
    clear h
    go_wp2_with fail
    go_ret
    exact ⟨rfl, Only.of_below (hB4.trans (hA4.mono hB4.size)), proof, hw4.later hA4, Nat.le_max_left _ _⟩
  · have d0 : decide (a < 0) = false := decide_eq_false (by omega)
    have d1 : decide ((1048576 : Int) < a) = true := decide_eq_true (by omega)
    clear h
    go_wp2_with fail
    go_ret
    exact ⟨rfl, Only.of_below (hB4.trans (hA4.mono hB4.size)), proof, hw4.later hA4, Nat.le_max_left _ _⟩
  · have d0 : decide (a < 0) = false := decide_eq_false (by omega)
    have d1 : decide ((1048576 : Int) < a) = false := decide_eq_false (by omega)
    have d2 : decide (l < 0) = true := decide_eq_true (by omega)
    clear h
    go_wp2_with fail
    go_ret
    exact ⟨rfl, Only.of_below (hB4.trans (hA4.mono hB4.size)), proof, hw4.later hA4, Nat.le_max_left _ _⟩
  · have d0 : decide (a < 0) = false := decide_eq_false (by omega)
    have d1 : decide ((1048576 : Int) < a) = false := decide_eq_false (by omega)
    have d2 : decide (l < 0) = false := decide_eq_false (by omega)
    have d3 : decide ((64 : Int) < l) = true := decide_eq_true (by omega)
    clear h
    go_wp2_with fail
    go_ret
    exact ⟨rfl, Only.of_below (hB4.trans (hA4.mono hB4.size)), proof, hw4.later hA4, Nat.le_max_left _ _⟩
/-- What the law asks of a verdict. -/
structure VdOk (F : Form) (bn ln : Nat) (v : Vd) : Prop where
  one : 1 ≤ v.nodes
  most : v.nodes + 1 ≤ 2 ^ (F.order.length + 1)
  lem : v.lemmas ≤ ln
  upto : 0 < bn → v.nodes ≤ bn
  unknown : v.kind = 0 → 0 < bn ∧ v.nodes = bn ∧ v.text = [] ∧ (unitsR F).1 = false
  known : v.kind ≠ 0 → ∃ tr two, provesR F v.text = .inr (tr, two) ∧ v.kind = (if tr then 2 else 1) ∧ fromL (satB F.cl) F.all F.order 0 = tr ∧ ((unitsR F).1 = true → v.nodes = 1 ∧ two ≤ (unitsR F).2) ∧ v.text.length ≤ 262144
theorem provesR_short {F : Form} {l : List UInt8} {x : Bool × Nat} (h : provesR F l = .inr x) : l.length ≤ 262144 := by
  apply Classical.byContradiction
  intro hn
  unfold provesR at h
  rw [if_pos (by omega)] at h
  cases h
theorem vd_ok {F : Form} {q : QS} (hq : QGood q) (hF : FQ F q) (hO : FOk F) (bn ln : Nat) : VdOk F bn ln (verdict q bn ln) := by
  have h := solve_ok hq hF hO bn ln
  have hu := solve_units hq hF bn ln
  have hlen : F.order.length = q.vars.length := by rw [hF.order, List.length_map]
  have hv : verdict q bn ln = ⟨(solveM q bn ln).2.1, (solveM q bn ln).1.nodes, (solveM q bn ln).1.most, if (solveM q bn ln).2.1 = 0 then [] else textP ((solveM q bn ln).2.1 == 2) (shortOf ((solveM q bn ln).1.proof (solveM q bn ln).2.1) (solveM q bn ln).2.2)⟩ := rfl
  rw [hv]
  generalize solveM q bn ln = r at *
  refine ⟨h.one, ?_, h.lemmas, h.upto, fun h0 => ?_, fun h0 => ?_⟩
  · rw [hlen]; exact h.most
  · have h1 := h.unknown h0
    refine ⟨h1.1, h1.2, ?_, ?_⟩
    · show (if r.2.1 = 0 then [] else _) = []
      rw [if_pos h0]
    · cases hc : (unitsR F).1 with
      | false => rfl
      | true =>
        have := (hu hc).1
        have h0' : r.2.1 = 0 := h0
        omega
  · have h0' : r.2.1 ≠ 0 := h0
    obtain ⟨_, _, p3, p4⟩ := h.proof h0'
    have htx : (if r.2.1 = 0 then [] else textP (r.2.1 == 2) (shortOf (r.1.proof r.2.1) r.2.2)) = textP (r.2.1 == 2) (shortOf (r.1.proof r.2.1) r.2.2) := if_neg h0'
    refine ⟨r.2.1 == 2, twos (shortOf (r.1.proof r.2.1) r.2.2), ?_, ?_, ?_, fun hc => ?_, ?_⟩
    · show provesR F (if r.2.1 = 0 then [] else _) = _
      rw [htx]; exact p3
    · show r.2.1 = _
      rcases h.kind with e | e | e
      · exact absurd e h0'
      · rw [e]; rfl
      · rw [e]; rfl
    · exact proves_sound hO _ _ _ p3
    · obtain ⟨u1, u2, u3⟩ := hu hc
      refine ⟨u2, ?_⟩
      rw [u1] at p4 ⊢
      exact Nat.le_trans p4 u3
    · show (if r.2.1 = 0 then [] else _).length ≤ 262144
      rw [htx]; exact provesR_short p3
theorem qgood_of2 {F : Form} {q : QS} (h : FQ F q) (hb : QB q) : QGood q :=
  ⟨hb, h.nodup, fun c hc s v hl => by
    rw [← h.order]
    refine h.vars c hc v ?_
    cases s with
    | true => exact Or.inl hl
    | false => exact Or.inr hl⟩
theorem shl_two (n : Nat) (h : n ≤ 8) : wrap64 (2 * 2 ^ n) = ((2 * 2 ^ n : Nat) : Int) := by
  have hp : 2 * 2 ^ n ≤ 512 := by have := pow_bd n h; omega
  rw [show (2 : Int) * 2 ^ n = ((2 * 2 ^ n : Nat) : Int) from by simp]
  generalize 2 * 2 ^ n = m at *
  exact IntWalk.wrap64_in _ ⟨by omega, by omega⟩
set_option maxRecDepth 100000 in
set_option maxHeartbeats 6400000 in
theorem solves_ok (bw b1 b2 lo : Nat) (st : RS) (q0 : QS) (bn ln : Nat) (text proof : List UInt8) (c4 c5 c6 : Value) (w : World) (hw : WAt w bw text (some ⟨b1, 0, none⟩) (some ⟨b2, 0, none⟩) proof c4 c5 c6)
    (hP : ProgAt lo w b1 (qFinish q0)) (hR : RefAt lo w b2 (finish st)) (hS : Same st q0) (h24 : q0.cl.length ≤ 24) (hN : QNice q0) (hln : loadSpec text = .inr (qFinish q0)) (ht : TabAt w) (hbn : bn ≤ 1048576) (hl64 : ln ≤ 64) :
    Calls Tryz.prog 32 #[.pointer (some ⟨bw, 0, none⟩), .int .i64 (bn : Int), .int .i64 (ln : Int)] w fun e w' => SolvesPost bw text proof (some ⟨b1, 0, none⟩) (some ⟨b2, 0, none⟩) c4 c5 c6 w e w' := by
  obtain ⟨hFQ, hFO, hFW⟩ := fq_of hS hN h24
  have hQG := qgood_of2 hFQ (qb_of hN h24)
  have hvd := vd_ok hQG hFQ hFO bn ln
  have HSV := hide (fun (lo b : Nat) (w : World) (hP : ProgAt lo w b (qFinish q0)) (ht : TabAt w) => dsolve_any lo b (qFinish q0) bn ln w hP hQG ht hbn hl64)
  generalize verdict (qFinish q0) bn ln = vd at *
  obtain ⟨vk, vn, vm, vt⟩ := vd
  have HVD := hide hvd
  have hol := hFW.len
  have hone : 1 ≤ vn := hvd.one
  have hvm : vm ≤ ln := hvd.lem
  have hmo : vn + 1 ≤ 2 ^ ((finish st).order.length + 1) := hvd.most
  have hvn : vn ≤ 512 := by
    have h3 : 2 ^ ((finish st).order.length + 1) ≤ 2 ^ 9 := Nat.pow_le_pow_right (by decide) (by omega)
    have h4 : (2 : Nat) ^ 9 = 512 := by decide
    omega
  have HMO := hide hmo
  clear hvd hmo hFQ hFO hQG hS hN h24
  generalize finish st = F at *
  have hbw : bw < w.heap.size := blk_lt hw
  have k1 : w.cell? ⟨bw, 1, none⟩ = some (.pointer (some ⟨b1, 0, none⟩)) := by rw [blk_cell hw]; rfl
  have HLN := hide hln
  clear hln
  go_enter Tryz.func32, Tryz.ntmps32
  go_wp2_with fail
  refine (unhide HSV lo b1 w hP ht).mono ?_
  rintro e u1 ⟨rfl, c1⟩
  have hw1 := hw.later c1
  have hA1 : Below u1.heap.size u1 (u1.alloc (.cells #[.int .i64 (vk : Int), .int .i64 (vn : Int), .int .i64 (vm : Int), .string ⟨vt.toArray⟩] 54)) := (Below.refl _ _).alloc (Nat.le_refl _) _
  have hw1a := hw1.later hA1
  have hv1 := heap_alloc_new u1 (.cells #[.int .i64 (vk : Int), .int .i64 (vn : Int), .int .i64 (vm : Int), .string ⟨vt.toArray⟩] 54)
  have k0 : (u1.alloc (.cells #[.int .i64 (vk : Int), .int .i64 (vn : Int), .int .i64 (vm : Int), .string ⟨vt.toArray⟩] 54)).cell? ⟨bw, 0, none⟩ = some (S text) := by rw [blk_cell hw1a]; rfl
  have l1 := blk_lt hw1a
  have hB1 := c1.trans (hA1.mono c1.size)
  go_wp2_with fail
  generalize (u1.alloc (.cells #[.int .i64 (vk : Int), .int .i64 (vn : Int), .int .i64 (vm : Int), .string ⟨vt.toArray⟩] 54)) = u2 at *
  refine (load_any text u2).mono ?_
  rintro e u3 ⟨c3, hp3⟩
  rw [unhide HLN] at hp3
  obtain ⟨by_, rfl, hPy⟩ := hp3
  have hw3 := hw1a.later c3
  have hv3 := (c3.block _ (blk_lt hv1)).trans hv1
  have hB3 := hB1.trans (c3.mono hB1.size)
  go_wp2_with fail
  refine (unhide HSV _ by_ u3 hPy (ht.later hB3)).mono ?_
  rintro e u4 ⟨rfl, c4'⟩
  have hv4 := (c4'.block _ (blk_lt hv3)).trans hv3
  have hw4 := hw3.later c4'
  have hB4 := hB3.trans (c4'.mono hB3.size)
  have hA4 : Below u4.heap.size u4 (u4.alloc (.cells #[.int .i64 (vk : Int), .int .i64 (vn : Int), .int .i64 (vm : Int), .string ⟨vt.toArray⟩] 54)) := (Below.refl _ _).alloc (Nat.le_refl _) _
  have hv5 := (hA4.block _ (blk_lt hv4)).trans hv4
  have hu5 := heap_alloc_new u4 (.cells #[.int .i64 (vk : Int), .int .i64 (vn : Int), .int .i64 (vm : Int), .string ⟨vt.toArray⟩] 54)
  have hw5 := hw4.later hA4
  have hB5 := hB4.trans (hA4.mono hB4.size)
  have lv4 := blk_lt hv4
  have hR5 := hR.later hB5
  obtain ⟨_, vO, vE, vC, hfb, hO, _, _⟩ := id hR5
  obtain ⟨aO, cO, rfl⟩ := own_form hO
  clear hO
  generalize F.order.length = no at *
  have lfb := blk_lt hfb
  have lw5 := blk_lt hw5
  have q0' : (u4.alloc (.cells #[.int .i64 (vk : Int), .int .i64 (vn : Int), .int .i64 (vm : Int), .string ⟨vt.toArray⟩] 54)).cell? ⟨u1.heap.size, 0, none⟩ = some (.int .i64 (vk : Int)) := by rw [blk_cell hv5]; rfl
  have q1 : (u4.alloc (.cells #[.int .i64 (vk : Int), .int .i64 (vn : Int), .int .i64 (vm : Int), .string ⟨vt.toArray⟩] 54)).cell? ⟨u1.heap.size, 1, none⟩ = some (.int .i64 (vn : Int)) := by rw [blk_cell hv5]; rfl
  have q2 : (u4.alloc (.cells #[.int .i64 (vk : Int), .int .i64 (vn : Int), .int .i64 (vm : Int), .string ⟨vt.toArray⟩] 54)).cell? ⟨u1.heap.size, 2, none⟩ = some (.int .i64 (vm : Int)) := by rw [blk_cell hv5]; rfl
  have q3 : (u4.alloc (.cells #[.int .i64 (vk : Int), .int .i64 (vn : Int), .int .i64 (vm : Int), .string ⟨vt.toArray⟩] 54)).cell? ⟨u1.heap.size, 3, none⟩ = some (.string ⟨vt.toArray⟩) := by rw [blk_cell hv5]; rfl
  have r2 : (u4.alloc (.cells #[.int .i64 (vk : Int), .int .i64 (vn : Int), .int .i64 (vm : Int), .string ⟨vt.toArray⟩] 54)).cell? ⟨bw, 2, none⟩ = some (.pointer (some ⟨b2, 0, none⟩)) := by rw [blk_cell hw5]; rfl
  have f0 : (u4.alloc (.cells #[.int .i64 (vk : Int), .int .i64 (vn : Int), .int .i64 (vm : Int), .string ⟨vt.toArray⟩] 54)).cell? ⟨b2, 0, none⟩ = some (.slice aO no cO) := by rw [blk_cell hfb]; rfl
  have d0 : decide ((bn : Int) < 0) = false := decide_eq_false (by omega)
  have d1 : decide ((1048576 : Int) < (bn : Int)) = false := decide_eq_false (by omega)
  have d2 : decide ((ln : Int) < 0) = false := decide_eq_false (by omega)
  have d3 : decide ((64 : Int) < (ln : Int)) = false := decide_eq_false (by omega)
  have d1n : decide (1048576 < bn) = false := decide_eq_false (by omega)
  have d3n : decide (64 < ln) = false := decide_eq_false (by omega)
  have g1 : decide ((vn : Int) < 1) = false := decide_eq_false (by omega)
  have g1n : decide (vn < 1) = false := decide_eq_false (by omega)
  have g2 : decide ((vm : Int) < 0) = false := decide_eq_false (by omega)
  have g3 : decide ((ln : Int) < (vm : Int)) = false := decide_eq_false (by omega)
  have g3n : decide (ln < vm) = false := decide_eq_false (by omega)
  have hsh := shl_two no hol
  have hmo2 : vn < 2 * 2 ^ no := by have := unhide HMO; rw [Nat.pow_succ, Nat.mul_comm] at this; omega
  have hm512 : 2 * 2 ^ no ≤ 512 := by
    have h3 : 2 ^ no ≤ 2 ^ 8 := Nat.pow_le_pow_right (by decide) hol
    have h4 : (2 : Nat) ^ 8 = 256 := by decide
    omega
  generalize (2 * 2 ^ no : Nat) = mst at *
  clear HMO
  have g6 : decide ((mst : Int) ≤ (vn : Int)) = false := decide_eq_false (by omega)
  have g6n : decide (mst ≤ vn) = false := decide_eq_false (by omega)
  by_cases hk0 : vk = 0
  · obtain ⟨ub, un, ut, uc⟩ := (unhide HVD).unknown hk0
    dsimp only at un ut
    subst ut
    have e1 : ((vk : Int) == 0) = true := by rw [beq_iff_eq]; omega
    have e1n : (vk == 0) = true := by rw [beq_iff_eq]; exact hk0
    have g4 : decide ((0 : Int) < (bn : Int)) = true := decide_eq_true (by omega)
    have g4n : decide (0 < bn) = true := decide_eq_true (by omega)
    have g5 : decide ((bn : Int) < (vn : Int)) = false := decide_eq_false (by omega)
    have g5n : decide (bn < vn) = false := decide_eq_false (by omega)
    have e2 : ((vn : Int) == (bn : Int)) = true := by rw [beq_iff_eq]; omega
    have e2n : (vn == bn) = true := by rw [beq_iff_eq]; exact un
    have g7 : decide ((bn : Int) < (mst : Int)) = true := decide_eq_true (by omega)
    have g7n : decide (bn < mst) = true := decide_eq_true (by omega)
    have g8 : decide ((bn : Int) < wrap64 (2 * 2 ^ no)) = true := by rw [hsh]; exact g7
    have HUC := hide uc
    clear un ub hk0 uc
    go_wp2_with fail
    have hB5' := hB5
    generalize (u4.alloc (.cells #[.int .i64 (vk : Int), .int .i64 (vn : Int), .int .i64 (vm : Int), .string ⟨([] : List UInt8).toArray⟩] 54)) = u5 at *
    refine (units_any lo b2 F u5 hR5 hFW.bits hFW.cl hFW.all).mono ?_
    rintro e u6 ⟨rfl, c6'⟩
    have hB6 := hB5.trans (c6'.mono hB5.size)
    have hv6 := (c6'.block _ (blk_lt hv5)).trans hv5
    have hw6 := hw5.later c6'
    have p0 : u6.cell? ⟨u1.heap.size, 0, none⟩ = some (.int .i64 (vk : Int)) := by rw [blk_cell hv6]; rfl
    have p1 : u6.cell? ⟨u1.heap.size, 1, none⟩ = some (.int .i64 (vn : Int)) := by rw [blk_cell hv6]; rfl
    have p3 : u6.cell? ⟨u1.heap.size, 3, none⟩ = some (.string ⟨([] : List UInt8).toArray⟩) := by rw [blk_cell hv6]; rfl
    have p2 : u6.cell? ⟨bw, 2, none⟩ = some (.pointer (some ⟨b2, 0, none⟩)) := by rw [blk_cell hw6]; rfl
    have lv6 := blk_lt hv6
    have lw6 := blk_lt hw6
    clear q0' q1 q2 q3 r2 f0
    have uc := unhide HUC
    generalize unitsR F = ur at *
    obtain ⟨cf, un⟩ := ur
    dsimp only at uc ⊢
    subst uc
    go_wp2_with fail
    go_ret
    exact ⟨rfl, Only.of_below hB6, proof, hw6, Nat.le_max_left _ _⟩
  · have e1 : ((vk : Int) == 0) = false := by rw [beq_eq_false_iff_ne]; omega
    have e1n : (vk == 0) = false := by rw [beq_eq_false_iff_ne]; exact hk0
    obtain ⟨tr, two, hpr, hvk, htr, huc, hvl⟩ := (unhide HVD).known hk0
    dsimp only at hpr hvk huc hvl
    have HPR := hide hpr
    have HTR := hide htr
    have HUC := hide huc
    have HVK := hide hvk
    clear hpr htr huc hvk hk0
    have HUP := hide (unhide HVD).upto
    rcases Classical.em (bn = 0) with hb0 | hb0
    · have g4 : decide ((0 : Int) < (bn : Int)) = false := decide_eq_false (by omega)
      have g4n : decide (0 < bn) = false := decide_eq_false (by omega)
      clear hb0
      go_wp2_with fail
      have hB5' := hB5
      generalize (u4.alloc (.cells #[.int .i64 (vk : Int), .int .i64 (vn : Int), .int .i64 (vm : Int), .string ⟨vt.toArray⟩] 54)) = u5 at *
      refine (units_any lo b2 F u5 hR5 hFW.bits hFW.cl hFW.all).mono ?_
      rintro e u6 ⟨rfl, c6'⟩
      have hB6 := hB5.trans (c6'.mono hB5.size)
      have hv6 := (c6'.block _ (blk_lt hv5)).trans hv5
      have hw6 := hw5.later c6'
      have p0 : u6.cell? ⟨u1.heap.size, 0, none⟩ = some (.int .i64 (vk : Int)) := by rw [blk_cell hv6]; rfl
      have p1 : u6.cell? ⟨u1.heap.size, 1, none⟩ = some (.int .i64 (vn : Int)) := by rw [blk_cell hv6]; rfl
      have p3 : u6.cell? ⟨u1.heap.size, 3, none⟩ = some (.string ⟨vt.toArray⟩) := by rw [blk_cell hv6]; rfl
      have p2 : u6.cell? ⟨bw, 2, none⟩ = some (.pointer (some ⟨b2, 0, none⟩)) := by rw [blk_cell hw6]; rfl
      have lv6 := blk_lt hv6
      have lw6 := blk_lt hw6
      clear q0' q1 q2 q3 r2 f0
      generalize unitsR F = ur at *
      obtain ⟨cf, un⟩ := ur
      dsimp only at HUC ⊢
      go_wp2_with fail
      refine (truth_any lo b2 F hFW.len hFW.names hFW.all hFW.bits hFW.cl u6 (hR.later hB6)).mono ?_
      rintro e u7 ⟨rfl, c7⟩
      rw [unhide HTR]
      have hB7 := hB6.trans (c7.mono hB6.size)
      have hv7 := (c7.block _ (blk_lt hv6)).trans hv6
      have hw7 := hw6.later c7
      have o0 : u7.cell? ⟨u1.heap.size, 0, none⟩ = some (.int .i64 (vk : Int)) := by rw [blk_cell hv7]; rfl
      have o1 : u7.cell? ⟨u1.heap.size, 1, none⟩ = some (.int .i64 (vn : Int)) := by rw [blk_cell hv7]; rfl
      have o3 : u7.cell? ⟨u1.heap.size, 3, none⟩ = some (.string ⟨vt.toArray⟩) := by rw [blk_cell hv7]; rfl
      have o2 : u7.cell? ⟨bw, 2, none⟩ = some (.pointer (some ⟨b2, 0, none⟩)) := by rw [blk_cell hw7]; rfl
      have lv7 := blk_lt hv7
      have lw7 := blk_lt hw7
      clear p0 p1 p2 p3
      cases tr with
      | true =>
        have hvk : vk = 2 := unhide HVK
        have f1 : ((vk : Int) == 2) = true := by rw [beq_iff_eq]; omega
        have f1n : (vk == 2) = true := by rw [beq_iff_eq]; exact hvk
        have f1m : ((vk : Int) != 2) = false := by rw [bne, f1]; rfl
        clear hvk d0 d1 d2 d3 d1n d3n g1 g1n g2 g3 g3n g6 g6n hsh hmo2 hm512 g4 g4n HVD HUP HTR HSV HLN hv1 hv3 hv4 hw1a hw3 hw4 hw5 hv5 hu5 hB1 hB3 hB4 hR5 c1 c3 c4' c6' hPy hA1 hA4 e1 e1n
        try clear g5 g5n hup
        go_wp2_with fail
        clear o0 o1
        go_region_with (go_at_call 57; refine (proves_any lo b2 F vt _ ((hR.later hB7).later (Below.refl _ u7).drew) hFW).mono ?_; rintro e u8 ⟨hb8, hp⟩; rw [unhide HPR] at hp; have hp2 : e = .returned (.tuple #[.int .i64 2, .int .i64 0, .int .i64 0, .int .i64 (two : Int)]) := hp; subst hp2; clear hp; have c8 : Below u7.heap.size u7 u8 := (Below.refl _ u7).drew.trans hb8)
        all_goals
          have hB8 := hB7.trans (c8.mono hB7.size)
          have hv8 := (c8.block _ (blk_lt hv7)).trans hv7
          have hw8 := hw7.later c8
          have n0 : u8.cell? ⟨u1.heap.size, 0, none⟩ = some (.int .i64 (vk : Int)) := by rw [blk_cell hv8]; rfl
          have n1 : u8.cell? ⟨u1.heap.size, 1, none⟩ = some (.int .i64 (vn : Int)) := by rw [blk_cell hv8]; rfl
          have n3 : u8.cell? ⟨u1.heap.size, 3, none⟩ = some (.string ⟨vt.toArray⟩) := by rw [blk_cell hv8]; rfl
          have m3 : u8.cell? ⟨bw, 3, none⟩ = some (S proof) := by rw [blk_cell hw8]; rfl
          have z3 := blk_free hw8 3
          have lv8 := blk_lt hv8
          have lw8 := blk_lt hw8
          have hneb : u1.heap.size ≠ bw := by have := blk_lt hw1; omega
          have hw9 := hw8.setProof vt
          have hv9 := blk_other hv8 (c := bw) (fun e => hneb e.symm) 3 (S vt)
          have t1 : (u8.setCell ⟨bw, 3, none⟩ (S vt)).cell? ⟨u1.heap.size, 1, none⟩ = some (.int .i64 (vn : Int)) := by rw [blk_cell hv9]; rfl
          have hO9 := (Only.of_below (T := (· = bw)) hB8).setAt 3 (S vt)
          cases cf with
          | false =>
            go_wp2_with fail
            go_ret
            exact ⟨rfl, hO9, vt, hw9, by omega⟩
          | true =>
            obtain ⟨hn1, h2u⟩ := unhide HUC rfl
            have x1 : ((vn : Int) == 1) = true := by rw [beq_iff_eq]; omega
            have x1n : (vn == 1) = true := by rw [beq_iff_eq]; exact hn1
            have x2 : decide ((two : Int) ≤ (un : Int)) = true := decide_eq_true (by omega)
            have x2n : decide (two ≤ un) = true := decide_eq_true h2u
            clear hn1 h2u
            go_wp2_with fail
            go_ret
            exact ⟨rfl, hO9, vt, hw9, by omega⟩
      | false =>
        have hvk : vk = 1 := unhide HVK
        have f1 : ((vk : Int) == 1) = true := by rw [beq_iff_eq]; omega
        have f1n : (vk == 1) = true := by rw [beq_iff_eq]; exact hvk
        have f1m : ((vk : Int) != 1) = false := by rw [bne, f1]; rfl
        clear hvk d0 d1 d2 d3 d1n d3n g1 g1n g2 g3 g3n g6 g6n hsh hmo2 hm512 g4 g4n HVD HUP HTR HSV HLN hv1 hv3 hv4 hw1a hw3 hw4 hw5 hv5 hu5 hB1 hB3 hB4 hR5 c1 c3 c4' c6' hPy hA1 hA4 e1 e1n
        try clear g5 g5n hup
        go_wp2_with fail
        clear o0 o1
        go_region_with (go_at_call 57; refine (proves_any lo b2 F vt _ ((hR.later hB7).later (Below.refl _ u7).drew) hFW).mono ?_; rintro e u8 ⟨hb8, hp⟩; rw [unhide HPR] at hp; have hp2 : e = .returned (.tuple #[.int .i64 1, .int .i64 0, .int .i64 0, .int .i64 (two : Int)]) := hp; subst hp2; clear hp; have c8 : Below u7.heap.size u7 u8 := (Below.refl _ u7).drew.trans hb8)
        all_goals
          have hB8 := hB7.trans (c8.mono hB7.size)
          have hv8 := (c8.block _ (blk_lt hv7)).trans hv7
          have hw8 := hw7.later c8
          have n0 : u8.cell? ⟨u1.heap.size, 0, none⟩ = some (.int .i64 (vk : Int)) := by rw [blk_cell hv8]; rfl
          have n1 : u8.cell? ⟨u1.heap.size, 1, none⟩ = some (.int .i64 (vn : Int)) := by rw [blk_cell hv8]; rfl
          have n3 : u8.cell? ⟨u1.heap.size, 3, none⟩ = some (.string ⟨vt.toArray⟩) := by rw [blk_cell hv8]; rfl
          have m3 : u8.cell? ⟨bw, 3, none⟩ = some (S proof) := by rw [blk_cell hw8]; rfl
          have z3 := blk_free hw8 3
          have lv8 := blk_lt hv8
          have lw8 := blk_lt hw8
          have hneb : u1.heap.size ≠ bw := by have := blk_lt hw1; omega
          have hw9 := hw8.setProof vt
          have hv9 := blk_other hv8 (c := bw) (fun e => hneb e.symm) 3 (S vt)
          have t1 : (u8.setCell ⟨bw, 3, none⟩ (S vt)).cell? ⟨u1.heap.size, 1, none⟩ = some (.int .i64 (vn : Int)) := by rw [blk_cell hv9]; rfl
          have hO9 := (Only.of_below (T := (· = bw)) hB8).setAt 3 (S vt)
          cases cf with
          | false =>
            go_wp2_with fail
            go_ret
            exact ⟨rfl, hO9, vt, hw9, by omega⟩
          | true =>
            obtain ⟨hn1, h2u⟩ := unhide HUC rfl
            have x1 : ((vn : Int) == 1) = true := by rw [beq_iff_eq]; omega
            have x1n : (vn == 1) = true := by rw [beq_iff_eq]; exact hn1
            have x2 : decide ((two : Int) ≤ (un : Int)) = true := decide_eq_true (by omega)
            have x2n : decide (two ≤ un) = true := decide_eq_true h2u
            clear hn1 h2u
            go_wp2_with fail
            go_ret
            exact ⟨rfl, hO9, vt, hw9, by omega⟩
    · have g4 : decide ((0 : Int) < (bn : Int)) = true := decide_eq_true (by omega)
      have g4n : decide (0 < bn) = true := decide_eq_true (by omega)
      have hup : vn ≤ bn := unhide HUP (by omega)
      have g5 : decide ((bn : Int) < (vn : Int)) = false := decide_eq_false (by omega)
      have g5n : decide (bn < vn) = false := decide_eq_false (by omega)
      clear hb0
      go_wp2_with fail
      have hB5' := hB5
      generalize (u4.alloc (.cells #[.int .i64 (vk : Int), .int .i64 (vn : Int), .int .i64 (vm : Int), .string ⟨vt.toArray⟩] 54)) = u5 at *
      refine (units_any lo b2 F u5 hR5 hFW.bits hFW.cl hFW.all).mono ?_
      rintro e u6 ⟨rfl, c6'⟩
      have hB6 := hB5.trans (c6'.mono hB5.size)
      have hv6 := (c6'.block _ (blk_lt hv5)).trans hv5
      have hw6 := hw5.later c6'
      have p0 : u6.cell? ⟨u1.heap.size, 0, none⟩ = some (.int .i64 (vk : Int)) := by rw [blk_cell hv6]; rfl
      have p1 : u6.cell? ⟨u1.heap.size, 1, none⟩ = some (.int .i64 (vn : Int)) := by rw [blk_cell hv6]; rfl
      have p3 : u6.cell? ⟨u1.heap.size, 3, none⟩ = some (.string ⟨vt.toArray⟩) := by rw [blk_cell hv6]; rfl
      have p2 : u6.cell? ⟨bw, 2, none⟩ = some (.pointer (some ⟨b2, 0, none⟩)) := by rw [blk_cell hw6]; rfl
      have lv6 := blk_lt hv6
      have lw6 := blk_lt hw6
      clear q0' q1 q2 q3 r2 f0
      generalize unitsR F = ur at *
      obtain ⟨cf, un⟩ := ur
      dsimp only at HUC ⊢
      go_wp2_with fail
      refine (truth_any lo b2 F hFW.len hFW.names hFW.all hFW.bits hFW.cl u6 (hR.later hB6)).mono ?_
      rintro e u7 ⟨rfl, c7⟩
      rw [unhide HTR]
      have hB7 := hB6.trans (c7.mono hB6.size)
      have hv7 := (c7.block _ (blk_lt hv6)).trans hv6
      have hw7 := hw6.later c7
      have o0 : u7.cell? ⟨u1.heap.size, 0, none⟩ = some (.int .i64 (vk : Int)) := by rw [blk_cell hv7]; rfl
      have o1 : u7.cell? ⟨u1.heap.size, 1, none⟩ = some (.int .i64 (vn : Int)) := by rw [blk_cell hv7]; rfl
      have o3 : u7.cell? ⟨u1.heap.size, 3, none⟩ = some (.string ⟨vt.toArray⟩) := by rw [blk_cell hv7]; rfl
      have o2 : u7.cell? ⟨bw, 2, none⟩ = some (.pointer (some ⟨b2, 0, none⟩)) := by rw [blk_cell hw7]; rfl
      have lv7 := blk_lt hv7
      have lw7 := blk_lt hw7
      clear p0 p1 p2 p3
      cases tr with
      | true =>
        have hvk : vk = 2 := unhide HVK
        have f1 : ((vk : Int) == 2) = true := by rw [beq_iff_eq]; omega
        have f1n : (vk == 2) = true := by rw [beq_iff_eq]; exact hvk
        have f1m : ((vk : Int) != 2) = false := by rw [bne, f1]; rfl
        clear hvk d0 d1 d2 d3 d1n d3n g1 g1n g2 g3 g3n g6 g6n hsh hmo2 hm512 g4 g4n HVD HUP HTR HSV HLN hv1 hv3 hv4 hw1a hw3 hw4 hw5 hv5 hu5 hB1 hB3 hB4 hR5 c1 c3 c4' c6' hPy hA1 hA4 e1 e1n
        try clear g5 g5n hup
        go_wp2_with fail
        clear o0 o1
        go_region_with (go_at_call 57; refine (proves_any lo b2 F vt _ ((hR.later hB7).later (Below.refl _ u7).drew) hFW).mono ?_; rintro e u8 ⟨hb8, hp⟩; rw [unhide HPR] at hp; have hp2 : e = .returned (.tuple #[.int .i64 2, .int .i64 0, .int .i64 0, .int .i64 (two : Int)]) := hp; subst hp2; clear hp; have c8 : Below u7.heap.size u7 u8 := (Below.refl _ u7).drew.trans hb8)
        all_goals
          have hB8 := hB7.trans (c8.mono hB7.size)
          have hv8 := (c8.block _ (blk_lt hv7)).trans hv7
          have hw8 := hw7.later c8
          have n0 : u8.cell? ⟨u1.heap.size, 0, none⟩ = some (.int .i64 (vk : Int)) := by rw [blk_cell hv8]; rfl
          have n1 : u8.cell? ⟨u1.heap.size, 1, none⟩ = some (.int .i64 (vn : Int)) := by rw [blk_cell hv8]; rfl
          have n3 : u8.cell? ⟨u1.heap.size, 3, none⟩ = some (.string ⟨vt.toArray⟩) := by rw [blk_cell hv8]; rfl
          have m3 : u8.cell? ⟨bw, 3, none⟩ = some (S proof) := by rw [blk_cell hw8]; rfl
          have z3 := blk_free hw8 3
          have lv8 := blk_lt hv8
          have lw8 := blk_lt hw8
          have hneb : u1.heap.size ≠ bw := by have := blk_lt hw1; omega
          have hw9 := hw8.setProof vt
          have hv9 := blk_other hv8 (c := bw) (fun e => hneb e.symm) 3 (S vt)
          have t1 : (u8.setCell ⟨bw, 3, none⟩ (S vt)).cell? ⟨u1.heap.size, 1, none⟩ = some (.int .i64 (vn : Int)) := by rw [blk_cell hv9]; rfl
          have hO9 := (Only.of_below (T := (· = bw)) hB8).setAt 3 (S vt)
          cases cf with
          | false =>
            go_wp2_with fail
            go_ret
            exact ⟨rfl, hO9, vt, hw9, by omega⟩
          | true =>
            obtain ⟨hn1, h2u⟩ := unhide HUC rfl
            have x1 : ((vn : Int) == 1) = true := by rw [beq_iff_eq]; omega
            have x1n : (vn == 1) = true := by rw [beq_iff_eq]; exact hn1
            have x2 : decide ((two : Int) ≤ (un : Int)) = true := decide_eq_true (by omega)
            have x2n : decide (two ≤ un) = true := decide_eq_true h2u
            clear hn1 h2u
            go_wp2_with fail
            go_ret
            exact ⟨rfl, hO9, vt, hw9, by omega⟩
      | false =>
        have hvk : vk = 1 := unhide HVK
        have f1 : ((vk : Int) == 1) = true := by rw [beq_iff_eq]; omega
        have f1n : (vk == 1) = true := by rw [beq_iff_eq]; exact hvk
        have f1m : ((vk : Int) != 1) = false := by rw [bne, f1]; rfl
        clear hvk d0 d1 d2 d3 d1n d3n g1 g1n g2 g3 g3n g6 g6n hsh hmo2 hm512 g4 g4n HVD HUP HTR HSV HLN hv1 hv3 hv4 hw1a hw3 hw4 hw5 hv5 hu5 hB1 hB3 hB4 hR5 c1 c3 c4' c6' hPy hA1 hA4 e1 e1n
        try clear g5 g5n hup
        go_wp2_with fail
        clear o0 o1
        go_region_with (go_at_call 57; refine (proves_any lo b2 F vt _ ((hR.later hB7).later (Below.refl _ u7).drew) hFW).mono ?_; rintro e u8 ⟨hb8, hp⟩; rw [unhide HPR] at hp; have hp2 : e = .returned (.tuple #[.int .i64 1, .int .i64 0, .int .i64 0, .int .i64 (two : Int)]) := hp; subst hp2; clear hp; have c8 : Below u7.heap.size u7 u8 := (Below.refl _ u7).drew.trans hb8)
        all_goals
          have hB8 := hB7.trans (c8.mono hB7.size)
          have hv8 := (c8.block _ (blk_lt hv7)).trans hv7
          have hw8 := hw7.later c8
          have n0 : u8.cell? ⟨u1.heap.size, 0, none⟩ = some (.int .i64 (vk : Int)) := by rw [blk_cell hv8]; rfl
          have n1 : u8.cell? ⟨u1.heap.size, 1, none⟩ = some (.int .i64 (vn : Int)) := by rw [blk_cell hv8]; rfl
          have n3 : u8.cell? ⟨u1.heap.size, 3, none⟩ = some (.string ⟨vt.toArray⟩) := by rw [blk_cell hv8]; rfl
          have m3 : u8.cell? ⟨bw, 3, none⟩ = some (S proof) := by rw [blk_cell hw8]; rfl
          have z3 := blk_free hw8 3
          have lv8 := blk_lt hv8
          have lw8 := blk_lt hw8
          have hneb : u1.heap.size ≠ bw := by have := blk_lt hw1; omega
          have hw9 := hw8.setProof vt
          have hv9 := blk_other hv8 (c := bw) (fun e => hneb e.symm) 3 (S vt)
          have t1 : (u8.setCell ⟨bw, 3, none⟩ (S vt)).cell? ⟨u1.heap.size, 1, none⟩ = some (.int .i64 (vn : Int)) := by rw [blk_cell hv9]; rfl
          have hO9 := (Only.of_below (T := (· = bw)) hB8).setAt 3 (S vt)
          cases cf with
          | false =>
            go_wp2_with fail
            go_ret
            exact ⟨rfl, hO9, vt, hw9, by omega⟩
          | true =>
            obtain ⟨hn1, h2u⟩ := unhide HUC rfl
            have x1 : ((vn : Int) == 1) = true := by rw [beq_iff_eq]; omega
            have x1n : (vn == 1) = true := by rw [beq_iff_eq]; exact hn1
            have x2 : decide ((two : Int) ≤ (un : Int)) = true := decide_eq_true (by omega)
            have x2n : decide (two ≤ un) = true := decide_eq_true h2u
            clear hn1 h2u
            go_wp2_with fail
            go_ret
            exact ⟨rfl, hO9, vt, hw9, by omega⟩
end Go.Proofs.YtgipjjhkhfihpaaGreatDoor

namespace Go.Proofs.YtgipjjhkhfihpaaGreatDoor
open Go.RowKit

/-! ### plays, where the place of upTo's world is told -/
set_option maxRecDepth 100000 in
set_option maxHeartbeats 3200000 in
theorem plays_below (ops : List OpV) (ao : Option Addr) (cap : Nat) (ks : List Int) (ko : Option Addr) (kcap : Nat) (w : World) (hs : ScriptAt w ao ops) (hks : KindsAt w ko ks) (hsz : Sized ops) (hln : ops.length ≤ 140737488355328) (hkl : ks.length ≤ 1048576)
    (HU : Hid (∀ (base : Nat) (v : Value) (w' : World), smallB ops = true → w'.ownsRow base 29 6 v (ops.filter (fun o => inB ks o.kind)).length (opCells (ops.filter (fun o => inB ks o.kind))) → Below w.heap.size w w' → Calls Tryz.prog 14 #[v] w' fun e w'' => e = .returned (.int .i64 (-1)) ∧ Below w'.heap.size w' w'')) :
    Calls Tryz.prog 10 #[.slice ao ops.length cap, .slice ko ks.length kcap] w fun e w' => e = .returned (.bool true) ∧ Below w.heap.size w w' := by
  go_enter Tryz.func10, Tryz.ntmps10
  go_wp2_with fail
  refine (small_any ops ao cap w hs hsz hln).mono ?_
  rintro e w1 ⟨rfl, hb1⟩
  cases hsm : smallB ops with
  | false =>
    go_wp2_with fail
    go_ret
    exact ⟨rfl, hb1⟩
  | true =>
    have HSM := hide hsm
    have hlo : ops.length ≤ 524288 := by
      have h1 : totTo ops ops.length ≤ 524288 := of_decide_eq_true hsm
      have h2 := totTo_le ops 0 (by omega)
      rw [totTo_zero] at h2
      omega
    clear hsm
    obtain ⟨i0, hi, hz0, hz1, hz2⟩ := info_parts Tryz.info29
    go_wp2_with fail
    go_loopg [6, 7] (ops.length) (fun q v i wx => ∃ (k : Nat), i = .int .i64 k ∧ k + q = ops.length ∧ wx.ownsRow w.heap.size 29 6 v (selTo ks ops k).length (opCells (selTo ks ops k)) ∧ Below w.heap.size w wx)
    case atStart => exact ⟨0, rfl, by omega, World.ownsRow_nil _ _ _ _, hb1⟩
    case round =>
      obtain ⟨k, rfl, hk, hown, hb⟩ := hrel
      obtain ⟨wo, rfl⟩ : ∃ wo, wo = wr := ⟨_, rfl⟩
      obtain ⟨go, rfl⟩ : ∃ go, go = gk := ⟨_, rfl⟩
      have hbs := hb.size
      have hsl := selTo_len ks ops k
      by_cases hlt : k < ops.length
      · obtain ⟨b, off, rfl, hbl, hcell⟩ := hs (by intro e; subst e; simp at hlt)
        obtain ⟨hc0, hc1, hc2, hc3, hc4, hc5⟩ := ScriptAt.cells hcell hbl hb k hlt
        have HSS := hide (selTo_succ ks ops k hlt)
        have hdk : decide ((k : Int) < (ops.length : Int)) = true := by simp; omega
        clear hcell
        have hbwo : b < wo.heap.size := by omega
        generalize ops[k] = o at *
        have hex : ∃ b1 b2 b4 b5 : Bool, (o.kind == 1) = b1 ∧ (o.kind == 2) = b2 ∧ (o.kind == 4) = b4 ∧ (o.kind == 5) = b5 ∧ base4 o.kind = (b1 || b2 || b4 || b5) ∧ (b1 && b2) = false ∧ (b1 && b4) = false ∧ (b1 && b5) = false ∧ (b2 && b4) = false ∧ (b2 && b5) = false ∧ (b4 && b5) = false := by
          refine ⟨_, _, _, _, rfl, rfl, rfl, rfl, rfl, ?_, ?_, ?_, ?_, ?_, ?_⟩
          all_goals (rw [Bool.and_eq_false_iff, beq_eq_false_iff_ne, beq_eq_false_iff_ne]; omega)
        obtain ⟨b1, b2, b4, b5, e1, e2, e4, e5, eb, x1, x2, x3, x4, x5, x6⟩ := hex
        have HEB := hide eb; clear eb
        cases b1 <;> cases b2 <;> cases b4 <;> cases b5 <;> first | (exfalso; revert x1 x2 x3 x4 x5 x6; decide) | skip
        all_goals clear x1 x2 x3 x4 x5 x6
        all_goals
          go_wp2_with fail
          go_loopg [9, 10] (ks.length) (fun q x i wx => ∃ (j : Nat), i = .int .i64 j ∧ j + q = ks.length ∧ x = .bool (base4 o.kind || (ks.take j).any (· == o.kind)) ∧ wx = wo)
          case atStart => exact ⟨0, rfl, by omega, by rw [unhide HEB]; rfl, rfl⟩
          case round =>
            obtain ⟨j, rfl, hj, rfl, hwx⟩ := hrel
            subst hwx
            by_cases hjl : j < ks.length
            · obtain ⟨bk, offk, rfl, hbk, hck⟩ := hks (by intro e; subst e; simp at hjl)
              have hcj : wr.cell? ⟨bk, offk + j, none⟩ = some (.int .i64 ks[j]) := by
                rw [hb.cell (p := ⟨bk, offk + j, none⟩) hbk]; exact hck j hjl
              have HAT := hide (any_take ks o.kind j hjl)
              have hdj : decide ((j : Int) < (ks.length : Int)) = true := by simp; omega
              obtain ⟨kj, hkj⟩ : ∃ kj, ks[j] = kj := ⟨_, rfl⟩
              rw [hkj] at hcj
              have HKJ := hide hkj
              clear hkj hck
              cases hin : (base4 o.kind || (ks.take j).any (· == o.kind)) with
              | true =>
                go_wp2_with fail
                go_roundg (gk - 1)
                case measure => omega
                case rel => exact ⟨j + 1, by go_num, by omega, by rw [unhide HAT, ← Bool.or_assoc, hin]; rfl, rfl⟩
              | false =>
                cases heq : (o.kind == kj) with
                | true =>
                  go_wp2_with fail
                  go_roundg (gk - 1)
                  case measure => omega
                  case rel => exact ⟨j + 1, by go_num, by omega, by rw [unhide HAT, ← Bool.or_assoc, hin, unhide HKJ, show (kj == o.kind) = true from by rw [beq_iff_eq] at heq ⊢; exact heq.symm]; rfl, rfl⟩
                | false =>
                  go_wp2_with fail
                  go_roundg (gk - 1)
                  case measure => omega
                  case rel => exact ⟨j + 1, by go_num, by omega, by rw [unhide HAT, ← Bool.or_assoc, hin, unhide HKJ, show (kj == o.kind) = false from by rw [beq_eq_false_iff_ne] at heq ⊢; exact fun e => heq e.symm]; rfl, rfl⟩
            · have hjl2 : j = ks.length := by omega
              subst hjl2
              have HIN : Hid ((base4 o.kind || (ks.take ks.length).any (· == o.kind)) = inB ks o.kind) := hide (by rw [List.take_length]; rfl)
              rw [unhide HIN]
              have hdj : decide ((ks.length : Int) < (ks.length : Int)) = false := by simp
              cases hin : inB ks o.kind with
              | true =>
                go_wp2_with (at_builtin; refine wpList_append_new rfl (.tmp 56) (.tmp 61) 22 rfl w.heap.size i0 (.agg #[.int .i64 0, .int .i64 0, .int .i64 0, .int .i64 0, .string ⟨#[]⟩, .string ⟨#[]⟩]) 6 64 Tryz.underlying22 hi hz0 hz1 hz2 rfl (by decide) _ _ _ hown rfl rfl rfl (by simp [Value.oneCell']) (by unfold maxLen; omega) (by omega) hbs ?_; intro v' w4 hown4 hgrow hnn)
                go_roundg (go - 1)
                case measure => omega
                case rel =>
                  refine ⟨k + 1, by go_num, by omega, ?_, below_grown hb hgrow hown (Nat.le_refl _) hbs⟩
                  rw [unhide HSS, hin, if_pos rfl, opCells_snoc]
                  simpa [OpV.cells] using hown4
              | false =>
                go_wp2_with fail
                go_roundg (go - 1)
                case measure => omega
                case rel => exact ⟨k + 1, by go_num, by omega, by rw [unhide HSS, hin, if_neg (by decide), List.append_nil]; exact hown, hb⟩
      · have hkl2 : k = ops.length := by omega
        subst hkl2
        have hown2 := hown
        unfold selTo at hown2
        rw [List.take_length] at hown2
        have hdk : decide ((ops.length : Int) < (ops.length : Int)) = false := by simp
        have HO2 := hide hown2
        clear hown hown2 hsl
        go_wp2_with fail
        refine ((unhide HU) _ _ wo (unhide HSM) (unhide HO2) hb).mono ?_
        rintro e w5 ⟨rfl, hb5⟩
        go_wp2_with fail
        go_ret
        exact ⟨rfl, hb.trans (hb5.mono hbs)⟩
set_option maxRecDepth 100000 in
set_option maxHeartbeats 1600000 in
theorem step_solves (bw : Nat) (text : List UInt8) (px pf : Option Addr) (proof : List UInt8) (o : OpV) (c4 c5 c6 : Value) (w : World) (hw : WAt w bw text px pf proof c4 c5 c6) (hF : FTxt (bw + 1) w text px pf) (hk : o.kind = 3) (ht : TabAt w) :
    Calls Tryz.prog 19 #[.pointer (some ⟨bw, 0, none⟩), .agg #[.int .i64 o.kind, .int .i64 o.a, .int .i64 o.b, .int .i64 o.c, S o.s, S o.t]] w fun e w' => StepPostU bw text proof o c4 c5 c6 w e w' := by
  obtain ⟨kind, a, b, c, s, t⟩ := o
  dsimp only at hk ⊢
  subst hk
  have hbw : bw < w.heap.size := blk_lt hw
  have h1 : w.cell? ⟨bw, 1, none⟩ = some (.pointer px) := by rw [blk_cell hw]; rfl
  have hbel : Below w.heap.size w (w.alloc (.cells #[.int .i64 3, .int .i64 a, .int .i64 b, .int .i64 c, S s, S t] 29)) := (Below.refl _ _).alloc (Nat.le_refl _) _
  have hFo : ∀ w' : World, Only (· = bw) w w' → FTxt (bw + 1) w' text px pf := fun w' hb => hF.only hb here_foreign
  have HFo := hide hFo
  clear hFo
  rcases hF with ⟨rfl, rfl⟩ | ⟨b1, b2, st, q0, rfl, rfl, hP, hR, hS, ⟨h24, hN⟩, hln⟩
  · go_enter Tryz.func19, Tryz.ntmps19
    go_wp2_with fail
    go_ret
    exact ⟨rfl, Only.of_below hbel, text, none, none, proof, hw.later hbel, by simp; omega, by simp; omega, unhide HFo _ (Only.of_below hbel)⟩
  · have hC : Calls Tryz.prog 32 #[.pointer (some ⟨bw, 0, none⟩), .int .i64 a, .int .i64 b] (w.alloc (.cells #[.int .i64 3, .int .i64 a, .int .i64 b, .int .i64 c, S s, S t] 29)) fun e w' => SolvesPost bw text proof (some ⟨b1, 0, none⟩) (some ⟨b2, 0, none⟩) c4 c5 c6 (w.alloc (.cells #[.int .i64 3, .int .i64 a, .int .i64 b, .int .i64 c, S s, S t] 29)) e w' := by
      by_cases hbad : a < 0 ∨ 1048576 < a ∨ b < 0 ∨ 64 < b
      · exact solves_bad bw b1 b2 (bw + 1) (qFinish q0) a b text proof c4 c5 c6 _ (hw.later hbel) hln hbad
      · obtain ⟨bn, rfl⟩ : ∃ n : Nat, a = (n : Int) := ⟨a.toNat, by omega⟩
        obtain ⟨ln, rfl⟩ : ∃ n : Nat, b = (n : Int) := ⟨b.toNat, by omega⟩
        exact solves_ok bw b1 b2 (bw + 1) st q0 bn ln text proof c4 c5 c6 _ (hw.later hbel) (hP.later hbel) (hR.later hbel) hS h24 hN hln (ht.later hbel) (by omega) (by omega)
    have HC := hide hC
    clear hC hP hR hS h24 hN hln ht
    go_enter Tryz.func19, Tryz.ntmps19
    go_wp2_with fail
    refine (unhide HC).mono ?_
    rintro e w2 ⟨rfl, ho2, proof', hw2, hp2⟩
    have ho := (Only.of_below (T := (· = bw)) hbel).trans ho2
    go_wp2_with fail
    go_ret
    exact ⟨rfl, ho, text, _, _, proof', hw2, by simp; omega, by simp; omega, unhide HFo _ ho⟩
theorem stepS_any (bw : Nat) (text : List UInt8) (px pf : Option Addr) (proof : List UInt8) (o : OpV) (c4 c5 c6 : Value) (w : World) (hw : WAt w bw text px pf proof c4 c5 c6) (hF : FTxt (bw + 1) w text px pf) (hk : inB [3] o.kind = true)
    (hok : o.Ok) (hpl : proof.length ≤ 1048576) (htl : text.length ≤ 1048576) (hsl : o.s.length ≤ 1048576) (ht : TabAt w) :
    Calls Tryz.prog 19 #[.pointer (some ⟨bw, 0, none⟩), .agg #[.int .i64 o.kind, .int .i64 o.a, .int .i64 o.b, .int .i64 o.c, S o.s, S o.t]] w fun e w' => StepPostU bw text proof o c4 c5 c6 w e w' := by
  unfold inB at hk
  rw [Bool.or_eq_true] at hk
  rcases hk with hk | hk
  · exact step_baseT bw text px pf proof o c4 c5 c6 w hw hF hk hok hpl htl hsl
  · have : o.kind = 3 := by simp at hk; exact hk.symm
    exact step_solves bw text px pf proof o c4 c5 c6 w hw hF this ht
set_option maxRecDepth 100000 in
set_option maxHeartbeats 3200000 in
theorem upTo_solves (base : Nat) (ops : List OpV) (v : Value) (w : World) (hown : w.ownsRow base 29 6 v ops.length (opCells ops)) (hall : ∀ o ∈ ops, inB [3] o.kind = true ∧ o.Ok) (hsz : sizeTo ops ops.length ≤ 524288) (hln : ops.length ≤ 1048576) (ht : TabAt w) :
    Calls Tryz.prog 14 #[v] w fun e w' => e = .returned (.int .i64 (-1)) ∧ Below w.heap.size w w' := by
  obtain ⟨aS, cS, rfl⟩ := own_form hown
  have HALL := hide hall; clear hall
  go_enter Tryz.func14, Tryz.ntmps14
  go_wp2_with fail
  go_loopg [4] (ops.length) (fun n i wx => ∃ (k : Nat) (text : List UInt8) (px pf : Option Addr) (proof : List UInt8), i = .int .i64 k ∧ k + n = ops.length ∧ WAt wx w.heap.size text px pf proof (.slice none 0 0) (.slice none 0 0) (.slice none 0 0) ∧
    text.length ≤ sizeTo ops k ∧ proof.length ≤ 262144 + sizeTo ops k ∧ Below w.heap.size w wx ∧ FTxt (w.heap.size + 1) wx text px pf)
  case atStart => exact ⟨0, [], none, none, [], rfl, by omega, heap_alloc_new _ _, by simp, by simp, (Below.refl _ _).alloc (Nat.le_refl _) _, Or.inl ⟨rfl, rfl⟩⟩
  case round =>
    obtain ⟨k, text, px, pf, proof, rfl, hk, hw, htl, hpl, hb, hF⟩ := hrel
    by_cases hlt : k < ops.length
    · obtain ⟨g, cap, hV, hg, hg', _, hcell⟩ := own_pos hown (by omega)
      injection hV with hV _ hV2
      subst hV hV2
      have hc : ∀ j (hj : j < 6) u, ops[k].cells[j]? = some u → wr.cell? ⟨g, k * 6 + j, none⟩ = some u := fun j hj u hu => by
        rw [hb.cell (p := ⟨g, k * 6 + j, none⟩) hg']
        exact hcell _ _ (by rw [opCells_at ops k j hlt hj]; exact hu)
      have hc0 : wr.cell? ⟨g, k * 6, none⟩ = some (.int .i64 ops[k].kind) := hc 0 (by omega) _ rfl
      have hc1 : wr.cell? ⟨g, k * 6 + 1, none⟩ = some (.int .i64 ops[k].a) := hc 1 (by omega) _ rfl
      have hc2 : wr.cell? ⟨g, k * 6 + 2, none⟩ = some (.int .i64 ops[k].b) := hc 2 (by omega) _ rfl
      have hc3 : wr.cell? ⟨g, k * 6 + 3, none⟩ = some (.int .i64 ops[k].c) := hc 3 (by omega) _ rfl
      have hc4 : wr.cell? ⟨g, k * 6 + 4, none⟩ = some (S ops[k].s) := hc 4 (by omega) _ rfl
      have hc5 : wr.cell? ⟨g, k * 6 + 5, none⟩ = some (S ops[k].t) := hc 5 (by omega) _ rfl
      obtain ⟨hbase, hok⟩ := unhide HALL _ (List.getElem_mem hlt)
      have hss := sizeTo_succ ops k hlt
      have hsl := sizeTo_le ops (k + 1) (by omega)
      have hl1 : ops[k].s.length ≤ 1048576 := by omega
      have hl2 : text.length ≤ 1048576 := by omega
      have hl3 : proof.length ≤ 1048576 := by omega
      have HSS := hide hss
      have HB := hide hbase
      clear hc hcell hss hbase
      generalize ops[k] = o at *
      go_wp2_with fail
      refine (stepS_any w.heap.size text px pf proof o _ _ _ wr hw hF (unhide HB) hok hl3 hl2 hl1 (ht.later hb)).mono ?_
      rintro e w2 ⟨rfl, ho, text', px', pf', proof', hw2, ht2, hp2, hF2⟩
      have hb2 : Below w.heap.size w w2 := hb.trans (ho.below hb.size (fun k hk h => by omega))
      go_wp2_with fail
      refine (looks_none w.heap.size text' px' pf' proof' _ w2 hw2).mono ?_
      rintro e w3 ⟨rfl, hw3⟩
      subst hw3
      go_wp2_with fail
      go_roundg (gk - 1)
      case measure => omega
      case rel =>
        have := unhide HSS
        exact ⟨k + 1, text', px', pf', proof', by go_num, by omega, hw2, by omega, by omega, hb2, hF2⟩
    · have hkl : k = ops.length := by omega
      subst hkl
      have h4 : wr.cell? ⟨w.heap.size, 4, none⟩ = some (.slice none 0 0) := by rw [blk_cell hw]; rfl
      go_wp2_with fail
      refine wp_loop_rounds 1 ?_
      rw [rounds_succ]
      go_wp2_with fail
      go_ret
      exact ⟨rfl, hb⟩
set_option maxRecDepth 100000 in
set_option maxHeartbeats 800000 in
theorem solves_law (ops : List OpV) (ao : Option Addr) (cap : Nat) (w : World) (hs : ScriptAt w ao ops) (hsz : Sized ops) (hln : ops.length ≤ 140737488355328) (hok : ∀ o ∈ ops, o.Ok) (ht : TabAt w) :
    Calls Tryz.prog 6 #[.slice ao ops.length cap] w fun e w' => e = .returned (.bool true) ∧ Below w.heap.size w w' := by
  have HOK := hide hok; clear hok
  have HU : Hid (∀ (base : Nat) (v : Value) (w' : World), smallB ops = true → w'.ownsRow base 29 6 v (ops.filter (fun o => inB [3] o.kind)).length (opCells (ops.filter (fun o => inB [3] o.kind))) → Below (w.alloc (.cells #[.int .i64 3] 3)).heap.size (w.alloc (.cells #[.int .i64 3] 3)) w' → Calls Tryz.prog 14 #[v] w' fun e w'' => e = .returned (.int .i64 (-1)) ∧ Below w'.heap.size w' w'') := hide (by
    intro base v w' hsm hown hbel
    have ht' : TabAt w' := (ht.later ((Below.refl w.heap.size w).alloc (Nat.le_refl _) (.cells #[.int .i64 3] 3))).later hbel
    have h1 : totTo ops ops.length ≤ 524288 := of_decide_eq_true hsm
    have h2 := filter_sizes (fun o => inB [3] o.kind) ops
    have h3 : (ops.filter (fun o => inB [3] o.kind)).length ≤ ops.length := List.length_filter_le _ _
    have h4 := totTo_le ops 0 (by omega)
    rw [totTo_zero] at h4
    refine upTo_solves base _ v w' hown ?_ (by omega) (by omega) ht'
    intro o ho
    rw [List.mem_filter] at ho
    exact ⟨ho.2, unhide HOK o ho.1⟩)
  go_enter Tryz.func6, Tryz.ntmps6
  go_wp2_with fail
  have hbel : Below w.heap.size w (w.alloc (.cells #[.int .i64 3] 3)) := (Below.refl _ _).alloc (Nat.le_refl _) _
  have hs' : ScriptAt (w.alloc (.cells #[.int .i64 3] 3)) ao ops := by
    intro hne
    obtain ⟨b, off, h1, h2, h3⟩ := hs hne
    exact ⟨b, off, h1, Nat.lt_of_lt_of_le h2 hbel.size, fun k hk j hj u hu => by rw [hbel.cell (p := ⟨b, off + (k * 6 + j), none⟩) h2]; exact h3 k hk j hj u hu⟩
  refine (plays_below ops ao cap [3] (some ⟨w.heap.size, 0, none⟩) 1 _ hs' (fun _ => ⟨w.heap.size, 0, rfl, by simp, fun j hj => by
    have hj0 : j = 0 := by simp at hj; omega
    subst hj0
    rw [blk_cell (heap_alloc_new w _)]; rfl⟩) hsz hln (by simp) HU).mono ?_
  rintro e w1 ⟨rfl, hb⟩
  go_wp2_with fail
  go_ret
  exact ⟨rfl, below_trans hbel hb⟩
end Go.Proofs.YtgipjjhkhfihpaaGreatDoor

namespace Go.Proofs.YtgipjjhkhfihpaaGreatDoor
open Go.RowKit

/-! ### The table, out of the row's condition -/
theorem tabG : Tryz.prog.globalNamed "internal/strconv.uint64pow10" = some ((Tryz.prog.globalNamed "internal/strconv.uint64pow10").getD 0) := by kernel_rfl
theorem tabT : (Tryz.prog.globals[(Tryz.prog.globalNamed "internal/strconv.uint64pow10").getD 0]?).map (·.type) = some 206 := by kernel_rfl
theorem tab_of_third {d1 d2 : DataW Unit} {W : World} (h : laidMet Tryz.prog [("math/bits.deBruijn32tab", d1), ("math/bits.deBruijn64tab", d2), ("internal/strconv.uint64pow10", Lib.tabData .u64 Lib.pow10Tab)] W) : TabAt W := by
  obtain ⟨ps, hv, _⟩ := h
  obtain ⟨_, _, _, _, _, _, _, _, _, _, hv2, _⟩ := hv
  obtain ⟨_, _, _, _, _, _, _, _, _, _, hv3, _⟩ := hv2
  obtain ⟨g', t', cs, fuel, p, q, hg', ht', hvar, hd, _, _⟩ := hv3
  obtain rfl := Option.some.inj (tabG.symm.trans hg')
  obtain rfl := Option.some.inj (tabT.symm.trans ht')
  unfold TabAt Lib.TabIs
  rw [hvar, ← Lib.cells_of_tab (show Tryz.prog.underlying 206 = some (.array 20 200) by kernel_rfl) (show Tryz.prog.underlying 200 = some (.int .u64) by kernel_rfl) (by kernel_rfl) (by kernel_rfl) hd]
theorem tab_of_laid {W : World} (h : laidMetH Tryz.prog Rows.solvesRow.laid W) : TabAt W := by
  have hf : (Rows.solvesRow.laid.filter fun x => x.2.handleName?.isSome) = [] := by rfl
  unfold laidMetH at h
  rw [hf] at h
  exact tab_of_third h
end Go.Proofs.YtgipjjhkhfihpaaGreatDoor

namespace Go.Proofs.YtgipjjhkhfihpaaGreatDoor
open Go.ChangeShapes Go.WideShapes Go.ChangeAt Go.RowKit Go.Deep

set_option maxHeartbeats 1600000 in
set_option maxRecDepth 100000 in
theorem solves_lifted (os : Os) (started : os.Started) (H : Type) (enc : TypeId × Value → H) (F : Stop.Interp) :
    ReturnsInHanded {} Tryz.checked os 6 .any ((OpenSpec.ofChange Rows.solvesSpec).preRow enc Tryz.prog Tryz.f6 Rows.solvesRow.domain false Rows.solvesRow.laid) (((OpenSpec.ofChange Rows.solvesSpec).at F).post enc Tryz.prog Tryz.f6 false true false false) := by
  obtain ⟨places, hx⟩ : ∃ places, DataW.whole enc Tryz.prog ((World.doorLaid Tryz.prog 400 os).forCall (fun _ _ => 0) ⟨#[], #[.slice none 0 0], []⟩).memory Tryz.f6.params.toList Rows.solvesSpec.vars false #[Value.slice none 0 0].toList 8 = some ([.nil], [], places) := ⟨[], by kernel_rfl⟩
  refine returnsInHanded_of_row (C := Tryz.checked) (s := OpenSpec.ofChange Rows.solvesSpec) Tryz.own started (by kernel_rfl) Tryz.func6
    (witness_row_at (enc := enc) (C := Tryz.checked) false (World.doorLaid Tryz.prog 400 os) #[.slice none 0 0] rfl (by kernel_rfl) (by kernel_rfl) (by kernel_rfl)
      (OpenSpec.preRow_of_cond 8 hx (by kernel_rfl) (fun k hk => by cases hk) (by kernel_rfl) (door_met os _))) ?_
  intro W base args ds gs before hval0 hW _ _ hsz0 hL _ _
  have hsz : (DataW.weightsEach Tryz.prog (Tryz.f6.params.toList ++ Rows.solvesSpec.plain.varTypes Tryz.prog) (ds ++ gs)).all (· ≤ reachBytes) = true := hsz0
  clear hsz0
  have hval : ∀ (j : Nat) t v, Tryz.f6.params[j]? = some t → args[j]? = some v → Value.okWide Tryz.prog W .any base t v := hval0
  have hW' := hW
  obtain ⟨p, q, hA0, hV, rfl, hfz, hnd⟩ := hW
  have hA : DataW.TrodAll enc Tryz.prog W 0 (fun _ => true) true Tryz.f6.params.toList args.toList ds p := hA0
  rw [Tryz.params6] at hA hval hsz
  obtain ⟨v0, d0, rfl, rfl, h0⟩ := trodAll_one hA
  obtain ⟨rfl, rfl⟩ := trodVars_none hV
  obtain ⟨a0, len, cap, rfl⟩ := okWide_slice Tryz.underlying22 (hval 0 22 v0 rfl rfl)
  have k0 := h0
  have lt0 : ∀ x ∈ p, x.block < W.heap.size := by obtain ⟨m, hm⟩ := k0; exact DataW.trod_lt m _ _ _ hm
  obtain ⟨fuel, hf⟩ := h0
  clear hA0 hval0 hA
  simp only [List.append_nil] at hW'
  obtain ⟨ops, hlen, hsc, hok, hdat⟩ := open_script (show DataW.trod enc Tryz.prog W 0 (fun _ => true) true fuel 22 [.slice a0 len cap] = some (d0, p) from hf)
  have hsize : Sized ops ∧ ops.length ≤ 140737488355328 := by
    rcases hdat with ⟨rfl, _⟩ | ⟨sp, hx⟩
    · exact ⟨fun o ho => by simp at ho, by simp⟩
    · have hd : d0 = .slice (ops.map OpV.data) sp := hx
      subst hd
      exact sized_script (sp := sp) hsz
  subst hlen
  refine (solves_law ops a0 cap W hsc hsize.1 hsize.2 hok (tab_of_laid hL)).mono fun e W' ⟨he, bel⟩ => ?_
  subst he
  exact ⟨_, rfl, _, _, _, [], _, [], hW', trodAll_mk1 (shut_bool Tryz.underlying4 _), trodAll_mk1 (Below.trod Tryz.laidOut (by kernel_rfl) (of_decide_eq_true (by kernel_rfl)) k0 bel lt0), rfl, bel.frame _, fun h => by cases h⟩

theorem solves_said : Rows.SolvesSaid :=
  OpenClaim.holds_of_cond 6 Tryz.f6 rfl rfl rfl rfl rfl rfl rfl ⟨rfl, rfl, rfl, rfl, rfl⟩ rfl rfl rfl rfl rfl (by kernel_rfl) Tryz.func6 (by kernel_rfl)
    (of_decide_eq_true (by kernel_rfl)) (by unfold Func.isWrapper; first | (rw [if_pos (by decide +kernel)]; kernel_rfl) | (rw [if_neg (by decide +kernel)]; exact ⟨rfl, rfl⟩))
    (fun os started H enc _ F => by rw [OpenClaim.pre_eq_preRow]; exact solves_lifted os started H enc F)
/-- No parameter wants a stand-in; the program's own looks are off. -/
theorem solves_plain (f : FuncId) (fn : Func) (hf : Tryz.pinned.checked.prog.funcNamed "duel/duellaw.Solves" = some f) (hfn : Tryz.pinned.checked.prog.funcs[f]? = some fn) :
    false = Tryz.pinned.checked.prog.looks [] ∧ ∀ (j : Nat) t, fn.params[j]? = some t → Tryz.pinned.checked.prog.wantsStandIn t = false := by
  obtain rfl : f = 6 := Option.some.inj ((show Tryz.prog.funcNamed "duel/duellaw.Solves" = some 6 by kernel_rfl).symm.trans hf) |>.symm
  obtain rfl : fn = Tryz.f6 := (Option.some.inj (Tryz.func6.symm.trans hfn)).symm
  refine ⟨by kernel_rfl, fun j t ht => ?_⟩
  rw [Tryz.params6] at ht
  obtain rfl : t = 22 := by simpa using Array.mem_of_getElem? ht
  exact (show Tryz.prog.wantsStandIn 22 = false by kernel_rfl)
theorem solves_holds : Rows.SolvesCardSaid :=
  Claim7.holds_tied_plain_at .later [] _ _ _ _ solves_said (fun _ h => by cases h) (by kernel_rfl) (fun _ h => by cases h) solves_row_tie rfl ⟨rfl, rfl⟩ (by kernel_rfl) rfl solves_plain (by kernel_rfl)
#print axioms solves_holds
end Go.Proofs.YtgipjjhkhfihpaaGreatDoor
