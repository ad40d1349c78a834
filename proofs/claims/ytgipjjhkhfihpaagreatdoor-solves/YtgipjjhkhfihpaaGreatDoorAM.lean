import Derived.Test.YtgipjjhkhfihpaaGreatDoorAK
import Derived.Test.YtgipjjhkhfihpaaGreatDoorAL
import Derived.Test.YtgipjjhkhfihpaaGreatDoorAB
import Derived.Test.YtgipjjhkhfihpaaGreatDoorAJ
import Derived.Deep.QuietTactic
import Derived.BigQuiet
namespace Go.Proofs.YtgipjjhkhfihpaaGreatDoor
open Go.RowKit

/-- The law's world: its seven cells. -/
def WAt (w : World) (bw : Nat) (text : List UInt8) (px pf : Option Addr) (proof : List UInt8) (c4 c5 c6 : Value) : Prop :=
  w.heap[bw]? = some (.cells #[S text, .pointer px, .pointer pf, S proof, c4, c5, c6] 48 (0, 0))
theorem WAt.later {w w' : World} {bw : Nat} {text : List UInt8} {px pf : Option Addr} {proof : List UInt8} {c4 c5 c6 : Value} (h : WAt w bw text px pf proof c4 c5 c6) (hb : Below w.heap.size w w') : WAt w' bw text px pf proof c4 c5 c6 :=
  (hb.block bw (blk_lt h)).trans h

/-- Both formulas, or none. -/
def FPair (lo : Nat) (w : World) (px pf : Option Addr) : Prop :=
  (px = none ∧ pf = none) ∨ ∃ b b' st q0, px = some ⟨b, 0, none⟩ ∧ pf = some ⟨b', 0, none⟩ ∧ ProgAt lo w b (qFinish q0) ∧ RefAt lo w b' (finish st) ∧ Same st q0 ∧ q0.cl.length ≤ 24 ∧ QNice q0

theorem RefAt.later {lo b : Nat} {w w' : World} {F : Form} (h : RefAt lo w b F) (hb : Below w.heap.size w w') : RefAt lo w' b F := by
  obtain ⟨h1, vO, vE, vC, h2, h3, h4, h5⟩ := h
  exact ⟨h1, vO, vE, vC, (hb.block b (blk_lt h2)).trans h2, own_below h3 hb, own_below h4 hb, own_below h5 hb⟩
theorem ProgAt.later {lo b : Nat} {w w' : World} {q : QS} (h : ProgAt lo w b q) (hb : Below w.heap.size w w') : ProgAt lo w' b q := by
  obtain ⟨h1, vV, vC, h2, h3, h4⟩ := h
  exact ⟨h1, vV, vC, (hb.block b (blk_lt h2)).trans h2, own_below h3 hb, own_below h4 hb⟩
/-- A store below lo. -/
theorem RefAt.set {lo b bw o : Nat} {w : World} {F : Form} {u : Value} (h : RefAt lo w b F) (hlt : bw < lo) : RefAt lo (w.setCell ⟨bw, o, none⟩ u) b F := by
  obtain ⟨h1, vO, vE, vC, h2, h3, h4, h5⟩ := h
  exact ⟨h1, vO, vE, vC, (Below.heap_setCell _ _ _ _ (by show b ≠ bw; omega)).trans h2, ownsRow_setCell_below h3 (a := ⟨bw, o, none⟩) hlt u, ownsRow_setCell_below h4 (a := ⟨bw, o, none⟩) hlt u, ownsRow_setCell_below h5 (a := ⟨bw, o, none⟩) hlt u⟩
theorem ProgAt.set {lo b bw o : Nat} {w : World} {q : QS} {u : Value} (h : ProgAt lo w b q) (hlt : bw < lo) : ProgAt lo (w.setCell ⟨bw, o, none⟩ u) b q := by
  obtain ⟨h1, vV, vC, h2, h3, h4⟩ := h
  exact ⟨h1, vV, vC, (Below.heap_setCell _ _ _ _ (by show b ≠ bw; omega)).trans h2, ownsRow_setCell_below h3 (a := ⟨bw, o, none⟩) hlt u, ownsRow_setCell_below h4 (a := ⟨bw, o, none⟩) hlt u⟩
theorem FPair.set {lo bw o : Nat} {w : World} {px pf : Option Addr} {u : Value} (h : FPair lo w px pf) (hlt : bw < lo) : FPair lo (w.setCell ⟨bw, o, none⟩ u) px pf := by
  rcases h with h | ⟨b, b', st, q0, h1, h2, h3, h4, h5⟩
  · exact Or.inl h
  · exact Or.inr ⟨b, b', st, q0, h1, h2, h3.set hlt, h4.set hlt, h5⟩
theorem ProgAt.lo {lo lo' b : Nat} {w : World} {q : QS} (h : ProgAt lo w b q) (hl : lo' ≤ lo) : ProgAt lo' w b q := by
  obtain ⟨h1, vV, vC, h2, h3, h4⟩ := h
  exact ⟨by omega, vV, vC, h2, own_lo h3 hl, own_lo h4 hl⟩
theorem RefAt.lo {lo lo' b : Nat} {w : World} {F : Form} (h : RefAt lo w b F) (hl : lo' ≤ lo) : RefAt lo' w b F := by
  obtain ⟨h1, vO, vE, vC, h2, h3, h4, h5⟩ := h
  exact ⟨by omega, vO, vE, vC, h2, own_lo h3 hl, own_lo h4 hl, own_lo h5 hl⟩

/-- A block that is below lo, or of none of these types. -/
def Foreign (lo : Nat) (w : World) (ts : List TypeId) (k : Nat) : Prop := k < lo ∨ ∃ cs t fr, w.heap[k]? = some (.cells cs t fr) ∧ t ∉ ts
theorem own_only {w w' : World} {T : Nat → Prop} {base : Nat} {e : TypeId} {size : Nat} {v : Value} {n : Nat} {xs : List Value} {ts : List TypeId} (h : w.ownsRow base e size v n xs) (ho : Only T w w') (he : e ∈ ts) (hT : ∀ k, k < w.heap.size → T k → Foreign base w ts k) : w'.ownsRow base e size v n xs := by
  obtain ⟨h1, h2⟩ := h
  refine ⟨h1, ?_⟩
  rcases h2 with h2 | ⟨g, cap, cur, rfl, hg, hh, h3⟩
  · exact Or.inl h2
  · refine Or.inr ⟨g, cap, cur, rfl, hg, ?_, h3⟩
    rw [ho.block g (blk_lt hh) (fun ht => ?_)]
    · exact hh
    · rcases hT g (blk_lt hh) ht with h | ⟨cs, t, fr, h4, h5⟩
      · omega
      · rw [hh] at h4
        simp at h4
        exact h5 (h4.2.1 ▸ he)
theorem blk_only {w w' : World} {T : Nat → Prop} {lo b : Nat} {cs : Array Value} {t : TypeId} {fr : Nat × Nat} {ts : List TypeId} (h : w.heap[b]? = some (.cells cs t fr)) (hlo : lo ≤ b) (ho : Only T w w') (he : t ∈ ts) (hT : ∀ k, k < w.heap.size → T k → Foreign lo w ts k) : w'.heap[b]? = some (.cells cs t fr) := by
  rw [ho.block b (blk_lt h) (fun ht => ?_)]
  · exact h
  · rcases hT b (blk_lt h) ht with h1 | ⟨cs', t', fr', h4, h5⟩
    · omega
    · rw [h] at h4
      simp at h4
      exact h5 (h4.2.1 ▸ he)
def formTypes : List TypeId := [64, 139, 74, 92, 3, 121]
theorem ProgAt.only {lo b : Nat} {w w' : World} {q : QS} {T : Nat → Prop} (h : ProgAt lo w b q) (ho : Only T w w') (hT : ∀ k, k < w.heap.size → T k → Foreign lo w formTypes k) : ProgAt lo w' b q := by
  obtain ⟨h1, vV, vC, h2, h3, h4⟩ := h
  exact ⟨h1, vV, vC, blk_only h2 h1 ho (by decide) hT, own_only h3 ho (by decide) hT, own_only h4 ho (by decide) hT⟩
theorem RefAt.only {lo b : Nat} {w w' : World} {F : Form} {T : Nat → Prop} (h : RefAt lo w b F) (ho : Only T w w') (hT : ∀ k, k < w.heap.size → T k → Foreign lo w formTypes k) : RefAt lo w' b F := by
  obtain ⟨h1, vO, vE, vC, h2, h3, h4, h5⟩ := h
  exact ⟨h1, vO, vE, vC, blk_only h2 h1 ho (by decide) hT, own_only h3 ho (by decide) hT, own_only h4 ho (by decide) hT, own_only h5 ho (by decide) hT⟩
theorem FPair.only {lo : Nat} {w w' : World} {px pf : Option Addr} {T : Nat → Prop} (h : FPair lo w px pf) (ho : Only T w w') (hT : ∀ k, k < w.heap.size → T k → Foreign lo w formTypes k) : FPair lo w' px pf := by
  rcases h with h | ⟨b, b', st, q0, h1, h2, h3, h4, h5⟩
  · exact Or.inl h
  · exact Or.inr ⟨b, b', st, q0, h1, h2, h3.only ho hT, h4.only ho hT, h5⟩
theorem FPair.lo {lo lo' : Nat} {w : World} {px pf : Option Addr} (h : FPair lo w px pf) (hl : lo' ≤ lo) : FPair lo' w px pf := by
  rcases h with h | ⟨b, b', st, q0, h1, h2, h3, h4, h5⟩
  · exact Or.inl h
  · exact Or.inr ⟨b, b', st, q0, h1, h2, h3.lo hl, h4.lo hl, h5⟩

set_option maxRecDepth 100000 in
set_option maxHeartbeats 400000 in
theorem pick_any (c : Int) (n : Nat) (w : World) (hn : 0 < n) (hn2 : n ≤ 1048576) (h1 : -9223372036854775808 ≤ c) (h2 : c ≤ 9223372036854775807) :
    Calls Tryz.prog 29 #[.int .i64 c, .int .i64 n] w fun e w' => ∃ r : Nat, e = .returned (.int .i64 r) ∧ r < n ∧ w' = w := by
  by_cases hc : c < 0
  · have hd : decide (c < 0) = true := by simpa using hc
    go_enter Tryz.func29, Tryz.ntmps29
    go_wp2_with fail
    go_ret
    have e : -((c + 1).tmod n) = (-(c + 1)) % n := by rw [← Int.neg_tmod, Int.tmod_eq_emod_of_nonneg (by omega)]
    have e1 := Int.emod_nonneg (-(c + 1)) (show (n : Int) ≠ 0 by omega)
    have e2 := Int.emod_lt_of_pos (-(c + 1)) (show (0 : Int) < n by omega)
    refine ⟨((-(c + 1)) % n).toNat, ret_int ?_, by omega, rfl⟩
    omega
  · have hd : decide (c < 0) = false := by simpa using hc
    go_enter Tryz.func29, Tryz.ntmps29
    go_wp2_with fail
    go_ret
    refine ⟨(c % n).toNat, ?_, ?_, rfl⟩
    · refine ret_int ?_
      have := Int.emod_nonneg c (show (n : Int) ≠ 0 by omega)
      omega
    · have := Int.emod_nonneg c (show (n : Int) ≠ 0 by omega)
      have := Int.emod_lt_of_pos c (show (0 : Int) < n by omega)
      omega

def BendPost (bw : Nat) (text : List UInt8) (px pf : Option Addr) (proof : List UInt8) (c4 c5 c6 : Value) (w : World) (e : Ending) (w' : World) : Prop :=
  e = .returned (.tuple #[]) ∧ Only (· = bw) w w' ∧ ∃ proof' : List UInt8, proof'.length ≤ proof.length ∧ WAt w' bw text px pf proof' c4 c5 c6

theorem WAt.setProof {w : World} {bw : Nat} {text : List UInt8} {px pf : Option Addr} {proof : List UInt8} {c4 c5 c6 : Value} (h : WAt w bw text px pf proof c4 c5 c6) (proof' : List UInt8) : WAt (w.setCell ⟨bw, 3, none⟩ (S proof')) bw text px pf proof' c4 c5 c6 := blk_set h 3 _

set_option maxRecDepth 100000 in
set_option maxHeartbeats 1600000 in
theorem bend_any (bw : Nat) (text : List UInt8) (px pf : Option Addr) (proof : List UInt8) (c4 c5 c6 : Value) (a c : Int) (w : World) (hw : WAt w bw text px pf proof c4 c5 c6) (hpl : proof.length ≤ 1048576)
    (ha1 : -9223372036854775808 ≤ a) (ha2 : a ≤ 9223372036854775807) (hc1 : -9223372036854775808 ≤ c) (hc2 : c ≤ 9223372036854775807) :
    Calls Tryz.prog 28 #[.pointer (some ⟨bw, 0, none⟩), .int .i64 a, .int .i64 c] w fun e w' => BendPost bw text px pf proof c4 c5 c6 w e w' := by
  have hbw : bw < w.heap.size := blk_lt hw
  have h3 : w.cell? ⟨bw, 3, none⟩ = some (S proof) := by rw [blk_cell hw]; rfl
  have z3 := blk_free hw 3
  by_cases hp : proof = []
  · subst hp
    go_enter Tryz.func28, Tryz.ntmps28
    go_wp2_with fail
    go_end0
    exact ⟨rfl, Only.refl _ _, [], Nat.le_refl _, hw⟩
  · have hp0 : 0 < proof.length := List.length_pos_iff.2 hp
    have hpe : proof.isEmpty = false := by simpa using hp
    clear hp
    go_enter Tryz.func28, Tryz.ntmps28
    go_wp2_with fail
    refine (pick_any a proof.length w hp0 hpl ha1 ha2).mono ?_
    rintro e w1 ⟨r, rfl, hr, hw1⟩
    subst hw1
    have hr1 : r + 1 ≤ proof.length := by omega
    by_cases hc : c < 0
    · have hd : decide (0 ≤ c) = false := by simp; omega
      have HE : Hid (ByteArray.extract ⟨proof.toArray⟩ 0 r ++ ⟨#[]⟩ ++ ByteArray.extract ⟨proof.toArray⟩ (r + 1) proof.length = ⟨((proof.drop 0).take (r - 0) ++ [] ++ (proof.drop (r + 1)).take (proof.length - (r + 1))).toArray⟩) := hide (by
        rw [ba_extract, ba_extract, show (ByteArray.mk #[]) = ByteArray.mk ([] : List UInt8).toArray from rfl, ba_append, ba_append])
      go_wp2_with fail
      go_region
      all_goals go_wp2_with fail
      all_goals go_end0
      all_goals
        rw [unhide HE]
        refine ⟨rfl, ((Only.refl _ _).setAt _ _).drew, _, ?_, (hw.setProof _).later ((Below.refl _ _).drew)⟩
        simp; omega
    · have hd : decide (0 ≤ c) = true := by simp; omega
      have hcv := conv_byte (c % 256) (by omega) (by omega) w1
      have HE : Hid (∀ x : UInt8, ByteArray.extract ⟨proof.toArray⟩ 0 r ++ ⟨#[x]⟩ ++ ByteArray.extract ⟨proof.toArray⟩ (r + 1) proof.length = ⟨((proof.drop 0).take (r - 0) ++ [x] ++ (proof.drop (r + 1)).take (proof.length - (r + 1))).toArray⟩) := hide (by
        intro x
        rw [ba_extract, ba_extract, show (ByteArray.mk #[x]) = ByteArray.mk ([x] : List UInt8).toArray from rfl, ba_append, ba_append])
      go_wp2_with fail
      go_region
      all_goals go_wp2_with fail
      all_goals go_end0
      all_goals
        rw [unhide HE]
        refine ⟨rfl, (((Only.refl _ _).setAt _ _).alloc _).drew, _, ?_, (hw.setProof _).later (((Below.refl _ _).alloc (Nat.le_refl _) _).drew)⟩
        simp; omega

/-- The lists that were handed out are none yet. -/
theorem looks_none (bw : Nat) (text : List UInt8) (px pf : Option Addr) (proof : List UInt8) (c4 : Value) (w : World) (hw : WAt w bw text px pf proof c4 (.slice none 0 0) (.slice none 0 0)) :
    Calls Tryz.prog 20 #[.pointer (some ⟨bw, 0, none⟩)] w fun e w' => e = .returned (.bool true) ∧ w' = w := by
  have h5 : w.cell? ⟨bw, 5, none⟩ = some (.slice none 0 0) := by rw [blk_cell hw]; rfl
  have h6 : w.cell? ⟨bw, 6, none⟩ = some (.slice none 0 0) := by rw [blk_cell hw]; rfl
  go_enter Tryz.func20, Tryz.ntmps20
  go_wp2_with fail
  refine wp_loop_rounds 1 ?_
  rw [rounds_succ]
  go_wp2_with fail
  refine wp_loop_rounds 1 ?_
  rw [rounds_succ]
  go_wp2_with fail
  go_ret
  exact ⟨rfl, rfl⟩
end Go.Proofs.YtgipjjhkhfihpaaGreatDoor

namespace Go.Proofs.YtgipjjhkhfihpaaGreatDoor
open Go.RowKit

/-! ### Satisfied -/
def satC (c : Nat × Nat) (t : Nat) : Bool := !((c.1 &&& t == 0) && (less c.2 t == 0))
def satB (cl : List (Nat × Nat)) (t : Nat) : Bool := cl.all (satC · t)
theorem satB_take (cl : List (Nat × Nat)) (t k : Nat) (h : k < cl.length) : satB (cl.take (k + 1)) t = (satB (cl.take k) t && satC cl[k] t) := by
  unfold satB; rw [List.take_succ_eq_append_getElem h, List.all_append]; simp
theorem satB_of (cl : List (Nat × Nat)) (t k : Nat) (h : k < cl.length) (hc : satC cl[k] t = false) : satB cl t = false := by
  unfold satB; rw [List.all_eq_false]; exact ⟨cl[k], List.getElem_mem h, by rw [hc]; decide⟩
theorem nat_beq_zero (n : Nat) : ((n : Int) == 0) = (n == 0) := by
  rw [Bool.eq_iff_iff, beq_iff_eq, beq_iff_eq]; omega

set_option maxRecDepth 100000 in
set_option maxHeartbeats 1600000 in
theorem satisfied_any (lo b t : Nat) (F : Form) (w : World) (hR : RefAt lo w b F) (ht : t < 512) (hcl : ∀ c ∈ F.cl, c.1 < 512 ∧ c.2 < 512) (hl : F.cl.length ≤ 1073741824) :
    Calls Tryz.prog 40 #[.pointer (some ⟨b, 0, none⟩), .int .i64 t] w fun e w' => e = .returned (.bool (satB F.cl t)) ∧ Below w.heap.size w w' := by
  obtain ⟨_, vO, vE, vC, hfb, _, _, hC⟩ := hR
  obtain ⟨aC, cC, rfl⟩ := own_form hC
  have k3 : w.cell? ⟨b, 3, none⟩ = some (.slice aC F.cl.length cC) := by rw [blk_cell hfb]; rfl
  have hbl := blk_lt hfb
  have HCL := hide hcl; clear hcl
  go_enter Tryz.func40, Tryz.ntmps40
  go_wp2_with fail
  go_loopg [5] F.cl.length (fun q i wx => ∃ k : Nat, i = .int .i64 k ∧ k + q = F.cl.length ∧ satB (F.cl.take k) t = true ∧ Below w.heap.size w wx)
  case atStart => exact ⟨0, rfl, by omega, rfl, Below.refl _ _⟩
  case round =>
    obtain ⟨k, rfl, hk, hs, hb⟩ := hrel
    have HS := hide hs; clear hs
    have hbs := hb.size
    have x3 : wr.cell? ⟨b, 3, none⟩ = some (.slice aC F.cl.length cC) := by rw [hb.cell (p := ⟨b, 3, none⟩) hbl]; exact k3
    by_cases hlt : k < F.cl.length
    · obtain ⟨g, cap, hV, hg, hg', _, hcell⟩ := own_pos hC (by omega)
      injection hV with hV _ hV2
      subst hV hV2
      have hgw : g < wr.heap.size := by omega
      obtain ⟨ha, hb'⟩ := pairs_at F.cl k hlt
      have hx0 : wr.cell? ⟨g, k * 2, none⟩ = some (.int .i64 (F.cl[k].1 : Int)) := by rw [hb.cell (p := ⟨g, k * 2, none⟩) hg']; exact hcell _ _ ha
      have hx1 : wr.cell? ⟨g, k * 2 + 1, none⟩ = some (.int .i64 (F.cl[k].2 : Int)) := by rw [hb.cell (p := ⟨g, k * 2 + 1, none⟩) hg']; exact hcell _ _ hb'
      have HT := hide (satB_take F.cl t k hlt)
      have HO := hide (satB_of F.cl t k hlt)
      obtain ⟨hb1, hb2⟩ := unhide HCL _ (List.getElem_mem hlt)
      clear hcell ha hb'
      generalize F.cl[k] = c at *
      obtain ⟨p, n⟩ := c
      dsimp only at hx0 hx1 hb1 hb2
      have h1 : (bits .and .i64 (p : Int) (t : Int) == 0) = (p &&& t == 0) := by rw [i64_and _ _ (by omega) (by omega), nat_beq_zero]
      have h2 : (bits .andNot .i64 (n : Int) (t : Int) == 0) = (less n t == 0) := by rw [i64_andNot _ _ (by omega) (by omega), nat_beq_zero]
      have HC : Hid (satC (p, n) t = !((p &&& t == 0) && (less n t == 0))) := hide rfl
      cases e1 : (p &&& t == 0) with
      | false =>
        rw [e1] at h1
        have HC1 : Hid (satC (p, n) t = true) := hide (by rw [unhide HC, e1]; rfl)
        clear e1
        go_wp2_with fail
        go_roundg (gk - 1)
        case measure => omega
        case rel => exact ⟨k + 1, by go_num, by omega, by rw [unhide HT, unhide HS, unhide HC1]; rfl, hb⟩
      | true =>
        rw [e1] at h1
        cases e2 : (less n t == 0) with
        | false =>
          rw [e2] at h2
          have HC1 : Hid (satC (p, n) t = true) := hide (by rw [unhide HC, e1, e2]; rfl)
          clear e1 e2
          go_wp2_with fail
          go_roundg (gk - 1)
          case measure => omega
          case rel => exact ⟨k + 1, by go_num, by omega, by rw [unhide HT, unhide HS, unhide HC1]; rfl, hb⟩
        | true =>
          rw [e2] at h2
          have HF : Hid (satB F.cl t = false) := hide (unhide HO (by rw [unhide HC, e1, e2]; rfl))
          clear e1 e2
          go_wp2_with fail
          go_ret
          exact ⟨ret_bool (unhide HF).symm, hb⟩
    · have hkl : k = F.cl.length := by omega
      subst hkl
      have hs := unhide HS
      rw [List.take_length] at hs
      have HF := hide hs; clear hs
      go_wp2_with fail
      go_ret
      exact ⟨ret_bool (unhide HF).symm, hb⟩
end Go.Proofs.YtgipjjhkhfihpaaGreatDoor

namespace Go.Proofs.YtgipjjhkhfihpaaGreatDoor
open Go.RowKit

theorem bits_apart {a b : Nat} (h : a &&& b = 0) (v : Nat) (ha : a.testBit v = true) (hb : b.testBit v = true) : False := by
  have : (a &&& b).testBit v = true := by rw [Nat.testBit_and, ha, hb]; rfl
  rw [h] at this; simp at this
theorem apart_bits {a b : Nat} (h : ∀ v, a.testBit v = true → b.testBit v = true → False) : a &&& b = 0 := by
  apply Nat.eq_of_testBit_eq
  intro v
  rw [Nat.testBit_and, Nat.zero_testBit]
  cases ha : a.testBit v with
  | false => rfl
  | true =>
    cases hb : b.testBit v with
    | false => rfl
    | true => exact (h v ha hb).elim
theorem some_bit {a : Nat} (h : a ≠ 0) : ∃ v, a.testBit v = true := by
  apply Classical.byContradiction
  intro hn
  apply h
  apply Nat.eq_of_testBit_eq
  intro v
  rw [Nat.zero_testBit]
  cases hv : a.testBit v with
  | false => rfl
  | true => exact (hn ⟨v, hv⟩).elim

theorem getD_at {α : Type} (l : List α) (k : Nat) (d : α) (h : k < l.length) : l.getD k d = l[k] := by
  rw [List.getD, List.getElem?_eq_getElem h]; rfl
/-- What is so of a formula that was read. -/
structure FOk (F : Form) : Prop where
  nodup : F.order.Nodup
  names : ∀ v ∈ F.order, 1 ≤ v ∧ v ≤ 8
  bits : ∀ c ∈ F.cl, Bd c
  vars : ∀ c ∈ F.cl, ∀ v, c.1.testBit v = true ∨ c.2.testBit v = true → v ∈ F.order

theorem good_ax {F : Form} (hF : FOk F) {c : Nat × Nat} (hc : c ∈ F.cl) (ha : c.1 &&& c.2 = 0) : Good (satB F.cl) F.all true F.order c := by
  refine ⟨fun v h1 h2 => bits_apart ha v h1 h2, hF.vars c hc, fun t ht => ?_⟩
  have hs := ht.leaf
  unfold satB at hs
  rw [List.all_eq_true] at hs
  have hs := hs c hc
  unfold satC at hs
  rw [Bool.not_eq_true', Bool.and_eq_false_iff, beq_eq_false_iff_ne, beq_eq_false_iff_ne] at hs
  rcases hs with hs | hs
  · obtain ⟨v, hv⟩ := some_bit hs
    rw [Nat.testBit_and, Bool.and_eq_true] at hv
    exact ⟨v, Or.inl hv⟩
  · obtain ⟨v, hv⟩ := some_bit hs
    rw [testBit_less, Bool.and_eq_true, Bool.not_eq_true'] at hv
    exact ⟨v, Or.inr hv⟩
theorem good_cube {F : Form} {c : Nat × Nat} (h1 : ∀ v, c.1.testBit v = true → c.2.testBit v = true → False) (h2 : ∀ v, c.1.testBit v = true ∨ c.2.testBit v = true → v ∈ F.order) (h3 : satR F.cl c = true) : Good (satB F.cl) F.all false F.order c := by
  refine ⟨h1, h2, fun t ht => ?_⟩
  have hs := ht.leaf
  unfold satB at hs
  rw [List.all_eq_false] at hs
  obtain ⟨x, hx, hs⟩ := hs
  have hs : satC x t = false := by simpa using hs
  unfold satC at hs
  rw [Bool.not_eq_false', Bool.and_eq_true, beq_iff_eq, beq_iff_eq] at hs
  obtain ⟨hp, hn⟩ := hs
  have hp' : ∀ v, x.1.testBit v = true → t.testBit v = false := fun v hv => by
    cases ht : t.testBit v with
    | false => rfl
    | true => exact (bits_apart hp v hv ht).elim
  have hn' : ∀ v, x.2.testBit v = true → t.testBit v = true := fun v hv => by
    cases ht : t.testBit v with
    | true => rfl
    | false =>
      have : (less x.2 t).testBit v = true := by rw [testBit_less, hv, ht]; rfl
      rw [hn] at this; simp at this
  unfold satR at h3
  rw [List.all_eq_true] at h3
  have hm := h3 x hx
  unfold missed at hm
  rw [Bool.not_eq_true', Bool.and_eq_false_iff, Bool.and_eq_false_iff, beq_eq_false_iff_ne, beq_eq_false_iff_ne, beq_eq_false_iff_ne] at hm
  rcases hm with hm | hm | hm
  · obtain ⟨v, hv⟩ := some_bit hm
    rw [Nat.testBit_and, Bool.and_eq_true] at hv
    have a1 := hp' v hv.1
    rw [hn' v hv.2] at a1; cases a1
  · obtain ⟨v, hv⟩ := some_bit hm
    rw [Nat.testBit_and, Bool.and_eq_true] at hv
    exact ⟨v, Or.inl ⟨hv.2, hp' v hv.1⟩⟩
  · obtain ⟨v, hv⟩ := some_bit hm
    rw [Nat.testBit_and, Bool.and_eq_true] at hv
    exact ⟨v, Or.inr ⟨hv.2, by rw [hn' v hv.1]; rfl⟩⟩

/-! ### Cubes -/
theorem litInto_form (c : Nat × Nat) (w : List UInt8) (h : (litInto c w).2 = true) : 1 ≤ litVar w ∧ ((litInto c w).1 = (c.1, c.2 ||| 2 ^ litVar w) ∨ (litInto c w).1 = (c.1 ||| 2 ^ litVar w, c.2)) := by
  unfold litInto at h ⊢
  split at h
  · next r =>
    have h' : 0 < dig r := of_decide_eq_true h
    have hd : dig (45 :: r) = 0 := by
      cases r with
      | nil => rfl
      | cons a b => rfl
    have e : litVar (45 :: r) = (dig r).toNat := by unfold litVar; rw [if_pos hd]; rfl
    rw [e]
    exact ⟨by omega, Or.inl rfl⟩
  · next hw =>
    have h' : 0 < dig w := of_decide_eq_true h
    have e : litVar w = (dig w).toNat := by unfold litVar; rw [if_neg (by omega)]
    rw [e]
    exact ⟨by omega, Or.inr rfl⟩
structure CI (order : List Nat) (c : Nat × Nat) (last : Nat) : Prop where
  apart : ∀ v, c.1.testBit v = true → c.2.testBit v = true → False
  vars : ∀ v, c.1.testBit v = true ∨ c.2.testBit v = true → v ≤ last ∧ v ∈ order
theorem cubeTo_ci (order : List Nat) (ws : List (List UInt8)) : ∀ c last c', CI order c last → cubeTo order c last ws = some c' → ∃ last', CI order c' last' := by
  induction ws with
  | nil => intro c last c' h e; simp [cubeTo] at e; subst e; exact ⟨last, h⟩
  | cons w ws ih =>
    intro c last c' h e
    rw [cubeTo] at e
    split at e
    · next hc =>
      obtain ⟨h1, h2, h3⟩ := hc
      refine ih _ _ _ ?_ e
      obtain ⟨_, hf⟩ := litInto_form c w h1
      have hno1 : c.1.testBit (litVar w) = false := by
        cases hh : c.1.testBit (litVar w) with
        | false => rfl
        | true => have := (h.vars _ (Or.inl hh)).1; omega
      have hno2 : c.2.testBit (litVar w) = false := by
        cases hh : c.2.testBit (litVar w) with
        | false => rfl
        | true => have := (h.vars _ (Or.inr hh)).1; omega
      rcases hf with hf | hf
      · rw [hf]
        constructor
        · intro v a b
          have b : (c.2 ||| 2 ^ litVar w).testBit v = true := b
          rw [bit_or, Bool.or_eq_true] at b
          rcases b with b | b
          · exact h.apart v a b
          · have : litVar w = v := of_decide_eq_true b
            subst this
            have a : c.1.testBit (litVar w) = true := a
            rw [hno1] at a; cases a
        · intro v a
          rcases a with a | a
          · have := h.vars v (Or.inl a); exact ⟨by omega, this.2⟩
          · have a : (c.2 ||| 2 ^ litVar w).testBit v = true := a
            rw [bit_or, Bool.or_eq_true] at a
            rcases a with a | a
            · have := h.vars v (Or.inr a); exact ⟨by omega, this.2⟩
            · have : litVar w = v := of_decide_eq_true a
              subst this; exact ⟨Nat.le_refl _, h3⟩
      · rw [hf]
        constructor
        · intro v a b
          have a : (c.1 ||| 2 ^ litVar w).testBit v = true := a
          rw [bit_or, Bool.or_eq_true] at a
          rcases a with a | a
          · exact h.apart v a b
          · have : litVar w = v := of_decide_eq_true a
            subst this
            have b : c.2.testBit (litVar w) = true := b
            rw [hno2] at b; cases b
        · intro v a
          rcases a with a | a
          · have a : (c.1 ||| 2 ^ litVar w).testBit v = true := a
            rw [bit_or, Bool.or_eq_true] at a
            rcases a with a | a
            · have := h.vars v (Or.inl a); exact ⟨by omega, this.2⟩
            · have : litVar w = v := of_decide_eq_true a
              subst this; exact ⟨Nat.le_refl _, h3⟩
          · have := h.vars v (Or.inr a); exact ⟨by omega, this.2⟩
    · cases e

/-! ### Reduction -/
theorem lastTo_le (order : List Nat) (kind : Nat) (c : Nat × Nat) (k : Nat) : lastTo order kind c k ≤ k := by
  induction k with
  | zero => exact Nat.le_refl _
  | succ k ih => rw [lastTo]; split <;> omega
theorem lastTo_past (order : List Nat) (kind : Nat) (c : Nat × Nat) (k i : Nat) (h1 : lastTo order kind c k ≤ i) (h2 : i < k) : hasB c (order.getD i 0) = true → kind.testBit (order.getD i 0) = true := by
  induction k with
  | zero => omega
  | succ k ih =>
    rw [lastTo] at h1
    split at h1
    · omega
    · next hc =>
      by_cases hk : i = k
      · subst hk
        intro hh
        rw [hh] at hc
        cases hb : kind.testBit (order.getD i 0) with
        | true => rfl
        | false => rw [hb] at hc; simp at hc
      · exact ih h1 (by omega)
theorem clr_bits (kind : Nat) (c : Nat × Nat) (u v : Nat) : (clr kind c u).1.testBit v = (c.1.testBit v && !(decide (v = u) && kind.testBit u)) ∧ (clr kind c u).2.testBit v = (c.2.testBit v && !(decide (v = u) && kind.testBit u)) := by
  unfold clr
  cases hk : kind.testBit u with
  | false => simp
  | true =>
    have e : ∀ a : Nat, (less a (2 ^ u)).testBit v = (a.testBit v && !(decide (v = u) && true)) := fun a => by
      rw [testBit_less, Nat.testBit_two_pow, Bool.and_true]
      by_cases h : u = v
      · subst h; simp
      · simp [h, Ne.symm h]
    exact ⟨e _, e _⟩
theorem clrs_bits (kind : Nat) (l : List Nat) (v : Nat) : ∀ c : Nat × Nat, (l.foldl (clr kind) c).1.testBit v = (c.1.testBit v && !(decide (v ∈ l) && kind.testBit v)) ∧ (l.foldl (clr kind) c).2.testBit v = (c.2.testBit v && !(decide (v ∈ l) && kind.testBit v)) := by
  induction l with
  | nil => intro c; simp
  | cons u l ih =>
    intro c
    have h1 := ih (clr kind c u)
    have h2 := clr_bits kind c u v
    rw [List.foldl_cons, h1.1, h1.2, h2.1, h2.2]
    by_cases hv : v = u
    · subst hv
      cases kind.testBit v <;> cases decide (v ∈ l) <;> simp
    · have e : decide (v ∈ u :: l) = decide (v ∈ l) := by simp [hv]
      rw [e]; simp [hv]
theorem bits510 (v : Nat) (h1 : 1 ≤ v) (h2 : v ≤ 8) : (510 : Nat).testBit v = true := by
  have : ∀ v : Fin 9, 1 ≤ v.val → (510 : Nat).testBit v.val = true := by decide
  exact this ⟨v, by omega⟩ h1
theorem kind_bit {F : Form} (hF : FOk F) (truth : Bool) (v : Nat) (hv : v ∈ F.order) : (kindR F truth).testBit v = (F.all.testBit v == !truth) := by
  have hn := hF.names v hv
  unfold kindR
  cases truth with
  | false => simp
  | true =>
    rw [if_pos rfl, testBit_less, bits510 v hn.1 hn.2]
    cases F.all.testBit v <;> rfl
theorem good_reductR {F : Form} (hF : FOk F) (truth : Bool) {c : Nat × Nat} (hg : Good (satB F.cl) F.all (!truth) F.order c) : Good (satB F.cl) F.all (!truth) F.order (redR F.order (kindR F truth) c) := by
  generalize hm : lastTo F.order (kindR F truth) c F.order.length = m
  have hml : m ≤ F.order.length := by rw [← hm]; exact lastTo_le _ _ _ _
  have e : F.order = F.order.take m ++ F.order.drop m := (List.take_append_drop m F.order).symm
  have hsub : ∀ v, v ∈ F.order.drop m → v ∈ F.order := fun v hv => List.mem_of_mem_drop hv
  have hb := clrs_bits (kindR F truth) (F.order.drop m)
  have hk : ∀ v, (decide (v ∈ F.order.drop m) && (kindR F truth).testBit v) = (decide (v ∈ F.order.drop m) && (F.all.testBit v == !truth)) := fun v => by
    by_cases hv : v ∈ F.order.drop m
    · rw [kind_bit hF truth v (hsub v hv)]
    · simp [hv]
  unfold redR
  rw [hm]
  have hg2 := hg
  rw [e] at hg2 ⊢
  have hd : (F.order.take m ++ F.order.drop m).drop m = F.order.drop m := by rw [List.take_append_drop]
  rw [hd]
  refine good_reduced hg2 (by rw [← e]; exact hF.nodup) ?_ ?_ ?_
  · intro v hv hc
    obtain ⟨i, hi, rfl⟩ := List.getElem_of_mem hv
    rw [List.getElem_drop]
    have hi' : m + i < F.order.length := by simp at hi; omega
    have hp := lastTo_past F.order (kindR F truth) c F.order.length (m + i) (by omega) hi'
    rw [getD_at _ _ _ hi'] at hp
    have hh : hasB c F.order[m + i] = true := by
      unfold hasB
      rw [Nat.testBit_or, Bool.or_eq_true]
      rw [List.getElem_drop] at hc
      exact hc
    have hk2 := hp hh
    rw [kind_bit hF truth _ (List.getElem_mem hi')] at hk2
    simpa using hk2
  · intro v; rw [(hb v c).1, hk]
  · intro v; rw [(hb v c).2, hk]

/-! ### Steps -/
theorem good_stepR {F : Form} (hF : FOk F) (truth : Bool) (ss : List (Nat × Nat)) (hd : List UInt8) (tl : List (List UInt8)) (c : Nat × Nat) (hS : ∀ c ∈ ss, Good (satB F.cl) F.all (!truth) F.order c) (h : stepR F truth ss hd tl = some c) : Good (satB F.cl) F.all (!truth) F.order c := by
  have hget : ∀ i, 1 ≤ i → i ≤ ss.length → Good (satB F.cl) F.all (!truth) F.order (ss.getD (i - 1) (0, 0)) := fun i h1 h2 => by
    have : i - 1 < ss.length := by omega
    rw [getD_at _ _ _ this]
    exact hS _ (List.getElem_mem this)
  unfold stepR at h
  split at h
  · next hc =>
    obtain ⟨_, ht, _⟩ := hc
    subst ht
    unfold axR at h
    split at h
    · cases h
    · next hk =>
      obtain ⟨rfl, ha⟩ := apartO_some h
      have : cnt (tl.getD 0 []) big - 1 < F.cl.length := by omega
      rw [getD_at _ _ _ this] at ha ⊢
      exact good_ax hF (List.getElem_mem this) ha
  · split at h
    · next hc =>
      obtain ⟨_, ht⟩ := hc
      subst ht
      unfold cubeR at h
      cases hq : cubeTo F.order (0, 0) 0 tl with
      | none => rw [hq] at h; cases h
      | some c' =>
        rw [hq] at h
        simp only [Option.bind_some] at h
        split at h
        · next hs =>
          simp at h; subst h
          obtain ⟨last, hci⟩ := cubeTo_ci _ _ (0, 0) 0 _ ⟨by simp, by simp⟩ hq
          exact good_cube hci.apart (fun v hv => (hci.vars v hv).2) hs
        · cases h
    · split at h
      · unfold resR at h
        split at h
        · cases h
        · next hr =>
          split at h
          · cases h
          · next hr2 =>
            obtain ⟨rfl, ha⟩ := apartO_some h
            simp only [not_or, Bool.not_eq_false] at hr hr2
            refine good_resolved (hget _ (by omega) (by omega)) (hget _ (by omega) (by omega)) hr2.2.1 hr2.2.2 ?_ ?_ (fun v h1 h2 => bits_apart ha v h1 h2)
            · intro v
              show (less _ _ ||| _).testBit v = _
              rw [Nat.testBit_or, testBit_less, Nat.testBit_two_pow]
              simp only [eq_comm]
            · intro v
              show (_ ||| less _ _).testBit v = _
              rw [Nat.testBit_or, testBit_less, Nat.testBit_two_pow]
              simp only [eq_comm]
      · split at h
        · unfold reductR at h
          split at h
          · cases h
          · next hr =>
            have h := Option.some.inj h
            subst h
            exact good_reductR hF truth (hget _ (by omega) (by omega))
        · cases h
theorem good_rows {F : Form} (hF : FOk F) (truth : Bool) (rs : List (List UInt8)) : ∀ (ss : List (Nat × Nat)) (n : Nat) (ss' : List (Nat × Nat)), (∀ c ∈ ss, Good (satB F.cl) F.all (!truth) F.order c) → rowsR F truth ss n rs = .inl ss' → ∀ c ∈ ss', Good (satB F.cl) F.all (!truth) F.order c := by
  induction rs with
  | nil => intro ss n ss' h e; simp [rowsR] at e; subst e; exact h
  | cons r rs ih =>
    intro ss n ss' h e
    rw [rowsR] at e
    cases hl : lineR F truth ss r with
    | none => rw [hl] at e; cases e
    | some c =>
      rw [hl] at e
      refine ih _ _ _ ?_ e
      intro c' hc'
      rcases List.mem_append.1 hc' with hc' | hc'
      · exact h c' hc'
      · simp at hc'; subst hc'
        unfold lineR at hl
        split at hl
        · cases hl
        · split at hl
          · cases hl
          · exact good_stepR hF truth ss _ _ _ h hl
/-- WHAT IS PROVED IS SO. -/
theorem proves_sound {F : Form} (hF : FOk F) (l : List UInt8) (truth : Bool) (two : Nat) (h : provesR F l = .inr (truth, two)) : fromL (satB F.cl) F.all F.order 0 = truth := by
  unfold provesR at h
  split at h
  · cases h
  · split at h
    · cases h
    · next r0 rs hrows =>
      split at h
      · split at h
        · cases h
        · next ss hss =>
          split at h
          · next hc =>
            have h' : (r0 == sTrue) = truth := by injection h with h; injection h
            rw [h'] at hss
            have hg := good_rows hF truth rs [] 1 ss (by simp) hss
            have he := hc.2
            unfold emptyLast at he
            split at he
            · cases he
            · next c hlast =>
              have hc0 : c.1 ||| c.2 = 0 := by simpa using he
              have hm : c ∈ ss := List.mem_of_getLast? hlast
              have h1 : c.1 = 0 := by
                apply Nat.eq_of_testBit_eq; intro v
                have : (c.1 ||| c.2).testBit v = false := by rw [hc0]; simp
                rw [Nat.testBit_or, Bool.or_eq_false_iff] at this
                rw [this.1]; simp
              have h2 : c.2 = 0 := by
                apply Nat.eq_of_testBit_eq; intro v
                have : (c.1 ||| c.2).testBit v = false := by rw [hc0]; simp
                rw [Nat.testBit_or, Bool.or_eq_false_iff] at this
                rw [this.2]; simp
              have := good_empty (hg c hm) hF.nodup h1 h2
              rw [this]; simp
          · cases h
      · cases h

/-! ### When a clause is satisfied -/
end Go.Proofs.YtgipjjhkhfihpaaGreatDoor

namespace Go.Proofs.YtgipjjhkhfihpaaGreatDoor
open Go.RowKit

theorem ints_at (l : List Nat) (k : Nat) (h : k < l.length) : (ints l)[k]? = some (.int .i64 (l[k] : Int)) := by
  unfold ints; rw [List.getElem?_map, List.getElem?_eq_getElem h]; rfl

/-! ### place -/
set_option maxRecDepth 100000 in
set_option maxHeartbeats 800000 in
theorem place_any (lo b v : Nat) (F : Form) (w : World) (hR : RefAt lo w b F) (hl : F.order.length ≤ 8) :
    Calls Tryz.prog 129 #[.pointer (some ⟨b, 0, none⟩), .int .i64 v] w fun e w' => (∃ p : Int, e = .returned (.int .i64 p) ∧ decide (p < 0) = !decide (v ∈ F.order)) ∧ w' = w := by
  obtain ⟨_, vO, vE, vC, hfb, hO, _, _⟩ := hR
  obtain ⟨aO, cO, rfl⟩ := own_form hO
  have k0 : w.cell? ⟨b, 0, none⟩ = some (.slice aO F.order.length cO) := by rw [blk_cell hfb]; rfl
  go_enter Tryz.func129, Tryz.ntmps129
  go_wp2_with fail
  go_loopg [5] F.order.length (fun m i wx => ∃ k : Nat, i = .int .i64 k ∧ k + m = F.order.length ∧ v ∉ F.order.take k ∧ wx = w)
  case atStart => exact ⟨0, rfl, by omega, by simp, rfl⟩
  case round =>
    obtain ⟨k, rfl, hk, hno, hwr⟩ := hrel
    subst hwr
    have HNO := hide hno; clear hno
    by_cases hlt : k < F.order.length
    · obtain ⟨g, cap, hV, hg, hg', _, hcell⟩ := own_pos hO (by omega)
      injection hV with hV _ hV2
      subst hV hV2
      have hx : wr.cell? ⟨g, k, none⟩ = some (.int .i64 (F.order[k] : Int)) := hcell _ _ (ints_at _ _ hlt)
      have HT : Hid (F.order.take (k + 1) = F.order.take k ++ [F.order[k]]) := hide (List.take_succ_eq_append_getElem hlt)
      have HM : Hid (F.order[k] ∈ F.order) := hide (List.getElem_mem hlt)
      clear hcell
      generalize F.order[k] = u at *
      by_cases hv : u = v
      · have hvb : ((u : Int) == (v : Int)) = true := by rw [beq_iff_eq]; omega
        have HV := hide hv
        clear hv
        go_wp2_with fail
        go_ret
        refine ⟨⟨_, rfl, ?_⟩, rfl⟩
        have hm : v ∈ F.order := unhide HV ▸ unhide HM
        simp [hm]
      · have hvb : ((u : Int) == (v : Int)) = false := by rw [beq_eq_false_iff_ne]; omega
        have HV := hide hv
        clear hv
        go_wp2_with fail
        go_roundg (gk - 1)
        case measure => omega
        case rel =>
          refine ⟨k + 1, by go_num, by omega, ?_, rfl⟩
          rw [unhide HT]
          intro hm
          rcases List.mem_append.1 hm with hm | hm
          · exact unhide HNO hm
          · simp at hm; exact unhide HV hm.symm
    · have hkl : k = F.order.length := by omega
      have HF : Hid (v ∉ F.order) := hide (by have := unhide HNO; rw [hkl, List.take_length] at this; exact this)
      subst hkl
      go_wp2_with fail
      go_ret
      exact ⟨⟨_, rfl, by simp [unhide HF]⟩, rfl⟩

/-! ### count -/
theorem dec_lt (l : List UInt8) (h : l.all isDigit = true) : dec l < 10 ^ l.length := by
  suffices hh : ∀ (n : Nat) (l : List UInt8), l.length = n → l.all isDigit = true → dec l < 10 ^ n from hh _ l rfl h
  intro n
  induction n with
  | zero => intro l hl _; rw [List.eq_nil_of_length_eq_zero hl]; decide
  | succ n ih =>
    intro l hl ha
    have hlt : n < l.length := by omega
    have hall : (l.take n).all isDigit = true := by
      rw [List.all_eq_true] at ha ⊢
      exact fun x hx => ha x (List.mem_of_mem_take hx)
    have h1 := ih (l.take n) (by simp; omega) hall
    have h2 := dec_take l n hlt
    rw [show l.take (n + 1) = l from by rw [← hl]; exact List.take_length] at h2
    have hd : isDigit l[n] = true := by rw [List.all_eq_true] at ha; exact ha _ (List.getElem_mem hlt)
    have hd' : 48 ≤ l[n].toNat ∧ l[n].toNat ≤ 57 := of_decide_eq_true hd
    rw [h2, Nat.pow_succ]
    omega
theorem ten_six (k : Nat) (h : k ≤ 6) : 10 ^ k ≤ 1000000 := by
  have := Nat.pow_le_pow_right (n := 10) (by omega) h
  simpa using this

attribute [local go_sem] ba_get

set_option maxRecDepth 100000 in
set_option maxHeartbeats 1600000 in
theorem count_any (l : List UInt8) (most : Nat) (w : World) (hl : l.length ≤ 1048576) (_hm : most ≤ 1048576) :
    Calls Tryz.prog 105 #[.string ⟨l.toArray⟩, .int .i64 most] w fun e w' => e = .returned (.int .i64 (cnt l most : Nat)) ∧ w' = w := by
  go_enter Tryz.func105, Tryz.ntmps105
  go_wp2_with fail
  go_loopg [5, 6] (l.length) (fun m n i wx => ∃ k : Nat, i = .int .i64 k ∧ k + m = l.length ∧ k ≤ 6 ∧ n = .int .i64 (dec (l.take k) : Nat) ∧ (l.take k).all isDigit = true ∧ (1 ≤ k → l.head? ≠ some 48) ∧ wx = w)
  case atStart => exact ⟨0, rfl, by omega, by omega, rfl, rfl, fun h => by omega, rfl⟩
  case round =>
    obtain ⟨k, rfl, hkm, hk6, rfl, hall, hhead, hwr⟩ := hrel
    subst hwr
    have HA := hide hall
    have HH := hide hhead
    have hdl := dec_lt _ hall
    have h10 := ten_six k hk6
    have hn : dec (l.take k) < 1000000 := by
      have e : (l.take k).length = k := by simp; omega
      rw [e] at hdl; omega
    clear hall hhead hdl h10
    by_cases hlt : k < l.length
    · have hdl : decide ((k : Int) < (l.length : Int)) = true := by simp; omega
      have HDT := hide (dec_take l k hlt)
      generalize dec (l.take k) = n at *
      have hb8 : l[k].toNat < 256 := UInt8.toNat_lt l[k]
      have hbad : Hid (∀ h : k < l.length, isDigit l[k] = false → cnt l most = 0) := hide (fun h hd => by
        unfold cnt
        rw [if_neg]
        rintro ⟨h1, _⟩
        rw [List.all_eq_true] at h1
        rw [h1 _ (List.getElem_mem h)] at hd; cases hd)
      by_cases hd : isDigit l[k] = true
      · have hd1 : 48 ≤ l[k].toNat ∧ l[k].toNat ≤ 57 := of_decide_eq_true hd
        have HD := hide hd
        have hq1 : decide ((l[k].toNat : Int) < 48) = false := by simp; omega
        have hq2 : decide ((57 : Int) < (l[k].toNat : Int)) = false := by simp; omega
        clear hd
        by_cases h5 : 5 < k
        · have hq3 : decide ((5 : Int) < (k : Int)) = true := by simp; omega
          have HC : Hid (cnt l most = 0) := hide (by unfold cnt; rw [if_neg]; rintro ⟨_, h2, _⟩; omega)
          clear h5
          go_wp2_with fail
          go_ret
          exact ⟨ret_int (by rw [unhide HC]; rfl), rfl⟩
        · have hq3 : decide ((5 : Int) < (k : Int)) = false := by simp; omega
          by_cases hk0 : k = 0
          · have hq4 : ((k : Int) == 0) = true := by rw [beq_iff_eq]; omega
            have h0 : 0 < l.length := by omega
            have hhd : l.head? = some l[0] := by rw [List.head?_eq_getElem?, List.getElem?_eq_getElem h0]
            by_cases hc : l[0] = 48
            · have hq5 : ((l[0].toNat : Int) == 48) = true := by rw [hc]; rfl
              have HC : Hid (cnt l most = 0) := hide (by unfold cnt; rw [if_neg]; rintro ⟨_, _, h3, _⟩; exact h3 (by rw [hhd, hc]))
              clear hc hhd h5 hk0
              go_wp2_with fail
              go_ret
              exact ⟨ret_int (by rw [unhide HC]; rfl), rfl⟩
            · have hq5 : ((l[0].toNat : Int) == 48) = false := by
                rw [beq_eq_false_iff_ne]; intro e; exact hc (by apply UInt8.toNat_inj.1; show _ = 48; omega)
              have HHD : Hid (l.head? ≠ some 48) := hide (by rw [hhd]; simpa using hc)
              have h5' : k + 1 ≤ 6 := by omega
              clear hc hhd h5 hk0
              go_wp2_with fail
              go_roundg (gk - 1)
              case measure => omega
              case rel =>
                refine ⟨k + 1, by go_num, by omega, h5', ?_, ?_, fun _ => unhide HHD, rfl⟩
                · rw [unhide HDT]; exact congrArg (Value.int .i64) (by omega)
                · rw [List.take_succ_eq_append_getElem hlt, List.all_append, unhide HA]; simp [unhide HD]
          · have hq4 : ((k : Int) == 0) = false := by rw [beq_eq_false_iff_ne]; omega
            have HHD : Hid (l.head? ≠ some 48) := hide (unhide HH (by omega))
            have h5' : k + 1 ≤ 6 := by omega
            clear h5 hk0
            go_wp2_with fail
            go_roundg (gk - 1)
            case measure => omega
            case rel =>
              refine ⟨k + 1, by go_num, by omega, h5', ?_, ?_, fun _ => unhide HHD, rfl⟩
              · rw [unhide HDT]; exact congrArg (Value.int .i64) (by omega)
              · rw [List.take_succ_eq_append_getElem hlt, List.all_append, unhide HA]; simp [unhide HD]
      · have hdf : isDigit l[k] = false := by simpa using hd
        have HC : Hid (cnt l most = 0) := hide (unhide hbad hlt hdf)
        have hd1 : ¬ (48 ≤ l[k].toNat ∧ l[k].toNat ≤ 57) := of_decide_eq_false hdf
        clear hd hdf
        by_cases hlo : l[k].toNat < 48
        · have hq1 : decide ((l[k].toNat : Int) < 48) = true := by simp; omega
          clear hd1
          go_wp2_with fail
          go_ret
          exact ⟨ret_int (by rw [unhide HC]; rfl), rfl⟩
        · have hq1 : decide ((l[k].toNat : Int) < 48) = false := by simp; omega
          have hq2 : decide ((57 : Int) < (l[k].toNat : Int)) = true := by simp; omega
          clear hd1
          go_wp2_with fail
          go_ret
          exact ⟨ret_int (by rw [unhide HC]; rfl), rfl⟩
    · have hkl : k = l.length := by omega
      subst hkl
      have HT : Hid (l.take l.length = l) := hide List.take_length
      have hA := unhide HA
      rw [unhide HT] at hA hn
      have HHD : Hid (l.head? ≠ some 48) := hide (by
        by_cases h1 : 1 ≤ l.length
        · exact unhide HH h1
        · have : l = [] := List.eq_nil_of_length_eq_zero (by omega)
          rw [this]; simp)
      have HAA := hide hA
      clear hA
      have hE : Value.int .i64 (dec (l.take l.length) : Nat) = Value.int .i64 (dec l : Nat) := by rw [unhide HT]
      rw [unhide HT]
      have hdl : decide ((l.length : Int) < (l.length : Int)) = false := by simp
      clear hE
      by_cases hmo : most < dec l
      · have hq : decide (most < dec l) = true := by simp; omega
        have HC : Hid (cnt l most = 0) := hide (by unfold cnt; rw [if_neg]; rintro ⟨_, _, _, h4⟩; omega)
        clear hmo
        go_wp2_with fail
        go_ret
        exact ⟨ret_int (by rw [unhide HC]; rfl), rfl⟩
      · have hq : decide (most < dec l) = false := by simp; omega
        have HC : Hid (cnt l most = dec l) := hide (by unfold cnt; rw [if_pos ⟨unhide HAA, hk6, unhide HHD, by omega⟩])
        clear hmo
        go_wp2_with fail
        go_ret
        exact ⟨ret_int (by rw [unhide HC]), rfl⟩
end Go.Proofs.YtgipjjhkhfihpaaGreatDoor

namespace Go.Proofs.YtgipjjhkhfihpaaGreatDoor
open Go.RowKit

/-! ### Both sides read proofs alike -/
theorem dec_ge (l : List UInt8) (h : l.all isDigit = true) (h0 : l ≠ []) (h48 : l.head? ≠ some 48) : ∀ k, k < l.length → 10 ^ k ≤ dec (l.take (k + 1)) := by
  intro k
  induction k with
  | zero =>
    intro hk
    match l, h0 with
    | c :: r, _ =>
      have hd : isDigit c = true := by simp at h; exact h.1
      have hd' : 48 ≤ c.toNat ∧ c.toNat ≤ 57 := of_decide_eq_true hd
      have hne : c.toNat ≠ 48 := fun e => h48 (by simp; apply UInt8.toNat_inj.1; exact e)
      simp [dec]; omega
  | succ k ih =>
    intro hk
    have h1 := ih (by omega)
    rw [dec_take l (k + 1) hk, Nat.pow_succ]
    omega
theorem num_cnt (w : List UInt8) (most : Nat) (hm : most ≤ 999999) : numOf w most = if 1 ≤ cnt w big ∧ cnt w big ≤ most then some (cnt w big) else none := by
  by_cases hbad : w = [] ∨ w.head? = some 48 ∨ w.all isDigit = false
  · have h1 : numOf w most = none := by
      unfold numOf
      rw [if_pos]
      rcases hbad with h | h | h
      · exact Or.inl h
      · exact Or.inr (Or.inl h)
      · exact Or.inr (Or.inr (Or.inl h))
    have h2 : cnt w big = 0 := by
      rcases hbad with h | h | h
      · subst h; rfl
      · unfold cnt; rw [if_neg]; rintro ⟨_, _, h3, _⟩; exact h3 h
      · unfold cnt; rw [if_neg]; rintro ⟨h3, _⟩; rw [h] at h3; cases h3
    rw [h1, h2, if_neg (by omega)]
  · simp only [not_or, Bool.not_eq_false] at hbad
    obtain ⟨b1, b2, b3⟩ := hbad
    have hpos : 0 < w.length := List.length_pos_iff.2 b1
    by_cases h6 : w.length ≤ 6
    · have hd := dec_lt w b3
      have ht := ten_six w.length h6
      have hc : cnt w big = dec w := by
        unfold cnt; rw [if_pos ⟨b3, h6, b2, by unfold big; omega⟩]
      have h1 : 1 ≤ dec w := by
        have := dec_ge w b3 b1 b2 0 hpos
        have hmm := dec_mono w 1
        simp at this; omega
      rw [hc]
      unfold numOf
      by_cases hmo : most < dec w
      · rw [if_pos (Or.inr (Or.inr (Or.inr hmo))), if_neg (by omega)]
      · rw [if_neg, if_pos ⟨h1, by omega⟩]
        rintro (h | h | h | h)
        · exact b1 h
        · exact b2 h
        · rw [b3] at h; cases h
        · exact hmo h
    · have hc : cnt w big = 0 := by unfold cnt; rw [if_neg]; rintro ⟨_, h2, _⟩; exact h6 h2
      have hg := dec_ge w b3 b1 b2 6 (by omega)
      have hmm := dec_mono w (6 + 1)
      rw [hc, if_neg (by omega)]
      unfold numOf
      rw [if_pos]
      right; right; right
      have : (10 : Nat) ^ 6 = 1000000 := by decide
      omega
/-- What both sides hold of a formula. -/
structure FQ (F : Form) (q : QS) : Prop where
  order : F.order = q.vars.map (·.1)
  kinds : ∀ x ∈ q.vars, F.all.testBit x.1 = x.2
  nodup : (q.vars.map (·.1)).Nodup
  names : ∀ x ∈ q.vars, 1 ≤ x.1 ∧ x.1 ≤ 8
  cl : F.cl = q.cl
  clen : q.cl.length ≤ 24
  bits : ∀ c ∈ q.cl, Bd c
  vars : ∀ c ∈ q.cl, ∀ v, c.1.testBit v = true ∨ c.2.testBit v = true → v ∈ F.order
/-- What holds of every step. -/
structure SI (F : Form) (c : Nat × Nat) : Prop where
  bd : Bd c
  apart : c.1 &&& c.2 = 0
  vars : ∀ v, c.1.testBit v = true ∨ c.2.testBit v = true → v ∈ F.order
def kd (truth : Bool) : Nat := if truth then 2 else 1

theorem find_mem {F : Form} {q : QS} (h : FQ F q) (v : Nat) : (∃ x, findV q.vars v = some x ∧ x.1 = v ∧ x ∈ q.vars ∧ v ∈ F.order) ∨ (findV q.vars v = none ∧ v ∉ F.order) := by
  cases hf : findV q.vars v with
  | none =>
    right
    refine ⟨rfl, ?_⟩
    unfold findV at hf
    rw [List.find?_eq_none] at hf
    rw [h.order, List.mem_map]
    rintro ⟨x, hx, hxe⟩
    exact hf x hx (by simpa using hxe)
  | some x =>
    left
    unfold findV at hf
    have hm := List.mem_of_find?_eq_some hf
    have he := List.find?_some hf
    have he' : x.1 = v := by simpa using he
    exact ⟨x, rfl, he', hm, by rw [h.order, ← he']; exact List.mem_map_of_mem hm⟩
theorem bitOf_nat (v : Nat) (h1 : 1 ≤ v) (h8 : v ≤ 8) : bitOf (v : Int) = 2 ^ v := by unfold bitOf; rw [if_pos ⟨by omega, by omega⟩]; simp
theorem and_pow_ne (x v : Nat) : (x &&& 2 ^ v != 0) = x.testBit v := by
  rw [bne, show (x &&& 2 ^ v == 0) = !x.testBit v from ?_]
  · simp
  · cases h : x.testBit v with
    | false =>
      have : x &&& 2 ^ v = 0 := by
        apply Nat.eq_of_testBit_eq
        intro i
        rw [Nat.testBit_and, Nat.testBit_two_pow, Nat.zero_testBit]
        by_cases e : v = i
        · subst e; rw [h]; rfl
        · simp [e]
      rw [this]; rfl
    | true =>
      have : x &&& 2 ^ v ≠ 0 := fun e => by
        have h2 : (x &&& 2 ^ v).testBit v = true := by rw [Nat.testBit_and, Nat.testBit_two_pow, h]; simp
        rw [e] at h2; simp at h2
      simpa using this
theorem has_eq (c : Nat × Nat) (v : Nat) (h1 : 1 ≤ v) (h8 : v ≤ 8) : hasVarB c v = hasB c v := by
  unfold hasVarB hasB; rw [bitOf_nat v h1 h8, and_pow_ne]
theorem hasLit_pos (c : Nat × Nat) (v : Nat) (h1 : 1 ≤ v) (h8 : v ≤ 8) : hasLit c v = c.1.testBit v := by
  unfold hasLit; rw [if_neg (by omega), bitOf_nat v h1 h8, and_pow_ne]
theorem hasLit_neg (c : Nat × Nat) (v : Nat) (h1 : 1 ≤ v) (h8 : v ≤ 8) : hasLit c (-(v : Int)) = c.2.testBit v := by
  unfold hasLit; rw [if_pos (by omega), Int.neg_neg, bitOf_nat v h1 h8, and_pow_ne]
theorem pair_ext {a b : Nat × Nat} (h1 : ∀ v, a.1.testBit v = b.1.testBit v) (h2 : ∀ v, a.2.testBit v = b.2.testBit v) : a = b := by
  obtain ⟨a1, a2⟩ := a
  obtain ⟨b1, b2⟩ := b
  have e1 : a1 = b1 := Nat.eq_of_testBit_eq h1
  have e2 : a2 = b2 := Nat.eq_of_testBit_eq h2
  rw [e1, e2]

/-! Reduction -/
theorem lastTo_same (order : List Nat) (kind : Nat) (c c' : Nat × Nat) (k : Nat) (h : ∀ i, i < k → hasB c' (order.getD i 0) = hasB c (order.getD i 0)) : lastTo order kind c' k = lastTo order kind c k := by
  induction k with
  | zero => rfl
  | succ k ih =>
    rw [lastTo, lastTo, h k (by omega), ih (fun i hi => h i (by omega))]
theorem red_eq {F : Form} {q : QS} (h : FQ F q) (hF : FOk F) (truth : Bool) : ∀ (k : Nat), k ≤ q.vars.length → ∀ c, redQ (kd truth) (q.vars.take k).reverse c = ((F.order.take k).drop (lastTo F.order (kindR F truth) c k)).foldl (clr (kindR F truth)) c := by
  intro k
  induction k with
  | zero => intro _ c; simp [redQ]
  | succ k ih =>
    intro hk c
    have hlt : k < q.vars.length := by omega
    have hlen : F.order.length = q.vars.length := by rw [h.order]; simp
    have hlt' : k < F.order.length := by omega
    have hv : F.order[k] = q.vars[k].1 := by simp only [h.order, List.getElem_map]
    have hx := h.names _ (List.getElem_mem hlt)
    have hkind := h.kinds _ (List.getElem_mem hlt)
    have hmem : F.order[k] ∈ F.order := List.getElem_mem hlt'
    have hkb := kind_bit hF truth F.order[k] hmem
    have hgd : F.order.getD k 0 = F.order[k] := getD_at _ _ _ hlt'
    rw [redQ_step _ _ _ hlt, has_eq c _ hx.1 hx.2, ← hv]
    rw [← hv] at hkind
    have hpiv : pivotB (kd truth) q.vars[k].2 = !(kindR F truth).testBit F.order[k] := by
      rw [hkb, hkind]
      unfold pivotB kd
      generalize q.vars[k].2 = u
      cases truth <;> cases u <;> rfl
    rw [hpiv, lastTo, hgd]
    have hsplit : ∀ m, m ≤ k → (F.order.take (k + 1)).drop m = (F.order.take k).drop m ++ [F.order[k]] := fun m hm => by
      rw [List.take_succ_eq_append_getElem hlt', List.drop_append_of_le_length (by simp; omega)]
    have hnk : F.order[k] ∉ F.order.take k := by
      have hn := hF.nodup
      rw [← List.take_append_drop k F.order, List.nodup_append] at hn
      have hkd : F.order[k] ∈ F.order.drop k := by
        have e := List.drop_eq_getElem_cons hlt'
        rw [e]
        exact List.mem_cons_self
      intro hm
      exact hn.2.2 _ hm _ hkd rfl
    cases hh : hasB c F.order[k] with
    | false =>
      simp only [Bool.false_and, Bool.false_eq_true, if_false]
      rw [ih (by omega) c, hsplit _ (lastTo_le _ _ _ _), List.foldl_append]
      have hno : c.1.testBit F.order[k] = false ∧ c.2.testBit F.order[k] = false := by
        unfold hasB at hh; rw [Nat.testBit_or, Bool.or_eq_false_iff] at hh; exact hh
      generalize ((F.order.take k).drop (lastTo F.order (kindR F truth) c k)) = L
      show _ = clr _ (L.foldl _ c) F.order[k]
      apply pair_ext
      · intro v
        rw [(clr_bits _ _ _ _).1, (clrs_bits _ _ _ _).1]
        by_cases e : v = F.order[k]
        · subst e; simp [hno.1]
        · simp [e]
      · intro v
        rw [(clr_bits _ _ _ _).2, (clrs_bits _ _ _ _).2]
        by_cases e : v = F.order[k]
        · subst e; simp [hno.2]
        · simp [e]
    | true =>
      cases hb : (kindR F truth).testBit F.order[k] with
      | false =>
        simp only [Bool.not_false, Bool.and_self, if_true]
        rw [List.drop_eq_nil_of_le (by simp; omega)]
        rfl
      | true =>
        simp only [Bool.not_true, Bool.and_false, Bool.false_eq_true, if_false, if_true]
        have hw : without c (F.order[k] : Int) = clr (kindR F truth) c F.order[k] := by
          unfold without clr
          rw [if_pos hb, bitOf_nat _ (by rw [hv]; exact hx.1) (by rw [hv]; exact hx.2)]
        rw [hw, ih (by omega), hsplit _ (lastTo_le _ _ _ _)]
        have hls : lastTo F.order (kindR F truth) (clr (kindR F truth) c F.order[k]) k = lastTo F.order (kindR F truth) c k := by
          apply lastTo_same
          intro i hi
          have hil : i < F.order.length := by omega
          rw [getD_at _ _ _ hil]
          have hne : F.order[i] ≠ F.order[k] := fun e => hnk (by rw [← e]; exact List.mem_take_iff_getElem.2 ⟨i, by omega, rfl⟩)
          unfold hasB
          rw [Nat.testBit_or, Nat.testBit_or, (clr_bits _ _ _ _).1, (clr_bits _ _ _ _).2]
          simp [hne]
        rw [hls]
        generalize ((F.order.take k).drop (lastTo F.order (kindR F truth) c k)) = L
        apply pair_ext
        · intro v
          rw [(clrs_bits _ _ _ _).1, (clrs_bits _ _ _ _).1, (clr_bits _ _ _ _).1, hb]
          by_cases e : v = F.order[k]
          · subst e; simp [hb]
          · simp [e]
        · intro v
          rw [(clrs_bits _ _ _ _).2, (clrs_bits _ _ _ _).2, (clr_bits _ _ _ _).2, hb]
          by_cases e : v = F.order[k]
          · subst e; simp [hb]
          · simp [e]
theorem redQ_eq {F : Form} {q : QS} (h : FQ F q) (hF : FOk F) (truth : Bool) (c : Nat × Nat) : redQ (kd truth) q.vars.reverse c = redR F.order (kindR F truth) c := by
  have h1 := red_eq h hF truth q.vars.length (Nat.le_refl _) c
  have hlen : F.order.length = q.vars.length := by rw [h.order]; simp
  rw [List.take_length] at h1
  rw [h1, ← hlen, List.take_length]
  rfl

end Go.Proofs.YtgipjjhkhfihpaaGreatDoor
