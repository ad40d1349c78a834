import Derived.Test.YtbpolmdokdhkhaaEquiv
import Derived.Test.YtbpolmdokdhkhaaReadWalk
namespace Go.Proofs.Ytbpolmdokdhkhaa
open Go.RowKit

/-- The law's world: its seven cells. -/
def WAt (w : World) (bw : Nat) (text : List UInt8) (px pf : Option Addr) (proof : List UInt8) (c4 c5 c6 : Value) : Prop :=
  w.heap[bw]? = some (.cells #[S text, .pointer px, .pointer pf, S proof, c4, c5, c6] 59 (0, 0))
theorem WAt.later {w w' : World} {bw : Nat} {text : List UInt8} {px pf : Option Addr} {proof : List UInt8} {c4 c5 c6 : Value} (h : WAt w bw text px pf proof c4 c5 c6) (hb : Below w.heap.size w w') : WAt w' bw text px pf proof c4 c5 c6 :=
  (hb.block bw (blk_lt h)).trans h

/-- Both formulas, or none. -/
def FPair (lo : Nat) (w : World) (px pf : Option Addr) : Prop :=
  (px = none ∧ pf = none) ∨ ∃ b b' st q0, px = some ⟨b, 0, none⟩ ∧ pf = some ⟨b', 0, none⟩ ∧ ProgAt lo w b (qFinish q0) ∧ RefAt lo w b' (finish st) ∧ Same st q0 ∧ q0.cl.length ≤ 24 ∧ QNice q0

theorem RefAt.later {lo b : Nat} {w w' : World} {F : Form} (h : RefAt lo w b F) (hb : Below w.heap.size w w') : RefAt lo w' b F := by
  obtain ⟨h1, vO, vE, vC, h2, h3, h4, h5⟩ := h
  exact ⟨h1, vO, vE, vC, (hb.block b (blk_lt h2)).trans h2, own_below h3 hb, own_below h4 hb, own_below h5 hb⟩
theorem ProgAt.later {lo b : Nat} {w w' : World} {q : QS} (h : ProgAt lo w b q) (hb : Below w.heap.size w w') : ProgAt lo w' b q := by
  obtain ⟨h1, vV, vC, h2, h3, h4⟩ := h
  exact ⟨h1, vV, vC, (hb.block b (blk_lt h2)).trans h2, own_below h3 hb, own_below h4 hb⟩
/-- A store below lo. -/
theorem RefAt.set {lo b bw o : Nat} {w : World} {F : Form} {u : Value} (h : RefAt lo w b F) (hlt : bw < lo) : RefAt lo (w.setCell ⟨bw, o, none⟩ u) b F := by
  obtain ⟨h1, vO, vE, vC, h2, h3, h4, h5⟩ := h
  exact ⟨h1, vO, vE, vC, (Below.heap_setCell _ _ _ _ (by show b ≠ bw; omega)).trans h2, ownsRow_setCell_below h3 (a := ⟨bw, o, none⟩) hlt u, ownsRow_setCell_below h4 (a := ⟨bw, o, none⟩) hlt u, ownsRow_setCell_below h5 (a := ⟨bw, o, none⟩) hlt u⟩
theorem ProgAt.set {lo b bw o : Nat} {w : World} {q : QS} {u : Value} (h : ProgAt lo w b q) (hlt : bw < lo) : ProgAt lo (w.setCell ⟨bw, o, none⟩ u) b q := by
  obtain ⟨h1, vV, vC, h2, h3, h4⟩ := h
  exact ⟨h1, vV, vC, (Below.heap_setCell _ _ _ _ (by show b ≠ bw; omega)).trans h2, ownsRow_setCell_below h3 (a := ⟨bw, o, none⟩) hlt u, ownsRow_setCell_below h4 (a := ⟨bw, o, none⟩) hlt u⟩
theorem FPair.set {lo bw o : Nat} {w : World} {px pf : Option Addr} {u : Value} (h : FPair lo w px pf) (hlt : bw < lo) : FPair lo (w.setCell ⟨bw, o, none⟩ u) px pf := by
  rcases h with h | ⟨b, b', st, q0, h1, h2, h3, h4, h5⟩
  · exact Or.inl h
  · exact Or.inr ⟨b, b', st, q0, h1, h2, h3.set hlt, h4.set hlt, h5⟩
theorem ProgAt.lo {lo lo' b : Nat} {w : World} {q : QS} (h : ProgAt lo w b q) (hl : lo' ≤ lo) : ProgAt lo' w b q := by
  obtain ⟨h1, vV, vC, h2, h3, h4⟩ := h
  exact ⟨by omega, vV, vC, h2, own_lo h3 hl, own_lo h4 hl⟩
theorem RefAt.lo {lo lo' b : Nat} {w : World} {F : Form} (h : RefAt lo w b F) (hl : lo' ≤ lo) : RefAt lo' w b F := by
  obtain ⟨h1, vO, vE, vC, h2, h3, h4, h5⟩ := h
  exact ⟨by omega, vO, vE, vC, h2, own_lo h3 hl, own_lo h4 hl, own_lo h5 hl⟩

/-- A block that is below lo, or of none of these types. -/
def Foreign (lo : Nat) (w : World) (ts : List TypeId) (k : Nat) : Prop := k < lo ∨ ∃ cs t fr, w.heap[k]? = some (.cells cs t fr) ∧ t ∉ ts
theorem own_only {w w' : World} {T : Nat → Prop} {base : Nat} {e : TypeId} {size : Nat} {v : Value} {n : Nat} {xs : List Value} {ts : List TypeId} (h : w.ownsRow base e size v n xs) (ho : Only T w w') (he : e ∈ ts) (hT : ∀ k, k < w.heap.size → T k → Foreign base w ts k) : w'.ownsRow base e size v n xs := by
  obtain ⟨h1, h2⟩ := h
  refine ⟨h1, ?_⟩
  rcases h2 with h2 | ⟨g, cap, cur, rfl, hg, hh, h3⟩
  · exact Or.inl h2
  · refine Or.inr ⟨g, cap, cur, rfl, hg, ?_, h3⟩
    rw [ho.block g (blk_lt hh) (fun ht => ?_)]
    · exact hh
    · rcases hT g (blk_lt hh) ht with h | ⟨cs, t, fr, h4, h5⟩
      · omega
      · rw [hh] at h4
        simp at h4
        exact h5 (h4.2.1 ▸ he)
theorem blk_only {w w' : World} {T : Nat → Prop} {lo b : Nat} {cs : Array Value} {t : TypeId} {fr : Nat × Nat} {ts : List TypeId} (h : w.heap[b]? = some (.cells cs t fr)) (hlo : lo ≤ b) (ho : Only T w w') (he : t ∈ ts) (hT : ∀ k, k < w.heap.size → T k → Foreign lo w ts k) : w'.heap[b]? = some (.cells cs t fr) := by
  rw [ho.block b (blk_lt h) (fun ht => ?_)]
  · exact h
  · rcases hT b (blk_lt h) ht with h1 | ⟨cs', t', fr', h4, h5⟩
    · omega
    · rw [h] at h4
      simp at h4
      exact h5 (h4.2.1 ▸ he)
def formTypes : List TypeId := [48, 91, 96, 84, 3, 115]
theorem ProgAt.only {lo b : Nat} {w w' : World} {q : QS} {T : Nat → Prop} (h : ProgAt lo w b q) (ho : Only T w w') (hT : ∀ k, k < w.heap.size → T k → Foreign lo w formTypes k) : ProgAt lo w' b q := by
  obtain ⟨h1, vV, vC, h2, h3, h4⟩ := h
  exact ⟨h1, vV, vC, blk_only h2 h1 ho (by decide) hT, own_only h3 ho (by decide) hT, own_only h4 ho (by decide) hT⟩
theorem RefAt.only {lo b : Nat} {w w' : World} {F : Form} {T : Nat → Prop} (h : RefAt lo w b F) (ho : Only T w w') (hT : ∀ k, k < w.heap.size → T k → Foreign lo w formTypes k) : RefAt lo w' b F := by
  obtain ⟨h1, vO, vE, vC, h2, h3, h4, h5⟩ := h
  exact ⟨h1, vO, vE, vC, blk_only h2 h1 ho (by decide) hT, own_only h3 ho (by decide) hT, own_only h4 ho (by decide) hT, own_only h5 ho (by decide) hT⟩
theorem FPair.only {lo : Nat} {w w' : World} {px pf : Option Addr} {T : Nat → Prop} (h : FPair lo w px pf) (ho : Only T w w') (hT : ∀ k, k < w.heap.size → T k → Foreign lo w formTypes k) : FPair lo w' px pf := by
  rcases h with h | ⟨b, b', st, q0, h1, h2, h3, h4, h5⟩
  · exact Or.inl h
  · exact Or.inr ⟨b, b', st, q0, h1, h2, h3.only ho hT, h4.only ho hT, h5⟩
theorem FPair.lo {lo lo' : Nat} {w : World} {px pf : Option Addr} (h : FPair lo w px pf) (hl : lo' ≤ lo) : FPair lo' w px pf := by
  rcases h with h | ⟨b, b', st, q0, h1, h2, h3, h4, h5⟩
  · exact Or.inl h
  · exact Or.inr ⟨b, b', st, q0, h1, h2, h3.lo hl, h4.lo hl, h5⟩

def LoadsPost (bw : Nat) (text proof : List UInt8) (c4 c5 c6 : Value) (w : World) (e : Ending) (w' : World) : Prop :=
  e = .returned (.bool true) ∧ Only (· = bw) w w' ∧ ∃ px pf, WAt w' bw text px pf proof c4 c5 c6 ∧ FPair w.heap.size w' px pf

set_option maxRecDepth 100000 in
set_option maxHeartbeats 1600000 in
theorem loads_any (bw : Nat) (text : List UInt8) (px pf : Option Addr) (proof : List UInt8) (c4 c5 c6 : Value) (w : World) (hw : WAt w bw text px pf proof c4 c5 c6) :
    Calls Try.prog 25 #[.pointer (some ⟨bw, 0, none⟩)] w fun e w' => LoadsPost bw text proof c4 c5 c6 w e w' := by
  have hbw : bw < w.heap.size := blk_lt hw
  have h0 : w.cell? ⟨bw, 0, none⟩ = some (S text) := by rw [blk_cell hw]; rfl
  go_enter Try.func25, Try.ntmps25
  go_wp2_with fail
  refine (load_any text w).mono ?_
  rintro e w1 ⟨hb1, hp1⟩
  have hw1 := hw.later hb1
  have h1 : w1.cell? ⟨bw, 0, none⟩ = some (S text) := by rw [blk_cell hw1]; rfl
  have hse := spec_eq text
  cases hq : loadSpec text with
  | inl a =>
    obtain ⟨x, i⟩ := a
    rw [hq] at hp1 hse
    have hp1' : e = .returned (.tuple #[.pointer none, .int .i64 (x : Int), .int .i64 (i : Int)]) := hp1
    subst hp1'
    have HSE : Hid (readSpec text = .inl (x, i)) := hide hse
    clear hse hq hp1
    go_wp2_with fail
    refine (read_all text w1).mono ?_
    rintro e w2 ⟨hb2, hp2⟩
    rw [unhide HSE] at hp2
    have hp2' : e = .returned (.tuple #[.pointer none, .int .i64 (x : Int), .int .i64 (i : Int)]) := hp2
    subst hp2'
    clear hp2
    have hw2 := hw1.later hb2
    have k1 : w2.cell? ⟨bw, 1, none⟩ = some (.pointer px) := by rw [blk_cell hw2]; rfl
    have k2 : w2.cell? ⟨bw, 2, none⟩ = some (.pointer pf) := by rw [blk_cell hw2]; rfl
    have z1 := blk_free hw2 1
    have z2 := blk_free hw2 2
    have hx : ((x : Int) != (x : Int)) = false := by simp
    have hi : ((i : Int) != (i : Int)) = false := by simp
    go_wp2_with fail
    go_ret
    refine ⟨rfl, (((Only.of_below (below_trans hb1 hb2)).setAt _ _).setAt _ _), none, none, ?_, Or.inl ⟨rfl, rfl⟩⟩
    exact blk_set (blk_set hw2 1 _) 2 _
  | inr q =>
    rw [hq] at hp1 hse
    obtain ⟨b, rfl, hP⟩ := hp1
    obtain ⟨st, q0, hse, hsame, rfl, h24⟩ := hse
    have HSE := hide hse
    clear hse hq
    go_wp2_with fail
    refine (read_all text w1).mono ?_
    rintro e w2 ⟨hb2, hp2⟩
    rw [unhide HSE] at hp2
    obtain ⟨b', rfl, hR⟩ := hp2
    have hw2 := hw1.later hb2
    have hP2 := hP.later hb2
    have hR2 := hR.lo (lo' := w.heap.size) hb1.size
    have hFP : FPair w.heap.size w2 (some ⟨b, 0, none⟩) (some ⟨b', 0, none⟩) := Or.inr ⟨b, b', st, q0, rfl, rfl, hP2, hR2, hsame, h24⟩
    have k1 : w2.cell? ⟨bw, 1, none⟩ = some (.pointer px) := by rw [blk_cell hw2]; rfl
    have k2 : w2.cell? ⟨bw, 2, none⟩ = some (.pointer pf) := by rw [blk_cell hw2]; rfl
    have z1 := blk_free hw2 1
    have z2 := blk_free hw2 2
    go_wp2_with fail
    go_ret
    refine ⟨rfl, (((((Only.of_below (below_trans hb1 hb2)).setAt _ _).setAt _ _).setAt _ _).setAt _ _), some ⟨b, 0, none⟩, some ⟨b', 0, none⟩, ?_, (((hFP.set hbw).set hbw).set hbw).set hbw⟩
    exact blk_set (blk_set (blk_set (blk_set hw2 1 _) 2 _) 1 _) 2 _

set_option maxRecDepth 100000 in
set_option maxHeartbeats 400000 in
theorem pick_any (c : Int) (n : Nat) (w : World) (hn : 0 < n) (hn2 : n ≤ 1048576) (h1 : -9223372036854775808 ≤ c) (h2 : c ≤ 9223372036854775807) :
    Calls Try.prog 27 #[.int .i64 c, .int .i64 n] w fun e w' => ∃ r : Nat, e = .returned (.int .i64 r) ∧ r < n ∧ w' = w := by
  by_cases hc : c < 0
  · have hd : decide (c < 0) = true := by simpa using hc
    go_enter Try.func27, Try.ntmps27
    go_wp2_with fail
    go_ret
    have e : -((c + 1).tmod n) = (-(c + 1)) % n := by rw [← Int.neg_tmod, Int.tmod_eq_emod_of_nonneg (by omega)]
    have e1 := Int.emod_nonneg (-(c + 1)) (show (n : Int) ≠ 0 by omega)
    have e2 := Int.emod_lt_of_pos (-(c + 1)) (show (0 : Int) < n by omega)
    refine ⟨((-(c + 1)) % n).toNat, ret_int ?_, by omega, rfl⟩
    omega
  · have hd : decide (c < 0) = false := by simpa using hc
    go_enter Try.func27, Try.ntmps27
    go_wp2_with fail
    go_ret
    refine ⟨(c % n).toNat, ?_, ?_, rfl⟩
    · refine ret_int ?_
      have := Int.emod_nonneg c (show (n : Int) ≠ 0 by omega)
      omega
    · have := Int.emod_nonneg c (show (n : Int) ≠ 0 by omega)
      have := Int.emod_lt_of_pos c (show (0 : Int) < n by omega)
      omega

def BendPost (bw : Nat) (text : List UInt8) (px pf : Option Addr) (proof : List UInt8) (c4 c5 c6 : Value) (w : World) (e : Ending) (w' : World) : Prop :=
  e = .returned (.tuple #[]) ∧ Only (· = bw) w w' ∧ ∃ proof' : List UInt8, proof'.length ≤ proof.length ∧ WAt w' bw text px pf proof' c4 c5 c6

theorem WAt.setProof {w : World} {bw : Nat} {text : List UInt8} {px pf : Option Addr} {proof : List UInt8} {c4 c5 c6 : Value} (h : WAt w bw text px pf proof c4 c5 c6) (proof' : List UInt8) : WAt (w.setCell ⟨bw, 3, none⟩ (S proof')) bw text px pf proof' c4 c5 c6 := blk_set h 3 _

set_option maxRecDepth 100000 in
set_option maxHeartbeats 1600000 in
theorem bend_any (bw : Nat) (text : List UInt8) (px pf : Option Addr) (proof : List UInt8) (c4 c5 c6 : Value) (a c : Int) (w : World) (hw : WAt w bw text px pf proof c4 c5 c6) (hpl : proof.length ≤ 1048576)
    (ha1 : -9223372036854775808 ≤ a) (ha2 : a ≤ 9223372036854775807) (hc1 : -9223372036854775808 ≤ c) (hc2 : c ≤ 9223372036854775807) :
    Calls Try.prog 26 #[.pointer (some ⟨bw, 0, none⟩), .int .i64 a, .int .i64 c] w fun e w' => BendPost bw text px pf proof c4 c5 c6 w e w' := by
  have hbw : bw < w.heap.size := blk_lt hw
  have h3 : w.cell? ⟨bw, 3, none⟩ = some (S proof) := by rw [blk_cell hw]; rfl
  have z3 := blk_free hw 3
  by_cases hp : proof = []
  · subst hp
    go_enter Try.func26, Try.ntmps26
    go_wp2_with fail
    go_end0
    exact ⟨rfl, Only.refl _ _, [], Nat.le_refl _, hw⟩
  · have hp0 : 0 < proof.length := List.length_pos_iff.2 hp
    have hpe : proof.isEmpty = false := by simpa using hp
    clear hp
    go_enter Try.func26, Try.ntmps26
    go_wp2_with fail
    refine (pick_any a proof.length w hp0 hpl ha1 ha2).mono ?_
    rintro e w1 ⟨r, rfl, hr, hw1⟩
    subst hw1
    have hr1 : r + 1 ≤ proof.length := by omega
    by_cases hc : c < 0
    · have hd : decide (0 ≤ c) = false := by simp; omega
      have HE : Hid (ByteArray.extract ⟨proof.toArray⟩ 0 r ++ ⟨#[]⟩ ++ ByteArray.extract ⟨proof.toArray⟩ (r + 1) proof.length = ⟨((proof.drop 0).take (r - 0) ++ [] ++ (proof.drop (r + 1)).take (proof.length - (r + 1))).toArray⟩) := hide (by
        rw [ba_extract, ba_extract, show (ByteArray.mk #[]) = ByteArray.mk ([] : List UInt8).toArray from rfl, ba_append, ba_append])
      go_wp2_with fail
      go_region
      all_goals go_wp2_with fail
      all_goals go_end0
      all_goals
        rw [unhide HE]
        refine ⟨rfl, ((Only.refl _ _).setAt _ _).drew, _, ?_, (hw.setProof _).later ((Below.refl _ _).drew)⟩
        simp; omega
    · have hd : decide (0 ≤ c) = true := by simp; omega
      have hcv := conv_byte (c % 256) (by omega) (by omega) w1
      have HE : Hid (∀ x : UInt8, ByteArray.extract ⟨proof.toArray⟩ 0 r ++ ⟨#[x]⟩ ++ ByteArray.extract ⟨proof.toArray⟩ (r + 1) proof.length = ⟨((proof.drop 0).take (r - 0) ++ [x] ++ (proof.drop (r + 1)).take (proof.length - (r + 1))).toArray⟩) := hide (by
        intro x
        rw [ba_extract, ba_extract, show (ByteArray.mk #[x]) = ByteArray.mk ([x] : List UInt8).toArray from rfl, ba_append, ba_append])
      go_wp2_with fail
      go_region
      all_goals go_wp2_with fail
      all_goals go_end0
      all_goals
        rw [unhide HE]
        refine ⟨rfl, (((Only.refl _ _).setAt _ _).alloc _).drew, _, ?_, (hw.setProof _).later (((Below.refl _ _).alloc (Nat.le_refl _) _).drew)⟩
        simp; omega

/-- The lists that were handed out are none yet. -/
theorem looks_none (bw : Nat) (text : List UInt8) (px pf : Option Addr) (proof : List UInt8) (c4 : Value) (w : World) (hw : WAt w bw text px pf proof c4 (.slice none 0 0) (.slice none 0 0)) :
    Calls Try.prog 18 #[.pointer (some ⟨bw, 0, none⟩)] w fun e w' => e = .returned (.bool true) ∧ w' = w := by
  have h5 : w.cell? ⟨bw, 5, none⟩ = some (.slice none 0 0) := by rw [blk_cell hw]; rfl
  have h6 : w.cell? ⟨bw, 6, none⟩ = some (.slice none 0 0) := by rw [blk_cell hw]; rfl
  go_enter Try.func18, Try.ntmps18
  go_wp2_with fail
  refine wp_loop_rounds 1 ?_
  rw [rounds_succ]
  go_wp2_with fail
  refine wp_loop_rounds 1 ?_
  rw [rounds_succ]
  go_wp2_with fail
  go_ret
  exact ⟨rfl, rfl⟩
end Go.Proofs.Ytbpolmdokdhkhaa
