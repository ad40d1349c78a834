import Derived.Test.YtgipjjhkhfihpaaGreatDoorDD
import Derived.Test.YtgipjjhkhfihpaaGreatDoorDE
import Derived.Deep.QuietTactic
import Derived.BigQuiet
import Derived.Test.YtgipjjhkhfihpaaGreatDoorRows
import Derived.ProofKit
import Derived.SizedLaws
import Derived.OpenShut
import Derived.Deep.Slices
import Derived.Test.YtgipjjhkhfihpaaGreatDoorCards
import Derived.Test.YtgipjjhkhfihpaaGreatDoorTie
import Derived.LaidMore
import Derived.Stop.Joined
import Derived.Lib.LaidTab
import Derived.Deep.DeepHandedRow
namespace Go.Proofs.YtgipjjhkhfihpaaGreatDoor
open Go.RowKit

/-- The law's world: its seven cells. -/
def WAt (w : World) (bw : Nat) (text : List UInt8) (px pf : Option Addr) (proof : List UInt8) (c4 c5 c6 : Value) : Prop :=
  w.heap[bw]? = some (.cells #[S text, .pointer px, .pointer pf, S proof, c4, c5, c6] 48 (0, 0))
theorem WAt.later {w w' : World} {bw : Nat} {text : List UInt8} {px pf : Option Addr} {proof : List UInt8} {c4 c5 c6 : Value} (h : WAt w bw text px pf proof c4 c5 c6) (hb : Below w.heap.size w w') : WAt w' bw text px pf proof c4 c5 c6 :=
  (hb.block bw (blk_lt h)).trans h

/-- Both formulas, or none. -/
def FPair (lo : Nat) (w : World) (px pf : Option Addr) : Prop :=
  (px = none ∧ pf = none) ∨ ∃ b b' st q0, px = some ⟨b, 0, none⟩ ∧ pf = some ⟨b', 0, none⟩ ∧ ProgAt lo w b (qFinish q0) ∧ RefAt lo w b' (finish st) ∧ Same st q0 ∧ q0.cl.length ≤ 24 ∧ QNice q0

theorem RefAt.later {lo b : Nat} {w w' : World} {F : Form} (h : RefAt lo w b F) (hb : Below w.heap.size w w') : RefAt lo w' b F := by
  obtain ⟨h1, vO, vE, vC, h2, h3, h4, h5⟩ := h
  exact ⟨h1, vO, vE, vC, (hb.block b (blk_lt h2)).trans h2, own_below h3 hb, own_below h4 hb, own_below h5 hb⟩
theorem ProgAt.later {lo b : Nat} {w w' : World} {q : QS} (h : ProgAt lo w b q) (hb : Below w.heap.size w w') : ProgAt lo w' b q := by
  obtain ⟨h1, vV, vC, h2, h3, h4⟩ := h
  exact ⟨h1, vV, vC, (hb.block b (blk_lt h2)).trans h2, own_below h3 hb, own_below h4 hb⟩
/-- A store below lo. -/
theorem RefAt.set {lo b bw o : Nat} {w : World} {F : Form} {u : Value} (h : RefAt lo w b F) (hlt : bw < lo) : RefAt lo (w.setCell ⟨bw, o, none⟩ u) b F := by
  obtain ⟨h1, vO, vE, vC, h2, h3, h4, h5⟩ := h
  exact ⟨h1, vO, vE, vC, (Below.heap_setCell _ _ _ _ (by show b ≠ bw; omega)).trans h2, ownsRow_setCell_below h3 (a := ⟨bw, o, none⟩) hlt u, ownsRow_setCell_below h4 (a := ⟨bw, o, none⟩) hlt u, ownsRow_setCell_below h5 (a := ⟨bw, o, none⟩) hlt u⟩
theorem ProgAt.set {lo b bw o : Nat} {w : World} {q : QS} {u : Value} (h : ProgAt lo w b q) (hlt : bw < lo) : ProgAt lo (w.setCell ⟨bw, o, none⟩ u) b q := by
  obtain ⟨h1, vV, vC, h2, h3, h4⟩ := h
  exact ⟨h1, vV, vC, (Below.heap_setCell _ _ _ _ (by show b ≠ bw; omega)).trans h2, ownsRow_setCell_below h3 (a := ⟨bw, o, none⟩) hlt u, ownsRow_setCell_below h4 (a := ⟨bw, o, none⟩) hlt u⟩
theorem FPair.set {lo bw o : Nat} {w : World} {px pf : Option Addr} {u : Value} (h : FPair lo w px pf) (hlt : bw < lo) : FPair lo (w.setCell ⟨bw, o, none⟩ u) px pf := by
  rcases h with h | ⟨b, b', st, q0, h1, h2, h3, h4, h5⟩
  · exact Or.inl h
  · exact Or.inr ⟨b, b', st, q0, h1, h2, h3.set hlt, h4.set hlt, h5⟩
theorem ProgAt.lo {lo lo' b : Nat} {w : World} {q : QS} (h : ProgAt lo w b q) (hl : lo' ≤ lo) : ProgAt lo' w b q := by
  obtain ⟨h1, vV, vC, h2, h3, h4⟩ := h
  exact ⟨by omega, vV, vC, h2, own_lo h3 hl, own_lo h4 hl⟩
theorem RefAt.lo {lo lo' b : Nat} {w : World} {F : Form} (h : RefAt lo w b F) (hl : lo' ≤ lo) : RefAt lo' w b F := by
  obtain ⟨h1, vO, vE, vC, h2, h3, h4, h5⟩ := h
  exact ⟨by omega, vO, vE, vC, h2, own_lo h3 hl, own_lo h4 hl, own_lo h5 hl⟩

/-- A block that is below lo, or of none of these types. -/
def Foreign (lo : Nat) (w : World) (ts : List TypeId) (k : Nat) : Prop := k < lo ∨ ∃ cs t fr, w.heap[k]? = some (.cells cs t fr) ∧ t ∉ ts
theorem own_only {w w' : World} {T : Nat → Prop} {base : Nat} {e : TypeId} {size : Nat} {v : Value} {n : Nat} {xs : List Value} {ts : List TypeId} (h : w.ownsRow base e size v n xs) (ho : Only T w w') (he : e ∈ ts) (hT : ∀ k, k < w.heap.size → T k → Foreign base w ts k) : w'.ownsRow base e size v n xs := by
  obtain ⟨h1, h2⟩ := h
  refine ⟨h1, ?_⟩
  rcases h2 with h2 | ⟨g, cap, cur, rfl, hg, hh, h3⟩
  · exact Or.inl h2
  · refine Or.inr ⟨g, cap, cur, rfl, hg, ?_, h3⟩
    rw [ho.block g (blk_lt hh) (fun ht => ?_)]
    · exact hh
    · rcases hT g (blk_lt hh) ht with h | ⟨cs, t, fr, h4, h5⟩
      · omega
      · rw [hh] at h4
        simp at h4
        exact h5 (h4.2.1 ▸ he)
theorem blk_only {w w' : World} {T : Nat → Prop} {lo b : Nat} {cs : Array Value} {t : TypeId} {fr : Nat × Nat} {ts : List TypeId} (h : w.heap[b]? = some (.cells cs t fr)) (hlo : lo ≤ b) (ho : Only T w w') (he : t ∈ ts) (hT : ∀ k, k < w.heap.size → T k → Foreign lo w ts k) : w'.heap[b]? = some (.cells cs t fr) := by
  rw [ho.block b (blk_lt h) (fun ht => ?_)]
  · exact h
  · rcases hT b (blk_lt h) ht with h1 | ⟨cs', t', fr', h4, h5⟩
    · omega
    · rw [h] at h4
      simp at h4
      exact h5 (h4.2.1 ▸ he)
def formTypes : List TypeId := [64, 139, 74, 92, 3, 121]
theorem ProgAt.only {lo b : Nat} {w w' : World} {q : QS} {T : Nat → Prop} (h : ProgAt lo w b q) (ho : Only T w w') (hT : ∀ k, k < w.heap.size → T k → Foreign lo w formTypes k) : ProgAt lo w' b q := by
  obtain ⟨h1, vV, vC, h2, h3, h4⟩ := h
  exact ⟨h1, vV, vC, blk_only h2 h1 ho (by decide) hT, own_only h3 ho (by decide) hT, own_only h4 ho (by decide) hT⟩
theorem RefAt.only {lo b : Nat} {w w' : World} {F : Form} {T : Nat → Prop} (h : RefAt lo w b F) (ho : Only T w w') (hT : ∀ k, k < w.heap.size → T k → Foreign lo w formTypes k) : RefAt lo w' b F := by
  obtain ⟨h1, vO, vE, vC, h2, h3, h4, h5⟩ := h
  exact ⟨h1, vO, vE, vC, blk_only h2 h1 ho (by decide) hT, own_only h3 ho (by decide) hT, own_only h4 ho (by decide) hT, own_only h5 ho (by decide) hT⟩
theorem FPair.only {lo : Nat} {w w' : World} {px pf : Option Addr} {T : Nat → Prop} (h : FPair lo w px pf) (ho : Only T w w') (hT : ∀ k, k < w.heap.size → T k → Foreign lo w formTypes k) : FPair lo w' px pf := by
  rcases h with h | ⟨b, b', st, q0, h1, h2, h3, h4, h5⟩
  · exact Or.inl h
  · exact Or.inr ⟨b, b', st, q0, h1, h2, h3.only ho hT, h4.only ho hT, h5⟩
theorem FPair.lo {lo lo' : Nat} {w : World} {px pf : Option Addr} (h : FPair lo w px pf) (hl : lo' ≤ lo) : FPair lo' w px pf := by
  rcases h with h | ⟨b, b', st, q0, h1, h2, h3, h4, h5⟩
  · exact Or.inl h
  · exact Or.inr ⟨b, b', st, q0, h1, h2, h3.lo hl, h4.lo hl, h5⟩

def LoadsPost (bw : Nat) (text proof : List UInt8) (c4 c5 c6 : Value) (w : World) (e : Ending) (w' : World) : Prop :=
  e = .returned (.bool true) ∧ Only (· = bw) w w' ∧ ∃ px pf, WAt w' bw text px pf proof c4 c5 c6 ∧ FPair w.heap.size w' px pf

set_option maxRecDepth 100000 in
set_option maxHeartbeats 1600000 in
theorem loads_any (bw : Nat) (text : List UInt8) (px pf : Option Addr) (proof : List UInt8) (c4 c5 c6 : Value) (w : World) (hw : WAt w bw text px pf proof c4 c5 c6) :
    Calls Tryz.prog 27 #[.pointer (some ⟨bw, 0, none⟩)] w fun e w' => LoadsPost bw text proof c4 c5 c6 w e w' := by
  have hbw : bw < w.heap.size := blk_lt hw
  have h0 : w.cell? ⟨bw, 0, none⟩ = some (S text) := by rw [blk_cell hw]; rfl
  go_enter Tryz.func27, Tryz.ntmps27
  go_wp2_with fail
  refine (load_any text w).mono ?_
  rintro e w1 ⟨hb1, hp1⟩
  have hw1 := hw.later hb1
  have h1 : w1.cell? ⟨bw, 0, none⟩ = some (S text) := by rw [blk_cell hw1]; rfl
  have hse := spec_eq text
  cases hq : loadSpec text with
  | inl a =>
    obtain ⟨x, i⟩ := a
    rw [hq] at hp1 hse
    have hp1' : e = .returned (.tuple #[.pointer none, .int .i64 (x : Int), .int .i64 (i : Int)]) := hp1
    subst hp1'
    have HSE : Hid (readSpec text = .inl (x, i)) := hide hse
    clear hse hq hp1
    go_wp2_with fail
    refine (read_all text w1).mono ?_
    rintro e w2 ⟨hb2, hp2⟩
    rw [unhide HSE] at hp2
    have hp2' : e = .returned (.tuple #[.pointer none, .int .i64 (x : Int), .int .i64 (i : Int)]) := hp2
    subst hp2'
    clear hp2
    have hw2 := hw1.later hb2
    have k1 : w2.cell? ⟨bw, 1, none⟩ = some (.pointer px) := by rw [blk_cell hw2]; rfl
    have k2 : w2.cell? ⟨bw, 2, none⟩ = some (.pointer pf) := by rw [blk_cell hw2]; rfl
    have z1 := blk_free hw2 1
    have z2 := blk_free hw2 2
    have hx : ((x : Int) != (x : Int)) = false := by simp
    have hi : ((i : Int) != (i : Int)) = false := by simp
    go_wp2_with fail
    go_ret
    refine ⟨rfl, (((Only.of_below (below_trans hb1 hb2)).setAt _ _).setAt _ _), none, none, ?_, Or.inl ⟨rfl, rfl⟩⟩
    exact blk_set (blk_set hw2 1 _) 2 _
  | inr q =>
    rw [hq] at hp1 hse
    obtain ⟨b, rfl, hP⟩ := hp1
    obtain ⟨st, q0, hse, hsame, rfl, h24⟩ := hse
    have HSE := hide hse
    clear hse hq
    go_wp2_with fail
    refine (read_all text w1).mono ?_
    rintro e w2 ⟨hb2, hp2⟩
    rw [unhide HSE] at hp2
    obtain ⟨b', rfl, hR⟩ := hp2
    have hw2 := hw1.later hb2
    have hP2 := hP.later hb2
    have hR2 := hR.lo (lo' := w.heap.size) hb1.size
    have hFP : FPair w.heap.size w2 (some ⟨b, 0, none⟩) (some ⟨b', 0, none⟩) := Or.inr ⟨b, b', st, q0, rfl, rfl, hP2, hR2, hsame, h24⟩
    have k1 : w2.cell? ⟨bw, 1, none⟩ = some (.pointer px) := by rw [blk_cell hw2]; rfl
    have k2 : w2.cell? ⟨bw, 2, none⟩ = some (.pointer pf) := by rw [blk_cell hw2]; rfl
    have z1 := blk_free hw2 1
    have z2 := blk_free hw2 2
    go_wp2_with fail
    go_ret
    refine ⟨rfl, (((((Only.of_below (below_trans hb1 hb2)).setAt _ _).setAt _ _).setAt _ _).setAt _ _), some ⟨b, 0, none⟩, some ⟨b', 0, none⟩, ?_, (((hFP.set hbw).set hbw).set hbw).set hbw⟩
    exact blk_set (blk_set (blk_set (blk_set hw2 1 _) 2 _) 1 _) 2 _

set_option maxRecDepth 100000 in
set_option maxHeartbeats 400000 in
theorem pick_any (c : Int) (n : Nat) (w : World) (hn : 0 < n) (hn2 : n ≤ 1048576) (h1 : -9223372036854775808 ≤ c) (h2 : c ≤ 9223372036854775807) :
    Calls Tryz.prog 29 #[.int .i64 c, .int .i64 n] w fun e w' => ∃ r : Nat, e = .returned (.int .i64 r) ∧ r < n ∧ w' = w := by
  by_cases hc : c < 0
  · have hd : decide (c < 0) = true := by simpa using hc
    go_enter Tryz.func29, Tryz.ntmps29
    go_wp2_with fail
    go_ret
    have e : -((c + 1).tmod n) = (-(c + 1)) % n := by rw [← Int.neg_tmod, Int.tmod_eq_emod_of_nonneg (by omega)]
    have e1 := Int.emod_nonneg (-(c + 1)) (show (n : Int) ≠ 0 by omega)
    have e2 := Int.emod_lt_of_pos (-(c + 1)) (show (0 : Int) < n by omega)
    refine ⟨((-(c + 1)) % n).toNat, ret_int ?_, by omega, rfl⟩
    omega
  · have hd : decide (c < 0) = false := by simpa using hc
    go_enter Tryz.func29, Tryz.ntmps29
    go_wp2_with fail
    go_ret
    refine ⟨(c % n).toNat, ?_, ?_, rfl⟩
    · refine ret_int ?_
      have := Int.emod_nonneg c (show (n : Int) ≠ 0 by omega)
      omega
    · have := Int.emod_nonneg c (show (n : Int) ≠ 0 by omega)
      have := Int.emod_lt_of_pos c (show (0 : Int) < n by omega)
      omega

def BendPost (bw : Nat) (text : List UInt8) (px pf : Option Addr) (proof : List UInt8) (c4 c5 c6 : Value) (w : World) (e : Ending) (w' : World) : Prop :=
  e = .returned (.tuple #[]) ∧ Only (· = bw) w w' ∧ ∃ proof' : List UInt8, proof'.length ≤ proof.length ∧ WAt w' bw text px pf proof' c4 c5 c6

theorem WAt.setProof {w : World} {bw : Nat} {text : List UInt8} {px pf : Option Addr} {proof : List UInt8} {c4 c5 c6 : Value} (h : WAt w bw text px pf proof c4 c5 c6) (proof' : List UInt8) : WAt (w.setCell ⟨bw, 3, none⟩ (S proof')) bw text px pf proof' c4 c5 c6 := blk_set h 3 _

set_option maxRecDepth 100000 in
set_option maxHeartbeats 1600000 in
theorem bend_any (bw : Nat) (text : List UInt8) (px pf : Option Addr) (proof : List UInt8) (c4 c5 c6 : Value) (a c : Int) (w : World) (hw : WAt w bw text px pf proof c4 c5 c6) (hpl : proof.length ≤ 1048576)
    (ha1 : -9223372036854775808 ≤ a) (ha2 : a ≤ 9223372036854775807) (hc1 : -9223372036854775808 ≤ c) (hc2 : c ≤ 9223372036854775807) :
    Calls Tryz.prog 28 #[.pointer (some ⟨bw, 0, none⟩), .int .i64 a, .int .i64 c] w fun e w' => BendPost bw text px pf proof c4 c5 c6 w e w' := by
  have hbw : bw < w.heap.size := blk_lt hw
  have h3 : w.cell? ⟨bw, 3, none⟩ = some (S proof) := by rw [blk_cell hw]; rfl
  have z3 := blk_free hw 3
  by_cases hp : proof = []
  · subst hp
    go_enter Tryz.func28, Tryz.ntmps28
    go_wp2_with fail
    go_end0
    exact ⟨rfl, Only.refl _ _, [], Nat.le_refl _, hw⟩
  · have hp0 : 0 < proof.length := List.length_pos_iff.2 hp
    have hpe : proof.isEmpty = false := by simpa using hp
    clear hp
    go_enter Tryz.func28, Tryz.ntmps28
    go_wp2_with fail
    refine (pick_any a proof.length w hp0 hpl ha1 ha2).mono ?_
    rintro e w1 ⟨r, rfl, hr, hw1⟩
    subst hw1
    have hr1 : r + 1 ≤ proof.length := by omega
    by_cases hc : c < 0
    · have hd : decide (0 ≤ c) = false := by simp; omega
      have HE : Hid (ByteArray.extract ⟨proof.toArray⟩ 0 r ++ ⟨#[]⟩ ++ ByteArray.extract ⟨proof.toArray⟩ (r + 1) proof.length = ⟨((proof.drop 0).take (r - 0) ++ [] ++ (proof.drop (r + 1)).take (proof.length - (r + 1))).toArray⟩) := hide (by
        rw [ba_extract, ba_extract, show (ByteArray.mk #[]) = ByteArray.mk ([] : List UInt8).toArray from rfl, ba_append, ba_append])
      go_wp2_with fail
      go_region
      all_goals go_wp2_with fail
      all_goals go_end0
      all_goals
        rw [unhide HE]
        refine ⟨rfl, ((Only.refl _ _).setAt _ _).drew, _, ?_, (hw.setProof _).later ((Below.refl _ _).drew)⟩
        simp; omega
    · have hd : decide (0 ≤ c) = true := by simp; omega
      have hcv := conv_byte (c % 256) (by omega) (by omega) w1
      have HE : Hid (∀ x : UInt8, ByteArray.extract ⟨proof.toArray⟩ 0 r ++ ⟨#[x]⟩ ++ ByteArray.extract ⟨proof.toArray⟩ (r + 1) proof.length = ⟨((proof.drop 0).take (r - 0) ++ [x] ++ (proof.drop (r + 1)).take (proof.length - (r + 1))).toArray⟩) := hide (by
        intro x
        rw [ba_extract, ba_extract, show (ByteArray.mk #[x]) = ByteArray.mk ([x] : List UInt8).toArray from rfl, ba_append, ba_append])
      go_wp2_with fail
      go_region
      all_goals go_wp2_with fail
      all_goals go_end0
      all_goals
        rw [unhide HE]
        refine ⟨rfl, (((Only.refl _ _).setAt _ _).alloc _).drew, _, ?_, (hw.setProof _).later (((Below.refl _ _).alloc (Nat.le_refl _) _).drew)⟩
        simp; omega

/-- The lists that were handed out are none yet. -/
theorem looks_none (bw : Nat) (text : List UInt8) (px pf : Option Addr) (proof : List UInt8) (c4 : Value) (w : World) (hw : WAt w bw text px pf proof c4 (.slice none 0 0) (.slice none 0 0)) :
    Calls Tryz.prog 20 #[.pointer (some ⟨bw, 0, none⟩)] w fun e w' => e = .returned (.bool true) ∧ w' = w := by
  have h5 : w.cell? ⟨bw, 5, none⟩ = some (.slice none 0 0) := by rw [blk_cell hw]; rfl
  have h6 : w.cell? ⟨bw, 6, none⟩ = some (.slice none 0 0) := by rw [blk_cell hw]; rfl
  go_enter Tryz.func20, Tryz.ntmps20
  go_wp2_with fail
  refine wp_loop_rounds 1 ?_
  rw [rounds_succ]
  go_wp2_with fail
  refine wp_loop_rounds 1 ?_
  rw [rounds_succ]
  go_wp2_with fail
  go_ret
  exact ⟨rfl, rfl⟩
end Go.Proofs.YtgipjjhkhfihpaaGreatDoor

namespace Go.Proofs.YtgipjjhkhfihpaaGreatDoor
open Go.RowKit

/-- One step of a script. -/
structure OpV where
  kind : Int
  a : Int
  b : Int
  c : Int
  s : List UInt8
  t : List UInt8
def OpV.cells (o : OpV) : List Value := [.int .i64 o.kind, .int .i64 o.a, .int .i64 o.b, .int .i64 o.c, S o.s, S o.t]
def i64ok (x : Int) : Prop := -9223372036854775808 ≤ x ∧ x ≤ 9223372036854775807
structure OpV.Ok (o : OpV) : Prop where
  kind : i64ok o.kind
  a : i64ok o.a
  b : i64ok o.b
  c : i64ok o.c

def StepPost (bw : Nat) (text proof : List UInt8) (o : OpV) (c4 c5 c6 : Value) (w : World) (e : Ending) (w' : World) : Prop :=
  e = .returned (.bool true) ∧ Only (· = bw) w w' ∧ ∃ text' px' pf' proof', WAt w' bw text' px' pf' proof' c4 c5 c6 ∧ text'.length ≤ text.length + o.s.length + 1 ∧ proof'.length ≤ proof.length + o.s.length + 1 ∧ FPair (bw + 1) w' px' pf'
/-- The formulas are new, or as they were. -/
def NewPair (px pf px' pf' : Option Addr) (w w' : World) : Prop := (px' = px ∧ pf' = pf) ∨ FPair w.heap.size w' px' pf'
def StepPost2 (bw : Nat) (text proof : List UInt8) (px pf : Option Addr) (o : OpV) (c4 c5 c6 : Value) (w : World) (e : Ending) (w' : World) : Prop :=
  e = .returned (.bool true) ∧ Only (· = bw) w w' ∧ ∃ text' px' pf' proof', WAt w' bw text' px' pf' proof' c4 c5 c6 ∧ text'.length ≤ text.length + o.s.length + 1 ∧ proof'.length ≤ proof.length + o.s.length + 1 ∧ NewPair px pf px' pf' w w'
theorem here_foreign {bw : Nat} {w : World} {ts : List TypeId} : ∀ k, k < w.heap.size → k = bw → Foreign (bw + 1) w ts k := fun k _ e => Or.inl (by omega)

theorem Only.pre {T : Nat → Prop} {a b c : World} (h : Below a.heap.size a b) (k : Only T b c) : Only T a c := (Only.of_below h).trans k

set_option maxRecDepth 100000 in
set_option maxHeartbeats 1600000 in
theorem step_text2 (bw : Nat) (text : List UInt8) (px pf : Option Addr) (proof : List UInt8) (o : OpV) (c4 c5 c6 : Value) (w : World) (hw : WAt w bw text px pf proof c4 c5 c6) (hk : o.kind = 1) :
    Calls Tryz.prog 19 #[.pointer (some ⟨bw, 0, none⟩), .agg #[.int .i64 o.kind, .int .i64 o.a, .int .i64 o.b, .int .i64 o.c, S o.s, S o.t]] w fun e w' => StepPost2 bw text proof px pf o c4 c5 c6 w e w' := by
  obtain ⟨kind, a, b, c, s, t⟩ := o
  dsimp only at hk ⊢
  subst hk
  have hbw : bw < w.heap.size := blk_lt hw
  have h0 : w.cell? ⟨bw, 0, none⟩ = some (S text) := by rw [blk_cell hw]; rfl
  have z0 := blk_free hw 0
  go_enter Tryz.func19, Tryz.ntmps19
  go_wp2_with fail
  have hw1 : WAt (w.setCell ⟨bw, 0, none⟩ (S s)) bw s px pf proof c4 c5 c6 := blk_set hw 0 _
  refine (loads_any bw s px pf proof c4 c5 c6 _ (hw1.later ((Below.refl _ _).alloc (Nat.le_refl _) _))).mono ?_
  rintro e w2 ⟨rfl, ho, px', pf', hw2, hF2⟩
  go_wp2_with fail
  go_ret
  refine ⟨rfl, ?_, s, px', pf', proof, hw2, by simp; omega, by simp; omega, Or.inr (hF2.lo (by simp))⟩
  exact (((Only.refl _ w).setAt 0 (S s)).alloc _).trans (ho.mono (fun k _ h => h))

set_option maxRecDepth 100000 in
set_option maxHeartbeats 1600000 in
theorem step_line2 (bw : Nat) (text : List UInt8) (px pf : Option Addr) (proof : List UInt8) (o : OpV) (c4 c5 c6 : Value) (w : World) (hw : WAt w bw text px pf proof c4 c5 c6) (hk : o.kind = 2) (htl : text.length ≤ 1048576) (hsl : o.s.length ≤ 1048576) :
    Calls Tryz.prog 19 #[.pointer (some ⟨bw, 0, none⟩), .agg #[.int .i64 o.kind, .int .i64 o.a, .int .i64 o.b, .int .i64 o.c, S o.s, S o.t]] w fun e w' => StepPost2 bw text proof px pf o c4 c5 c6 w e w' := by
  obtain ⟨kind, a, b, c, s, t⟩ := o
  dsimp only at hk hsl ⊢
  subst hk
  have hbw : bw < w.heap.size := blk_lt hw
  have h0 : w.cell? ⟨bw, 0, none⟩ = some (S text) := by rw [blk_cell hw]; rfl
  have z0 := blk_free hw 0
  have HE : Hid (ByteArray.mk text.toArray ++ ByteArray.mk s.toArray ++ ⟨#[10]⟩ = ⟨(text ++ s ++ [10]).toArray⟩) := hide (by
    rw [ba_append text s]; exact ba_append (text ++ s) [10])
  go_enter Tryz.func19, Tryz.ntmps19
  go_wp2_with fail
  go_region
  all_goals go_wp2_with fail
  have hw1 : WAt (w.setCell ⟨bw, 0, none⟩ (S (text ++ s ++ [10]))) bw (text ++ s ++ [10]) px pf proof c4 c5 c6 := blk_set hw 0 _
  all_goals
    rw [unhide HE]
    refine (loads_any bw (text ++ s ++ [10]) px pf proof c4 c5 c6 _ (hw1.later (((Below.refl _ _).alloc (Nat.le_refl _) _).drew))).mono ?_
    rintro e w2 ⟨rfl, ho, px', pf', hw2, hF2⟩
    go_wp2_with fail
    go_ret
    refine ⟨rfl, ?_, _, px', pf', proof, hw2, by simp; omega, by simp; omega, Or.inr (hF2.lo (by simp))⟩
    exact ((((Only.refl _ w).setAt 0 (S (text ++ s ++ [10]))).alloc _).drew).trans (ho.mono (fun k _ h => h))

set_option maxRecDepth 100000 in
set_option maxHeartbeats 1600000 in
theorem step_proof2 (bw : Nat) (text : List UInt8) (px pf : Option Addr) (proof : List UInt8) (o : OpV) (c4 c5 c6 : Value) (w : World) (hw : WAt w bw text px pf proof c4 c5 c6) (hk : o.kind = 4) :
    Calls Tryz.prog 19 #[.pointer (some ⟨bw, 0, none⟩), .agg #[.int .i64 o.kind, .int .i64 o.a, .int .i64 o.b, .int .i64 o.c, S o.s, S o.t]] w fun e w' => StepPost2 bw text proof px pf o c4 c5 c6 w e w' := by
  obtain ⟨kind, a, b, c, s, t⟩ := o
  dsimp only at hk ⊢
  subst hk
  have hbw : bw < w.heap.size := blk_lt hw
  have h3 : w.cell? ⟨bw, 3, none⟩ = some (S proof) := by rw [blk_cell hw]; rfl
  have z3 := blk_free hw 3
  go_enter Tryz.func19, Tryz.ntmps19
  go_wp2_with fail
  go_ret
  have ho := ((Only.refl (· = bw) w).setAt 3 (S s)).alloc (.cells #[.int .i64 4, .int .i64 a, .int .i64 b, .int .i64 c, S s, S t] 29)
  refine ⟨rfl, ho, text, px, pf, s, (hw.setProof s).later ((Below.refl _ _).alloc (Nat.le_refl _) _), by simp; omega, by simp; omega, Or.inl ⟨rfl, rfl⟩⟩

set_option maxRecDepth 100000 in
set_option maxHeartbeats 1600000 in
theorem step_bend2 (bw : Nat) (text : List UInt8) (px pf : Option Addr) (proof : List UInt8) (o : OpV) (c4 c5 c6 : Value) (w : World) (hw : WAt w bw text px pf proof c4 c5 c6) (hk : o.kind = 5) (hok : o.Ok) (hpl : proof.length ≤ 1048576) :
    Calls Tryz.prog 19 #[.pointer (some ⟨bw, 0, none⟩), .agg #[.int .i64 o.kind, .int .i64 o.a, .int .i64 o.b, .int .i64 o.c, S o.s, S o.t]] w fun e w' => StepPost2 bw text proof px pf o c4 c5 c6 w e w' := by
  obtain ⟨kind, a, b, c, s, t⟩ := o
  obtain ⟨_, ⟨ha1, ha2⟩, _, ⟨hc1, hc2⟩⟩ := hok
  dsimp only at hk ha1 ha2 hc1 hc2 ⊢
  subst hk
  have hbw : bw < w.heap.size := blk_lt hw
  go_enter Tryz.func19, Tryz.ntmps19
  go_wp2_with fail
  refine (bend_any bw text px pf proof c4 c5 c6 a c _ (hw.later ((Below.refl _ _).alloc (Nat.le_refl _) _)) hpl ha1 ha2 hc1 hc2).mono ?_
  rintro e w2 ⟨rfl, ho, proof', hpl', hw2⟩
  go_wp2_with fail
  go_ret
  have ho3 := ((Only.refl (· = bw) w).alloc (.cells #[.int .i64 5, .int .i64 a, .int .i64 b, .int .i64 c, S s, S t] 29)).trans ho
  exact ⟨rfl, ho3, text, px, pf, proof', hw2, by simp; omega, by simp; omega, Or.inl ⟨rfl, rfl⟩⟩

/-- The kinds of steps that only turn texts. -/
def base4 (k : Int) : Bool := k == 1 || k == 2 || k == 4 || k == 5
theorem step_base2 (bw : Nat) (text : List UInt8) (px pf : Option Addr) (proof : List UInt8) (o : OpV) (c4 c5 c6 : Value) (w : World) (hw : WAt w bw text px pf proof c4 c5 c6) (hk : base4 o.kind = true)
    (hok : o.Ok) (hpl : proof.length ≤ 1048576) (htl : text.length ≤ 1048576) (hsl : o.s.length ≤ 1048576) :
    Calls Tryz.prog 19 #[.pointer (some ⟨bw, 0, none⟩), .agg #[.int .i64 o.kind, .int .i64 o.a, .int .i64 o.b, .int .i64 o.c, S o.s, S o.t]] w fun e w' => StepPost2 bw text proof px pf o c4 c5 c6 w e w' := by
  unfold base4 at hk
  simp only [Bool.or_eq_true, beq_iff_eq] at hk
  rcases hk with ((hk | hk) | hk) | hk
  · exact step_text2 bw text px pf proof o c4 c5 c6 w hw hk
  · exact step_line2 bw text px pf proof o c4 c5 c6 w hw hk htl hsl
  · exact step_proof2 bw text px pf proof o c4 c5 c6 w hw hk
  · exact step_bend2 bw text px pf proof o c4 c5 c6 w hw hk hok hpl
theorem step_base (bw : Nat) (text : List UInt8) (px pf : Option Addr) (proof : List UInt8) (o : OpV) (c4 c5 c6 : Value) (w : World) (hw : WAt w bw text px pf proof c4 c5 c6) (hF : FPair (bw + 1) w px pf) (hk : base4 o.kind = true)
    (hok : o.Ok) (hpl : proof.length ≤ 1048576) (htl : text.length ≤ 1048576) (hsl : o.s.length ≤ 1048576) :
    Calls Tryz.prog 19 #[.pointer (some ⟨bw, 0, none⟩), .agg #[.int .i64 o.kind, .int .i64 o.a, .int .i64 o.b, .int .i64 o.c, S o.s, S o.t]] w fun e w' => StepPost bw text proof o c4 c5 c6 w e w' := by
  refine (step_base2 bw text px pf proof o c4 c5 c6 w hw hk hok hpl htl hsl).mono ?_
  rintro e w' ⟨h1, ho, text', px', pf', proof', hw', h2, h3, h4⟩
  refine ⟨h1, ho, text', px', pf', proof', hw', h2, h3, ?_⟩
  rcases h4 with ⟨rfl, rfl⟩ | h4
  · exact hF.only ho here_foreign
  · exact h4.lo (blk_lt hw)

def opCells (l : List OpV) : List Value := l.flatMap OpV.cells
theorem opCells_length (l : List OpV) : (opCells l).length = l.length * 6 := by
  induction l with
  | nil => rfl
  | cons a l ih => simp [opCells, OpV.cells] at *; omega
theorem opCells_snoc (l : List OpV) (o : OpV) : opCells (l ++ [o]) = opCells l ++ o.cells := by simp [opCells]
theorem opCells_at (l : List OpV) (k j : Nat) (h : k < l.length) (hj : j < 6) : (opCells l)[k * 6 + j]? = l[k].cells[j]? := by
  induction l generalizing k with
  | nil => simp at h
  | cons a l ih =>
    cases k with
    | zero =>
      simp only [opCells, List.flatMap_cons]
      rw [List.getElem?_append_left (by simp [OpV.cells]; omega)]
      simp
    | succ k =>
      have := ih k (by simpa using h)
      simp only [opCells, List.flatMap_cons] at this ⊢
      rw [show (k + 1) * 6 + j = k * 6 + j + 6 from by omega, List.getElem?_append_right (by simp [OpV.cells])]
      simpa [OpV.cells] using this
def sizeTo (l : List OpV) (k : Nat) : Nat := ((l.take k).map (fun o => o.s.length + 1)).sum
theorem sizeTo_succ (l : List OpV) (k : Nat) (h : k < l.length) : sizeTo l (k + 1) = sizeTo l k + (l[k].s.length + 1) := by
  unfold sizeTo
  rw [List.take_succ_eq_append_getElem h, List.map_append, List.sum_append]
  simp only [List.map_cons, List.map_nil, List.sum_cons, List.sum_nil, Nat.add_zero]
theorem sizeTo_le (l : List OpV) (k : Nat) (_h : k ≤ l.length) : sizeTo l k ≤ sizeTo l l.length := by
  have e : l.take l.length = l.take k ++ l.drop k := by rw [List.take_length, List.take_append_drop]
  unfold sizeTo
  rw [e, List.map_append, List.sum_append]
  omega

set_option maxRecDepth 100000 in
set_option maxHeartbeats 3200000 in
theorem upTo_base (base : Nat) (ops : List OpV) (v : Value) (w : World) (hown : w.ownsRow base 29 6 v ops.length (opCells ops)) (hall : ∀ o ∈ ops, base4 o.kind = true ∧ o.Ok) (hsz : sizeTo ops ops.length ≤ 1048576) (hln : ops.length ≤ 1048576) :
    Calls Tryz.prog 14 #[v] w fun e w' => e = .returned (.int .i64 (-1)) ∧ Below w.heap.size w w' := by
  obtain ⟨aS, cS, rfl⟩ := own_form hown
  have HALL := hide hall; clear hall
  go_enter Tryz.func14, Tryz.ntmps14
  go_wp2_with fail
  go_loopg [4] (ops.length) (fun n i wx => ∃ (k : Nat) (text : List UInt8) (px pf : Option Addr) (proof : List UInt8), i = .int .i64 k ∧ k + n = ops.length ∧ WAt wx w.heap.size text px pf proof (.slice none 0 0) (.slice none 0 0) (.slice none 0 0) ∧
    text.length ≤ sizeTo ops k ∧ proof.length ≤ sizeTo ops k ∧ Below w.heap.size w wx ∧ FPair (w.heap.size + 1) wx px pf)
  case atStart => exact ⟨0, [], none, none, [], rfl, by omega, heap_alloc_new _ _, by simp, by simp, (Below.refl _ _).alloc (Nat.le_refl _) _, Or.inl ⟨rfl, rfl⟩⟩
  case round =>
    obtain ⟨k, text, px, pf, proof, rfl, hk, hw, htl, hpl, hb, hF⟩ := hrel
    by_cases hlt : k < ops.length
    · obtain ⟨g, cap, hV, hg, hg', _, hcell⟩ := own_pos hown (by omega)
      injection hV with hV _ hV2
      subst hV hV2
      have hc : ∀ j (hj : j < 6) u, ops[k].cells[j]? = some u → wr.cell? ⟨g, k * 6 + j, none⟩ = some u := fun j hj u hu => by
        rw [hb.cell (p := ⟨g, k * 6 + j, none⟩) hg']
        exact hcell _ _ (by rw [opCells_at ops k j hlt hj]; exact hu)
      have hc0 : wr.cell? ⟨g, k * 6, none⟩ = some (.int .i64 ops[k].kind) := hc 0 (by omega) _ rfl
      have hc1 : wr.cell? ⟨g, k * 6 + 1, none⟩ = some (.int .i64 ops[k].a) := hc 1 (by omega) _ rfl
      have hc2 : wr.cell? ⟨g, k * 6 + 2, none⟩ = some (.int .i64 ops[k].b) := hc 2 (by omega) _ rfl
      have hc3 : wr.cell? ⟨g, k * 6 + 3, none⟩ = some (.int .i64 ops[k].c) := hc 3 (by omega) _ rfl
      have hc4 : wr.cell? ⟨g, k * 6 + 4, none⟩ = some (S ops[k].s) := hc 4 (by omega) _ rfl
      have hc5 : wr.cell? ⟨g, k * 6 + 5, none⟩ = some (S ops[k].t) := hc 5 (by omega) _ rfl
      obtain ⟨hbase, hok⟩ := unhide HALL _ (List.getElem_mem hlt)
      have hss := sizeTo_succ ops k hlt
      have hsl := sizeTo_le ops (k + 1) (by omega)
      have hl1 : ops[k].s.length ≤ 1048576 := by omega
      have hl2 : text.length ≤ 1048576 := by omega
      have hl3 : proof.length ≤ 1048576 := by omega
      have HSS := hide hss
      have HB := hide hbase
      clear hc hcell hss hbase
      generalize ops[k] = o at *
      go_wp2_with fail
      refine (step_base w.heap.size text px pf proof o _ _ _ wr hw hF (unhide HB) hok hl3 hl2 hl1).mono ?_
      rintro e w2 ⟨rfl, ho, text', px', pf', proof', hw2, ht2, hp2, hF2⟩
      have hb2 : Below w.heap.size w w2 := hb.trans (ho.below hb.size (fun k hk h => by omega))
      go_wp2_with fail
      refine (looks_none w.heap.size text' px' pf' proof' _ w2 hw2).mono ?_
      rintro e w3 ⟨rfl, hw3⟩
      subst hw3
      go_wp2_with fail
      go_roundg (gk - 1)
      case measure => omega
      case rel =>
        have := unhide HSS
        exact ⟨k + 1, text', px', pf', proof', by go_num, by omega, hw2, by omega, by omega, hb2, hF2⟩
    · have hkl : k = ops.length := by omega
      subst hkl
      have h4 : wr.cell? ⟨w.heap.size, 4, none⟩ = some (.slice none 0 0) := by rw [blk_cell hw]; rfl
      go_wp2_with fail
      refine wp_loop_rounds 1 ?_
      rw [rounds_succ]
      go_wp2_with fail
      go_ret
      exact ⟨rfl, hb⟩
end Go.Proofs.YtgipjjhkhfihpaaGreatDoor

namespace Go.Proofs.YtgipjjhkhfihpaaGreatDoor
open Go.RowKit

/-- A script lies at an address. -/
def ScriptAt (w : World) (ao : Option Addr) (ops : List OpV) : Prop :=
  ops ≠ [] → ∃ b off, ao = some ⟨b, off, none⟩ ∧ b < w.heap.size ∧ ∀ k (hk : k < ops.length) j (_ : j < 6) u, ops[k].cells[j]? = some u → w.cell? ⟨b, off + (k * 6 + j), none⟩ = some u
theorem ScriptAt.cells {w wr : World} {b off : Nat} {ops : List OpV} (h : ∀ k (hk : k < ops.length) j (_ : j < 6) u, ops[k].cells[j]? = some u → w.cell? ⟨b, off + (k * 6 + j), none⟩ = some u) (hlt : b < w.heap.size) (hb : Below w.heap.size w wr) (k : Nat) (hk : k < ops.length) :
    wr.cell? ⟨b, off + k * 6, none⟩ = some (.int .i64 ops[k].kind) ∧ wr.cell? ⟨b, off + k * 6 + 1, none⟩ = some (.int .i64 ops[k].a) ∧ wr.cell? ⟨b, off + k * 6 + 2, none⟩ = some (.int .i64 ops[k].b) ∧
    wr.cell? ⟨b, off + k * 6 + 3, none⟩ = some (.int .i64 ops[k].c) ∧ wr.cell? ⟨b, off + k * 6 + 4, none⟩ = some (S ops[k].s) ∧ wr.cell? ⟨b, off + k * 6 + 5, none⟩ = some (S ops[k].t) := by
  have hc : ∀ j (_ : j < 6) u, ops[k].cells[j]? = some u → wr.cell? ⟨b, off + k * 6 + j, none⟩ = some u := fun j hj u hu => by
    rw [hb.cell (p := ⟨b, off + k * 6 + j, none⟩) hlt, show off + k * 6 + j = off + (k * 6 + j) from by omega]; exact h k hk j hj u hu
  exact ⟨hc 0 (by omega) _ rfl, hc 1 (by omega) _ rfl, hc 2 (by omega) _ rfl, hc 3 (by omega) _ rfl, hc 4 (by omega) _ rfl, hc 5 (by omega) _ rfl⟩

def totTo (ops : List OpV) (k : Nat) : Nat := ops.length + ((ops.take k).map (fun o => o.s.length + o.t.length)).sum
theorem totTo_succ (ops : List OpV) (k : Nat) (h : k < ops.length) : totTo ops (k + 1) = totTo ops k + (ops[k].s.length + ops[k].t.length) := by
  unfold totTo
  rw [List.take_succ_eq_append_getElem h, List.map_append, List.sum_append]
  simp only [List.map_cons, List.map_nil, List.sum_cons, List.sum_nil, Nat.add_zero]
  omega
theorem totTo_le (ops : List OpV) (k : Nat) (_h : k ≤ ops.length) : totTo ops k ≤ totTo ops ops.length := by
  have e : ops.take ops.length = ops.take k ++ ops.drop k := by rw [List.take_length, List.take_append_drop]
  unfold totTo
  rw [e, List.map_append, List.sum_append]
  omega
theorem totTo_zero (ops : List OpV) : totTo ops 0 = ops.length := by simp [totTo]
def smallB (ops : List OpV) : Bool := decide (totTo ops ops.length ≤ 524288)
/-- Each text takes as many bytes as may be. -/
def Sized (ops : List OpV) : Prop := ∀ o ∈ ops, o.s.length ≤ 140737488355328 ∧ o.t.length ≤ 140737488355328

theorem drewN_below (w : World) (n : Nat) : Below w.heap.size w (w.drewN n) := below_drewN (Below.refl _ _) n

set_option maxRecDepth 100000 in
set_option maxHeartbeats 1600000 in
theorem small_any (ops : List OpV) (ao : Option Addr) (cap : Nat) (w : World) (hs : ScriptAt w ao ops) (hsz : Sized ops) (hln : ops.length ≤ 140737488355328) :
    Calls Tryz.prog 13 #[.slice ao ops.length cap] w fun e w' => e = .returned (.bool (smallB ops)) ∧ Below w.heap.size w w' := by
  by_cases hlong : 524288 < ops.length
  · have hd : decide ((524288 : Int) < (ops.length : Int)) = true := by simp; omega
    have HF : Hid (smallB ops = false) := hide (by
      unfold smallB
      have := totTo_le ops 0 (by omega)
      rw [totTo_zero] at this
      simp; omega)
    go_enter Tryz.func13, Tryz.ntmps13
    go_wp2_with fail
    go_ret
    exact ⟨ret_bool (unhide HF).symm, Below.refl _ _⟩
  · have hd : decide ((524288 : Int) < (ops.length : Int)) = false := by simp; omega
    have HSZ := hide hsz; clear hsz
    go_enter Tryz.func13, Tryz.ntmps13
    go_wp2_with fail
    go_loopg [3, 4] (ops.length) (fun q n i wx => ∃ (k : Nat), i = .int .i64 k ∧ k + q = ops.length ∧ n = .int .i64 (totTo ops k : Nat) ∧ totTo ops k ≤ 524288 ∧ Below w.heap.size w wx)
    case atStart => exact ⟨0, rfl, by omega, by rw [totTo_zero], by rw [totTo_zero]; omega, Below.refl _ _⟩
    case round =>
      obtain ⟨k, rfl, hk, rfl, hle, hbm⟩ := hrel
      by_cases hlt : k < ops.length
      · obtain ⟨b, off, rfl, hbl, hcell⟩ := hs (by intro e; subst e; simp at hlt)
        obtain ⟨_, _, _, _, hc4, hc5⟩ := ScriptAt.cells hcell hbl hbm k hlt
        obtain ⟨hz1, hz2⟩ := unhide HSZ _ (List.getElem_mem hlt)
        have HTS := hide (totTo_succ ops k hlt)
        have HTL := hide (totTo_le ops (k + 1) (by omega))
        have hdk : decide ((k : Int) < (ops.length : Int)) = true := by simp; omega
        clear hcell
        generalize totTo ops k = tk at *
        generalize ops[k] = o at *
        go_wp2_with fail
        go_quiet (fail)
        by_cases hbig : 524288 < tk + (o.s.length + o.t.length)
        · have hq : decide ((524288 : Int) < (tk : Int) + (o.s.length : Int) + (o.t.length : Int)) = true := by simp; omega
          have HF : Hid (smallB ops = false) := hide (by
            unfold smallB
            have h1 := unhide HTL; have h2 := unhide HTS
            simp; omega)
          go_wp2_with fail
          go_ret
          exact ⟨ret_bool (unhide HF).symm, below_drewN hbm nq⟩
        · have hq : decide ((524288 : Int) < (tk : Int) + (o.s.length : Int) + (o.t.length : Int)) = false := by simp; omega
          go_wp2_with fail
          go_roundg (gk - 1)
          case measure => omega
          case rel =>
            refine ⟨k + 1, by go_num, by omega, ?_, by rw [unhide HTS]; omega, below_drewN hbm nq⟩
            rw [unhide HTS]; exact congrArg (Value.int .i64) (by omega)
      · have hkl : k = ops.length := by omega
        subst hkl
        have HF : Hid (smallB ops = true) := hide (by unfold smallB; simpa using hle)
        go_wp2_with fail
        go_ret
        exact ⟨ret_bool (unhide HF).symm, hbm⟩

/-! ### plays -/
/-- Numbers lie at an address. -/
def KindsAt (w : World) (ko : Option Addr) (ks : List Int) : Prop :=
  ks ≠ [] → ∃ b off, ko = some ⟨b, off, none⟩ ∧ b < w.heap.size ∧ ∀ j (hj : j < ks.length), w.cell? ⟨b, off + j, none⟩ = some (.int .i64 ks[j])
def inB (ks : List Int) (k : Int) : Bool := base4 k || ks.any (· == k)
def selTo (ks : List Int) (ops : List OpV) (k : Nat) : List OpV := (ops.take k).filter (fun o => inB ks o.kind)
theorem selTo_succ (ks : List Int) (ops : List OpV) (k : Nat) (h : k < ops.length) : selTo ks ops (k + 1) = selTo ks ops k ++ (if inB ks ops[k].kind then [ops[k]] else []) := by
  unfold selTo
  rw [List.take_succ_eq_append_getElem h, List.filter_append]
  congr 1
  simp [List.filter_cons]
theorem selTo_len (ks : List Int) (ops : List OpV) (k : Nat) : (selTo ks ops k).length ≤ ops.length := by
  unfold selTo
  refine Nat.le_trans (List.length_filter_le _ _) ?_
  simp; omega
theorem any_take (ks : List Int) (x : Int) (j : Nat) (h : j < ks.length) : (ks.take (j + 1)).any (· == x) = ((ks.take j).any (· == x) || (ks[j] == x)) := by
  rw [List.take_succ_eq_append_getElem h, List.any_append]; simp

theorem Tryz.info29 : (Tryz.prog.info? 29).map (fun i => (i.zero, i.size, i.bytes)) = some (some (.agg #[.int .i64 0, .int .i64 0, .int .i64 0, .int .i64 0, .string ⟨#[]⟩, .string ⟨#[]⟩]), 6, 64) := by kernel_rfl

set_option maxRecDepth 100000 in
set_option maxHeartbeats 3200000 in
theorem plays_any (ops : List OpV) (ao : Option Addr) (cap : Nat) (ks : List Int) (ko : Option Addr) (kcap : Nat) (w : World) (hs : ScriptAt w ao ops) (hks : KindsAt w ko ks) (hsz : Sized ops) (hln : ops.length ≤ 140737488355328) (hkl : ks.length ≤ 1048576)
    (HU : Hid (∀ (base : Nat) (v : Value) (w' : World), smallB ops = true → w'.ownsRow base 29 6 v (ops.filter (fun o => inB ks o.kind)).length (opCells (ops.filter (fun o => inB ks o.kind))) → Calls Tryz.prog 14 #[v] w' fun e w'' => e = .returned (.int .i64 (-1)) ∧ Below w'.heap.size w' w'')) :
    Calls Tryz.prog 10 #[.slice ao ops.length cap, .slice ko ks.length kcap] w fun e w' => e = .returned (.bool true) ∧ Below w.heap.size w w' := by
  go_enter Tryz.func10, Tryz.ntmps10
  go_wp2_with fail
  refine (small_any ops ao cap w hs hsz hln).mono ?_
  rintro e w1 ⟨rfl, hb1⟩
  cases hsm : smallB ops with
  | false =>
    go_wp2_with fail
    go_ret
    exact ⟨rfl, hb1⟩
  | true =>
    have HSM := hide hsm
    have hlo : ops.length ≤ 524288 := by
      have h1 : totTo ops ops.length ≤ 524288 := of_decide_eq_true hsm
      have h2 := totTo_le ops 0 (by omega)
      rw [totTo_zero] at h2
      omega
    clear hsm
    obtain ⟨i0, hi, hz0, hz1, hz2⟩ := info_parts Tryz.info29
    go_wp2_with fail
    go_loopg [6, 7] (ops.length) (fun q v i wx => ∃ (k : Nat), i = .int .i64 k ∧ k + q = ops.length ∧ wx.ownsRow w.heap.size 29 6 v (selTo ks ops k).length (opCells (selTo ks ops k)) ∧ Below w.heap.size w wx)
    case atStart => exact ⟨0, rfl, by omega, World.ownsRow_nil _ _ _ _, hb1⟩
    case round =>
      obtain ⟨k, rfl, hk, hown, hb⟩ := hrel
      obtain ⟨wo, rfl⟩ : ∃ wo, wo = wr := ⟨_, rfl⟩
      obtain ⟨go, rfl⟩ : ∃ go, go = gk := ⟨_, rfl⟩
      have hbs := hb.size
      have hsl := selTo_len ks ops k
      by_cases hlt : k < ops.length
      · obtain ⟨b, off, rfl, hbl, hcell⟩ := hs (by intro e; subst e; simp at hlt)
        obtain ⟨hc0, hc1, hc2, hc3, hc4, hc5⟩ := ScriptAt.cells hcell hbl hb k hlt
        have HSS := hide (selTo_succ ks ops k hlt)
        have hdk : decide ((k : Int) < (ops.length : Int)) = true := by simp; omega
        clear hcell
        have hbwo : b < wo.heap.size := by omega
        generalize ops[k] = o at *
        have hex : ∃ b1 b2 b4 b5 : Bool, (o.kind == 1) = b1 ∧ (o.kind == 2) = b2 ∧ (o.kind == 4) = b4 ∧ (o.kind == 5) = b5 ∧ base4 o.kind = (b1 || b2 || b4 || b5) ∧ (b1 && b2) = false ∧ (b1 && b4) = false ∧ (b1 && b5) = false ∧ (b2 && b4) = false ∧ (b2 && b5) = false ∧ (b4 && b5) = false := by
          refine ⟨_, _, _, _, rfl, rfl, rfl, rfl, rfl, ?_, ?_, ?_, ?_, ?_, ?_⟩
          all_goals (rw [Bool.and_eq_false_iff, beq_eq_false_iff_ne, beq_eq_false_iff_ne]; omega)
        obtain ⟨b1, b2, b4, b5, e1, e2, e4, e5, eb, x1, x2, x3, x4, x5, x6⟩ := hex
        have HEB := hide eb; clear eb
        cases b1 <;> cases b2 <;> cases b4 <;> cases b5 <;> first | (exfalso; revert x1 x2 x3 x4 x5 x6; decide) | skip
        all_goals clear x1 x2 x3 x4 x5 x6
        all_goals
          go_wp2_with fail
          go_loopg [9, 10] (ks.length) (fun q x i wx => ∃ (j : Nat), i = .int .i64 j ∧ j + q = ks.length ∧ x = .bool (base4 o.kind || (ks.take j).any (· == o.kind)) ∧ wx = wo)
          case atStart => exact ⟨0, rfl, by omega, by rw [unhide HEB]; rfl, rfl⟩
          case round =>
            obtain ⟨j, rfl, hj, rfl, hwx⟩ := hrel
            subst hwx
            by_cases hjl : j < ks.length
            · obtain ⟨bk, offk, rfl, hbk, hck⟩ := hks (by intro e; subst e; simp at hjl)
              have hcj : wr.cell? ⟨bk, offk + j, none⟩ = some (.int .i64 ks[j]) := by
                rw [hb.cell (p := ⟨bk, offk + j, none⟩) hbk]; exact hck j hjl
              have HAT := hide (any_take ks o.kind j hjl)
              have hdj : decide ((j : Int) < (ks.length : Int)) = true := by simp; omega
              obtain ⟨kj, hkj⟩ : ∃ kj, ks[j] = kj := ⟨_, rfl⟩
              rw [hkj] at hcj
              have HKJ := hide hkj
              clear hkj hck
              cases hin : (base4 o.kind || (ks.take j).any (· == o.kind)) with
              | true =>
                go_wp2_with fail
                go_roundg (gk - 1)
                case measure => omega
                case rel => exact ⟨j + 1, by go_num, by omega, by rw [unhide HAT, ← Bool.or_assoc, hin]; rfl, rfl⟩
              | false =>
                cases heq : (o.kind == kj) with
                | true =>
                  go_wp2_with fail
                  go_roundg (gk - 1)
                  case measure => omega
                  case rel => exact ⟨j + 1, by go_num, by omega, by rw [unhide HAT, ← Bool.or_assoc, hin, unhide HKJ, show (kj == o.kind) = true from by rw [beq_iff_eq] at heq ⊢; exact heq.symm]; rfl, rfl⟩
                | false =>
                  go_wp2_with fail
                  go_roundg (gk - 1)
                  case measure => omega
                  case rel => exact ⟨j + 1, by go_num, by omega, by rw [unhide HAT, ← Bool.or_assoc, hin, unhide HKJ, show (kj == o.kind) = false from by rw [beq_eq_false_iff_ne] at heq ⊢; exact fun e => heq e.symm]; rfl, rfl⟩
            · have hjl2 : j = ks.length := by omega
              subst hjl2
              have HIN : Hid ((base4 o.kind || (ks.take ks.length).any (· == o.kind)) = inB ks o.kind) := hide (by rw [List.take_length]; rfl)
              rw [unhide HIN]
              have hdj : decide ((ks.length : Int) < (ks.length : Int)) = false := by simp
              cases hin : inB ks o.kind with
              | true =>
                go_wp2_with (at_builtin; refine wpList_append_new rfl (.tmp 56) (.tmp 61) 22 rfl w.heap.size i0 (.agg #[.int .i64 0, .int .i64 0, .int .i64 0, .int .i64 0, .string ⟨#[]⟩, .string ⟨#[]⟩]) 6 64 Tryz.underlying22 hi hz0 hz1 hz2 rfl (by decide) _ _ _ hown rfl rfl rfl (by simp [Value.oneCell']) (by unfold maxLen; omega) (by omega) hbs ?_; intro v' w4 hown4 hgrow hnn)
                go_roundg (go - 1)
                case measure => omega
                case rel =>
                  refine ⟨k + 1, by go_num, by omega, ?_, below_grown hb hgrow hown (Nat.le_refl _) hbs⟩
                  rw [unhide HSS, hin, if_pos rfl, opCells_snoc]
                  simpa [OpV.cells] using hown4
              | false =>
                go_wp2_with fail
                go_roundg (go - 1)
                case measure => omega
                case rel => exact ⟨k + 1, by go_num, by omega, by rw [unhide HSS, hin, if_neg (by decide), List.append_nil]; exact hown, hb⟩
      · have hkl2 : k = ops.length := by omega
        subst hkl2
        have hown2 := hown
        unfold selTo at hown2
        rw [List.take_length] at hown2
        have hdk : decide ((ops.length : Int) < (ops.length : Int)) = false := by simp
        have HO2 := hide hown2
        clear hown hown2 hsl
        go_wp2_with fail
        refine ((unhide HU) _ _ wo (unhide HSM) (unhide HO2)).mono ?_
        rintro e w5 ⟨rfl, hb5⟩
        go_wp2_with fail
        go_ret
        exact ⟨rfl, hb.trans (hb5.mono hbs)⟩

theorem filter_sizes (p : OpV → Bool) (ops : List OpV) : sizeTo (ops.filter p) (ops.filter p).length ≤ totTo ops ops.length := by
  unfold sizeTo totTo
  rw [List.take_length, List.take_length]
  induction ops with
  | nil => simp
  | cons o ops ih =>
    rw [List.filter_cons]
    split
    · simp only [List.map_cons, List.sum_cons, List.length_cons]; omega
    · simp only [List.map_cons, List.sum_cons, List.length_cons]; omega

set_option maxRecDepth 100000 in
set_option maxHeartbeats 800000 in
theorem loads_law (ops : List OpV) (ao : Option Addr) (cap : Nat) (w : World) (hs : ScriptAt w ao ops) (hsz : Sized ops) (hln : ops.length ≤ 140737488355328) (hok : ∀ o ∈ ops, o.Ok) :
    Calls Tryz.prog 3 #[.slice ao ops.length cap] w fun e w' => e = .returned (.bool true) ∧ Below w.heap.size w w' := by
  have HOK := hide hok; clear hok
  have HU : Hid (∀ (base : Nat) (v : Value) (w' : World), smallB ops = true → w'.ownsRow base 29 6 v (ops.filter (fun o => inB [] o.kind)).length (opCells (ops.filter (fun o => inB [] o.kind))) → Calls Tryz.prog 14 #[v] w' fun e w'' => e = .returned (.int .i64 (-1)) ∧ Below w'.heap.size w' w'') := hide (by
    intro base v w' hsm hown
    have h1 : totTo ops ops.length ≤ 524288 := of_decide_eq_true hsm
    have h2 := filter_sizes (fun o => inB [] o.kind) ops
    have h3 : (ops.filter (fun o => inB [] o.kind)).length ≤ ops.length := List.length_filter_le _ _
    have h4 := totTo_le ops 0 (by omega)
    rw [totTo_zero] at h4
    refine upTo_base base _ v w' hown ?_ (by omega) (by omega)
    intro o ho
    rw [List.mem_filter] at ho
    refine ⟨?_, unhide HOK o ho.1⟩
    have := ho.2
    unfold inB at this
    simpa using this)
  go_enter Tryz.func3, Tryz.ntmps3
  go_wp2_with fail
  refine (plays_any ops ao cap [] none 0 w hs (fun h => absurd rfl h) hsz hln (by simp) HU).mono ?_
  rintro e w1 ⟨rfl, hb⟩
  go_wp2_with fail
  go_ret
  exact ⟨rfl, hb⟩
end Go.Proofs.YtgipjjhkhfihpaaGreatDoor

namespace Go.Proofs.YtgipjjhkhfihpaaGreatDoor
open Go.ChangeShapes Go.WideShapes Go.ChangeAt Go.RowKit Go.Deep

theorem Tryz.cellsOp : Tryz.prog.cellsOf 29 = 6 := by kernel_rfl
theorem Tryz.cellsInt : Tryz.prog.cellsOf 3 = 1 := by kernel_rfl
theorem Tryz.cellsStr : Tryz.prog.cellsOf 9 = 1 := by kernel_rfl
theorem Tryz.bytesOp : Tryz.prog.bytesOf 29 = 64 := by kernel_rfl
theorem Tryz.own : ownKnob Tryz.prog.godebug = none := by kernel_rfl
theorem Tryz.laidOut : laidOutB Tryz.prog = true := by kernel_rfl

section
variable {H : Type} {enc : TypeId × Value → H} {w : World} {base : Nat} {spare : Nat → Bool} {held : Bool}

def OpV.data (o : OpV) : DataW H := .agg [.lit (.int .i64 o.kind), .lit (.int .i64 o.a), .lit (.int .i64 o.b), .lit (.int .i64 o.c), .lit (.string o.s), .lit (.string o.t)]

theorem i64_of_wf {x : Int} (h : (Lit.int .i64 x).wf = true) : i64ok x := bounds_i64 h

set_option maxRecDepth 100000 in
set_option maxHeartbeats 800000 in
theorem open_op {n : Nat} {cs : List Value} {x : DataW H × List MemPlace} (h : DataW.trod enc Tryz.prog w base spare held n 29 cs = some x) : ∃ o : OpV, cs = o.cells ∧ o.Ok ∧ x.1 = o.data := by
  obtain ⟨xs, m, _, hx, hl, hlen, hf⟩ := DataW.trod_struct Tryz.underlying29 h
  rw [Tryz.cellsOp] at hl
  match cs, hl with
  | [c0, c1, c2, c3, c4, c5], _ =>
    have hlen' : xs.length = 6 := hlen
    match xs, hlen' with
    | [y0, y1, y2, y3, y4, y5], _ =>
      have h0 : DataW.trod enc Tryz.prog w base spare held m 3 [c0] = some y0 := by simpa [Tryz.cellsInt] using hf 0 _ rfl
      have h1 : DataW.trod enc Tryz.prog w base spare held m 3 [c1] = some y1 := by simpa [Tryz.cellsInt] using hf 1 _ rfl
      have h2 : DataW.trod enc Tryz.prog w base spare held m 3 [c2] = some y2 := by simpa [Tryz.cellsInt] using hf 2 _ rfl
      have h3 : DataW.trod enc Tryz.prog w base spare held m 3 [c3] = some y3 := by simpa [Tryz.cellsInt] using hf 3 _ rfl
      have h4 : DataW.trod enc Tryz.prog w base spare held m 9 [c4] = some y4 := by simpa [Tryz.cellsStr] using hf 4 _ rfl
      have h5 : DataW.trod enc Tryz.prog w base spare held m 9 [c5] = some y5 := by simpa [Tryz.cellsStr] using hf 5 _ rfl
      obtain ⟨k0, e0, rfl, w0⟩ := DataW.trod_int Tryz.underlying3 h0
      obtain ⟨k1, e1, rfl, w1⟩ := DataW.trod_int Tryz.underlying3 h1
      obtain ⟨k2, e2, rfl, w2⟩ := DataW.trod_int Tryz.underlying3 h2
      obtain ⟨k3, e3, rfl, w3⟩ := DataW.trod_int Tryz.underlying3 h3
      obtain ⟨s4, e4, rfl, w4⟩ := DataW.trod_string Tryz.underlying9 h4
      obtain ⟨s5, e5, rfl, w5⟩ := DataW.trod_string Tryz.underlying9 h5
      simp at e0 e1 e2 e3 e4 e5
      subst e0 e1 e2 e3 e4 e5
      exact ⟨⟨k0, k1, k2, k3, s4.data.toList, s5.data.toList⟩, rfl, ⟨i64_of_wf w0, i64_of_wf w1, i64_of_wf w2, i64_of_wf w3⟩, by rw [hx]; rfl⟩

theorem open_script {fuel : Nat} {ao : Option Addr} {len cap : Nat} {x : DataW H × List MemPlace} (h : DataW.trod enc Tryz.prog w 0 spare held fuel 22 [.slice ao len cap] = some x) :
    ∃ ops : List OpV, ops.length = len ∧ ScriptAt w ao ops ∧ (∀ o ∈ ops, o.Ok) ∧ ((ops = [] ∧ len = 0) ∨ ∃ sp, x.1 = .slice (ops.map OpV.data) sp) := by
  rcases open_slice Tryz.underlying22 h with ⟨hcs, _⟩ | ⟨a, len', cap', m, n, D, Pl, hcs, _, hl, hm, hm', hx, hel⟩
  · simp at hcs
    obtain ⟨rfl, rfl, rfl⟩ := hcs
    exact ⟨[], rfl, fun h => absurd rfl h, by simp, Or.inl ⟨rfl, rfl⟩⟩
  · simp at hcs
    obtain ⟨rfl, rfl, rfl⟩ := hcs
    have hlm : len ≤ m := by rw [hm']; split <;> omega
    have hex : ∀ i, i < len → ∃ o : OpV, w.cells? 0 (a.add (i * 6)) 6 = some o.cells ∧ o.Ok ∧ D i = o.data := by
      intro i hi
      obtain ⟨cs', h1, h2⟩ := hel i (by omega)
      rw [Tryz.cellsOp] at h1
      obtain ⟨o, rfl, h3, h4⟩ := open_op h2
      exact ⟨o, h1, h3, h4⟩
    obtain ⟨O, hO⟩ : ∃ O : Nat → OpV, ∀ i, i < len → w.cells? 0 (a.add (i * 6)) 6 = some (O i).cells ∧ (O i).Ok ∧ D i = (O i).data :=
      ⟨fun i => if h : i < len then Classical.choose (hex i h) else ⟨0, 0, 0, 0, [], []⟩, fun i hi => by
        simp only [hi, dif_pos]; exact Classical.choose_spec (hex i hi)⟩
    refine ⟨(List.range len).map O, by simp, ?_, ?_, Or.inr ⟨(List.range (m - len)).map fun j => D (len + j), ?_⟩⟩
    · intro hne
      have h0 : 0 < len := by
        rcases Nat.eq_zero_or_pos len with h0 | h0
        · subst h0; simp at hne
        · exact h0
      have hcell : ∀ k (hk : k < len) j (_ : j < 6) u, (O k).cells[j]? = some u → w.cell? ((a.add (k * 6)).add j) = some u := by
        intro k hk j hj u hu
        obtain ⟨_, hlen, hc⟩ := World.cells?_some (hO k hk).1
        rw [hc j (by omega)]; exact hu
      obtain ⟨b, off, spot⟩ := a
      have hsp : spot = none := by
        have h1 := hcell 0 h0 0 (by omega) _ rfl
        simpa [Addr.add] using World.cell?_spot h1
      subst hsp
      have hadd : ∀ k j, ((⟨b, off, none⟩ : Addr).add (k * 6)).add j = ⟨b, off + (k * 6 + j), none⟩ := by
        intro k j; rw [add_plain, add_plain, Nat.add_assoc]
      refine ⟨b, off, rfl, ?_, ?_⟩
      · have h1 := hcell 0 h0 0 (by omega) _ rfl
        exact World.block_lt_of_cell? w _ h1
      · intro k hk j hj u hu
        have hk' : k < len := by simpa using hk
        rw [← hadd]
        refine hcell k hk' j hj u ?_
        simpa using hu
    · intro o ho
      simp at ho
      obtain ⟨i, hi, rfl⟩ := ho
      exact (hO i hi).2.1
    · rw [hx]
      show DataW.slice _ _ = _
      congr 1
      rw [List.map_map]
      apply List.map_congr_left
      intro i hi
      exact (hO i (by simpa using hi)).2.2

theorem weightsAll_in {P : Program} {e : TypeId} : ∀ {l : List (DataW H)} {d : DataW H}, d ∈ l → ∀ n ∈ d.weights P e, n ∈ DataW.weightsAll P e l
  | d0 :: l, d, hd, n, hn => by
    simp only [DataW.weightsAll, List.mem_append]
    rcases List.mem_cons.1 hd with rfl | h
    · exact Or.inl hn
    · exact Or.inr (weightsAll_in h n hn)

set_option maxRecDepth 100000 in
theorem sized_script {ops : List OpV} {sp : List (DataW H)} (h : (DataW.weightsEach Tryz.prog [22] [.slice (ops.map OpV.data) sp]).all (· ≤ reachBytes) = true) : Sized ops ∧ ops.length ≤ 140737488355328 := by
  constructor
  · intro o ho
    have key : ∀ n ∈ (o.data : DataW H).weights Tryz.prog 29, n ≤ reachBytes := by
      intro n hn
      refine of_decide_eq_true (List.all_eq_true.1 h n (DataW.weights_mem_each (j := 0) rfl rfl n ?_))
      simp only [DataW.weights, Tryz.underlying22, List.mem_cons, List.mem_append]
      exact Or.inr (Or.inl (weightsAll_in (List.mem_map_of_mem ho) n hn))
    have hr : reachBytes < 2 ^ 47 := reachBytes_lt
    have k1 := key o.s.length (by simp [OpV.data, DataW.weights, DataW.weightsEach, Tryz.underlying29])
    have k2 := key o.t.length (by simp [OpV.data, DataW.weights, DataW.weightsEach, Tryz.underlying29])
    constructor <;> omega
  · have := sized_slice h (j := 0) (t := 22) (e := 29) rfl rfl Tryz.underlying22
    rw [Tryz.bytesOp] at this
    have hr : reachBytes < 2 ^ 47 := reachBytes_lt
    simp at this
    omega
end
end Go.Proofs.YtgipjjhkhfihpaaGreatDoor

namespace Go.Proofs.YtgipjjhkhfihpaaGreatDoor
open Go.ChangeShapes Go.WideShapes Go.ChangeAt Go.RowKit Go.Deep

/-- The listed tables lie where the program's own start laid them. -/
theorem door_met (os : Os) (args : Array Value) : laidMetH Tryz.prog Rows.loadsRow.laid ((World.doorLaid Tryz.prog 400 os).forCall (fun _ _ => 0) ⟨#[], args, []⟩).memory :=
  laidMetH_of_parts3 (fuel := 8) (laidMet_of_run' 8 (by kernel_rfl) (by kernel_rfl)) (by kernel_rfl) (by kernel_rfl)
end Go.Proofs.YtgipjjhkhfihpaaGreatDoor
