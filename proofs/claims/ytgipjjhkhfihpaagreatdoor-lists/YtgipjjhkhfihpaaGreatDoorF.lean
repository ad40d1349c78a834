import Derived.Test.YtgipjjhkhfihpaaGreatDoorE
import Derived.Test.YtgipjjhkhfihpaaGreatDoorB
import Derived.Deep.QuietTactic
import Derived.BigQuiet
import Derived.Test.YtgipjjhkhfihpaaGreatDoorRows
import Derived.ProofKit
import Derived.SizedLaws
import Derived.OpenShut
import Derived.Deep.Slices
namespace Go.Proofs.YtgipjjhkhfihpaaGreatDoor
open Go.RowKit

/-- The law's world: its seven cells. -/
def WAt (w : World) (bw : Nat) (text : List UInt8) (px pf : Option Addr) (proof : List UInt8) (c4 c5 c6 : Value) : Prop :=
  w.heap[bw]? = some (.cells #[S text, .pointer px, .pointer pf, S proof, c4, c5, c6] 48 (0, 0))
theorem WAt.later {w w' : World} {bw : Nat} {text : List UInt8} {px pf : Option Addr} {proof : List UInt8} {c4 c5 c6 : Value} (h : WAt w bw text px pf proof c4 c5 c6) (hb : Below w.heap.size w w') : WAt w' bw text px pf proof c4 c5 c6 :=
  (hb.block bw (blk_lt h)).trans h

/-- Both formulas, or none. -/
def FPair (lo : Nat) (w : World) (px pf : Option Addr) : Prop :=
  (px = none ∧ pf = none) ∨ ∃ b b' st q0, px = some ⟨b, 0, none⟩ ∧ pf = some ⟨b', 0, none⟩ ∧ ProgAt lo w b (qFinish q0) ∧ RefAt lo w b' (finish st) ∧ Same st q0 ∧ q0.cl.length ≤ 24 ∧ QNice q0

theorem RefAt.later {lo b : Nat} {w w' : World} {F : Form} (h : RefAt lo w b F) (hb : Below w.heap.size w w') : RefAt lo w' b F := by
  obtain ⟨h1, vO, vE, vC, h2, h3, h4, h5⟩ := h
  exact ⟨h1, vO, vE, vC, (hb.block b (blk_lt h2)).trans h2, own_below h3 hb, own_below h4 hb, own_below h5 hb⟩
theorem ProgAt.later {lo b : Nat} {w w' : World} {q : QS} (h : ProgAt lo w b q) (hb : Below w.heap.size w w') : ProgAt lo w' b q := by
  obtain ⟨h1, vV, vC, h2, h3, h4⟩ := h
  exact ⟨h1, vV, vC, (hb.block b (blk_lt h2)).trans h2, own_below h3 hb, own_below h4 hb⟩
/-- A store below lo. -/
theorem RefAt.set {lo b bw o : Nat} {w : World} {F : Form} {u : Value} (h : RefAt lo w b F) (hlt : bw < lo) : RefAt lo (w.setCell ⟨bw, o, none⟩ u) b F := by
  obtain ⟨h1, vO, vE, vC, h2, h3, h4, h5⟩ := h
  exact ⟨h1, vO, vE, vC, (Below.heap_setCell _ _ _ _ (by show b ≠ bw; omega)).trans h2, ownsRow_setCell_below h3 (a := ⟨bw, o, none⟩) hlt u, ownsRow_setCell_below h4 (a := ⟨bw, o, none⟩) hlt u, ownsRow_setCell_below h5 (a := ⟨bw, o, none⟩) hlt u⟩
theorem ProgAt.set {lo b bw o : Nat} {w : World} {q : QS} {u : Value} (h : ProgAt lo w b q) (hlt : bw < lo) : ProgAt lo (w.setCell ⟨bw, o, none⟩ u) b q := by
  obtain ⟨h1, vV, vC, h2, h3, h4⟩ := h
  exact ⟨h1, vV, vC, (Below.heap_setCell _ _ _ _ (by show b ≠ bw; omega)).trans h2, ownsRow_setCell_below h3 (a := ⟨bw, o, none⟩) hlt u, ownsRow_setCell_below h4 (a := ⟨bw, o, none⟩) hlt u⟩
theorem FPair.set {lo bw o : Nat} {w : World} {px pf : Option Addr} {u : Value} (h : FPair lo w px pf) (hlt : bw < lo) : FPair lo (w.setCell ⟨bw, o, none⟩ u) px pf := by
  rcases h with h | ⟨b, b', st, q0, h1, h2, h3, h4, h5⟩
  · exact Or.inl h
  · exact Or.inr ⟨b, b', st, q0, h1, h2, h3.set hlt, h4.set hlt, h5⟩
theorem ProgAt.lo {lo lo' b : Nat} {w : World} {q : QS} (h : ProgAt lo w b q) (hl : lo' ≤ lo) : ProgAt lo' w b q := by
  obtain ⟨h1, vV, vC, h2, h3, h4⟩ := h
  exact ⟨by omega, vV, vC, h2, own_lo h3 hl, own_lo h4 hl⟩
theorem RefAt.lo {lo lo' b : Nat} {w : World} {F : Form} (h : RefAt lo w b F) (hl : lo' ≤ lo) : RefAt lo' w b F := by
  obtain ⟨h1, vO, vE, vC, h2, h3, h4, h5⟩ := h
  exact ⟨by omega, vO, vE, vC, h2, own_lo h3 hl, own_lo h4 hl, own_lo h5 hl⟩

/-- A block that is below lo, or of none of these types. -/
def Foreign (lo : Nat) (w : World) (ts : List TypeId) (k : Nat) : Prop := k < lo ∨ ∃ cs t fr, w.heap[k]? = some (.cells cs t fr) ∧ t ∉ ts
theorem own_only {w w' : World} {T : Nat → Prop} {base : Nat} {e : TypeId} {size : Nat} {v : Value} {n : Nat} {xs : List Value} {ts : List TypeId} (h : w.ownsRow base e size v n xs) (ho : Only T w w') (he : e ∈ ts) (hT : ∀ k, k < w.heap.size → T k → Foreign base w ts k) : w'.ownsRow base e size v n xs := by
  obtain ⟨h1, h2⟩ := h
  refine ⟨h1, ?_⟩
  rcases h2 with h2 | ⟨g, cap, cur, rfl, hg, hh, h3⟩
  · exact Or.inl h2
  · refine Or.inr ⟨g, cap, cur, rfl, hg, ?_, h3⟩
    rw [ho.block g (blk_lt hh) (fun ht => ?_)]
    · exact hh
    · rcases hT g (blk_lt hh) ht with h | ⟨cs, t, fr, h4, h5⟩
      · omega
      · rw [hh] at h4
        simp at h4
        exact h5 (h4.2.1 ▸ he)
theorem blk_only {w w' : World} {T : Nat → Prop} {lo b : Nat} {cs : Array Value} {t : TypeId} {fr : Nat × Nat} {ts : List TypeId} (h : w.heap[b]? = some (.cells cs t fr)) (hlo : lo ≤ b) (ho : Only T w w') (he : t ∈ ts) (hT : ∀ k, k < w.heap.size → T k → Foreign lo w ts k) : w'.heap[b]? = some (.cells cs t fr) := by
  rw [ho.block b (blk_lt h) (fun ht => ?_)]
  · exact h
  · rcases hT b (blk_lt h) ht with h1 | ⟨cs', t', fr', h4, h5⟩
    · omega
    · rw [h] at h4
      simp at h4
      exact h5 (h4.2.1 ▸ he)
def formTypes : List TypeId := [64, 139, 74, 92, 3, 121]
theorem ProgAt.only {lo b : Nat} {w w' : World} {q : QS} {T : Nat → Prop} (h : ProgAt lo w b q) (ho : Only T w w') (hT : ∀ k, k < w.heap.size → T k → Foreign lo w formTypes k) : ProgAt lo w' b q := by
  obtain ⟨h1, vV, vC, h2, h3, h4⟩ := h
  exact ⟨h1, vV, vC, blk_only h2 h1 ho (by decide) hT, own_only h3 ho (by decide) hT, own_only h4 ho (by decide) hT⟩
theorem RefAt.only {lo b : Nat} {w w' : World} {F : Form} {T : Nat → Prop} (h : RefAt lo w b F) (ho : Only T w w') (hT : ∀ k, k < w.heap.size → T k → Foreign lo w formTypes k) : RefAt lo w' b F := by
  obtain ⟨h1, vO, vE, vC, h2, h3, h4, h5⟩ := h
  exact ⟨h1, vO, vE, vC, blk_only h2 h1 ho (by decide) hT, own_only h3 ho (by decide) hT, own_only h4 ho (by decide) hT, own_only h5 ho (by decide) hT⟩
theorem FPair.only {lo : Nat} {w w' : World} {px pf : Option Addr} {T : Nat → Prop} (h : FPair lo w px pf) (ho : Only T w w') (hT : ∀ k, k < w.heap.size → T k → Foreign lo w formTypes k) : FPair lo w' px pf := by
  rcases h with h | ⟨b, b', st, q0, h1, h2, h3, h4, h5⟩
  · exact Or.inl h
  · exact Or.inr ⟨b, b', st, q0, h1, h2, h3.only ho hT, h4.only ho hT, h5⟩
theorem FPair.lo {lo lo' : Nat} {w : World} {px pf : Option Addr} (h : FPair lo w px pf) (hl : lo' ≤ lo) : FPair lo' w px pf := by
  rcases h with h | ⟨b, b', st, q0, h1, h2, h3, h4, h5⟩
  · exact Or.inl h
  · exact Or.inr ⟨b, b', st, q0, h1, h2, h3.lo hl, h4.lo hl, h5⟩

def LoadsPost (bw : Nat) (text proof : List UInt8) (c4 c5 c6 : Value) (w : World) (e : Ending) (w' : World) : Prop :=
  e = .returned (.bool true) ∧ Only (· = bw) w w' ∧ ∃ px pf, WAt w' bw text px pf proof c4 c5 c6 ∧ FPair w.heap.size w' px pf

set_option maxRecDepth 100000 in
set_option maxHeartbeats 1600000 in
theorem loads_any (bw : Nat) (text : List UInt8) (px pf : Option Addr) (proof : List UInt8) (c4 c5 c6 : Value) (w : World) (hw : WAt w bw text px pf proof c4 c5 c6) :
    Calls Tryz.prog 27 #[.pointer (some ⟨bw, 0, none⟩)] w fun e w' => LoadsPost bw text proof c4 c5 c6 w e w' := by
  have hbw : bw < w.heap.size := blk_lt hw
  have h0 : w.cell? ⟨bw, 0, none⟩ = some (S text) := by rw [blk_cell hw]; rfl
  go_enter Tryz.func27, Tryz.ntmps27
  go_wp2_with fail
  refine (load_any text w).mono ?_
  rintro e w1 ⟨hb1, hp1⟩
  have hw1 := hw.later hb1
  have h1 : w1.cell? ⟨bw, 0, none⟩ = some (S text) := by rw [blk_cell hw1]; rfl
  have hse := spec_eq text
  cases hq : loadSpec text with
  | inl a =>
    obtain ⟨x, i⟩ := a
    rw [hq] at hp1 hse
    have hp1' : e = .returned (.tuple #[.pointer none, .int .i64 (x : Int), .int .i64 (i : Int)]) := hp1
    subst hp1'
    have HSE : Hid (readSpec text = .inl (x, i)) := hide hse
    clear hse hq hp1
    go_wp2_with fail
    refine (read_all text w1).mono ?_
    rintro e w2 ⟨hb2, hp2⟩
    rw [unhide HSE] at hp2
    have hp2' : e = .returned (.tuple #[.pointer none, .int .i64 (x : Int), .int .i64 (i : Int)]) := hp2
    subst hp2'
    clear hp2
    have hw2 := hw1.later hb2
    have k1 : w2.cell? ⟨bw, 1, none⟩ = some (.pointer px) := by rw [blk_cell hw2]; rfl
    have k2 : w2.cell? ⟨bw, 2, none⟩ = some (.pointer pf) := by rw [blk_cell hw2]; rfl
    have z1 := blk_free hw2 1
    have z2 := blk_free hw2 2
    have hx : ((x : Int) != (x : Int)) = false := by simp
    have hi : ((i : Int) != (i : Int)) = false := by simp
    go_wp2_with fail
    go_ret
    refine ⟨rfl, (((Only.of_below (below_trans hb1 hb2)).setAt _ _).setAt _ _), none, none, ?_, Or.inl ⟨rfl, rfl⟩⟩
    exact blk_set (blk_set hw2 1 _) 2 _
  | inr q =>
    rw [hq] at hp1 hse
    obtain ⟨b, rfl, hP⟩ := hp1
    obtain ⟨st, q0, hse, hsame, rfl, h24⟩ := hse
    have HSE := hide hse
    clear hse hq
    go_wp2_with fail
    refine (read_all text w1).mono ?_
    rintro e w2 ⟨hb2, hp2⟩
    rw [unhide HSE] at hp2
    obtain ⟨b', rfl, hR⟩ := hp2
    have hw2 := hw1.later hb2
    have hP2 := hP.later hb2
    have hR2 := hR.lo (lo' := w.heap.size) hb1.size
    have hFP : FPair w.heap.size w2 (some ⟨b, 0, none⟩) (some ⟨b', 0, none⟩) := Or.inr ⟨b, b', st, q0, rfl, rfl, hP2, hR2, hsame, h24⟩
    have k1 : w2.cell? ⟨bw, 1, none⟩ = some (.pointer px) := by rw [blk_cell hw2]; rfl
    have k2 : w2.cell? ⟨bw, 2, none⟩ = some (.pointer pf) := by rw [blk_cell hw2]; rfl
    have z1 := blk_free hw2 1
    have z2 := blk_free hw2 2
    go_wp2_with fail
    go_ret
    refine ⟨rfl, (((((Only.of_below (below_trans hb1 hb2)).setAt _ _).setAt _ _).setAt _ _).setAt _ _), some ⟨b, 0, none⟩, some ⟨b', 0, none⟩, ?_, (((hFP.set hbw).set hbw).set hbw).set hbw⟩
    exact blk_set (blk_set (blk_set (blk_set hw2 1 _) 2 _) 1 _) 2 _

set_option maxRecDepth 100000 in
set_option maxHeartbeats 400000 in
theorem pick_any (c : Int) (n : Nat) (w : World) (hn : 0 < n) (hn2 : n ≤ 1048576) (h1 : -9223372036854775808 ≤ c) (h2 : c ≤ 9223372036854775807) :
    Calls Tryz.prog 29 #[.int .i64 c, .int .i64 n] w fun e w' => ∃ r : Nat, e = .returned (.int .i64 r) ∧ r < n ∧ w' = w := by
  by_cases hc : c < 0
  · have hd : decide (c < 0) = true := by simpa using hc
    go_enter Tryz.func29, Tryz.ntmps29
    go_wp2_with fail
    go_ret
    have e : -((c + 1).tmod n) = (-(c + 1)) % n := by rw [← Int.neg_tmod, Int.tmod_eq_emod_of_nonneg (by omega)]
    have e1 := Int.emod_nonneg (-(c + 1)) (show (n : Int) ≠ 0 by omega)
    have e2 := Int.emod_lt_of_pos (-(c + 1)) (show (0 : Int) < n by omega)
    refine ⟨((-(c + 1)) % n).toNat, ret_int ?_, by omega, rfl⟩
    omega
  · have hd : decide (c < 0) = false := by simpa using hc
    go_enter Tryz.func29, Tryz.ntmps29
    go_wp2_with fail
    go_ret
    refine ⟨(c % n).toNat, ?_, ?_, rfl⟩
    · refine ret_int ?_
      have := Int.emod_nonneg c (show (n : Int) ≠ 0 by omega)
      omega
    · have := Int.emod_nonneg c (show (n : Int) ≠ 0 by omega)
      have := Int.emod_lt_of_pos c (show (0 : Int) < n by omega)
      omega

def BendPost (bw : Nat) (text : List UInt8) (px pf : Option Addr) (proof : List UInt8) (c4 c5 c6 : Value) (w : World) (e : Ending) (w' : World) : Prop :=
  e = .returned (.tuple #[]) ∧ Only (· = bw) w w' ∧ ∃ proof' : List UInt8, proof'.length ≤ proof.length ∧ WAt w' bw text px pf proof' c4 c5 c6

theorem WAt.setProof {w : World} {bw : Nat} {text : List UInt8} {px pf : Option Addr} {proof : List UInt8} {c4 c5 c6 : Value} (h : WAt w bw text px pf proof c4 c5 c6) (proof' : List UInt8) : WAt (w.setCell ⟨bw, 3, none⟩ (S proof')) bw text px pf proof' c4 c5 c6 := blk_set h 3 _

set_option maxRecDepth 100000 in
set_option maxHeartbeats 1600000 in
theorem bend_any (bw : Nat) (text : List UInt8) (px pf : Option Addr) (proof : List UInt8) (c4 c5 c6 : Value) (a c : Int) (w : World) (hw : WAt w bw text px pf proof c4 c5 c6) (hpl : proof.length ≤ 1048576)
    (ha1 : -9223372036854775808 ≤ a) (ha2 : a ≤ 9223372036854775807) (hc1 : -9223372036854775808 ≤ c) (hc2 : c ≤ 9223372036854775807) :
    Calls Tryz.prog 28 #[.pointer (some ⟨bw, 0, none⟩), .int .i64 a, .int .i64 c] w fun e w' => BendPost bw text px pf proof c4 c5 c6 w e w' := by
  have hbw : bw < w.heap.size := blk_lt hw
  have h3 : w.cell? ⟨bw, 3, none⟩ = some (S proof) := by rw [blk_cell hw]; rfl
  have z3 := blk_free hw 3
  by_cases hp : proof = []
  · subst hp
    go_enter Tryz.func28, Tryz.ntmps28
    go_wp2_with fail
    go_end0
    exact ⟨rfl, Only.refl _ _, [], Nat.le_refl _, hw⟩
  · have hp0 : 0 < proof.length := List.length_pos_iff.2 hp
    have hpe : proof.isEmpty = false := by simpa using hp
    clear hp
    go_enter Tryz.func28, Tryz.ntmps28
    go_wp2_with fail
    refine (pick_any a proof.length w hp0 hpl ha1 ha2).mono ?_
    rintro e w1 ⟨r, rfl, hr, hw1⟩
    subst hw1
    have hr1 : r + 1 ≤ proof.length := by omega
    by_cases hc : c < 0
    · have hd : decide (0 ≤ c) = false := by simp; omega
      have HE : Hid (ByteArray.extract ⟨proof.toArray⟩ 0 r ++ ⟨#[]⟩ ++ ByteArray.extract ⟨proof.toArray⟩ (r + 1) proof.length = ⟨((proof.drop 0).take (r - 0) ++ [] ++ (proof.drop (r + 1)).take (proof.length - (r + 1))).toArray⟩) := hide (by
        rw [ba_extract, ba_extract, show (ByteArray.mk #[]) = ByteArray.mk ([] : List UInt8).toArray from rfl, ba_append, ba_append])
      go_wp2_with fail
      go_region
      all_goals go_wp2_with fail
      all_goals go_end0
      all_goals
        rw [unhide HE]
        refine ⟨rfl, ((Only.refl _ _).setAt _ _).drew, _, ?_, (hw.setProof _).later ((Below.refl _ _).drew)⟩
        simp; omega
    · have hd : decide (0 ≤ c) = true := by simp; omega
      have hcv := conv_byte (c % 256) (by omega) (by omega) w1
      have HE : Hid (∀ x : UInt8, ByteArray.extract ⟨proof.toArray⟩ 0 r ++ ⟨#[x]⟩ ++ ByteArray.extract ⟨proof.toArray⟩ (r + 1) proof.length = ⟨((proof.drop 0).take (r - 0) ++ [x] ++ (proof.drop (r + 1)).take (proof.length - (r + 1))).toArray⟩) := hide (by
        intro x
        rw [ba_extract, ba_extract, show (ByteArray.mk #[x]) = ByteArray.mk ([x] : List UInt8).toArray from rfl, ba_append, ba_append])
      go_wp2_with fail
      go_region
      all_goals go_wp2_with fail
      all_goals go_end0
      all_goals
        rw [unhide HE]
        refine ⟨rfl, (((Only.refl _ _).setAt _ _).alloc _).drew, _, ?_, (hw.setProof _).later (((Below.refl _ _).alloc (Nat.le_refl _) _).drew)⟩
        simp; omega

/-- The lists that were handed out are none yet. -/
theorem looks_none (bw : Nat) (text : List UInt8) (px pf : Option Addr) (proof : List UInt8) (c4 : Value) (w : World) (hw : WAt w bw text px pf proof c4 (.slice none 0 0) (.slice none 0 0)) :
    Calls Tryz.prog 20 #[.pointer (some ⟨bw, 0, none⟩)] w fun e w' => e = .returned (.bool true) ∧ w' = w := by
  have h5 : w.cell? ⟨bw, 5, none⟩ = some (.slice none 0 0) := by rw [blk_cell hw]; rfl
  have h6 : w.cell? ⟨bw, 6, none⟩ = some (.slice none 0 0) := by rw [blk_cell hw]; rfl
  go_enter Tryz.func20, Tryz.ntmps20
  go_wp2_with fail
  refine wp_loop_rounds 1 ?_
  rw [rounds_succ]
  go_wp2_with fail
  refine wp_loop_rounds 1 ?_
  rw [rounds_succ]
  go_wp2_with fail
  go_ret
  exact ⟨rfl, rfl⟩
end Go.Proofs.YtgipjjhkhfihpaaGreatDoor

namespace Go.Proofs.YtgipjjhkhfihpaaGreatDoor
open Go.RowKit

/-- One step of a script. -/
structure OpV where
  kind : Int
  a : Int
  b : Int
  c : Int
  s : List UInt8
  t : List UInt8
def OpV.cells (o : OpV) : List Value := [.int .i64 o.kind, .int .i64 o.a, .int .i64 o.b, .int .i64 o.c, S o.s, S o.t]
def i64ok (x : Int) : Prop := -9223372036854775808 ≤ x ∧ x ≤ 9223372036854775807
structure OpV.Ok (o : OpV) : Prop where
  kind : i64ok o.kind
  a : i64ok o.a
  b : i64ok o.b
  c : i64ok o.c

def StepPost (bw : Nat) (text proof : List UInt8) (o : OpV) (c4 c5 c6 : Value) (w : World) (e : Ending) (w' : World) : Prop :=
  e = .returned (.bool true) ∧ Only (· = bw) w w' ∧ ∃ text' px' pf' proof', WAt w' bw text' px' pf' proof' c4 c5 c6 ∧ text'.length ≤ text.length + o.s.length + 1 ∧ proof'.length ≤ proof.length + o.s.length + 1 ∧ FPair (bw + 1) w' px' pf'
theorem here_foreign {bw : Nat} {w : World} {ts : List TypeId} : ∀ k, k < w.heap.size → k = bw → Foreign (bw + 1) w ts k := fun k _ e => Or.inl (by omega)

theorem Only.pre {T : Nat → Prop} {a b c : World} (h : Below a.heap.size a b) (k : Only T b c) : Only T a c := (Only.of_below h).trans k

set_option maxRecDepth 100000 in
set_option maxHeartbeats 1600000 in
theorem step_text (bw : Nat) (text : List UInt8) (px pf : Option Addr) (proof : List UInt8) (o : OpV) (c4 c5 c6 : Value) (w : World) (hw : WAt w bw text px pf proof c4 c5 c6) (_hF : FPair (bw + 1) w px pf) (hk : o.kind = 1) :
    Calls Tryz.prog 19 #[.pointer (some ⟨bw, 0, none⟩), .agg #[.int .i64 o.kind, .int .i64 o.a, .int .i64 o.b, .int .i64 o.c, S o.s, S o.t]] w fun e w' => StepPost bw text proof o c4 c5 c6 w e w' := by
  obtain ⟨kind, a, b, c, s, t⟩ := o
  dsimp only at hk ⊢
  subst hk
  have hbw : bw < w.heap.size := blk_lt hw
  have h0 : w.cell? ⟨bw, 0, none⟩ = some (S text) := by rw [blk_cell hw]; rfl
  have z0 := blk_free hw 0
  go_enter Tryz.func19, Tryz.ntmps19
  go_wp2_with fail
  have hw1 : WAt (w.setCell ⟨bw, 0, none⟩ (S s)) bw s px pf proof c4 c5 c6 := blk_set hw 0 _
  refine (loads_any bw s px pf proof c4 c5 c6 _ (hw1.later ((Below.refl _ _).alloc (Nat.le_refl _) _))).mono ?_
  rintro e w2 ⟨rfl, ho, px', pf', hw2, hF2⟩
  go_wp2_with fail
  go_ret
  refine ⟨rfl, ?_, s, px', pf', proof, hw2, by simp; omega, by simp; omega, hF2.lo (by simp; omega)⟩
  exact (((Only.refl _ w).setAt 0 (S s)).alloc _).trans (ho.mono (fun k _ h => h))

set_option maxRecDepth 100000 in
set_option maxHeartbeats 1600000 in
theorem step_line (bw : Nat) (text : List UInt8) (px pf : Option Addr) (proof : List UInt8) (o : OpV) (c4 c5 c6 : Value) (w : World) (hw : WAt w bw text px pf proof c4 c5 c6) (_hF : FPair (bw + 1) w px pf) (hk : o.kind = 2) (htl : text.length ≤ 1048576) (hsl : o.s.length ≤ 1048576) :
    Calls Tryz.prog 19 #[.pointer (some ⟨bw, 0, none⟩), .agg #[.int .i64 o.kind, .int .i64 o.a, .int .i64 o.b, .int .i64 o.c, S o.s, S o.t]] w fun e w' => StepPost bw text proof o c4 c5 c6 w e w' := by
  obtain ⟨kind, a, b, c, s, t⟩ := o
  dsimp only at hk hsl ⊢
  subst hk
  have hbw : bw < w.heap.size := blk_lt hw
  have h0 : w.cell? ⟨bw, 0, none⟩ = some (S text) := by rw [blk_cell hw]; rfl
  have z0 := blk_free hw 0
  have HE : Hid (ByteArray.mk text.toArray ++ ByteArray.mk s.toArray ++ ⟨#[10]⟩ = ⟨(text ++ s ++ [10]).toArray⟩) := hide (by
    rw [ba_append text s]; exact ba_append (text ++ s) [10])
  go_enter Tryz.func19, Tryz.ntmps19
  go_wp2_with fail
  go_region
  all_goals go_wp2_with fail
  have hw1 : WAt (w.setCell ⟨bw, 0, none⟩ (S (text ++ s ++ [10]))) bw (text ++ s ++ [10]) px pf proof c4 c5 c6 := blk_set hw 0 _
  all_goals
    rw [unhide HE]
    refine (loads_any bw (text ++ s ++ [10]) px pf proof c4 c5 c6 _ (hw1.later (((Below.refl _ _).alloc (Nat.le_refl _) _).drew))).mono ?_
    rintro e w2 ⟨rfl, ho, px', pf', hw2, hF2⟩
    go_wp2_with fail
    go_ret
    refine ⟨rfl, ?_, _, px', pf', proof, hw2, by simp; omega, by simp; omega, hF2.lo (by simp; omega)⟩
    exact ((((Only.refl _ w).setAt 0 (S (text ++ s ++ [10]))).alloc _).drew).trans (ho.mono (fun k _ h => h))

set_option maxRecDepth 100000 in
set_option maxHeartbeats 1600000 in
theorem step_proof (bw : Nat) (text : List UInt8) (px pf : Option Addr) (proof : List UInt8) (o : OpV) (c4 c5 c6 : Value) (w : World) (hw : WAt w bw text px pf proof c4 c5 c6) (hF : FPair (bw + 1) w px pf) (hk : o.kind = 4) :
    Calls Tryz.prog 19 #[.pointer (some ⟨bw, 0, none⟩), .agg #[.int .i64 o.kind, .int .i64 o.a, .int .i64 o.b, .int .i64 o.c, S o.s, S o.t]] w fun e w' => StepPost bw text proof o c4 c5 c6 w e w' := by
  obtain ⟨kind, a, b, c, s, t⟩ := o
  dsimp only at hk ⊢
  subst hk
  have hbw : bw < w.heap.size := blk_lt hw
  have h3 : w.cell? ⟨bw, 3, none⟩ = some (S proof) := by rw [blk_cell hw]; rfl
  have z3 := blk_free hw 3
  go_enter Tryz.func19, Tryz.ntmps19
  go_wp2_with fail
  go_ret
  have ho := ((Only.refl (· = bw) w).setAt 3 (S s)).alloc (.cells #[.int .i64 4, .int .i64 a, .int .i64 b, .int .i64 c, S s, S t] 29)
  refine ⟨rfl, ho, text, px, pf, s, (hw.setProof s).later ((Below.refl _ _).alloc (Nat.le_refl _) _), by simp; omega, by simp; omega, hF.only ho here_foreign⟩

set_option maxRecDepth 100000 in
set_option maxHeartbeats 1600000 in
theorem step_bend (bw : Nat) (text : List UInt8) (px pf : Option Addr) (proof : List UInt8) (o : OpV) (c4 c5 c6 : Value) (w : World) (hw : WAt w bw text px pf proof c4 c5 c6) (hF : FPair (bw + 1) w px pf) (hk : o.kind = 5) (hok : o.Ok) (hpl : proof.length ≤ 1048576) :
    Calls Tryz.prog 19 #[.pointer (some ⟨bw, 0, none⟩), .agg #[.int .i64 o.kind, .int .i64 o.a, .int .i64 o.b, .int .i64 o.c, S o.s, S o.t]] w fun e w' => StepPost bw text proof o c4 c5 c6 w e w' := by
  obtain ⟨kind, a, b, c, s, t⟩ := o
  obtain ⟨_, ⟨ha1, ha2⟩, _, ⟨hc1, hc2⟩⟩ := hok
  dsimp only at hk ha1 ha2 hc1 hc2 ⊢
  subst hk
  have hbw : bw < w.heap.size := blk_lt hw
  go_enter Tryz.func19, Tryz.ntmps19
  go_wp2_with fail
  refine (bend_any bw text px pf proof c4 c5 c6 a c _ (hw.later ((Below.refl _ _).alloc (Nat.le_refl _) _)) hpl ha1 ha2 hc1 hc2).mono ?_
  rintro e w2 ⟨rfl, ho, proof', hpl', hw2⟩
  go_wp2_with fail
  go_ret
  have ho3 := ((Only.refl (· = bw) w).alloc (.cells #[.int .i64 5, .int .i64 a, .int .i64 b, .int .i64 c, S s, S t] 29)).trans ho
  exact ⟨rfl, ho3, text, px, pf, proof', hw2, by simp; omega, by simp; omega, hF.only ho3 here_foreign⟩

/-- The kinds of steps that only turn texts. -/
def base4 (k : Int) : Bool := k == 1 || k == 2 || k == 4 || k == 5
theorem step_base (bw : Nat) (text : List UInt8) (px pf : Option Addr) (proof : List UInt8) (o : OpV) (c4 c5 c6 : Value) (w : World) (hw : WAt w bw text px pf proof c4 c5 c6) (hF : FPair (bw + 1) w px pf) (hk : base4 o.kind = true)
    (hok : o.Ok) (hpl : proof.length ≤ 1048576) (htl : text.length ≤ 1048576) (hsl : o.s.length ≤ 1048576) :
    Calls Tryz.prog 19 #[.pointer (some ⟨bw, 0, none⟩), .agg #[.int .i64 o.kind, .int .i64 o.a, .int .i64 o.b, .int .i64 o.c, S o.s, S o.t]] w fun e w' => StepPost bw text proof o c4 c5 c6 w e w' := by
  unfold base4 at hk
  simp only [Bool.or_eq_true, beq_iff_eq] at hk
  rcases hk with ((hk | hk) | hk) | hk
  · exact step_text bw text px pf proof o c4 c5 c6 w hw hF hk
  · exact step_line bw text px pf proof o c4 c5 c6 w hw hF hk htl hsl
  · exact step_proof bw text px pf proof o c4 c5 c6 w hw hF hk
  · exact step_bend bw text px pf proof o c4 c5 c6 w hw hF hk hok hpl

def opCells (l : List OpV) : List Value := l.flatMap OpV.cells
theorem opCells_length (l : List OpV) : (opCells l).length = l.length * 6 := by
  induction l with
  | nil => rfl
  | cons a l ih => simp [opCells, OpV.cells] at *; omega
theorem opCells_snoc (l : List OpV) (o : OpV) : opCells (l ++ [o]) = opCells l ++ o.cells := by simp [opCells]
theorem opCells_at (l : List OpV) (k j : Nat) (h : k < l.length) (hj : j < 6) : (opCells l)[k * 6 + j]? = l[k].cells[j]? := by
  induction l generalizing k with
  | nil => simp at h
  | cons a l ih =>
    cases k with
    | zero =>
      simp only [opCells, List.flatMap_cons]
      rw [List.getElem?_append_left (by simp [OpV.cells]; omega)]
      simp
    | succ k =>
      have := ih k (by simpa using h)
      simp only [opCells, List.flatMap_cons] at this ⊢
      rw [show (k + 1) * 6 + j = k * 6 + j + 6 from by omega, List.getElem?_append_right (by simp [OpV.cells])]
      simpa [OpV.cells] using this
def sizeTo (l : List OpV) (k : Nat) : Nat := ((l.take k).map (fun o => o.s.length + 1)).sum
theorem sizeTo_succ (l : List OpV) (k : Nat) (h : k < l.length) : sizeTo l (k + 1) = sizeTo l k + (l[k].s.length + 1) := by
  unfold sizeTo
  rw [List.take_succ_eq_append_getElem h, List.map_append, List.sum_append]
  simp only [List.map_cons, List.map_nil, List.sum_cons, List.sum_nil, Nat.add_zero]
theorem sizeTo_le (l : List OpV) (k : Nat) (_h : k ≤ l.length) : sizeTo l k ≤ sizeTo l l.length := by
  have e : l.take l.length = l.take k ++ l.drop k := by rw [List.take_length, List.take_append_drop]
  unfold sizeTo
  rw [e, List.map_append, List.sum_append]
  omega

set_option maxRecDepth 100000 in
set_option maxHeartbeats 3200000 in
theorem upTo_base (base : Nat) (ops : List OpV) (v : Value) (w : World) (hown : w.ownsRow base 29 6 v ops.length (opCells ops)) (hall : ∀ o ∈ ops, base4 o.kind = true ∧ o.Ok) (hsz : sizeTo ops ops.length ≤ 1048576) (hln : ops.length ≤ 1048576) :
    Calls Tryz.prog 14 #[v] w fun e w' => e = .returned (.int .i64 (-1)) ∧ Below w.heap.size w w' := by
  obtain ⟨aS, cS, rfl⟩ := own_form hown
  have HALL := hide hall; clear hall
  go_enter Tryz.func14, Tryz.ntmps14
  go_wp2_with fail
  go_loopg [4] (ops.length) (fun n i wx => ∃ (k : Nat) (text : List UInt8) (px pf : Option Addr) (proof : List UInt8), i = .int .i64 k ∧ k + n = ops.length ∧ WAt wx w.heap.size text px pf proof (.slice none 0 0) (.slice none 0 0) (.slice none 0 0) ∧
    text.length ≤ sizeTo ops k ∧ proof.length ≤ sizeTo ops k ∧ Below w.heap.size w wx ∧ FPair (w.heap.size + 1) wx px pf)
  case atStart => exact ⟨0, [], none, none, [], rfl, by omega, heap_alloc_new _ _, by simp, by simp, (Below.refl _ _).alloc (Nat.le_refl _) _, Or.inl ⟨rfl, rfl⟩⟩
  case round =>
    obtain ⟨k, text, px, pf, proof, rfl, hk, hw, htl, hpl, hb, hF⟩ := hrel
    by_cases hlt : k < ops.length
    · obtain ⟨g, cap, hV, hg, hg', _, hcell⟩ := own_pos hown (by omega)
      injection hV with hV _ hV2
      subst hV hV2
      have hc : ∀ j (hj : j < 6) u, ops[k].cells[j]? = some u → wr.cell? ⟨g, k * 6 + j, none⟩ = some u := fun j hj u hu => by
        rw [hb.cell (p := ⟨g, k * 6 + j, none⟩) hg']
        exact hcell _ _ (by rw [opCells_at ops k j hlt hj]; exact hu)
      have hc0 : wr.cell? ⟨g, k * 6, none⟩ = some (.int .i64 ops[k].kind) := hc 0 (by omega) _ rfl
      have hc1 : wr.cell? ⟨g, k * 6 + 1, none⟩ = some (.int .i64 ops[k].a) := hc 1 (by omega) _ rfl
      have hc2 : wr.cell? ⟨g, k * 6 + 2, none⟩ = some (.int .i64 ops[k].b) := hc 2 (by omega) _ rfl
      have hc3 : wr.cell? ⟨g, k * 6 + 3, none⟩ = some (.int .i64 ops[k].c) := hc 3 (by omega) _ rfl
      have hc4 : wr.cell? ⟨g, k * 6 + 4, none⟩ = some (S ops[k].s) := hc 4 (by omega) _ rfl
      have hc5 : wr.cell? ⟨g, k * 6 + 5, none⟩ = some (S ops[k].t) := hc 5 (by omega) _ rfl
      obtain ⟨hbase, hok⟩ := unhide HALL _ (List.getElem_mem hlt)
      have hss := sizeTo_succ ops k hlt
      have hsl := sizeTo_le ops (k + 1) (by omega)
      have hl1 : ops[k].s.length ≤ 1048576 := by omega
      have hl2 : text.length ≤ 1048576 := by omega
      have hl3 : proof.length ≤ 1048576 := by omega
      have HSS := hide hss
      have HB := hide hbase
      clear hc hcell hss hbase
      generalize ops[k] = o at *
      go_wp2_with fail
      refine (step_base w.heap.size text px pf proof o _ _ _ wr hw hF (unhide HB) hok hl3 hl2 hl1).mono ?_
      rintro e w2 ⟨rfl, ho, text', px', pf', proof', hw2, ht2, hp2, hF2⟩
      have hb2 : Below w.heap.size w w2 := hb.trans (ho.below hb.size (fun k hk h => by omega))
      go_wp2_with fail
      refine (looks_none w.heap.size text' px' pf' proof' _ w2 hw2).mono ?_
      rintro e w3 ⟨rfl, hw3⟩
      subst hw3
      go_wp2_with fail
      go_roundg (gk - 1)
      case measure => omega
      case rel =>
        have := unhide HSS
        exact ⟨k + 1, text', px', pf', proof', by go_num, by omega, hw2, by omega, by omega, hb2, hF2⟩
    · have hkl : k = ops.length := by omega
      subst hkl
      have h4 : wr.cell? ⟨w.heap.size, 4, none⟩ = some (.slice none 0 0) := by rw [blk_cell hw]; rfl
      go_wp2_with fail
      refine wp_loop_rounds 1 ?_
      rw [rounds_succ]
      go_wp2_with fail
      go_ret
      exact ⟨rfl, hb⟩
end Go.Proofs.YtgipjjhkhfihpaaGreatDoor

namespace Go.Proofs.YtgipjjhkhfihpaaGreatDoor
open Go.RowKit

/-- A script lies at an address. -/
def ScriptAt (w : World) (ao : Option Addr) (ops : List OpV) : Prop :=
  ops ≠ [] → ∃ b off, ao = some ⟨b, off, none⟩ ∧ b < w.heap.size ∧ ∀ k (hk : k < ops.length) j (_ : j < 6) u, ops[k].cells[j]? = some u → w.cell? ⟨b, off + (k * 6 + j), none⟩ = some u
theorem ScriptAt.cells {w wr : World} {b off : Nat} {ops : List OpV} (h : ∀ k (hk : k < ops.length) j (_ : j < 6) u, ops[k].cells[j]? = some u → w.cell? ⟨b, off + (k * 6 + j), none⟩ = some u) (hlt : b < w.heap.size) (hb : Below w.heap.size w wr) (k : Nat) (hk : k < ops.length) :
    wr.cell? ⟨b, off + k * 6, none⟩ = some (.int .i64 ops[k].kind) ∧ wr.cell? ⟨b, off + k * 6 + 1, none⟩ = some (.int .i64 ops[k].a) ∧ wr.cell? ⟨b, off + k * 6 + 2, none⟩ = some (.int .i64 ops[k].b) ∧
    wr.cell? ⟨b, off + k * 6 + 3, none⟩ = some (.int .i64 ops[k].c) ∧ wr.cell? ⟨b, off + k * 6 + 4, none⟩ = some (S ops[k].s) ∧ wr.cell? ⟨b, off + k * 6 + 5, none⟩ = some (S ops[k].t) := by
  have hc : ∀ j (_ : j < 6) u, ops[k].cells[j]? = some u → wr.cell? ⟨b, off + k * 6 + j, none⟩ = some u := fun j hj u hu => by
    rw [hb.cell (p := ⟨b, off + k * 6 + j, none⟩) hlt, show off + k * 6 + j = off + (k * 6 + j) from by omega]; exact h k hk j hj u hu
  exact ⟨hc 0 (by omega) _ rfl, hc 1 (by omega) _ rfl, hc 2 (by omega) _ rfl, hc 3 (by omega) _ rfl, hc 4 (by omega) _ rfl, hc 5 (by omega) _ rfl⟩

def totTo (ops : List OpV) (k : Nat) : Nat := ops.length + ((ops.take k).map (fun o => o.s.length + o.t.length)).sum
theorem totTo_succ (ops : List OpV) (k : Nat) (h : k < ops.length) : totTo ops (k + 1) = totTo ops k + (ops[k].s.length + ops[k].t.length) := by
  unfold totTo
  rw [List.take_succ_eq_append_getElem h, List.map_append, List.sum_append]
  simp only [List.map_cons, List.map_nil, List.sum_cons, List.sum_nil, Nat.add_zero]
  omega
theorem totTo_le (ops : List OpV) (k : Nat) (_h : k ≤ ops.length) : totTo ops k ≤ totTo ops ops.length := by
  have e : ops.take ops.length = ops.take k ++ ops.drop k := by rw [List.take_length, List.take_append_drop]
  unfold totTo
  rw [e, List.map_append, List.sum_append]
  omega
theorem totTo_zero (ops : List OpV) : totTo ops 0 = ops.length := by simp [totTo]
def smallB (ops : List OpV) : Bool := decide (totTo ops ops.length ≤ 524288)
/-- Each text takes as many bytes as may be. -/
def Sized (ops : List OpV) : Prop := ∀ o ∈ ops, o.s.length ≤ 140737488355328 ∧ o.t.length ≤ 140737488355328

theorem drewN_below (w : World) (n : Nat) : Below w.heap.size w (w.drewN n) := below_drewN (Below.refl _ _) n

set_option maxRecDepth 100000 in
set_option maxHeartbeats 1600000 in
theorem small_any (ops : List OpV) (ao : Option Addr) (cap : Nat) (w : World) (hs : ScriptAt w ao ops) (hsz : Sized ops) (hln : ops.length ≤ 140737488355328) :
    Calls Tryz.prog 13 #[.slice ao ops.length cap] w fun e w' => e = .returned (.bool (smallB ops)) ∧ Below w.heap.size w w' := by
  by_cases hlong : 524288 < ops.length
  · have hd : decide ((524288 : Int) < (ops.length : Int)) = true := by simp; omega
    have HF : Hid (smallB ops = false) := hide (by
      unfold smallB
      have := totTo_le ops 0 (by omega)
      rw [totTo_zero] at this
      simp; omega)
    go_enter Tryz.func13, Tryz.ntmps13
    go_wp2_with fail
    go_ret
    exact ⟨ret_bool (unhide HF).symm, Below.refl _ _⟩
  · have hd : decide ((524288 : Int) < (ops.length : Int)) = false := by simp; omega
    have HSZ := hide hsz; clear hsz
    go_enter Tryz.func13, Tryz.ntmps13
    go_wp2_with fail
    go_loopg [3, 4] (ops.length) (fun q n i wx => ∃ (k : Nat), i = .int .i64 k ∧ k + q = ops.length ∧ n = .int .i64 (totTo ops k : Nat) ∧ totTo ops k ≤ 524288 ∧ Below w.heap.size w wx)
    case atStart => exact ⟨0, rfl, by omega, by rw [totTo_zero], by rw [totTo_zero]; omega, Below.refl _ _⟩
    case round =>
      obtain ⟨k, rfl, hk, rfl, hle, hbm⟩ := hrel
      by_cases hlt : k < ops.length
      · obtain ⟨b, off, rfl, hbl, hcell⟩ := hs (by intro e; subst e; simp at hlt)
        obtain ⟨_, _, _, _, hc4, hc5⟩ := ScriptAt.cells hcell hbl hbm k hlt
        obtain ⟨hz1, hz2⟩ := unhide HSZ _ (List.getElem_mem hlt)
        have HTS := hide (totTo_succ ops k hlt)
        have HTL := hide (totTo_le ops (k + 1) (by omega))
        have hdk : decide ((k : Int) < (ops.length : Int)) = true := by simp; omega
        clear hcell
        generalize totTo ops k = tk at *
        generalize ops[k] = o at *
        go_wp2_with fail
        go_quiet (fail)
        by_cases hbig : 524288 < tk + (o.s.length + o.t.length)
        · have hq : decide ((524288 : Int) < (tk : Int) + (o.s.length : Int) + (o.t.length : Int)) = true := by simp; omega
          have HF : Hid (smallB ops = false) := hide (by
            unfold smallB
            have h1 := unhide HTL; have h2 := unhide HTS
            simp; omega)
          go_wp2_with fail
          go_ret
          exact ⟨ret_bool (unhide HF).symm, below_drewN hbm nq⟩
        · have hq : decide ((524288 : Int) < (tk : Int) + (o.s.length : Int) + (o.t.length : Int)) = false := by simp; omega
          go_wp2_with fail
          go_roundg (gk - 1)
          case measure => omega
          case rel =>
            refine ⟨k + 1, by go_num, by omega, ?_, by rw [unhide HTS]; omega, below_drewN hbm nq⟩
            rw [unhide HTS]; exact congrArg (Value.int .i64) (by omega)
      · have hkl : k = ops.length := by omega
        subst hkl
        have HF : Hid (smallB ops = true) := hide (by unfold smallB; simpa using hle)
        go_wp2_with fail
        go_ret
        exact ⟨ret_bool (unhide HF).symm, hbm⟩

/-! ### plays -/
/-- Numbers lie at an address. -/
def KindsAt (w : World) (ko : Option Addr) (ks : List Int) : Prop :=
  ks ≠ [] → ∃ b off, ko = some ⟨b, off, none⟩ ∧ b < w.heap.size ∧ ∀ j (hj : j < ks.length), w.cell? ⟨b, off + j, none⟩ = some (.int .i64 ks[j])
def inB (ks : List Int) (k : Int) : Bool := base4 k || ks.any (· == k)
def selTo (ks : List Int) (ops : List OpV) (k : Nat) : List OpV := (ops.take k).filter (fun o => inB ks o.kind)
theorem selTo_succ (ks : List Int) (ops : List OpV) (k : Nat) (h : k < ops.length) : selTo ks ops (k + 1) = selTo ks ops k ++ (if inB ks ops[k].kind then [ops[k]] else []) := by
  unfold selTo
  rw [List.take_succ_eq_append_getElem h, List.filter_append]
  congr 1
  simp [List.filter_cons]
theorem selTo_len (ks : List Int) (ops : List OpV) (k : Nat) : (selTo ks ops k).length ≤ ops.length := by
  unfold selTo
  refine Nat.le_trans (List.length_filter_le _ _) ?_
  simp; omega
theorem any_take (ks : List Int) (x : Int) (j : Nat) (h : j < ks.length) : (ks.take (j + 1)).any (· == x) = ((ks.take j).any (· == x) || (ks[j] == x)) := by
  rw [List.take_succ_eq_append_getElem h, List.any_append]; simp

theorem Tryz.info29 : (Tryz.prog.info? 29).map (fun i => (i.zero, i.size, i.bytes)) = some (some (.agg #[.int .i64 0, .int .i64 0, .int .i64 0, .int .i64 0, .string ⟨#[]⟩, .string ⟨#[]⟩]), 6, 64) := by kernel_rfl

set_option maxRecDepth 100000 in
set_option maxHeartbeats 3200000 in
theorem plays_any (ops : List OpV) (ao : Option Addr) (cap : Nat) (ks : List Int) (ko : Option Addr) (kcap : Nat) (w : World) (hs : ScriptAt w ao ops) (hks : KindsAt w ko ks) (hsz : Sized ops) (hln : ops.length ≤ 140737488355328) (hkl : ks.length ≤ 1048576)
    (HU : Hid (∀ (base : Nat) (v : Value) (w' : World), smallB ops = true → w'.ownsRow base 29 6 v (ops.filter (fun o => inB ks o.kind)).length (opCells (ops.filter (fun o => inB ks o.kind))) → Calls Tryz.prog 14 #[v] w' fun e w'' => e = .returned (.int .i64 (-1)) ∧ Below w'.heap.size w' w'')) :
    Calls Tryz.prog 10 #[.slice ao ops.length cap, .slice ko ks.length kcap] w fun e w' => e = .returned (.bool true) ∧ Below w.heap.size w w' := by
  go_enter Tryz.func10, Tryz.ntmps10
  go_wp2_with fail
  refine (small_any ops ao cap w hs hsz hln).mono ?_
  rintro e w1 ⟨rfl, hb1⟩
  cases hsm : smallB ops with
  | false =>
    go_wp2_with fail
    go_ret
    exact ⟨rfl, hb1⟩
  | true =>
    have HSM := hide hsm
    have hlo : ops.length ≤ 524288 := by
      have h1 : totTo ops ops.length ≤ 524288 := of_decide_eq_true hsm
      have h2 := totTo_le ops 0 (by omega)
      rw [totTo_zero] at h2
      omega
    clear hsm
    obtain ⟨i0, hi, hz0, hz1, hz2⟩ := info_parts Tryz.info29
    go_wp2_with fail
    go_loopg [6, 7] (ops.length) (fun q v i wx => ∃ (k : Nat), i = .int .i64 k ∧ k + q = ops.length ∧ wx.ownsRow w.heap.size 29 6 v (selTo ks ops k).length (opCells (selTo ks ops k)) ∧ Below w.heap.size w wx)
    case atStart => exact ⟨0, rfl, by omega, World.ownsRow_nil _ _ _ _, hb1⟩
    case round =>
      obtain ⟨k, rfl, hk, hown, hb⟩ := hrel
      obtain ⟨wo, rfl⟩ : ∃ wo, wo = wr := ⟨_, rfl⟩
      obtain ⟨go, rfl⟩ : ∃ go, go = gk := ⟨_, rfl⟩
      have hbs := hb.size
      have hsl := selTo_len ks ops k
      by_cases hlt : k < ops.length
      · obtain ⟨b, off, rfl, hbl, hcell⟩ := hs (by intro e; subst e; simp at hlt)
        obtain ⟨hc0, hc1, hc2, hc3, hc4, hc5⟩ := ScriptAt.cells hcell hbl hb k hlt
        have HSS := hide (selTo_succ ks ops k hlt)
        have hdk : decide ((k : Int) < (ops.length : Int)) = true := by simp; omega
        clear hcell
        have hbwo : b < wo.heap.size := by omega
        generalize ops[k] = o at *
        have hex : ∃ b1 b2 b4 b5 : Bool, (o.kind == 1) = b1 ∧ (o.kind == 2) = b2 ∧ (o.kind == 4) = b4 ∧ (o.kind == 5) = b5 ∧ base4 o.kind = (b1 || b2 || b4 || b5) ∧ (b1 && b2) = false ∧ (b1 && b4) = false ∧ (b1 && b5) = false ∧ (b2 && b4) = false ∧ (b2 && b5) = false ∧ (b4 && b5) = false := by
          refine ⟨_, _, _, _, rfl, rfl, rfl, rfl, rfl, ?_, ?_, ?_, ?_, ?_, ?_⟩
          all_goals (rw [Bool.and_eq_false_iff, beq_eq_false_iff_ne, beq_eq_false_iff_ne]; omega)
        obtain ⟨b1, b2, b4, b5, e1, e2, e4, e5, eb, x1, x2, x3, x4, x5, x6⟩ := hex
        have HEB := hide eb; clear eb
        cases b1 <;> cases b2 <;> cases b4 <;> cases b5 <;> first | (exfalso; revert x1 x2 x3 x4 x5 x6; decide) | skip
        all_goals clear x1 x2 x3 x4 x5 x6
        all_goals
          go_wp2_with fail
          go_loopg [9, 10] (ks.length) (fun q x i wx => ∃ (j : Nat), i = .int .i64 j ∧ j + q = ks.length ∧ x = .bool (base4 o.kind || (ks.take j).any (· == o.kind)) ∧ wx = wo)
          case atStart => exact ⟨0, rfl, by omega, by rw [unhide HEB]; rfl, rfl⟩
          case round =>
            obtain ⟨j, rfl, hj, rfl, hwx⟩ := hrel
            subst hwx
            by_cases hjl : j < ks.length
            · obtain ⟨bk, offk, rfl, hbk, hck⟩ := hks (by intro e; subst e; simp at hjl)
              have hcj : wr.cell? ⟨bk, offk + j, none⟩ = some (.int .i64 ks[j]) := by
                rw [hb.cell (p := ⟨bk, offk + j, none⟩) hbk]; exact hck j hjl
              have HAT := hide (any_take ks o.kind j hjl)
              have hdj : decide ((j : Int) < (ks.length : Int)) = true := by simp; omega
              obtain ⟨kj, hkj⟩ : ∃ kj, ks[j] = kj := ⟨_, rfl⟩
              rw [hkj] at hcj
              have HKJ := hide hkj
              clear hkj hck
              cases hin : (base4 o.kind || (ks.take j).any (· == o.kind)) with
              | true =>
                go_wp2_with fail
                go_roundg (gk - 1)
                case measure => omega
                case rel => exact ⟨j + 1, by go_num, by omega, by rw [unhide HAT, ← Bool.or_assoc, hin]; rfl, rfl⟩
              | false =>
                cases heq : (o.kind == kj) with
                | true =>
                  go_wp2_with fail
                  go_roundg (gk - 1)
                  case measure => omega
                  case rel => exact ⟨j + 1, by go_num, by omega, by rw [unhide HAT, ← Bool.or_assoc, hin, unhide HKJ, show (kj == o.kind) = true from by rw [beq_iff_eq] at heq ⊢; exact heq.symm]; rfl, rfl⟩
                | false =>
                  go_wp2_with fail
                  go_roundg (gk - 1)
                  case measure => omega
                  case rel => exact ⟨j + 1, by go_num, by omega, by rw [unhide HAT, ← Bool.or_assoc, hin, unhide HKJ, show (kj == o.kind) = false from by rw [beq_eq_false_iff_ne] at heq ⊢; exact fun e => heq e.symm]; rfl, rfl⟩
            · have hjl2 : j = ks.length := by omega
              subst hjl2
              have HIN : Hid ((base4 o.kind || (ks.take ks.length).any (· == o.kind)) = inB ks o.kind) := hide (by rw [List.take_length]; rfl)
              rw [unhide HIN]
              have hdj : decide ((ks.length : Int) < (ks.length : Int)) = false := by simp
              cases hin : inB ks o.kind with
              | true =>
                go_wp2_with (at_builtin; refine wpList_append_new rfl (.tmp 56) (.tmp 61) 22 rfl w.heap.size i0 (.agg #[.int .i64 0, .int .i64 0, .int .i64 0, .int .i64 0, .string ⟨#[]⟩, .string ⟨#[]⟩]) 6 64 Tryz.underlying22 hi hz0 hz1 hz2 rfl (by decide) _ _ _ hown rfl rfl rfl (by simp [Value.oneCell']) (by unfold maxLen; omega) (by omega) hbs ?_; intro v' w4 hown4 hgrow hnn)
                go_roundg (go - 1)
                case measure => omega
                case rel =>
                  refine ⟨k + 1, by go_num, by omega, ?_, below_grown hb hgrow hown (Nat.le_refl _) hbs⟩
                  rw [unhide HSS, hin, if_pos rfl, opCells_snoc]
                  simpa [OpV.cells] using hown4
              | false =>
                go_wp2_with fail
                go_roundg (go - 1)
                case measure => omega
                case rel => exact ⟨k + 1, by go_num, by omega, by rw [unhide HSS, hin, if_neg (by decide), List.append_nil]; exact hown, hb⟩
      · have hkl2 : k = ops.length := by omega
        subst hkl2
        have hown2 := hown
        unfold selTo at hown2
        rw [List.take_length] at hown2
        have hdk : decide ((ops.length : Int) < (ops.length : Int)) = false := by simp
        have HO2 := hide hown2
        clear hown hown2 hsl
        go_wp2_with fail
        refine ((unhide HU) _ _ wo (unhide HSM) (unhide HO2)).mono ?_
        rintro e w5 ⟨rfl, hb5⟩
        go_wp2_with fail
        go_ret
        exact ⟨rfl, hb.trans (hb5.mono hbs)⟩

theorem filter_sizes (p : OpV → Bool) (ops : List OpV) : sizeTo (ops.filter p) (ops.filter p).length ≤ totTo ops ops.length := by
  unfold sizeTo totTo
  rw [List.take_length, List.take_length]
  induction ops with
  | nil => simp
  | cons o ops ih =>
    rw [List.filter_cons]
    split
    · simp only [List.map_cons, List.sum_cons, List.length_cons]; omega
    · simp only [List.map_cons, List.sum_cons, List.length_cons]; omega

set_option maxRecDepth 100000 in
set_option maxHeartbeats 800000 in
theorem loads_law (ops : List OpV) (ao : Option Addr) (cap : Nat) (w : World) (hs : ScriptAt w ao ops) (hsz : Sized ops) (hln : ops.length ≤ 140737488355328) (hok : ∀ o ∈ ops, o.Ok) :
    Calls Tryz.prog 3 #[.slice ao ops.length cap] w fun e w' => e = .returned (.bool true) ∧ Below w.heap.size w w' := by
  have HOK := hide hok; clear hok
  have HU : Hid (∀ (base : Nat) (v : Value) (w' : World), smallB ops = true → w'.ownsRow base 29 6 v (ops.filter (fun o => inB [] o.kind)).length (opCells (ops.filter (fun o => inB [] o.kind))) → Calls Tryz.prog 14 #[v] w' fun e w'' => e = .returned (.int .i64 (-1)) ∧ Below w'.heap.size w' w'') := hide (by
    intro base v w' hsm hown
    have h1 : totTo ops ops.length ≤ 524288 := of_decide_eq_true hsm
    have h2 := filter_sizes (fun o => inB [] o.kind) ops
    have h3 : (ops.filter (fun o => inB [] o.kind)).length ≤ ops.length := List.length_filter_le _ _
    have h4 := totTo_le ops 0 (by omega)
    rw [totTo_zero] at h4
    refine upTo_base base _ v w' hown ?_ (by omega) (by omega)
    intro o ho
    rw [List.mem_filter] at ho
    refine ⟨?_, unhide HOK o ho.1⟩
    have := ho.2
    unfold inB at this
    simpa using this)
  go_enter Tryz.func3, Tryz.ntmps3
  go_wp2_with fail
  refine (plays_any ops ao cap [] none 0 w hs (fun h => absurd rfl h) hsz hln (by simp) HU).mono ?_
  rintro e w1 ⟨rfl, hb⟩
  go_wp2_with fail
  go_ret
  exact ⟨rfl, hb⟩
end Go.Proofs.YtgipjjhkhfihpaaGreatDoor

namespace Go.Proofs.YtgipjjhkhfihpaaGreatDoor
open Go.RowKit

/-- A row of n numbers, all of them x. -/
def marks (n : Nat) (x : Int) : Array Value := (List.replicate n (Value.int .i64 x)).toArray
def halfMarks (cur : Array Value) (i : Nat) (x : Int) : Array Value := (List.replicate i (Value.int .i64 x) ++ cur.toList.drop i).toArray
theorem halfMarks_zero (cur : Array Value) (x : Int) : halfMarks cur 0 x = cur := by simp [halfMarks]
theorem halfMarks_all (cur : Array Value) (x : Int) : halfMarks cur cur.size x = marks cur.size x := by
  unfold halfMarks marks
  rw [List.drop_of_length_le (by simp)]; simp
theorem halfMarks_size (cur : Array Value) (i : Nat) (x : Int) (h : i ≤ cur.size) : (halfMarks cur i x).size = cur.size := by
  simp [halfMarks]; omega
theorem halfMarks_succ (cur : Array Value) (i : Nat) (x : Int) (h : i < cur.size) : (halfMarks cur i x).setIfInBounds i (.int .i64 x) = halfMarks cur (i + 1) x := by
  unfold halfMarks
  apply Array.ext'
  rw [Array.toList_setIfInBounds]
  simp only
  rw [List.set_append_right _ _ (by simp)]
  simp only [List.length_replicate, Nat.sub_self]
  rw [List.drop_eq_getElem_cons (by simpa using h), List.set_cons_zero, List.replicate_succ', List.append_assoc]
  rfl

theorem Tryz.info25 : (Tryz.prog.info? 25).map (fun i => (i.zero, i.size, i.bytes)) = some (some (.slice none 0 0), 1, 24) := by kernel_rfl

/-- What 'mine' leaves. -/
structure MinePost (bw g : Nat) (cap : Nat) (nls : Nat) (hdrs : List Value) (vls : Value) (text : List UInt8) (px pf : Option Addr) (proof : List UInt8) (c4 c6 : Value) (w : World) (e : Ending) (w' : World) : Prop where
  ret : e = .returned (.tuple #[])
  only : Only (fun k => k = bw ∨ k = g ∨ vls.ownBlock = some k) w w'
  row : w'.heap[g]? = some (.cells (marks cap (-10 - (nls : Int))) 3 (0, 0))
  at_ : ∃ vls', WAt w' bw text px pf proof c4 vls' c6 ∧ w'.ownsRow (bw + 1) 25 1 vls' (nls + 1) (hdrs ++ [.slice (some ⟨g, 0, none⟩) cap cap]) ∧ (vls'.ownBlock = vls.ownBlock ∨ ∃ k, vls'.ownBlock = some k ∧ w.heap.size ≤ k)

set_option maxRecDepth 100000 in
set_option maxHeartbeats 1600000 in
theorem mine_any (bw g n cap : Nat) (cur : Array Value) (nls : Nat) (hdrs : List Value) (vls : Value) (text : List UInt8) (px pf : Option Addr) (proof : List UInt8) (c4 c6 : Value) (w : World)
    (hw : WAt w bw text px pf proof c4 vls c6) (hg : w.heap[g]? = some (.cells cur 3 (0, 0))) (hcs : cur.size = cap) (hnc : n ≤ cap) (hcm : cap ≤ maxLen) (hls : w.ownsRow (bw + 1) 25 1 vls nls hdrs) (hnl : nls ≤ 1073741824) :
    Calls Tryz.prog 39 #[.pointer (some ⟨bw, 0, none⟩), .slice (some ⟨g, 0, none⟩) n cap] w fun e w' => MinePost bw g cap nls hdrs vls text px pf proof c4 c6 w e w' := by
  have hbw : bw < w.heap.size := blk_lt hw
  have hgs : g < w.heap.size := blk_lt hg
  have hne : g ≠ bw := by
    intro e; subst e
    unfold WAt at hw
    rw [hg] at hw
    simp at hw
  have hapart : vls.ownBlock ≠ some g := fun e => by
    rcases hls.2 with ⟨rfl, _⟩ | ⟨g', c', cur', rfl, _, hh, _⟩
    · simp [Value.ownBlock] at e
    · simp [Value.ownBlock] at e
      subst e
      rw [hg] at hh
      simp at hh
  have hapw : vls.ownBlock ≠ some bw := fun e => by have := hls.lt _ e; omega
  have HCS := hide hcs; clear hcs
  obtain ⟨al, cl, rfl⟩ := own_form hls
  have hcm' := hcm
  unfold maxLen at hcm
  obtain ⟨i0, hi, hz0, hz1, hz2⟩ := info_parts Tryz.info25
  have h5 : w.cell? ⟨bw, 5, none⟩ = some (.slice al nls cl) := by rw [blk_cell hw]; rfl
  go_enter Tryz.func39, Tryz.ntmps39
  go_wp2_with fail
  go_loopg [4] cap (fun q i wx => ∃ k : Nat, i = .int .i64 k ∧ k + q = cap ∧ Only (· = g) w wx ∧ wx.heap[g]? = some (.cells (halfMarks cur k (-10 - (nls : Int))) 3 (0, 0)))
  case atStart => exact ⟨0, rfl, by omega, Only.refl _ _, by rw [halfMarks_zero]; exact hg⟩
  case round =>
    obtain ⟨k, rfl, hk, ho, hgx⟩ := hrel
    have hwx : WAt wr bw text px pf proof c4 (.slice al nls cl) c6 := (ho.block bw hbw (fun e => hne e.symm)).trans hw
    have k5 : wr.cell? ⟨bw, 5, none⟩ = some (.slice al nls cl) := by rw [blk_cell hwx]; rfl
    by_cases hlt : k < cap
    · have hsz := halfMarks_size cur k (-10 - (nls : Int)) (by have := unhide HCS; omega)
      obtain ⟨u, hu⟩ : ∃ u, wr.cell? ⟨g, k, none⟩ = some u := by
        rw [blk_cell hgx]
        exact ⟨_, Array.getElem?_eq_getElem (by rw [hsz]; have := unhide HCS; omega)⟩
      have hz := blk_free hgx k
      have HHS := hide (halfMarks_succ cur k (-10 - (nls : Int)) (by have := unhide HCS; omega))
      have HST := hide (blk_set hgx k (.int .i64 (-10 - (nls : Int))))
      clear hsz
      go_wp2_with fail
      go_roundg (gk - 1)
      case measure => omega
      case rel => exact ⟨k + 1, by go_num, by omega, ho.setAt _ _, by rw [← unhide HHS]; exact unhide HST⟩
    · have hkl : k = cap := by omega
      subst hkl
      have hgm : wr.heap[g]? = some (.cells (marks k (-10 - (nls : Int))) 3 (0, 0)) := by
        have h1 := halfMarks_all cur (-10 - (nls : Int))
        rw [unhide HCS] at h1
        rw [← h1]; exact hgx
      have hlsx : wr.ownsRow (bw + 1) 25 1 (.slice al nls cl) nls hdrs := hls.kept (row := some g) ⟨ho.os, ho.tape, ho.output, ho.size, fun j hj hne => ho.block j hj (fun e => hne (by rw [e]))⟩ (Or.inr hapart)
      have hbs : bw + 1 ≤ wr.heap.size := by have := ho.size; omega
      go_wp2_with (at_builtin; refine wpList_append_at rfl (.tmp 28) (.tmp 30) 45 rfl (bw + 1) i0 (.slice none 0 0) 1 24 Tryz.underlying45 hi hz0 hz1 hz2 rfl (by decide) _ _ _ hlsx rfl rfl rfl (by simp [Value.oneCell']) (by unfold maxLen; omega) (by omega) hbs ?_; intro v' w4 hown4 hgrow hat; have hw4 : WAt w4 bw text px pf proof c4 (.slice al nls cl) c6 := (hgrow.block bw (blk_lt hwx) (fun e => hapw e.symm)).trans hwx; obtain ⟨g3, cap3, rfl, hg3, hg3', hcap3, hcell3⟩ := own_pos hown4 (by omega); have hq5 : w4.cell? ⟨bw, 5, none⟩ = some (.slice al nls cl) := (by rw [blk_cell hw4]; rfl); have hqz := blk_free hw4 5)
      go_end0
      refine ⟨rfl, ?_, ?_, _, blk_set hw4 5 _, ownsRow_setCell_below hown4 (a := ⟨bw, 5, none⟩) (Nat.lt_succ_self bw) _, ?_⟩
      · refine Only.setCell ?_ (p := ⟨bw, 5, none⟩) (Or.inl (Or.inl rfl)) _
        exact (ho.mono (fun k _ h => Or.inr (Or.inl h))).grown hgrow (fun k hk => Or.inl (Or.inr (Or.inr hk)))
      · rw [Below.heap_setCell _ _ _ _ hne]
        rw [hgrow.block g (blk_lt hgm) (fun e => hapart e.symm)]
        exact hgm
      · rcases hat with h | ⟨k', h1, h2⟩
        · exact Or.inl h
        · exact Or.inr ⟨k', h1, by have := ho.size; omega⟩
end Go.Proofs.YtgipjjhkhfihpaaGreatDoor

namespace Go.Proofs.YtgipjjhkhfihpaaGreatDoor
open Go.RowKit

/-- Lists that were handed out, each with its own mark. -/
def LsAt (w : World) (hdrs : List Value) : Prop := ∀ i (hi : i < hdrs.length), ∃ g n, hdrs[i] = .slice (some ⟨g, 0, none⟩) n n ∧ n ≤ maxLen ∧ w.heap[g]? = some (.cells (marks n (-10 - (i : Int))) 3 (0, 0))
/-- Lists of lists that were handed out. -/
def LssAt (w : World) (hdrs : List Value) : Prop := ∀ i (hi : i < hdrs.length), hdrs[i] = .slice none 0 0 ∨ ∃ h n cs, hdrs[i] = .slice (some ⟨h, 0, none⟩) n n ∧ n ≤ maxLen ∧ w.heap[h]? = some (.cells cs 25 (0, 0)) ∧
  ∀ k, k < n → ∃ x, cs[k]? = some (.slice (some ⟨x, 0, none⟩) 2 2) ∧ w.heap[x]? = some (.cells #[.int .i64 (i : Int), .int .i64 (k : Int)] 3 (0, 0))
theorem marks_at (n : Nat) (x : Int) (k : Nat) (h : k < n) : (marks n x)[k]? = some (.int .i64 x) := by
  unfold marks; simp [h]

set_option maxRecDepth 100000 in
set_option maxHeartbeats 3200000 in
theorem looks_any (bw : Nat) (text : List UInt8) (px pf : Option Addr) (proof : List UInt8) (c4 v5 v6 : Value) (h5s h6s : List Value) (b5 b6 : Nat) (w : World) (hw : WAt w bw text px pf proof c4 v5 v6)
    (h5 : w.ownsRow b5 25 1 v5 h5s.length h5s) (h6 : w.ownsRow b6 45 1 v6 h6s.length h6s) (hls : LsAt w h5s) (hlss : LssAt w h6s) (hn5 : h5s.length ≤ 1073741824) (hn6 : h6s.length ≤ 1073741824) :
    Calls Tryz.prog 20 #[.pointer (some ⟨bw, 0, none⟩)] w fun e w' => e = .returned (.bool true) ∧ w' = w := by
  have k5 : w.cell? ⟨bw, 5, none⟩ = some v5 := by rw [blk_cell hw]; rfl
  have k6 : w.cell? ⟨bw, 6, none⟩ = some v6 := by rw [blk_cell hw]; rfl
  have HLS := hide hls
  have HLSS := hide hlss
  clear hls hlss
  obtain ⟨a5, c5, rfl⟩ := own_form h5
  obtain ⟨a6, c6, rfl⟩ := own_form h6
  go_enter Tryz.func20, Tryz.ntmps20
  go_wp2_with fail
  go_loopg [3] (h5s.length) (fun q i wx => ∃ k : Nat, i = .int .i64 k ∧ k + q = h5s.length ∧ wx = w)
  case atStart => exact ⟨0, rfl, by omega, rfl⟩
  case round =>
    obtain ⟨k, rfl, hk, hwx⟩ := hrel
    subst hwx
    obtain ⟨go, rfl⟩ : ∃ go, go = gk := ⟨_, rfl⟩
    by_cases hlt : k < h5s.length
    · obtain ⟨g5, c5', hV, hg5, hg5', _, hcell⟩ := own_pos h5 (by omega)
      injection hV with hV _ hV2
      subst hV hV2
      obtain ⟨g, n, he, hnm, hg⟩ := unhide HLS k hlt
      have hck : wr.cell? ⟨g5, k, none⟩ = some (.slice (some ⟨g, 0, none⟩) n n) := hcell k _ (by rw [List.getElem?_eq_getElem hlt, he])
      have hdk : decide ((k : Int) < (h5s.length : Int)) = true := by simp; omega
      have HE := hide he
      clear he hcell
      unfold maxLen at hnm
      go_wp2_with fail
      go_loopg [4] n (fun q i wx => ∃ j : Nat, i = .int .i64 j ∧ j + q = n ∧ wx = wr)
      case atStart => exact ⟨0, rfl, by omega, rfl⟩
      case round =>
        obtain ⟨j, rfl, hj, hwx⟩ := hrel
        subst hwx
        by_cases hjl : j < n
        · have hcj : wr.cell? ⟨g, j, none⟩ = some (.int .i64 (-10 - (k : Int))) := by rw [blk_cell hg]; exact marks_at n _ j hjl
          have hdj : decide ((j : Int) < (n : Int)) = true := by simp; omega
          have hmk : (-10 - (k : Int) != -10 - (k : Int)) = false := by simp
          go_wp2_with fail
          go_roundg (gk - 1)
          case measure => omega
          case rel => exact ⟨j + 1, by go_num, by omega, rfl⟩
        · have hdj : decide ((j : Int) < (n : Int)) = false := by simp; omega
          have hjn : j ≤ n := by omega
          go_wp2_with fail
          go_roundg (go - 1)
          case measure => omega
          case rel => exact ⟨k + 1, by go_num, by omega, rfl⟩
    · have hkl : k = h5s.length := by omega
      subst hkl
      have hdk : decide ((h5s.length : Int) < (h5s.length : Int)) = false := by simp
      go_wp2_with fail
      go_loopg [5] (h6s.length) (fun q i wx => ∃ k : Nat, i = .int .i64 k ∧ k + q = h6s.length ∧ wx = wr)
      case atStart => exact ⟨0, rfl, by omega, rfl⟩
      case round =>
        obtain ⟨k, rfl, hk6, hwx⟩ := hrel
        subst hwx
        obtain ⟨go6, rfl⟩ : ∃ go6, go6 = gk := ⟨_, rfl⟩
        by_cases hlt6 : k < h6s.length
        · obtain ⟨g6, c6', hV, hg6, hg6', _, hcell⟩ := own_pos h6 (by omega)
          injection hV with hV _ hV2
          subst hV hV2
          have hdk6 : decide ((k : Int) < (h6s.length : Int)) = true := by simp; omega
          rcases unhide HLSS k hlt6 with he | ⟨h, n, cs, he, hnm, hh, hx⟩
          · have hck : wr.cell? ⟨g6, k, none⟩ = some (.slice none 0 0) := hcell k _ (by rw [List.getElem?_eq_getElem hlt6, he])
            clear he hcell
            go_wp2_with fail
            refine wp_loop_rounds 1 ?_
            rw [rounds_succ]
            go_wp2_with fail
            go_roundg (go6 - 1)
            case measure => omega
            case rel => exact ⟨k + 1, by go_num, by omega, rfl⟩
          · have hck : wr.cell? ⟨g6, k, none⟩ = some (.slice (some ⟨h, 0, none⟩) n n) := hcell k _ (by rw [List.getElem?_eq_getElem hlt6, he])
            have HX := hide hx
            clear he hcell hx
            unfold maxLen at hnm
            go_wp2_with fail
            go_loopg [6] n (fun q i wx => ∃ j : Nat, i = .int .i64 j ∧ j + q = n ∧ wx = wr)
            case atStart => exact ⟨0, rfl, by omega, rfl⟩
            case round =>
              obtain ⟨j, rfl, hj, hwx⟩ := hrel
              subst hwx
              by_cases hjl : j < n
              · obtain ⟨x, hx1, hx2⟩ := unhide HX j hjl
                have hcj : wr.cell? ⟨h, j, none⟩ = some (.slice (some ⟨x, 0, none⟩) 2 2) := by rw [blk_cell hh]; exact hx1
                have hy0 : wr.cell? ⟨x, 0, none⟩ = some (.int .i64 (k : Int)) := by rw [blk_cell hx2]; rfl
                have hy1 : wr.cell? ⟨x, 1, none⟩ = some (.int .i64 (j : Int)) := by rw [blk_cell hx2]; rfl
                have hdj : decide ((j : Int) < (n : Int)) = true := by simp; omega
                have hm1 : ((k : Int) != (k : Int)) = false := by simp
                have hm2 : ((j : Int) != (j : Int)) = false := by simp
                go_wp2_with fail
                go_roundg (gk - 1)
                case measure => omega
                case rel => exact ⟨j + 1, by go_num, by omega, rfl⟩
              · have hdj : decide ((j : Int) < (n : Int)) = false := by simp; omega
                have hjn : j ≤ n := by omega
                go_wp2_with fail
                go_roundg (go6 - 1)
                case measure => omega
                case rel => exact ⟨k + 1, by go_num, by omega, rfl⟩
        · have hkl : k = h6s.length := by omega
          subst hkl
          have hdk6 : decide ((h6s.length : Int) < (h6s.length : Int)) = false := by simp
          go_wp2_with fail
          go_ret
          exact ⟨rfl, rfl⟩
end Go.Proofs.YtgipjjhkhfihpaaGreatDoor

namespace Go.Proofs.YtgipjjhkhfihpaaGreatDoor
open Go.RowKit

/-- Numbers lie at an address. -/
def IntsAt (w : World) (v : Value) (l : List Nat) : Prop := ∃ ao cap, v = .slice ao l.length cap ∧ ∀ i (hi : i < l.length), ∃ g off, ao = some ⟨g, off, none⟩ ∧ w.cell? ⟨g, off + i, none⟩ = some (.int .i64 (l[i] : Int))
/-- Where block k begins. -/
def fromOf (F : Form) (k : Nat) : Nat := if 0 < k then F.ends.getD (k - 1) 0 else 0
def blockOf (F : Form) (k : Nat) : List Nat := (F.order.drop (fromOf F k)).take (F.ends.getD k 0 - fromOf F k)

def BlockPost (F : Form) (k : Nat) (w : World) (e : Ending) (w' : World) : Prop := ∃ v, e = .returned v ∧ IntsAt w' v (blockOf F k) ∧ Below w.heap.size w w'
theorem ints_piece {w w' : World} {gO lo1 hi1 cap : Nat} {l : List Nat} (hc : ∀ j u, (ints l)[j]? = some u → w.cell? ⟨gO, j, none⟩ = some u) (hw : ∀ j, w'.cell? ⟨gO, j, none⟩ = w.cell? ⟨gO, j, none⟩) (h1 : lo1 ≤ hi1) (h2 : hi1 ≤ l.length) :
    IntsAt w' (.slice (some ⟨gO, lo1, none⟩) (hi1 - lo1) cap) ((l.drop lo1).take (hi1 - lo1)) := by
  have hl : ((l.drop lo1).take (hi1 - lo1)).length = hi1 - lo1 := by simp; omega
  refine ⟨_, _, by rw [hl], fun i hi => ⟨gO, lo1, rfl, ?_⟩⟩
  rw [hw]
  refine hc _ _ ?_
  rw [hl] at hi
  simp [ints, show lo1 + i < l.length by omega]
theorem ints_empty (w : World) (ao : Option Addr) (cap : Nat) : IntsAt w (.slice ao 0 cap) [] := ⟨ao, cap, rfl, fun i hi => by simp at hi⟩

set_option maxRecDepth 100000 in
set_option maxHeartbeats 1600000 in
theorem block_any (lo b k : Nat) (F : Form) (w : World) (hF : RefAt lo w b F) (hk : k < F.ends.length) (hle : fromOf F k ≤ F.ends.getD k 0) (hel : F.ends.getD k 0 ≤ F.order.length) (_hol : F.order.length ≤ 1073741824) (hpos : 0 < F.order.length) (hen : F.ends.length ≤ 1073741824) :
    Calls Tryz.prog 38 #[.pointer (some ⟨b, 0, none⟩), .int .i64 k] w fun e w' => BlockPost F k w e w' := by
  obtain ⟨_, vO, vE, vC, hfb, hO, hE, _⟩ := hF
  obtain ⟨gO, cO, rfl, _, _, hcO, hcellO⟩ := own_pos hO hpos
  obtain ⟨gE, cE, rfl, _, _, hcE, hcellE⟩ := own_pos hE (by omega)
  have k0 : w.cell? ⟨b, 0, none⟩ = some (.slice (some ⟨gO, 0, none⟩) F.order.length cO) := by rw [blk_cell hfb]; rfl
  have k2 : w.cell? ⟨b, 2, none⟩ = some (.slice (some ⟨gE, 0, none⟩) F.ends.length cE) := by rw [blk_cell hfb]; rfl
  have ek : w.cell? ⟨gE, k, none⟩ = some (.int .i64 (F.ends.getD k 0 : Nat)) := hcellE k _ (by simp [ints, List.getD, hk])
  have HCO := hide hcellO
  have hkb : k ≤ 1073741824 := by omega
  by_cases h0 : 0 < k
  · have ek1 : w.cell? ⟨gE, k - 1, none⟩ = some (.int .i64 (F.ends.getD (k - 1) 0 : Nat)) := hcellE (k - 1) _ (by simp [ints, List.getD, show k - 1 < F.ends.length by omega])
    have HFR : Hid (fromOf F k = F.ends.getD (k - 1) 0) := hide (by unfold fromOf; rw [if_pos h0])
    have HBL : Hid (blockOf F k = (F.order.drop (F.ends.getD (k - 1) 0)).take (F.ends.getD k 0 - F.ends.getD (k - 1) 0)) := hide (by unfold blockOf; rw [unhide HFR])
    rw [unhide HFR] at hle
    have hd0 : decide (0 < k) = true := by simpa using h0
    clear hcellE hcellO
    generalize F.ends.getD (k - 1) 0 = lo1 at *
    generalize F.ends.getD k 0 = hi1 at *
    go_enter Tryz.func38, Tryz.ntmps38
    go_wp2_with fail
    go_quiet (fail)
    go_wp2_with fail
    · next hce =>
      have hz : hi1 - lo1 = 0 := by omega
      have HZ := hide hz
      clear hz
      go_ret
      refine ⟨_, rfl, ?_, below_drewN (Below.refl _ _) nq⟩
      rw [unhide HBL, unhide HZ]
      show IntsAt _ (.slice (some ⟨gO, 0, none⟩) 0 0) _
      simpa using ints_empty _ _ _
    · go_ret
      refine ⟨_, rfl, ?_, below_drewN (Below.refl _ _) nq⟩
      rw [unhide HBL]
      exact ints_piece (unhide HCO) (fun j => rfl) hle hel
  · have HFR : Hid (fromOf F k = 0) := hide (by unfold fromOf; rw [if_neg h0])
    have HBL : Hid (blockOf F k = (F.order.drop 0).take (F.ends.getD k 0 - 0)) := hide (by unfold blockOf; rw [unhide HFR])
    have hd0 : decide (0 < k) = false := by simpa using h0
    clear hcellE hcellO hle
    generalize F.ends.getD k 0 = hi1 at *
    go_enter Tryz.func38, Tryz.ntmps38
    go_wp2_with fail
    go_quiet (fail)
    go_wp2_with fail
    go_ret
    refine ⟨_, rfl, ?_, below_drewN (Below.refl _ _) nq⟩
    rw [unhide HBL]
    exact ints_piece (lo1 := 0) (unhide HCO) (fun j => rfl) (Nat.zero_le _) hel
end Go.Proofs.YtgipjjhkhfihpaaGreatDoor

namespace Go.Proofs.YtgipjjhkhfihpaaGreatDoor
open Go.RowKit

/-! ### Lists that were handed out, in memory -/
def listTypes : List TypeId := [3, 25, 45]
theorem own_blk {w : World} {base : Nat} {e : TypeId} {size : Nat} {v : Value} {n : Nat} {xs : List Value} (h : w.ownsRow base e size v n xs) {k : Nat} (hk : v.ownBlock = some k) : ∃ cur, w.heap[k]? = some (.cells cur e (0, 0)) := by
  rcases h.2 with ⟨rfl, _⟩ | ⟨g, cap, cur, rfl, _, hh, _⟩
  · simp [Value.ownBlock] at hk
  · simp [Value.ownBlock] at hk
    subst hk
    exact ⟨cur, hh⟩
theorem types_ne {w : World} {k : Nat} {c1 c2 : Array Value} {t1 t2 : TypeId} {f1 f2 : Nat × Nat} (h1 : w.heap[k]? = some (.cells c1 t1 f1)) (h2 : w.heap[k]? = some (.cells c2 t2 f2)) : t1 = t2 := by
  rw [h1] at h2; simp at h2; exact h2.2.1
theorem ls_keep {w w' : World} {T : Nat → Prop} {hdrs : List Value} (h : LsAt w hdrs) (ho : Only T w w') (hT : ∀ i (hi : i < hdrs.length) g cs, hdrs[i].ownBlock = some g → w.heap[g]? = some (.cells cs 3 (0, 0)) → ¬ T g) : LsAt w' hdrs := by
  intro i hi
  obtain ⟨g, n, h1, h2, h3⟩ := h i hi
  refine ⟨g, n, h1, h2, ?_⟩
  rw [ho.block g (blk_lt h3) (hT i hi g _ (by rw [h1]; rfl) h3)]
  exact h3
theorem LsAt.only {w w' : World} {T : Nat → Prop} {hdrs : List Value} (h : LsAt w hdrs) (ho : Only T w w') (hT : ∀ k, k < w.heap.size → T k → Foreign 0 w [3] k) : LsAt w' hdrs := by
  refine ls_keep h ho fun i hi g cs h1 h2 ht => ?_
  rcases hT g (blk_lt h2) ht with h | ⟨c, t, fr, h4, h5⟩
  · omega
  · exact h5 (by rw [types_ne h4 h2]; simp)
theorem LsAt.later {w w' : World} {hdrs : List Value} (h : LsAt w hdrs) (hb : Below w.heap.size w w') : LsAt w' hdrs :=
  h.only (T := fun _ => False) (Only.of_below hb) (fun _ _ h => h.elim)
theorem lss_keep {w w' : World} {T : Nat → Prop} {hdrs : List Value} (h : LssAt w hdrs) (ho : Only T w w') (hT : ∀ i (hi : i < hdrs.length) g cs, hdrs[i].ownBlock = some g → w.heap[g]? = some (.cells cs 25 (0, 0)) → ¬ T g) (hI : ∀ k, k < w.heap.size → T k → Foreign 0 w [3] k) : LssAt w' hdrs := by
  intro i hi
  rcases h i hi with h0 | ⟨h', n, cs, h1, h2, h3, h4⟩
  · exact Or.inl h0
  · refine Or.inr ⟨h', n, cs, h1, h2, ?_, fun k hk => ?_⟩
    · rw [ho.block h' (blk_lt h3) (hT i hi h' _ (by rw [h1]; rfl) h3)]
      exact h3
    · obtain ⟨x, h5, h6⟩ := h4 k hk
      exact ⟨x, h5, blk_only h6 (Nat.zero_le _) ho (by simp) hI⟩
theorem LssAt.later {w w' : World} {hdrs : List Value} (h : LssAt w hdrs) (hb : Below w.heap.size w w') : LssAt w' hdrs :=
  lss_keep h (T := fun _ => False) (Only.of_below hb) (fun _ _ _ _ _ _ h => h.elim) (fun _ _ h => h.elim)

/-- All lists of the law's world. -/
structure ListsAt (bw : Nat) (w : World) (v5 v6 : Value) (h5s h6s : List Value) : Prop where
  o5 : w.ownsRow (bw + 1) 25 1 v5 h5s.length h5s
  o6 : w.ownsRow (bw + 1) 45 1 v6 h6s.length h6s
  ls : LsAt w h5s
  lss : LssAt w h6s
  ap : ∀ i (hi : i < h6s.length), apart v5 h6s[i]
theorem ListsAt.only {bw : Nat} {w w' : World} {v5 v6 : Value} {h5s h6s : List Value} {T : Nat → Prop} (h : ListsAt bw w v5 v6 h5s h6s) (ho : Only T w w') (hT : ∀ k, k < w.heap.size → T k → Foreign 0 w listTypes k) : ListsAt bw w' v5 v6 h5s h6s := by
  have hw : ∀ (b : Nat) (ts : List TypeId), (∀ t, t ∈ ts → t ∈ listTypes) → ∀ k, k < w.heap.size → T k → Foreign b w ts k := fun b ts hts k hk ht => by
    rcases hT k hk ht with h | ⟨c, t, fr, h4, h5⟩
    · omega
    · exact Or.inr ⟨c, t, fr, h4, fun h => h5 (hts t h)⟩
  have hin : ∀ t, t ∈ [3] → t ∈ listTypes := by decide
  refine ⟨own_only h.o5 ho (ts := [25]) (by simp) (hw _ _ (by decide)), own_only h.o6 ho (ts := [45]) (by simp) (hw _ _ (by decide)), h.ls.only ho (hw _ _ hin), lss_keep h.lss ho ?_ (hw _ _ hin), h.ap⟩
  intro i hi g cs h1 h2 ht
  rcases hw 0 [25] (by decide) g (blk_lt h2) ht with h | ⟨c, t, fr, h4, h5⟩
  · omega
  · exact h5 (by rw [types_ne h4 h2]; simp)
theorem ListsAt.later {bw : Nat} {w w' : World} {v5 v6 : Value} {h5s h6s : List Value} (h : ListsAt bw w v5 v6 h5s h6s) (hb : Below w.heap.size w w') : ListsAt bw w' v5 v6 h5s h6s :=
  h.only (T := fun _ => False) (Only.of_below hb) (fun _ _ h => h.elim)
theorem world_foreign {bw : Nat} {w : World} {text : List UInt8} {px pf : Option Addr} {proof : List UInt8} {c4 c5 c6 : Value} (h : WAt w bw text px pf proof c4 c5 c6) (ts : List TypeId) (hts : 48 ∉ ts) (b : Nat) : ∀ k, k < w.heap.size → k = bw → Foreign b w ts k :=
  fun k _ e => by subst e; exact Or.inr ⟨_, _, _, h, hts⟩

/-- What holds while the rows of one answer are marked: k of them are. -/
structure Marking (bw h : Nat) (w0 : World) (v5 : Value) (text : List UInt8) (px pf : Option Addr) (proof : List UInt8) (c4 v6 : Value) (hdrs : List Value) (cur : Array Value) (k : Nat) (v5x : Value) (h5x : List Value) (wx : World) : Prop where
  at_ : WAt wx bw text px pf proof c4 v5x v6
  only : Only (fun j => j = bw ∨ v5.ownBlock = some j) w0 wx
  o5 : wx.ownsRow (bw + 1) 25 1 v5x h5x.length h5x
  ls : LsAt wx h5x
  old : v5x.ownBlock = v5.ownBlock ∨ ∃ j, v5x.ownBlock = some j ∧ w0.heap.size ≤ j
  noth : v5x.ownBlock ≠ some h
  row : wx.heap[h]? = some (.cells cur 25 (0, 0))
  fresh : ∀ j, k ≤ j → (hj : j < hdrs.length) → ∃ g n cap cu, hdrs[j] = .slice (some ⟨g, 0, none⟩) n cap ∧ w0.heap.size ≤ g ∧ wx.heap[g]? = some (.cells cu 3 (0, 0)) ∧ cu.size = cap ∧ n ≤ cap ∧ cap ≤ maxLen
  sep : ∀ i (hi : i < h5x.length) j, k ≤ j → (hj : j < hdrs.length) → apart h5x[i] hdrs[j]

theorem Marking.start {bw h base : Nat} {w0 wx : World} {v5 v6 : Value} {h5s h6s : List Value} {text : List UInt8} {px pf : Option Addr} {proof : List UInt8} {c4 : Value} {hdrs : List Value} {cur : Array Value} {bs : List (List Nat)} (hw : WAt w0 bw text px pf proof c4 v5 v6) (hL : ListsAt bw w0 v5 v6 h5s h6s) (hb : Below w0.heap.size w0 wx)
    (hbase : w0.heap.size = base) (hh : base ≤ h) (hrow : wx.heap[h]? = some (.cells cur 25 (0, 0))) (hR : RowsAt base wx bs hdrs) : Marking bw h w0 v5 text px pf proof c4 v6 hdrs cur 0 v5 h5s wx := by
  subst hbase
  have h5lt := hL.o5.lt
  refine ⟨hw.later hb, Only.of_below hb, own_below hL.o5 hb, hL.ls.later hb, Or.inl rfl, fun e => ?_, hrow, fun j _ hj => ?_, fun i hi j _ hj k h1 h2 => ?_⟩
  · have := (h5lt h e).2; omega
  · have hl := hR.len
    obtain ⟨hr, hne⟩ := hR.row j (by omega)
    rcases hr.2 with ⟨_, h0⟩ | ⟨g, cap, cu, h1, h2, h3, h4, h5, h6, _⟩
    · exact absurd (List.length_eq_zero_iff.1 h0) hne
    · exact ⟨g, _, cap, cu, h1, h2, h3, by simpa using h6, h4, h5⟩
  · obtain ⟨g, n, e1, _, e2⟩ := hL.ls i hi
    have hl := hR.len
    have := ((hR.row j (by omega)).1.lt k h2).1
    rw [e1] at h1
    simp [Value.ownBlock] at h1
    subst h1
    have := blk_lt e2
    omega

theorem Marking.mine {bw h g n cap k : Nat} {w0 wx w' : World} {v5 v6 v5x : Value} {h5x : List Value} {text : List UInt8} {px pf : Option Addr} {proof : List UInt8} {c4 : Value} {hdrs : List Value} {cur : Array Value} {e : Ending} (hM : Marking bw h w0 v5 text px pf proof c4 v6 hdrs cur k v5x h5x wx)
    (_hhw : w0.heap.size ≤ h) (hk : k < hdrs.length) (hkg : hdrs[k] = .slice (some ⟨g, 0, none⟩) n cap) (hg0 : w0.heap.size ≤ g) (hgt : ∃ cu, wx.heap[g]? = some (.cells cu 3 (0, 0))) (hcm : cap ≤ maxLen) (hapart : ∀ i j (hi : i < hdrs.length) (hj : j < hdrs.length), i ≠ j → apart hdrs[i] hdrs[j])
    (hP : MinePost bw g cap h5x.length h5x v5x text px pf proof c4 v6 wx e w') : ∃ v5', Marking bw h w0 v5 text px pf proof c4 v6 hdrs cur (k + 1) v5' (h5x ++ [.slice (some ⟨g, 0, none⟩) cap cap]) w' := by
  obtain ⟨v5', hw', ho', hat⟩ := hP.at_
  obtain ⟨cug, hcug⟩ := hgt
  have hwt := hM.at_
  unfold WAt at hwt
  have hv5t : ∀ j, v5x.ownBlock = some j → ∃ cur, wx.heap[j]? = some (.cells cur 25 (0, 0)) := fun j hj => own_blk hM.o5 hj
  have hgown : (Value.slice (some ⟨g, 0, none⟩) cap cap).ownBlock = some g := rfl
  have hgown' : hdrs[k].ownBlock = some g := by rw [hkg]; rfl
  have hnT : ∀ x cs, wx.heap[x]? = some (.cells cs 3 (0, 0)) → x ≠ g → ¬ (x = bw ∨ x = g ∨ v5x.ownBlock = some x) := by
    intro x cs hx hne ht
    rcases ht with rfl | h | h
    · exact absurd (types_ne hwt hx) (by decide)
    · exact hne h
    · obtain ⟨c, hc⟩ := hv5t x h
      exact absurd (types_ne hc hx) (by decide)
  have hls : LsAt w' h5x := ls_keep hM.ls hP.only fun i hi x cs h1 h2 => hnT x cs h2 (fun e => hM.sep i hi k (Nat.le_refl _) hk x h1 (by rw [hgown', e]))
  refine ⟨v5', hw', ?_, by simpa using ho', ?_, ?_, ?_, ?_, ?_, ?_⟩
  · have h1 : Only (fun j => j = bw ∨ v5.ownBlock = some j) wx w' → Only (fun j => j = bw ∨ v5.ownBlock = some j) w0 w' := fun h => hM.only.trans h
    refine ⟨hP.only.os.trans hM.only.os, hP.only.tape.trans hM.only.tape, hP.only.output.trans hM.only.output, Nat.le_trans hM.only.size hP.only.size, fun j hj ht => ?_⟩
    rw [hP.only.block j (Nat.lt_of_lt_of_le hj hM.only.size) (fun h => ?_), hM.only.block j hj ht]
    rcases h with h | h | h
    · exact ht (Or.inl h)
    · omega
    · rcases hM.old with h2 | ⟨x, h2, h3⟩
      · exact ht (Or.inr (by rw [← h2]; exact h))
      · rw [h2] at h; simp at h; omega
  · intro i hi
    by_cases hil : i < h5x.length
    · obtain ⟨g', n', h1, h2, h3⟩ := hls i hil
      exact ⟨g', n', by rw [List.getElem_append_left hil]; exact h1, h2, h3⟩
    · have hie : i = h5x.length := by simp at hi; omega
      subst hie
      exact ⟨g, cap, by simp, hcm, hP.row⟩
  · rcases hat with h1 | ⟨x, h1, h2⟩
    · rw [h1]; exact hM.old
    · exact Or.inr ⟨x, h1, Nat.le_trans hM.only.size h2⟩
  · rcases hat with h1 | ⟨x, h1, h2⟩
    · rw [h1]; exact hM.noth
    · rw [h1]
      intro e
      simp at e
      have := blk_lt hM.row
      omega
  · rw [hP.only.block h (blk_lt hM.row) (fun ht => ?_)]
    · exact hM.row
    · rcases ht with rfl | rfl | ht
      · exact absurd (types_ne hwt hM.row) (by decide)
      · exact absurd (types_ne hcug hM.row) (by decide)
      · exact hM.noth ht
  · intro j hkj hj
    obtain ⟨g2, n2, cap2, cu2, h1, h2, h3, h4⟩ := hM.fresh j (by omega) hj
    refine ⟨g2, n2, cap2, cu2, h1, h2, ?_, h4⟩
    have hne : g2 ≠ g := fun e => hapart k j hk hj (by omega) g hgown' (by rw [h1, ← e]; rfl)
    rw [hP.only.block g2 (blk_lt h3) (hnT g2 cu2 h3 hne)]
    exact h3
  · intro i hi j hkj hj
    by_cases hil : i < h5x.length
    · rw [List.getElem_append_left hil]; exact hM.sep i hil j (by omega) hj
    · have hie : i = h5x.length := by simp at hi; omega
      subst hie
      intro x hx
      have hx' : x = g := by simp [Value.ownBlock] at hx; exact hx.symm
      subst hx'
      exact hapart k j hk hj (by omega) x hgown'

/-- While the headers of one answer are marked: i of them are. -/
structure Heading (bw h cap n6 : Nat) (w0 : World) (v5 : Value) (text : List UInt8) (px pf : Option Addr) (proof : List UInt8) (c4 v6 : Value) (i : Nat) (v5x : Value) (h5x : List Value) (wx : World) : Prop where
  at_ : WAt wx bw text px pf proof c4 v5x v6
  only : Only (fun j => j = bw ∨ v5.ownBlock = some j) w0 wx
  o5 : wx.ownsRow (bw + 1) 25 1 v5x h5x.length h5x
  ls : LsAt wx h5x
  old : v5x.ownBlock = v5.ownBlock ∨ ∃ j, v5x.ownBlock = some j ∧ w0.heap.size ≤ j
  noth : v5x.ownBlock ≠ some h
  row : ∃ cs, wx.heap[h]? = some (.cells cs 25 (0, 0)) ∧ cs.size = cap ∧ ∀ j, j < i → ∃ x, cs[j]? = some (.slice (some ⟨x, 0, none⟩) 2 2) ∧ wx.heap[x]? = some (.cells #[.int .i64 (n6 : Int), .int .i64 (j : Int)] 3 (0, 0))
theorem Heading.start {bw h cap n6 k : Nat} {w0 wx : World} {v5 v6 v5x : Value} {h5x : List Value} {text : List UInt8} {px pf : Option Addr} {proof : List UInt8} {c4 : Value} {hdrs : List Value} {cur : Array Value} (hM : Marking bw h w0 v5 text px pf proof c4 v6 hdrs cur k v5x h5x wx) (hc : cur.size = cap) : Heading bw h cap n6 w0 v5 text px pf proof c4 v6 0 v5x h5x wx :=
  ⟨hM.at_, hM.only, hM.o5, hM.ls, hM.old, hM.noth, cur, hM.row, hc, fun j hj => by omega⟩
theorem Heading.later {bw h cap n6 i : Nat} {w0 wx w' : World} {v5 v6 v5x : Value} {h5x : List Value} {text : List UInt8} {px pf : Option Addr} {proof : List UInt8} {c4 : Value} (hM : Heading bw h cap n6 w0 v5 text px pf proof c4 v6 i v5x h5x wx) (hb : Below wx.heap.size wx w') : Heading bw h cap n6 w0 v5 text px pf proof c4 v6 i v5x h5x w' := by
  obtain ⟨cs, h1, h2, h3⟩ := hM.row
  refine ⟨hM.at_.later hb, hM.only.trans (Only.of_below hb), own_below hM.o5 hb, hM.ls.later hb, hM.old, hM.noth, cs, (hb.block h (blk_lt h1)).trans h1, h2, fun j hj => ?_⟩
  obtain ⟨x, h4, h5⟩ := h3 j hj
  exact ⟨x, h4, (hb.block x (blk_lt h5)).trans h5⟩
theorem Heading.set {bw h cap n6 i x : Nat} {w0 wx : World} {v5 v6 v5x : Value} {h5x : List Value} {text : List UInt8} {px pf : Option Addr} {proof : List UInt8} {c4 : Value} (hM : Heading bw h cap n6 w0 v5 text px pf proof c4 v6 i v5x h5x wx) (hhw : w0.heap.size ≤ h) (hi : i < cap)
    (hx : wx.heap[x]? = some (.cells #[.int .i64 (n6 : Int), .int .i64 (i : Int)] 3 (0, 0))) : Heading bw h cap n6 w0 v5 text px pf proof c4 v6 (i + 1) v5x h5x (wx.setCell ⟨h, i, none⟩ (.slice (some ⟨x, 0, none⟩) 2 2)) := by
  obtain ⟨cs, h1, h2, h3⟩ := hM.row
  have hwt := hM.at_
  unfold WAt at hwt
  have ho : Only (· = h) wx (wx.setCell ⟨h, i, none⟩ (.slice (some ⟨x, 0, none⟩) 2 2)) := (Only.refl _ _).setAt _ _
  have hint : ∀ (y : Nat) (c : Array Value), wx.heap[y]? = some (.cells c 3 (0, 0)) → (wx.setCell ⟨h, i, none⟩ (.slice (some ⟨x, 0, none⟩) 2 2)).heap[y]? = some (.cells c 3 (0, 0)) := fun y c hy => by
    rw [ho.block y (blk_lt hy) (fun e => by subst e; exact absurd (types_ne hy h1) (by decide))]; exact hy
  refine ⟨(ho.block bw (blk_lt hwt) (fun e => by subst e; exact absurd (types_ne hwt h1) (by decide))).trans hwt, hM.only.setCell (p := ⟨h, i, none⟩) (Or.inr hhw) _, ?_, ?_, hM.old, hM.noth, _, blk_set h1 i _, by simpa using h2, ?_⟩
  · exact hM.o5.kept (row := some h) ⟨ho.os, ho.tape, ho.output, ho.size, fun j hj hne => ho.block j hj (fun e => hne (by rw [e]))⟩ (Or.inr hM.noth)
  · refine ls_keep hM.ls ho fun j hj g c hg hc e => ?_
    subst e
    exact absurd (types_ne hc h1) (by decide)
  · intro j hj
    by_cases hji : j = i
    · subst hji
      exact ⟨x, by simp [h2, hi], hint _ _ hx⟩
    · obtain ⟨y, h4, h5⟩ := h3 j (by omega)
      exact ⟨y, by rw [Array.getElem?_setIfInBounds_ne (by omega)]; exact h4, hint _ _ h5⟩
/-- What is left behind the last append. -/
theorem Heading.done {bw h cap : Nat} {w0 wx w4 : World} {v5 v6 v5x v6' : Value} {h5s h6s h5x : List Value} {text : List UInt8} {px pf : Option Addr} {proof : List UInt8} {c4 : Value} (hL : ListsAt bw w0 v5 v6 h5s h6s) (hw0 : WAt w0 bw text px pf proof c4 v5 v6) (hcm : cap ≤ maxLen) (hM : Heading bw h cap h6s.length w0 v5 text px pf proof c4 v6 cap v5x h5x wx)
    (hg : wx.grownBy w4 v6.ownBlock) (ho6 : w4.ownsRow (bw + 1) 45 1 v6' (h6s.length + 1) (h6s ++ [.slice (some ⟨h, 0, none⟩) cap cap])) :
    WAt (w4.setCell ⟨bw, 6, none⟩ v6') bw text px pf proof c4 v5x v6' ∧ ListsAt bw (w4.setCell ⟨bw, 6, none⟩ v6') v5x v6' h5x (h6s ++ [.slice (some ⟨h, 0, none⟩) cap cap]) ∧ Only (fun j => j = bw ∨ v5.ownBlock = some j ∨ v6.ownBlock = some j) w0 (w4.setCell ⟨bw, 6, none⟩ v6') := by
  have hwt := hM.at_
  have hwt' := hwt
  unfold WAt at hwt'
  have hw0' := hw0
  unfold WAt at hw0'
  -- the row of lss in the world at hand
  have hT : ∀ k, k < w0.heap.size → (k = bw ∨ v5.ownBlock = some k) → Foreign 0 w0 [3] k := fun k _ ht => by
    rcases ht with rfl | ht
    · exact Or.inr ⟨_, _, _, hw0', by decide⟩
    · obtain ⟨c, hc⟩ := own_blk hL.o5 ht
      exact Or.inr ⟨_, _, _, hc, by decide⟩
  have ho6x : wx.ownsRow (bw + 1) 45 1 v6 h6s.length h6s := own_only (ts := [45]) hL.o6 hM.only (by simp) (fun k _ ht => by
    rcases ht with rfl | ht
    · exact Or.inr ⟨_, _, _, hw0', by decide⟩
    · obtain ⟨c, hc⟩ := own_blk hL.o5 ht
      exact Or.inr ⟨_, _, _, hc, by decide⟩)
  have hlssx : LssAt wx h6s := lss_keep hL.lss hM.only (fun i hi g cs h1 h2 ht => by
    rcases ht with rfl | ht
    · exact absurd (types_ne hw0' h2) (by decide)
    · exact hL.ap i hi g ht h1) hT
  have hapx : ∀ i (hi : i < h6s.length), apart v5x h6s[i] := fun i hi x h1 h2 => by
    rcases hM.old with h3 | ⟨j, h3, h4⟩
    · exact hL.ap i hi x (by rw [← h3]; exact h1) h2
    · rw [h3] at h1
      simp at h1
      subst h1
      rcases hL.lss i hi with h5 | ⟨h', n, cs, h5, _, h6, _⟩
      · rw [h5] at h2; simp [Value.ownBlock] at h2
      · rw [h5] at h2
        simp [Value.ownBlock] at h2
        subst h2
        have := blk_lt h6
        omega
  have ho4 : Only (fun j => v6.ownBlock = some j) wx w4 := ⟨hg.os, hg.tape, hg.output, hg.size, fun k hk ht => hg.block k hk (fun e => ht e.symm)⟩
  have hbw6 : v6.ownBlock ≠ some bw := fun e => by have := (hL.o6.lt _ e).1; omega
  have hw4 : WAt w4 bw text px pf proof c4 v5x v6 := (ho4.block bw (blk_lt hwt') hbw6).trans hwt'
  have hoS : Only (fun j => j = bw ∨ v6.ownBlock = some j) wx (w4.setCell ⟨bw, 6, none⟩ v6') := (ho4.mono (T' := fun j => j = bw ∨ v6.ownBlock = some j) (fun k _ h => Or.inr h)).setCell (p := ⟨bw, 6, none⟩) (Or.inl (Or.inl rfl)) _
  have hTS : ∀ ts : List TypeId, 48 ∉ ts → 45 ∉ ts → ∀ b k, k < wx.heap.size → (k = bw ∨ v6.ownBlock = some k) → Foreign b wx ts k := fun ts h1 h2 b k _ ht => by
    rcases ht with rfl | ht
    · exact Or.inr ⟨_, _, _, hwt', h1⟩
    · obtain ⟨c, hc⟩ := own_blk ho6x ht
      exact Or.inr ⟨_, _, _, hc, h2⟩
  obtain ⟨cs, hr1, hr2, hr3⟩ := hM.row
  refine ⟨blk_set hw4 6 _, ⟨own_only (ts := [25]) hM.o5 hoS (by simp) (hTS _ (by decide) (by decide) _), by simpa using ownsRow_setCell_below ho6 (a := ⟨bw, 6, none⟩) (Nat.lt_succ_self bw) _, hM.ls.only hoS (hTS _ (by decide) (by decide) _), ?_, ?_⟩, ?_⟩
  · have hold : LssAt (w4.setCell ⟨bw, 6, none⟩ v6') h6s := lss_keep hlssx hoS (fun i hi g c h1 h2 ht => by
      rcases hTS [25] (by decide) (by decide) 0 g (blk_lt h2) ht with h | ⟨c', t, fr, h4, h5⟩
      · omega
      · exact h5 (by rw [types_ne h4 h2]; simp)) (hTS _ (by decide) (by decide) _)
    intro i hi
    by_cases hil : i < h6s.length
    · rw [List.getElem_append_left hil]; exact hold i hil
    · have hie : i = h6s.length := by simp at hi; omega
      subst hie
      rw [List.getElem_concat_length rfl]
      refine Or.inr ⟨h, cap, cs, rfl, hcm, blk_only (ts := [25]) hr1 (Nat.zero_le _) hoS (by simp) (hTS _ (by decide) (by decide) _), fun k hk => ?_⟩
      obtain ⟨x, h4, h5⟩ := hr3 k hk
      exact ⟨x, h4, blk_only (ts := [3]) h5 (Nat.zero_le _) hoS (by simp) (hTS _ (by decide) (by decide) _)⟩
  · intro i hi
    by_cases hil : i < h6s.length
    · rw [List.getElem_append_left hil]; exact hapx i hil
    · have hie : i = h6s.length := by simp at hi; omega
      subst hie
      rw [List.getElem_concat_length rfl]
      intro x h1 h2
      simp [Value.ownBlock] at h2
      subst h2
      exact hM.noth h1
  · refine (hM.only.mono (T' := fun j => j = bw ∨ v5.ownBlock = some j ∨ v6.ownBlock = some j) (fun k _ h => h.elim Or.inl (fun h => Or.inr (Or.inl h)))).trans (hoS.mono (fun k _ h => h.elim Or.inl (fun h => Or.inr (Or.inr h))))
end Go.Proofs.YtgipjjhkhfihpaaGreatDoor

namespace Go.Proofs.YtgipjjhkhfihpaaGreatDoor
open Go.RowKit

theorem lists_nil {bw : Nat} {wx w4 : World} {v5 v6 v6' : Value} {h5s h6s : List Value} {text : List UInt8} {px pf : Option Addr} {proof : List UInt8} {c4 : Value} (hL : ListsAt bw wx v5 v6 h5s h6s) (hw : WAt wx bw text px pf proof c4 v5 v6)
    (hg : wx.grownBy w4 v6.ownBlock) (ho6 : w4.ownsRow (bw + 1) 45 1 v6' (h6s.length + 1) (h6s ++ [.slice none 0 0])) :
    WAt (w4.setCell ⟨bw, 6, none⟩ v6') bw text px pf proof c4 v5 v6' ∧ ListsAt bw (w4.setCell ⟨bw, 6, none⟩ v6') v5 v6' h5s (h6s ++ [.slice none 0 0]) ∧ Only (fun j => j = bw ∨ v5.ownBlock = some j ∨ v6.ownBlock = some j) wx (w4.setCell ⟨bw, 6, none⟩ v6') := by
  have hwt := hw
  unfold WAt at hwt
  have ho4 : Only (fun j => v6.ownBlock = some j) wx w4 := ⟨hg.os, hg.tape, hg.output, hg.size, fun k hk ht => hg.block k hk (fun e => ht e.symm)⟩
  have hbw6 : v6.ownBlock ≠ some bw := fun e => by have := (hL.o6.lt _ e).1; omega
  have hw4 : WAt w4 bw text px pf proof c4 v5 v6 := (ho4.block bw (blk_lt hwt) hbw6).trans hwt
  have hoS : Only (fun j => j = bw ∨ v6.ownBlock = some j) wx (w4.setCell ⟨bw, 6, none⟩ v6') := (ho4.mono (T' := fun j => j = bw ∨ v6.ownBlock = some j) (fun k _ h => Or.inr h)).setCell (p := ⟨bw, 6, none⟩) (Or.inl (Or.inl rfl)) _
  have hTS : ∀ ts : List TypeId, 48 ∉ ts → 45 ∉ ts → ∀ b k, k < wx.heap.size → (k = bw ∨ v6.ownBlock = some k) → Foreign b wx ts k := fun ts h1 h2 b k _ ht => by
    rcases ht with rfl | ht
    · exact Or.inr ⟨_, _, _, hwt, h1⟩
    · obtain ⟨c, hc⟩ := own_blk hL.o6 ht
      exact Or.inr ⟨_, _, _, hc, h2⟩
  refine ⟨blk_set hw4 6 _, ⟨own_only (ts := [25]) hL.o5 hoS (by simp) (hTS _ (by decide) (by decide) _), by simpa using ownsRow_setCell_below ho6 (a := ⟨bw, 6, none⟩) (Nat.lt_succ_self bw) _, hL.ls.only hoS (hTS _ (by decide) (by decide) _), ?_, ?_⟩, hoS.mono (fun k _ h => h.elim Or.inl (fun h => Or.inr (Or.inr h)))⟩
  · have hold : LssAt (w4.setCell ⟨bw, 6, none⟩ v6') h6s := lss_keep hL.lss hoS (fun i hi g c h1 h2 ht => by
      rcases hTS [25] (by decide) (by decide) 0 g (blk_lt h2) ht with h | ⟨c', t, fr, h4, h5⟩
      · omega
      · exact h5 (by rw [types_ne h4 h2]; simp)) (hTS _ (by decide) (by decide) _)
    intro i hi
    by_cases hil : i < h6s.length
    · rw [List.getElem_append_left hil]; exact hold i hil
    · have hie : i = h6s.length := by simp at hi; omega
      subst hie
      rw [List.getElem_concat_length rfl]
      exact Or.inl rfl
  · intro i hi
    by_cases hil : i < h6s.length
    · rw [List.getElem_append_left hil]; exact hL.ap i hil
    · have hie : i = h6s.length := by simp at hi; omega
      subst hie
      rw [List.getElem_concat_length rfl]
      exact (apart_nil _).symm

theorem Tryz.infoIntss : (Tryz.prog.info? 45).map (fun i => (i.zero, i.size, i.bytes)) = some (some (.slice none 0 0), 1, 24) := by kernel_rfl

theorem blockOf_eq {st : RS} {q : QS} (h : Same st q) (hn : QNice q) (k : Nat) (hk : k < (progBlocks (qFinish q).vars).length) : blockOf (finish st) k = (progBlocks (qFinish q).vars)[k] := by
  have e := progBlocks_eq (qFinish q).vars
  unfold blockOf fromOf
  rw [finish_ends h hn, order_eq h]
  simp only [e, List.getElem_map, List.getElem_range]
  rfl

theorem own_len {w : World} {base : Nat} {e : TypeId} {size : Nat} {v : Value} {n : Nat} {xs : List Value} (h : w.ownsRow base e size v n xs) : n ≤ maxLen := by
  rcases h.2 with ⟨_, h⟩ | ⟨g, cap, cur, _, _, _, h1, h2, _⟩ <;> omega

structure BlocksPost (bw : Nat) (text : List UInt8) (px pf : Option Addr) (proof : List UInt8) (c4 v5 v6 : Value) (n5 n6 : Nat) (w : World) (e : Ending) (w' : World) : Prop where
  ret : e = .returned (.bool true)
  only : Only (fun j => j = bw ∨ v5.ownBlock = some j ∨ v6.ownBlock = some j) w w'
  at_ : ∃ v5' v6' h5s h6s, WAt w' bw text px pf proof c4 v5' v6' ∧ ListsAt bw w' v5' v6' h5s h6s ∧ h5s.length ≤ n5 + 8 ∧ h6s.length = n6 + 1

set_option maxRecDepth 100000 in
set_option maxHeartbeats 3200000 in
theorem blocks_any (bw b b' : Nat) (st : RS) (q0 : QS) (text : List UInt8) (proof : List UInt8) (c4 v5 v6 : Value) (h5s h6s : List Value) (w : World)
    (hw : WAt w bw text (some ⟨b, 0, none⟩) (some ⟨b', 0, none⟩) proof c4 v5 v6) (hP : ProgAt (bw + 1) w b (qFinish q0)) (hR : RefAt (bw + 1) w b' (finish st)) (hS : Same st q0) (hN : QNice q0) (hL : ListsAt bw w v5 v6 h5s h6s)
    (hn5 : h5s.length ≤ 1048576000) (hn6 : h6s.length ≤ 1073741823) :
    Calls Tryz.prog 35 #[.pointer (some ⟨bw, 0, none⟩)] w fun e w' => BlocksPost bw text (some ⟨b, 0, none⟩) (some ⟨b', 0, none⟩) proof c4 v5 v6 h5s.length h6s.length w e w' := by
  have hbw : bw < w.heap.size := blk_lt hw
  have k1 : w.cell? ⟨bw, 1, none⟩ = some (.pointer (some ⟨b, 0, none⟩)) := by rw [blk_cell hw]; rfl
  have hvl := vars_le hN
  have HPB : Hid (∀ k (hk : k < (progBlocks (qFinish q0).vars).length), blockOf (finish st) k = (progBlocks (qFinish q0).vars)[k]) := hide (fun k hk => blockOf_eq hS hN k hk)
  have hel : (finish st).ends.length = (progBlocks (qFinish q0).vars).length := by rw [finish_ends hS hN, progBlocks_len]
  have hel8 : (progBlocks (qFinish q0).vars).length ≤ 8 := by rw [progBlocks_len]; have := ends_len (qFinish q0).vars; omega
  have hol : (finish st).order.length = (qFinish q0).vars.length := by rw [order_eq hS]; simp
  have HFE : Hid (∀ k, k < (progBlocks (qFinish q0).vars).length → fromOf (finish st) k ≤ (finish st).ends.getD k 0 ∧ (finish st).ends.getD k 0 ≤ (finish st).order.length ∧ 0 < (finish st).order.length) := hide (fun k hk => by
    have hk' : k < (endsOf (qFinish q0).vars).length := by rw [← progBlocks_len]; exact hk
    have h1 := start_le _ k hk'
    have h2 := end_le _ k hk'
    have h3 := ends_len (qFinish q0).vars
    unfold fromOf
    rw [finish_ends hS hN, hol]
    exact ⟨h1, h2, by omega⟩)
  obtain ⟨i0, hi, hz0, hz1, hz2⟩ := info_parts Tryz.infoIntss
  go_enter Tryz.func35, Tryz.ntmps35
  go_wp2_with fail
  refine (dblocks_any (bw + 1) b (qFinish q0) w hP (by omega)).mono ?_
  rintro e w1 ⟨v, hdrs, rfl, hown, hrows, hb1⟩
  have hw1 := hw.later hb1
  have hR1 := hR.later hb1
  have hbs1 := hb1.size
  clear hP hS hN
  generalize progBlocks (qFinish q0).vars = pb at *
  generalize finish st = F at *
  obtain ⟨_, vO, vE, vC, hfb, hO, hE, _⟩ := id hR1
  obtain ⟨aE, cE, rfl⟩ := own_form hE
  rw [hel] at hfb
  have k2 : w1.cell? ⟨bw, 2, none⟩ = some (.pointer (some ⟨b', 0, none⟩)) := by rw [blk_cell hw1]; rfl
  have kE : w1.cell? ⟨b', 2, none⟩ = some (.slice aE pb.length cE) := by rw [blk_cell hfb]; rfl
  have hne : ((pb.length : Int) != (pb.length : Int)) = false := by simp
  have hdl := hrows.len
  rcases hown.2 with ⟨rfl, hz⟩ | ⟨h, cap, cur, rfl, hhb, hhr, hnc, hcm, hcs, htk⟩
  · obtain rfl : pb = [] := List.length_eq_zero_iff.1 hz
    have kE' : w1.cell? ⟨b', 2, none⟩ = some (.slice aE 0 cE) := kE
    clear kE hne
    have h6 : w1.cell? ⟨bw, 6, none⟩ = some v6 := by rw [blk_cell hw1]; rfl
    have hL1 := hL.later hb1
    obtain ⟨a6, c6, rfl⟩ := own_form hL1.o6
    have hbs : bw + 1 ≤ w1.heap.size := by omega
    go_wp2_with fail
    refine wp_loop_rounds 1 ?_
    rw [rounds_succ]
    go_wp2_with fail
    refine wp_loop_rounds 1 ?_
    rw [rounds_succ]
    go_wp2_with fail
    refine wp_loop_rounds 1 ?_
    rw [rounds_succ]
    have hbw6 : (Value.slice a6 h6s.length c6).ownBlock ≠ some bw := fun e => by have := (hL1.o6.lt _ e).1; omega
    go_wp2_with (at_builtin; refine wpList_append_at rfl (.tmp 100) (.tmp 102) 46 rfl (bw + 1) i0 (.slice none 0 0) 1 24 Tryz.underlying46 hi hz0 hz1 hz2 rfl (by decide) _ _ _ hL1.o6 rfl rfl rfl (by simp [Value.oneCell']) (by unfold maxLen; omega) (by omega) hbs ?_; intro v' w4 hown4 hgrow hat; have hw4 : WAt w4 bw text (some ⟨b, 0, none⟩) (some ⟨b', 0, none⟩) proof c4 v5 (.slice a6 h6s.length c6) := (hgrow.block bw (blk_lt hw1) (fun e => hbw6 e.symm)).trans hw1; obtain ⟨g3, cap3, rfl, hg3, hg3', hcap3, hcell3⟩ := own_pos hown4 (by omega); have hq6 : w4.cell? ⟨bw, 6, none⟩ = some (.slice a6 h6s.length c6) := (by rw [blk_cell hw4]; rfl); have hqz := blk_free hw4 6)
    go_ret
    obtain ⟨hA, hB, hC⟩ := lists_nil hL1 hw1 hgrow hown4
    exact ⟨rfl, (Only.of_below hb1).trans hC, _, _, _, _, hA, hB, by omega, by simp⟩
  · have HB1 := hide hb1
    have hw1' := hw1
    unfold WAt at hw1'
    go_wp2_with fail
    go_loopg [4] pb.length (fun q i wx => ∃ k : Nat, i = .int .i64 k ∧ k + q = pb.length ∧ Below w1.heap.size w1 wx)
    case atStart => exact ⟨0, rfl, by omega, Below.refl _ _⟩
    case round =>
      obtain ⟨k, rfl, hk, hbx⟩ := hrel
      obtain ⟨wo, rfl⟩ : ∃ wo, wo = wr := ⟨_, rfl⟩
      obtain ⟨go, rfl⟩ : ∃ go, go = gk := ⟨_, rfl⟩
      have hbsx := hbx.size
      by_cases hlt : k < pb.length
      · have x2 : wo.cell? ⟨bw, 2, none⟩ = some (.pointer (some ⟨b', 0, none⟩)) := by rw [hbx.cell (p := ⟨bw, 2, none⟩) (by show bw < _; omega)]; exact k2
        have hdk : decide ((k : Int) < (pb.length : Int)) = true := by simp; omega
        obtain ⟨hf1, hf2, hf3⟩ := unhide HFE k hlt
        go_wp2_with fail
        refine (block_any (bw + 1) b' k F wo (hR1.later hbx) (by omega) hf1 hf2 (by omega) hf3 (by omega)).mono ?_
        rintro e w2 ⟨vb, rfl, hints, hb2⟩
        have hbx2 : Below w1.heap.size w1 w2 := hbx.trans (hb2.mono hbsx)
        rw [unhide HPB k hlt] at hints
        obtain ⟨ab, cb, rfl, hcb⟩ := hints
        obtain ⟨hrk, hrne⟩ := hrows.row k hlt
        obtain ⟨gk', ck', hke, hgk, hgk', _, hcellk⟩ := own_pos hrk (List.length_pos_iff.2 hrne)
        have hhk : w2.cell? ⟨h, k, none⟩ = some (.slice (some ⟨gk', 0, none⟩) pb[k].length ck') := by
          rw [hbx2.cell (p := ⟨h, k, none⟩) (blk_lt hhr), blk_cell hhr]
          have e1 : (cur.toList.take (pb.length * 1))[k]? = some hdrs[k] := by rw [htk]; exact List.getElem?_eq_getElem (by omega)
          rw [List.getElem?_take, if_pos (by omega)] at e1
          rw [hke] at e1
          simpa using e1
        have hne2 : ((pb[k].length : Int) != (pb[k].length : Int)) = false := by simp
        have hbs2 := hbx2.size
        have hpl := own_len hrk
        unfold maxLen at hpl
        go_wp2_with fail
        go_loopg [6] pb[k].length (fun q i wx => ∃ j : Nat, i = .int .i64 j ∧ j + q = pb[k].length ∧ Below w2.heap.size w2 wx)
        case atStart => exact ⟨0, rfl, by omega, Below.refl _ _⟩
        case round =>
          obtain ⟨j, rfl, hj, hby⟩ := hrel
          have hbys := hby.size
          by_cases hjl : j < pb[k].length
          · obtain ⟨gb, ob, rfl, hcj⟩ := hcb j hjl
            have y1 : wr.cell? ⟨gb, ob + j, none⟩ = some (.int .i64 (pb[k][j] : Int)) := by rw [hby.cell (p := ⟨gb, ob + j, none⟩) (cell_lt hcj)]; exact hcj
            have y2 : wr.cell? ⟨gk', j, none⟩ = some (.int .i64 (pb[k][j] : Int)) := by
              rw [hby.cell (p := ⟨gk', j, none⟩) (by show gk' < _; omega), hbx2.cell (p := ⟨gk', j, none⟩) hgk']
              exact hcellk j _ (by simp [ints, hjl])
            have y3 : wr.cell? ⟨h, k, none⟩ = some (.slice (some ⟨gk', 0, none⟩) pb[k].length ck') := by
              rw [hby.cell (p := ⟨h, k, none⟩) (cell_lt hhk)]; exact hhk
            have hdj : decide ((j : Int) < (pb[k].length : Int)) = true := by simp; omega
            have hne3 : ((pb[k][j] : Int) != (pb[k][j] : Int)) = false := by simp
            generalize pb[k][j] = x at *
            go_wp2_with fail
            go_quiet (fail)
            go_wp2_with fail
            go_roundg (gk - 1)
            case measure => omega
            case rel => exact ⟨j + 1, by go_num, by omega, below_drewN hby nq⟩
          · have hdj : decide ((j : Int) < (pb[k].length : Int)) = false := by simp; omega
            have hjk : j ≤ pb[k].length := by omega
            go_wp2_with fail
            go_roundg (go - 1)
            case measure => omega
            case rel => exact ⟨k + 1, by go_num, by omega, hbx2.trans (hby.mono hbs2)⟩
      · have hkl : k = pb.length := by omega
        subst hkl
        have hdk : decide ((pb.length : Int) < (pb.length : Int)) = false := by simp
        have hb0 : Below w.heap.size w wo := hb1.trans (hbx.mono hbs1)
        have hrow0 : wo.heap[h]? = some (.cells cur 25 (0, 0)) := (hbx.block h (blk_lt hhr)).trans hhr
        have hM0 := Marking.start hw hL hb0 rfl hhb hrow0 (hrows.later hbx)
        have hcs' : cur.size = cap := by simpa using hcs
        have HCS := hide hcs'
        have HTK := hide htk
        have HAP := hide hrows.apart
        clear hcs hcs' htk
        go_wp2_with fail
        go_loopg [7] pb.length (fun q i wx => ∃ (k : Nat) (v5x : Value) (h5x : List Value), i = .int .i64 k ∧ k + q = pb.length ∧ h5x.length = h5s.length + k ∧ Marking bw h w v5 text (some ⟨b, 0, none⟩) (some ⟨b', 0, none⟩) proof c4 v6 hdrs cur k v5x h5x wx)
        case atStart => exact ⟨0, v5, h5s, rfl, by omega, rfl, hM0⟩
        case round =>
          obtain ⟨k, v5x, h5x, rfl, hk2, hl5, hM⟩ := hrel
          obtain ⟨gm, rfl⟩ : ∃ gm, gm = gk := ⟨_, rfl⟩
          by_cases hlt2 : k < pb.length
          · have hkd : k < hdrs.length := by omega
            obtain ⟨g, n, capg, cu, he, hg0, hgt, hcu, hnc2, hcm2⟩ := hM.fresh k (Nat.le_refl _) hkd
            have hhk : wr.cell? ⟨h, k, none⟩ = some (.slice (some ⟨g, 0, none⟩) n capg) := by
              rw [blk_cell hM.row]
              have e1 : (cur.toList.take (pb.length * 1))[k]? = some hdrs[k] := by rw [unhide HTK]; exact List.getElem?_eq_getElem hkd
              rw [List.getElem?_take, if_pos (by omega)] at e1
              rw [he] at e1
              simpa using e1
            have hdk2 : decide ((k : Int) < (pb.length : Int)) = true := by simp; omega
            have HE := hide he
            clear he
            go_wp2_with fail
            refine (mine_any bw g n capg cu h5x.length h5x v5x text _ _ proof c4 v6 wr hM.at_ hgt hcu hnc2 hcm2 hM.o5 (by omega)).mono ?_
            rintro e w3 hp
            have hpr := hp.ret
            subst hpr
            obtain ⟨v5y, hM3⟩ := hM.mine hhb hkd (unhide HE) hg0 ⟨cu, hgt⟩ hcm2 (unhide HAP) hp
            go_wp2_with fail
            go_roundg (gm - 1)
            case measure => omega
            case rel => exact ⟨k + 1, v5y, _, by go_num, by omega, by simp; omega, hM3⟩
          · have hkl2 : k = pb.length := by omega
            subst hkl2
            have hdk2 : decide ((pb.length : Int) < (pb.length : Int)) = false := by simp
            have hH0 : Heading bw h cap h6s.length w v5 text (some ⟨b, 0, none⟩) (some ⟨b', 0, none⟩) proof c4 v6 0 v5x h5x wr := Heading.start hM (unhide HCS)
            have hcm' := hcm
            unfold maxLen at hcm'
            have h6w : wr.cell? ⟨bw, 6, none⟩ = some v6 := by rw [blk_cell hM.at_]; rfl
            obtain ⟨a6, c6, rfl⟩ := own_form hL.o6
            go_wp2_with fail
            go_loopg [9] cap (fun q i wx => ∃ (k : Nat), i = .int .i64 k ∧ k + q = cap ∧ Heading bw h cap h6s.length w v5 text (some ⟨b, 0, none⟩) (some ⟨b', 0, none⟩) proof c4 (.slice a6 h6s.length c6) k v5x h5x wx)
            case atStart => exact ⟨0, rfl, by omega, hH0⟩
            case round =>
              obtain ⟨k, rfl, hk3, hH⟩ := hrel
              have x6 : wr.cell? ⟨bw, 6, none⟩ = some (.slice a6 h6s.length c6) := by rw [blk_cell hH.at_]; rfl
              by_cases hlt3 : k < cap
              · have hdk3 : decide ((k : Int) < (cap : Int)) = true := by simp; omega
                obtain ⟨cs, hr1, hr2, _⟩ := hH.row
                obtain ⟨u, hu⟩ : ∃ u, wr.cell? ⟨h, k, none⟩ = some u := by
                  rw [blk_cell hr1]
                  exact ⟨_, Array.getElem?_eq_getElem (by omega)⟩
                have hz := blk_free hr1 k
                have hhl := blk_lt hr1
                have hH2 := hH.later ((Below.refl wr.heap.size wr).alloc (Nat.le_refl _) (.cells #[.int .i64 (h6s.length : Int), .int .i64 (k : Int)] 3))
                have hH3 := hH2.set hhb hlt3 (heap_alloc_new wr _)
                rw [World.setCell_alloc_past _ _ _ _ hhl] at hH3
                clear hH2
                go_wp2_with fail
                go_roundg (gk - 1)
                case measure => omega
                case rel => exact ⟨k + 1, by go_num, by omega, hH3⟩
              · have hkl3 : k = cap := by omega
                subst hkl3
                have hdk3 : decide ((k : Int) < (k : Int)) = false := by simp
                have hw0' := hw
                unfold WAt at hw0'
                have ho6x : wr.ownsRow (bw + 1) 45 1 (.slice a6 h6s.length c6) h6s.length h6s := own_only (ts := [45]) hL.o6 hH.only (by simp) (fun k _ ht => by
                  rcases ht with rfl | ht
                  · exact Or.inr ⟨_, _, _, hw0', by decide⟩
                  · obtain ⟨c, hc⟩ := own_blk hL.o5 ht
                    exact Or.inr ⟨_, _, _, hc, by decide⟩)
                have hwx := hH.at_
                have hbs : bw + 1 ≤ wr.heap.size := by have := blk_lt hwx; omega
                have hbw6 : (Value.slice a6 h6s.length c6).ownBlock ≠ some bw := fun e => by have := (ho6x.lt _ e).1; omega
                go_wp2_with (at_builtin; refine wpList_append_at rfl (.tmp 100) (.tmp 102) 46 rfl (bw + 1) i0 (.slice none 0 0) 1 24 Tryz.underlying46 hi hz0 hz1 hz2 rfl (by decide) _ _ _ ho6x rfl rfl rfl (by simp [Value.oneCell']) (by unfold maxLen; omega) (by omega) hbs ?_; intro v' w4 hown4 hgrow hat; have hw4 : WAt w4 bw text (some ⟨b, 0, none⟩) (some ⟨b', 0, none⟩) proof c4 v5x (.slice a6 h6s.length c6) := (hgrow.block bw (blk_lt hwx) (fun e => hbw6 e.symm)).trans hwx; obtain ⟨g3, cap3, rfl, hg3, hg3', hcap3, hcell3⟩ := own_pos hown4 (by omega); have hq6 : w4.cell? ⟨bw, 6, none⟩ = some (.slice a6 h6s.length c6) := (by rw [blk_cell hw4]; rfl); have hqz := blk_free hw4 6)
                go_ret
                obtain ⟨hA, hB, hC⟩ := Heading.done hL hw hcm hH hgrow hown4
                exact ⟨rfl, hC, _, _, _, _, hA, hB, by omega, by simp⟩
end Go.Proofs.YtgipjjhkhfihpaaGreatDoor

namespace Go.Proofs.YtgipjjhkhfihpaaGreatDoor
open Go.RowKit

/-- What one step leaves, with lists. -/
structure StepL (bw : Nat) (text proof : List UInt8) (o : OpV) (c4 v5 v6 : Value) (n5 n6 : Nat) (w : World) (e : Ending) (w' : World) : Prop where
  ret : e = .returned (.bool true)
  below : Below bw w w'
  at_ : ∃ text' px' pf' proof' v5' v6' h5s h6s, WAt w' bw text' px' pf' proof' c4 v5' v6' ∧ FPair (bw + 1) w' px' pf' ∧ ListsAt bw w' v5' v6' h5s h6s ∧ h5s.length ≤ n5 + 8 ∧ h6s.length ≤ n6 + 1 ∧
    text'.length ≤ text.length + o.s.length + 1 ∧ proof'.length ≤ proof.length + o.s.length + 1

theorem stepL_base {bw : Nat} {text proof : List UInt8} {px pf : Option Addr} {o : OpV} {c4 v5 v6 : Value} {h5s h6s : List Value} {w w' : World} {e : Ending} (hw : WAt w bw text px pf proof c4 v5 v6) (hL : ListsAt bw w v5 v6 h5s h6s)
    (h : StepPost bw text proof o c4 v5 v6 w e w') : StepL bw text proof o c4 v5 v6 h5s.length h6s.length w e w' := by
  obtain ⟨h1, ho, text', px', pf', proof', hw', ht, hp, hF⟩ := h
  refine ⟨h1, ho.below (Nat.le_of_lt (blk_lt hw)) (fun k hk e => by omega), text', px', pf', proof', v5, v6, h5s, h6s, hw', hF, hL.only ho (world_foreign hw _ (by decide) 0), by omega, by omega, ht, hp⟩

set_option maxRecDepth 100000 in
set_option maxHeartbeats 1600000 in
theorem step_blocks (bw : Nat) (text : List UInt8) (px pf : Option Addr) (proof : List UInt8) (o : OpV) (c4 v5 v6 : Value) (h5s h6s : List Value) (w : World) (hw : WAt w bw text px pf proof c4 v5 v6) (hF : FPair (bw + 1) w px pf) (hL : ListsAt bw w v5 v6 h5s h6s) (hk : o.kind = 10)
    (hn5 : h5s.length ≤ 1048576000) (hn6 : h6s.length ≤ 1073741823) :
    Calls Tryz.prog 19 #[.pointer (some ⟨bw, 0, none⟩), .agg #[.int .i64 o.kind, .int .i64 o.a, .int .i64 o.b, .int .i64 o.c, S o.s, S o.t]] w fun e w' => StepL bw text proof o c4 v5 v6 h5s.length h6s.length w e w' := by
  obtain ⟨kind, a, b, c, s, t⟩ := o
  dsimp only at hk ⊢
  subst hk
  have hbw : bw < w.heap.size := blk_lt hw
  have h1 : w.cell? ⟨bw, 1, none⟩ = some (.pointer px) := by rw [blk_cell hw]; rfl
  have hbel : Below w.heap.size w (w.alloc (.cells #[.int .i64 10, .int .i64 a, .int .i64 b, .int .i64 c, S s, S t] 29)) := (Below.refl _ _).alloc (Nat.le_refl _) _
  rcases hF with ⟨rfl, rfl⟩ | ⟨b1, b2, st, q0, rfl, rfl, hP, hR, hS, h24, hN⟩
  · go_enter Tryz.func19, Tryz.ntmps19
    go_wp2_with fail
    go_ret
    exact ⟨rfl, hbel.mono (Nat.le_of_lt hbw), text, none, none, proof, v5, v6, h5s, h6s, hw.later hbel, Or.inl ⟨rfl, rfl⟩, hL.later hbel, by omega, by omega, by simp; omega, by simp; omega⟩
  · go_enter Tryz.func19, Tryz.ntmps19
    go_wp2_with fail
    refine (blocks_any bw b1 b2 st q0 text proof c4 v5 v6 h5s h6s _ (hw.later hbel) (hP.later hbel) (hR.later hbel) hS hN (hL.later hbel) hn5 hn6).mono ?_
    intro e w2 hp
    obtain ⟨rfl, ho, v5', v6', h5s', h6s', hw', hL', hl5, hl6⟩ := hp
    have hsz := hbel.size
    have hL0 := hL.later hbel
    have hw0 := hw.later hbel
    unfold WAt at hw0
    have hFo : FPair (bw + 1) w2 (some ⟨b1, 0, none⟩) (some ⟨b2, 0, none⟩) := FPair.only (Or.inr ⟨b1, b2, st, q0, rfl, rfl, hP.later hbel, hR.later hbel, hS, h24, hN⟩) ho (fun k _ ht => by
      rcases ht with rfl | ht | ht
      · exact Or.inl (by omega)
      · obtain ⟨cc, hc⟩ := own_blk hL0.o5 ht
        exact Or.inr ⟨_, _, _, hc, by decide⟩
      · obtain ⟨cc, hc⟩ := own_blk hL0.o6 ht
        exact Or.inr ⟨_, _, _, hc, by decide⟩)
    have hB : Below bw w w2 := (hbel.mono (Nat.le_of_lt hbw)).trans (ho.below (by omega) (fun k hk ht => by
      rcases ht with rfl | ht | ht
      · omega
      · have := (hL0.o5.lt k ht).1; omega
      · have := (hL0.o6.lt k ht).1; omega))
    go_wp2_with fail
    go_ret
    exact ⟨rfl, hB, text, _, _, proof, v5', v6', h5s', h6s', hw', hFo, hL', hl5, by omega, by simp; omega, by simp; omega⟩

theorem stepL_any (bw : Nat) (text : List UInt8) (px pf : Option Addr) (proof : List UInt8) (o : OpV) (c4 v5 v6 : Value) (h5s h6s : List Value) (w : World) (hw : WAt w bw text px pf proof c4 v5 v6) (hF : FPair (bw + 1) w px pf) (hL : ListsAt bw w v5 v6 h5s h6s) (hk : inB [10] o.kind = true)
    (hok : o.Ok) (hpl : proof.length ≤ 1048576) (htl : text.length ≤ 1048576) (hsl : o.s.length ≤ 1048576) (hn5 : h5s.length ≤ 1048576000) (hn6 : h6s.length ≤ 1073741823) :
    Calls Tryz.prog 19 #[.pointer (some ⟨bw, 0, none⟩), .agg #[.int .i64 o.kind, .int .i64 o.a, .int .i64 o.b, .int .i64 o.c, S o.s, S o.t]] w fun e w' => StepL bw text proof o c4 v5 v6 h5s.length h6s.length w e w' := by
  unfold inB at hk
  rw [Bool.or_eq_true] at hk
  rcases hk with hk | hk
  · exact (step_base bw text px pf proof o c4 v5 v6 w hw hF hk hok hpl htl hsl).mono fun e w' h => stepL_base hw hL h
  · have : o.kind = 10 := by simp at hk; exact hk.symm
    exact step_blocks bw text px pf proof o c4 v5 v6 h5s h6s w hw hF hL this hn5 hn6

set_option maxRecDepth 100000 in
set_option maxHeartbeats 3200000 in
theorem upTo_lists (base : Nat) (ops : List OpV) (v : Value) (w : World) (hown : w.ownsRow base 29 6 v ops.length (opCells ops)) (hall : ∀ o ∈ ops, inB [10] o.kind = true ∧ o.Ok) (hsz : sizeTo ops ops.length ≤ 1048576) (hln : ops.length ≤ 1048576) :
    Calls Tryz.prog 14 #[v] w fun e w' => e = .returned (.int .i64 (-1)) ∧ Below w.heap.size w w' := by
  obtain ⟨aS, cS, rfl⟩ := own_form hown
  have HALL := hide hall; clear hall
  go_enter Tryz.func14, Tryz.ntmps14
  go_wp2_with fail
  go_loopg [4] (ops.length) (fun n i wx => ∃ (k : Nat) (text : List UInt8) (px pf : Option Addr) (proof : List UInt8) (v5 v6 : Value) (h5s h6s : List Value), i = .int .i64 k ∧ k + n = ops.length ∧ WAt wx w.heap.size text px pf proof (.slice none 0 0) v5 v6 ∧
    text.length ≤ sizeTo ops k ∧ proof.length ≤ sizeTo ops k ∧ Below w.heap.size w wx ∧ FPair (w.heap.size + 1) wx px pf ∧ ListsAt w.heap.size wx v5 v6 h5s h6s ∧ h5s.length ≤ 8 * k ∧ h6s.length ≤ k)
  case atStart => exact ⟨0, [], none, none, [], .slice none 0 0, .slice none 0 0, [], [], rfl, by omega, heap_alloc_new _ _, by simp, by simp, (Below.refl _ _).alloc (Nat.le_refl _) _, Or.inl ⟨rfl, rfl⟩, ⟨World.ownsRow_nil _ _ _ _, World.ownsRow_nil _ _ _ _, fun i hi => by simp at hi, fun i hi => by simp at hi, fun i hi => by simp at hi⟩, by simp, by simp⟩
  case round =>
    obtain ⟨k, text, px, pf, proof, v5, v6, h5s, h6s, rfl, hk, hw, htl, hpl, hb, hF, hL, hl5, hl6⟩ := hrel
    by_cases hlt : k < ops.length
    · obtain ⟨g, cap, hV, hg, hg', _, hcell⟩ := own_pos hown (by omega)
      injection hV with hV _ hV2
      subst hV hV2
      have hc : ∀ j (hj : j < 6) u, ops[k].cells[j]? = some u → wr.cell? ⟨g, k * 6 + j, none⟩ = some u := fun j hj u hu => by
        rw [hb.cell (p := ⟨g, k * 6 + j, none⟩) hg']
        exact hcell _ _ (by rw [opCells_at ops k j hlt hj]; exact hu)
      have hc0 : wr.cell? ⟨g, k * 6, none⟩ = some (.int .i64 ops[k].kind) := hc 0 (by omega) _ rfl
      have hc1 : wr.cell? ⟨g, k * 6 + 1, none⟩ = some (.int .i64 ops[k].a) := hc 1 (by omega) _ rfl
      have hc2 : wr.cell? ⟨g, k * 6 + 2, none⟩ = some (.int .i64 ops[k].b) := hc 2 (by omega) _ rfl
      have hc3 : wr.cell? ⟨g, k * 6 + 3, none⟩ = some (.int .i64 ops[k].c) := hc 3 (by omega) _ rfl
      have hc4 : wr.cell? ⟨g, k * 6 + 4, none⟩ = some (S ops[k].s) := hc 4 (by omega) _ rfl
      have hc5 : wr.cell? ⟨g, k * 6 + 5, none⟩ = some (S ops[k].t) := hc 5 (by omega) _ rfl
      obtain ⟨hbase, hok⟩ := unhide HALL _ (List.getElem_mem hlt)
      have hss := sizeTo_succ ops k hlt
      have hsl := sizeTo_le ops (k + 1) (by omega)
      have hl1 : ops[k].s.length ≤ 1048576 := by omega
      have hl2 : text.length ≤ 1048576 := by omega
      have hl3 : proof.length ≤ 1048576 := by omega
      have HSS := hide hss
      have HB := hide hbase
      clear hc hcell hss hbase
      generalize ops[k] = o at *
      go_wp2_with fail
      refine (stepL_any w.heap.size text px pf proof o _ v5 v6 h5s h6s wr hw hF hL (unhide HB) hok hl3 hl2 hl1 (by omega) (by omega)).mono ?_
      intro e w2 hp
      obtain ⟨rfl, hbel, text', px', pf', proof', v5', v6', h5s', h6s', hw2, hF2, hL2, hm5, hm6, ht2, hp2⟩ := hp
      have hb2 : Below w.heap.size w w2 := hb.trans hbel
      go_wp2_with fail
      refine (looks_any w.heap.size text' px' pf' proof' _ v5' v6' h5s' h6s' (w.heap.size + 1) (w.heap.size + 1) w2 hw2 hL2.o5 hL2.o6 hL2.ls hL2.lss (by omega) (by omega)).mono ?_
      rintro e w3 ⟨rfl, hw3⟩
      subst hw3
      go_wp2_with fail
      go_roundg (gk - 1)
      case measure => omega
      case rel =>
        have := unhide HSS
        exact ⟨k + 1, text', px', pf', proof', v5', v6', h5s', h6s', by go_num, by omega, hw2, by omega, by omega, hb2, hF2, hL2, by omega, by omega⟩
    · have hkl : k = ops.length := by omega
      subst hkl
      have h4 : wr.cell? ⟨w.heap.size, 4, none⟩ = some (.slice none 0 0) := by rw [blk_cell hw]; rfl
      go_wp2_with fail
      refine wp_loop_rounds 1 ?_
      rw [rounds_succ]
      go_wp2_with fail
      go_ret
      exact ⟨rfl, hb⟩

set_option maxRecDepth 100000 in
set_option maxHeartbeats 800000 in
theorem lists_law (ops : List OpV) (ao : Option Addr) (cap : Nat) (w : World) (hs : ScriptAt w ao ops) (hsz : Sized ops) (hln : ops.length ≤ 140737488355328) (hok : ∀ o ∈ ops, o.Ok) :
    Calls Tryz.prog 4 #[.slice ao ops.length cap] w fun e w' => e = .returned (.bool true) ∧ Below w.heap.size w w' := by
  have HOK := hide hok; clear hok
  have HU : Hid (∀ (base : Nat) (v : Value) (w' : World), smallB ops = true → w'.ownsRow base 29 6 v (ops.filter (fun o => inB [10] o.kind)).length (opCells (ops.filter (fun o => inB [10] o.kind))) → Calls Tryz.prog 14 #[v] w' fun e w'' => e = .returned (.int .i64 (-1)) ∧ Below w'.heap.size w' w'') := hide (by
    intro base v w' hsm hown
    have h1 : totTo ops ops.length ≤ 524288 := of_decide_eq_true hsm
    have h2 := filter_sizes (fun o => inB [10] o.kind) ops
    have h3 : (ops.filter (fun o => inB [10] o.kind)).length ≤ ops.length := List.length_filter_le _ _
    have h4 := totTo_le ops 0 (by omega)
    rw [totTo_zero] at h4
    refine upTo_lists base _ v w' hown ?_ (by omega) (by omega)
    intro o ho
    rw [List.mem_filter] at ho
    exact ⟨ho.2, unhide HOK o ho.1⟩)
  go_enter Tryz.func4, Tryz.ntmps4
  go_wp2_with fail
  have hbel : Below w.heap.size w (w.alloc (.cells #[.int .i64 10] 3)) := (Below.refl _ _).alloc (Nat.le_refl _) _
  have hs' : ScriptAt (w.alloc (.cells #[.int .i64 10] 3)) ao ops := by
    intro hne
    obtain ⟨b, off, h1, h2, h3⟩ := hs hne
    exact ⟨b, off, h1, Nat.lt_of_lt_of_le h2 hbel.size, fun k hk j hj u hu => by rw [hbel.cell (p := ⟨b, off + (k * 6 + j), none⟩) h2]; exact h3 k hk j hj u hu⟩
  refine (plays_any ops ao cap [10] (some ⟨w.heap.size, 0, none⟩) 1 _ hs' (fun _ => ⟨w.heap.size, 0, rfl, by simp, fun j hj => by
    have hj0 : j = 0 := by simp at hj; omega
    subst hj0
    rw [blk_cell (heap_alloc_new w _)]; rfl⟩) hsz hln (by simp) HU).mono ?_
  rintro e w1 ⟨rfl, hb⟩
  go_wp2_with fail
  go_ret
  exact ⟨rfl, below_trans hbel hb⟩
end Go.Proofs.YtgipjjhkhfihpaaGreatDoor

namespace Go.Proofs.YtgipjjhkhfihpaaGreatDoor
open Go.ChangeShapes Go.WideShapes Go.ChangeAt Go.RowKit Go.Deep

theorem Tryz.cellsOp : Tryz.prog.cellsOf 29 = 6 := by kernel_rfl
theorem Tryz.cellsInt : Tryz.prog.cellsOf 3 = 1 := by kernel_rfl
theorem Tryz.cellsStr : Tryz.prog.cellsOf 9 = 1 := by kernel_rfl
theorem Tryz.bytesOp : Tryz.prog.bytesOf 29 = 64 := by kernel_rfl
theorem Tryz.own : ownKnob Tryz.prog.godebug = none := by kernel_rfl
theorem Tryz.laidOut : laidOutB Tryz.prog = true := by kernel_rfl

section
variable {H : Type} {enc : TypeId × Value → H} {w : World} {base : Nat} {spare : Nat → Bool} {held : Bool}

def OpV.data (o : OpV) : DataW H := .agg [.lit (.int .i64 o.kind), .lit (.int .i64 o.a), .lit (.int .i64 o.b), .lit (.int .i64 o.c), .lit (.string o.s), .lit (.string o.t)]

theorem i64_of_wf {x : Int} (h : (Lit.int .i64 x).wf = true) : i64ok x := bounds_i64 h

set_option maxRecDepth 100000 in
set_option maxHeartbeats 800000 in
theorem open_op {n : Nat} {cs : List Value} {x : DataW H × List MemPlace} (h : DataW.trod enc Tryz.prog w base spare held n 29 cs = some x) : ∃ o : OpV, cs = o.cells ∧ o.Ok ∧ x.1 = o.data := by
  obtain ⟨xs, m, _, hx, hl, hlen, hf⟩ := DataW.trod_struct Tryz.underlying29 h
  rw [Tryz.cellsOp] at hl
  match cs, hl with
  | [c0, c1, c2, c3, c4, c5], _ =>
    have hlen' : xs.length = 6 := hlen
    match xs, hlen' with
    | [y0, y1, y2, y3, y4, y5], _ =>
      have h0 : DataW.trod enc Tryz.prog w base spare held m 3 [c0] = some y0 := by simpa [Tryz.cellsInt] using hf 0 _ rfl
      have h1 : DataW.trod enc Tryz.prog w base spare held m 3 [c1] = some y1 := by simpa [Tryz.cellsInt] using hf 1 _ rfl
      have h2 : DataW.trod enc Tryz.prog w base spare held m 3 [c2] = some y2 := by simpa [Tryz.cellsInt] using hf 2 _ rfl
      have h3 : DataW.trod enc Tryz.prog w base spare held m 3 [c3] = some y3 := by simpa [Tryz.cellsInt] using hf 3 _ rfl
      have h4 : DataW.trod enc Tryz.prog w base spare held m 9 [c4] = some y4 := by simpa [Tryz.cellsStr] using hf 4 _ rfl
      have h5 : DataW.trod enc Tryz.prog w base spare held m 9 [c5] = some y5 := by simpa [Tryz.cellsStr] using hf 5 _ rfl
      obtain ⟨k0, e0, rfl, w0⟩ := DataW.trod_int Tryz.underlying3 h0
      obtain ⟨k1, e1, rfl, w1⟩ := DataW.trod_int Tryz.underlying3 h1
      obtain ⟨k2, e2, rfl, w2⟩ := DataW.trod_int Tryz.underlying3 h2
      obtain ⟨k3, e3, rfl, w3⟩ := DataW.trod_int Tryz.underlying3 h3
      obtain ⟨s4, e4, rfl, w4⟩ := DataW.trod_string Tryz.underlying9 h4
      obtain ⟨s5, e5, rfl, w5⟩ := DataW.trod_string Tryz.underlying9 h5
      simp at e0 e1 e2 e3 e4 e5
      subst e0 e1 e2 e3 e4 e5
      exact ⟨⟨k0, k1, k2, k3, s4.data.toList, s5.data.toList⟩, rfl, ⟨i64_of_wf w0, i64_of_wf w1, i64_of_wf w2, i64_of_wf w3⟩, by rw [hx]; rfl⟩

theorem open_script {fuel : Nat} {ao : Option Addr} {len cap : Nat} {x : DataW H × List MemPlace} (h : DataW.trod enc Tryz.prog w 0 spare held fuel 22 [.slice ao len cap] = some x) :
    ∃ ops : List OpV, ops.length = len ∧ ScriptAt w ao ops ∧ (∀ o ∈ ops, o.Ok) ∧ ((ops = [] ∧ len = 0) ∨ ∃ sp, x.1 = .slice (ops.map OpV.data) sp) := by
  rcases open_slice Tryz.underlying22 h with ⟨hcs, _⟩ | ⟨a, len', cap', m, n, D, Pl, hcs, _, hl, hm, hm', hx, hel⟩
  · simp at hcs
    obtain ⟨rfl, rfl, rfl⟩ := hcs
    exact ⟨[], rfl, fun h => absurd rfl h, by simp, Or.inl ⟨rfl, rfl⟩⟩
  · simp at hcs
    obtain ⟨rfl, rfl, rfl⟩ := hcs
    have hlm : len ≤ m := by rw [hm']; split <;> omega
    have hex : ∀ i, i < len → ∃ o : OpV, w.cells? 0 (a.add (i * 6)) 6 = some o.cells ∧ o.Ok ∧ D i = o.data := by
      intro i hi
      obtain ⟨cs', h1, h2⟩ := hel i (by omega)
      rw [Tryz.cellsOp] at h1
      obtain ⟨o, rfl, h3, h4⟩ := open_op h2
      exact ⟨o, h1, h3, h4⟩
    obtain ⟨O, hO⟩ : ∃ O : Nat → OpV, ∀ i, i < len → w.cells? 0 (a.add (i * 6)) 6 = some (O i).cells ∧ (O i).Ok ∧ D i = (O i).data :=
      ⟨fun i => if h : i < len then Classical.choose (hex i h) else ⟨0, 0, 0, 0, [], []⟩, fun i hi => by
        simp only [hi, dif_pos]; exact Classical.choose_spec (hex i hi)⟩
    refine ⟨(List.range len).map O, by simp, ?_, ?_, Or.inr ⟨(List.range (m - len)).map fun j => D (len + j), ?_⟩⟩
    · intro hne
      have h0 : 0 < len := by
        rcases Nat.eq_zero_or_pos len with h0 | h0
        · subst h0; simp at hne
        · exact h0
      have hcell : ∀ k (hk : k < len) j (_ : j < 6) u, (O k).cells[j]? = some u → w.cell? ((a.add (k * 6)).add j) = some u := by
        intro k hk j hj u hu
        obtain ⟨_, hlen, hc⟩ := World.cells?_some (hO k hk).1
        rw [hc j (by omega)]; exact hu
      obtain ⟨b, off, spot⟩ := a
      have hsp : spot = none := by
        have h1 := hcell 0 h0 0 (by omega) _ rfl
        simpa [Addr.add] using World.cell?_spot h1
      subst hsp
      have hadd : ∀ k j, ((⟨b, off, none⟩ : Addr).add (k * 6)).add j = ⟨b, off + (k * 6 + j), none⟩ := by
        intro k j; rw [add_plain, add_plain, Nat.add_assoc]
      refine ⟨b, off, rfl, ?_, ?_⟩
      · have h1 := hcell 0 h0 0 (by omega) _ rfl
        exact World.block_lt_of_cell? w _ h1
      · intro k hk j hj u hu
        have hk' : k < len := by simpa using hk
        rw [← hadd]
        refine hcell k hk' j hj u ?_
        simpa using hu
    · intro o ho
      simp at ho
      obtain ⟨i, hi, rfl⟩ := ho
      exact (hO i hi).2.1
    · rw [hx]
      show DataW.slice _ _ = _
      congr 1
      rw [List.map_map]
      apply List.map_congr_left
      intro i hi
      exact (hO i (by simpa using hi)).2.2

theorem weightsAll_in {P : Program} {e : TypeId} : ∀ {l : List (DataW H)} {d : DataW H}, d ∈ l → ∀ n ∈ d.weights P e, n ∈ DataW.weightsAll P e l
  | d0 :: l, d, hd, n, hn => by
    simp only [DataW.weightsAll, List.mem_append]
    rcases List.mem_cons.1 hd with rfl | h
    · exact Or.inl hn
    · exact Or.inr (weightsAll_in h n hn)

set_option maxRecDepth 100000 in
theorem sized_script {ops : List OpV} {sp : List (DataW H)} (h : (DataW.weightsEach Tryz.prog [22] [.slice (ops.map OpV.data) sp]).all (· ≤ reachBytes) = true) : Sized ops ∧ ops.length ≤ 140737488355328 := by
  constructor
  · intro o ho
    have key : ∀ n ∈ (o.data : DataW H).weights Tryz.prog 29, n ≤ reachBytes := by
      intro n hn
      refine of_decide_eq_true (List.all_eq_true.1 h n (DataW.weights_mem_each (j := 0) rfl rfl n ?_))
      simp only [DataW.weights, Tryz.underlying22, List.mem_cons, List.mem_append]
      exact Or.inr (Or.inl (weightsAll_in (List.mem_map_of_mem ho) n hn))
    have hr : reachBytes < 2 ^ 47 := reachBytes_lt
    have k1 := key o.s.length (by simp [OpV.data, DataW.weights, DataW.weightsEach, Tryz.underlying29])
    have k2 := key o.t.length (by simp [OpV.data, DataW.weights, DataW.weightsEach, Tryz.underlying29])
    constructor <;> omega
  · have := sized_slice h (j := 0) (t := 22) (e := 29) rfl rfl Tryz.underlying22
    rw [Tryz.bytesOp] at this
    have hr : reachBytes < 2 ^ 47 := reachBytes_lt
    simp at this
    omega
end
end Go.Proofs.YtgipjjhkhfihpaaGreatDoor
