import Derived.Test.YtgipjjhkhfihpaaE
import Derived.Test.YtgipjjhkhfihpaaB
import Derived.Deep.QuietTactic
import Derived.BigQuiet
import Derived.Test.YtgipjjhkhfihpaaRows
import Derived.ProofKit
import Derived.SizedLaws
import Derived.OpenShut
import Derived.Deep.Slices
namespace Go.Proofs.Ytgipjjhkhfihpaa
open Go.RowKit

theorem ProgAt.later {lo b : Nat} {w w' : World} {q : QS} (h : ProgAt lo w b q) (hb : Below w.heap.size w w') : ProgAt lo w' b q := by
  obtain ⟨h1, vV, vC, h2, h3, h4⟩ := h
  exact ⟨h1, vV, vC, (hb.block b (blk_lt h2)).trans h2, own_below h3 hb, own_below h4 hb⟩
theorem ProgAt.set {lo b bw o : Nat} {w : World} {q : QS} {u : Value} (h : ProgAt lo w b q) (hlt : bw < lo) : ProgAt lo (w.setCell ⟨bw, o, none⟩ u) b q := by
  obtain ⟨h1, vV, vC, h2, h3, h4⟩ := h
  exact ⟨h1, vV, vC, (Below.heap_setCell _ _ _ _ (by show b ≠ bw; omega)).trans h2, ownsRow_setCell_below h3 (a := ⟨bw, o, none⟩) hlt u, ownsRow_setCell_below h4 (a := ⟨bw, o, none⟩) hlt u⟩
theorem ProgAt.lo {lo lo' b : Nat} {w : World} {q : QS} (h : ProgAt lo w b q) (hl : lo' ≤ lo) : ProgAt lo' w b q := by
  obtain ⟨h1, vV, vC, h2, h3, h4⟩ := h
  exact ⟨by omega, vV, vC, h2, own_lo h3 hl, own_lo h4 hl⟩
/-- A block that is below lo, or of none of these types. -/
def Foreign (lo : Nat) (w : World) (ts : List TypeId) (k : Nat) : Prop := k < lo ∨ ∃ cs t fr, w.heap[k]? = some (.cells cs t fr) ∧ t ∉ ts
theorem own_only {w w' : World} {T : Nat → Prop} {base : Nat} {e : TypeId} {size : Nat} {v : Value} {n : Nat} {xs : List Value} {ts : List TypeId} (h : w.ownsRow base e size v n xs) (ho : Only T w w') (he : e ∈ ts) (hT : ∀ k, k < w.heap.size → T k → Foreign base w ts k) : w'.ownsRow base e size v n xs := by
  obtain ⟨h1, h2⟩ := h
  refine ⟨h1, ?_⟩
  rcases h2 with h2 | ⟨g, cap, cur, rfl, hg, hh, h3⟩
  · exact Or.inl h2
  · refine Or.inr ⟨g, cap, cur, rfl, hg, ?_, h3⟩
    rw [ho.block g (blk_lt hh) (fun ht => ?_)]
    · exact hh
    · rcases hT g (blk_lt hh) ht with h | ⟨cs, t, fr, h4, h5⟩
      · omega
      · rw [hh] at h4
        simp at h4
        exact h5 (h4.2.1 ▸ he)
theorem blk_only {w w' : World} {T : Nat → Prop} {lo b : Nat} {cs : Array Value} {t : TypeId} {fr : Nat × Nat} {ts : List TypeId} (h : w.heap[b]? = some (.cells cs t fr)) (hlo : lo ≤ b) (ho : Only T w w') (he : t ∈ ts) (hT : ∀ k, k < w.heap.size → T k → Foreign lo w ts k) : w'.heap[b]? = some (.cells cs t fr) := by
  rw [ho.block b (blk_lt h) (fun ht => ?_)]
  · exact h
  · rcases hT b (blk_lt h) ht with h1 | ⟨cs', t', fr', h4, h5⟩
    · omega
    · rw [h] at h4
      simp at h4
      exact h5 (h4.2.1 ▸ he)
end Go.Proofs.Ytgipjjhkhfihpaa

namespace Go.Proofs.Ytgipjjhkhfihpaa
open Go.RowKit

/-- One step of a script. -/
structure OpV where
  kind : Int
  a : Int
  b : Int
  c : Int
  s : List UInt8
  t : List UInt8
def OpV.cells (o : OpV) : List Value := [.int .i64 o.kind, .int .i64 o.a, .int .i64 o.b, .int .i64 o.c, S o.s, S o.t]
def i64ok (x : Int) : Prop := -9223372036854775808 ≤ x ∧ x ≤ 9223372036854775807
structure OpV.Ok (o : OpV) : Prop where
  kind : i64ok o.kind
  a : i64ok o.a
  b : i64ok o.b
  c : i64ok o.c

theorem here_foreign {bw : Nat} {w : World} {ts : List TypeId} : ∀ k, k < w.heap.size → k = bw → Foreign (bw + 1) w ts k := fun k _ e => Or.inl (by omega)

theorem Only.pre {T : Nat → Prop} {a b c : World} (h : Below a.heap.size a b) (k : Only T b c) : Only T a c := (Only.of_below h).trans k

/-- The kinds of steps that only turn texts. -/
def base4 (k : Int) : Bool := k == 1 || k == 2 || k == 4 || k == 5
def opCells (l : List OpV) : List Value := l.flatMap OpV.cells
theorem opCells_length (l : List OpV) : (opCells l).length = l.length * 6 := by
  induction l with
  | nil => rfl
  | cons a l ih => simp [opCells, OpV.cells] at *; omega
theorem opCells_snoc (l : List OpV) (o : OpV) : opCells (l ++ [o]) = opCells l ++ o.cells := by simp [opCells]
theorem opCells_at (l : List OpV) (k j : Nat) (h : k < l.length) (hj : j < 6) : (opCells l)[k * 6 + j]? = l[k].cells[j]? := by
  induction l generalizing k with
  | nil => simp at h
  | cons a l ih =>
    cases k with
    | zero =>
      simp only [opCells, List.flatMap_cons]
      rw [List.getElem?_append_left (by simp [OpV.cells]; omega)]
      simp
    | succ k =>
      have := ih k (by simpa using h)
      simp only [opCells, List.flatMap_cons] at this ⊢
      rw [show (k + 1) * 6 + j = k * 6 + j + 6 from by omega, List.getElem?_append_right (by simp [OpV.cells])]
      simpa [OpV.cells] using this
def sizeTo (l : List OpV) (k : Nat) : Nat := ((l.take k).map (fun o => o.s.length + 1)).sum
theorem sizeTo_succ (l : List OpV) (k : Nat) (h : k < l.length) : sizeTo l (k + 1) = sizeTo l k + (l[k].s.length + 1) := by
  unfold sizeTo
  rw [List.take_succ_eq_append_getElem h, List.map_append, List.sum_append]
  simp only [List.map_cons, List.map_nil, List.sum_cons, List.sum_nil, Nat.add_zero]
theorem sizeTo_le (l : List OpV) (k : Nat) (_h : k ≤ l.length) : sizeTo l k ≤ sizeTo l l.length := by
  have e : l.take l.length = l.take k ++ l.drop k := by rw [List.take_length, List.take_append_drop]
  unfold sizeTo
  rw [e, List.map_append, List.sum_append]
  omega

end Go.Proofs.Ytgipjjhkhfihpaa

namespace Go.Proofs.Ytgipjjhkhfihpaa
open Go.RowKit

/-- A script lies at an address. -/
def ScriptAt (w : World) (ao : Option Addr) (ops : List OpV) : Prop :=
  ops ≠ [] → ∃ b off, ao = some ⟨b, off, none⟩ ∧ b < w.heap.size ∧ ∀ k (hk : k < ops.length) j (_ : j < 6) u, ops[k].cells[j]? = some u → w.cell? ⟨b, off + (k * 6 + j), none⟩ = some u
theorem ScriptAt.cells {w wr : World} {b off : Nat} {ops : List OpV} (h : ∀ k (hk : k < ops.length) j (_ : j < 6) u, ops[k].cells[j]? = some u → w.cell? ⟨b, off + (k * 6 + j), none⟩ = some u) (hlt : b < w.heap.size) (hb : Below w.heap.size w wr) (k : Nat) (hk : k < ops.length) :
    wr.cell? ⟨b, off + k * 6, none⟩ = some (.int .i64 ops[k].kind) ∧ wr.cell? ⟨b, off + k * 6 + 1, none⟩ = some (.int .i64 ops[k].a) ∧ wr.cell? ⟨b, off + k * 6 + 2, none⟩ = some (.int .i64 ops[k].b) ∧
    wr.cell? ⟨b, off + k * 6 + 3, none⟩ = some (.int .i64 ops[k].c) ∧ wr.cell? ⟨b, off + k * 6 + 4, none⟩ = some (S ops[k].s) ∧ wr.cell? ⟨b, off + k * 6 + 5, none⟩ = some (S ops[k].t) := by
  have hc : ∀ j (_ : j < 6) u, ops[k].cells[j]? = some u → wr.cell? ⟨b, off + k * 6 + j, none⟩ = some u := fun j hj u hu => by
    rw [hb.cell (p := ⟨b, off + k * 6 + j, none⟩) hlt, show off + k * 6 + j = off + (k * 6 + j) from by omega]; exact h k hk j hj u hu
  exact ⟨hc 0 (by omega) _ rfl, hc 1 (by omega) _ rfl, hc 2 (by omega) _ rfl, hc 3 (by omega) _ rfl, hc 4 (by omega) _ rfl, hc 5 (by omega) _ rfl⟩

def totTo (ops : List OpV) (k : Nat) : Nat := ops.length + ((ops.take k).map (fun o => o.s.length + o.t.length)).sum
theorem totTo_succ (ops : List OpV) (k : Nat) (h : k < ops.length) : totTo ops (k + 1) = totTo ops k + (ops[k].s.length + ops[k].t.length) := by
  unfold totTo
  rw [List.take_succ_eq_append_getElem h, List.map_append, List.sum_append]
  simp only [List.map_cons, List.map_nil, List.sum_cons, List.sum_nil, Nat.add_zero]
  omega
theorem totTo_le (ops : List OpV) (k : Nat) (_h : k ≤ ops.length) : totTo ops k ≤ totTo ops ops.length := by
  have e : ops.take ops.length = ops.take k ++ ops.drop k := by rw [List.take_length, List.take_append_drop]
  unfold totTo
  rw [e, List.map_append, List.sum_append]
  omega
theorem totTo_zero (ops : List OpV) : totTo ops 0 = ops.length := by simp [totTo]
def smallB (ops : List OpV) : Bool := decide (totTo ops ops.length ≤ 524288)
/-- Each text takes as many bytes as may be. -/
def Sized (ops : List OpV) : Prop := ∀ o ∈ ops, o.s.length ≤ 140737488355328 ∧ o.t.length ≤ 140737488355328

theorem drewN_below (w : World) (n : Nat) : Below w.heap.size w (w.drewN n) := below_drewN (Below.refl _ _) n

/-! ### plays -/
/-- Numbers lie at an address. -/
def KindsAt (w : World) (ko : Option Addr) (ks : List Int) : Prop :=
  ks ≠ [] → ∃ b off, ko = some ⟨b, off, none⟩ ∧ b < w.heap.size ∧ ∀ j (hj : j < ks.length), w.cell? ⟨b, off + j, none⟩ = some (.int .i64 ks[j])
def inB (ks : List Int) (k : Int) : Bool := base4 k || ks.any (· == k)
def selTo (ks : List Int) (ops : List OpV) (k : Nat) : List OpV := (ops.take k).filter (fun o => inB ks o.kind)
theorem selTo_succ (ks : List Int) (ops : List OpV) (k : Nat) (h : k < ops.length) : selTo ks ops (k + 1) = selTo ks ops k ++ (if inB ks ops[k].kind then [ops[k]] else []) := by
  unfold selTo
  rw [List.take_succ_eq_append_getElem h, List.filter_append]
  congr 1
  simp [List.filter_cons]
theorem selTo_len (ks : List Int) (ops : List OpV) (k : Nat) : (selTo ks ops k).length ≤ ops.length := by
  unfold selTo
  refine Nat.le_trans (List.length_filter_le _ _) ?_
  simp; omega
theorem any_take (ks : List Int) (x : Int) (j : Nat) (h : j < ks.length) : (ks.take (j + 1)).any (· == x) = ((ks.take j).any (· == x) || (ks[j] == x)) := by
  rw [List.take_succ_eq_append_getElem h, List.any_append]; simp

theorem filter_sizes (p : OpV → Bool) (ops : List OpV) : sizeTo (ops.filter p) (ops.filter p).length ≤ totTo ops ops.length := by
  unfold sizeTo totTo
  rw [List.take_length, List.take_length]
  induction ops with
  | nil => simp
  | cons o ops ih =>
    rw [List.filter_cons]
    split
    · simp only [List.map_cons, List.sum_cons, List.length_cons]; omega
    · simp only [List.map_cons, List.sum_cons, List.length_cons]; omega

end Go.Proofs.Ytgipjjhkhfihpaa

namespace Go.Proofs.Ytgipjjhkhfihpaa
open Go.ChangeShapes Go.WideShapes Go.ChangeAt Go.RowKit Go.Deep

theorem Try.cellsInt : Try.prog.cellsOf 3 = 1 := by kernel_rfl
theorem Try.cellsStr : Try.prog.cellsOf 9 = 1 := by kernel_rfl
theorem Try.own : ownKnob Try.prog.godebug = none := by kernel_rfl
theorem Try.laidOut : laidOutB Try.prog = true := by kernel_rfl

section
variable {H : Type} {enc : TypeId × Value → H} {w : World} {base : Nat} {spare : Nat → Bool} {held : Bool}

def OpV.data (o : OpV) : DataW H := .agg [.lit (.int .i64 o.kind), .lit (.int .i64 o.a), .lit (.int .i64 o.b), .lit (.int .i64 o.c), .lit (.string o.s), .lit (.string o.t)]

theorem i64_of_wf {x : Int} (h : (Lit.int .i64 x).wf = true) : i64ok x := bounds_i64 h

theorem weightsAll_in {P : Program} {e : TypeId} : ∀ {l : List (DataW H)} {d : DataW H}, d ∈ l → ∀ n ∈ d.weights P e, n ∈ DataW.weightsAll P e l
  | d0 :: l, d, hd, n, hn => by
    simp only [DataW.weightsAll, List.mem_append]
    rcases List.mem_cons.1 hd with rfl | h
    · exact Or.inl hn
    · exact Or.inr (weightsAll_in h n hn)

end
end Go.Proofs.Ytgipjjhkhfihpaa
