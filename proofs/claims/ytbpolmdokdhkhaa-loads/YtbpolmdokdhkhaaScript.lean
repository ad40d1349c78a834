import Derived.Test.YtbpolmdokdhkhaaRows
import Derived.Test.YtbpolmdokdhkhaaLaw3
import Derived.ProofKit
import Derived.SizedLaws
import Derived.OpenShut
import Derived.Deep.Slices
namespace Go.Proofs.Ytbpolmdokdhkhaa
open Go.ChangeShapes Go.WideShapes Go.ChangeAt Go.RowKit Go.Deep

theorem Try.cellsOp : Try.prog.cellsOf 39 = 6 := by kernel_rfl
theorem Try.cellsInt : Try.prog.cellsOf 3 = 1 := by kernel_rfl
theorem Try.cellsStr : Try.prog.cellsOf 9 = 1 := by kernel_rfl
theorem Try.bytesOp : Try.prog.bytesOf 39 = 64 := by kernel_rfl
theorem Try.own : ownKnob Try.prog.godebug = none := by kernel_rfl
theorem Try.laidOut : laidOutB Try.prog = true := by kernel_rfl

section
variable {H : Type} {enc : TypeId × Value → H} {w : World} {base : Nat} {spare : Nat → Bool} {held : Bool}

def OpV.data (o : OpV) : DataW H := .agg [.lit (.int .i64 o.kind), .lit (.int .i64 o.a), .lit (.int .i64 o.b), .lit (.int .i64 o.c), .lit (.string o.s), .lit (.string o.t)]

theorem i64_of_wf {x : Int} (h : (Lit.int .i64 x).wf = true) : i64ok x := bounds_i64 h

set_option maxRecDepth 100000 in
set_option maxHeartbeats 800000 in
theorem open_op {n : Nat} {cs : List Value} {x : DataW H × List MemPlace} (h : DataW.trod enc Try.prog w base spare held n 39 cs = some x) : ∃ o : OpV, cs = o.cells ∧ o.Ok ∧ x.1 = o.data := by
  obtain ⟨xs, m, _, hx, hl, hlen, hf⟩ := DataW.trod_struct Try.underlying39 h
  rw [Try.cellsOp] at hl
  match cs, hl with
  | [c0, c1, c2, c3, c4, c5], _ =>
    have hlen' : xs.length = 6 := hlen
    match xs, hlen' with
    | [y0, y1, y2, y3, y4, y5], _ =>
      have h0 : DataW.trod enc Try.prog w base spare held m 3 [c0] = some y0 := by simpa [Try.cellsInt] using hf 0 _ rfl
      have h1 : DataW.trod enc Try.prog w base spare held m 3 [c1] = some y1 := by simpa [Try.cellsInt] using hf 1 _ rfl
      have h2 : DataW.trod enc Try.prog w base spare held m 3 [c2] = some y2 := by simpa [Try.cellsInt] using hf 2 _ rfl
      have h3 : DataW.trod enc Try.prog w base spare held m 3 [c3] = some y3 := by simpa [Try.cellsInt] using hf 3 _ rfl
      have h4 : DataW.trod enc Try.prog w base spare held m 9 [c4] = some y4 := by simpa [Try.cellsStr] using hf 4 _ rfl
      have h5 : DataW.trod enc Try.prog w base spare held m 9 [c5] = some y5 := by simpa [Try.cellsStr] using hf 5 _ rfl
      obtain ⟨k0, e0, rfl, w0⟩ := DataW.trod_int Try.underlying3 h0
      obtain ⟨k1, e1, rfl, w1⟩ := DataW.trod_int Try.underlying3 h1
      obtain ⟨k2, e2, rfl, w2⟩ := DataW.trod_int Try.underlying3 h2
      obtain ⟨k3, e3, rfl, w3⟩ := DataW.trod_int Try.underlying3 h3
      obtain ⟨s4, e4, rfl, w4⟩ := DataW.trod_string Try.underlying9 h4
      obtain ⟨s5, e5, rfl, w5⟩ := DataW.trod_string Try.underlying9 h5
      simp at e0 e1 e2 e3 e4 e5
      subst e0 e1 e2 e3 e4 e5
      exact ⟨⟨k0, k1, k2, k3, s4.data.toList, s5.data.toList⟩, rfl, ⟨i64_of_wf w0, i64_of_wf w1, i64_of_wf w2, i64_of_wf w3⟩, by rw [hx]; rfl⟩

theorem open_script {fuel : Nat} {ao : Option Addr} {len cap : Nat} {x : DataW H × List MemPlace} (h : DataW.trod enc Try.prog w 0 spare held fuel 22 [.slice ao len cap] = some x) :
    ∃ ops : List OpV, ops.length = len ∧ ScriptAt w ao ops ∧ (∀ o ∈ ops, o.Ok) ∧ ((ops = [] ∧ len = 0) ∨ ∃ sp, x.1 = .slice (ops.map OpV.data) sp) := by
  rcases open_slice Try.underlying22 h with ⟨hcs, _⟩ | ⟨a, len', cap', m, n, D, Pl, hcs, _, hl, hm, hm', hx, hel⟩
  · simp at hcs
    obtain ⟨rfl, rfl, rfl⟩ := hcs
    exact ⟨[], rfl, fun h => absurd rfl h, by simp, Or.inl ⟨rfl, rfl⟩⟩
  · simp at hcs
    obtain ⟨rfl, rfl, rfl⟩ := hcs
    have hlm : len ≤ m := by rw [hm']; split <;> omega
    have hex : ∀ i, i < len → ∃ o : OpV, w.cells? 0 (a.add (i * 6)) 6 = some o.cells ∧ o.Ok ∧ D i = o.data := by
      intro i hi
      obtain ⟨cs', h1, h2⟩ := hel i (by omega)
      rw [Try.cellsOp] at h1
      obtain ⟨o, rfl, h3, h4⟩ := open_op h2
      exact ⟨o, h1, h3, h4⟩
    obtain ⟨O, hO⟩ : ∃ O : Nat → OpV, ∀ i, i < len → w.cells? 0 (a.add (i * 6)) 6 = some (O i).cells ∧ (O i).Ok ∧ D i = (O i).data :=
      ⟨fun i => if h : i < len then Classical.choose (hex i h) else ⟨0, 0, 0, 0, [], []⟩, fun i hi => by
        simp only [hi, dif_pos]; exact Classical.choose_spec (hex i hi)⟩
    refine ⟨(List.range len).map O, by simp, ?_, ?_, Or.inr ⟨(List.range (m - len)).map fun j => D (len + j), ?_⟩⟩
    · intro hne
      have h0 : 0 < len := by
        rcases Nat.eq_zero_or_pos len with h0 | h0
        · subst h0; simp at hne
        · exact h0
      have hcell : ∀ k (hk : k < len) j (_ : j < 6) u, (O k).cells[j]? = some u → w.cell? ((a.add (k * 6)).add j) = some u := by
        intro k hk j hj u hu
        obtain ⟨_, hlen, hc⟩ := World.cells?_some (hO k hk).1
        rw [hc j (by omega)]; exact hu
      obtain ⟨b, off, spot⟩ := a
      have hsp : spot = none := by
        have h1 := hcell 0 h0 0 (by omega) _ rfl
        simpa [Addr.add] using World.cell?_spot h1
      subst hsp
      have hadd : ∀ k j, ((⟨b, off, none⟩ : Addr).add (k * 6)).add j = ⟨b, off + (k * 6 + j), none⟩ := by
        intro k j; rw [add_plain, add_plain, Nat.add_assoc]
      refine ⟨b, off, rfl, ?_, ?_⟩
      · have h1 := hcell 0 h0 0 (by omega) _ rfl
        exact World.block_lt_of_cell? w _ h1
      · intro k hk j hj u hu
        have hk' : k < len := by simpa using hk
        rw [← hadd]
        refine hcell k hk' j hj u ?_
        simpa using hu
    · intro o ho
      simp at ho
      obtain ⟨i, hi, rfl⟩ := ho
      exact (hO i hi).2.1
    · rw [hx]
      show DataW.slice _ _ = _
      congr 1
      rw [List.map_map]
      apply List.map_congr_left
      intro i hi
      exact (hO i (by simpa using hi)).2.2

theorem weightsAll_in {P : Program} {e : TypeId} : ∀ {l : List (DataW H)} {d : DataW H}, d ∈ l → ∀ n ∈ d.weights P e, n ∈ DataW.weightsAll P e l
  | d0 :: l, d, hd, n, hn => by
    simp only [DataW.weightsAll, List.mem_append]
    rcases List.mem_cons.1 hd with rfl | h
    · exact Or.inl hn
    · exact Or.inr (weightsAll_in h n hn)

set_option maxRecDepth 100000 in
theorem sized_script {ops : List OpV} {sp : List (DataW H)} (h : (DataW.weightsEach Try.prog [22] [.slice (ops.map OpV.data) sp]).all (· ≤ reachBytes) = true) : Sized ops ∧ ops.length ≤ 140737488355328 := by
  constructor
  · intro o ho
    have key : ∀ n ∈ (o.data : DataW H).weights Try.prog 39, n ≤ reachBytes := by
      intro n hn
      refine of_decide_eq_true (List.all_eq_true.1 h n (DataW.weights_mem_each (j := 0) rfl rfl n ?_))
      simp only [DataW.weights, Try.underlying22, List.mem_cons, List.mem_append]
      exact Or.inr (Or.inl (weightsAll_in (List.mem_map_of_mem ho) n hn))
    have hr : reachBytes < 2 ^ 47 := reachBytes_lt
    have k1 := key o.s.length (by simp [OpV.data, DataW.weights, DataW.weightsEach, Try.underlying39])
    have k2 := key o.t.length (by simp [OpV.data, DataW.weights, DataW.weightsEach, Try.underlying39])
    constructor <;> omega
  · have := sized_slice h (j := 0) (t := 22) (e := 39) rfl rfl Try.underlying22
    rw [Try.bytesOp] at this
    have hr : reachBytes < 2 ^ 47 := reachBytes_lt
    simp at this
    omega
end
end Go.Proofs.Ytbpolmdokdhkhaa
