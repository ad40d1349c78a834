import Derived.Test.YtgipjjhkhfihpaaGreatDoorBA
import Derived.Deep.QuietTactic
import Derived.BigQuiet
import Derived.Test.YtgipjjhkhfihpaaGreatDoorRows
import Derived.ProofKit
import Derived.SizedLaws
import Derived.OpenShut
import Derived.Deep.Slices
import Derived.Test.YtgipjjhkhfihpaaGreatDoorCards
import Derived.Test.YtgipjjhkhfihpaaGreatDoorTie
import Derived.LaidMore
import Derived.Stop.Joined
import Derived.Lib.LaidTab
import Derived.Deep.DeepHandedRow
import Derived.Test.YtgipjjhkhfihpaaGreatDoorAU
import Derived.BigRegion
namespace Go.Proofs.YtgipjjhkhfihpaaGreatDoor
open Go.RowKit

/-- A script lies at an address. -/
def ScriptAt (w : World) (ao : Option Addr) (ops : List OpV) : Prop :=
  ops ≠ [] → ∃ b off, ao = some ⟨b, off, none⟩ ∧ b < w.heap.size ∧ ∀ k (hk : k < ops.length) j (_ : j < 6) u, ops[k].cells[j]? = some u → w.cell? ⟨b, off + (k * 6 + j), none⟩ = some u
theorem ScriptAt.cells {w wr : World} {b off : Nat} {ops : List OpV} (h : ∀ k (hk : k < ops.length) j (_ : j < 6) u, ops[k].cells[j]? = some u → w.cell? ⟨b, off + (k * 6 + j), none⟩ = some u) (hlt : b < w.heap.size) (hb : Below w.heap.size w wr) (k : Nat) (hk : k < ops.length) :
    wr.cell? ⟨b, off + k * 6, none⟩ = some (.int .i64 ops[k].kind) ∧ wr.cell? ⟨b, off + k * 6 + 1, none⟩ = some (.int .i64 ops[k].a) ∧ wr.cell? ⟨b, off + k * 6 + 2, none⟩ = some (.int .i64 ops[k].b) ∧
    wr.cell? ⟨b, off + k * 6 + 3, none⟩ = some (.int .i64 ops[k].c) ∧ wr.cell? ⟨b, off + k * 6 + 4, none⟩ = some (S ops[k].s) ∧ wr.cell? ⟨b, off + k * 6 + 5, none⟩ = some (S ops[k].t) := by
  have hc : ∀ j (_ : j < 6) u, ops[k].cells[j]? = some u → wr.cell? ⟨b, off + k * 6 + j, none⟩ = some u := fun j hj u hu => by
    rw [hb.cell (p := ⟨b, off + k * 6 + j, none⟩) hlt, show off + k * 6 + j = off + (k * 6 + j) from by omega]; exact h k hk j hj u hu
  exact ⟨hc 0 (by omega) _ rfl, hc 1 (by omega) _ rfl, hc 2 (by omega) _ rfl, hc 3 (by omega) _ rfl, hc 4 (by omega) _ rfl, hc 5 (by omega) _ rfl⟩

def totTo (ops : List OpV) (k : Nat) : Nat := ops.length + ((ops.take k).map (fun o => o.s.length + o.t.length)).sum
theorem totTo_succ (ops : List OpV) (k : Nat) (h : k < ops.length) : totTo ops (k + 1) = totTo ops k + (ops[k].s.length + ops[k].t.length) := by
  unfold totTo
  rw [List.take_succ_eq_append_getElem h, List.map_append, List.sum_append]
  simp only [List.map_cons, List.map_nil, List.sum_cons, List.sum_nil, Nat.add_zero]
  omega
theorem totTo_le (ops : List OpV) (k : Nat) (_h : k ≤ ops.length) : totTo ops k ≤ totTo ops ops.length := by
  have e : ops.take ops.length = ops.take k ++ ops.drop k := by rw [List.take_length, List.take_append_drop]
  unfold totTo
  rw [e, List.map_append, List.sum_append]
  omega
theorem totTo_zero (ops : List OpV) : totTo ops 0 = ops.length := by simp [totTo]
def smallB (ops : List OpV) : Bool := decide (totTo ops ops.length ≤ 524288)
/-- Each text takes as many bytes as may be. -/
def Sized (ops : List OpV) : Prop := ∀ o ∈ ops, o.s.length ≤ 140737488355328 ∧ o.t.length ≤ 140737488355328

set_option maxRecDepth 100000 in
set_option maxHeartbeats 1600000 in
theorem small_any (ops : List OpV) (ao : Option Addr) (cap : Nat) (w : World) (hs : ScriptAt w ao ops) (hsz : Sized ops) (hln : ops.length ≤ 140737488355328) :
    Calls Tryz.prog 13 #[.slice ao ops.length cap] w fun e w' => e = .returned (.bool (smallB ops)) ∧ Below w.heap.size w w' := by
  by_cases hlong : 524288 < ops.length
  · have hd : decide ((524288 : Int) < (ops.length : Int)) = true := by simp; omega
    have HF : Hid (smallB ops = false) := hide (by
      unfold smallB
      have := totTo_le ops 0 (by omega)
      rw [totTo_zero] at this
      simp; omega)
    go_enter Tryz.func13, Tryz.ntmps13
    go_wp2_with fail
    go_ret
    exact ⟨ret_bool (unhide HF).symm, Below.refl _ _⟩
  · have hd : decide ((524288 : Int) < (ops.length : Int)) = false := by simp; omega
    have HSZ := hide hsz; clear hsz
    go_enter Tryz.func13, Tryz.ntmps13
    go_wp2_with fail
    go_loopg [3, 4] (ops.length) (fun q n i wx => ∃ (k : Nat), i = .int .i64 k ∧ k + q = ops.length ∧ n = .int .i64 (totTo ops k : Nat) ∧ totTo ops k ≤ 524288 ∧ Below w.heap.size w wx)
    case atStart => exact ⟨0, rfl, by omega, by rw [totTo_zero], by rw [totTo_zero]; omega, Below.refl _ _⟩
    case round =>
      obtain ⟨k, rfl, hk, rfl, hle, hbm⟩ := hrel
      by_cases hlt : k < ops.length
      · obtain ⟨b, off, rfl, hbl, hcell⟩ := hs (by intro e; subst e; simp at hlt)
        obtain ⟨_, _, _, _, hc4, hc5⟩ := ScriptAt.cells hcell hbl hbm k hlt
        obtain ⟨hz1, hz2⟩ := unhide HSZ _ (List.getElem_mem hlt)
        have HTS := hide (totTo_succ ops k hlt)
        have HTL := hide (totTo_le ops (k + 1) (by omega))
        have hdk : decide ((k : Int) < (ops.length : Int)) = true := by simp; omega
        clear hcell
        generalize totTo ops k = tk at *
        generalize ops[k] = o at *
        go_wp2_with fail
        go_quiet (fail)
        by_cases hbig : 524288 < tk + (o.s.length + o.t.length)
        · have hq : decide ((524288 : Int) < (tk : Int) + (o.s.length : Int) + (o.t.length : Int)) = true := by simp; omega
          have HF : Hid (smallB ops = false) := hide (by
            unfold smallB
            have h1 := unhide HTL; have h2 := unhide HTS
            simp; omega)
          go_wp2_with fail
          go_ret
          exact ⟨ret_bool (unhide HF).symm, below_drewN hbm nq⟩
        · have hq : decide ((524288 : Int) < (tk : Int) + (o.s.length : Int) + (o.t.length : Int)) = false := by simp; omega
          go_wp2_with fail
          go_roundg (gk - 1)
          case measure => omega
          case rel =>
            refine ⟨k + 1, by go_num, by omega, ?_, by rw [unhide HTS]; omega, below_drewN hbm nq⟩
            rw [unhide HTS]; exact congrArg (Value.int .i64) (by omega)
      · have hkl : k = ops.length := by omega
        subst hkl
        have HF : Hid (smallB ops = true) := hide (by unfold smallB; simpa using hle)
        go_wp2_with fail
        go_ret
        exact ⟨ret_bool (unhide HF).symm, hbm⟩

/-! ### plays -/
/-- Numbers lie at an address. -/
def KindsAt (w : World) (ko : Option Addr) (ks : List Int) : Prop :=
  ks ≠ [] → ∃ b off, ko = some ⟨b, off, none⟩ ∧ b < w.heap.size ∧ ∀ j (hj : j < ks.length), w.cell? ⟨b, off + j, none⟩ = some (.int .i64 ks[j])
def inB (ks : List Int) (k : Int) : Bool := base4 k || ks.any (· == k)
def selTo (ks : List Int) (ops : List OpV) (k : Nat) : List OpV := (ops.take k).filter (fun o => inB ks o.kind)
theorem selTo_succ (ks : List Int) (ops : List OpV) (k : Nat) (h : k < ops.length) : selTo ks ops (k + 1) = selTo ks ops k ++ (if inB ks ops[k].kind then [ops[k]] else []) := by
  unfold selTo
  rw [List.take_succ_eq_append_getElem h, List.filter_append]
  congr 1
  simp [List.filter_cons]
theorem selTo_len (ks : List Int) (ops : List OpV) (k : Nat) : (selTo ks ops k).length ≤ ops.length := by
  unfold selTo
  refine Nat.le_trans (List.length_filter_le _ _) ?_
  simp; omega
theorem any_take (ks : List Int) (x : Int) (j : Nat) (h : j < ks.length) : (ks.take (j + 1)).any (· == x) = ((ks.take j).any (· == x) || (ks[j] == x)) := by
  rw [List.take_succ_eq_append_getElem h, List.any_append]; simp

theorem Tryz.info29 : (Tryz.prog.info? 29).map (fun i => (i.zero, i.size, i.bytes)) = some (some (.agg #[.int .i64 0, .int .i64 0, .int .i64 0, .int .i64 0, .string ⟨#[]⟩, .string ⟨#[]⟩]), 6, 64) := by kernel_rfl

theorem filter_sizes (p : OpV → Bool) (ops : List OpV) : sizeTo (ops.filter p) (ops.filter p).length ≤ totTo ops ops.length := by
  unfold sizeTo totTo
  rw [List.take_length, List.take_length]
  induction ops with
  | nil => simp
  | cons o ops ih =>
    rw [List.filter_cons]
    split
    · simp only [List.map_cons, List.sum_cons, List.length_cons]; omega
    · simp only [List.map_cons, List.sum_cons, List.length_cons]; omega

end Go.Proofs.YtgipjjhkhfihpaaGreatDoor

namespace Go.Proofs.YtgipjjhkhfihpaaGreatDoor
open Go.ChangeShapes Go.WideShapes Go.ChangeAt Go.RowKit Go.Deep

theorem Tryz.cellsOp : Tryz.prog.cellsOf 29 = 6 := by kernel_rfl
theorem Tryz.cellsInt : Tryz.prog.cellsOf 3 = 1 := by kernel_rfl
theorem Tryz.cellsStr : Tryz.prog.cellsOf 9 = 1 := by kernel_rfl
theorem Tryz.bytesOp : Tryz.prog.bytesOf 29 = 64 := by kernel_rfl
theorem Tryz.own : ownKnob Tryz.prog.godebug = none := by kernel_rfl
theorem Tryz.laidOut : laidOutB Tryz.prog = true := by kernel_rfl

section
variable {H : Type} {enc : TypeId × Value → H} {w : World} {base : Nat} {spare : Nat → Bool} {held : Bool}

def OpV.data (o : OpV) : DataW H := .agg [.lit (.int .i64 o.kind), .lit (.int .i64 o.a), .lit (.int .i64 o.b), .lit (.int .i64 o.c), .lit (.string o.s), .lit (.string o.t)]

theorem i64_of_wf {x : Int} (h : (Lit.int .i64 x).wf = true) : i64ok x := bounds_i64 h

set_option maxRecDepth 100000 in
set_option maxHeartbeats 800000 in
theorem open_op {n : Nat} {cs : List Value} {x : DataW H × List MemPlace} (h : DataW.trod enc Tryz.prog w base spare held n 29 cs = some x) : ∃ o : OpV, cs = o.cells ∧ o.Ok ∧ x.1 = o.data := by
  obtain ⟨xs, m, _, hx, hl, hlen, hf⟩ := DataW.trod_struct Tryz.underlying29 h
  rw [Tryz.cellsOp] at hl
  match cs, hl with
  | [c0, c1, c2, c3, c4, c5], _ =>
    have hlen' : xs.length = 6 := hlen
    match xs, hlen' with
    | [y0, y1, y2, y3, y4, y5], _ =>
      have h0 : DataW.trod enc Tryz.prog w base spare held m 3 [c0] = some y0 := by simpa [Tryz.cellsInt] using hf 0 _ rfl
      have h1 : DataW.trod enc Tryz.prog w base spare held m 3 [c1] = some y1 := by simpa [Tryz.cellsInt] using hf 1 _ rfl
      have h2 : DataW.trod enc Tryz.prog w base spare held m 3 [c2] = some y2 := by simpa [Tryz.cellsInt] using hf 2 _ rfl
      have h3 : DataW.trod enc Tryz.prog w base spare held m 3 [c3] = some y3 := by simpa [Tryz.cellsInt] using hf 3 _ rfl
      have h4 : DataW.trod enc Tryz.prog w base spare held m 9 [c4] = some y4 := by simpa [Tryz.cellsStr] using hf 4 _ rfl
      have h5 : DataW.trod enc Tryz.prog w base spare held m 9 [c5] = some y5 := by simpa [Tryz.cellsStr] using hf 5 _ rfl
      obtain ⟨k0, e0, rfl, w0⟩ := DataW.trod_int Tryz.underlying3 h0
      obtain ⟨k1, e1, rfl, w1⟩ := DataW.trod_int Tryz.underlying3 h1
      obtain ⟨k2, e2, rfl, w2⟩ := DataW.trod_int Tryz.underlying3 h2
      obtain ⟨k3, e3, rfl, w3⟩ := DataW.trod_int Tryz.underlying3 h3
      obtain ⟨s4, e4, rfl, w4⟩ := DataW.trod_string Tryz.underlying9 h4
      obtain ⟨s5, e5, rfl, w5⟩ := DataW.trod_string Tryz.underlying9 h5
      simp at e0 e1 e2 e3 e4 e5
      subst e0 e1 e2 e3 e4 e5
      exact ⟨⟨k0, k1, k2, k3, s4.data.toList, s5.data.toList⟩, rfl, ⟨i64_of_wf w0, i64_of_wf w1, i64_of_wf w2, i64_of_wf w3⟩, by rw [hx]; rfl⟩

theorem open_script {fuel : Nat} {ao : Option Addr} {len cap : Nat} {x : DataW H × List MemPlace} (h : DataW.trod enc Tryz.prog w 0 spare held fuel 22 [.slice ao len cap] = some x) :
    ∃ ops : List OpV, ops.length = len ∧ ScriptAt w ao ops ∧ (∀ o ∈ ops, o.Ok) ∧ ((ops = [] ∧ len = 0) ∨ ∃ sp, x.1 = .slice (ops.map OpV.data) sp) := by
  rcases open_slice Tryz.underlying22 h with ⟨hcs, _⟩ | ⟨a, len', cap', m, n, D, Pl, hcs, _, hl, hm, hm', hx, hel⟩
  · simp at hcs
    obtain ⟨rfl, rfl, rfl⟩ := hcs
    exact ⟨[], rfl, fun h => absurd rfl h, by simp, Or.inl ⟨rfl, rfl⟩⟩
  · simp at hcs
    obtain ⟨rfl, rfl, rfl⟩ := hcs
    have hlm : len ≤ m := by rw [hm']; split <;> omega
    have hex : ∀ i, i < len → ∃ o : OpV, w.cells? 0 (a.add (i * 6)) 6 = some o.cells ∧ o.Ok ∧ D i = o.data := by
      intro i hi
      obtain ⟨cs', h1, h2⟩ := hel i (by omega)
      rw [Tryz.cellsOp] at h1
      obtain ⟨o, rfl, h3, h4⟩ := open_op h2
      exact ⟨o, h1, h3, h4⟩
    obtain ⟨O, hO⟩ : ∃ O : Nat → OpV, ∀ i, i < len → w.cells? 0 (a.add (i * 6)) 6 = some (O i).cells ∧ (O i).Ok ∧ D i = (O i).data :=
      ⟨fun i => if h : i < len then Classical.choose (hex i h) else ⟨0, 0, 0, 0, [], []⟩, fun i hi => by
        simp only [hi, dif_pos]; exact Classical.choose_spec (hex i hi)⟩
    refine ⟨(List.range len).map O, by simp, ?_, ?_, Or.inr ⟨(List.range (m - len)).map fun j => D (len + j), ?_⟩⟩
    · intro hne
      have h0 : 0 < len := by
        rcases Nat.eq_zero_or_pos len with h0 | h0
        · subst h0; simp at hne
        · exact h0
      have hcell : ∀ k (hk : k < len) j (_ : j < 6) u, (O k).cells[j]? = some u → w.cell? ((a.add (k * 6)).add j) = some u := by
        intro k hk j hj u hu
        obtain ⟨_, hlen, hc⟩ := World.cells?_some (hO k hk).1
        rw [hc j (by omega)]; exact hu
      obtain ⟨b, off, spot⟩ := a
      have hsp : spot = none := by
        have h1 := hcell 0 h0 0 (by omega) _ rfl
        simpa [Addr.add] using World.cell?_spot h1
      subst hsp
      have hadd : ∀ k j, ((⟨b, off, none⟩ : Addr).add (k * 6)).add j = ⟨b, off + (k * 6 + j), none⟩ := by
        intro k j; rw [add_plain, add_plain, Nat.add_assoc]
      refine ⟨b, off, rfl, ?_, ?_⟩
      · have h1 := hcell 0 h0 0 (by omega) _ rfl
        exact World.block_lt_of_cell? w _ h1
      · intro k hk j hj u hu
        have hk' : k < len := by simpa using hk
        rw [← hadd]
        refine hcell k hk' j hj u ?_
        simpa using hu
    · intro o ho
      simp at ho
      obtain ⟨i, hi, rfl⟩ := ho
      exact (hO i hi).2.1
    · rw [hx]
      show DataW.slice _ _ = _
      congr 1
      rw [List.map_map]
      apply List.map_congr_left
      intro i hi
      exact (hO i (by simpa using hi)).2.2

theorem weightsAll_in {P : Program} {e : TypeId} : ∀ {l : List (DataW H)} {d : DataW H}, d ∈ l → ∀ n ∈ d.weights P e, n ∈ DataW.weightsAll P e l
  | d0 :: l, d, hd, n, hn => by
    simp only [DataW.weightsAll, List.mem_append]
    rcases List.mem_cons.1 hd with rfl | h
    · exact Or.inl hn
    · exact Or.inr (weightsAll_in h n hn)

set_option maxRecDepth 100000 in
theorem sized_script {ops : List OpV} {sp : List (DataW H)} (h : (DataW.weightsEach Tryz.prog [22] [.slice (ops.map OpV.data) sp]).all (· ≤ reachBytes) = true) : Sized ops ∧ ops.length ≤ 140737488355328 := by
  constructor
  · intro o ho
    have key : ∀ n ∈ (o.data : DataW H).weights Tryz.prog 29, n ≤ reachBytes := by
      intro n hn
      refine of_decide_eq_true (List.all_eq_true.1 h n (DataW.weights_mem_each (j := 0) rfl rfl n ?_))
      simp only [DataW.weights, Tryz.underlying22, List.mem_cons, List.mem_append]
      exact Or.inr (Or.inl (weightsAll_in (List.mem_map_of_mem ho) n hn))
    have hr : reachBytes < 2 ^ 47 := reachBytes_lt
    have k1 := key o.s.length (by simp [OpV.data, DataW.weights, DataW.weightsEach, Tryz.underlying29])
    have k2 := key o.t.length (by simp [OpV.data, DataW.weights, DataW.weightsEach, Tryz.underlying29])
    constructor <;> omega
  · have := sized_slice h (j := 0) (t := 22) (e := 29) rfl rfl Tryz.underlying22
    rw [Tryz.bytesOp] at this
    have hr : reachBytes < 2 ^ 47 := reachBytes_lt
    simp at this
    omega
end
end Go.Proofs.YtgipjjhkhfihpaaGreatDoor

namespace Go.Proofs.YtgipjjhkhfihpaaGreatDoor
open Go.ChangeShapes Go.WideShapes Go.ChangeAt Go.RowKit Go.Deep

/-- The listed tables lie where the program's own start laid them. -/
theorem door_met (os : Os) (args : Array Value) : laidMetH Tryz.prog Rows.loadsRow.laid ((World.doorLaid Tryz.prog 400 os).forCall (fun _ _ => 0) ⟨#[], args, []⟩).memory :=
  laidMetH_of_parts3 (fuel := 8) (laidMet_of_run' 8 (by kernel_rfl) (by kernel_rfl)) (by kernel_rfl) (by kernel_rfl)
end Go.Proofs.YtgipjjhkhfihpaaGreatDoor

namespace Go.Proofs.YtgipjjhkhfihpaaGreatDoor
open Go.RowKit

/-! ### The formulas are those of the text -/
def FTxt (lo : Nat) (w : World) (text : List UInt8) (px pf : Option Addr) : Prop :=
  (px = none ∧ pf = none) ∨ ∃ b b' st q0, px = some ⟨b, 0, none⟩ ∧ pf = some ⟨b', 0, none⟩ ∧ ProgAt lo w b (qFinish q0) ∧ RefAt lo w b' (finish st) ∧ Same st q0 ∧ (q0.cl.length ≤ 24 ∧ QNice q0) ∧ loadSpec text = .inr (qFinish q0)
theorem FTxt.set {lo bw o : Nat} {w : World} {text : List UInt8} {px pf : Option Addr} {u : Value} (h : FTxt lo w text px pf) (hlt : bw < lo) : FTxt lo (w.setCell ⟨bw, o, none⟩ u) text px pf := by
  rcases h with h | ⟨b, b', st, q0, h1, h2, h3, h4, h5, h6, h7⟩
  · exact Or.inl h
  · exact Or.inr ⟨b, b', st, q0, h1, h2, h3.set hlt, h4.set hlt, h5, h6, h7⟩
theorem FTxt.only {lo : Nat} {w w' : World} {text : List UInt8} {px pf : Option Addr} {T : Nat → Prop} (h : FTxt lo w text px pf) (ho : Only T w w') (hT : ∀ k, k < w.heap.size → T k → Foreign lo w formTypes k) : FTxt lo w' text px pf := by
  rcases h with h | ⟨b, b', st, q0, h1, h2, h3, h4, h5, h6, h7⟩
  · exact Or.inl h
  · exact Or.inr ⟨b, b', st, q0, h1, h2, h3.only ho hT, h4.only ho hT, h5, h6, h7⟩
theorem FTxt.lo {lo lo' : Nat} {w : World} {text : List UInt8} {px pf : Option Addr} (h : FTxt lo w text px pf) (hl : lo' ≤ lo) : FTxt lo' w text px pf := by
  rcases h with h | ⟨b, b', st, q0, h1, h2, h3, h4, h5, h6, h7⟩
  · exact Or.inl h
  · exact Or.inr ⟨b, b', st, q0, h1, h2, h3.lo hl, h4.lo hl, h5, h6, h7⟩
def LoadsPostT (bw : Nat) (text proof : List UInt8) (c4 c5 c6 : Value) (w : World) (e : Ending) (w' : World) : Prop :=
  e = .returned (.bool true) ∧ Only (· = bw) w w' ∧ ∃ px pf, WAt w' bw text px pf proof c4 c5 c6 ∧ FTxt w.heap.size w' text px pf
set_option maxRecDepth 100000 in
set_option maxHeartbeats 1600000 in
theorem loads_txt (bw : Nat) (text : List UInt8) (px pf : Option Addr) (proof : List UInt8) (c4 c5 c6 : Value) (w : World) (hw : WAt w bw text px pf proof c4 c5 c6) :
    Calls Tryz.prog 27 #[.pointer (some ⟨bw, 0, none⟩)] w fun e w' => LoadsPostT bw text proof c4 c5 c6 w e w' := by
  have hbw : bw < w.heap.size := blk_lt hw
  have h0 : w.cell? ⟨bw, 0, none⟩ = some (S text) := by rw [blk_cell hw]; rfl
  go_enter Tryz.func27, Tryz.ntmps27
  go_wp2_with fail
  refine (load_any text w).mono ?_
  rintro e w1 ⟨hb1, hp1⟩
  have hw1 := hw.later hb1
  have h1 : w1.cell? ⟨bw, 0, none⟩ = some (S text) := by rw [blk_cell hw1]; rfl
  have hse := spec_eq text
  cases hq : loadSpec text with
  | inl a =>
    obtain ⟨x, i⟩ := a
    rw [hq] at hp1 hse
    have hp1' : e = .returned (.tuple #[.pointer none, .int .i64 (x : Int), .int .i64 (i : Int)]) := hp1
    subst hp1'
    have HSE : Hid (readSpec text = .inl (x, i)) := hide hse
    clear hse hq hp1
    go_wp2_with fail
    refine (read_all text w1).mono ?_
    rintro e w2 ⟨hb2, hp2⟩
    rw [unhide HSE] at hp2
    have hp2' : e = .returned (.tuple #[.pointer none, .int .i64 (x : Int), .int .i64 (i : Int)]) := hp2
    subst hp2'
    clear hp2
    have hw2 := hw1.later hb2
    have k1 : w2.cell? ⟨bw, 1, none⟩ = some (.pointer px) := by rw [blk_cell hw2]; rfl
    have k2 : w2.cell? ⟨bw, 2, none⟩ = some (.pointer pf) := by rw [blk_cell hw2]; rfl
    have z1 := blk_free hw2 1
    have z2 := blk_free hw2 2
    have hx : ((x : Int) != (x : Int)) = false := by simp
    have hi : ((i : Int) != (i : Int)) = false := by simp
    go_wp2_with fail
    go_ret
    refine ⟨rfl, (((Only.of_below (below_trans hb1 hb2)).setAt _ _).setAt _ _), none, none, ?_, Or.inl ⟨rfl, rfl⟩⟩
    exact blk_set (blk_set hw2 1 _) 2 _
  | inr q =>
    rw [hq] at hp1 hse
    obtain ⟨b, rfl, hP⟩ := hp1
    obtain ⟨st, q0, hse, hsame, rfl, h24⟩ := hse
    have HSE := hide hse
    have HLN := hide hq
    clear hse hq
    go_wp2_with fail
    refine (read_all text w1).mono ?_
    rintro e w2 ⟨hb2, hp2⟩
    rw [unhide HSE] at hp2
    obtain ⟨b', rfl, hR⟩ := hp2
    have hw2 := hw1.later hb2
    have hP2 := hP.later hb2
    have hR2 := hR.lo (lo' := w.heap.size) hb1.size
    have hFP : FTxt w.heap.size w2 text (some ⟨b, 0, none⟩) (some ⟨b', 0, none⟩) := Or.inr ⟨b, b', st, q0, rfl, rfl, hP2, hR2, hsame, h24, unhide HLN⟩
    have k1 : w2.cell? ⟨bw, 1, none⟩ = some (.pointer px) := by rw [blk_cell hw2]; rfl
    have k2 : w2.cell? ⟨bw, 2, none⟩ = some (.pointer pf) := by rw [blk_cell hw2]; rfl
    have z1 := blk_free hw2 1
    have z2 := blk_free hw2 2
    go_wp2_with fail
    go_ret
    refine ⟨rfl, (((((Only.of_below (below_trans hb1 hb2)).setAt _ _).setAt _ _).setAt _ _).setAt _ _), some ⟨b, 0, none⟩, some ⟨b', 0, none⟩, ?_, (((hFP.set hbw).set hbw).set hbw).set hbw⟩
    exact blk_set (blk_set (blk_set (blk_set hw2 1 _) 2 _) 1 _) 2 _
def StepPostT (bw : Nat) (text proof : List UInt8) (px pf : Option Addr) (o : OpV) (c4 c5 c6 : Value) (w : World) (e : Ending) (w' : World) : Prop :=
  e = .returned (.bool true) ∧ Only (· = bw) w w' ∧ ∃ text' px' pf' proof', WAt w' bw text' px' pf' proof' c4 c5 c6 ∧ text'.length ≤ text.length + o.s.length + 1 ∧ proof'.length ≤ proof.length + o.s.length + 1 ∧ ((text' = text ∧ px' = px ∧ pf' = pf) ∨ FTxt w.heap.size w' text' px' pf')
set_option maxRecDepth 100000 in
set_option maxHeartbeats 1600000 in
theorem step_textT (bw : Nat) (text : List UInt8) (px pf : Option Addr) (proof : List UInt8) (o : OpV) (c4 c5 c6 : Value) (w : World) (hw : WAt w bw text px pf proof c4 c5 c6) (hk : o.kind = 1) :
    Calls Tryz.prog 19 #[.pointer (some ⟨bw, 0, none⟩), .agg #[.int .i64 o.kind, .int .i64 o.a, .int .i64 o.b, .int .i64 o.c, S o.s, S o.t]] w fun e w' => StepPostT bw text proof px pf o c4 c5 c6 w e w' := by
  obtain ⟨kind, a, b, c, s, t⟩ := o
  dsimp only at hk ⊢
  subst hk
  have hbw : bw < w.heap.size := blk_lt hw
  have h0 : w.cell? ⟨bw, 0, none⟩ = some (S text) := by rw [blk_cell hw]; rfl
  have z0 := blk_free hw 0
  go_enter Tryz.func19, Tryz.ntmps19
  go_wp2_with fail
  have hw1 : WAt (w.setCell ⟨bw, 0, none⟩ (S s)) bw s px pf proof c4 c5 c6 := blk_set hw 0 _
  refine (loads_txt bw s px pf proof c4 c5 c6 _ (hw1.later ((Below.refl _ _).alloc (Nat.le_refl _) _))).mono ?_
  rintro e w2 ⟨rfl, ho, px', pf', hw2, hF2⟩
  go_wp2_with fail
  go_ret
  refine ⟨rfl, ?_, s, px', pf', proof, hw2, by simp; omega, by simp; omega, Or.inr (hF2.lo (by simp))⟩
  exact (((Only.refl _ w).setAt 0 (S s)).alloc _).trans (ho.mono (fun k _ h => h))
set_option maxRecDepth 100000 in
set_option maxHeartbeats 1600000 in
theorem step_lineT (bw : Nat) (text : List UInt8) (px pf : Option Addr) (proof : List UInt8) (o : OpV) (c4 c5 c6 : Value) (w : World) (hw : WAt w bw text px pf proof c4 c5 c6) (hk : o.kind = 2) (htl : text.length ≤ 1048576) (hsl : o.s.length ≤ 1048576) :
    Calls Tryz.prog 19 #[.pointer (some ⟨bw, 0, none⟩), .agg #[.int .i64 o.kind, .int .i64 o.a, .int .i64 o.b, .int .i64 o.c, S o.s, S o.t]] w fun e w' => StepPostT bw text proof px pf o c4 c5 c6 w e w' := by
  obtain ⟨kind, a, b, c, s, t⟩ := o
  dsimp only at hk hsl ⊢
  subst hk
  have hbw : bw < w.heap.size := blk_lt hw
  have h0 : w.cell? ⟨bw, 0, none⟩ = some (S text) := by rw [blk_cell hw]; rfl
  have z0 := blk_free hw 0
  have HE : Hid (ByteArray.mk text.toArray ++ ByteArray.mk s.toArray ++ ⟨#[10]⟩ = ⟨(text ++ s ++ [10]).toArray⟩) := hide (by
    rw [ba_append text s]; exact ba_append (text ++ s) [10])
  go_enter Tryz.func19, Tryz.ntmps19
  go_wp2_with fail
  go_region
  all_goals go_wp2_with fail
  have hw1 : WAt (w.setCell ⟨bw, 0, none⟩ (S (text ++ s ++ [10]))) bw (text ++ s ++ [10]) px pf proof c4 c5 c6 := blk_set hw 0 _
  all_goals
    rw [unhide HE]
    refine (loads_txt bw (text ++ s ++ [10]) px pf proof c4 c5 c6 _ (hw1.later (((Below.refl _ _).alloc (Nat.le_refl _) _).drew))).mono ?_
    rintro e w2 ⟨rfl, ho, px', pf', hw2, hF2⟩
    go_wp2_with fail
    go_ret
    refine ⟨rfl, ?_, _, px', pf', proof, hw2, by simp; omega, by simp; omega, Or.inr (hF2.lo (by simp))⟩
    exact ((((Only.refl _ w).setAt 0 (S (text ++ s ++ [10]))).alloc _).drew).trans (ho.mono (fun k _ h => h))
set_option maxRecDepth 100000 in
set_option maxHeartbeats 1600000 in
theorem step_proofT (bw : Nat) (text : List UInt8) (px pf : Option Addr) (proof : List UInt8) (o : OpV) (c4 c5 c6 : Value) (w : World) (hw : WAt w bw text px pf proof c4 c5 c6) (hk : o.kind = 4) :
    Calls Tryz.prog 19 #[.pointer (some ⟨bw, 0, none⟩), .agg #[.int .i64 o.kind, .int .i64 o.a, .int .i64 o.b, .int .i64 o.c, S o.s, S o.t]] w fun e w' => StepPostT bw text proof px pf o c4 c5 c6 w e w' := by
  obtain ⟨kind, a, b, c, s, t⟩ := o
  dsimp only at hk ⊢
  subst hk
  have hbw : bw < w.heap.size := blk_lt hw
  have h3 : w.cell? ⟨bw, 3, none⟩ = some (S proof) := by rw [blk_cell hw]; rfl
  have z3 := blk_free hw 3
  go_enter Tryz.func19, Tryz.ntmps19
  go_wp2_with fail
  go_ret
  have ho := ((Only.refl (· = bw) w).setAt 3 (S s)).alloc (.cells #[.int .i64 4, .int .i64 a, .int .i64 b, .int .i64 c, S s, S t] 29)
  refine ⟨rfl, ho, text, px, pf, s, (hw.setProof s).later ((Below.refl _ _).alloc (Nat.le_refl _) _), by simp; omega, by simp; omega, Or.inl ⟨rfl, rfl, rfl⟩⟩
set_option maxRecDepth 100000 in
set_option maxHeartbeats 1600000 in
theorem step_bendT (bw : Nat) (text : List UInt8) (px pf : Option Addr) (proof : List UInt8) (o : OpV) (c4 c5 c6 : Value) (w : World) (hw : WAt w bw text px pf proof c4 c5 c6) (hk : o.kind = 5) (hok : o.Ok) (hpl : proof.length ≤ 1048576) :
    Calls Tryz.prog 19 #[.pointer (some ⟨bw, 0, none⟩), .agg #[.int .i64 o.kind, .int .i64 o.a, .int .i64 o.b, .int .i64 o.c, S o.s, S o.t]] w fun e w' => StepPostT bw text proof px pf o c4 c5 c6 w e w' := by
  obtain ⟨kind, a, b, c, s, t⟩ := o
  obtain ⟨_, ⟨ha1, ha2⟩, _, ⟨hc1, hc2⟩⟩ := hok
  dsimp only at hk ha1 ha2 hc1 hc2 ⊢
  subst hk
  have hbw : bw < w.heap.size := blk_lt hw
  go_enter Tryz.func19, Tryz.ntmps19
  go_wp2_with fail
  refine (bend_any bw text px pf proof c4 c5 c6 a c _ (hw.later ((Below.refl _ _).alloc (Nat.le_refl _) _)) hpl ha1 ha2 hc1 hc2).mono ?_
  rintro e w2 ⟨rfl, ho, proof', hpl', hw2⟩
  go_wp2_with fail
  go_ret
  have ho3 := ((Only.refl (· = bw) w).alloc (.cells #[.int .i64 5, .int .i64 a, .int .i64 b, .int .i64 c, S s, S t] 29)).trans ho
  exact ⟨rfl, ho3, text, px, pf, proof', hw2, by simp; omega, by simp; omega, Or.inl ⟨rfl, rfl, rfl⟩⟩
theorem step_baseT0 (bw : Nat) (text : List UInt8) (px pf : Option Addr) (proof : List UInt8) (o : OpV) (c4 c5 c6 : Value) (w : World) (hw : WAt w bw text px pf proof c4 c5 c6) (hk : base4 o.kind = true)
    (hok : o.Ok) (hpl : proof.length ≤ 1048576) (htl : text.length ≤ 1048576) (hsl : o.s.length ≤ 1048576) :
    Calls Tryz.prog 19 #[.pointer (some ⟨bw, 0, none⟩), .agg #[.int .i64 o.kind, .int .i64 o.a, .int .i64 o.b, .int .i64 o.c, S o.s, S o.t]] w fun e w' => StepPostT bw text proof px pf o c4 c5 c6 w e w' := by
  unfold base4 at hk
  simp only [Bool.or_eq_true, beq_iff_eq] at hk
  rcases hk with ((hk | hk) | hk) | hk
  · exact step_textT bw text px pf proof o c4 c5 c6 w hw hk
  · exact step_lineT bw text px pf proof o c4 c5 c6 w hw hk htl hsl
  · exact step_proofT bw text px pf proof o c4 c5 c6 w hw hk
  · exact step_bendT bw text px pf proof o c4 c5 c6 w hw hk hok hpl
def StepPostU (bw : Nat) (text proof : List UInt8) (o : OpV) (c4 c5 c6 : Value) (w : World) (e : Ending) (w' : World) : Prop :=
  e = .returned (.bool true) ∧ Only (· = bw) w w' ∧ ∃ text' px' pf' proof', WAt w' bw text' px' pf' proof' c4 c5 c6 ∧ text'.length ≤ text.length + o.s.length + 1 ∧ proof'.length ≤ max proof.length 262144 + o.s.length + 1 ∧ FTxt (bw + 1) w' text' px' pf'
theorem step_baseT (bw : Nat) (text : List UInt8) (px pf : Option Addr) (proof : List UInt8) (o : OpV) (c4 c5 c6 : Value) (w : World) (hw : WAt w bw text px pf proof c4 c5 c6) (hF : FTxt (bw + 1) w text px pf) (hk : base4 o.kind = true)
    (hok : o.Ok) (hpl : proof.length ≤ 1048576) (htl : text.length ≤ 1048576) (hsl : o.s.length ≤ 1048576) :
    Calls Tryz.prog 19 #[.pointer (some ⟨bw, 0, none⟩), .agg #[.int .i64 o.kind, .int .i64 o.a, .int .i64 o.b, .int .i64 o.c, S o.s, S o.t]] w fun e w' => StepPostU bw text proof o c4 c5 c6 w e w' := by
  refine (step_baseT0 bw text px pf proof o c4 c5 c6 w hw hk hok hpl htl hsl).mono ?_
  rintro e w' ⟨h1, ho, text', px', pf', proof', hw', h2, h3, h4⟩
  refine ⟨h1, ho, text', px', pf', proof', hw', h2, by omega, ?_⟩
  rcases h4 with ⟨rfl, rfl, rfl⟩ | h4
  · exact hF.only ho here_foreign
  · exact h4.lo (blk_lt hw)
end Go.Proofs.YtgipjjhkhfihpaaGreatDoor

namespace Go.Proofs.YtgipjjhkhfihpaaGreatDoor
open Go.RowKit

/-! ### step -/
def cnts (tl : List (List UInt8)) : List Nat := tl.map (fun x => cnt x big)
theorem cnts_take (tl : List (List UInt8)) (k : Nat) (h : k < tl.length) : ints (cnts (tl.take (k + 1))) = ints (cnts (tl.take k)) ++ [.int .i64 (cnt tl[k] big : Nat)] := by
  unfold ints cnts; rw [List.take_succ_eq_append_getElem h, List.map_append, List.map_append]; rfl
/-- What step is called with. -/
structure StepIn (lo b : Nat) (F : Form) (ss : List (Nat × Nat)) (aS : Option Addr) (cS : Nat) (lS : Nat) (hd : List UInt8) (tl : List (List UInt8)) (g off cap : Nat) (w : World) : Prop where
  hR : RefAt lo w b F
  hF : FW F
  hS : w.ownsRow lS 121 2 (.slice aS ss.length cS) ss.length (pairs ss)
  hSB : ss.length ≤ 9000
  hSb : ∀ c ∈ ss, c.1 < 512 ∧ c.2 < 512
  hs : StrsAt w (some ⟨g, off, none⟩) (hd :: tl)
  hl : tl.length ≤ 1048575
  hcap : tl.length + 1 ≤ cap
  hws : ∀ x ∈ tl, x.length ≤ 1048576
theorem getD_at' {α : Type} (l : List α) (k : Nat) (d : α) (h : k < l.length) : l.getD k d = l[k] := by
  rw [List.getD, List.getElem?_eq_getElem h]; rfl
end Go.Proofs.YtgipjjhkhfihpaaGreatDoor

namespace Go.Proofs.YtgipjjhkhfihpaaGreatDoor
open Go.RowKit

set_option maxRecDepth 100000 in
set_option maxHeartbeats 12800000 in
theorem step_a (lo b : Nat) (F : Form) (ss : List (Nat × Nat)) (aS : Option Addr) (cS : Nat) (lS : Nat) (truth : Bool) (hd : List UInt8) (tl : List (List UInt8)) (g off cap : Nat) (w : World) (hIn : StepIn lo b F ss aS cS lS hd tl g off cap w) (hhd : hd = [97]) (htr : truth = false) (hln : tl.length = 1) :
    Calls Tryz.prog 86 #[.pointer (some ⟨b, 0, none⟩), .slice aS ss.length cS, .slice (some ⟨g, off, none⟩) (tl.length + 1) cap, .bool truth] w fun e w' => RStPost (stepR F truth ss hd tl) w e w' := by
  have HLN := hide hln
  have HHD := hide hhd
  have HTR := hide htr
  clear hln hhd htr
  obtain ⟨hR, hF, hS, hSB, hSb, hs, hl, hcap, hws⟩ := hIn
  obtain ⟨i0, hi, hz0, hz1, hz2⟩ := info_parts Tryz.info3
  have hR0 := hR
  obtain ⟨_, vO, vE, vC, hfb, _, _, hC⟩ := hR
  obtain ⟨aC, cC, rfl⟩ := own_form hC
  have hbw := blk_lt hfb
  obtain ⟨g', off', cur, he, hg, hcur⟩ := hs (by simp)
  injection he with he
  injection he with e1 e2 e3
  subst e1 e2
  clear e3
  have hgw := blk_lt hg
  have HC0 : Hid (∀ wx : World, Below w.heap.size w wx → wx.cell? ⟨g, off, none⟩ = some (S hd)) := hide (fun wx hx => by
    rw [hx.cell (p := ⟨g, off, none⟩) hgw, blk_cell hg]; exact hcur 0 (by simp))
  have HCJ : Hid (∀ (wx : World) (j : Nat) (hj : j < tl.length), Below w.heap.size w wx → wx.cell? ⟨g, off + (j + 1), none⟩ = some (S tl[j])) := hide (fun wx j hj hx => by
    rw [hx.cell (p := ⟨g, off + (j + 1), none⟩) hgw, blk_cell hg]; exact hcur (j + 1) (by simpa using hj))
  have HST : Hid (∀ (wx : World) (ao : Option Addr), Below w.heap.size w wx → (tl ≠ [] → ao = some ⟨g, off + 1, none⟩) → StrsAt wx ao tl) := hide (fun wx ao hx ho hne => ⟨g, off + 1, cur, ho hne, (hx.block _ hgw).trans hg, fun j hj => by
    have h1 := hcur (1 + j) (by simp; omega)
    rw [← Nat.add_assoc] at h1
    rw [h1]
    simp [show 1 + j = j + 1 from by omega]⟩)
  have HWS := hide hws
  clear hcur hws hs hg
  go_enter Tryz.func86, Tryz.ntmps86
  go_wp2_with fail
  go_loopg [11, 12] tl.length (fun m v i wx => ∃ j : Nat, i = .int .i64 (j + 1) ∧ j + m = tl.length ∧ wx.ownsRow (w.heap.size + 2) 3 1 v j (ints (cnts (tl.take j))) ∧ Below w.heap.size w wx ∧
      wx.heap[w.heap.size]? = some (.cells #[.int .i64 0, .int .i64 0] 121 (0, 0)) ∧ wx.heap[w.heap.size + 1]? = some (.cells #[.int .i64 0, .int .i64 0] 121 (0, 0)))
  case atStart => exact ⟨0, rfl, by omega, World.ownsRow_nil _ _ _ _, ((Below.refl _ _).alloc (Nat.le_refl _) _).alloc (by simp) _, by rw [heap_alloc_old _ _ (by simp)]; exact heap_alloc_new _ _, new_at (by simp)⟩
  case round =>
    obtain ⟨j, rfl, hj, hown, hb, hres, hnon⟩ := hrel
    have hbs := blk_lt hnon
    by_cases hlt : j < tl.length
    · have hcj := unhide HCJ wr j hlt hb
      have hxl := unhide HWS _ (List.getElem_mem hlt)
      have HT := hide (cnts_take tl j hlt)
      have hgw1 : g < wr.heap.size := by omega
      generalize tl[j] = x at *
      go_wp2_with fail
      refine (count_any x 1048576 wr hxl (by omega)).mono ?_
      rintro e w1 ⟨rfl, hw1⟩
      subst hw1
      rw [show cnt x 1048576 = cnt x big from rfl]
      go_wp2_with (at_builtin; refine wpList_append_new rfl _ _ 25 rfl (w.heap.size + 2) i0 (.int .i64 0) 1 8 Tryz.underlying25 hi hz0 hz1 hz2 rfl (by decide) _ _ _ hown rfl rfl rfl (by simp [Value.oneCell']) (by unfold maxLen; omega) (by omega) (by omega) ?_; intro v' w2 hown' hgrow hnn)
      go_roundg (gk - 1)
      case measure => omega
      case rel =>
        have hlto := hown.lt
        refine ⟨j + 1, by go_num, by omega, by rw [unhide HT]; exact hown', below_grown hb hgrow hown (by omega) (by omega), ?_, ?_⟩
        · rw [hgrow.block _ (by omega) (fun e => by have := hlto _ e.symm; omega)]; exact hres
        · rw [hgrow.block _ (by omega) (fun e => by have := hlto _ e.symm; omega)]; exact hnon
    · have hjl : j = tl.length := by omega
      subst hjl
      rw [List.take_length] at hown
      clear hj hlt hi hz0 hz1 hz2 HCJ
      obtain ⟨aK, cK, rfl⟩ := own_form hown
      have hc0 := unhide HC0 wr hb
      have hgw1 : g < wr.heap.size := by omega
      have hbw1 : b < wr.heap.size := by omega
      have hbs0 : w.heap.size < wr.heap.size := by omega
      have r0 : wr.cell? ⟨w.heap.size, 0, none⟩ = some (.int .i64 0) := by rw [blk_cell hres]; rfl
      have r1 : wr.cell? ⟨w.heap.size, 1, none⟩ = some (.int .i64 0) := by rw [blk_cell hres]; rfl
      have zr0 := blk_free hres 0
      have zr1 := blk_free hres 1
      have n0 : wr.cell? ⟨w.heap.size + 1, 0, none⟩ = some (.int .i64 0) := by rw [blk_cell hnon]; rfl
      have n1 : wr.cell? ⟨w.heap.size + 1, 1, none⟩ = some (.int .i64 0) := by rw [blk_cell hnon]; rfl
      have x1 : wr.cell? ⟨b, 1, none⟩ = some (.int .i64 F.all) := by rw [hb.cell (p := ⟨b, 1, none⟩) hbw, blk_cell hfb]; rfl
      have x3 : wr.cell? ⟨b, 3, none⟩ = some (.slice aC F.cl.length cC) := by rw [hb.cell (p := ⟨b, 3, none⟩) hbw, blk_cell hfb]; rfl
      have HK : Hid (∀ (i : Nat) (hi : i < tl.length), ∃ gK, aK = some ⟨gK, 0, none⟩ ∧ gK < wr.heap.size ∧ wr.cell? ⟨gK, i, none⟩ = some (.int .i64 (cnt tl[i] big : Nat)) ∧ tl.length ≤ cK) := hide (fun i hi => by
        obtain ⟨gK, capK, hVe, _, hg', hcap', hcell⟩ := own_pos hown (by omega)
        injection hVe with hVe _ hV2
        subst hVe hV2
        exact ⟨gK, rfl, hg', hcell _ _ (by unfold ints cnts; simp [hi]), hcap'⟩)
      have HBITS := hide hF.bits
      have hc24 := hF.cl
      have hall := hF.all
      have HSB := hide hSb
      have HCELL : Hid (∀ (m : Nat) (hm : m < F.cl.length), ∃ g2, aC = some ⟨g2, 0, none⟩ ∧ g2 < w.heap.size ∧ w.cell? ⟨g2, m * 2, none⟩ = some (.int .i64 (F.cl[m].1 : Int)) ∧ w.cell? ⟨g2, m * 2 + 1, none⟩ = some (.int .i64 (F.cl[m].2 : Int))) := hide (fun m hm => by
        obtain ⟨g2, cap2, hVe, hg2, hg2', _, hcell⟩ := own_pos hC (by omega)
        injection hVe with hVe _ hV2
        subst hVe hV2
        obtain ⟨hpa, hpb⟩ := pairs_at F.cl m hm
        exact ⟨g2, rfl, hg2', hcell _ _ hpa, hcell _ _ hpb⟩)
      have HSEL : Hid (∀ (m : Nat) (hm : m < ss.length), ∃ g2, aS = some ⟨g2, 0, none⟩ ∧ g2 < w.heap.size ∧ w.cell? ⟨g2, m * 2, none⟩ = some (.int .i64 (ss[m].1 : Int)) ∧ w.cell? ⟨g2, m * 2 + 1, none⟩ = some (.int .i64 (ss[m].2 : Int))) := hide (fun m hm => by
        obtain ⟨g2, cap2, hVe, hg2, hg2', _, hcell⟩ := own_pos hS (by omega)
        injection hVe with hVe _ hV2
        subst hVe hV2
        obtain ⟨hpa, hpb⟩ := pairs_at ss m hm
        exact ⟨g2, rfl, hg2', hcell _ _ hpa, hcell _ _ hpb⟩)
      have HFW := hide hF
      clear hSb hown hC hfb hS hF
      have hln := unhide HLN
      have hhd := unhide HHD
      have htr := unhide HTR
      subst hhd htr
      have h01 : 0 < tl.length := by omega
      have HSP : Hid (stepR F false ss [97] tl = axR F (cnt tl[0] big)) := hide (by unfold stepR; rw [if_pos ⟨rfl, rfl, hln⟩, getD_at' _ _ _ h01])
      have hlb : ((tl.length : Int) == 1) = true := by rw [beq_iff_eq]; omega
      have hi0 : (0 : Int) < (tl.length : Int) := by omega
      clear hln
      obtain ⟨gK, rfl, hgK, kc0, hcK⟩ := unhide HK 0 h01
      generalize cnt tl[0] big = c at *
      by_cases hc1 : c < 1
      · have HF : Hid (stepR F false ss [97] tl = none) := hide (by rw [unhide HSP]; unfold axR; rw [if_pos (Or.inl hc1)])
        have hq1 : decide ((c : Int) < 1) = true := by simp; omega
        clear hc1
        go_wp2_with fail
        go_quiet (fail)
        generalize hgen : wr.drewN nq = wq
        have hbwq : Below w.heap.size w wq := by rw [← hgen]; exact below_drewN hb nq
        have hreswq : wq.heap[w.heap.size]? = some (.cells #[.int .i64 0, .int .i64 0] 121 (0, 0)) := by rw [← hgen]; exact hres
        have hnonwq : wq.heap[w.heap.size + 1]? = some (.cells #[.int .i64 0, .int .i64 0] 121 (0, 0)) := by rw [← hgen]; exact hnon
        clear hgen
        have hbswq := blk_lt hnonwq
        have hbs0wq := blk_lt hreswq
        have r0wq : wq.cell? ⟨w.heap.size, 0, none⟩ = some (.int .i64 0) := by rw [blk_cell hreswq]; rfl
        have r1wq : wq.cell? ⟨w.heap.size, 1, none⟩ = some (.int .i64 0) := by rw [blk_cell hreswq]; rfl
        have zr0wq := blk_free hreswq 0
        have zr1wq := blk_free hreswq 1
        have n0wq : wq.cell? ⟨w.heap.size + 1, 0, none⟩ = some (.int .i64 0) := by rw [blk_cell hnonwq]; rfl
        have n1wq : wq.cell? ⟨w.heap.size + 1, 1, none⟩ = some (.int .i64 0) := by rw [blk_cell hnonwq]; rfl
        have hRq := blk_set (blk_set hreswq 0 (.int .i64 0)) 1 (.int .i64 0)
        have jq0 := blk_cell hRq 0
        have jq1 := blk_cell hRq 1
        go_wp2_with fail
        refine bodyPost_ret (v := .tuple #[.agg #[.int .i64 0, .int .i64 0], .bool false]) (by simp [results, Tryz.results86, go_sem, jq0, jq1]) rfl (RStPost.none_ ?_ (unhide HF) (0, 0) rfl)
        exact (hbwq.setCell (p := ⟨w.heap.size, 0, none⟩) (Nat.le_refl _) _).setCell (p := ⟨w.heap.size, 1, none⟩) (Nat.le_refl _) _
      · have hq1 : decide ((c : Int) < 1) = false := by simp; omega
        by_cases hc2 : F.cl.length < c
        · have HF : Hid (stepR F false ss [97] tl = none) := hide (by rw [unhide HSP]; unfold axR; rw [if_pos (Or.inr hc2)])
          have hq2 : decide (F.cl.length < c) = true := by simp; omega
          have hq2' : decide ((F.cl.length : Int) < (c : Int)) = true := by simp; omega
          clear hc1 hc2
          go_wp2_with fail
          go_quiet (fail)
          generalize hgen : wr.drewN nq = wq
          have hbwq : Below w.heap.size w wq := by rw [← hgen]; exact below_drewN hb nq
          have hreswq : wq.heap[w.heap.size]? = some (.cells #[.int .i64 0, .int .i64 0] 121 (0, 0)) := by rw [← hgen]; exact hres
          have hnonwq : wq.heap[w.heap.size + 1]? = some (.cells #[.int .i64 0, .int .i64 0] 121 (0, 0)) := by rw [← hgen]; exact hnon
          clear hgen
          have hbswq := blk_lt hnonwq
          have hbs0wq := blk_lt hreswq
          have r0wq : wq.cell? ⟨w.heap.size, 0, none⟩ = some (.int .i64 0) := by rw [blk_cell hreswq]; rfl
          have r1wq : wq.cell? ⟨w.heap.size, 1, none⟩ = some (.int .i64 0) := by rw [blk_cell hreswq]; rfl
          have zr0wq := blk_free hreswq 0
          have zr1wq := blk_free hreswq 1
          have n0wq : wq.cell? ⟨w.heap.size + 1, 0, none⟩ = some (.int .i64 0) := by rw [blk_cell hnonwq]; rfl
          have n1wq : wq.cell? ⟨w.heap.size + 1, 1, none⟩ = some (.int .i64 0) := by rw [blk_cell hnonwq]; rfl
          have hRq := blk_set (blk_set hreswq 0 (.int .i64 0)) 1 (.int .i64 0)
          have jq0 := blk_cell hRq 0
          have jq1 := blk_cell hRq 1
          go_wp2_with fail
          refine bodyPost_ret (v := .tuple #[.agg #[.int .i64 0, .int .i64 0], .bool false]) (by simp [results, Tryz.results86, go_sem, jq0, jq1]) rfl (RStPost.none_ ?_ (unhide HF) (0, 0) rfl)
          exact (hbwq.setCell (p := ⟨w.heap.size, 0, none⟩) (Nat.le_refl _) _).setCell (p := ⟨w.heap.size, 1, none⟩) (Nat.le_refl _) _
        · have hq2 : decide (F.cl.length < c) = false := by simp; omega
          have hq2' : decide ((F.cl.length : Int) < (c : Int)) = false := by simp; omega
          go_wp2_with fail
          go_quiet (fail)
          generalize hgen : wr.drewN nq = wq
          have hbwq : Below w.heap.size w wq := by rw [← hgen]; exact below_drewN hb nq
          have hreswq : wq.heap[w.heap.size]? = some (.cells #[.int .i64 0, .int .i64 0] 121 (0, 0)) := by rw [← hgen]; exact hres
          have hnonwq : wq.heap[w.heap.size + 1]? = some (.cells #[.int .i64 0, .int .i64 0] 121 (0, 0)) := by rw [← hgen]; exact hnon
          have kc0wq : wq.cell? ⟨gK, 0, none⟩ = some (.int .i64 (c : Nat)) := by rw [← hgen]; exact kc0
          have x3wq : wq.cell? ⟨b, 3, none⟩ = some (.slice aC F.cl.length cC) := by rw [← hgen]; exact x3
          clear hgen
          have hbswq := blk_lt hnonwq
          have hbs0wq := blk_lt hreswq
          have r0wq : wq.cell? ⟨w.heap.size, 0, none⟩ = some (.int .i64 0) := by rw [blk_cell hreswq]; rfl
          have r1wq : wq.cell? ⟨w.heap.size, 1, none⟩ = some (.int .i64 0) := by rw [blk_cell hreswq]; rfl
          have zr0wq := blk_free hreswq 0
          have zr1wq := blk_free hreswq 1
          have n0wq : wq.cell? ⟨w.heap.size + 1, 0, none⟩ = some (.int .i64 0) := by rw [blk_cell hnonwq]; rfl
          have n1wq : wq.cell? ⟨w.heap.size + 1, 1, none⟩ = some (.int .i64 0) := by rw [blk_cell hnonwq]; rfl
          have hgKq : gK < wq.heap.size := cell_lt kc0wq
          have hbwx : b < wq.heap.size := cell_lt x3wq
          obtain ⟨m, rfl⟩ : ∃ m, c = m + 1 := ⟨c - 1, by omega⟩
          have hm : m < F.cl.length := by omega
          have HAP : Hid (stepR F false ss [97] tl = apartO F.cl[m]) := hide (by rw [unhide HSP]; unfold axR; rw [if_neg (by omega), Nat.add_sub_cancel, getD_at' _ _ _ hm])
          obtain ⟨g2, rfl, hg2', hy0, hy1⟩ := unhide HCELL m hm
          have hx0 : wq.cell? ⟨g2, m * 2, none⟩ = some (.int .i64 (F.cl[m].1 : Int)) := by rw [hbwq.cell (p := ⟨g2, m * 2, none⟩) hg2']; exact hy0
          have hx1 : wq.cell? ⟨g2, m * 2 + 1, none⟩ = some (.int .i64 (F.cl[m].2 : Int)) := by rw [hbwq.cell (p := ⟨g2, m * 2 + 1, none⟩) hg2']; exact hy1
          have hlt9 := unhide HBITS _ (List.getElem_mem hm)
          have hg2w : g2 < wq.heap.size := cell_lt hx0
          have hwm : IntKind.i64.wrap (m : Int) = (m : Int) := wrap_i64_nat m (by omega)
          have hwm2 : wrap64 (m : Int) = (m : Int) := IntWalk.wrap64_in _ ⟨by omega, by omega⟩
          have hmI : (m : Int) < (F.cl.length : Int) := Int.ofNat_lt.2 hm
          clear hc1 hc2 hq1 hq2 hq2' hy0 hy1 HCELL HSEL HK HBITS HSB HST HWS HC0 hR0 x1 x3 kc0 r0 r1 zr0 zr1 n0 n1 hres hnon hb hc0 hgw1 hbw1 hbs0 hbs hgK
          generalize F.cl[m] = c at *
          obtain ⟨p, n⟩ := c
          have hand : (bits .and .i64 (p : Int) (n : Int) == 0) = (p &&& n == 0) := by rw [i64_and _ _ (by have := hlt9.1; dsimp only at this; omega) (by have := hlt9.2; dsimp only at this; omega), nat_beq_zero]
          dsimp only at hx0 hx1
          go_wp2_with fail
          go_region
          all_goals go_wp2_with fail
          generalize hgen : (wq.alloc (.cells #[.int .i64 (p : Int), .int .i64 (n : Int)] 121)).drew = wz
          have hbwz : Below w.heap.size w wz := by rw [← hgen]; exact (hbwq.alloc (Nat.le_of_lt hbs0wq) _).drew
          have hreswz : wz.heap[w.heap.size]? = some (.cells #[.int .i64 0, .int .i64 0] 121 (0, 0)) := by rw [← hgen]; exact (heap_alloc_old wq _ hbs0wq).trans hreswq
          have hnonwz : wz.heap[w.heap.size + 1]? = some (.cells #[.int .i64 0, .int .i64 0] 121 (0, 0)) := by rw [← hgen]; exact (heap_alloc_old wq _ hbswq).trans hnonwq
          have hcz : wz.heap[wq.heap.size]? = some (.cells #[.int .i64 (p : Int), .int .i64 (n : Int)] 121 (0, 0)) := by rw [← hgen]; exact heap_alloc_new wq _
          clear hgen
          have hbswz := blk_lt hnonwz
          have hbs0wz := blk_lt hreswz
          have r0wz : wz.cell? ⟨w.heap.size, 0, none⟩ = some (.int .i64 0) := by rw [blk_cell hreswz]; rfl
          have r1wz : wz.cell? ⟨w.heap.size, 1, none⟩ = some (.int .i64 0) := by rw [blk_cell hreswz]; rfl
          have zr0wz := blk_free hreswz 0
          have zr1wz := blk_free hreswz 1
          have n0wz : wz.cell? ⟨w.heap.size + 1, 0, none⟩ = some (.int .i64 0) := by rw [blk_cell hnonwz]; rfl
          have n1wz : wz.cell? ⟨w.heap.size + 1, 1, none⟩ = some (.int .i64 0) := by rw [blk_cell hnonwz]; rfl
          have cz0 : wz.cell? ⟨wq.heap.size, 0, none⟩ = some (.int .i64 p) := by rw [blk_cell hcz]; rfl
          have cz1 : wz.cell? ⟨wq.heap.size, 1, none⟩ = some (.int .i64 n) := by rw [blk_cell hcz]; rfl
          have hczl := blk_lt hcz
          have hne1 : w.heap.size ≠ wq.heap.size := by omega
          have hne2 : wq.heap.size ≠ w.heap.size := by omega
          clear hx0 hx1 kc0wq x3wq r0wq r1wq zr0wq zr1wq n0wq n1wq hreswq hnonwq
          go_region
          all_goals go_wp2_with fail
          all_goals
            have hRq := blk_set (blk_set hreswz 0 (.int .i64 p)) 1 (.int .i64 n)
            have jq0 := blk_cell hRq 0
            have jq1 := blk_cell hRq 1
            refine bodyPost_ret (v := .tuple #[.agg #[.int .i64 p, .int .i64 n], .bool (p &&& n == 0)]) (by simp [results, Tryz.results86, go_sem, jq0, jq1]) rfl ?_
            have hB : Below w.heap.size w ((wz.setCell ⟨w.heap.size, 0, none⟩ (.int .i64 p)).setCell ⟨w.heap.size, 1, none⟩ (.int .i64 n)).drew := ((hbwz.setCell (p := ⟨w.heap.size, 0, none⟩) (Nat.le_refl _) _).setCell (p := ⟨w.heap.size, 1, none⟩) (Nat.le_refl _) _).drew
            cases hcl : (p &&& n == 0) with
            | false => exact RStPost.none_ hB (by rw [unhide HAP]; unfold apartO; rw [if_neg (by simpa using hcl)]) (p, n) rfl
            | true => exact RStPost.some_ hB (p, n) (by rw [unhide HAP]; unfold apartO; rw [if_pos (by simpa using hcl)]) rfl
end Go.Proofs.YtgipjjhkhfihpaaGreatDoor

namespace Go.Proofs.YtgipjjhkhfihpaaGreatDoor
open Go.RowKit

set_option maxRecDepth 100000 in
set_option maxHeartbeats 12800000 in
theorem step_c (lo b : Nat) (F : Form) (ss : List (Nat × Nat)) (aS : Option Addr) (cS : Nat) (lS : Nat) (truth : Bool) (hd : List UInt8) (tl : List (List UInt8)) (g off cap : Nat) (w : World) (hIn : StepIn lo b F ss aS cS lS hd tl g off cap w) (hhd : hd = [99]) (htr : truth = true) :
    Calls Tryz.prog 86 #[.pointer (some ⟨b, 0, none⟩), .slice aS ss.length cS, .slice (some ⟨g, off, none⟩) (tl.length + 1) cap, .bool truth] w fun e w' => RStPost (stepR F truth ss hd tl) w e w' := by
  have HHD := hide hhd
  have HTR := hide htr
  clear hhd htr
  obtain ⟨hR, hF, hS, hSB, hSb, hs, hl, hcap, hws⟩ := hIn
  obtain ⟨i0, hi, hz0, hz1, hz2⟩ := info_parts Tryz.info3
  have hR0 := hR
  obtain ⟨_, vO, vE, vC, hfb, _, _, hC⟩ := hR
  obtain ⟨aC, cC, rfl⟩ := own_form hC
  have hbw := blk_lt hfb
  obtain ⟨g', off', cur, he, hg, hcur⟩ := hs (by simp)
  injection he with he
  injection he with e1 e2 e3
  subst e1 e2
  clear e3
  have hgw := blk_lt hg
  have HC0 : Hid (∀ wx : World, Below w.heap.size w wx → wx.cell? ⟨g, off, none⟩ = some (S hd)) := hide (fun wx hx => by
    rw [hx.cell (p := ⟨g, off, none⟩) hgw, blk_cell hg]; exact hcur 0 (by simp))
  have HCJ : Hid (∀ (wx : World) (j : Nat) (hj : j < tl.length), Below w.heap.size w wx → wx.cell? ⟨g, off + (j + 1), none⟩ = some (S tl[j])) := hide (fun wx j hj hx => by
    rw [hx.cell (p := ⟨g, off + (j + 1), none⟩) hgw, blk_cell hg]; exact hcur (j + 1) (by simpa using hj))
  have HST : Hid (∀ (wx : World) (ao : Option Addr), Below w.heap.size w wx → (tl ≠ [] → ao = some ⟨g, off + 1, none⟩) → StrsAt wx ao tl) := hide (fun wx ao hx ho hne => ⟨g, off + 1, cur, ho hne, (hx.block _ hgw).trans hg, fun j hj => by
    have h1 := hcur (1 + j) (by simp; omega)
    rw [← Nat.add_assoc] at h1
    rw [h1]
    simp [show 1 + j = j + 1 from by omega]⟩)
  have HWS := hide hws
  clear hcur hws hs hg
  go_enter Tryz.func86, Tryz.ntmps86
  go_wp2_with fail
  go_loopg [11, 12] tl.length (fun m v i wx => ∃ j : Nat, i = .int .i64 (j + 1) ∧ j + m = tl.length ∧ wx.ownsRow (w.heap.size + 2) 3 1 v j (ints (cnts (tl.take j))) ∧ Below w.heap.size w wx ∧
      wx.heap[w.heap.size]? = some (.cells #[.int .i64 0, .int .i64 0] 121 (0, 0)) ∧ wx.heap[w.heap.size + 1]? = some (.cells #[.int .i64 0, .int .i64 0] 121 (0, 0)))
  case atStart => exact ⟨0, rfl, by omega, World.ownsRow_nil _ _ _ _, ((Below.refl _ _).alloc (Nat.le_refl _) _).alloc (by simp) _, by rw [heap_alloc_old _ _ (by simp)]; exact heap_alloc_new _ _, new_at (by simp)⟩
  case round =>
    obtain ⟨j, rfl, hj, hown, hb, hres, hnon⟩ := hrel
    have hbs := blk_lt hnon
    by_cases hlt : j < tl.length
    · have hcj := unhide HCJ wr j hlt hb
      have hxl := unhide HWS _ (List.getElem_mem hlt)
      have HT := hide (cnts_take tl j hlt)
      have hgw1 : g < wr.heap.size := by omega
      generalize tl[j] = x at *
      go_wp2_with fail
      refine (count_any x 1048576 wr hxl (by omega)).mono ?_
      rintro e w1 ⟨rfl, hw1⟩
      subst hw1
      rw [show cnt x 1048576 = cnt x big from rfl]
      go_wp2_with (at_builtin; refine wpList_append_new rfl _ _ 25 rfl (w.heap.size + 2) i0 (.int .i64 0) 1 8 Tryz.underlying25 hi hz0 hz1 hz2 rfl (by decide) _ _ _ hown rfl rfl rfl (by simp [Value.oneCell']) (by unfold maxLen; omega) (by omega) (by omega) ?_; intro v' w2 hown' hgrow hnn)
      go_roundg (gk - 1)
      case measure => omega
      case rel =>
        have hlto := hown.lt
        refine ⟨j + 1, by go_num, by omega, by rw [unhide HT]; exact hown', below_grown hb hgrow hown (by omega) (by omega), ?_, ?_⟩
        · rw [hgrow.block _ (by omega) (fun e => by have := hlto _ e.symm; omega)]; exact hres
        · rw [hgrow.block _ (by omega) (fun e => by have := hlto _ e.symm; omega)]; exact hnon
    · have hjl : j = tl.length := by omega
      subst hjl
      rw [List.take_length] at hown
      clear hj hlt hi hz0 hz1 hz2 HCJ
      obtain ⟨aK, cK, rfl⟩ := own_form hown
      have hc0 := unhide HC0 wr hb
      have hgw1 : g < wr.heap.size := by omega
      have hbw1 : b < wr.heap.size := by omega
      have hbs0 : w.heap.size < wr.heap.size := by omega
      have r0 : wr.cell? ⟨w.heap.size, 0, none⟩ = some (.int .i64 0) := by rw [blk_cell hres]; rfl
      have r1 : wr.cell? ⟨w.heap.size, 1, none⟩ = some (.int .i64 0) := by rw [blk_cell hres]; rfl
      have zr0 := blk_free hres 0
      have zr1 := blk_free hres 1
      have n0 : wr.cell? ⟨w.heap.size + 1, 0, none⟩ = some (.int .i64 0) := by rw [blk_cell hnon]; rfl
      have n1 : wr.cell? ⟨w.heap.size + 1, 1, none⟩ = some (.int .i64 0) := by rw [blk_cell hnon]; rfl
      have x1 : wr.cell? ⟨b, 1, none⟩ = some (.int .i64 F.all) := by rw [hb.cell (p := ⟨b, 1, none⟩) hbw, blk_cell hfb]; rfl
      have x3 : wr.cell? ⟨b, 3, none⟩ = some (.slice aC F.cl.length cC) := by rw [hb.cell (p := ⟨b, 3, none⟩) hbw, blk_cell hfb]; rfl
      have HK : Hid (∀ (i : Nat) (hi : i < tl.length), ∃ gK, aK = some ⟨gK, 0, none⟩ ∧ gK < wr.heap.size ∧ wr.cell? ⟨gK, i, none⟩ = some (.int .i64 (cnt tl[i] big : Nat)) ∧ tl.length ≤ cK) := hide (fun i hi => by
        obtain ⟨gK, capK, hVe, _, hg', hcap', hcell⟩ := own_pos hown (by omega)
        injection hVe with hVe _ hV2
        subst hVe hV2
        exact ⟨gK, rfl, hg', hcell _ _ (by unfold ints cnts; simp [hi]), hcap'⟩)
      have HBITS := hide hF.bits
      have hc24 := hF.cl
      have hall := hF.all
      have HSB := hide hSb
      have HCELL : Hid (∀ (m : Nat) (hm : m < F.cl.length), ∃ g2, aC = some ⟨g2, 0, none⟩ ∧ g2 < w.heap.size ∧ w.cell? ⟨g2, m * 2, none⟩ = some (.int .i64 (F.cl[m].1 : Int)) ∧ w.cell? ⟨g2, m * 2 + 1, none⟩ = some (.int .i64 (F.cl[m].2 : Int))) := hide (fun m hm => by
        obtain ⟨g2, cap2, hVe, hg2, hg2', _, hcell⟩ := own_pos hC (by omega)
        injection hVe with hVe _ hV2
        subst hVe hV2
        obtain ⟨hpa, hpb⟩ := pairs_at F.cl m hm
        exact ⟨g2, rfl, hg2', hcell _ _ hpa, hcell _ _ hpb⟩)
      have HSEL : Hid (∀ (m : Nat) (hm : m < ss.length), ∃ g2, aS = some ⟨g2, 0, none⟩ ∧ g2 < w.heap.size ∧ w.cell? ⟨g2, m * 2, none⟩ = some (.int .i64 (ss[m].1 : Int)) ∧ w.cell? ⟨g2, m * 2 + 1, none⟩ = some (.int .i64 (ss[m].2 : Int))) := hide (fun m hm => by
        obtain ⟨g2, cap2, hVe, hg2, hg2', _, hcell⟩ := own_pos hS (by omega)
        injection hVe with hVe _ hV2
        subst hVe hV2
        obtain ⟨hpa, hpb⟩ := pairs_at ss m hm
        exact ⟨g2, rfl, hg2', hcell _ _ hpa, hcell _ _ hpb⟩)
      have HFW := hide hF
      clear hSb hown hC hfb hS hF
      have hhd := unhide HHD
      have htr := unhide HTR
      subst hhd htr
      have HSP : Hid (stepR F true ss [99] tl = cubeR F tl) := hide (by unfold stepR; rw [if_neg (by simp), if_pos ⟨rfl, rfl⟩])
      go_wp2_with fail
      all_goals
        refine (cube_any lo b F tl _ _ wr (hR0.later hb) (unhide HFW) (unhide HST wr _ hb (fun hne => by first | rfl | (exfalso; apply hne; exact List.eq_nil_of_length_eq_zero (by omega)))) (by omega) (unhide HWS)).mono ?_
        rintro e w1 ⟨hb1, c, ok, rfl, hok⟩
        obtain ⟨p, n⟩ := c
        have HOK := hide hok
        clear hok
        have hr1 := (hb1.block _ hbs0).trans hres
        have hB1 : Below w.heap.size w w1 := hb.trans (hb1.mono hb.size)
        have q0 : w1.cell? ⟨w.heap.size, 0, none⟩ = some (.int .i64 0) := by rw [blk_cell hr1]; rfl
        have q1 : w1.cell? ⟨w.heap.size, 1, none⟩ = some (.int .i64 0) := by rw [blk_cell hr1]; rfl
        have y0 := blk_free hr1 0
        have y1 := blk_free hr1 1
        have hRq := blk_set (blk_set hr1 0 (.int .i64 p)) 1 (.int .i64 n)
        have jq0 := blk_cell hRq 0
        have jq1 := blk_cell hRq 1
        dsimp only
        go_wp2_with fail
        refine bodyPost_ret (v := .tuple #[.agg #[.int .i64 p, .int .i64 n], .bool ok]) (by simp [results, Tryz.results86, go_sem, jq0, jq1]) rfl ⟨?_, (p, n), ok, rfl, by rw [unhide HSP]; exact unhide HOK⟩
        exact (hB1.setCell (p := ⟨w.heap.size, 0, none⟩) (Nat.le_refl _) _).setCell (p := ⟨w.heap.size, 1, none⟩) (Nat.le_refl _) _
end Go.Proofs.YtgipjjhkhfihpaaGreatDoor
