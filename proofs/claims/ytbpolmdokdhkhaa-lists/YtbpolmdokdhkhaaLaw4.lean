import Derived.Test.YtbpolmdokdhkhaaBlocksLaw
import Derived.Test.YtbpolmdokdhkhaaLaw3
namespace Go.Proofs.Ytbpolmdokdhkhaa
open Go.RowKit

/-- What one step leaves, with lists. -/
structure StepL (bw : Nat) (text proof : List UInt8) (o : OpV) (c4 v5 v6 : Value) (n5 n6 : Nat) (w : World) (e : Ending) (w' : World) : Prop where
  ret : e = .returned (.bool true)
  below : Below bw w w'
  at_ : ∃ text' px' pf' proof' v5' v6' h5s h6s, WAt w' bw text' px' pf' proof' c4 v5' v6' ∧ FPair (bw + 1) w' px' pf' ∧ ListsAt bw w' v5' v6' h5s h6s ∧ h5s.length ≤ n5 + 8 ∧ h6s.length ≤ n6 + 1 ∧
    text'.length ≤ text.length + o.s.length + 1 ∧ proof'.length ≤ proof.length + o.s.length + 1

theorem stepL_base {bw : Nat} {text proof : List UInt8} {px pf : Option Addr} {o : OpV} {c4 v5 v6 : Value} {h5s h6s : List Value} {w w' : World} {e : Ending} (hw : WAt w bw text px pf proof c4 v5 v6) (hL : ListsAt bw w v5 v6 h5s h6s)
    (h : StepPost bw text proof o c4 v5 v6 w e w') : StepL bw text proof o c4 v5 v6 h5s.length h6s.length w e w' := by
  obtain ⟨h1, ho, text', px', pf', proof', hw', ht, hp, hF⟩ := h
  refine ⟨h1, ho.below (Nat.le_of_lt (blk_lt hw)) (fun k hk e => by omega), text', px', pf', proof', v5, v6, h5s, h6s, hw', hF, hL.only ho (world_foreign hw _ (by decide) 0), by omega, by omega, ht, hp⟩

set_option maxRecDepth 100000 in
set_option maxHeartbeats 1600000 in
theorem step_blocks (bw : Nat) (text : List UInt8) (px pf : Option Addr) (proof : List UInt8) (o : OpV) (c4 v5 v6 : Value) (h5s h6s : List Value) (w : World) (hw : WAt w bw text px pf proof c4 v5 v6) (hF : FPair (bw + 1) w px pf) (hL : ListsAt bw w v5 v6 h5s h6s) (hk : o.kind = 10)
    (hn5 : h5s.length ≤ 1048576000) (hn6 : h6s.length ≤ 1073741823) :
    Calls Try.prog 17 #[.pointer (some ⟨bw, 0, none⟩), .agg #[.int .i64 o.kind, .int .i64 o.a, .int .i64 o.b, .int .i64 o.c, S o.s, S o.t]] w fun e w' => StepL bw text proof o c4 v5 v6 h5s.length h6s.length w e w' := by
  obtain ⟨kind, a, b, c, s, t⟩ := o
  dsimp only at hk ⊢
  subst hk
  have hbw : bw < w.heap.size := blk_lt hw
  have h1 : w.cell? ⟨bw, 1, none⟩ = some (.pointer px) := by rw [blk_cell hw]; rfl
  have hbel : Below w.heap.size w (w.alloc (.cells #[.int .i64 10, .int .i64 a, .int .i64 b, .int .i64 c, S s, S t] 39)) := (Below.refl _ _).alloc (Nat.le_refl _) _
  rcases hF with ⟨rfl, rfl⟩ | ⟨b1, b2, st, q0, rfl, rfl, hP, hR, hS, h24, hN⟩
  · go_enter Try.func17, Try.ntmps17
    go_wp2_with fail
    go_ret
    exact ⟨rfl, hbel.mono (Nat.le_of_lt hbw), text, none, none, proof, v5, v6, h5s, h6s, hw.later hbel, Or.inl ⟨rfl, rfl⟩, hL.later hbel, by omega, by omega, by simp; omega, by simp; omega⟩
  · go_enter Try.func17, Try.ntmps17
    go_wp2_with fail
    refine (blocks_any bw b1 b2 st q0 text proof c4 v5 v6 h5s h6s _ (hw.later hbel) (hP.later hbel) (hR.later hbel) hS hN (hL.later hbel) hn5 hn6).mono ?_
    intro e w2 hp
    obtain ⟨rfl, ho, v5', v6', h5s', h6s', hw', hL', hl5, hl6⟩ := hp
    have hsz := hbel.size
    have hL0 := hL.later hbel
    have hw0 := hw.later hbel
    unfold WAt at hw0
    have hFo : FPair (bw + 1) w2 (some ⟨b1, 0, none⟩) (some ⟨b2, 0, none⟩) := FPair.only (Or.inr ⟨b1, b2, st, q0, rfl, rfl, hP.later hbel, hR.later hbel, hS, h24, hN⟩) ho (fun k _ ht => by
      rcases ht with rfl | ht | ht
      · exact Or.inl (by omega)
      · obtain ⟨cc, hc⟩ := own_blk hL0.o5 ht
        exact Or.inr ⟨_, _, _, hc, by decide⟩
      · obtain ⟨cc, hc⟩ := own_blk hL0.o6 ht
        exact Or.inr ⟨_, _, _, hc, by decide⟩)
    have hB : Below bw w w2 := (hbel.mono (Nat.le_of_lt hbw)).trans (ho.below (by omega) (fun k hk ht => by
      rcases ht with rfl | ht | ht
      · omega
      · have := (hL0.o5.lt k ht).1; omega
      · have := (hL0.o6.lt k ht).1; omega))
    go_wp2_with fail
    go_ret
    exact ⟨rfl, hB, text, _, _, proof, v5', v6', h5s', h6s', hw', hFo, hL', hl5, by omega, by simp; omega, by simp; omega⟩

theorem stepL_any (bw : Nat) (text : List UInt8) (px pf : Option Addr) (proof : List UInt8) (o : OpV) (c4 v5 v6 : Value) (h5s h6s : List Value) (w : World) (hw : WAt w bw text px pf proof c4 v5 v6) (hF : FPair (bw + 1) w px pf) (hL : ListsAt bw w v5 v6 h5s h6s) (hk : inB [10] o.kind = true)
    (hok : o.Ok) (hpl : proof.length ≤ 1048576) (htl : text.length ≤ 1048576) (hsl : o.s.length ≤ 1048576) (hn5 : h5s.length ≤ 1048576000) (hn6 : h6s.length ≤ 1073741823) :
    Calls Try.prog 17 #[.pointer (some ⟨bw, 0, none⟩), .agg #[.int .i64 o.kind, .int .i64 o.a, .int .i64 o.b, .int .i64 o.c, S o.s, S o.t]] w fun e w' => StepL bw text proof o c4 v5 v6 h5s.length h6s.length w e w' := by
  unfold inB at hk
  rw [Bool.or_eq_true] at hk
  rcases hk with hk | hk
  · exact (step_base bw text px pf proof o c4 v5 v6 w hw hF hk hok hpl htl hsl).mono fun e w' h => stepL_base hw hL h
  · have : o.kind = 10 := by simp at hk; exact hk.symm
    exact step_blocks bw text px pf proof o c4 v5 v6 h5s h6s w hw hF hL this hn5 hn6

set_option maxRecDepth 100000 in
set_option maxHeartbeats 3200000 in
theorem upTo_lists (base : Nat) (ops : List OpV) (v : Value) (w : World) (hown : w.ownsRow base 39 6 v ops.length (opCells ops)) (hall : ∀ o ∈ ops, inB [10] o.kind = true ∧ o.Ok) (hsz : sizeTo ops ops.length ≤ 1048576) (hln : ops.length ≤ 1048576) :
    Calls Try.prog 14 #[v] w fun e w' => e = .returned (.int .i64 (-1)) ∧ Below w.heap.size w w' := by
  obtain ⟨aS, cS, rfl⟩ := own_form hown
  have HALL := hide hall; clear hall
  go_enter Try.func14, Try.ntmps14
  go_wp2_with fail
  go_loopg [4] (ops.length) (fun n i wx => ∃ (k : Nat) (text : List UInt8) (px pf : Option Addr) (proof : List UInt8) (v5 v6 : Value) (h5s h6s : List Value), i = .int .i64 k ∧ k + n = ops.length ∧ WAt wx w.heap.size text px pf proof (.slice none 0 0) v5 v6 ∧
    text.length ≤ sizeTo ops k ∧ proof.length ≤ sizeTo ops k ∧ Below w.heap.size w wx ∧ FPair (w.heap.size + 1) wx px pf ∧ ListsAt w.heap.size wx v5 v6 h5s h6s ∧ h5s.length ≤ 8 * k ∧ h6s.length ≤ k)
  case atStart => exact ⟨0, [], none, none, [], .slice none 0 0, .slice none 0 0, [], [], rfl, by omega, heap_alloc_new _ _, by simp, by simp, (Below.refl _ _).alloc (Nat.le_refl _) _, Or.inl ⟨rfl, rfl⟩, ⟨World.ownsRow_nil _ _ _ _, World.ownsRow_nil _ _ _ _, fun i hi => by simp at hi, fun i hi => by simp at hi, fun i hi => by simp at hi⟩, by simp, by simp⟩
  case round =>
    obtain ⟨k, text, px, pf, proof, v5, v6, h5s, h6s, rfl, hk, hw, htl, hpl, hb, hF, hL, hl5, hl6⟩ := hrel
    by_cases hlt : k < ops.length
    · obtain ⟨g, cap, hV, hg, hg', _, hcell⟩ := own_pos hown (by omega)
      injection hV with hV _ hV2
      subst hV hV2
      have hc : ∀ j (hj : j < 6) u, ops[k].cells[j]? = some u → wr.cell? ⟨g, k * 6 + j, none⟩ = some u := fun j hj u hu => by
        rw [hb.cell (p := ⟨g, k * 6 + j, none⟩) hg']
        exact hcell _ _ (by rw [opCells_at ops k j hlt hj]; exact hu)
      have hc0 : wr.cell? ⟨g, k * 6, none⟩ = some (.int .i64 ops[k].kind) := hc 0 (by omega) _ rfl
      have hc1 : wr.cell? ⟨g, k * 6 + 1, none⟩ = some (.int .i64 ops[k].a) := hc 1 (by omega) _ rfl
      have hc2 : wr.cell? ⟨g, k * 6 + 2, none⟩ = some (.int .i64 ops[k].b) := hc 2 (by omega) _ rfl
      have hc3 : wr.cell? ⟨g, k * 6 + 3, none⟩ = some (.int .i64 ops[k].c) := hc 3 (by omega) _ rfl
      have hc4 : wr.cell? ⟨g, k * 6 + 4, none⟩ = some (S ops[k].s) := hc 4 (by omega) _ rfl
      have hc5 : wr.cell? ⟨g, k * 6 + 5, none⟩ = some (S ops[k].t) := hc 5 (by omega) _ rfl
      obtain ⟨hbase, hok⟩ := unhide HALL _ (List.getElem_mem hlt)
      have hss := sizeTo_succ ops k hlt
      have hsl := sizeTo_le ops (k + 1) (by omega)
      have hl1 : ops[k].s.length ≤ 1048576 := by omega
      have hl2 : text.length ≤ 1048576 := by omega
      have hl3 : proof.length ≤ 1048576 := by omega
      have HSS := hide hss
      have HB := hide hbase
      clear hc hcell hss hbase
      generalize ops[k] = o at *
      go_wp2_with fail
      refine (stepL_any w.heap.size text px pf proof o _ v5 v6 h5s h6s wr hw hF hL (unhide HB) hok hl3 hl2 hl1 (by omega) (by omega)).mono ?_
      intro e w2 hp
      obtain ⟨rfl, hbel, text', px', pf', proof', v5', v6', h5s', h6s', hw2, hF2, hL2, hm5, hm6, ht2, hp2⟩ := hp
      have hb2 : Below w.heap.size w w2 := hb.trans hbel
      go_wp2_with fail
      refine (looks_any w.heap.size text' px' pf' proof' _ v5' v6' h5s' h6s' (w.heap.size + 1) (w.heap.size + 1) w2 hw2 hL2.o5 hL2.o6 hL2.ls hL2.lss (by omega) (by omega)).mono ?_
      rintro e w3 ⟨rfl, hw3⟩
      subst hw3
      go_wp2_with fail
      go_roundg (gk - 1)
      case measure => omega
      case rel =>
        have := unhide HSS
        exact ⟨k + 1, text', px', pf', proof', v5', v6', h5s', h6s', by go_num, by omega, hw2, by omega, by omega, hb2, hF2, hL2, by omega, by omega⟩
    · have hkl : k = ops.length := by omega
      subst hkl
      have h4 : wr.cell? ⟨w.heap.size, 4, none⟩ = some (.slice none 0 0) := by rw [blk_cell hw]; rfl
      go_wp2_with fail
      refine wp_loop_rounds 1 ?_
      rw [rounds_succ]
      go_wp2_with fail
      go_ret
      exact ⟨rfl, hb⟩

set_option maxRecDepth 100000 in
set_option maxHeartbeats 800000 in
theorem lists_law (ops : List OpV) (ao : Option Addr) (cap : Nat) (w : World) (hs : ScriptAt w ao ops) (hsz : Sized ops) (hln : ops.length ≤ 140737488355328) (hok : ∀ o ∈ ops, o.Ok) :
    Calls Try.prog 4 #[.slice ao ops.length cap] w fun e w' => e = .returned (.bool true) ∧ Below w.heap.size w w' := by
  have HOK := hide hok; clear hok
  have HU : Hid (∀ (base : Nat) (v : Value) (w' : World), smallB ops = true → w'.ownsRow base 39 6 v (ops.filter (fun o => inB [10] o.kind)).length (opCells (ops.filter (fun o => inB [10] o.kind))) → Calls Try.prog 14 #[v] w' fun e w'' => e = .returned (.int .i64 (-1)) ∧ Below w'.heap.size w' w'') := hide (by
    intro base v w' hsm hown
    have h1 : totTo ops ops.length ≤ 524288 := of_decide_eq_true hsm
    have h2 := filter_sizes (fun o => inB [10] o.kind) ops
    have h3 : (ops.filter (fun o => inB [10] o.kind)).length ≤ ops.length := List.length_filter_le _ _
    have h4 := totTo_le ops 0 (by omega)
    rw [totTo_zero] at h4
    refine upTo_lists base _ v w' hown ?_ (by omega) (by omega)
    intro o ho
    rw [List.mem_filter] at ho
    exact ⟨ho.2, unhide HOK o ho.1⟩)
  go_enter Try.func4, Try.ntmps4
  go_wp2_with fail
  have hbel : Below w.heap.size w (w.alloc (.cells #[.int .i64 10] 3)) := (Below.refl _ _).alloc (Nat.le_refl _) _
  have hs' : ScriptAt (w.alloc (.cells #[.int .i64 10] 3)) ao ops := by
    intro hne
    obtain ⟨b, off, h1, h2, h3⟩ := hs hne
    exact ⟨b, off, h1, Nat.lt_of_lt_of_le h2 hbel.size, fun k hk j hj u hu => by rw [hbel.cell (p := ⟨b, off + (k * 6 + j), none⟩) h2]; exact h3 k hk j hj u hu⟩
  refine (plays_any ops ao cap [10] (some ⟨w.heap.size, 0, none⟩) 1 _ hs' (fun _ => ⟨w.heap.size, 0, rfl, by simp, fun j hj => by
    have hj0 : j = 0 := by simp at hj; omega
    subst hj0
    rw [blk_cell (heap_alloc_new w _)]; rfl⟩) hsz hln (by simp) HU).mono ?_
  rintro e w1 ⟨rfl, hb⟩
  go_wp2_with fail
  go_ret
  exact ⟨rfl, below_trans hbel hb⟩
end Go.Proofs.Ytbpolmdokdhkhaa
