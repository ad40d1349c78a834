import Derived.Test.YtgipjjhkhfihpaaGreatDoorDW
import Derived.Deep.QuietTactic
import Derived.BigQuiet
import Derived.Test.YtgipjjhkhfihpaaGreatDoorDF
import Derived.Test.YtgipjjhkhfihpaaGreatDoorDP
import Derived.BigRegion
namespace Go.Proofs.YtgipjjhkhfihpaaGreatDoor
open Go.RowKit

/-! ### One step of a script -/
theorem stepD_base (bw : Nat) (D : DW) (o : OpV) (w : World) (hD : DInv bw w D) (hk : base4 o.kind = true) (hok : o.Ok) (hpl : D.proof.length ≤ 1048576) (htl : D.text.length ≤ 1048576) (hsl : o.s.length ≤ 1048576) :
    Calls Tryz.prog 19 #[.pointer (some ⟨bw, 0, none⟩), .agg #[.int .i64 o.kind, .int .i64 o.a, .int .i64 o.b, .int .i64 o.c, S o.s, S o.t]] w fun e w' => StepD bw D (o.s.length + 1) w e w' := by
  refine (step_baseT0 bw D.text D.px D.pf D.proof o D.v4 D.v5 D.v6 w hD.wat hk hok hpl htl hsl).mono ?_
  rintro e w' ⟨h1, ho, text', px', pf', proof', hw', h2, h3, h4⟩
  refine ⟨h1, ho.below (Nat.le_of_lt (blk_lt hD.wat)) (fun k hk e => by omega), _, hD.base ho hw' h4, by show text'.length ≤ _; omega, by show proof'.length ≤ _; omega, by show D.gs.length ≤ _; omega, by show D.h5s.length ≤ _; omega, by show D.h6s.length ≤ _; omega⟩
def opBlk (o : OpV) : Obj := .cells #[.int .i64 o.kind, .int .i64 o.a, .int .i64 o.b, .int .i64 o.c, S o.s, S o.t] 29
theorem moves_d (bw i : Nat) (D : DW) (bits : Int) (ask : Bool) (w : World) (hD : DInv bw w D) (hi : i < D.gs.length) (hbi : i64ok bits) (hn5 : D.h5s.length ≤ 1073741824) :
    Calls Tryz.prog 30 #[.pointer (some ⟨bw, 0, none⟩), .pointer (some ⟨D.gs[i].gb, 0, none⟩), .int .i64 bits, .bool ask] w fun e w' => StepD bw D 0 w e w' := by
  have hG := hD.games _ (List.getElem_mem hi)
  obtain ⟨G, hGe⟩ : ∃ G, D.gs[i] = G := ⟨_, rfl⟩
  rw [hGe] at hG ⊢
  have ht : G.g.turn ≤ (progBlocks (qFinish G.q0).vars).length := hG.pure.run.turn
  by_cases hov : G.g.turn = (progBlocks (qFinish G.q0).vars).length
  · exact moves_over bw i D G bits ask w hD hi hGe hbi hn5 hov
  · have htl : G.g.turn < (progBlocks (qFinish G.q0).vars).length := by omega
    by_cases hbad : bits < 0 ∨ (2 : Int) ^ (progBlocks (qFinish G.q0).vars)[G.g.turn].length ≤ bits
    · exact moves_bad bw i D G bits ask w hD hi hGe hbi hn5 htl hbad
    · simp only [not_or] at hbad
      obtain ⟨b, rfl⟩ : ∃ b : Nat, bits = (b : Int) := ⟨bits.toNat, by omega⟩
      exact moves_ok bw i D G b ask w hD hi hGe hn5 htl (by omega)
theorem DInv.v4f {bw : Nat} {w : World} {D : DW} (hD : DInv bw w D) : ∃ a c, D.v4 = .slice a D.gs.length c ∧ w.cell? ⟨bw, 4, none⟩ = some (.slice a D.gs.length c) := by
  obtain ⟨a, c, h⟩ := own_form hD.o4
  exact ⟨a, c, h, by rw [blk_cell hD.wat]; exact congrArg some h⟩
theorem DInv.gat {bw : Nat} {w : World} {D : DW} (hD : DInv bw w D) {a : Option Addr} {c : Nat} (hf : D.v4 = .slice a D.gs.length c) {i : Nat} (hi : i < D.gs.length) : ∃ g, a = some ⟨g, 0, none⟩ ∧ g < w.heap.size ∧ w.cell? ⟨g, i, none⟩ = some (.pointer (some ⟨D.gs[i].gb, 0, none⟩)) := by
  have h := hD.o4
  rw [hf] at h
  obtain ⟨g, cap, e, _, hg, _, hc⟩ := own_pos h (by omega)
  injection e with e _ _
  exact ⟨g, e, hg, hc i _ (by simp [hi, gptr])⟩
/-- Which of n things a raw number speaks of. -/
def pickN (c : Int) (n : Nat) : Nat := if c < 0 then ((-(c + 1)) % n).toNat else (c % n).toNat
theorem pickN_lt (c : Int) (n : Nat) (hn : 0 < n) : pickN c n < n := by
  unfold pickN
  split
  · have := Int.emod_nonneg (-(c + 1)) (show (n : Int) ≠ 0 by omega)
    have := Int.emod_lt_of_pos (-(c + 1)) (show (0 : Int) < n by omega)
    omega
  · have := Int.emod_nonneg c (show (n : Int) ≠ 0 by omega)
    have := Int.emod_lt_of_pos c (show (0 : Int) < n by omega)
    omega
set_option maxRecDepth 100000 in
set_option maxHeartbeats 400000 in
theorem pick_eq (c : Int) (n : Nat) (w : World) (hn : 0 < n) (hn2 : n ≤ 1048576) (h1 : -9223372036854775808 ≤ c) (h2 : c ≤ 9223372036854775807) :
    Calls Tryz.prog 29 #[.int .i64 c, .int .i64 n] w fun e w' => e = .returned (.int .i64 (pickN c n : Nat)) ∧ w' = w := by
  by_cases hc : c < 0
  · have hd : decide (c < 0) = true := by simpa using hc
    have HP : Hid (pickN c n = ((-(c + 1)) % n).toNat) := hide (by unfold pickN; rw [if_pos hc])
    go_enter Tryz.func29, Tryz.ntmps29
    go_wp2_with fail
    go_ret
    have e : -((c + 1).tmod n) = (-(c + 1)) % n := by rw [← Int.neg_tmod, Int.tmod_eq_emod_of_nonneg (by omega)]
    have e1 := Int.emod_nonneg (-(c + 1)) (show (n : Int) ≠ 0 by omega)
    refine ⟨ret_int ?_, rfl⟩
    rw [unhide HP]
    omega
  · have hd : decide (c < 0) = false := by simpa using hc
    have HP : Hid (pickN c n = (c % n).toNat) := hide (by unfold pickN; rw [if_neg hc])
    go_enter Tryz.func29, Tryz.ntmps29
    go_wp2_with fail
    go_ret
    refine ⟨ret_int ?_, rfl⟩
    rw [unhide HP]
    have := Int.emod_nonneg c (show (n : Int) ≠ 0 by omega)
    omega
/-- The ways that name a game. -/
def game3 (k : Int) : Bool := k == 8 || k == 9 || k == 11
set_option maxRecDepth 100000 in
set_option maxHeartbeats 3200000 in
theorem step_nogame (bw : Nat) (D : DW) (o : OpV) (w : World) (hD : DInv bw w D) (hk : game3 o.kind = true) (h0 : D.gs = []) :
    Calls Tryz.prog 19 #[.pointer (some ⟨bw, 0, none⟩), .agg #[.int .i64 o.kind, .int .i64 o.a, .int .i64 o.b, .int .i64 o.c, S o.s, S o.t]] w fun e w' => StepD bw D (o.s.length + 1) w e w' := by
  obtain ⟨a4, c4, hf, h4⟩ := hD.v4f
  rw [h0] at h4
  have hbw := blk_lt hD.wat
  have HQ : Hid (∀ w', Below w.heap.size w w' → StepD bw D (o.s.length + 1) w (.returned (.bool true)) w') := hide (fun w' h => (StepD.quiet (h.mono (Nat.le_of_lt hbw)) (hD.later h) rfl rfl (by omega) rfl rfl).more (by omega))
  obtain ⟨kind, a, b, c, s, t⟩ := o
  unfold game3 at hk
  simp only [Bool.or_eq_true, beq_iff_eq] at hk
  dsimp only at hk HQ ⊢
  rcases hk with (rfl | rfl) | rfl
  all_goals
    go_enter Tryz.func19, Tryz.ntmps19
    go_wp2_with fail
    go_ret
    exact unhide HQ _ ((Below.refl _ _).alloc (Nat.le_refl _) _)
theorem told_at {bw i : Nat} {D : DW} {w w' : World} {e : Ending} (hs : StandsD bw i D w e w') (hi : i < D.gs.length) : e = .returned (.bool true) ∧ Below bw w w' ∧ ∃ D', DInv bw w' D' ∧ D'.text = D.text ∧ D'.proof = D.proof ∧ D'.gs.length = D.gs.length ∧ D'.h5s.length = D.h5s.length + 1 ∧ D'.h6s = D.h6s ∧ GInv D'.Z w' D.gs[i].told := by
  obtain ⟨he, hb, _, v5', hdr, Z', hD'⟩ := hs
  refine ⟨he, hb, _, hD', rfl, rfl, by simp, by simp, rfl, ?_⟩
  exact hD'.games _ (List.mem_iff_getElem.2 ⟨i, by simpa using hi, by simp⟩)
set_option maxRecDepth 100000 in
set_option maxHeartbeats 6400000 in
theorem step_game (bw : Nat) (D : DW) (o : OpV) (w : World) (hD : DInv bw w D) (hk : game3 o.kind = true) (h0 : 0 < D.gs.length) (hok : o.Ok) (hn4 : D.gs.length ≤ 1048576) (hn5 : D.h5s.length ≤ 1073741824) :
    Calls Tryz.prog 19 #[.pointer (some ⟨bw, 0, none⟩), .agg #[.int .i64 o.kind, .int .i64 o.a, .int .i64 o.b, .int .i64 o.c, S o.s, S o.t]] w fun e w' => StepD bw D (o.s.length + 1) w e w' := by
  have hbw := blk_lt hD.wat
  obtain ⟨kind, a, b, c, s, t⟩ := o
  obtain ⟨_, ⟨ha1, ha2⟩, hb64, ⟨hc1, hc2⟩⟩ := hok
  dsimp only at hk ha1 ha2 hb64 hc1 hc2 ⊢
  have hA : Below w.heap.size w (w.alloc (.cells #[.int .i64 kind, .int .i64 a, .int .i64 b, .int .i64 c, S s, S t] 29)) := (Below.refl _ _).alloc (Nat.le_refl _) _
  have hop := heap_alloc_new w (.cells #[.int .i64 kind, .int .i64 a, .int .i64 b, .int .i64 c, S s, S t] 29)
  have hDA := hD.later hA
  obtain ⟨a4, c4, hf, h4A⟩ := hDA.v4f
  have hne : ((D.gs.length : Int) == 0) = false := by rw [beq_eq_false_iff_ne]; omega
  have hr := pickN_lt a D.gs.length h0
  have HPK : Hid (∀ w, Calls Tryz.prog 29 #[.int .i64 a, .int .i64 D.gs.length] w fun e w' => e = .returned (.int .i64 (pickN a D.gs.length : Nat)) ∧ w' = w) := hide (fun w => pick_eq a D.gs.length w h0 hn4 ha1 ha2)
  generalize pickN a D.gs.length = r at *
  obtain ⟨g, rfl, hg, hcell⟩ := hDA.gat hf hr
  have hMb : bw ≤ w.heap.size := Nat.le_of_lt hbw
  have HD : Hid (∀ w1, Below w.heap.size w w1 → DInv bw w1 D) := hide (fun w1 h => hD.later h)
  have HFIN : Hid (∀ e w1 w2, Below w.heap.size w w1 → StepD bw D 0 w1 e w2 → e = .returned (.bool true) ∧ StepD bw D (s.length + 1) w (.returned (.bool true)) w2) := hide (fun e w1 w2 hb h => by
    have he := h.ret
    subst he
    exact ⟨rfl, (h.after (hb.mono hMb)).more (by omega)⟩)
  clear hD hDA hf
  have h4w : w.cell? ⟨bw, 4, none⟩ = some (.slice (some ⟨g, 0, none⟩) D.gs.length c4) := by rw [← hA.cell (p := ⟨bw, 4, none⟩) hbw]; exact h4A
  have lbA := Nat.lt_of_lt_of_le hbw hA.size
  have lop := blk_lt hop
  unfold game3 at hk
  simp only [Bool.or_eq_true, beq_iff_eq] at hk
  have HREST : Hid (∀ w1, Below (w.alloc (.cells #[.int .i64 kind, .int .i64 a, .int .i64 b, .int .i64 c, S s, S t] 29)).heap.size (w.alloc (.cells #[.int .i64 kind, .int .i64 a, .int .i64 b, .int .i64 c, S s, S t] 29)) w1 → Below w.heap.size w w1 ∧ w1.heap[w.heap.size]? = some (.cells #[.int .i64 kind, .int .i64 a, .int .i64 b, .int .i64 c, S s, S t] 29 (0, 0))) := hide (fun w1 hb => ⟨hA.trans (hb.mono hA.size), (hb.block _ lop).trans hop⟩)
  rcases hk with (rfl | rfl) | rfl
  · go_enter Tryz.func19, Tryz.ntmps19
    go_wp2_with fail
    go_quiet (first | (go_at_call 29; refine Calls.quiet_of_same (unhide HPK _)))
    obtain ⟨hB1, hop1⟩ := unhide HREST _ (below_drewN (Below.refl _ _) nq)
    clear HREST hA hop h4A hg hcell lbA lop h4w
    generalize (w.alloc (.cells #[.int .i64 8, .int .i64 a, .int .i64 b, .int .i64 c, S s, S t] 29)).drewN nq = w1 at *
    have o2 : w1.cell? ⟨w.heap.size, 2, none⟩ = some (.int .i64 b) := by rw [blk_cell hop1]; rfl
    have o3 : w1.cell? ⟨w.heap.size, 3, none⟩ = some (.int .i64 c) := by rw [blk_cell hop1]; rfl
    have o0 : w1.cell? ⟨w.heap.size, 0, none⟩ = some (.int .i64 8) := by rw [blk_cell hop1]; rfl
    have lop1 := blk_lt hop1
    go_wp2_with fail
    refine (moves_d bw r D b _ _ (unhide HD _ hB1) hr hb64 hn5).mono ?_
    intro e w2 hs
    obtain ⟨rfl, hfin⟩ := unhide HFIN _ _ _ hB1 hs
    clear hs
    go_wp2_with fail
    go_ret
    exact hfin
  · go_enter Tryz.func19, Tryz.ntmps19
    go_wp2_with fail
    go_quiet (first | (go_at_call 29; refine Calls.quiet_of_same (unhide HPK _)))
    obtain ⟨hB1, hop1⟩ := unhide HREST _ (below_drewN (Below.refl _ _) nq)
    clear HREST hA hop h4A hg hcell lbA lop h4w
    generalize (w.alloc (.cells #[.int .i64 9, .int .i64 a, .int .i64 b, .int .i64 c, S s, S t] 29)).drewN nq = w1 at *
    have o0 : w1.cell? ⟨w.heap.size, 0, none⟩ = some (.int .i64 9) := by rw [blk_cell hop1]; rfl
    have lop1 := blk_lt hop1
    go_wp2_with fail
    refine (stands_p bw r _ D w1 (unhide HD _ hB1) hr rfl hn5).mono ?_
    intro e w2 hs
    obtain ⟨rfl, hfin⟩ := StepD.fin (D := D) (D2 := D) (hB1.mono hMb) rfl rfl (by omega) rfl rfl hs
    clear hs
    go_wp2_with fail
    go_ret
    exact hfin.more (by omega)
  · go_enter Tryz.func19, Tryz.ntmps19
    go_wp2_with fail
    go_quiet (first | (go_at_call 29; refine Calls.quiet_of_same (unhide HPK _)))
    obtain ⟨hB1, hop1⟩ := unhide HREST _ (below_drewN (Below.refl _ _) nq)
    clear HREST hA hop h4A hg hcell lbA lop h4w
    generalize (w.alloc (.cells #[.int .i64 11, .int .i64 a, .int .i64 b, .int .i64 c, S s, S t] 29)).drewN nq = w1 at *
    have o0 : w1.cell? ⟨w.heap.size, 0, none⟩ = some (.int .i64 11) := by rw [blk_cell hop1]; rfl
    have lop1 := blk_lt hop1
    go_wp2_with fail
    refine (stands_p bw r _ D w1 (unhide HD _ hB1) hr rfl hn5).mono ?_
    intro e w2 hs
    obtain ⟨rfl, hb2, D', hD', e1, e2, e3, e4, e5, hGt⟩ := told_at hs hr
    clear hs
    go_wp2_with fail
    refine (again_any D'.Z bw D.gs[r].told w2 hGt rfl).mono ?_
    rintro e w3 ⟨rfl, hb3⟩
    have hbw2 := blk_lt hD'.wat
    have hD3 := hD'.later hb3
    have hB3 : Below bw w w3 := ((hB1.mono hMb).trans hb2).trans (hb3.mono (Nat.le_of_lt hbw2))
    have HF3 : Hid (StepD bw D (s.length + 1) w (.returned (.bool true)) w3) := hide ⟨rfl, hB3, D', hD3, by rw [e1]; omega, by rw [e2]; omega, by omega, by omega, by rw [e5]; omega⟩
    clear e1 e2 e3 e4 e5
    go_wp2_with fail
    go_ret
    exact unhide HF3
end Go.Proofs.YtgipjjhkhfihpaaGreatDoor

namespace Go.Proofs.YtgipjjhkhfihpaaGreatDoor
open Go.RowKit

/-! ### step -/
def cnts (tl : List (List UInt8)) : List Nat := tl.map (fun x => cnt x big)
theorem cnts_len (tl : List (List UInt8)) : (cnts tl).length = tl.length := by simp [cnts]
theorem cnts_take (tl : List (List UInt8)) (k : Nat) (h : k < tl.length) : ints (cnts (tl.take (k + 1))) = ints (cnts (tl.take k)) ++ [.int .i64 (cnt tl[k] big : Nat)] := by
  unfold ints cnts; rw [List.take_succ_eq_append_getElem h, List.map_append, List.map_append]; rfl
/-- What step is called with. -/
structure StepIn (lo b : Nat) (F : Form) (ss : List (Nat × Nat)) (aS : Option Addr) (cS : Nat) (lS : Nat) (hd : List UInt8) (tl : List (List UInt8)) (g off cap : Nat) (w : World) : Prop where
  hR : RefAt lo w b F
  hF : FW F
  hS : w.ownsRow lS 121 2 (.slice aS ss.length cS) ss.length (pairs ss)
  hSB : ss.length ≤ 9000
  hSb : ∀ c ∈ ss, c.1 < 512 ∧ c.2 < 512
  hs : StrsAt w (some ⟨g, off, none⟩) (hd :: tl)
  hl : tl.length ≤ 1048575
  hcap : tl.length + 1 ≤ cap
  hws : ∀ x ∈ tl, x.length ≤ 1048576
theorem getD_at' {α : Type} (l : List α) (k : Nat) (d : α) (h : k < l.length) : l.getD k d = l[k] := by
  rw [List.getD, List.getElem?_eq_getElem h]; rfl
end Go.Proofs.YtgipjjhkhfihpaaGreatDoor

namespace Go.Proofs.YtgipjjhkhfihpaaGreatDoor
open Go.RowKit

set_option maxRecDepth 100000 in
set_option maxHeartbeats 12800000 in
theorem step_a (lo b : Nat) (F : Form) (ss : List (Nat × Nat)) (aS : Option Addr) (cS : Nat) (lS : Nat) (truth : Bool) (hd : List UInt8) (tl : List (List UInt8)) (g off cap : Nat) (w : World) (hIn : StepIn lo b F ss aS cS lS hd tl g off cap w) (hhd : hd = [97]) (htr : truth = false) (hln : tl.length = 1) :
    Calls Tryz.prog 86 #[.pointer (some ⟨b, 0, none⟩), .slice aS ss.length cS, .slice (some ⟨g, off, none⟩) (tl.length + 1) cap, .bool truth] w fun e w' => RStPost (stepR F truth ss hd tl) w e w' := by
  have HLN := hide hln
  have HHD := hide hhd
  have HTR := hide htr
  clear hln hhd htr
  obtain ⟨hR, hF, hS, hSB, hSb, hs, hl, hcap, hws⟩ := hIn
  obtain ⟨i0, hi, hz0, hz1, hz2⟩ := info_parts Tryz.info3
  have hR0 := hR
  obtain ⟨_, vO, vE, vC, hfb, _, _, hC⟩ := hR
  obtain ⟨aC, cC, rfl⟩ := own_form hC
  have hbw := blk_lt hfb
  obtain ⟨g', off', cur, he, hg, hcur⟩ := hs (by simp)
  injection he with he
  injection he with e1 e2 e3
  subst e1 e2
  clear e3
  have hgw := blk_lt hg
  have HC0 : Hid (∀ wx : World, Below w.heap.size w wx → wx.cell? ⟨g, off, none⟩ = some (S hd)) := hide (fun wx hx => by
    rw [hx.cell (p := ⟨g, off, none⟩) hgw, blk_cell hg]; exact hcur 0 (by simp))
  have HCJ : Hid (∀ (wx : World) (j : Nat) (hj : j < tl.length), Below w.heap.size w wx → wx.cell? ⟨g, off + (j + 1), none⟩ = some (S tl[j])) := hide (fun wx j hj hx => by
    rw [hx.cell (p := ⟨g, off + (j + 1), none⟩) hgw, blk_cell hg]; exact hcur (j + 1) (by simpa using hj))
  have HST : Hid (∀ (wx : World) (ao : Option Addr), Below w.heap.size w wx → (tl ≠ [] → ao = some ⟨g, off + 1, none⟩) → StrsAt wx ao tl) := hide (fun wx ao hx ho hne => ⟨g, off + 1, cur, ho hne, (hx.block _ hgw).trans hg, fun j hj => by
    have h1 := hcur (1 + j) (by simp; omega)
    rw [← Nat.add_assoc] at h1
    rw [h1]
    simp [show 1 + j = j + 1 from by omega]⟩)
  have HWS := hide hws
  clear hcur hws hs hg
  go_enter Tryz.func86, Tryz.ntmps86
  go_wp2_with fail
  go_loopg [11, 12] tl.length (fun m v i wx => ∃ j : Nat, i = .int .i64 (j + 1) ∧ j + m = tl.length ∧ wx.ownsRow (w.heap.size + 2) 3 1 v j (ints (cnts (tl.take j))) ∧ Below w.heap.size w wx ∧
      wx.heap[w.heap.size]? = some (.cells #[.int .i64 0, .int .i64 0] 121 (0, 0)) ∧ wx.heap[w.heap.size + 1]? = some (.cells #[.int .i64 0, .int .i64 0] 121 (0, 0)))
  case atStart => exact ⟨0, rfl, by omega, World.ownsRow_nil _ _ _ _, ((Below.refl _ _).alloc (Nat.le_refl _) _).alloc (by simp) _, by rw [heap_alloc_old _ _ (by simp)]; exact heap_alloc_new _ _, new_at (by simp)⟩
  case round =>
    obtain ⟨j, rfl, hj, hown, hb, hres, hnon⟩ := hrel
    have hbs := blk_lt hnon
    by_cases hlt : j < tl.length
    · have hcj := unhide HCJ wr j hlt hb
      have hxl := unhide HWS _ (List.getElem_mem hlt)
      have HT := hide (cnts_take tl j hlt)
      have hgw1 : g < wr.heap.size := by omega
      generalize tl[j] = x at *
      go_wp2_with fail
      refine (count_any x 1048576 wr hxl (by omega)).mono ?_
      rintro e w1 ⟨rfl, hw1⟩
      subst hw1
      rw [show cnt x 1048576 = cnt x big from rfl]
      go_wp2_with (at_builtin; refine wpList_append_new rfl _ _ 25 rfl (w.heap.size + 2) i0 (.int .i64 0) 1 8 Tryz.underlying25 hi hz0 hz1 hz2 rfl (by decide) _ _ _ hown rfl rfl rfl (by simp [Value.oneCell']) (by unfold maxLen; omega) (by omega) (by omega) ?_; intro v' w2 hown' hgrow hnn)
      go_roundg (gk - 1)
      case measure => omega
      case rel =>
        have hlto := hown.lt
        refine ⟨j + 1, by go_num, by omega, by rw [unhide HT]; exact hown', below_grown hb hgrow hown (by omega) (by omega), ?_, ?_⟩
        · rw [hgrow.block _ (by omega) (fun e => by have := hlto _ e.symm; omega)]; exact hres
        · rw [hgrow.block _ (by omega) (fun e => by have := hlto _ e.symm; omega)]; exact hnon
    · have hjl : j = tl.length := by omega
      subst hjl
      rw [List.take_length] at hown
      clear hj hlt hi hz0 hz1 hz2 HCJ
      obtain ⟨aK, cK, rfl⟩ := own_form hown
      have hc0 := unhide HC0 wr hb
      have hgw1 : g < wr.heap.size := by omega
      have hbw1 : b < wr.heap.size := by omega
      have hbs0 : w.heap.size < wr.heap.size := by omega
      have r0 : wr.cell? ⟨w.heap.size, 0, none⟩ = some (.int .i64 0) := by rw [blk_cell hres]; rfl
      have r1 : wr.cell? ⟨w.heap.size, 1, none⟩ = some (.int .i64 0) := by rw [blk_cell hres]; rfl
      have zr0 := blk_free hres 0
      have zr1 := blk_free hres 1
      have n0 : wr.cell? ⟨w.heap.size + 1, 0, none⟩ = some (.int .i64 0) := by rw [blk_cell hnon]; rfl
      have n1 : wr.cell? ⟨w.heap.size + 1, 1, none⟩ = some (.int .i64 0) := by rw [blk_cell hnon]; rfl
      have x1 : wr.cell? ⟨b, 1, none⟩ = some (.int .i64 F.all) := by rw [hb.cell (p := ⟨b, 1, none⟩) hbw, blk_cell hfb]; rfl
      have x3 : wr.cell? ⟨b, 3, none⟩ = some (.slice aC F.cl.length cC) := by rw [hb.cell (p := ⟨b, 3, none⟩) hbw, blk_cell hfb]; rfl
      have HK : Hid (∀ (i : Nat) (hi : i < tl.length), ∃ gK, aK = some ⟨gK, 0, none⟩ ∧ gK < wr.heap.size ∧ wr.cell? ⟨gK, i, none⟩ = some (.int .i64 (cnt tl[i] big : Nat)) ∧ tl.length ≤ cK) := hide (fun i hi => by
        obtain ⟨gK, capK, hVe, _, hg', hcap', hcell⟩ := own_pos hown (by omega)
        injection hVe with hVe _ hV2
        subst hVe hV2
        exact ⟨gK, rfl, hg', hcell _ _ (by unfold ints cnts; simp [hi]), hcap'⟩)
      have HBITS := hide hF.bits
      have hc24 := hF.cl
      have hall := hF.all
      have HSB := hide hSb
      have HCELL : Hid (∀ (m : Nat) (hm : m < F.cl.length), ∃ g2, aC = some ⟨g2, 0, none⟩ ∧ g2 < w.heap.size ∧ w.cell? ⟨g2, m * 2, none⟩ = some (.int .i64 (F.cl[m].1 : Int)) ∧ w.cell? ⟨g2, m * 2 + 1, none⟩ = some (.int .i64 (F.cl[m].2 : Int))) := hide (fun m hm => by
        obtain ⟨g2, cap2, hVe, hg2, hg2', _, hcell⟩ := own_pos hC (by omega)
        injection hVe with hVe _ hV2
        subst hVe hV2
        obtain ⟨hpa, hpb⟩ := pairs_at F.cl m hm
        exact ⟨g2, rfl, hg2', hcell _ _ hpa, hcell _ _ hpb⟩)
      have HSEL : Hid (∀ (m : Nat) (hm : m < ss.length), ∃ g2, aS = some ⟨g2, 0, none⟩ ∧ g2 < w.heap.size ∧ w.cell? ⟨g2, m * 2, none⟩ = some (.int .i64 (ss[m].1 : Int)) ∧ w.cell? ⟨g2, m * 2 + 1, none⟩ = some (.int .i64 (ss[m].2 : Int))) := hide (fun m hm => by
        obtain ⟨g2, cap2, hVe, hg2, hg2', _, hcell⟩ := own_pos hS (by omega)
        injection hVe with hVe _ hV2
        subst hVe hV2
        obtain ⟨hpa, hpb⟩ := pairs_at ss m hm
        exact ⟨g2, rfl, hg2', hcell _ _ hpa, hcell _ _ hpb⟩)
      have HFW := hide hF
      clear hSb hown hC hfb hS hF
      have hln := unhide HLN
      have hhd := unhide HHD
      have htr := unhide HTR
      subst hhd htr
      have h01 : 0 < tl.length := by omega
      have HSP : Hid (stepR F false ss [97] tl = axR F (cnt tl[0] big)) := hide (by unfold stepR; rw [if_pos ⟨rfl, rfl, hln⟩, getD_at' _ _ _ h01])
      have hlb : ((tl.length : Int) == 1) = true := by rw [beq_iff_eq]; omega
      have hi0 : (0 : Int) < (tl.length : Int) := by omega
      clear hln
      obtain ⟨gK, rfl, hgK, kc0, hcK⟩ := unhide HK 0 h01
      generalize cnt tl[0] big = c at *
      by_cases hc1 : c < 1
      · have HF : Hid (stepR F false ss [97] tl = none) := hide (by rw [unhide HSP]; unfold axR; rw [if_pos (Or.inl hc1)])
        have hq1 : decide ((c : Int) < 1) = true := by simp; omega
        clear hc1
        go_wp2_with fail
        go_quiet (fail)
        generalize hgen : wr.drewN nq = wq
        have hbwq : Below w.heap.size w wq := by rw [← hgen]; exact below_drewN hb nq
        have hreswq : wq.heap[w.heap.size]? = some (.cells #[.int .i64 0, .int .i64 0] 121 (0, 0)) := by rw [← hgen]; exact hres
        have hnonwq : wq.heap[w.heap.size + 1]? = some (.cells #[.int .i64 0, .int .i64 0] 121 (0, 0)) := by rw [← hgen]; exact hnon
        clear hgen
        have hbswq := blk_lt hnonwq
        have hbs0wq := blk_lt hreswq
        have r0wq : wq.cell? ⟨w.heap.size, 0, none⟩ = some (.int .i64 0) := by rw [blk_cell hreswq]; rfl
        have r1wq : wq.cell? ⟨w.heap.size, 1, none⟩ = some (.int .i64 0) := by rw [blk_cell hreswq]; rfl
        have zr0wq := blk_free hreswq 0
        have zr1wq := blk_free hreswq 1
        have n0wq : wq.cell? ⟨w.heap.size + 1, 0, none⟩ = some (.int .i64 0) := by rw [blk_cell hnonwq]; rfl
        have n1wq : wq.cell? ⟨w.heap.size + 1, 1, none⟩ = some (.int .i64 0) := by rw [blk_cell hnonwq]; rfl
        have hRq := blk_set (blk_set hreswq 0 (.int .i64 0)) 1 (.int .i64 0)
        have jq0 := blk_cell hRq 0
        have jq1 := blk_cell hRq 1
        go_wp2_with fail
        refine bodyPost_ret (v := .tuple #[.agg #[.int .i64 0, .int .i64 0], .bool false]) (by simp [results, Tryz.results86, go_sem, jq0, jq1]) rfl (RStPost.none_ ?_ (unhide HF) (0, 0) rfl)
        exact (hbwq.setCell (p := ⟨w.heap.size, 0, none⟩) (Nat.le_refl _) _).setCell (p := ⟨w.heap.size, 1, none⟩) (Nat.le_refl _) _
      · have hq1 : decide ((c : Int) < 1) = false := by simp; omega
        by_cases hc2 : F.cl.length < c
        · have HF : Hid (stepR F false ss [97] tl = none) := hide (by rw [unhide HSP]; unfold axR; rw [if_pos (Or.inr hc2)])
          have hq2 : decide (F.cl.length < c) = true := by simp; omega
          have hq2' : decide ((F.cl.length : Int) < (c : Int)) = true := by simp; omega
          clear hc1 hc2
          go_wp2_with fail
          go_quiet (fail)
          generalize hgen : wr.drewN nq = wq
          have hbwq : Below w.heap.size w wq := by rw [← hgen]; exact below_drewN hb nq
          have hreswq : wq.heap[w.heap.size]? = some (.cells #[.int .i64 0, .int .i64 0] 121 (0, 0)) := by rw [← hgen]; exact hres
          have hnonwq : wq.heap[w.heap.size + 1]? = some (.cells #[.int .i64 0, .int .i64 0] 121 (0, 0)) := by rw [← hgen]; exact hnon
          clear hgen
          have hbswq := blk_lt hnonwq
          have hbs0wq := blk_lt hreswq
          have r0wq : wq.cell? ⟨w.heap.size, 0, none⟩ = some (.int .i64 0) := by rw [blk_cell hreswq]; rfl
          have r1wq : wq.cell? ⟨w.heap.size, 1, none⟩ = some (.int .i64 0) := by rw [blk_cell hreswq]; rfl
          have zr0wq := blk_free hreswq 0
          have zr1wq := blk_free hreswq 1
          have n0wq : wq.cell? ⟨w.heap.size + 1, 0, none⟩ = some (.int .i64 0) := by rw [blk_cell hnonwq]; rfl
          have n1wq : wq.cell? ⟨w.heap.size + 1, 1, none⟩ = some (.int .i64 0) := by rw [blk_cell hnonwq]; rfl
          have hRq := blk_set (blk_set hreswq 0 (.int .i64 0)) 1 (.int .i64 0)
          have jq0 := blk_cell hRq 0
          have jq1 := blk_cell hRq 1
          go_wp2_with fail
          refine bodyPost_ret (v := .tuple #[.agg #[.int .i64 0, .int .i64 0], .bool false]) (by simp [results, Tryz.results86, go_sem, jq0, jq1]) rfl (RStPost.none_ ?_ (unhide HF) (0, 0) rfl)
          exact (hbwq.setCell (p := ⟨w.heap.size, 0, none⟩) (Nat.le_refl _) _).setCell (p := ⟨w.heap.size, 1, none⟩) (Nat.le_refl _) _
        · have hq2 : decide (F.cl.length < c) = false := by simp; omega
          have hq2' : decide ((F.cl.length : Int) < (c : Int)) = false := by simp; omega
          go_wp2_with fail
          go_quiet (fail)
          generalize hgen : wr.drewN nq = wq
          have hbwq : Below w.heap.size w wq := by rw [← hgen]; exact below_drewN hb nq
          have hreswq : wq.heap[w.heap.size]? = some (.cells #[.int .i64 0, .int .i64 0] 121 (0, 0)) := by rw [← hgen]; exact hres
          have hnonwq : wq.heap[w.heap.size + 1]? = some (.cells #[.int .i64 0, .int .i64 0] 121 (0, 0)) := by rw [← hgen]; exact hnon
          have kc0wq : wq.cell? ⟨gK, 0, none⟩ = some (.int .i64 (c : Nat)) := by rw [← hgen]; exact kc0
          have x3wq : wq.cell? ⟨b, 3, none⟩ = some (.slice aC F.cl.length cC) := by rw [← hgen]; exact x3
          clear hgen
          have hbswq := blk_lt hnonwq
          have hbs0wq := blk_lt hreswq
          have r0wq : wq.cell? ⟨w.heap.size, 0, none⟩ = some (.int .i64 0) := by rw [blk_cell hreswq]; rfl
          have r1wq : wq.cell? ⟨w.heap.size, 1, none⟩ = some (.int .i64 0) := by rw [blk_cell hreswq]; rfl
          have zr0wq := blk_free hreswq 0
          have zr1wq := blk_free hreswq 1
          have n0wq : wq.cell? ⟨w.heap.size + 1, 0, none⟩ = some (.int .i64 0) := by rw [blk_cell hnonwq]; rfl
          have n1wq : wq.cell? ⟨w.heap.size + 1, 1, none⟩ = some (.int .i64 0) := by rw [blk_cell hnonwq]; rfl
          have hgKq : gK < wq.heap.size := cell_lt kc0wq
          have hbwx : b < wq.heap.size := cell_lt x3wq
          obtain ⟨m, rfl⟩ : ∃ m, c = m + 1 := ⟨c - 1, by omega⟩
          have hm : m < F.cl.length := by omega
          have HAP : Hid (stepR F false ss [97] tl = apartO F.cl[m]) := hide (by rw [unhide HSP]; unfold axR; rw [if_neg (by omega), Nat.add_sub_cancel, getD_at' _ _ _ hm])
          obtain ⟨g2, rfl, hg2', hy0, hy1⟩ := unhide HCELL m hm
          have hx0 : wq.cell? ⟨g2, m * 2, none⟩ = some (.int .i64 (F.cl[m].1 : Int)) := by rw [hbwq.cell (p := ⟨g2, m * 2, none⟩) hg2']; exact hy0
          have hx1 : wq.cell? ⟨g2, m * 2 + 1, none⟩ = some (.int .i64 (F.cl[m].2 : Int)) := by rw [hbwq.cell (p := ⟨g2, m * 2 + 1, none⟩) hg2']; exact hy1
          have hlt9 := unhide HBITS _ (List.getElem_mem hm)
          have hg2w : g2 < wq.heap.size := cell_lt hx0
          have hwm : IntKind.i64.wrap (m : Int) = (m : Int) := wrap_i64_nat m (by omega)
          have hwm2 : wrap64 (m : Int) = (m : Int) := IntWalk.wrap64_in _ ⟨by omega, by omega⟩
          have hmI : (m : Int) < (F.cl.length : Int) := Int.ofNat_lt.2 hm
          clear hc1 hc2 hq1 hq2 hq2' hy0 hy1 HCELL HSEL HK HBITS HSB HST HWS HC0 hR0 x1 x3 kc0 r0 r1 zr0 zr1 n0 n1 hres hnon hb hc0 hgw1 hbw1 hbs0 hbs hgK
          generalize F.cl[m] = c at *
          obtain ⟨p, n⟩ := c
          have hand : (bits .and .i64 (p : Int) (n : Int) == 0) = (p &&& n == 0) := by rw [i64_and _ _ (by have := hlt9.1; dsimp only at this; omega) (by have := hlt9.2; dsimp only at this; omega), nat_beq_zero]
          dsimp only at hx0 hx1
          go_wp2_with fail
          go_region
          all_goals go_wp2_with fail
          generalize hgen : (wq.alloc (.cells #[.int .i64 (p : Int), .int .i64 (n : Int)] 121)).drew = wz
          have hbwz : Below w.heap.size w wz := by rw [← hgen]; exact (hbwq.alloc (Nat.le_of_lt hbs0wq) _).drew
          have hreswz : wz.heap[w.heap.size]? = some (.cells #[.int .i64 0, .int .i64 0] 121 (0, 0)) := by rw [← hgen]; exact (heap_alloc_old wq _ hbs0wq).trans hreswq
          have hnonwz : wz.heap[w.heap.size + 1]? = some (.cells #[.int .i64 0, .int .i64 0] 121 (0, 0)) := by rw [← hgen]; exact (heap_alloc_old wq _ hbswq).trans hnonwq
          have hcz : wz.heap[wq.heap.size]? = some (.cells #[.int .i64 (p : Int), .int .i64 (n : Int)] 121 (0, 0)) := by rw [← hgen]; exact heap_alloc_new wq _
          clear hgen
          have hbswz := blk_lt hnonwz
          have hbs0wz := blk_lt hreswz
          have r0wz : wz.cell? ⟨w.heap.size, 0, none⟩ = some (.int .i64 0) := by rw [blk_cell hreswz]; rfl
          have r1wz : wz.cell? ⟨w.heap.size, 1, none⟩ = some (.int .i64 0) := by rw [blk_cell hreswz]; rfl
          have zr0wz := blk_free hreswz 0
          have zr1wz := blk_free hreswz 1
          have n0wz : wz.cell? ⟨w.heap.size + 1, 0, none⟩ = some (.int .i64 0) := by rw [blk_cell hnonwz]; rfl
          have n1wz : wz.cell? ⟨w.heap.size + 1, 1, none⟩ = some (.int .i64 0) := by rw [blk_cell hnonwz]; rfl
          have cz0 : wz.cell? ⟨wq.heap.size, 0, none⟩ = some (.int .i64 p) := by rw [blk_cell hcz]; rfl
          have cz1 : wz.cell? ⟨wq.heap.size, 1, none⟩ = some (.int .i64 n) := by rw [blk_cell hcz]; rfl
          have hczl := blk_lt hcz
          have hne1 : w.heap.size ≠ wq.heap.size := by omega
          have hne2 : wq.heap.size ≠ w.heap.size := by omega
          clear hx0 hx1 kc0wq x3wq r0wq r1wq zr0wq zr1wq n0wq n1wq hreswq hnonwq
          go_region
          all_goals go_wp2_with fail
          all_goals
            have hRq := blk_set (blk_set hreswz 0 (.int .i64 p)) 1 (.int .i64 n)
            have jq0 := blk_cell hRq 0
            have jq1 := blk_cell hRq 1
            refine bodyPost_ret (v := .tuple #[.agg #[.int .i64 p, .int .i64 n], .bool (p &&& n == 0)]) (by simp [results, Tryz.results86, go_sem, jq0, jq1]) rfl ?_
            have hB : Below w.heap.size w ((wz.setCell ⟨w.heap.size, 0, none⟩ (.int .i64 p)).setCell ⟨w.heap.size, 1, none⟩ (.int .i64 n)).drew := ((hbwz.setCell (p := ⟨w.heap.size, 0, none⟩) (Nat.le_refl _) _).setCell (p := ⟨w.heap.size, 1, none⟩) (Nat.le_refl _) _).drew
            cases hcl : (p &&& n == 0) with
            | false => exact RStPost.none_ hB (by rw [unhide HAP]; unfold apartO; rw [if_neg (by simpa using hcl)]) (p, n) rfl
            | true => exact RStPost.some_ hB (p, n) (by rw [unhide HAP]; unfold apartO; rw [if_pos (by simpa using hcl)]) rfl
end Go.Proofs.YtgipjjhkhfihpaaGreatDoor

namespace Go.Proofs.YtgipjjhkhfihpaaGreatDoor
open Go.RowKit

set_option maxRecDepth 100000 in
set_option maxHeartbeats 12800000 in
theorem step_c (lo b : Nat) (F : Form) (ss : List (Nat × Nat)) (aS : Option Addr) (cS : Nat) (lS : Nat) (truth : Bool) (hd : List UInt8) (tl : List (List UInt8)) (g off cap : Nat) (w : World) (hIn : StepIn lo b F ss aS cS lS hd tl g off cap w) (hhd : hd = [99]) (htr : truth = true) :
    Calls Tryz.prog 86 #[.pointer (some ⟨b, 0, none⟩), .slice aS ss.length cS, .slice (some ⟨g, off, none⟩) (tl.length + 1) cap, .bool truth] w fun e w' => RStPost (stepR F truth ss hd tl) w e w' := by
  have HHD := hide hhd
  have HTR := hide htr
  clear hhd htr
  obtain ⟨hR, hF, hS, hSB, hSb, hs, hl, hcap, hws⟩ := hIn
  obtain ⟨i0, hi, hz0, hz1, hz2⟩ := info_parts Tryz.info3
  have hR0 := hR
  obtain ⟨_, vO, vE, vC, hfb, _, _, hC⟩ := hR
  obtain ⟨aC, cC, rfl⟩ := own_form hC
  have hbw := blk_lt hfb
  obtain ⟨g', off', cur, he, hg, hcur⟩ := hs (by simp)
  injection he with he
  injection he with e1 e2 e3
  subst e1 e2
  clear e3
  have hgw := blk_lt hg
  have HC0 : Hid (∀ wx : World, Below w.heap.size w wx → wx.cell? ⟨g, off, none⟩ = some (S hd)) := hide (fun wx hx => by
    rw [hx.cell (p := ⟨g, off, none⟩) hgw, blk_cell hg]; exact hcur 0 (by simp))
  have HCJ : Hid (∀ (wx : World) (j : Nat) (hj : j < tl.length), Below w.heap.size w wx → wx.cell? ⟨g, off + (j + 1), none⟩ = some (S tl[j])) := hide (fun wx j hj hx => by
    rw [hx.cell (p := ⟨g, off + (j + 1), none⟩) hgw, blk_cell hg]; exact hcur (j + 1) (by simpa using hj))
  have HST : Hid (∀ (wx : World) (ao : Option Addr), Below w.heap.size w wx → (tl ≠ [] → ao = some ⟨g, off + 1, none⟩) → StrsAt wx ao tl) := hide (fun wx ao hx ho hne => ⟨g, off + 1, cur, ho hne, (hx.block _ hgw).trans hg, fun j hj => by
    have h1 := hcur (1 + j) (by simp; omega)
    rw [← Nat.add_assoc] at h1
    rw [h1]
    simp [show 1 + j = j + 1 from by omega]⟩)
  have HWS := hide hws
  clear hcur hws hs hg
  go_enter Tryz.func86, Tryz.ntmps86
  go_wp2_with fail
  go_loopg [11, 12] tl.length (fun m v i wx => ∃ j : Nat, i = .int .i64 (j + 1) ∧ j + m = tl.length ∧ wx.ownsRow (w.heap.size + 2) 3 1 v j (ints (cnts (tl.take j))) ∧ Below w.heap.size w wx ∧
      wx.heap[w.heap.size]? = some (.cells #[.int .i64 0, .int .i64 0] 121 (0, 0)) ∧ wx.heap[w.heap.size + 1]? = some (.cells #[.int .i64 0, .int .i64 0] 121 (0, 0)))
  case atStart => exact ⟨0, rfl, by omega, World.ownsRow_nil _ _ _ _, ((Below.refl _ _).alloc (Nat.le_refl _) _).alloc (by simp) _, by rw [heap_alloc_old _ _ (by simp)]; exact heap_alloc_new _ _, new_at (by simp)⟩
  case round =>
    obtain ⟨j, rfl, hj, hown, hb, hres, hnon⟩ := hrel
    have hbs := blk_lt hnon
    by_cases hlt : j < tl.length
    · have hcj := unhide HCJ wr j hlt hb
      have hxl := unhide HWS _ (List.getElem_mem hlt)
      have HT := hide (cnts_take tl j hlt)
      have hgw1 : g < wr.heap.size := by omega
      generalize tl[j] = x at *
      go_wp2_with fail
      refine (count_any x 1048576 wr hxl (by omega)).mono ?_
      rintro e w1 ⟨rfl, hw1⟩
      subst hw1
      rw [show cnt x 1048576 = cnt x big from rfl]
      go_wp2_with (at_builtin; refine wpList_append_new rfl _ _ 25 rfl (w.heap.size + 2) i0 (.int .i64 0) 1 8 Tryz.underlying25 hi hz0 hz1 hz2 rfl (by decide) _ _ _ hown rfl rfl rfl (by simp [Value.oneCell']) (by unfold maxLen; omega) (by omega) (by omega) ?_; intro v' w2 hown' hgrow hnn)
      go_roundg (gk - 1)
      case measure => omega
      case rel =>
        have hlto := hown.lt
        refine ⟨j + 1, by go_num, by omega, by rw [unhide HT]; exact hown', below_grown hb hgrow hown (by omega) (by omega), ?_, ?_⟩
        · rw [hgrow.block _ (by omega) (fun e => by have := hlto _ e.symm; omega)]; exact hres
        · rw [hgrow.block _ (by omega) (fun e => by have := hlto _ e.symm; omega)]; exact hnon
    · have hjl : j = tl.length := by omega
      subst hjl
      rw [List.take_length] at hown
      clear hj hlt hi hz0 hz1 hz2 HCJ
      obtain ⟨aK, cK, rfl⟩ := own_form hown
      have hc0 := unhide HC0 wr hb
      have hgw1 : g < wr.heap.size := by omega
      have hbw1 : b < wr.heap.size := by omega
      have hbs0 : w.heap.size < wr.heap.size := by omega
      have r0 : wr.cell? ⟨w.heap.size, 0, none⟩ = some (.int .i64 0) := by rw [blk_cell hres]; rfl
      have r1 : wr.cell? ⟨w.heap.size, 1, none⟩ = some (.int .i64 0) := by rw [blk_cell hres]; rfl
      have zr0 := blk_free hres 0
      have zr1 := blk_free hres 1
      have n0 : wr.cell? ⟨w.heap.size + 1, 0, none⟩ = some (.int .i64 0) := by rw [blk_cell hnon]; rfl
      have n1 : wr.cell? ⟨w.heap.size + 1, 1, none⟩ = some (.int .i64 0) := by rw [blk_cell hnon]; rfl
      have x1 : wr.cell? ⟨b, 1, none⟩ = some (.int .i64 F.all) := by rw [hb.cell (p := ⟨b, 1, none⟩) hbw, blk_cell hfb]; rfl
      have x3 : wr.cell? ⟨b, 3, none⟩ = some (.slice aC F.cl.length cC) := by rw [hb.cell (p := ⟨b, 3, none⟩) hbw, blk_cell hfb]; rfl
      have HK : Hid (∀ (i : Nat) (hi : i < tl.length), ∃ gK, aK = some ⟨gK, 0, none⟩ ∧ gK < wr.heap.size ∧ wr.cell? ⟨gK, i, none⟩ = some (.int .i64 (cnt tl[i] big : Nat)) ∧ tl.length ≤ cK) := hide (fun i hi => by
        obtain ⟨gK, capK, hVe, _, hg', hcap', hcell⟩ := own_pos hown (by omega)
        injection hVe with hVe _ hV2
        subst hVe hV2
        exact ⟨gK, rfl, hg', hcell _ _ (by unfold ints cnts; simp [hi]), hcap'⟩)
      have HBITS := hide hF.bits
      have hc24 := hF.cl
      have hall := hF.all
      have HSB := hide hSb
      have HCELL : Hid (∀ (m : Nat) (hm : m < F.cl.length), ∃ g2, aC = some ⟨g2, 0, none⟩ ∧ g2 < w.heap.size ∧ w.cell? ⟨g2, m * 2, none⟩ = some (.int .i64 (F.cl[m].1 : Int)) ∧ w.cell? ⟨g2, m * 2 + 1, none⟩ = some (.int .i64 (F.cl[m].2 : Int))) := hide (fun m hm => by
        obtain ⟨g2, cap2, hVe, hg2, hg2', _, hcell⟩ := own_pos hC (by omega)
        injection hVe with hVe _ hV2
        subst hVe hV2
        obtain ⟨hpa, hpb⟩ := pairs_at F.cl m hm
        exact ⟨g2, rfl, hg2', hcell _ _ hpa, hcell _ _ hpb⟩)
      have HSEL : Hid (∀ (m : Nat) (hm : m < ss.length), ∃ g2, aS = some ⟨g2, 0, none⟩ ∧ g2 < w.heap.size ∧ w.cell? ⟨g2, m * 2, none⟩ = some (.int .i64 (ss[m].1 : Int)) ∧ w.cell? ⟨g2, m * 2 + 1, none⟩ = some (.int .i64 (ss[m].2 : Int))) := hide (fun m hm => by
        obtain ⟨g2, cap2, hVe, hg2, hg2', _, hcell⟩ := own_pos hS (by omega)
        injection hVe with hVe _ hV2
        subst hVe hV2
        obtain ⟨hpa, hpb⟩ := pairs_at ss m hm
        exact ⟨g2, rfl, hg2', hcell _ _ hpa, hcell _ _ hpb⟩)
      have HFW := hide hF
      clear hSb hown hC hfb hS hF
      have hhd := unhide HHD
      have htr := unhide HTR
      subst hhd htr
      have HSP : Hid (stepR F true ss [99] tl = cubeR F tl) := hide (by unfold stepR; rw [if_neg (by simp), if_pos ⟨rfl, rfl⟩])
      go_wp2_with fail
      all_goals
        refine (cube_any lo b F tl _ _ wr (hR0.later hb) (unhide HFW) (unhide HST wr _ hb (fun hne => by first | rfl | (exfalso; apply hne; exact List.eq_nil_of_length_eq_zero (by omega)))) (by omega) (unhide HWS)).mono ?_
        rintro e w1 ⟨hb1, c, ok, rfl, hok⟩
        obtain ⟨p, n⟩ := c
        have HOK := hide hok
        clear hok
        have hr1 := (hb1.block _ hbs0).trans hres
        have hB1 : Below w.heap.size w w1 := hb.trans (hb1.mono hb.size)
        have q0 : w1.cell? ⟨w.heap.size, 0, none⟩ = some (.int .i64 0) := by rw [blk_cell hr1]; rfl
        have q1 : w1.cell? ⟨w.heap.size, 1, none⟩ = some (.int .i64 0) := by rw [blk_cell hr1]; rfl
        have y0 := blk_free hr1 0
        have y1 := blk_free hr1 1
        have hRq := blk_set (blk_set hr1 0 (.int .i64 p)) 1 (.int .i64 n)
        have jq0 := blk_cell hRq 0
        have jq1 := blk_cell hRq 1
        dsimp only
        go_wp2_with fail
        refine bodyPost_ret (v := .tuple #[.agg #[.int .i64 p, .int .i64 n], .bool ok]) (by simp [results, Tryz.results86, go_sem, jq0, jq1]) rfl ⟨?_, (p, n), ok, rfl, by rw [unhide HSP]; exact unhide HOK⟩
        exact (hB1.setCell (p := ⟨w.heap.size, 0, none⟩) (Nat.le_refl _) _).setCell (p := ⟨w.heap.size, 1, none⟩) (Nat.le_refl _) _
end Go.Proofs.YtgipjjhkhfihpaaGreatDoor

namespace Go.Proofs.YtgipjjhkhfihpaaGreatDoor
open Go.RowKit

set_option maxRecDepth 100000 in
set_option maxHeartbeats 12800000 in
theorem step_d (lo b : Nat) (F : Form) (ss : List (Nat × Nat)) (aS : Option Addr) (cS : Nat) (lS : Nat) (truth : Bool) (hd : List UInt8) (tl : List (List UInt8)) (g off cap : Nat) (w : World) (hIn : StepIn lo b F ss aS cS lS hd tl g off cap w) (hhd : hd = [100]) (hln : tl.length = 1) :
    Calls Tryz.prog 86 #[.pointer (some ⟨b, 0, none⟩), .slice aS ss.length cS, .slice (some ⟨g, off, none⟩) (tl.length + 1) cap, .bool truth] w fun e w' => RStPost (stepR F truth ss hd tl) w e w' := by
  have HLN := hide hln
  have HHD := hide hhd
  clear hln hhd
  obtain ⟨hR, hF, hS, hSB, hSb, hs, hl, hcap, hws⟩ := hIn
  obtain ⟨i0, hi, hz0, hz1, hz2⟩ := info_parts Tryz.info3
  have hR0 := hR
  obtain ⟨_, vO, vE, vC, hfb, _, _, hC⟩ := hR
  obtain ⟨aC, cC, rfl⟩ := own_form hC
  have hbw := blk_lt hfb
  obtain ⟨g', off', cur, he, hg, hcur⟩ := hs (by simp)
  injection he with he
  injection he with e1 e2 e3
  subst e1 e2
  clear e3
  have hgw := blk_lt hg
  have HC0 : Hid (∀ wx : World, Below w.heap.size w wx → wx.cell? ⟨g, off, none⟩ = some (S hd)) := hide (fun wx hx => by
    rw [hx.cell (p := ⟨g, off, none⟩) hgw, blk_cell hg]; exact hcur 0 (by simp))
  have HCJ : Hid (∀ (wx : World) (j : Nat) (hj : j < tl.length), Below w.heap.size w wx → wx.cell? ⟨g, off + (j + 1), none⟩ = some (S tl[j])) := hide (fun wx j hj hx => by
    rw [hx.cell (p := ⟨g, off + (j + 1), none⟩) hgw, blk_cell hg]; exact hcur (j + 1) (by simpa using hj))
  have HST : Hid (∀ (wx : World) (ao : Option Addr), Below w.heap.size w wx → (tl ≠ [] → ao = some ⟨g, off + 1, none⟩) → StrsAt wx ao tl) := hide (fun wx ao hx ho hne => ⟨g, off + 1, cur, ho hne, (hx.block _ hgw).trans hg, fun j hj => by
    have h1 := hcur (1 + j) (by simp; omega)
    rw [← Nat.add_assoc] at h1
    rw [h1]
    simp [show 1 + j = j + 1 from by omega]⟩)
  have HWS := hide hws
  clear hcur hws hs hg
  go_enter Tryz.func86, Tryz.ntmps86
  go_wp2_with fail
  go_loopg [11, 12] tl.length (fun m v i wx => ∃ j : Nat, i = .int .i64 (j + 1) ∧ j + m = tl.length ∧ wx.ownsRow (w.heap.size + 2) 3 1 v j (ints (cnts (tl.take j))) ∧ Below w.heap.size w wx ∧
      wx.heap[w.heap.size]? = some (.cells #[.int .i64 0, .int .i64 0] 121 (0, 0)) ∧ wx.heap[w.heap.size + 1]? = some (.cells #[.int .i64 0, .int .i64 0] 121 (0, 0)))
  case atStart => exact ⟨0, rfl, by omega, World.ownsRow_nil _ _ _ _, ((Below.refl _ _).alloc (Nat.le_refl _) _).alloc (by simp) _, by rw [heap_alloc_old _ _ (by simp)]; exact heap_alloc_new _ _, new_at (by simp)⟩
  case round =>
    obtain ⟨j, rfl, hj, hown, hb, hres, hnon⟩ := hrel
    have hbs := blk_lt hnon
    by_cases hlt : j < tl.length
    · have hcj := unhide HCJ wr j hlt hb
      have hxl := unhide HWS _ (List.getElem_mem hlt)
      have HT := hide (cnts_take tl j hlt)
      have hgw1 : g < wr.heap.size := by omega
      generalize tl[j] = x at *
      go_wp2_with fail
      refine (count_any x 1048576 wr hxl (by omega)).mono ?_
      rintro e w1 ⟨rfl, hw1⟩
      subst hw1
      rw [show cnt x 1048576 = cnt x big from rfl]
      go_wp2_with (at_builtin; refine wpList_append_new rfl _ _ 25 rfl (w.heap.size + 2) i0 (.int .i64 0) 1 8 Tryz.underlying25 hi hz0 hz1 hz2 rfl (by decide) _ _ _ hown rfl rfl rfl (by simp [Value.oneCell']) (by unfold maxLen; omega) (by omega) (by omega) ?_; intro v' w2 hown' hgrow hnn)
      go_roundg (gk - 1)
      case measure => omega
      case rel =>
        have hlto := hown.lt
        refine ⟨j + 1, by go_num, by omega, by rw [unhide HT]; exact hown', below_grown hb hgrow hown (by omega) (by omega), ?_, ?_⟩
        · rw [hgrow.block _ (by omega) (fun e => by have := hlto _ e.symm; omega)]; exact hres
        · rw [hgrow.block _ (by omega) (fun e => by have := hlto _ e.symm; omega)]; exact hnon
    · have hjl : j = tl.length := by omega
      subst hjl
      rw [List.take_length] at hown
      clear hj hlt hi hz0 hz1 hz2 HCJ
      obtain ⟨aK, cK, rfl⟩ := own_form hown
      have hc0 := unhide HC0 wr hb
      have hgw1 : g < wr.heap.size := by omega
      have hbw1 : b < wr.heap.size := by omega
      have hbs0 : w.heap.size < wr.heap.size := by omega
      have r0 : wr.cell? ⟨w.heap.size, 0, none⟩ = some (.int .i64 0) := by rw [blk_cell hres]; rfl
      have r1 : wr.cell? ⟨w.heap.size, 1, none⟩ = some (.int .i64 0) := by rw [blk_cell hres]; rfl
      have zr0 := blk_free hres 0
      have zr1 := blk_free hres 1
      have n0 : wr.cell? ⟨w.heap.size + 1, 0, none⟩ = some (.int .i64 0) := by rw [blk_cell hnon]; rfl
      have n1 : wr.cell? ⟨w.heap.size + 1, 1, none⟩ = some (.int .i64 0) := by rw [blk_cell hnon]; rfl
      have x1 : wr.cell? ⟨b, 1, none⟩ = some (.int .i64 F.all) := by rw [hb.cell (p := ⟨b, 1, none⟩) hbw, blk_cell hfb]; rfl
      have x3 : wr.cell? ⟨b, 3, none⟩ = some (.slice aC F.cl.length cC) := by rw [hb.cell (p := ⟨b, 3, none⟩) hbw, blk_cell hfb]; rfl
      have HK : Hid (∀ (i : Nat) (hi : i < tl.length), ∃ gK, aK = some ⟨gK, 0, none⟩ ∧ gK < wr.heap.size ∧ wr.cell? ⟨gK, i, none⟩ = some (.int .i64 (cnt tl[i] big : Nat)) ∧ tl.length ≤ cK) := hide (fun i hi => by
        obtain ⟨gK, capK, hVe, _, hg', hcap', hcell⟩ := own_pos hown (by omega)
        injection hVe with hVe _ hV2
        subst hVe hV2
        exact ⟨gK, rfl, hg', hcell _ _ (by unfold ints cnts; simp [hi]), hcap'⟩)
      have HBITS := hide hF.bits
      have hc24 := hF.cl
      have hall := hF.all
      have HSB := hide hSb
      have HCELL : Hid (∀ (m : Nat) (hm : m < F.cl.length), ∃ g2, aC = some ⟨g2, 0, none⟩ ∧ g2 < w.heap.size ∧ w.cell? ⟨g2, m * 2, none⟩ = some (.int .i64 (F.cl[m].1 : Int)) ∧ w.cell? ⟨g2, m * 2 + 1, none⟩ = some (.int .i64 (F.cl[m].2 : Int))) := hide (fun m hm => by
        obtain ⟨g2, cap2, hVe, hg2, hg2', _, hcell⟩ := own_pos hC (by omega)
        injection hVe with hVe _ hV2
        subst hVe hV2
        obtain ⟨hpa, hpb⟩ := pairs_at F.cl m hm
        exact ⟨g2, rfl, hg2', hcell _ _ hpa, hcell _ _ hpb⟩)
      have HSEL : Hid (∀ (m : Nat) (hm : m < ss.length), ∃ g2, aS = some ⟨g2, 0, none⟩ ∧ g2 < w.heap.size ∧ w.cell? ⟨g2, m * 2, none⟩ = some (.int .i64 (ss[m].1 : Int)) ∧ w.cell? ⟨g2, m * 2 + 1, none⟩ = some (.int .i64 (ss[m].2 : Int))) := hide (fun m hm => by
        obtain ⟨g2, cap2, hVe, hg2, hg2', _, hcell⟩ := own_pos hS (by omega)
        injection hVe with hVe _ hV2
        subst hVe hV2
        obtain ⟨hpa, hpb⟩ := pairs_at ss m hm
        exact ⟨g2, rfl, hg2', hcell _ _ hpa, hcell _ _ hpb⟩)
      have HFW := hide hF
      clear hSb hown hC hfb hS hF
      have hln := unhide HLN
      have hhd := unhide HHD
      subst hhd
      have hbwr := hb
      have hreswr := hres
      have h01 : 0 < tl.length := by omega
      have HSP : Hid (stepR F truth ss [100] tl = reductR F truth ss (cnt tl[0] big)) := hide (by unfold stepR; rw [if_neg (by simp), if_neg (by simp), if_neg (by simp), if_pos ⟨rfl, hln⟩, getD_at' _ _ _ h01])
      have hlb : ((tl.length : Int) == 1) = true := by rw [beq_iff_eq]; omega
      have hi0 : (0 : Int) < (tl.length : Int) := by omega
      clear hln
      obtain ⟨gK, rfl, hgK, kc0, hcK⟩ := unhide HK 0 h01
      generalize cnt tl[0] big = c at *
      by_cases hc1 : c < 1
      · have HF : Hid (stepR F truth ss [100] tl = none) := hide (by rw [unhide HSP]; unfold reductR; rw [if_pos (Or.inl hc1)])
        have hq1 : decide ((c : Int) < 1) = true := by simp; omega
        clear hc1
        have hRq := blk_set (blk_set hreswr 0 (.int .i64 0)) 1 (.int .i64 0)
        have jq0 := blk_cell hRq 0
        have jq1 := blk_cell hRq 1
        go_wp2_with fail
        refine bodyPost_ret (v := .tuple #[.agg #[.int .i64 0, .int .i64 0], .bool false]) (by simp [results, Tryz.results86, go_sem, jq0, jq1]) rfl (RStPost.none_ ?_ (unhide HF) (0, 0) rfl)
        exact (hbwr.setCell (p := ⟨w.heap.size, 0, none⟩) (Nat.le_refl _) _).setCell (p := ⟨w.heap.size, 1, none⟩) (Nat.le_refl _) _
      · have hq1 : decide ((c : Int) < 1) = false := by simp; omega
        by_cases hc2 : ss.length < c
        · have HF : Hid (stepR F truth ss [100] tl = none) := hide (by rw [unhide HSP]; unfold reductR; rw [if_pos (Or.inr hc2)])
          have hq2 : decide (ss.length < c) = true := by simp; omega
          have hq2' : decide ((ss.length : Int) < (c : Int)) = true := by simp; omega
          clear hc1 hc2
          have hRq := blk_set (blk_set hreswr 0 (.int .i64 0)) 1 (.int .i64 0)
          have jq0 := blk_cell hRq 0
          have jq1 := blk_cell hRq 1
          go_wp2_with fail
          refine bodyPost_ret (v := .tuple #[.agg #[.int .i64 0, .int .i64 0], .bool false]) (by simp [results, Tryz.results86, go_sem, jq0, jq1]) rfl (RStPost.none_ ?_ (unhide HF) (0, 0) rfl)
          exact (hbwr.setCell (p := ⟨w.heap.size, 0, none⟩) (Nat.le_refl _) _).setCell (p := ⟨w.heap.size, 1, none⟩) (Nat.le_refl _) _
        · obtain ⟨m, rfl⟩ : ∃ m, c = m + 1 := ⟨c - 1, by omega⟩
          have hm : m < ss.length := by omega
          have hq2 : decide (ss.length < m + 1) = false := by simp; omega
          have hq2' : decide ((ss.length : Int) < (m : Int) + 1) = false := by simp; omega
          have hq3 : decide ((m : Int) + 1 < 1) = false := by simp; omega
          have HAP : Hid (stepR F truth ss [100] tl = some (redR F.order (kindR F truth) ss[m])) := hide (by rw [unhide HSP]; unfold reductR; rw [if_neg (by omega), Nat.add_sub_cancel, getD_at' _ _ _ hm])
          obtain ⟨g2, rfl, hg2', hy0, hy1⟩ := unhide HSEL m hm
          have hx0 : wr.cell? ⟨g2, m * 2, none⟩ = some (.int .i64 (ss[m].1 : Int)) := by rw [hb.cell (p := ⟨g2, m * 2, none⟩) hg2']; exact hy0
          have hx1 : wr.cell? ⟨g2, m * 2 + 1, none⟩ = some (.int .i64 (ss[m].2 : Int)) := by rw [hb.cell (p := ⟨g2, m * 2 + 1, none⟩) hg2']; exact hy1
          have hlt9 := unhide HSB _ (List.getElem_mem hm)
          have hg2w : g2 < wr.heap.size := cell_lt hx0
          have hRq0 := hR0.later hb
          have hFl := (unhide HFW).len
          have hFn := (unhide HFW).names
          have HFN := hide hFn
          clear hc1 hc2 hy0 hy1 HCELL HSEL HK HBITS HSB HST HWS HC0 hR0 hFn
          generalize ss[m] = c at *
          obtain ⟨p, n⟩ := c
          have hp9 : p < 512 := hlt9.1
          have hn9 : n < 512 := hlt9.2
          dsimp only at hx0 hx1
          have hkd : bits .andNot .i64 510 (F.all : Int) = ((less 510 F.all : Nat) : Int) := i64_andNot 510 F.all (by omega) (by omega)
          have hk9 : less 510 F.all < 512 := less_lt 510 F.all (by omega)
          cases truth with
          | false =>
            have HKR : Hid (kindR F false = F.all) := hide rfl
            go_wp2_with fail
            refine (reduced_any lo b p n F.all F wr hRq0 hFl (unhide HFN) hall hp9 hn9).mono ?_
            rintro e w1 ⟨rfl, hb1⟩
            have hr1 := (hb1.block _ hbs0).trans hres
            have hB1 : Below w.heap.size w w1 := hb.trans (hb1.mono hb.size)
            rw [unhide HKR] at HAP
            generalize redR F.order F.all (p, n) = c at *
            obtain ⟨p', n'⟩ := c
            have q0 : w1.cell? ⟨w.heap.size, 0, none⟩ = some (.int .i64 0) := by rw [blk_cell hr1]; rfl
            have q1 : w1.cell? ⟨w.heap.size, 1, none⟩ = some (.int .i64 0) := by rw [blk_cell hr1]; rfl
            have y0 := blk_free hr1 0
            have y1 := blk_free hr1 1
            have hlw1 := blk_lt hr1
            have hRq := blk_set (blk_set hr1 0 (.int .i64 p')) 1 (.int .i64 n')
            have hRq' := (heap_alloc_old _ (.cells #[.int .i64 (p' : Int), .int .i64 (n' : Int)] 121) (blk_lt hRq)).trans hRq
            have jq0 := blk_cell hRq' 0
            have jq1 := blk_cell hRq' 1
            dsimp only
            go_wp2_with fail
            refine bodyPost_ret (v := .tuple #[.agg #[.int .i64 p', .int .i64 n'], .bool true]) (by simp [results, Tryz.results86, go_sem, jq0, jq1]) rfl (RStPost.some_ ?_ (p', n') (unhide HAP) rfl)
            exact ((hB1.setCell (p := ⟨w.heap.size, 0, none⟩) (Nat.le_refl _) _).setCell (p := ⟨w.heap.size, 1, none⟩) (Nat.le_refl _) _).alloc (by simp [World.setCell]; omega) _
          | true =>
            have HKR : Hid (kindR F true = less 510 F.all) := hide rfl
            go_wp2_with fail
            refine (reduced_any lo b p n (less 510 F.all) F wr hRq0 hFl (unhide HFN) hk9 hp9 hn9).mono ?_
            rintro e w1 ⟨rfl, hb1⟩
            have hr1 := (hb1.block _ hbs0).trans hres
            have hB1 : Below w.heap.size w w1 := hb.trans (hb1.mono hb.size)
            rw [unhide HKR] at HAP
            generalize redR F.order (less 510 F.all) (p, n) = c at *
            obtain ⟨p', n'⟩ := c
            have q0 : w1.cell? ⟨w.heap.size, 0, none⟩ = some (.int .i64 0) := by rw [blk_cell hr1]; rfl
            have q1 : w1.cell? ⟨w.heap.size, 1, none⟩ = some (.int .i64 0) := by rw [blk_cell hr1]; rfl
            have y0 := blk_free hr1 0
            have y1 := blk_free hr1 1
            have hlw1 := blk_lt hr1
            have hRq := blk_set (blk_set hr1 0 (.int .i64 p')) 1 (.int .i64 n')
            have hRq' := (heap_alloc_old _ (.cells #[.int .i64 (p' : Int), .int .i64 (n' : Int)] 121) (blk_lt hRq)).trans hRq
            have jq0 := blk_cell hRq' 0
            have jq1 := blk_cell hRq' 1
            dsimp only
            go_wp2_with fail
            refine bodyPost_ret (v := .tuple #[.agg #[.int .i64 p', .int .i64 n'], .bool true]) (by simp [results, Tryz.results86, go_sem, jq0, jq1]) rfl (RStPost.some_ ?_ (p', n') (unhide HAP) rfl)
            exact ((hB1.setCell (p := ⟨w.heap.size, 0, none⟩) (Nat.le_refl _) _).setCell (p := ⟨w.heap.size, 1, none⟩) (Nat.le_refl _) _).alloc (by simp [World.setCell]; omega) _
end Go.Proofs.YtgipjjhkhfihpaaGreatDoor
