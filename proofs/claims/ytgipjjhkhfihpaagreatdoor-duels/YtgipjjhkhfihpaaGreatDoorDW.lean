import Derived.Test.YtgipjjhkhfihpaaGreatDoorDV
import Derived.Deep.DeepCutAuto
import Derived.Deep.RegionWith
namespace Go.Proofs.YtgipjjhkhfihpaaGreatDoor
open Go.RowKit

/-- What a step of a script leaves, in the law's world with games. -/
structure StepD (bw : Nat) (D : DW) (n : Nat) (w : World) (e : Ending) (w' : World) : Prop where
  ret : e = .returned (.bool true)
  below : Below bw w w'
  at_ : ∃ D', DInv bw w' D' ∧ D'.text.length ≤ D.text.length + n ∧ D'.proof.length ≤ max D.proof.length 262144 + n ∧ D'.gs.length ≤ D.gs.length + 1 ∧ D'.h5s.length ≤ D.h5s.length + 8 ∧ D'.h6s.length ≤ D.h6s.length + 1
theorem StepD.quiet {bw : Nat} {D D2 : DW} {w w2 : World} (hb : Below bw w w2) (hD : DInv bw w2 D2) (h1 : D2.text = D.text) (h2 : D2.proof = D.proof) (h3 : D2.gs.length ≤ D.gs.length + 1) (h4 : D2.h5s = D.h5s) (h5 : D2.h6s = D.h6s) : StepD bw D 0 w (.returned (.bool true)) w2 :=
  ⟨rfl, hb, D2, hD, by rw [h1]; omega, by rw [h2]; omega, h3, by rw [h4]; omega, by rw [h5]; omega⟩
theorem StepD.fin {bw i : Nat} {D D2 : DW} {w w2 w3 : World} {e : Ending} (hb : Below bw w w2) (h1 : D2.text = D.text) (h2 : D2.proof = D.proof) (h3 : D2.gs.length ≤ D.gs.length + 1) (h4 : D2.h5s = D.h5s) (h5 : D2.h6s = D.h6s) (hs : StandsD bw i D2 w2 e w3) : e = .returned (.bool true) ∧ StepD bw D 0 w (.returned (.bool true)) w3 := by
  obtain ⟨he, hb3, hi, v5', hdr, Z', hD3⟩ := hs
  refine ⟨he, rfl, hb.trans hb3, _, hD3, ?_, ?_, ?_, ?_, ?_⟩
  · show D2.text.length ≤ _; rw [h1]; omega
  · show D2.proof.length ≤ _; rw [h2]; omega
  · show (D2.gs.set i _).length ≤ _; rw [List.length_set]; exact h3
  · show (D2.h5s ++ [hdr]).length ≤ _; rw [h4]; simp
  · show D2.h6s.length ≤ _; rw [h5]; omega
theorem StepD.more {bw n m : Nat} {D : DW} {w w' : World} {e : Ending} (h : StepD bw D n w e w') (hn : n ≤ m) : StepD bw D m w e w' := by
  obtain ⟨h1, h2, D', h3, h4, h5, h6⟩ := h
  exact ⟨h1, h2, D', h3, by omega, by omega, h6⟩
theorem StepD.after {bw n : Nat} {D : DW} {w w1 w' : World} {e : Ending} (h : StepD bw D n w1 e w') (hb : Below bw w w1) : StepD bw D n w e w' := ⟨h.ret, hb.trans h.below, h.at_⟩
theorem stands_p (bw i gb : Nat) (D : DW) (w : World) (hD : DInv bw w D) (hi : i < D.gs.length) (hgb : D.gs[i].gb = gb) (hn5 : D.h5s.length ≤ 1073741824) :
    Calls Tryz.prog 21 #[.pointer (some ⟨gb, 0, none⟩), .pointer (some ⟨bw, 0, none⟩)] w fun e w' => StandsD bw i D w e w' := by
  subst hgb; exact stands_d bw i D w hD hi hn5
theorem same_below {w w1 : World} {k : Nat} {o : Obj} (hb : w.heap[k]? = some o) (h1 : w1.heap[k]? = some o) (ho : Only (· = k) w w1) : Below w.heap.size w w1 :=
  ⟨ho.os, ho.tape, ho.output, ho.size, fun j hj => by
    by_cases e : j = k
    · subst e; rw [h1, hb]
    · exact ho.block j hj e⟩
theorem moveE_at {G : GG} (ht : G.g.turn < (progBlocks (qFinish G.q0).vars).length) (bits : Int) : MoveE G.bl G.g bits = if bits < 0 ∨ (2 : Int) ^ (progBlocks (qFinish G.q0).vars)[G.g.turn].length ≤ bits then 6 else 0 := by
  have h1 : G.bl.length = (progBlocks (qFinish G.q0).vars).length := blW_length G.q G.kind
  have h2 : (G.bl.getD G.g.turn ([], false)).1 = (progBlocks (qFinish G.q0).vars)[G.g.turn] := by
    show ((blW G.q G.kind).getD G.g.turn ([], false)).1 = _
    rw [blW_at G.q G.kind _ ht]; rfl
  unfold MoveE
  rw [if_neg (by omega), h2]
theorem moveE_over {G : GG} (ht : G.g.turn = (progBlocks (qFinish G.q0).vars).length) (bits : Int) : MoveE G.bl G.g bits = 7 := by
  have h1 : G.bl.length = (progBlocks (qFinish G.q0).vars).length := blW_length G.q G.kind
  unfold MoveE
  rw [if_pos (by omega)]
theorem moveG_same {G : GG} {bits : Int} {n : Nat} (h : MoveE G.bl G.g bits = n) (hn : n ≠ 0) : MoveG G.rs G.bl G.g bits = G.g := by
  unfold MoveG; rw [h, if_neg hn]

/-- The move is refused. -/
theorem moves_refused {bw i : Nat} {D : DW} {G : GG} {bits : Int} {w w1 : World} {n : Nat} (hD : DInv bw w D) (hi : i < D.gs.length) (hGe : D.gs[i] = G) (h : MoveE G.bl G.g bits = n) (hn : n ≠ 0) (hG1 : GameAt w1 G.db 79 G.bl G.rs (MoveG G.rs G.bl G.g bits) G.gv) (ho1 : Only (· = G.db) w w1) : Below w.heap.size w w1 ∧ DInv bw w1 D := by
  have hG := hD.games _ (List.getElem_mem hi)
  rw [hGe] at hG
  rw [moveG_same h hn] at hG1
  have hb := same_below hG.db hG1.fb ho1
  exact ⟨hb, hD.later hb⟩

set_option maxRecDepth 100000 in
set_option maxHeartbeats 3200000 in
theorem moves_over (bw i : Nat) (D : DW) (G : GG) (bits : Int) (ask : Bool) (w : World) (hD : DInv bw w D) (hi : i < D.gs.length) (hGe : D.gs[i] = G) (hbi : i64ok bits) (hn5 : D.h5s.length ≤ 1073741824) (hov : G.g.turn = (progBlocks (qFinish G.q0).vars).length) :
    Calls Tryz.prog 30 #[.pointer (some ⟨bw, 0, none⟩), .pointer (some ⟨G.gb, 0, none⟩), .int .i64 bits, .bool ask] w fun e w' => StepD bw D 0 w e w' := by
  have hG := hD.games _ (List.getElem_mem hi)
  rw [hGe] at hG
  have hPr := hG.pure.pair
  have hrun : Run (qFinish G.q0) G.kind G.rs G.g G.bs := hG.pure.run
  have hbl : G.g.turn ≤ G.bl.length := by show _ ≤ (blW G.q G.kind).length; rw [blW_length]; exact hrun.turn
  have hbw := blk_lt hD.wat
  have lg := blk_lt hG.fb
  have g0 : w.cell? ⟨G.gb, 0, none⟩ = some (.pointer (some ⟨G.db, 0, none⟩)) := by rw [blk_cell hG.fb]; rfl
  have hE := moveE_over hov bits
  have HR : Hid (∀ w1, GameAt w1 G.db 79 G.bl G.rs (MoveG G.rs G.bl G.g bits) G.gv → Only (· = G.db) w w1 → Below w.heap.size w w1 ∧ DInv bw w1 D) := hide (fun w1 h1 h2 => moves_refused hD hi hGe hE (by decide) h1 h2)
  have HE := hide hE
  have hq : ((G.g.turn : Int) == ((progBlocks (qFinish G.q0).vars).length : Int)) = true := by rw [beq_iff_eq]; omega
  clear hov hE
  go_enter Tryz.func30, Tryz.ntmps30
  go_wp2_with fail
  refine (dmove_any G.db _ G.bl G.rs G.g G.gv bits w hG.game (rbd_of hG.pure.sbs _) (bbd_of hPr.qb _) hrun.lt hbl hbi).mono ?_
  rintro e w1 ⟨rfl, hG1, ho1⟩
  obtain ⟨hb1, hD1⟩ := unhide HR w1 hG1 ho1
  rw [unhide HE, show ((7 : Nat) : Int) = 7 from rfl]
  clear hG1 ho1 HR
  have hfb1 := (hb1.block _ lg).trans hG.fb
  have q2 : w1.cell? ⟨G.gb, 2, none⟩ = some (.pointer (some ⟨G.b2, 0, none⟩)) := by rw [blk_cell hfb1]; rfl
  have q6 : w1.cell? ⟨G.gb, 6, none⟩ = some (.int .i64 (G.g.turn : Int)) := by rw [blk_cell hfb1]; rfl
  have lg1 := blk_lt hfb1
  obtain ⟨aE, cE, hE, lb⟩ := ref_ends (hG.firm.now.2.1.later hb1)
  rw [hPr.ends] at hE
  have hBb : Below bw w w1 := hb1.mono (Nat.le_of_lt hbw)
  cases ask with
  | true =>
    go_wp2_with fail
    refine (stands_p bw i G.gb D w1 hD1 hi (by rw [hGe]) hn5).mono ?_
    intro e w2 hs
    obtain ⟨rfl, hfin⟩ := StepD.fin (D := D) hBb rfl rfl (by omega) rfl rfl hs
    clear hs
    go_wp2_with fail
    go_ret
    exact hfin
  | false =>
    go_wp2_with fail
    go_ret
    exact StepD.quiet hBb hD1 rfl rfl (by omega) rfl rfl

set_option maxRecDepth 100000 in
set_option maxHeartbeats 3200000 in
theorem moves_bad (bw i : Nat) (D : DW) (G : GG) (bits : Int) (ask : Bool) (w : World) (hD : DInv bw w D) (hi : i < D.gs.length) (hGe : D.gs[i] = G) (hbi : i64ok bits) (hn5 : D.h5s.length ≤ 1073741824) (ht : G.g.turn < (progBlocks (qFinish G.q0).vars).length) (hbad : bits < 0 ∨ (2 : Int) ^ (progBlocks (qFinish G.q0).vars)[G.g.turn].length ≤ bits) :
    Calls Tryz.prog 30 #[.pointer (some ⟨bw, 0, none⟩), .pointer (some ⟨G.gb, 0, none⟩), .int .i64 bits, .bool ask] w fun e w' => StepD bw D 0 w e w' := by
  have hG := hD.games _ (List.getElem_mem hi)
  rw [hGe] at hG
  have hPr := hG.pure.pair
  have hrun : Run (qFinish G.q0) G.kind G.rs G.g G.bs := hG.pure.run
  have hbl : G.g.turn ≤ G.bl.length := by show _ ≤ (blW G.q G.kind).length; rw [blW_length]; exact hrun.turn
  have hbw := blk_lt hD.wat
  have lg := blk_lt hG.fb
  have g0 : w.cell? ⟨G.gb, 0, none⟩ = some (.pointer (some ⟨G.db, 0, none⟩)) := by rw [blk_cell hG.fb]; rfl
  have hE : MoveE G.bl G.g bits = 6 := by rw [moveE_at ht, if_pos hbad]
  have HR : Hid (∀ w1, GameAt w1 G.db 79 G.bl G.rs (MoveG G.rs G.bl G.g bits) G.gv → Only (· = G.db) w w1 → Below w.heap.size w w1 ∧ DInv bw w1 D) := hide (fun w1 h1 h2 => moves_refused hD hi hGe hE (by decide) h1 h2)
  have HE := hide hE
  have hq : ((G.g.turn : Int) == ((progBlocks (qFinish G.q0).vars).length : Int)) = false := by rw [beq_eq_false_iff_ne]; omega
  have hrl := block_len _ (vars_le hPr.nice) _ (List.getElem_mem ht)
  clear hE
  go_enter Tryz.func30, Tryz.ntmps30
  go_wp2_with fail
  refine (dmove_any G.db _ G.bl G.rs G.g G.gv bits w hG.game (rbd_of hG.pure.sbs _) (bbd_of hPr.qb _) hrun.lt hbl hbi).mono ?_
  rintro e w1 ⟨rfl, hG1, ho1⟩
  obtain ⟨hb1, hD1⟩ := unhide HR w1 hG1 ho1
  rw [unhide HE, show ((6 : Nat) : Int) = 6 from rfl]
  clear hG1 ho1 HR
  have hfb1 := (hb1.block _ lg).trans hG.fb
  have q2 : w1.cell? ⟨G.gb, 2, none⟩ = some (.pointer (some ⟨G.b2, 0, none⟩)) := by rw [blk_cell hfb1]; rfl
  have q6 : w1.cell? ⟨G.gb, 6, none⟩ = some (.int .i64 (G.g.turn : Int)) := by rw [blk_cell hfb1]; rfl
  have lg1 := blk_lt hfb1
  have hF1 := hG.firm.now.2.1.later hb1
  obtain ⟨aE, cE, hE, lb⟩ := ref_ends hF1
  rw [hPr.ends] at hE
  go_wp2_with fail
  have hdr : Below w1.heap.size w1 w1.drew := (Below.refl _ w1).drew
  go_region_with (go_at_call 38; refine (blockP_any hPr (hF1.later hdr) ht).mono ?_; rintro e w2 ⟨vX, rfl, hI, hb2', _⟩; have hb2 : Below w1.heap.size w1 w2 := hdr.trans hb2')
  all_goals
    have hB2 : Below w.heap.size w w2 := below_trans hb1 hb2
    have hBb : Below bw w w2 := hB2.mono (Nat.le_of_lt hbw)
    have hD2 := hD.later hB2
    generalize (progBlocks (qFinish G.q0).vars)[G.g.turn] = row at *
    obtain ⟨ao, cap, rfl, _⟩ := hI
    have hw64 : wrap64 (2 ^ row.length) = (2 : Int) ^ row.length := wrap_pow8 row.length hrl
    have HFS : Hid (∀ e w3, StandsD bw i D w2 e w3 → e = .returned (.bool true) ∧ StepD bw D 0 w (.returned (.bool true)) w3) := hide (fun e w3 hs => StepD.fin (D := D) hBb rfl rfl (by omega) rfl rfl hs)
    have HFQ : Hid (StepD bw D 0 w (.returned (.bool true)) w2) := hide (StepD.quiet hBb hD2 rfl rfl (by omega) rfl rfl)
    have hex : ∃ b1 b2 : Bool, decide (bits < 0) = b1 ∧ decide ((2 : Int) ^ row.length ≤ bits) = b2 ∧ (b1 || b2) = true := ⟨_, _, rfl, rfl, by
      rcases hbad with h | h
      · rw [decide_eq_true h]; rfl
      · rw [decide_eq_true h]; simp⟩
    obtain ⟨d1, d2, hd1, hd2, hd3⟩ := hex
    clear hbad
    cases d1 <;> cases d2 <;> first | (exfalso; revert hd3; decide) | skip
    all_goals
      try clear hd3
      cases ask with
      | true =>
        go_wp2_with fail
        refine (stands_p bw i G.gb D w2 hD2 hi (by rw [hGe]) hn5).mono ?_
        intro e w3 hs
        obtain ⟨rfl, hfin⟩ := unhide HFS e w3 hs
        clear hs
        go_wp2_with fail
        go_ret
        exact hfin
      | false =>
        go_wp2_with fail
        go_ret
        exact unhide HFQ
end Go.Proofs.YtgipjjhkhfihpaaGreatDoor

namespace Go.Proofs.YtgipjjhkhfihpaaGreatDoor
open Go.RowKit

theorem moved_inv {bw i : Nat} {D : DW} {G : GG} {w w5 : World} (hD : DInv bw w D) (hi : i < D.gs.length) (hGe : D.gs[i] = G) (b : Nat) (bs' : List Bool) (v' : Value) (hpure : GPure (G.moved b bs' v'))
    (ho : Only (fun k => k = G.db ∨ k = G.vb ∨ k = G.gb ∨ G.vM.ownBlock = some k) w w5)
    (hfb : w5.heap[G.gb]? = some (.cells #[.pointer (some ⟨G.db, 0, none⟩), .pointer (some ⟨G.b1, 0, none⟩), .pointer (some ⟨G.b2, 0, none⟩), S G.proof, .int .i64 (G.kind : Int), v', .int .i64 ((moveW G.rs G.bl G.g b).turn : Int), .slice (some ⟨G.vb, 0, none⟩) 8 8] 87 (0, 0)))
    (hdb : w5.heap[G.db]? = some (.cells #[G.gv.vB, G.gv.vR, .int .i64 ((moveW G.rs G.bl G.g b).turn : Int), .int .i64 ((moveW G.rs G.bl G.g b).vals.1 : Int), .int .i64 ((moveW G.rs G.bl G.g b).vals.2 : Int)] 79 (0, 0)))
    (hoM : w5.ownsRow 0 3 1 v' (G.mv.length + 1) (ints G.mv ++ [.int .i64 (b : Int)]))
    (hval : w5.heap[G.vb]? = some (.cells (intsV (mvTo ((progBlocks (qFinish G.q0).vars).getD G.g.turn []) b G.val ((progBlocks (qFinish G.q0).vars).getD G.g.turn []).length)).toArray 3 (0, 0)))
    (hmv : v'.ownBlock = G.vM.ownBlock ∨ ∃ k, v'.ownBlock = some k ∧ w.heap.size ≤ k) : DInv bw w5 { D with gs := D.gs.set i (G.moved b bs' v') } := by
  have hG := hD.games _ (List.getElem_mem hi)
  have hz := hD.gz _ (List.getElem_mem hi)
  rw [hGe] at hG hz
  have hbw := blk_lt hD.wat
  have hmut : ∀ k, (k = G.db ∨ k = G.vb ∨ k = G.gb ∨ G.vM.ownBlock = some k) → G.mut k := fun k h => by
    rcases h with h | h | h | h
    · exact Or.inr (Or.inl h)
    · exact Or.inr (Or.inr (Or.inl h))
    · exact Or.inl h
    · exact Or.inr (Or.inr (Or.inr h))
  have hZ : ∀ k, D.Z k → ¬ (k = G.db ∨ k = G.vb ∨ k = G.gb ∨ G.vM.ownBlock = some k) := fun k hk h => (hz k (hmut k h)).2 hk
  have hw5 : WAt w5 bw D.text D.px D.pf D.proof D.v4 D.v5 D.v6 := (ho.block bw hbw (fun h => by have := (hz _ (hmut _ h)).1; omega)).trans hD.wat
  have h5 := own_keep hD.o5 ho (fun k hk h => by
    obtain ⟨c, hc⟩ := own_bk hD.o5 k hk
    exact mut_not hG hc (by decide) (by decide) (by decide) (hmut k h))
  refine hD.upd i hi (G.moved b bs' v') D.v5 D.h5s D.Z _ ho (fun k _ h => Or.inl (by rw [hGe]; exact hmut k h)) hw5 h5 (fun k hk => hk) (fun k hk => Or.inl hk) (hD.ls.step ho hZ) hD.n5 (by rw [hGe]; rfl) ?_ ?_
  · refine ⟨hfb, hdb, hG.firm.step ho hZ, ?_, hval, ?_, hpure⟩
    · show w5.ownsRow 0 3 1 v' (G.mv ++ [b]).length (ints (G.mv ++ [b]))
      rw [List.length_append, show ints (G.mv ++ [b]) = ints G.mv ++ [.int .i64 (b : Int)] from by simp [ints]]; exact hoM
    · show v'.ownBlock ≠ some G.vb
      rcases hmv with h | ⟨k, h, hk⟩
      · rw [h]; exact hG.mvb
      · rw [h]; intro e; injection e with e; have := blk_lt hG.val; omega
  · intro k hk
    rw [hGe]
    have hk' : k = G.gb ∨ k = G.db ∨ k = G.vb ∨ v'.ownBlock = some k := hk
    rcases hk' with h | h | h | h
    · exact ⟨Or.inl (Or.inl h), (hz k (Or.inl h)).2⟩
    · exact ⟨Or.inl (Or.inr (Or.inl h)), (hz k (Or.inr (Or.inl h))).2⟩
    · exact ⟨Or.inl (Or.inr (Or.inr (Or.inl h))), (hz k (Or.inr (Or.inr (Or.inl h)))).2⟩
    · rcases hmv with e | ⟨j, e, hj⟩
      · rw [e] at h
        exact ⟨Or.inl (Or.inr (Or.inr (Or.inr h))), (hz k (Or.inr (Or.inr (Or.inr h)))).2⟩
      · rw [e] at h
        injection h with h
        subst h
        exact ⟨Or.inr hj, fun hk => by have := (hD.zin _ hk).2; omega⟩
/-- What lies behind the move, memory alone. -/
theorem moved_tail {bw i : Nat} {D : DW} {G : GG} {w w1 wr w' : World} (hD : DInv bw w D) (hi : i < D.gs.length) (hGe : D.gs[i] = G) (b : Nat) (v' : Value) (hG1 : GameAt w1 G.db 79 G.bl G.rs (moveW G.rs G.bl G.g b) G.gv) (ho1 : Only (· = G.db) w w1) (ho3 : Only (· = G.vb) w1 wr)
    (hval : wr.heap[G.vb]? = some (.cells (intsV (mvTo ((progBlocks (qFinish G.q0).vars).getD G.g.turn []) b G.val ((progBlocks (qFinish G.q0).vars).getD G.g.turn []).length)).toArray 3 (0, 0)))
    (hown' : w'.ownsRow 0 3 1 v' (G.mv.length + 1) (ints G.mv ++ [.int .i64 (b : Int)])) (hgrow : wr.grownBy w' G.vM.ownBlock) (hmv : v'.ownBlock = G.vM.ownBlock ∨ ∃ k, v'.ownBlock = some k ∧ wr.heap.size ≤ k) :
    (w'.setCell ⟨G.gb, 5, none⟩ v').heap[G.gb]? = some (.cells #[.pointer (some ⟨G.db, 0, none⟩), .pointer (some ⟨G.b1, 0, none⟩), .pointer (some ⟨G.b2, 0, none⟩), S G.proof, .int .i64 (G.kind : Int), v', .int .i64 (G.g.turn : Int), .slice (some ⟨G.vb, 0, none⟩) 8 8] 87 (0, 0)) ∧
    RefAt 0 (w'.setCell ⟨G.gb, 5, none⟩ v') G.b2 (finish G.st) ∧
    ∀ w7 bs', Below (w'.setCell ⟨G.gb, 5, none⟩ v').heap.size (w'.setCell ⟨G.gb, 5, none⟩ v') w7 → GPure (G.moved b bs' v') → DInv bw (w7.setCell ⟨G.gb, 6, none⟩ (.int .i64 ((moveW G.rs G.bl G.g b).turn : Int))) { D with gs := D.gs.set i (G.moved b bs' v') } ∧ Below bw w (w7.setCell ⟨G.gb, 6, none⟩ (.int .i64 ((moveW G.rs G.bl G.g b).turn : Int))) := by
  have hG := hD.games _ (List.getElem_mem hi)
  have hz := hD.gz _ (List.getElem_mem hi)
  rw [hGe] at hG hz
  obtain ⟨hgd, hgv, hdv, hM1, hM2⟩ := hG.apart
  have hbw := blk_lt hD.wat
  have hs1 := ho1.size
  have hs3 := ho3.size
  have lg := blk_lt hG.fb
  have lv := blk_lt hG.val
  have ld := blk_lt hG.db
  have hfb1 := (ho1.block _ lg hgd).trans hG.fb
  have hfb3 := (ho3.block _ (blk_lt hfb1) hgv).trans hfb1
  have hdb3 := (ho3.block _ (blk_lt hG1.fb) hdv).trans hG1.fb
  have hkeep : ∀ k o, k < wr.heap.size → G.vM.ownBlock ≠ some k → wr.heap[k]? = some o → w'.heap[k]? = some o := fun k o hk hne ho => (hgrow.block k hk (fun e => hne e.symm)).trans ho
  have hfb' := hkeep _ _ (blk_lt hfb3) hM1 hfb3
  have hdb' := hkeep _ _ (blk_lt hdb3) hM2 hdb3
  have hval' := hkeep _ _ (blk_lt hval) hG.mvb hval
  have hfb6 : (w'.setCell ⟨G.gb, 5, none⟩ v').heap[G.gb]? = some (.cells #[.pointer (some ⟨G.db, 0, none⟩), .pointer (some ⟨G.b1, 0, none⟩), .pointer (some ⟨G.b2, 0, none⟩), S G.proof, .int .i64 (G.kind : Int), v', .int .i64 (G.g.turn : Int), .slice (some ⟨G.vb, 0, none⟩) 8 8] 87 (0, 0)) := blk_set hfb' 5 v'
  have hO : Only (fun k => k = G.db ∨ k = G.vb ∨ k = G.gb ∨ G.vM.ownBlock = some k) w (w'.setCell ⟨G.gb, 5, none⟩ v') := by
    have h1 : Only (fun k => k = G.db ∨ k = G.vb ∨ k = G.gb ∨ G.vM.ownBlock = some k) w w1 := ho1.mono (fun k _ h => Or.inl h)
    have h2 : Only (fun k => k = G.db ∨ k = G.vb ∨ k = G.gb ∨ G.vM.ownBlock = some k) w1 wr := ho3.mono (fun k _ h => Or.inr (Or.inl h))
    have h4 := (h1.trans h2).grown hgrow (fun k hk => Or.inl (Or.inr (Or.inr (Or.inr hk))))
    exact h4.setCell (p := ⟨G.gb, 5, none⟩) (Or.inl (Or.inr (Or.inr (Or.inl rfl)))) v'
  have hmut : ∀ k, (k = G.db ∨ k = G.vb ∨ k = G.gb ∨ G.vM.ownBlock = some k) → G.mut k := fun k h => by
    rcases h with h | h | h | h
    · exact Or.inr (Or.inl h)
    · exact Or.inr (Or.inr (Or.inl h))
    · exact Or.inl h
    · exact Or.inr (Or.inr (Or.inr h))
  have hZ : ∀ k, D.Z k → ¬ (k = G.db ∨ k = G.vb ∨ k = G.gb ∨ G.vM.ownBlock = some k) := fun k hk h => (hz k (hmut k h)).2 hk
  refine ⟨hfb6, (hG.firm _ _ hO hZ).2.1, fun w7 bs' hb7 hpure => ?_⟩
  have hO7 := (hO.trans (Only.of_below hb7)).setCell (p := ⟨G.gb, 6, none⟩) (Or.inl (Or.inr (Or.inr (Or.inl rfl)))) (.int .i64 ((moveW G.rs G.bl G.g b).turn : Int))
  have hfb7 := (hb7.block _ (blk_lt hfb6)).trans hfb6
  have hset : ∀ k o, k ≠ G.gb → w'.heap[k]? = some o → (w7.setCell ⟨G.gb, 6, none⟩ (.int .i64 ((moveW G.rs G.bl G.g b).turn : Int))).heap[k]? = some o := fun k o hne ho => by
    have h1 : (w'.setCell ⟨G.gb, 5, none⟩ v').heap[k]? = some o := (Below.heap_setCell _ _ _ _ hne).trans ho
    exact (Below.heap_setCell _ _ _ _ hne).trans ((hb7.block _ (blk_lt h1)).trans h1)
  have hvgb : v'.ownBlock ≠ some G.gb := fun e => by
    obtain ⟨c, hc⟩ := own_bk hown' _ e
    exact absurd (blk_type hc hfb') (by decide)
  have hoM7 := own_set_ne (own_below (own_set_ne hown' (p := ⟨G.gb, 5, none⟩) hvgb v') hb7) (p := ⟨G.gb, 6, none⟩) hvgb (.int .i64 ((moveW G.rs G.bl G.g b).turn : Int))
  refine ⟨moved_inv hD hi hGe b bs' v' hpure hO7 (blk_set hfb7 6 _) (hset _ _ (fun e => hgd e.symm) hdb') hoM7 (hset _ _ (fun e => hgv e.symm) hval') ?_, hO7.below (Nat.le_of_lt hbw) (fun k hk h => by have := (hz k (hmut k h)).1; omega)⟩
  rcases hmv with h | ⟨k, h1, h2⟩
  · exact Or.inl h
  · exact Or.inr ⟨k, h1, by omega⟩
theorem set_twice (l : List Int) (u : Nat) (x y : Int) : ((intsV l).toArray.setIfInBounds u (.int .i64 x)).setIfInBounds u (.int .i64 y) = (intsV (l.set u y)).toArray := by
  rw [intsV_set]
  apply Array.ext'
  simp
theorem infoInt : (Tryz.prog.info? 3).map (fun i => (i.zero, i.size, i.bytes)) = some (some (.int .i64 0), 1, 8) := by kernel_rfl

set_option maxRecDepth 100000 in
set_option maxHeartbeats 6400000 in
theorem moves_ok (bw i : Nat) (D : DW) (G : GG) (b : Nat) (ask : Bool) (w : World) (hD : DInv bw w D) (hi : i < D.gs.length) (hGe : D.gs[i] = G) (hn5 : D.h5s.length ≤ 1073741824) (ht : G.g.turn < (progBlocks (qFinish G.q0).vars).length) (hb : (b : Int) < (2 : Int) ^ (progBlocks (qFinish G.q0).vars)[G.g.turn].length) :
    Calls Tryz.prog 30 #[.pointer (some ⟨bw, 0, none⟩), .pointer (some ⟨G.gb, 0, none⟩), .int .i64 (b : Int), .bool ask] w fun e w' => StepD bw D 0 w e w' := by
  have hG := hD.games _ (List.getElem_mem hi)
  have hz := hD.gz _ (List.getElem_mem hi)
  rw [hGe] at hG hz
  have hPr := hG.pure.pair
  have hQg := hPr.qg
  have hrun : Run (qFinish G.q0) G.kind G.rs G.g G.bs := hG.pure.run
  have hkd := readQ_kind hG.pure.read
  have hbl : G.g.turn ≤ G.bl.length := by show _ ≤ (blW G.q G.kind).length; rw [blW_length]; exact hrun.turn
  have hbw := blk_lt hD.wat
  have lg := blk_lt hG.fb
  obtain ⟨hgd, hgv, hdv, hM1, hM2⟩ := hG.apart
  have hrl := block_len _ (vars_le hPr.nice) _ (List.getElem_mem ht)
  have hn8 := blocks_le (qFinish G.q0).vars (vars_le hPr.nice)
  have hml := hG.pure.mlen
  have hgd2 : (progBlocks (qFinish G.q0).vars).getD G.g.turn [] = (progBlocks (qFinish G.q0).vars)[G.g.turn] := by simp [List.getD, ht]
  have hb8 : (b : Int) < 256 := Int.lt_of_lt_of_le hb (pow_le8 _ hrl)
  have HBI := hide hb
  clear hb
  have hb9 : b < 512 := by omega
  have HBN : Hid (b < 2 ^ ((progBlocks G.q.vars).getD G.g.turn []).length) := hide (by
    rw [show (progBlocks G.q.vars).getD G.g.turn [] = (progBlocks (qFinish G.q0).vars)[G.g.turn] from hgd2]
    have h := unhide HBI
    refine Int.ofNat_lt.1 ?_
    rw [Int.natCast_pow]; exact h)
  have hbi : i64ok (b : Int) := ⟨by omega, by omega⟩
  have HPU : Hid (∀ v', ∃ bs', GPure (G.moved b bs' v') ∧ nextP G.q G.kind (G.g.turn + 1) = (moveW G.rs G.bl G.g b).turn) := hide (fun v' => moved_pure hG.pure ht b (unhide HBN) v')
  have hE : MoveE G.bl G.g (b : Int) = 0 := by rw [moveE_at ht, if_neg (fun h => h.elim (fun h => by omega) (fun h => Int.not_le.2 (unhide HBI) h))]
  have HMG : Hid (MoveG G.rs G.bl G.g (b : Int) = moveW G.rs G.bl G.g b) := hide (by unfold MoveG; rw [hE, if_pos rfl, Int.toNat_natCast])
  have HE := hide hE
  have hq : ((G.g.turn : Int) == ((progBlocks (qFinish G.q0).vars).length : Int)) = false := by rw [beq_eq_false_iff_ne]; omega
  have hne2 := (progBlocks_kind (qFinish G.q0).vars _ (List.getElem_mem ht)).1
  have hr8 : ∀ v ∈ (progBlocks (qFinish G.q0).vars)[G.g.turn], 1 ≤ v ∧ v ≤ 8 := fun v hv => ((bbd_of hPr.qb 1).row ((progBlocks (qFinish G.q0).vars)[G.g.turn], _) (List.mem_map.2 ⟨_, List.getElem_mem ht, rfl⟩)).2 v hv
  have g0 : w.cell? ⟨G.gb, 0, none⟩ = some (.pointer (some ⟨G.db, 0, none⟩)) := by rw [blk_cell hG.fb]; rfl
  clear hE HBN
  go_enter Tryz.func30, Tryz.ntmps30
  go_wp2_with fail
  refine (dmove_any G.db _ G.bl G.rs G.g G.gv (b : Int) w hG.game (rbd_of hG.pure.sbs _) (bbd_of hPr.qb _) hrun.lt hbl hbi).mono ?_
  rintro e w1 ⟨rfl, hG1, ho1⟩
  rw [unhide HMG] at hG1
  rw [unhide HE, show ((0 : Nat) : Int) = 0 from rfl]
  have hZ1 : ∀ k, D.Z k → ¬ k = G.db := fun k hk e => (hz k (Or.inr (Or.inl e))).2 hk
  have hfirm1 := hG.firm.step ho1 hZ1
  have hfb1 := (ho1.block _ lg hgd).trans hG.fb
  have hval1 := (ho1.block _ (blk_lt hG.val) (fun e => hdv e.symm)).trans hG.val
  have hoM1 := own_keep hG.oM ho1 (fun k hk e => hM2 (by rw [hk, e]))
  have hdb1 := hG1.fb
  have q2 : w1.cell? ⟨G.gb, 2, none⟩ = some (.pointer (some ⟨G.b2, 0, none⟩)) := by rw [blk_cell hfb1]; rfl
  have q6 : w1.cell? ⟨G.gb, 6, none⟩ = some (.int .i64 (G.g.turn : Int)) := by rw [blk_cell hfb1]; rfl
  have lg1 := blk_lt hfb1
  have hF1 := hfirm1.now.2.1
  obtain ⟨aE, cE, hE, lb⟩ := ref_ends hF1
  rw [hPr.ends] at hE
  have hsz1 := ho1.size
  go_wp2_with fail
  have hdr : Below w1.heap.size w1 w1.drew := (Below.refl _ w1).drew
  have hfirm2 := hfirm1.step (T := fun _ => False) (Only.of_below hdr) (fun _ _ h => h)
  have hvald := (hdr.block _ (blk_lt hval1)).trans hval1
  have HOA : Hid (∀ vX, InOrder w1.drew G.b2 vX → ∀ ad n c, vX = .slice (some ad) n c → ad.block ≠ G.vb) := hide (fun vX hIO ad n c e => by
    obtain ⟨gO, n0, c0, h0, h1⟩ := hIO
    rw [h1 ad n c e]
    exact order_apart (Z := D.Z) (fun T w' ho hT => (hfirm2 T w' ho hT).2.1) (hz _ (Or.inr (Or.inr (Or.inl rfl)))).2 hvald h0 (by rw [order_eq hPr.same]; have := offs_lt G.g.turn 0 ht (List.length_pos_iff.2 hne2); simp; omega))
  go_cut [12] (fun s12 wx => IntsAt wx s12 (progBlocks (qFinish G.q0).vars)[G.g.turn] ∧ Below w1.heap.size w1 wx ∧ ∀ ad n c, s12 = .slice (some ad) n c → ad.block ≠ G.vb)
  case first =>
    go_region_with (go_at_call 38; refine (blockP_any hPr (hF1.later hdr) ht).mono ?_; rintro e w2 ⟨vX, rfl, hI, hb2', hIO⟩; have hb2 : Below w1.heap.size w1 w2 := hdr.trans hb2'; have hoa := unhide HOA vX hIO)
    all_goals
      go_wp2_with fail
      go_meet
      exact ⟨hI, hb2, hoa⟩
  case rest =>
  obtain ⟨hI, hb2, hgO⟩ := hcut
  obtain ⟨w2, rfl⟩ : ∃ x, x = wc := ⟨_, rfl⟩
  have HGD : Hid ((progBlocks (qFinish G.q0).vars).getD G.g.turn [] = (progBlocks (qFinish G.q0).vars)[G.g.turn]) := hide hgd2
  clear hgd2 q2 q6 hE hfirm2 hvald hdr HOA
  generalize (progBlocks (qFinish G.q0).vars)[G.g.turn] = row at *
  obtain ⟨ao, cap, rfl, hcI⟩ := hI
  obtain ⟨gX, off, rfl, _⟩ := hcI 0 (List.length_pos_iff.2 hne2)
  have hgX : gX ≠ G.vb := hgO _ _ _ rfl
  have hcI2 : ∀ i (hi : i < row.length), w2.cell? ⟨gX, off + i, none⟩ = some (.int .i64 (row[i] : Int)) := fun i hi => by
    obtain ⟨g', o', e1, e2⟩ := hcI i hi
    injection e1 with e1
    injection e1 with e1 e3
    subst e1 e3
    exact e2
  have ho2 : Only (· = G.vb) w1 w2 := Only.of_below hb2
  have hval2 := (hb2.block _ (blk_lt hval1)).trans hval1
  have hw64 : wrap64 (2 ^ row.length) = (2 : Int) ^ row.length := wrap_pow8 row.length hrl
  have hd3 : decide ((b : Int) < 0) = false := decide_eq_false (by omega)
  have hd4 : decide ((2 : Int) ^ row.length ≤ (b : Int)) = false := decide_eq_false (Int.not_le.2 (unhide HBI))
  have HR8 := hide hr8
  have HGe := hide hGe
  clear hcI hgO hr8 hGe
  go_wp2_with fail
  clear hw64 hd3 hd4
  go_loopg [14] (row.length) (fun m ii wx => ∃ (k : Nat), ii = .int .i64 k ∧ k + m = row.length ∧ wx.heap[G.vb]? = some (.cells (intsV (mvTo row b G.val k)).toArray 3 (0, 0)) ∧ Only (· = G.vb) w1 wx ∧ ∀ i (hi : i < row.length), wx.cell? ⟨gX, off + i, none⟩ = some (.int .i64 (row[i] : Int)))
  case atStart => exact ⟨0, rfl, by omega, hval2, ho2, hcI2⟩
  case round =>
    obtain ⟨k, rfl, hkm, hval3, ho3, hc3⟩ := hrel
    have hfb3 := (ho3.block _ lg1 hgv).trans hfb1
    have lg3 := blk_lt hfb3
    have lv3 := blk_lt hval3
    by_cases hkl : k < row.length
    · have hv18 := unhide HR8 _ (List.getElem_mem hkl)
      have hri := hc3 k hkl
      have HMV : Hid (mvTo row b G.val (k + 1) = (mvTo row b G.val k).set (row[k] - 1) (bitV b k)) := hide (by rw [mvTo]; simp [List.getD, hkl])
      have hml8 : (mvTo row b G.val k).length = 8 := by rw [mvTo_len]; exact hG.pure.vlen
      generalize row[k] = v at hv18 hri HMV
      obtain ⟨u, rfl⟩ : ∃ u, v = u + 1 := ⟨v - 1, by omega⟩
      have hu8 : u < 8 := by omega
      have hri' : wr.cell? ⟨gX, off + k, none⟩ = some (.int .i64 ((u : Int) + 1)) := by rw [hri]; rfl
      have HMV2 : Hid (mvTo row b G.val (k + 1) = (mvTo row b G.val k).set u (bitV b k)) := HMV
      have d7 : wr.cell? ⟨G.gb, 7, none⟩ = some (.slice (some ⟨G.vb, 0, none⟩) 8 8) := by rw [blk_cell hfb3]; rfl
      have hvu : ∃ x, wr.cell? ⟨G.vb, u, none⟩ = some x := by
        rw [blk_cell hval3]
        exact ⟨_, Array.getElem?_eq_getElem (by simp [intsV]; omega)⟩
      obtain ⟨x0, hvu⟩ := hvu
      have lX := cell_lt hri'
      have z0 := blk_free hval3 u
      have HC3 := hide hc3
      have hsb := shr_bit_eq b k hb9 (by omega)
      clear hri hc3 hcI2 HMV
      have HBV : Hid (∀ t, b.testBit k = t → bitV b k = if t then 1 else -1) := hide (fun t h => by unfold bitV; rw [h])
      go_wp2_with fail
      go_region
      have hval4 : (wr.setCell ⟨G.vb, u, none⟩ (.int .i64 (-1))).drew.heap[G.vb]? = _ := blk_set hval3 u (.int .i64 (-1))
      have ho4 : Only (· = G.vb) w1 (wr.setCell ⟨G.vb, u, none⟩ (.int .i64 (-1))).drew := (ho3.setAt u _).drew
      have HC4 : Hid (∀ i (hi : i < row.length), (wr.setCell ⟨G.vb, u, none⟩ (.int .i64 (-1))).drew.cell? ⟨gX, off + i, none⟩ = some (.int .i64 (row[i] : Int))) := hide (fun i hi => by
        have h := unhide HC3 i hi
        have hb := Below.heap_setCell wr ⟨G.vb, u, none⟩ (.int .i64 (-1)) gX hgX
        show (wr.setCell ⟨G.vb, u, none⟩ (.int .i64 (-1))).cell? ⟨gX, off + i, none⟩ = _
        rw [cell_of_block hb]; exact h)
      have r4 : (wr.setCell ⟨G.vb, u, none⟩ (.int .i64 (-1))).drew.cell? ⟨gX, off + k, none⟩ = some (.int .i64 ((u : Int) + 1)) := by
        have hb := Below.heap_setCell wr ⟨G.vb, u, none⟩ (.int .i64 (-1)) gX hgX
        show (wr.setCell ⟨G.vb, u, none⟩ (.int .i64 (-1))).cell? ⟨gX, off + k, none⟩ = _
        rw [cell_of_block hb]; exact hri'
      clear hval3 ho3 hri' d7 hvu HC3 z0 lX lv3 lg3 hfb3
      generalize (wr.setCell ⟨G.vb, u, none⟩ (.int .i64 (-1))).drew = w4 at *
      have hfb4 := (ho4.block _ lg1 hgv).trans hfb1
      have d7 : w4.cell? ⟨G.gb, 7, none⟩ = some (.slice (some ⟨G.vb, 0, none⟩) 8 8) := by rw [blk_cell hfb4]; rfl
      have lg4 := blk_lt hfb4
      have lv4 := blk_lt hval4
      have lX := cell_lt r4
      have z4 := blk_free hval4 u
      have hvu : w4.cell? ⟨G.vb, u, none⟩ = some (.int .i64 (-1)) := by
        rw [blk_cell hval4]
        rw [Array.getElem?_setIfInBounds_self_of_lt (by simp [intsV]; omega)]
      cases htb : b.testBit k with
      | true =>
        rw [htb] at hsb
        have HV5 : Hid ((w4.setCell ⟨G.vb, u, none⟩ (.int .i64 1)).drew.heap[G.vb]? = some (.cells (intsV (mvTo row b G.val (k + 1))).toArray 3 (0, 0))) := hide (by
          show (w4.setCell ⟨G.vb, u, none⟩ (.int .i64 1)).heap[G.vb]? = _
          rw [unhide HMV2, unhide HBV true htb, if_pos rfl, ← set_twice _ u (-1) 1]; exact blk_set hval4 u (.int .i64 1))
        have HO5 : Hid (Only (· = G.vb) w1 (w4.setCell ⟨G.vb, u, none⟩ (.int .i64 1)).drew) := hide ((ho4.setAt u _).drew)
        have HC5 : Hid (∀ i (hi : i < row.length), (w4.setCell ⟨G.vb, u, none⟩ (.int .i64 1)).drew.cell? ⟨gX, off + i, none⟩ = some (.int .i64 (row[i] : Int))) := hide (fun i hi => by
          have h := unhide HC4 i hi
          have hb := Below.heap_setCell w4 ⟨G.vb, u, none⟩ (.int .i64 1) gX hgX
          show (w4.setCell ⟨G.vb, u, none⟩ (.int .i64 1)).cell? ⟨gX, off + i, none⟩ = _
          rw [cell_of_block hb]; exact h)
        clear htb hval4
        go_wp2_with fail
        go_region
        go_wp2_with fail
        go_roundg (gk - 1)
        case measure => omega
        case rel => exact ⟨k + 1, by go_num, by omega, unhide HV5, unhide HO5, unhide HC5⟩
      | false =>
        rw [htb] at hsb
        have HV5 : Hid (w4.heap[G.vb]? = some (.cells (intsV (mvTo row b G.val (k + 1))).toArray 3 (0, 0))) := hide (by
          rw [unhide HMV2, unhide HBV false htb, if_neg (by decide), intsV_set]; exact hval4)
        clear htb hval4
        go_wp2_with fail
        go_roundg (gk - 1)
        case measure => omega
        case rel => exact ⟨k + 1, by go_num, by omega, unhide HV5, ho4, unhide HC4⟩
    · have hke : k = row.length := by omega
      subst hke
      have hdk : decide ((row.length : Int) < (row.length : Int)) = false := by simp
      obtain ⟨i1, hi1, hz10, hz11, hz12⟩ := info_parts infoInt
      obtain ⟨aM, cM, hMf⟩ := own_form hG.oM
      have hoM3 := own_keep hoM1 ho3 (fun j hj e => hG.mvb (by rw [hj, e]))
      rw [hMf] at hoM3
      have c5 : wr.cell? ⟨G.gb, 5, none⟩ = some (.slice aM G.mv.length cM) := by rw [blk_cell hfb3]; exact congrArg some hMf
      have c6 : wr.cell? ⟨G.gb, 6, none⟩ = some (.int .i64 (G.g.turn : Int)) := by rw [blk_cell hfb3]; rfl
      have HTL : Hid (∀ w' v', w'.ownsRow 0 3 1 v' (G.mv.length + 1) (ints G.mv ++ [.int .i64 (b : Int)]) → wr.grownBy w' (Value.slice aM G.mv.length cM).ownBlock → (v'.ownBlock = (Value.slice aM G.mv.length cM).ownBlock ∨ ∃ k, v'.ownBlock = some k ∧ wr.heap.size ≤ k) →
          (w'.setCell ⟨G.gb, 5, none⟩ v').heap[G.gb]? = some (.cells #[.pointer (some ⟨G.db, 0, none⟩), .pointer (some ⟨G.b1, 0, none⟩), .pointer (some ⟨G.b2, 0, none⟩), S G.proof, .int .i64 (G.kind : Int), v', .int .i64 (G.g.turn : Int), .slice (some ⟨G.vb, 0, none⟩) 8 8] 87 (0, 0)) ∧
          RefAt 0 (w'.setCell ⟨G.gb, 5, none⟩ v') G.b2 (finish G.st) ∧
          ∀ w7 bs', Below (w'.setCell ⟨G.gb, 5, none⟩ v').heap.size (w'.setCell ⟨G.gb, 5, none⟩ v') w7 → GPure (G.moved b bs' v') → DInv bw (w7.setCell ⟨G.gb, 6, none⟩ (.int .i64 ((moveW G.rs G.bl G.g b).turn : Int))) { D with gs := D.gs.set i (G.moved b bs' v') } ∧ Below bw w (w7.setCell ⟨G.gb, 6, none⟩ (.int .i64 ((moveW G.rs G.bl G.g b).turn : Int)))) := hide (fun w' v' h1 h2 h3 => moved_tail hD hi (unhide HGe) b v' hG1 ho1 ho3 (by rw [unhide HGD]; exact hval3) h1 (by rw [hMf]; exact h2) (by rw [hMf]; exact h3))
      have hMb : (Value.slice aM G.mv.length cM).ownBlock ≠ some G.gb := by rw [← hMf]; exact hM1
      have hne5 : (progBlocks (qFinish G.q0).vars).length ≤ 8 := hn8
      have HMB := hide hMb
      have HMF := hide hMf
      have HOM3 := hide hoM3
      have HFB3 := hide hfb3
      have HPR := hide hPr
      have HD := hide hD
      clear hMf hMb hoM3 hfb3 hval3 ho3 hc3 hG1 ho1 hG hz hrun hval2 ho2 hval1 hoM1 hdb1 hfirm1 hF1 hfb1 hb2 hcI2 hPr hQg hD hn8 hZ1 hM1 hM2 hgd hgv hdv hrl hb8 HBI HGD HR8 hgX lb
      go_wp2_with (at_builtin; refine wpList_append_at rfl (.tmp 114) (.tmp 116) 25 rfl 0 i1 (.int .i64 0) 1 8 Tryz.underlying25 hi1 hz10 hz11 hz12 rfl (by decide) _ _ _ (unhide HOM3) rfl rfl rfl (by simp [Value.oneCell']) (by unfold maxLen; omega) (by omega) (Nat.zero_le _) ?_; intro v' w' hown' hgrow hmv; have hfb' := (hgrow.block G.gb lg3 (fun e => unhide HMB e.symm)).trans (unhide HFB3); have hq5 : w'.cell? ⟨G.gb, 5, none⟩ = some (.slice aM G.mv.length cM) := (by rw [blk_cell hfb']; exact congrArg some (unhide HMF)); have hqz := blk_free hfb' 5; have hq6 : w'.cell? ⟨G.gb, 6, none⟩ = some (.int .i64 (G.g.turn : Int)) := (by rw [blk_cell hfb']; rfl); have HT2 := hide (unhide HTL w' v' hown' hgrow hmv); obtain ⟨a5, c5', rfl⟩ := own_form hown'; have lg5 := blk_lt hfb')
      obtain ⟨hfb6, hR6, hfin⟩ := unhide HT2
      have HFIN := hide hfin
      have hs6 : (w'.setCell ⟨G.gb, 5, none⟩ (.slice a5 (G.mv.length + 1) c5')).heap.size = w'.heap.size := by simp [World.setCell]
      clear hfin HT2 HTL hown' hgrow hmv hfb' hq5 hq6 hqz HOM3 HFB3 HMB
      generalize w'.setCell ⟨G.gb, 5, none⟩ (.slice a5 (G.mv.length + 1) c5') = w6 at *
      have lg6 := blk_lt hfb6
      have c66 : w6.cell? ⟨G.gb, 6, none⟩ = some (.int .i64 (G.g.turn : Int)) := by rw [blk_cell hfb6]; rfl
      refine (next_any (k := G.g.turn + 1) (unhide HPR) hfb6 rfl rfl hR6 hkd ht).mono ?_
      rintro e w7 ⟨rfl, hb7⟩
      have hfb7 := (hb7.block _ lg6).trans hfb6
      have c76 : w7.cell? ⟨G.gb, 6, none⟩ = some (.int .i64 (G.g.turn : Int)) := by rw [blk_cell hfb7]; rfl
      have z76 := blk_free hfb7 6
      have lg7 := blk_lt hfb7
      obtain ⟨bs', hpu, hnx⟩ := unhide HPU (.slice a5 (G.mv.length + 1) c5')
      have hnx2 : nextP (qFinish G.q0) G.kind (G.g.turn + 1) = (moveW G.rs G.bl G.g b).turn := hnx
      rw [hnx2]
      obtain ⟨hD8, hB8⟩ := unhide HFIN w7 bs' hb7 hpu
      clear hnx hnx2 HFIN hpu
      generalize (moveW G.rs G.bl G.g b).turn = tn at *
      have HD8 := hide hD8
      have HB8 := hide hB8
      have HGB : Hid ((D.gs.set i (G.moved b bs' (.slice a5 (G.mv.length + 1) c5')))[i]'(by simpa using hi) = G.moved b bs' (.slice a5 (G.mv.length + 1) c5')) := hide (by simp)
      clear hD8 hB8
      cases ask with
      | true =>
        go_wp2_with fail
        refine (stands_p bw i G.gb _ _ (unhide HD8) (by simpa using hi) (by show ((D.gs.set i (G.moved b bs' (.slice a5 (G.mv.length + 1) c5')))[i]'(by simpa using hi)).gb = G.gb; rw [unhide HGB]; rfl) hn5).mono ?_
        intro e w9 hs
        obtain ⟨rfl, hfin⟩ := StepD.fin (D := D) (D2 := { D with gs := D.gs.set i (G.moved b bs' (.slice a5 (G.mv.length + 1) c5')) }) (unhide HB8) rfl rfl (by show (D.gs.set i _).length ≤ _; rw [List.length_set]; omega) rfl rfl hs
        clear hs
        go_wp2_with fail
        go_ret
        exact hfin
      | false =>
        go_wp2_with fail
        go_ret
        exact StepD.quiet (unhide HB8) (unhide HD8) rfl rfl (by show (D.gs.set i _).length ≤ _; rw [List.length_set]; omega) rfl rfl
end Go.Proofs.YtgipjjhkhfihpaaGreatDoor

namespace Go.Proofs.YtgipjjhkhfihpaaGreatDoor
open Go.RowKit

/-! ### The text of a proof alone says which rules there are -/
theorem litsAt_L (p : List Stp) (n : Nat) : litsAt p n = if n = 0 then (0, 0) else ((litsL p)[n - 1]?).getD (0, 0) := by
  unfold litsAt litsL
  split
  · rfl
  · rw [List.getElem?_map]
    cases p[n - 1]? <;> rfl
def ruleX (kind : Nat) (ls : List (Nat × Nat)) (n : Nat) (l : Nat × Nat) : RuleP :=
  if kind = 1 then (swapL l, swapL (minus (if n = 0 then (0, 0) else (ls[n - 1]?).getD (0, 0)) l)) else (l, minus (if n = 0 then (0, 0) else (ls[n - 1]?).getD (0, 0)) l)
theorem rulesW_X (kind : Nat) (p0 : List Stp) : ∀ p : List Stp, (p.filter (fun s => s.rule == 4)).map (ruleW kind p0) = (p.map (fun s => (stMark s, s.lits))).filterMap (fun x => x.1.map (fun n => ruleX kind (litsL p0) n x.2)) := by
  intro p
  induction p with
  | nil => rfl
  | cons s p ih =>
    rw [List.filter_cons, List.map_cons, List.filterMap_cons]
    by_cases h : s.rule = 4
    · have h1 : (s.rule == 4) = true := by simpa using h
      have h2 : stMark s = some s.first := by unfold stMark; rw [if_pos h]
      rw [if_pos h1, List.map_cons, ih, h2]
      show ruleW kind p0 s :: _ = ruleX kind (litsL p0) s.first s.lits :: _
      congr 1
      unfold ruleW ruleX
      rw [litsAt_L]
    · have h1 : (s.rule == 4) = false := by simpa using h
      have h2 : stMark s = none := by unfold stMark; rw [if_neg h]
      rw [h1, if_neg (by decide), ih, h2]
      rfl
theorem marks_same {rows : List (List UInt8)} {ss ss' : List Stp} (h : Marks rows ss) (h' : Marks rows ss') (hl : litsL ss = litsL ss') : ss.map (fun s => (stMark s, s.lits)) = ss'.map (fun s => (stMark s, s.lits)) := by
  have hlen : ss.length = ss'.length := by simpa [litsL] using congrArg List.length hl
  apply List.ext_getElem (by simpa using hlen)
  intro i h1 h2
  simp only [List.length_map] at h1 h2
  have e1 := h i h1
  have e2 := h' i h2
  have e3 : ss[i].lits = ss'[i].lits := by
    have := congrArg (fun l => l[i]?) hl
    simp only [litsL, List.getElem?_map, List.getElem?_eq_getElem h1, List.getElem?_eq_getElem h2, Option.map_some, Option.some.injEq] at this
    exact this
  simp only [List.getElem_map]
  rw [e1, e2, e3]
theorem rulesW_same {q : QS} {kind : Nat} {l : List UInt8} {ss ss' : List Stp} (h : Tagged q kind l ss) (h' : Tagged q kind l ss') (hl : litsL ss = litsL ss') : rulesW kind ss = rulesW kind ss' := by
  unfold rulesW
  rw [rulesW_X, rulesW_X, marks_same h.2 h'.2 hl, hl]
theorem openW_same {q : QS} {kind : Nat} {l : List UInt8} {ss ss' : List Stp} (h : Tagged q kind l ss) (h' : Tagged q kind l ss') (hl : litsL ss = litsL ss') : openW q kind ss = openW q kind ss' := by
  unfold openW
  rw [rulesW_same h h' hl]

/-! ### A game that is played anew -/
def GG.at_ (G : GG) (i : Nat) : GS := (G.mv.take i).foldl (fun g m => moveW G.rs G.bl g m) (openW G.q G.kind G.ss)
theorem at_succ (G : GG) (i : Nat) (h : i < G.mv.length) : G.at_ (i + 1) = moveW G.rs G.bl (G.at_ i) G.mv[i] := by
  unfold GG.at_
  rw [List.take_succ_eq_append_getElem h, List.foldl_append]; rfl
theorem at_all {G : GG} (h : GPure G) : G.at_ G.mv.length = G.g := by unfold GG.at_; rw [List.take_length]; exact h.play.symm
theorem at_ok {G : GG} (h : GPure G) (i : Nat) (hi : i < G.mv.length) : MoveE G.bl (G.at_ i) ((G.mv[i] : Nat) : Int) = 0 := by
  have := h.ok i hi
  rw [show G.mv.getD i 0 = G.mv[i] from by simp [List.getD, hi]] at this
  exact this
theorem at_run {G : GG} (h : GPure G) : ∀ i, i ≤ G.mv.length → ∃ bs, Run G.q G.kind G.rs (G.at_ i) bs ∧ Stands G.q G.kind (G.at_ i) := by
  have hq : QGood G.q := h.pair.qg
  have hk : G.kind = 1 ∨ G.kind = 2 := readQ_kind h.read
  intro i
  induction i with
  | zero =>
    intro _
    obtain ⟨bs, h1, h2, _⟩ := open_run hq hk G.ss
    exact ⟨bs, h1, h2⟩
  | succ i ih =>
    intro hi
    obtain ⟨bs, h1, h2⟩ := ih (by omega)
    have ho := at_ok h i hi
    have ht : (G.at_ i).turn < (progBlocks G.q.vars).length := by
      have hl : G.bl.length = (progBlocks G.q.vars).length := blW_length G.q G.kind
      by_cases e : G.bl.length ≤ (G.at_ i).turn
      · unfold MoveE at ho; rw [if_pos e] at ho; cases ho
      · omega
    obtain ⟨b2, r1, r2, _⟩ := move_run hq hk h1 h2 ht G.mv[i]
    rw [at_succ G i hi]
    exact ⟨_, r1, r2⟩
theorem mv_small {G : GG} (h : GPure G) (i : Nat) (hi : i < G.mv.length) : i64ok ((G.mv[i] : Nat) : Int) := by
  have ho := at_ok h i hi
  unfold MoveE at ho
  split at ho
  · cases ho
  · next hl =>
    split at ho
    · cases ho
    · next hb =>
      simp only [not_or] at hb
      have h8 : (G.bl.getD (G.at_ i).turn ([], false)).1.length ≤ 8 := by
        have hB := bbd_of h.pair.qb G.kind
        have hlt : (G.at_ i).turn < (blW G.q G.kind).length := by have h1 : ¬ (blW G.q G.kind).length ≤ (G.at_ i).turn := hl; omega
        show ((blW G.q G.kind).getD _ _).1.length ≤ 8
        rw [show (blW G.q G.kind).getD (G.at_ i).turn ([], false) = (blW G.q G.kind)[(G.at_ i).turn] from by simp [List.getD, hlt]]
        exact (hB.row _ (List.getElem_mem hlt)).1
      have hp := pow_le8 _ h8
      exact ⟨by omega, by omega⟩

set_option maxRecDepth 100000 in
set_option maxHeartbeats 3200000 in
theorem again_any (Z : Nat → Prop) (bw : Nat) (G : GG) (w : World) (hG : GInv Z w G) (hv : G.val = valsL G.g.vals) :
    Calls Tryz.prog 31 #[.pointer (some ⟨bw, 0, none⟩), .pointer (some ⟨G.gb, 0, none⟩)] w fun e w' => e = .returned (.bool true) ∧ Below w.heap.size w w' := by
  have hPr := hG.pure.pair
  have lg := blk_lt hG.fb
  have g1 : w.cell? ⟨G.gb, 1, none⟩ = some (.pointer (some ⟨G.b1, 0, none⟩)) := by rw [blk_cell hG.fb]; rfl
  have g3 : w.cell? ⟨G.gb, 3, none⟩ = some (S G.proof) := by rw [blk_cell hG.fb]; rfl
  have hP := hG.firm.now.1
  have hpu := hG.pure
  have hml := hpu.mlen
  have hn8 := blocks_le (qFinish G.q0).vars (vars_le hPr.nice)
  have htn : G.g.turn ≤ (progBlocks (qFinish G.q0).vars).length := hpu.run.turn
  have HRD := hide hpu.read
  have HPU := hide hpu
  go_enter Tryz.func31, Tryz.ntmps31
  go_wp2_with fail
  have hdr : Below w.heap.size w w.drew := (Below.refl _ w).drew
  go_region_with (go_at_call 18; refine (dopen_any 0 G.b1 G.q G.proof _ (hP.later hdr) hPr.qb).mono ?_; rintro e w1 ⟨hb1, hp⟩; rw [unhide HRD] at hp; obtain ⟨ss', db, gv, hls, htg, hsb, rfl, hGA, hdb, hfr⟩ := hp; have hB1 : Below w.heap.size w w1 := hdr.trans hb1)
  all_goals
    have HRS : Hid (rulesW G.kind ss' = G.rs) := hide (rulesW_same htg (unhide HPU).tags hls)
    have HOS : Hid (openW G.q G.kind ss' = G.at_ 0) := hide (openW_same htg (unhide HPU).tags hls)
    have hGA1 : GameAt w1 db 79 G.bl G.rs (G.at_ 0) gv := by rw [← unhide HRS, ← unhide HOS]; exact hGA
    have hdb' : w.heap.size ≤ db := hdb
    clear hGA htg hls hsb hfr hdb
    have hfb1 := (hB1.block _ lg).trans hG.fb
    obtain ⟨aM, cM, hMf⟩ := own_form hG.oM
    have hoM := hG.oM
    rw [hMf] at hoM
    have hvb := hG.val
    have lvb := blk_lt hvb
    go_wp2_with fail
    go_loopg [8] (G.mv.length) (fun m ii wx => ∃ (k : Nat), ii = .int .i64 k ∧ k + m = G.mv.length ∧ GameAt wx db 79 G.bl G.rs (G.at_ k) gv ∧ Below w.heap.size w wx)
    case atStart => exact ⟨0, rfl, by omega, hGA1, hB1⟩
    case round =>
      obtain ⟨k, rfl, hkm, hGk, hbk⟩ := hrel
      have hfbk := (hbk.block _ lg).trans hG.fb
      have lgk := blk_lt hfbk
      have c5 : wr.cell? ⟨G.gb, 5, none⟩ = some (.slice aM G.mv.length cM) := by rw [blk_cell hfbk]; exact congrArg some hMf
      obtain ⟨bs, hrun, hst⟩ := at_run (unhide HPU) k (by omega)
      have ldb := blk_lt hGk.fb
      by_cases hkl : k < G.mv.length
      · obtain ⟨gM, cap, hVe, _, hgM', _, hcell⟩ := own_pos hoM (by omega)
        injection hVe with hVe _ hV2
        subst hVe hV2
        have hck : wr.cell? ⟨gM, k, none⟩ = some (.int .i64 (G.mv[k] : Int)) := by
          rw [hbk.cell (p := ⟨gM, k, none⟩) hgM']; exact hcell k _ (by simp [ints, hkl])
        have lM : gM < wr.heap.size := Nat.lt_of_lt_of_le hgM' hbk.size
        have HOK := hide (at_ok (unhide HPU) k hkl)
        have hbi := mv_small (unhide HPU) k hkl
        have HSU := hide (at_succ G k hkl)
        have hbl : (G.at_ k).turn ≤ G.bl.length := by show _ ≤ (blW G.q G.kind).length; rw [blW_length]; exact hrun.turn
        clear hcell
        go_wp2_with fail
        have hdr2 : Below wr.heap.size wr wr := Below.refl _ wr
        refine (dmove_any db _ G.bl G.rs (G.at_ k) gv (G.mv[k] : Int) _ (hGk.later hdr2) (rbd_of hpu.sbs _) (bbd_of hPr.qb _) hrun.lt hbl hbi).mono ?_
        rintro e w2 ⟨rfl, hG2, ho2⟩
        rw [unhide HOK, show ((0 : Nat) : Int) = 0 from rfl]
        all_goals
          have HG2 : Hid (GameAt w2 db 79 G.bl G.rs (G.at_ (k + 1)) gv) := hide (by
            rw [unhide HSU]
            have : MoveG G.rs G.bl (G.at_ k) (G.mv[k] : Int) = moveW G.rs G.bl (G.at_ k) G.mv[k] := by unfold MoveG; rw [unhide HOK, if_pos rfl, Int.toNat_natCast]
            rw [← this]; exact hG2)
          have hB2 : Below w.heap.size w w2 := hbk.trans ((Only.below (T := (· = db)) ((Only.of_below hdr2).trans ho2) hbk.size (fun j hj e => by omega)))
          clear hG2
          go_wp2_with fail
          go_roundg (gk - 1)
          case measure => omega
          case rel => exact ⟨k + 1, by go_num, by omega, unhide HG2, hB2⟩
      · have hke : k = G.mv.length := by omega
        subst hke
        have hdk : decide ((G.mv.length : Int) < (G.mv.length : Int)) = false := by simp
        rw [at_all (unhide HPU)] at hGk hrun
        go_wp2_with fail
        refine (dvalues_any db _ G.bl G.rs G.g gv _ hGk hrun.lt).mono ?_
        rintro e w3 ⟨kL, rfl, hkL, hL, hb3⟩
        have hG3 := hGk.later hb3
        have hB3 : Below w.heap.size w w3 := hbk.trans (hb3.mono hbk.size)
        have ldb3 := blk_lt hG3.fb
        go_wp2_with fail
        refine (dturn_any db _ G.bl G.rs G.g gv w3 hG3).mono ?_
        rintro e w4 ⟨rfl, hw4⟩
        subst hw4
        go_wp2_with fail
        obtain ⟨wo, rfl⟩ : ∃ wo, wo = wr := ⟨_, rfl⟩
        go_loopg [12] 8 (fun m vv wx => ∃ (j : Nat), vv = .int .i64 (j : Int) ∧ j + m = 8 ∧ Below w4.heap.size w4 wx)
        case atStart => exact ⟨0, rfl, by omega, Below.refl _ _⟩
        case round =>
          obtain ⟨j, rfl, hjm, hbo⟩ := hrel
          have hB5 : Below w.heap.size w wr := hB3.trans (hbo.mono hB3.size)
          have hLx := (hbo.block _ (blk_lt hL)).trans hL
          have lLx := blk_lt hLx
          have hfb5 := (hB5.block _ lg).trans hG.fb
          have lg5 := blk_lt hfb5
          have hvb5 := (hB5.block _ lvb).trans hvb
          have lv5 := blk_lt hvb5
          have d7 : wr.cell? ⟨G.gb, 7, none⟩ = some (.slice (some ⟨G.vb, 0, none⟩) 8 8) := by rw [blk_cell hfb5]; rfl
          have d6 : wr.cell? ⟨G.gb, 6, none⟩ = some (.int .i64 (G.g.turn : Int)) := by rw [blk_cell hfb5]; rfl
          by_cases hj8 : j < 8
          · have hd : decide ((j : Int) < 8) = true := decide_eq_true (by omega)
            have hlj : wr.cell? ⟨kL, j, none⟩ = some (.int .i64 (valV G.g.vals (j + 1))) := by rw [blk_cell hLx, valTo_at _ _ _ hj8, if_pos hj8]
            have hvj : wr.cell? ⟨G.vb, j, none⟩ = some (.int .i64 (valV G.g.vals (j + 1))) := by
              rw [blk_cell hvb5, hv]
              have h8 : (valsL G.g.vals).length = 8 := by simp [valsL]
              have := valsL_at G.g.vals (j + 1) (by omega) (by omega)
              rw [Nat.add_sub_cancel] at this
              rw [← this]
              simp [intsV, List.getD, h8, hj8]
            have hne : (valV G.g.vals (j + 1) != valV G.g.vals (j + 1)) = false := by simp
            generalize valV G.g.vals (j + 1) = y at *
            go_wp2_with fail
            go_quiet (fail)
            have b6 : Below wr.heap.size wr (wr.drewN nq) := below_drewN (Below.refl _ _) nq
            have hbo6 := hbo.trans (b6.mono hbo.size)
            generalize wr.drewN nq = w6 at *
            go_wp2_with fail
            go_roundg (gk - 1)
            case measure => omega
            case rel => exact ⟨j + 1, by go_num, by omega, hbo6⟩
          · have hj : j = 8 := by omega
            subst hj
            have hq : ((G.g.turn : Int) == (G.g.turn : Int)) = true := by simp
            go_wp2_with fail
            go_ret
            exact ⟨rfl, hB5⟩
end Go.Proofs.YtgipjjhkhfihpaaGreatDoor
