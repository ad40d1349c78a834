import Derived.Test.YtgipjjhkhfihpaaGreatDoorDW
import Derived.Test.YtgipjjhkhfihpaaGreatDoorEA
import Derived.BigRegion
import Derived.Deep.DeepCutAuto
import Derived.Test.YtgipjjhkhfihpaaGreatDoorDX
import Derived.Test.YtgipjjhkhfihpaaGreatDoorDS
import Derived.Test.YtgipjjhkhfihpaaGreatDoorDF
namespace Go.Proofs.YtgipjjhkhfihpaaGreatDoor
open Go.RowKit

/-! ### A game is opened -/
theorem readQ_inl {q : QS} {l : List UInt8} {x i : Nat} (h : checkQ q l = (0, x, i)) (hx : 0 < x) : readQ q l = .inl (x, i) := by
  unfold checkQ at h
  cases hr : readQ q l with
  | inl y =>
    obtain ⟨y1, y2⟩ := y
    rw [hr] at h
    injection h with _ h
    injection h with h1 h2
    subst h1 h2
    rfl
  | inr y =>
    obtain ⟨k, ls⟩ := y
    rw [hr] at h
    injection h with _ h
    injection h with h1 h2
    omega
theorem readQ_inr {q : QS} {l : List UInt8} {k : Nat} (h : checkQ q l = (k, 0, 0)) (hk : 0 < k) : ∃ ls, readQ q l = .inr (k, ls) := by
  unfold checkQ at h
  cases hr : readQ q l with
  | inl y =>
    obtain ⟨y1, y2⟩ := y
    rw [hr] at h
    injection h with h1 _
    omega
  | inr y =>
    obtain ⟨k', ls⟩ := y
    rw [hr] at h
    injection h with h1 _
    subst h1
    exact ⟨ls, rfl⟩
theorem infoGame : (Tryz.prog.info? 51).map (fun i => (i.zero, i.size, i.bytes)) = some (some (.pointer none), 1, 8) := by kernel_rfl
def vals0 : List Int := [0, 0, 0, 0, 0, 0, 0, 0]
/-- A new game, apart from memory. -/
theorem open_pure {st : RS} {q0 : QS} (hP : Pair st q0) {proof : List UInt8} {kind : Nat} {ss : List Stp} (hr : readQ (qFinish q0) proof = .inr (kind, litsL ss)) (ht : Tagged (qFinish q0) kind proof ss) (hs : SBs ss) (gb db b1 b2 vb : Nat) (gv : GV) :
    ∃ bs, GPure ⟨gb, db, b1, b2, st, q0, proof, kind, ss, [], bs, openW (qFinish q0) kind ss, gv, .slice none 0 0, vb, vals0⟩ ∧ nextP (qFinish q0) kind 0 = (openW (qFinish q0) kind ss).turn := by
  have hk := readQ_kind hr
  obtain ⟨bs, r1, r2, r3⟩ := open_run hP.qg hk ss
  refine ⟨bs, ⟨hP.same, hP.cl, hP.nice, hr, ht, hs, rfl, fun i hi => by simp at hi, r1, r2, by simp, rfl, fun v h1 h8 => Or.inl ?_⟩, ?_⟩
  · show vals0.getD (v - 1) 0 = 0
    have : ∀ k : Fin 8, vals0.getD k.val 0 = 0 := by decide
    exact this ⟨v - 1, by omega⟩
  · exact nextP_eq _ kind 0 _ (Nat.zero_le _) r2.le (fun j hj _ h => r3 j hj h) r2.lose
/-- What a game's rows rest on. -/
def GZ (gv : GV) (k : Nat) : Prop := gv.vB.ownBlock = some k ∨ gv.vR.ownBlock = some k ∨ ∃ j, ∃ hj : j < gv.hdrs.length, gv.hdrs[j].ownBlock = some k

/-- What lies behind Open, memory alone. -/
theorem opens_tail {bw b1 b2 : Nat} {st : RS} {q0 : QS} {D : DW} {w w2 wc w4 : World} {kind : Nat} {ss : List Stp} {gv : GV} {db gb vb : Nat} {v' : Value} {bs : List Bool} (hD : DInv bw w D) (hF : Firm D.Z (fun w => ProgAt (bw + 1) w b1 (qFinish q0) ∧ RefAt (bw + 1) w b2 (finish st)) w)
    (hB2 : Below w.heap.size w w2) (hGA : GameAt w2 db 79 (blW (qFinish q0) kind) (rulesW kind ss) (openW (qFinish q0) kind ss) gv) (hdb : w.heap.size ≤ db) (hfr : GFresh w.heap.size gv) (hb3 : Below w2.heap.size w2 wc) (hgb : w2.heap.size ≤ gb) (hvb : w2.heap.size ≤ vb)
    (hgB : wc.heap[gb]? = some (.cells #[.pointer (some ⟨db, 0, none⟩), .pointer (some ⟨b1, 0, none⟩), .pointer (some ⟨b2, 0, none⟩), S D.proof, .int .i64 (kind : Int), .slice none 0 0, .int .i64 0, .slice (some ⟨vb, 0, none⟩) 8 8] 87 (0, 0)))
    (hvB : wc.heap[vb]? = some (.cells #[.int .i64 0, .int .i64 0, .int .i64 0, .int .i64 0, .int .i64 0, .int .i64 0, .int .i64 0, .int .i64 0] 3 (0, 0)))
    (hown4 : w4.ownsRow (bw + 1) 51 1 v' (D.gs.length + 1) (D.gs.map gptr ++ [.pointer (some ⟨gb, 0, none⟩)])) (hgrow : wc.grownBy w4 D.v4.ownBlock) (hat : v'.ownBlock = D.v4.ownBlock ∨ ∃ k, v'.ownBlock = some k ∧ wc.heap.size ≤ k)
    (hpure : GPure ⟨gb, db, b1, b2, st, q0, D.proof, kind, ss, [], bs, openW (qFinish q0) kind ss, gv, .slice none 0 0, vb, vals0⟩) :
    (w4.setCell ⟨bw, 4, none⟩ v').heap[gb]? = some (.cells #[.pointer (some ⟨db, 0, none⟩), .pointer (some ⟨b1, 0, none⟩), .pointer (some ⟨b2, 0, none⟩), S D.proof, .int .i64 (kind : Int), .slice none 0 0, .int .i64 0, .slice (some ⟨vb, 0, none⟩) 8 8] 87 (0, 0)) ∧ RefAt 0 (w4.setCell ⟨bw, 4, none⟩ v') b2 (finish st) ∧
    ∀ w7, Below (w4.setCell ⟨bw, 4, none⟩ v').heap.size (w4.setCell ⟨bw, 4, none⟩ v') w7 →
      DInv bw (w7.setCell ⟨gb, 6, none⟩ (.int .i64 ((openW (qFinish q0) kind ss).turn : Int))) { D with v4 := v', gs := D.gs ++ [⟨gb, db, b1, b2, st, q0, D.proof, kind, ss, [], bs, openW (qFinish q0) kind ss, gv, .slice none 0 0, vb, vals0⟩], Z := fun k => D.Z k ∨ GZ gv k } ∧ Below bw w (w7.setCell ⟨gb, 6, none⟩ (.int .i64 ((openW (qFinish q0) kind ss).turn : Int))) := by
  have hw := hD.wat
  unfold WAt at hw
  have hbw := blk_lt hw
  have s2 := hB2.size
  have s3 := hb3.size
  have hBc : Below w.heap.size w wc := hB2.trans (hb3.mono hB2.size)
  have hwc := (hBc.block _ hbw).trans hw
  have h4lt : ∀ k, D.v4.ownBlock = some k → bw < k ∧ k < w.heap.size := fun k hk => by have := hD.o4.lt k hk; omega
  have h4ty : ∀ k, D.v4.ownBlock = some k → ∃ c, wc.heap[k]? = some (.cells c 51 (0, 0)) := fun k hk => by
    obtain ⟨c, hc⟩ := own_bk hD.o4 k hk
    exact ⟨c, (hBc.block k (blk_lt hc)).trans hc⟩
  have hdbc := (hb3.block _ (blk_lt hGA.fb)).trans hGA.fb
  have hne4 : ∀ k c t, wc.heap[k]? = some (.cells c t (0, 0)) → t ≠ 51 → D.v4.ownBlock ≠ some k := fun k c t hk ht e => by
    obtain ⟨c', hc'⟩ := h4ty k e
    exact ht (blk_type hk hc')
  have keep5 : ∀ k c t, wc.heap[k]? = some (.cells c t (0, 0)) → t ≠ 51 → k ≠ bw → (w4.setCell ⟨bw, 4, none⟩ v').heap[k]? = some (.cells c t (0, 0)) := fun k c t hk ht hb => by
    rw [Below.heap_setCell _ _ _ _ hb]
    exact (hgrow.block k (blk_lt hk) (fun e => hne4 k c t hk ht e.symm)).trans hk
  have hgb5 := keep5 gb _ _ hgB (by decide) (by omega)
  have hdb5 := keep5 db _ _ hdbc (by decide) (by omega)
  have hvb5 := keep5 vb _ _ hvB (by decide) (by omega)
  have hO5 : Only (fun k => k = bw ∨ D.v4.ownBlock = some k) w (w4.setCell ⟨bw, 4, none⟩ v') := by
    have hx : Only (fun k => k = bw ∨ D.v4.ownBlock = some k) w w4 := (Only.of_below hBc).grown hgrow (fun k hk => Or.inl (Or.inr hk))
    exact hx.setCell (p := ⟨bw, 4, none⟩) (Or.inl (Or.inl rfl)) v'
  have hgs := hgrow.size
  have hs45 : (w4.setCell ⟨bw, 4, none⟩ v').heap.size = w4.heap.size := by simp [World.setCell]
  have hZT : ∀ k, D.Z k → ¬ (k = bw ∨ D.v4.ownBlock = some k) := fun k hk h => by
    rcases h with h | h
    · have := (hD.zin k hk).1; omega
    · exact hD.n4 k h hk
  have s5 := hO5.size
  have hF5 := hF.step hO5 hZT
  refine ⟨hgb5, hF5.now.2.lo (Nat.zero_le _), fun w7 hb7 => ?_⟩
  have s7 := hb7.size
  -- the game's turn is told
  generalize hu : (Value.int .i64 ((openW (qFinish q0) kind ss).turn : Int)) = u
  have hO8 : Only (fun k => k = bw ∨ D.v4.ownBlock = some k) w (w7.setCell ⟨gb, 6, none⟩ u) := (hO5.trans (Only.of_below hb7)).setCell (p := ⟨gb, 6, none⟩) (Or.inr (by show w.heap.size ≤ gb; omega)) u
  have keep8 : ∀ k o, k ≠ gb → (w4.setCell ⟨bw, 4, none⟩ v').heap[k]? = some o → (w7.setCell ⟨gb, 6, none⟩ u).heap[k]? = some o := fun k o hk ho => (Below.heap_setCell _ _ _ _ hk).trans ((hb7.block _ (blk_lt ho)).trans ho)
  have hdg : db ≠ gb := fun e => by rw [e] at hdb5; exact absurd (blk_type hdb5 hgb5) (by decide)
  have hvg : vb ≠ gb := fun e => by rw [e] at hvb5; exact absurd (blk_type hvb5 hgb5) (by decide)
  have hbg : bw ≠ gb := by omega
  have hgb8 : (w7.setCell ⟨gb, 6, none⟩ u).heap[gb]? = some (.cells #[.pointer (some ⟨db, 0, none⟩), .pointer (some ⟨b1, 0, none⟩), .pointer (some ⟨b2, 0, none⟩), S D.proof, .int .i64 (kind : Int), .slice none 0 0, u, .slice (some ⟨vb, 0, none⟩) 8 8] 87 (0, 0)) := blk_set ((hb7.block _ (blk_lt hgb5)).trans hgb5) 6 u
  have hdb8 := keep8 db _ hdg hdb5
  have hvb8 := keep8 vb _ hvg hvb5
  have hv'bw : v'.ownBlock ≠ some bw := fun e => by have := (hown4.lt _ e).1; omega
  have hv'gb : v'.ownBlock ≠ some gb := fun e => by
    obtain ⟨c, hc⟩ := own_bk (own_set_ne hown4 (p := ⟨bw, 4, none⟩) hv'bw v') _ e
    exact absurd (blk_type hc hgb5) (by decide)
  have h48 := own_set_ne (own_below (own_set_ne hown4 (p := ⟨bw, 4, none⟩) hv'bw v') hb7) (p := ⟨gb, 6, none⟩) hv'gb u
  have hbw4 : D.v4.ownBlock ≠ some bw := fun e => by have := h4lt _ e; omega
  have hw5 : (w4.setCell ⟨bw, 4, none⟩ v').heap[bw]? = _ := blk_set ((hgrow.block bw (blk_lt hwc) (fun e => hbw4 e.symm)).trans hwc) 4 v'
  have hw8 := keep8 bw _ hbg hw5
  -- the rows of the new game
  have hrows := hGA.rows
  have hgz2 : ∀ k, GZ gv k → w.heap.size ≤ k ∧ k < w2.heap.size ∧ ∃ c t, w2.heap[k]? = some (.cells c t (0, 0)) ∧ (t = 111 ∨ t = 149 ∨ t = 3) := fun k hk => by
    rcases hk with h | h | ⟨j, hj, h⟩
    · obtain ⟨c, hc⟩ := own_bk hrows.oB k h
      exact ⟨hfr.1 k h, blk_lt hc, c, _, hc, Or.inl rfl⟩
    · obtain ⟨c, hc⟩ := own_bk hrows.oR k h
      exact ⟨hfr.2.1 k h, blk_lt hc, c, _, hc, Or.inr (Or.inl rfl)⟩
    · obtain ⟨c, hc⟩ := own_bk (hrows.row j (by have := hrows.len; omega)) k h
      exact ⟨hfr.2.2 j hj k h, blk_lt hc, c, _, hc, Or.inr (Or.inr rfl)⟩
  have hgzc : ∀ k, GZ gv k → ¬ (k = bw ∨ D.v4.ownBlock = some k) := fun k hk h => by
    have h1 := hgz2 k hk
    rcases h with h | h
    · omega
    · have := h4lt k h; omega
  have hO28 : Only (fun k => k = bw ∨ D.v4.ownBlock = some k) w2 (w7.setCell ⟨gb, 6, none⟩ u) := by
    have hx : Only (fun k => k = bw ∨ D.v4.ownBlock = some k) w2 w4 := (Only.of_below hb3).grown hgrow (fun k hk => Or.inl (Or.inr hk))
    exact ((hx.setCell (p := ⟨bw, 4, none⟩) (Or.inl (Or.inl rfl)) v').trans (Only.of_below hb7)).setCell (p := ⟨gb, 6, none⟩) (Or.inr hgb) u
  have hR8 : GRows (w7.setCell ⟨gb, 6, none⟩ u) (blW (qFinish q0) kind) (rulesW kind ss) gv := by
    have hl := hrows.len
    exact ⟨own_keep hrows.oB hO28 (fun k hk => hgzc k (Or.inl hk)), own_keep hrows.oR hO28 (fun k hk => hgzc k (Or.inr (Or.inl hk))), hrows.len, fun j hj => own_keep (hrows.row j hj) hO28 (fun k hk => hgzc k (Or.inr (Or.inr ⟨j, by omega, hk⟩)))⟩
  have hR8f : Firm (fun k => D.Z k ∨ GZ gv k) (fun w => GRows w (blW (qFinish q0) kind) (rulesW kind ss) gv) (w7.setCell ⟨gb, 6, none⟩ u) := firm_rows hR8 (fun k hk => Or.inr (Or.inl hk)) (fun k hk => Or.inr (Or.inr (Or.inl hk))) (fun j hj k hk => Or.inr (Or.inr (Or.inr ⟨j, hj, hk⟩)))
  have hF8 := (hF.step hO8 hZT).grow (Z' := fun k => D.Z k ∨ GZ gv k) (fun k hk => Or.inl hk)
  refine ⟨hD.push ⟨gb, db, b1, b2, st, q0, D.proof, kind, ss, [], bs, openW (qFinish q0) kind ss, gv, .slice none 0 0, vb, vals0⟩ v' (fun k => D.Z k ∨ GZ gv k) _ hO8 (fun k _ h => h) hw8 h48 (fun k hk => Or.inl hk) (fun k hk => ?_) (fun k hk h => ?_) ?_ (fun k hk => ?_), hO8.below (Nat.le_of_lt hbw) (fun k hk h => ?_)⟩
  · rcases hk with h | h
    · exact Or.inl h
    · have := hgz2 k h
      have : (w7.setCell ⟨gb, 6, none⟩ u).heap.size = w7.heap.size := by simp [World.setCell]
      exact Or.inr ⟨by omega, by omega⟩
  · rcases h with h | h
    · rcases hat with e | ⟨j, e, hj⟩
      · rw [e] at hk; exact hD.n4 k hk h
      · rw [e] at hk; injection hk with hk; subst hk
        have := (hD.zin _ h).2; omega
    · have h1 := hgz2 k h
      rcases hat with e | ⟨j, e, hj⟩
      · rw [e] at hk; have := h4lt k hk; omega
      · rw [e] at hk; injection hk with hk; subst hk; omega
  · refine ⟨?_, hdb8, fun T w' ho hT => ⟨(hF8 T w' ho hT).1.lo (Nat.zero_le _), (hF8 T w' ho hT).2.lo (Nat.zero_le _), hR8f T w' ho hT⟩, World.ownsRow_nil _ _ _ _, hvb8, fun e => (by cases e), hpure⟩
    rw [hgb8, ← hu]
  · have hk' : k = gb ∨ k = db ∨ k = vb ∨ (Value.slice none 0 0).ownBlock = some k := hk
    have hnz : ∀ k, w.heap.size ≤ k → ¬ GZ gv k → ¬ (D.Z k ∨ GZ gv k) := fun k h1 h2 h => by
      rcases h with h | h
      · have := (hD.zin k h).2; omega
      · exact h2 h
    rcases hk' with rfl | rfl | rfl | h
    · exact ⟨by omega, hnz k (by omega) (fun h => by have := hgz2 k h; omega)⟩
    · refine ⟨hdb, hnz k hdb (fun h => ?_)⟩
      obtain ⟨_, _, c, t', hc, ht⟩ := hgz2 k h
      have e := blk_type hc hGA.fb
      rcases ht with h1 | h1 | h1 <;> (rw [h1] at e; exact absurd e (by decide))
    · exact ⟨by omega, hnz k (by omega) (fun h => by have := hgz2 k h; omega)⟩
    · cases h
  · rcases h with h | h
    · omega
    · have := h4lt k h; omega
set_option maxRecDepth 100000 in
set_option maxHeartbeats 3200000 in
theorem opens_none (bw b1 b2 : Nat) (st : RS) (q0 : QS) (D : DW) (ask : Bool) (x i : Nat) (w : World) (hD : DInv bw w D) (hpx : D.px = some ⟨b1, 0, none⟩) (hpf : D.pf = some ⟨b2, 0, none⟩) (hPr : Pair st q0) (hP : ProgAt (bw + 1) w b1 (qFinish q0)) (hR : RefAt (bw + 1) w b2 (finish st)) (hpr : provesR (finish st) D.proof = .inl (x, i)) :
    Calls Tryz.prog 34 #[.pointer (some ⟨bw, 0, none⟩), .bool ask] w fun e w' => StepD bw D 0 w e w' := by
  have hce := check_eq hPr.fq hPr.fo D.proof
  rw [hpr] at hce
  have hx := provesR_pos _ _ _ _ hpr
  have HRQ : Hid (readQ (qFinish q0) D.proof = .inl (x, i)) := hide (readQ_inl hce hx)
  have HPR := hide hpr
  have hw := hD.wat
  rw [hpx, hpf] at hw
  have hbw : bw < w.heap.size := blk_lt hw
  have k1 : w.cell? ⟨bw, 1, none⟩ = some (.pointer (some ⟨b1, 0, none⟩)) := by rw [blk_cell hw]; rfl
  have k3 : w.cell? ⟨bw, 3, none⟩ = some (S D.proof) := by rw [blk_cell hw]; rfl
  have HD : Hid (∀ w', Below w.heap.size w w' → StepD bw D 0 w (.returned (.bool true)) w') := hide (fun w' h => StepD.quiet (h.mono (Nat.le_of_lt hbw)) (hD.later h) rfl rfl (by omega) rfl rfl)
  clear hce hpr
  go_enter Tryz.func34, Tryz.ntmps34
  go_wp2_with fail
  go_region_with (go_at_call 18; refine (dopen_any (bw + 1) b1 (qFinish q0) D.proof _ (hP.later (Below.refl _ w).drew) hPr.qb).mono ?_; rintro e w1 ⟨hb1, hp⟩; rw [unhide HRQ] at hp; have hp1 : e = .returned (.tuple #[.pointer none, .int .i64 (x : Int), .int .i64 (i : Int)]) := hp; subst hp1; clear hp; have hB1 : Below w.heap.size w w1 := (Below.refl _ w).drew.trans hb1)
  all_goals
    have hw1 := hw.later hB1
    have j2 : w1.cell? ⟨bw, 2, none⟩ = some (.pointer (some ⟨b2, 0, none⟩)) := by rw [blk_cell hw1]; rfl
    have j3 : w1.cell? ⟨bw, 3, none⟩ = some (S D.proof) := by rw [blk_cell hw1]; rfl
    have hbw1 := blk_lt hw1
    have hR1 := hR.later hB1
    go_wp2_with fail
    go_region_with (go_at_call 57; refine (proves_any (bw + 1) b2 (finish st) D.proof _ (hR1.later (Below.refl _ w1).drew) hPr.fw).mono ?_; rintro e w2 ⟨hb2, hp⟩; rw [unhide HPR] at hp; have hp2 : e = .returned (.tuple #[.int .i64 0, .int .i64 (x : Int), .int .i64 (i : Int), .int .i64 0]) := hp; subst hp2; clear hp; have hB2 : Below w.heap.size w w2 := hB1.trans (((Below.refl _ w1).drew.trans hb2).mono hB1.size))
    all_goals
      have hxb : ((x : Int) != 0) = true := by rw [bne_iff_ne]; omega
      have hx1 : ((x : Int) != (x : Int)) = false := by simp
      have hi1 : ((i : Int) != (i : Int)) = false := by simp
      go_wp2_with fail
      go_ret
      exact unhide HD w2 hB2

end Go.Proofs.YtgipjjhkhfihpaaGreatDoor

namespace Go.Proofs.YtgipjjhkhfihpaaGreatDoor
open Go.RowKit

set_option maxRecDepth 100000 in
set_option maxHeartbeats 6400000 in
theorem opens_game (bw b1 b2 : Nat) (st : RS) (q0 : QS) (D : DW) (ask : Bool) (truth : Bool) (two kind : Nat) (w : World) (hD : DInv bw w D) (hpx : D.px = some ⟨b1, 0, none⟩) (hpf : D.pf = some ⟨b2, 0, none⟩) (hPr : Pair st q0) (hF : Firm D.Z (fun w => ProgAt (bw + 1) w b1 (qFinish q0) ∧ RefAt (bw + 1) w b2 (finish st)) w) (hpr : provesR (finish st) D.proof = .inr (truth, two)) (hkd : kind = kd truth) (hn5 : D.h5s.length ≤ 1073741824) (hn4 : D.gs.length ≤ 1073741824) :
    Calls Tryz.prog 34 #[.pointer (some ⟨bw, 0, none⟩), .bool ask] w fun e w' => StepD bw D 0 w e w' := by
  have hce := check_eq hPr.fq hPr.fo D.proof
  rw [hpr] at hce
  have hk12 : kind = 1 ∨ kind = 2 := by subst hkd; cases truth <;> simp [kd]
  have hce2 : checkQ (qFinish q0) D.proof = (kind, 0, 0) := by subst hkd; cases truth <;> exact hce
  obtain ⟨ls, hrq⟩ := readQ_inr hce2 (by omega)
  have HPR : Hid (∀ w w' e, ProvesPost (finish st) D.proof w e w' → Below w.heap.size w w' ∧ e = .returned (.tuple #[.int .i64 (kind : Int), .int .i64 0, .int .i64 0, .int .i64 (two : Int)])) := hide (fun w w' e h => by
    obtain ⟨h1, h2⟩ := h
    rw [hpr] at h2
    subst hkd
    cases truth <;> exact ⟨h1, h2⟩)
  have HRQ := hide hrq
  have hP := hF.now.1
  have hR := hF.now.2
  have hw := hD.wat
  rw [hpx, hpf] at hw
  have hbw : bw < w.heap.size := blk_lt hw
  have k1 : w.cell? ⟨bw, 1, none⟩ = some (.pointer (some ⟨b1, 0, none⟩)) := by rw [blk_cell hw]; rfl
  have k3 : w.cell? ⟨bw, 3, none⟩ = some (S D.proof) := by rw [blk_cell hw]; rfl
  obtain ⟨i1, hi1, hz10, hz11, hz12⟩ := info_parts infoGame
  obtain ⟨a4, c4, h4f⟩ := own_form hD.o4
  have hmk : ∀ w : World, (Instr.makeSlice 25 (.int .i64 8) (.int .i64 8)).run Tryz.prog w = .ok (.slice (some ⟨w.heap.size, 0, none⟩) 8 8) (w.alloc (.cells #[.int .i64 0, .int .i64 0, .int .i64 0, .int .i64 0, .int .i64 0, .int .i64 0, .int .i64 0, .int .i64 0] 3)) := fun _ => by kernel_rfl
  clear hce hce2 hpr hrq hkd
  go_enter Tryz.func34, Tryz.ntmps34
  go_wp2_with fail
  go_region_with (go_at_call 18; refine (dopen_any (bw + 1) b1 (qFinish q0) D.proof _ (hP.later (Below.refl _ w).drew) hPr.qb).mono ?_; rintro e w1 ⟨hb1, hp⟩; rw [unhide HRQ] at hp; obtain ⟨ss, db, gv, hls, htg, hsb, rfl, hGA, hdb, hfr⟩ := hp; have hB1 : Below w.heap.size w w1 := (Below.refl _ w).drew.trans hb1)
  all_goals
    have hw1 := hw.later hB1
    have j2 : w1.cell? ⟨bw, 2, none⟩ = some (.pointer (some ⟨b2, 0, none⟩)) := by rw [blk_cell hw1]; rfl
    have j3 : w1.cell? ⟨bw, 3, none⟩ = some (S D.proof) := by rw [blk_cell hw1]; rfl
    have hbw1 := blk_lt hw1
    have hR1 := hR.later hB1
    go_wp2_with fail
    go_region_with (go_at_call 57; refine (proves_any (bw + 1) b2 (finish st) D.proof _ (hR1.later (Below.refl _ w1).drew) hPr.fw).mono ?_; intro e w2 hp; obtain ⟨hb2', rfl⟩ := unhide HPR _ _ _ hp; clear hp; have hb2 : Below w1.heap.size w1 w2 := (Below.refl _ w1).drew.trans hb2')
    all_goals
      have hB2 : Below w.heap.size w w2 := hB1.trans (hb2.mono hB1.size)
      have hw2 := hw.later hB2
      have j1 : w2.cell? ⟨bw, 1, none⟩ = some (.pointer (some ⟨b1, 0, none⟩)) := by rw [blk_cell hw2]; rfl
      have m2 : w2.cell? ⟨bw, 2, none⟩ = some (.pointer (some ⟨b2, 0, none⟩)) := by rw [blk_cell hw2]; rfl
      have m3 : w2.cell? ⟨bw, 3, none⟩ = some (S D.proof) := by rw [blk_cell hw2]; rfl
      have hbw2 := blk_lt hw2
      have hGA2 := hGA.later hb2
      clear j2 j3 hw1 hR1
      go_wp2_with fail
      go_cut [12] (fun s12 wx => ∃ gb vb, s12 = .pointer (some ⟨gb, 0, none⟩) ∧ w2.heap.size ≤ gb ∧ w2.heap.size ≤ vb ∧ Below w2.heap.size w2 wx ∧ wx.heap[gb]? = some (.cells #[.pointer (some ⟨db, 0, none⟩), .pointer (some ⟨b1, 0, none⟩), .pointer (some ⟨b2, 0, none⟩), S D.proof, .int .i64 (kind : Int), .slice none 0 0, .int .i64 0, .slice (some ⟨vb, 0, none⟩) 8 8] 87 (0, 0)) ∧ wx.heap[vb]? = some (.cells #[.int .i64 0, .int .i64 0, .int .i64 0, .int .i64 0, .int .i64 0, .int .i64 0, .int .i64 0, .int .i64 0] 3 (0, 0)))
      case first =>
        clear hD hF HPR HRQ hP hR hGA hGA2 hB1 hb1 hb2 hb2' hw htg hsb hfr hls hPr hi1 hz10 hz11 hz12 h4f k1 k3 hw2
        go_region
        all_goals
          go_wp2_with fail
          go_meet
          exact ⟨w2.heap.size + 1, w2.heap.size, rfl, Nat.le_succ _, Nat.le_refl _, ((((Below.refl _ _).alloc (Nat.le_refl _) _).alloc (by simp) _)).drew, alloc_new_at (by simp), (heap_alloc_old _ _ (by simp)).trans (heap_alloc_new _ _)⟩
      case rest =>
      obtain ⟨gb, vb, rfl, hgb, hvb, hb3, hgB, hvB⟩ := hcut
      have hB3 : Below w.heap.size w wc := hB2.trans (hb3.mono hB2.size)
      have hwc := hw.later hB3
      have lbw := blk_lt hwc
      have n4 : wc.cell? ⟨bw, 4, none⟩ = some (.slice a4 D.gs.length c4) := by rw [blk_cell hwc]; exact congrArg some h4f
      have ho4 := own_below hD.o4 hB3
      obtain ⟨bs, hpure, hnx⟩ := open_pure hPr (by rw [hls]; exact unhide HRQ) htg hsb gb db b1 b2 vb gv
      have HTL : Hid (∀ w4 v', w4.ownsRow (bw + 1) 51 1 v' (D.gs.length + 1) (D.gs.map gptr ++ [.pointer (some ⟨gb, 0, none⟩)]) → wc.grownBy w4 (Value.slice a4 D.gs.length c4).ownBlock → (v'.ownBlock = (Value.slice a4 D.gs.length c4).ownBlock ∨ ∃ k, v'.ownBlock = some k ∧ wc.heap.size ≤ k) →
        (w4.setCell ⟨bw, 4, none⟩ v').heap[gb]? = some (.cells #[.pointer (some ⟨db, 0, none⟩), .pointer (some ⟨b1, 0, none⟩), .pointer (some ⟨b2, 0, none⟩), S D.proof, .int .i64 (kind : Int), .slice none 0 0, .int .i64 0, .slice (some ⟨vb, 0, none⟩) 8 8] 87 (0, 0)) ∧ RefAt 0 (w4.setCell ⟨bw, 4, none⟩ v') b2 (finish st) ∧
        ∀ w7, Below (w4.setCell ⟨bw, 4, none⟩ v').heap.size (w4.setCell ⟨bw, 4, none⟩ v') w7 →
          DInv bw (w7.setCell ⟨gb, 6, none⟩ (.int .i64 ((openW (qFinish q0) kind ss).turn : Int))) { D with v4 := v', gs := D.gs ++ [⟨gb, db, b1, b2, st, q0, D.proof, kind, ss, [], bs, openW (qFinish q0) kind ss, gv, .slice none 0 0, vb, vals0⟩], Z := fun k => D.Z k ∨ GZ gv k } ∧ Below bw w (w7.setCell ⟨gb, 6, none⟩ (.int .i64 ((openW (qFinish q0) kind ss).turn : Int)))) := hide (fun w4 v' h1 h2 h3 => opens_tail hD hF hB2 hGA2 hdb hfr hb3 hgb hvb hgB hvB h1 (by rw [h4f]; exact h2) (by rw [h4f]; exact h3) hpure)
      have HNX := hide hnx
      have HO4 : Hid (wc.ownsRow (bw + 1) 51 1 (.slice a4 D.gs.length c4) D.gs.length (D.gs.map gptr)) := hide (by rw [← h4f]; exact ho4)
      have HWC := hide hwc
      have H4F := hide h4f
      have hbs : bw + 1 ≤ wc.heap.size := lbw
      have h4b : (Value.slice a4 D.gs.length c4).ownBlock ≠ some bw := fun e => by have := ((unhide HO4).lt _ e).1; omega
      have H4B := hide h4b
      have hnb := blocks_le (qFinish q0).vars (vars_le hPr.nice)
      have HPRR := hide hPr
      clear hD hF HPR HRQ hP hR hGA hGA2 hB1 hb1 hb2 hb2' hB2 hB3 hw htg hsb hfr hls hPr h4f k1 k3 hw2 hwc ho4 hpure hnx hgB hvB hb3 hgb hvb hdb j1 m2 m3 h4b hmk
      go_wp2_with (at_builtin; refine wpList_append_at rfl (.tmp 79) (.tmp 81) 44 rfl (bw + 1) i1 (.pointer none) 1 8 Tryz.underlying44 hi1 hz10 hz11 hz12 rfl (by decide) _ _ _ (unhide HO4) rfl rfl rfl (by simp [Value.oneCell']) (by unfold maxLen; omega) (by omega) hbs ?_; intro v' w4 hown4 hgrow hat; have hw4 := (hgrow.block bw lbw (fun e => unhide H4B e.symm)).trans (unhide HWC); have hq4 : w4.cell? ⟨bw, 4, none⟩ = some (.slice a4 D.gs.length c4) := (by rw [blk_cell hw4]; exact congrArg some (unhide H4F)); have hqz := blk_free hw4 4; have lb4 := blk_lt hw4; have HT2 := hide (unhide HTL w4 v' hown4 hgrow hat); obtain ⟨a5, c5, rfl⟩ := own_form hown4)
      obtain ⟨hgb5, hR5, hfin⟩ := unhide HT2
      have HFIN := hide hfin
      clear hfin HT2 HTL hown4 hgrow hat hw4 hq4 hqz HO4 HWC H4F H4B
      generalize w4.setCell ⟨bw, 4, none⟩ (.slice a5 (D.gs.length + 1) c5) = w5 at *
      have lg5 := blk_lt hgb5
      refine (next_any (k := 0) (unhide HPRR) hgb5 rfl rfl hR5 hk12 (Nat.zero_le _)).mono ?_
      rintro e w7 ⟨rfl, hb7⟩
      have hgb7 := (hb7.block _ lg5).trans hgb5
      have c76 : w7.cell? ⟨gb, 6, none⟩ = some (.int .i64 0) := by rw [blk_cell hgb7]; rfl
      have z76 := blk_free hgb7 6
      have lg7 := blk_lt hgb7
      rw [unhide HNX]
      obtain ⟨hD8, hB8⟩ := unhide HFIN w7 hb7
      have HD8 := hide hD8
      have HB8 := hide hB8
      clear hD8 hB8 HFIN HNX
      generalize (openW (qFinish q0) kind ss).turn = tn at *
      cases ask with
      | true =>
        go_wp2_with fail
        refine (stands_p bw D.gs.length gb _ _ (unhide HD8) (by simp) (by simp) hn5).mono ?_
        intro e w9 hs
        obtain ⟨rfl, hfin⟩ := StepD.fin (D := D) (D2 := { D with v4 := .slice a5 (D.gs.length + 1) c5, gs := D.gs ++ [⟨gb, db, b1, b2, st, q0, D.proof, kind, ss, [], bs, openW (qFinish q0) kind ss, gv, .slice none 0 0, vb, vals0⟩], Z := fun k => D.Z k ∨ GZ gv k }) (unhide HB8) rfl rfl (by simp) rfl rfl hs
        clear hs
        go_wp2_with fail
        go_ret
        exact hfin
      | false =>
        go_wp2_with fail
        go_ret
        exact StepD.quiet (unhide HB8) (unhide HD8) rfl rfl (by simp) rfl rfl
end Go.Proofs.YtgipjjhkhfihpaaGreatDoor

namespace Go.Proofs.YtgipjjhkhfihpaaGreatDoor
open Go.RowKit

set_option maxRecDepth 100000 in
set_option maxHeartbeats 3200000 in
theorem step_open (bw : Nat) (D : DW) (o : OpV) (w : World) (hD : DInv bw w D) (hk : o.kind = 7) (hn4 : D.gs.length ≤ 1048576) (hn5 : D.h5s.length ≤ 1073741824) :
    Calls Tryz.prog 19 #[.pointer (some ⟨bw, 0, none⟩), .agg #[.int .i64 o.kind, .int .i64 o.a, .int .i64 o.b, .int .i64 o.c, S o.s, S o.t]] w fun e w' => StepD bw D (o.s.length + 1) w e w' := by
  have hbw := blk_lt hD.wat
  obtain ⟨kind, a, b, c, s, t⟩ := o
  dsimp only at hk ⊢
  subst hk
  have h1 : w.cell? ⟨bw, 1, none⟩ = some (.pointer D.px) := by rw [blk_cell hD.wat]; rfl
  have hbel : Below w.heap.size w (w.alloc (.cells #[.int .i64 7, .int .i64 a, .int .i64 b, .int .i64 c, S s, S t] 29)) := (Below.refl _ _).alloc (Nat.le_refl _) _
  have hDA := hD.later hbel
  have HFIN : Hid (∀ e w2, StepD bw D 0 (w.alloc (.cells #[.int .i64 7, .int .i64 a, .int .i64 b, .int .i64 c, S s, S t] 29)) e w2 → e = .returned (.bool true) ∧ StepD bw D (s.length + 1) w (.returned (.bool true)) w2) := hide (fun e w2 h => by
    have he := h.ret
    subst he
    exact ⟨rfl, (h.after (hbel.mono (Nat.le_of_lt hbw))).more (by omega)⟩)
  rcases hDA.form with ⟨hpx, hpf⟩ | ⟨b1, b2, st, q0, hpx, hpf, hF, hSm, h24, hN, _⟩
  · rw [hpx] at h1
    have HQ : Hid (StepD bw D (s.length + 1) w (.returned (.bool true)) (w.alloc (.cells #[.int .i64 7, .int .i64 a, .int .i64 b, .int .i64 c, S s, S t] 29))) := hide ((StepD.quiet (hbel.mono (Nat.le_of_lt hbw)) hDA rfl rfl (by omega) rfl rfl).more (by omega))
    go_enter Tryz.func19, Tryz.ntmps19
    go_wp2_with fail
    go_ret
    exact unhide HQ
  · rw [hpx] at h1
    have hPr : Pair st q0 := ⟨hSm, h24, hN⟩
    have HOP : Hid (∀ ask, Calls Tryz.prog 34 #[.pointer (some ⟨bw, 0, none⟩), .bool ask] (w.alloc (.cells #[.int .i64 7, .int .i64 a, .int .i64 b, .int .i64 c, S s, S t] 29)) fun e w' => StepD bw D 0 (w.alloc (.cells #[.int .i64 7, .int .i64 a, .int .i64 b, .int .i64 c, S s, S t] 29)) e w') := hide (fun ask => by
      cases hpr : provesR (finish st) D.proof with
      | inl xi => exact opens_none bw b1 b2 st q0 D ask xi.1 xi.2 _ hDA hpx hpf hPr hF.now.1 hF.now.2 hpr
      | inr tt => exact opens_game bw b1 b2 st q0 D ask tt.1 tt.2 _ _ hDA hpx hpf hPr hF hpr rfl hn5 (by omega))
    clear hDA hF hSm h24 hN hPr hD hbel
    go_enter Tryz.func19, Tryz.ntmps19
    go_wp2_with fail
    refine (unhide HOP _).mono ?_
    intro e w2 hs
    obtain ⟨rfl, hfin⟩ := unhide HFIN _ _ hs
    clear hs
    go_wp2_with fail
    go_ret
    exact hfin

/-! ### upTo, whatever the steps -/
/-- A kind whose steps keep the law's world. -/
def StepsD (R : World → Prop) (P : Int → Bool) : Prop := ∀ (bw : Nat) (D : DW) (o : OpV) (w : World), R w → DInv bw w D → P o.kind = true → o.Ok → D.proof.length ≤ 1048576 → D.text.length ≤ 1048576 → o.s.length ≤ 1048576 → D.gs.length ≤ 1048576 → D.h5s.length ≤ 1048576000 → D.h6s.length ≤ 1073741823 →
  Calls Tryz.prog 19 #[.pointer (some ⟨bw, 0, none⟩), .agg #[.int .i64 o.kind, .int .i64 o.a, .int .i64 o.b, .int .i64 o.c, S o.s, S o.t]] w fun e w' => StepD bw D (o.s.length + 1) w e w'
theorem dinv_start (w : World) : DInv w.heap.size (w.alloc (.cells #[S [], .pointer none, .pointer none, S [], .slice none 0 0, .slice none 0 0, .slice none 0 0] 48)) ⟨[], [], none, none, .slice none 0 0, .slice none 0 0, .slice none 0 0, [], [], [], fun _ => False⟩ :=
  ⟨heap_alloc_new _ _, World.ownsRow_nil _ _ _ _, World.ownsRow_nil _ _ _ _, World.ownsRow_nil _ _ _ _, (fun k h => h.elim), Or.inl ⟨rfl, rfl⟩, (fun _ _ _ _ i hi => by simp at hi), (fun _ _ _ _ i hi => by simp at hi), (fun k h => by cases h), (fun k h => by cases h), (fun k h => by cases h), (fun G h => by simp at h), (fun G h => by simp at h), (fun i j hi => by simp at hi)⟩
set_option maxRecDepth 100000 in
set_option maxHeartbeats 3200000 in
theorem upTo_d (R : World → Prop) (P : Int → Bool) (hst : StepsD R P) (base : Nat) (ops : List OpV) (v : Value) (w : World) (hown : w.ownsRow base 29 6 v ops.length (opCells ops)) (hall : ∀ o ∈ ops, P o.kind = true ∧ o.Ok) (hsz : sizeTo ops ops.length ≤ 524288) (hln : ops.length ≤ 524288) (hR : ∀ wx, Below w.heap.size w wx → R wx) :
    Calls Tryz.prog 14 #[v] w fun e w' => e = .returned (.int .i64 (-1)) ∧ Below w.heap.size w w' := by
  obtain ⟨aS, cS, rfl⟩ := own_form hown
  have HRX := hide hR; clear hR
  have HALL := hide hall; clear hall
  have HST := hide hst; clear hst
  go_enter Tryz.func14, Tryz.ntmps14
  go_wp2_with fail
  go_loopg [4] (ops.length) (fun n i wx => ∃ (k : Nat) (D : DW), i = .int .i64 k ∧ k + n = ops.length ∧ DInv w.heap.size wx D ∧ D.text.length ≤ sizeTo ops k ∧ D.proof.length ≤ 262144 + sizeTo ops k ∧ Below w.heap.size w wx ∧ D.gs.length ≤ k ∧ D.h5s.length ≤ 8 * k ∧ D.h6s.length ≤ k)
  case atStart => exact ⟨0, _, rfl, by omega, dinv_start w, by simp, by simp, (Below.refl _ _).alloc (Nat.le_refl _) _, by simp, by simp, by simp⟩
  case round =>
    obtain ⟨k, D, rfl, hk, hD, htl, hpl, hb, hl4, hl5, hl6⟩ := hrel
    by_cases hlt : k < ops.length
    · obtain ⟨g, cap, hV, hg, hg', _, hcell⟩ := own_pos hown (by omega)
      injection hV with hV _ hV2
      subst hV hV2
      have hc : ∀ j (hj : j < 6) u, ops[k].cells[j]? = some u → wr.cell? ⟨g, k * 6 + j, none⟩ = some u := fun j hj u hu => by
        rw [hb.cell (p := ⟨g, k * 6 + j, none⟩) hg']
        exact hcell _ _ (by rw [opCells_at ops k j hlt hj]; exact hu)
      have hc0 : wr.cell? ⟨g, k * 6, none⟩ = some (.int .i64 ops[k].kind) := hc 0 (by omega) _ rfl
      have hc1 : wr.cell? ⟨g, k * 6 + 1, none⟩ = some (.int .i64 ops[k].a) := hc 1 (by omega) _ rfl
      have hc2 : wr.cell? ⟨g, k * 6 + 2, none⟩ = some (.int .i64 ops[k].b) := hc 2 (by omega) _ rfl
      have hc3 : wr.cell? ⟨g, k * 6 + 3, none⟩ = some (.int .i64 ops[k].c) := hc 3 (by omega) _ rfl
      have hc4 : wr.cell? ⟨g, k * 6 + 4, none⟩ = some (S ops[k].s) := hc 4 (by omega) _ rfl
      have hc5 : wr.cell? ⟨g, k * 6 + 5, none⟩ = some (S ops[k].t) := hc 5 (by omega) _ rfl
      obtain ⟨hbase, hok⟩ := unhide HALL _ (List.getElem_mem hlt)
      have hss := sizeTo_succ ops k hlt
      have hsl := sizeTo_le ops (k + 1) (by omega)
      have hl1 : ops[k].s.length ≤ 1048576 := by omega
      have HSS := hide hss
      have hsk : sizeTo ops k ≤ 524288 := by omega
      have HB := hide hbase
      have hmx : max D.proof.length 262144 ≤ 262144 + sizeTo ops k := by omega
      clear hc hcell hss hbase
      generalize ops[k] = o at *
      go_wp2_with fail
      refine (unhide HST w.heap.size D o wr (unhide HRX wr hb) hD (unhide HB) hok (by omega) (by omega) hl1 (by omega) (by omega) (by omega)).mono ?_
      intro e w2 hp
      obtain ⟨rfl, hbel, D', hD', ht2, hp2, hg2, h52, h62⟩ := hp
      have hb2 : Below w.heap.size w w2 := hb.trans hbel
      go_wp2_with fail
      refine (looks_any w.heap.size D'.text D'.px D'.pf D'.proof _ D'.v5 D'.v6 D'.h5s D'.h6s (w.heap.size + 1) (w.heap.size + 1) w2 hD'.wat hD'.o5 hD'.o6 hD'.ls.now hD'.lss.now (by omega) (by omega)).mono ?_
      rintro e w3 ⟨rfl, hw3⟩
      subst hw3
      go_wp2_with fail
      go_roundg (gk - 1)
      case measure => omega
      case rel =>
        have := unhide HSS
        exact ⟨k + 1, D', by go_num, by omega, hD', by omega, by omega, hb2, by omega, by omega, by omega⟩
    · have hkl : k = ops.length := by omega
      subst hkl
      obtain ⟨wo, rfl⟩ : ∃ wo, wo = wr := ⟨_, rfl⟩
      obtain ⟨n4, hn4⟩ : ∃ n, D.gs.length = n := ⟨_, rfl⟩
      have HN4 := hide hn4
      obtain ⟨a4, c4, hf, h4⟩ := hD.v4f
      rw [hn4] at h4 hl4
      clear hn4
      go_wp2_with fail
      go_loopg [6] n4 (fun m i wx => ∃ (j : Nat) (D : DW), i = .int .i64 j ∧ j + m = n4 ∧ D.gs.length = n4 ∧ DInv w.heap.size wx D ∧ D.h5s.length ≤ 8 * ops.length + j ∧ Below w.heap.size w wx)
      case atStart => exact ⟨0, D, rfl, by omega, unhide HN4, hD, by omega, hb⟩
      case round =>
        obtain ⟨j, E, rfl, hj, hEn, hE, hE5, hbe⟩ := hrel
        have HEN := hide hEn
        obtain ⟨a5, c5, hf5, h45⟩ := hE.v4f
        rw [hEn] at h45
        have lbw := blk_lt hE.wat
        by_cases hjl : j < n4
        · have hjE : j < E.gs.length := by omega
          obtain ⟨g, rfl, hg, hcell⟩ := hE.gat hf5 hjE
          clear hEn hf5
          go_wp2_with fail
          refine (stands_p w.heap.size j _ E wr hE hjE rfl (by omega)).mono ?_
          intro e w2 hs
          obtain ⟨rfl, hb2, D', hD', e1, e2, e3, e4, e5, _⟩ := told_at hs hjE
          clear hs
          have hB2 := hbe.trans hb2
          have HE3 : Hid (D'.gs.length = n4) := hide (by rw [e3]; exact unhide HEN)
          have h5' : D'.h5s.length ≤ 8 * ops.length + (j + 1) := by omega
          clear e1 e2 e3 e4 e5
          go_wp2_with fail
          go_roundg (gk - 1)
          case measure => omega
          case rel => exact ⟨j + 1, D', by go_num, by omega, unhide HE3, hD', h5', hB2⟩
        · have hje : j = n4 := by omega
          clear hEn hf5
          subst hje
          go_wp2_with fail
          go_ret
          exact ⟨rfl, hbe⟩

/-! ### Duels -/
def duelK (k : Int) : Bool := base4 k || game3 k || k == 7
theorem stepsD_duels : StepsD (fun _ => True) duelK := by
  intro bw D o w _ hD hk hok hpl htl hsl hn4 hn5 hn6
  unfold duelK at hk
  simp only [Bool.or_eq_true] at hk
  rcases hk with (hk | hk) | hk
  · exact stepD_base bw D o w hD hk hok hpl htl hsl
  · by_cases h0 : D.gs = []
    · exact step_nogame bw D o w hD hk h0
    · exact step_game bw D o w hD hk (List.length_pos_iff.2 h0) hok hn4 (by omega)
  · exact step_open bw D o w hD (by simpa using hk) hn4 (by omega)
theorem kinds_duels (k : Int) (h : inB [7, 8, 9, 11] k = true) : duelK k = true := by
  unfold inB at h
  unfold duelK game3
  simp only [Bool.or_eq_true, List.any_cons, List.any_nil, beq_iff_eq] at h ⊢
  rcases h with h | h | h | h | h | h
  · exact Or.inl (Or.inl h)
  · exact Or.inr h.symm
  · exact Or.inl (Or.inr (Or.inl (Or.inl h.symm)))
  · exact Or.inl (Or.inr (Or.inl (Or.inr h.symm)))
  · exact Or.inl (Or.inr (Or.inr h.symm))
  · cases h
set_option maxRecDepth 100000 in
set_option maxHeartbeats 800000 in
theorem duels_law (ops : List OpV) (ao : Option Addr) (cap : Nat) (w : World) (hs : ScriptAt w ao ops) (hsz : Sized ops) (hln : ops.length ≤ 140737488355328) (hok : ∀ o ∈ ops, o.Ok) :
    Calls Tryz.prog 7 #[.slice ao ops.length cap] w fun e w' => e = .returned (.bool true) ∧ Below w.heap.size w w' := by
  have HOK := hide hok; clear hok
  have HU : Hid (∀ (base : Nat) (v : Value) (w' : World), smallB ops = true → w'.ownsRow base 29 6 v (ops.filter (fun o => inB [7, 8, 9, 11] o.kind)).length (opCells (ops.filter (fun o => inB [7, 8, 9, 11] o.kind))) → Calls Tryz.prog 14 #[v] w' fun e w'' => e = .returned (.int .i64 (-1)) ∧ Below w'.heap.size w' w'') := hide (by
    intro base v w' hsm hown
    have h1 : totTo ops ops.length ≤ 524288 := of_decide_eq_true hsm
    have h2 := filter_sizes (fun o => inB [7, 8, 9, 11] o.kind) ops
    have h3 : (ops.filter (fun o => inB [7, 8, 9, 11] o.kind)).length ≤ ops.length := List.length_filter_le _ _
    have h4 := totTo_le ops 0 (by omega)
    rw [totTo_zero] at h4
    refine upTo_d (fun _ => True) duelK stepsD_duels base _ v w' hown ?_ (by omega) (by omega) (fun _ _ => trivial)
    intro o ho
    rw [List.mem_filter] at ho
    exact ⟨kinds_duels _ ho.2, unhide HOK o ho.1⟩)
  go_enter Tryz.func7, Tryz.ntmps7
  go_wp2_with fail
  have hbel : Below w.heap.size w (w.alloc (.cells #[.int .i64 7, .int .i64 8, .int .i64 9, .int .i64 11] 3)) := (Below.refl _ _).alloc (Nat.le_refl _) _
  have hs' : ScriptAt (w.alloc (.cells #[.int .i64 7, .int .i64 8, .int .i64 9, .int .i64 11] 3)) ao ops := by
    intro hne
    obtain ⟨b, off, h1, h2, h3⟩ := hs hne
    exact ⟨b, off, h1, Nat.lt_of_lt_of_le h2 hbel.size, fun k hk j hj u hu => by rw [hbel.cell (p := ⟨b, off + (k * 6 + j), none⟩) h2]; exact h3 k hk j hj u hu⟩
  refine (plays_any ops ao cap [7, 8, 9, 11] (some ⟨w.heap.size, 0, none⟩) 4 _ hs' (fun _ => ⟨w.heap.size, 0, rfl, by simp, fun j hj => by
    have hj4 : j < 4 := by simpa using hj
    rw [blk_cell (heap_alloc_new w _)]
    match j, hj4 with
    | 0, _ => rfl
    | 1, _ => rfl
    | 2, _ => rfl
    | 3, _ => rfl⟩) hsz hln (by simp) HU).mono ?_
  rintro e w1 ⟨rfl, hb⟩
  go_wp2_with fail
  go_ret
  exact ⟨rfl, below_trans hbel hb⟩
end Go.Proofs.YtgipjjhkhfihpaaGreatDoor

namespace Go.Proofs.YtgipjjhkhfihpaaGreatDoor
open Go.ChangeShapes Go.WideShapes Go.ChangeAt Go.RowKit Go.Deep

set_option maxHeartbeats 1600000 in
set_option maxRecDepth 100000 in
theorem duels_lifted (os : Os) (started : os.Started) (H : Type) (enc : TypeId × Value → H) (F : Stop.Interp) :
    ReturnsInHanded {} Tryz.checked os 7 .any ((OpenSpec.ofChange Rows.duelsSpec).preRow enc Tryz.prog Tryz.f7 Rows.duelsRow.domain false Rows.duelsRow.laid) (((OpenSpec.ofChange Rows.duelsSpec).at F).post enc Tryz.prog Tryz.f7 false true false false) := by
  obtain ⟨places, hx⟩ : ∃ places, DataW.whole enc Tryz.prog ((World.doorLaid Tryz.prog 400 os).forCall (fun _ _ => 0) ⟨#[], #[.slice none 0 0], []⟩).memory Tryz.f7.params.toList Rows.duelsSpec.vars false #[Value.slice none 0 0].toList 8 = some ([.nil], [], places) := ⟨[], by kernel_rfl⟩
  refine returnsInHanded_of_row (C := Tryz.checked) (s := OpenSpec.ofChange Rows.duelsSpec) Tryz.own started (by kernel_rfl) Tryz.func7
    (witness_row_at (enc := enc) (C := Tryz.checked) false (World.doorLaid Tryz.prog 400 os) #[.slice none 0 0] rfl (by kernel_rfl) (by kernel_rfl) (by kernel_rfl)
      (OpenSpec.preRow_of_cond 8 hx (by kernel_rfl) (fun k hk => by cases hk) (by kernel_rfl) (door_met os _))) ?_
  intro W base args ds gs before hval0 hW _ _ hsz0 hL _ _
  have hsz : (DataW.weightsEach Tryz.prog (Tryz.f7.params.toList ++ Rows.duelsSpec.plain.varTypes Tryz.prog) (ds ++ gs)).all (· ≤ reachBytes) = true := hsz0
  clear hsz0
  have hval : ∀ (j : Nat) t v, Tryz.f7.params[j]? = some t → args[j]? = some v → Value.okWide Tryz.prog W .any base t v := hval0
  have hW' := hW
  obtain ⟨p, q, hA0, hV, rfl, hfz, hnd⟩ := hW
  have hA : DataW.TrodAll enc Tryz.prog W 0 (fun _ => true) true Tryz.f7.params.toList args.toList ds p := hA0
  rw [Tryz.params7] at hA hval hsz
  obtain ⟨v0, d0, rfl, rfl, h0⟩ := trodAll_one hA
  obtain ⟨rfl, rfl⟩ := trodVars_none hV
  obtain ⟨a0, len, cap, rfl⟩ := okWide_slice Tryz.underlying22 (hval 0 22 v0 rfl rfl)
  have k0 := h0
  have lt0 : ∀ x ∈ p, x.block < W.heap.size := by obtain ⟨m, hm⟩ := k0; exact DataW.trod_lt m _ _ _ hm
  obtain ⟨fuel, hf⟩ := h0
  clear hA0 hval0 hA
  simp only [List.append_nil] at hW'
  obtain ⟨ops, hlen, hsc, hok, hdat⟩ := open_script (show DataW.trod enc Tryz.prog W 0 (fun _ => true) true fuel 22 [.slice a0 len cap] = some (d0, p) from hf)
  have hsize : Sized ops ∧ ops.length ≤ 140737488355328 := by
    rcases hdat with ⟨rfl, _⟩ | ⟨sp, hx⟩
    · exact ⟨fun o ho => by simp at ho, by simp⟩
    · have hd : d0 = .slice (ops.map OpV.data) sp := hx
      subst hd
      exact sized_script (sp := sp) hsz
  subst hlen
  refine (duels_law ops a0 cap W hsc hsize.1 hsize.2 hok).mono fun e W' ⟨he, bel⟩ => ?_
  subst he
  exact ⟨_, rfl, _, _, _, [], _, [], hW', trodAll_mk1 (shut_bool Tryz.underlying4 _), trodAll_mk1 (Below.trod Tryz.laidOut (by kernel_rfl) (of_decide_eq_true (by kernel_rfl)) k0 bel lt0), rfl, bel.frame _, fun h => by cases h⟩

theorem duels_said : Rows.DuelsSaid :=
  OpenClaim.holds_of_cond 7 Tryz.f7 rfl rfl rfl rfl rfl rfl rfl ⟨rfl, rfl, rfl, rfl, rfl⟩ rfl rfl rfl rfl rfl (by kernel_rfl) Tryz.func7 (by kernel_rfl)
    (of_decide_eq_true (by kernel_rfl)) (by unfold Func.isWrapper; first | (rw [if_pos (by decide +kernel)]; kernel_rfl) | (rw [if_neg (by decide +kernel)]; exact ⟨rfl, rfl⟩))
    (fun os started H enc _ F => by rw [OpenClaim.pre_eq_preRow]; exact duels_lifted os started H enc F)
/-- No parameter wants a stand-in; the program's own looks are off. -/
theorem duels_plain (f : FuncId) (fn : Func) (hf : Tryz.pinned.checked.prog.funcNamed "duel/duellaw.Duels" = some f) (hfn : Tryz.pinned.checked.prog.funcs[f]? = some fn) :
    false = Tryz.pinned.checked.prog.looks [] ∧ ∀ (j : Nat) t, fn.params[j]? = some t → Tryz.pinned.checked.prog.wantsStandIn t = false := by
  obtain rfl : f = 7 := Option.some.inj ((show Tryz.prog.funcNamed "duel/duellaw.Duels" = some 7 by kernel_rfl).symm.trans hf) |>.symm
  obtain rfl : fn = Tryz.f7 := (Option.some.inj (Tryz.func7.symm.trans hfn)).symm
  refine ⟨by kernel_rfl, fun j t ht => ?_⟩
  rw [Tryz.params7] at ht
  obtain rfl : t = 22 := by simpa using Array.mem_of_getElem? ht
  exact (show Tryz.prog.wantsStandIn 22 = false by kernel_rfl)
theorem duels_holds : Rows.DuelsCardSaid :=
  Claim7.holds_tied_plain_at .later [] _ _ _ _ duels_said (fun _ h => by cases h) (by kernel_rfl) (fun _ h => by cases h) duels_row_tie rfl ⟨rfl, rfl⟩ (by kernel_rfl) rfl duels_plain (by kernel_rfl)
#print axioms duels_holds
end Go.Proofs.YtgipjjhkhfihpaaGreatDoor
