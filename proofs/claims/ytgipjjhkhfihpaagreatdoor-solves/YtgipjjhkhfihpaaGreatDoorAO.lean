import Derived.Test.YtgipjjhkhfihpaaGreatDoorAN
namespace Go.Proofs.YtgipjjhkhfihpaaGreatDoor
open Go.RowKit

/-! ### explain -/
theorem expl_step (ms : List (Int × Nat)) (k : Nat) (h : k < ms.length) (p : List Stp) (n : Nat) : expl (ms.take (k + 1)).reverse p n = if hasLit (litsAt p n) (-ms[k].1) then expl (ms.take k).reverse (resP p ms[k].2 n ms[k].1.natAbs).1 (resP p ms[k].2 n ms[k].1.natAbs).2 else expl (ms.take k).reverse p n := by
  rw [List.take_succ_eq_append_getElem h, List.reverse_append]; rfl
structure TrailBd (ms : List (Int × Nat)) : Prop where
  len : ms.length ≤ 1000
  lit : ∀ u ∈ ms, -8 ≤ u.1 ∧ u.1 ≤ 8
theorem SBd.setRef {C : SC} {S : SS} (h : SBd C S) {p : List Stp} (hl : p.length ≤ 100000) (hb : ∀ s ∈ p, s.lits.1 < 512 ∧ s.lits.2 < 512) : SBd C { S with ref := p } := h.put (Or.inl rfl) hl hb
theorem explain_as (C : SC) (S : SS) (u : US) (p : List Stp) (n : Nat) (h : expl u.trail.reverse S.ref u.conf = (p, n)) : explain C S u = (if n ≠ u.conf then (({ S with ref := p } : SS).reduce C.q (1, n)).1.keep C.room (({ S with ref := p } : SS).reduce C.q (1, n)).2 else (({ S with ref := p } : SS).reduce C.q (1, n)).1, (({ S with ref := p } : SS).reduce C.q (1, n)).2) := by
  unfold explain
  rw [h]
  rfl
set_option maxRecDepth 100000 in
set_option maxHeartbeats 6400000 in
theorem explain_any (b : Nat) (C : SC) (S : SS) (V : SV) (u : US) (aT : Option Addr) (cT base : Nat) (w : World) (hS : SAt w b C S V) (hB : SBd C S) (hT : w.ownsRow base 177 2 (.slice aT u.trail.length cT) u.trail.length (unitCells u.trail)) (hTB : TrailBd u.trail) (hfar : ∀ k, (Value.slice aT u.trail.length cT).ownBlock = some k → Far b V k) (hrl : S.ref.length ≤ 90000) (hcf : u.conf ≤ 100000) :
    Calls Tryz.prog 90 #[.pointer (some ⟨b, 0, none⟩), .agg #[.int .i64 (u.vals.1 : Int), .int .i64 (u.vals.2 : Int), .slice aT u.trail.length cT, .int .i64 (u.conf : Int)]] w fun e w' => e = .returned (FactV (explain C S u).2) ∧ SPost b C (explain C S u).1 V w w' := by
  obtain ⟨⟨v1, v2⟩, trail, conf⟩ := u
  dsimp only at hT hTB hfar hcf ⊢
  have htl := hTB.len
  have HTB := hide hTB.lit
  clear hTB
  go_enter Tryz.func90, Tryz.ntmps90
  go_wp2_with fail
  generalize hw0 : ((w.alloc (.cells #[.int .i64 (v1 : Int), .int .i64 (v2 : Int), .slice aT trail.length cT, .int .i64 (conf : Int)] 161)).alloc (.cells #[.int .i64 0, .int .i64 0] 129)) = u1
  have hb0 : Below w.heap.size w u1 := by rw [← hw0]; exact ((Below.refl _ _).alloc (Nat.le_refl _) _).alloc (by simp; try omega) _
  have huu : u1.heap[w.heap.size]? = some (.cells #[.int .i64 (v1 : Int), .int .i64 (v2 : Int), .slice aT trail.length cT, .int .i64 (conf : Int)] 161 (0, 0)) := by rw [← hw0, heap_alloc_old _ _ (by simp; try omega)]; exact alloc_new_at (by simp)
  have nuu : Far b V (w.heap.size) := hS.fresh (by omega)
  have hrs : u1.heap[w.heap.size + 1]? = some (.cells #[.int .i64 0, .int .i64 0] 129 (0, 0)) := by rw [← hw0]; exact alloc_new_at (by simp)
  have nrs : Far b V (w.heap.size + 1) := hS.fresh (by omega)
  clear hw0
  have hM : SMoved b w u1 V V := SMoved.of_below hb0
  replace hS := hS.later hb0
  have lb := blk_lt hS.fb
  have cuu0 : u1.cell? ⟨w.heap.size, 0, none⟩ = some (.int .i64 (v1 : Int)) := by rw [blk_cell huu]; rfl
  have cuu1 : u1.cell? ⟨w.heap.size, 1, none⟩ = some (.int .i64 (v2 : Int)) := by rw [blk_cell huu]; rfl
  have cuu2 : u1.cell? ⟨w.heap.size, 2, none⟩ = some (.slice aT trail.length cT) := by rw [blk_cell huu]; rfl
  have cuu3 : u1.cell? ⟨w.heap.size, 3, none⟩ = some (.int .i64 (conf : Int)) := by rw [blk_cell huu]; rfl
  have luu := blk_lt huu
  have crs0 : u1.cell? ⟨w.heap.size + 1, 0, none⟩ = some (.int .i64 0) := by rw [blk_cell hrs]; rfl
  have crs1 : u1.cell? ⟨w.heap.size + 1, 1, none⟩ = some (.int .i64 0) := by rw [blk_cell hrs]; rfl
  have lrs := blk_lt hrs
  have hT1 := own_below hT hb0
  go_wp2_with fail
  go_loopg [5, 6] (trail.length + 1) (fun m sv i wx => ∃ (k n : Nat) (p : List Stp) (V' : SV), i = .int .i64 ((k : Int) - 1) ∧ sv = .int .i64 (n : Int) ∧ k + 1 ≤ m ∧ m ≤ k + 1 ∧ k ≤ trail.length ∧ n ≤ 100000 ∧ p.length + k ≤ S.ref.length + trail.length ∧ (∀ s ∈ p, s.lits.1 < 512 ∧ s.lits.2 < 512) ∧ expl trail.reverse S.ref conf = expl (trail.take k).reverse p n ∧ SAt wx b C { S with ref := p } V' ∧ SMoved b u1 wx V V')
  case atStart => exact ⟨trail.length, conf, S.ref, V, by go_num, rfl, by omega, by omega, by omega, hcf, by omega, hB.ref, by rw [List.take_length], hS, SMoved.of_below (Below.refl _ _)⟩
  case round =>
    obtain ⟨k, n, p, V', rfl, rfl, hkm, hkm2, hkl, hn, hpl, hpb, hex, hSr, hMr⟩ := hrel
    have HEX := hide hex
    clear hex
    have hur := hMr.blk huu nuu
    have hrr := hMr.blk hrs nrs
    have nrr := hMr.far lrs nrs
    have nur := hMr.far luu nuu
    have hBr := hB.setRef (p := p) (by omega) hpb
    have lur := blk_lt hur
    have lrr := blk_lt hrr
    have lbr := blk_lt hSr.fb
    have cu2 : wr.cell? ⟨w.heap.size, 2, none⟩ = some (.slice aT trail.length cT) := by rw [blk_cell hur]; rfl
    have cu3 : wr.cell? ⟨w.heap.size, 3, none⟩ = some (.int .i64 (conf : Int)) := by rw [blk_cell hur]; rfl
    cases k with
    | zero =>
      have HE0 : Hid (expl trail.reverse S.ref conf = (p, n)) := hide (by rw [unhide HEX]; rfl)
      replace huu := hur
      replace hrs := hrr
      replace nuu := nur
      replace nrs := nrr
      replace hS := hSr
      replace hM := hM.trans hMr
      replace lb := lbr
      clear hur hrr nur nrr hSr hMr lbr
      replace cuu0 : wr.cell? ⟨w.heap.size, 0, none⟩ = some (.int .i64 (v1 : Int)) := by rw [blk_cell huu]; rfl
      replace cuu1 : wr.cell? ⟨w.heap.size, 1, none⟩ = some (.int .i64 (v2 : Int)) := by rw [blk_cell huu]; rfl
      replace cuu2 : wr.cell? ⟨w.heap.size, 2, none⟩ = some (.slice aT trail.length cT) := by rw [blk_cell huu]; rfl
      replace cuu3 : wr.cell? ⟨w.heap.size, 3, none⟩ = some (.int .i64 (conf : Int)) := by rw [blk_cell huu]; rfl
      replace luu := blk_lt huu
      replace crs0 : wr.cell? ⟨w.heap.size + 1, 0, none⟩ = some (.int .i64 0) := by rw [blk_cell hrs]; rfl
      replace crs1 : wr.cell? ⟨w.heap.size + 1, 1, none⟩ = some (.int .i64 0) := by rw [blk_cell hrs]; rfl
      replace lrs := blk_lt hrs
      go_wp2_with fail
      refine (sreduce_any b C { S with ref := p } V' (1, n) _ hS hBr (Or.inl rfl) (by omega)).mono ?_
      rintro e u2 ⟨rfl, V3, hS2, hM2⟩
      replace huu := hM2.blk huu nuu
      replace nuu := hM2.far luu nuu
      replace hrs := hM2.blk hrs nrs
      replace nrs := hM2.far lrs nrs
      replace hM := hM.trans hM2
      replace hS := hS2
      clear hM2
      replace lb := blk_lt hS.fb
      replace cuu0 : u2.cell? ⟨w.heap.size, 0, none⟩ = some (.int .i64 (v1 : Int)) := by rw [blk_cell huu]; rfl
      replace cuu1 : u2.cell? ⟨w.heap.size, 1, none⟩ = some (.int .i64 (v2 : Int)) := by rw [blk_cell huu]; rfl
      replace cuu2 : u2.cell? ⟨w.heap.size, 2, none⟩ = some (.slice aT trail.length cT) := by rw [blk_cell huu]; rfl
      replace cuu3 : u2.cell? ⟨w.heap.size, 3, none⟩ = some (.int .i64 (conf : Int)) := by rw [blk_cell huu]; rfl
      replace luu := blk_lt huu
      replace crs0 : u2.cell? ⟨w.heap.size + 1, 0, none⟩ = some (.int .i64 0) := by rw [blk_cell hrs]; rfl
      replace crs1 : u2.cell? ⟨w.heap.size + 1, 1, none⟩ = some (.int .i64 0) := by rw [blk_cell hrs]; rfl
      replace lrs := blk_lt hrs
      have hB3 := reduce_bd hBr (Or.inl rfl) n (show p.length ≤ 99999 by omega)
      have HX := hide (explain_as C S ⟨(v1, v2), trail, conf⟩ p n (unhide HE0))
      generalize ({ S with ref := p } : SS).reduce C.q (1, n) = R at *
      obtain ⟨S3, f1, f2⟩ := R
      dsimp only at hS hB3 HX ⊢
      by_cases hnc : n = conf
      · have hq1 : ((n : Int) == (conf : Int)) = true := by rw [beq_iff_eq]; omega
        have hq2 : (n == conf) = true := by rw [beq_iff_eq]; omega
        have z0 := blk_free hrs 0
        have z1 := blk_free hrs 1
        have hR := blk_set (blk_set hrs 0 (.int .i64 (f1 : Int))) 1 (.int .i64 (f2 : Int))
        have hAl : Below ((u2.setCell ⟨w.heap.size + 1, 0, none⟩ (.int .i64 (f1 : Int))).setCell ⟨w.heap.size + 1, 1, none⟩ (.int .i64 (f2 : Int))).heap.size ((u2.setCell ⟨w.heap.size + 1, 0, none⟩ (.int .i64 (f1 : Int))).setCell ⟨w.heap.size + 1, 1, none⟩ (.int .i64 (f2 : Int))) (((u2.setCell ⟨w.heap.size + 1, 0, none⟩ (.int .i64 (f1 : Int))).setCell ⟨w.heap.size + 1, 1, none⟩ (.int .i64 (f2 : Int))).alloc (.cells #[.int .i64 (f1 : Int), .int .i64 (f2 : Int)] 129)) := (Below.refl _ _).alloc (Nat.le_refl _) _
        have hRA := (hAl.block _ (blk_lt hR)).trans hR
        have j0 := blk_cell hRA 0
        have j1 := blk_cell hRA 1
        have j2 := blk_cell hR 0
        have j3 := blk_cell hR 1
        go_wp2_with fail
        refine bodyPost_ret (v := FactV (f1, f2)) (by simp [results, Tryz.results90, go_sem, j0, j1]) rfl ⟨by rw [unhide HX], ?_⟩
        rw [unhide HX, if_neg (fun h => h hnc)]
        exact ⟨V3, ((hS.set nrs 0 _).set nrs 1 _).later hAl, ((hM.set (k := w.heap.size + 1) (by omega) 0 _).set (k := w.heap.size + 1) (by omega) 1 _).trans (SMoved.of_below hAl)⟩
      · have hq1 : ((n : Int) == (conf : Int)) = false := by rw [beq_eq_false_iff_ne]; omega
        have hq2 : (n == conf) = false := by rw [beq_eq_false_iff_ne]; omega
        go_wp2_with fail
        have nfo : Far b V3 u2.heap.size := hS.fresh (Nat.le_refl _)
        generalize hw0 : u2.alloc (.cells #[.int .i64 (f1 : Int), .int .i64 (f2 : Int)] 129) = u3
        have b3 : Below u2.heap.size u2 u3 := by rw [← hw0]; exact (Below.refl _ _).alloc (Nat.le_refl _) _
        have hfo : u3.heap[u2.heap.size]? = some (.cells #[.int .i64 (f1 : Int), .int .i64 (f2 : Int)] 129 (0, 0)) := by rw [← hw0]; exact heap_alloc_new _ _
        clear hw0
        replace hM := hM.trans (SMoved.of_below b3)
        replace hS := hS.later b3
        replace lb := blk_lt hS.fb
        replace huu := (b3.block _ (blk_lt huu)).trans huu
        replace cuu0 : u3.cell? ⟨w.heap.size, 0, none⟩ = some (.int .i64 (v1 : Int)) := by rw [blk_cell huu]; rfl
        replace cuu1 : u3.cell? ⟨w.heap.size, 1, none⟩ = some (.int .i64 (v2 : Int)) := by rw [blk_cell huu]; rfl
        replace cuu2 : u3.cell? ⟨w.heap.size, 2, none⟩ = some (.slice aT trail.length cT) := by rw [blk_cell huu]; rfl
        replace cuu3 : u3.cell? ⟨w.heap.size, 3, none⟩ = some (.int .i64 (conf : Int)) := by rw [blk_cell huu]; rfl
        replace luu := blk_lt huu
        replace hrs := (b3.block _ (blk_lt hrs)).trans hrs
        replace crs0 : u3.cell? ⟨w.heap.size + 1, 0, none⟩ = some (.int .i64 0) := by rw [blk_cell hrs]; rfl
        replace crs1 : u3.cell? ⟨w.heap.size + 1, 1, none⟩ = some (.int .i64 0) := by rw [blk_cell hrs]; rfl
        replace lrs := blk_lt hrs
        have cfo0 : u3.cell? ⟨u2.heap.size, 0, none⟩ = some (.int .i64 (f1 : Int)) := by rw [blk_cell hfo]; rfl
        have cfo1 : u3.cell? ⟨u2.heap.size, 1, none⟩ = some (.int .i64 (f2 : Int)) := by rw [blk_cell hfo]; rfl
        have lfo := blk_lt hfo
        refine (skeep_any b C S3 V3 (f1, f2) _ hS hB3).mono ?_
        rintro e u4 ⟨rfl, V4, hS2, hM2⟩
        replace huu := hM2.blk huu nuu
        replace nuu := hM2.far luu nuu
        replace hrs := hM2.blk hrs nrs
        replace nrs := hM2.far lrs nrs
        replace hfo := hM2.blk hfo nfo
        replace nfo := hM2.far lfo nfo
        replace hM := hM.trans hM2
        replace hS := hS2
        clear hM2
        replace lb := blk_lt hS.fb
        replace cuu0 : u4.cell? ⟨w.heap.size, 0, none⟩ = some (.int .i64 (v1 : Int)) := by rw [blk_cell huu]; rfl
        replace cuu1 : u4.cell? ⟨w.heap.size, 1, none⟩ = some (.int .i64 (v2 : Int)) := by rw [blk_cell huu]; rfl
        replace cuu2 : u4.cell? ⟨w.heap.size, 2, none⟩ = some (.slice aT trail.length cT) := by rw [blk_cell huu]; rfl
        replace cuu3 : u4.cell? ⟨w.heap.size, 3, none⟩ = some (.int .i64 (conf : Int)) := by rw [blk_cell huu]; rfl
        replace luu := blk_lt huu
        replace crs0 : u4.cell? ⟨w.heap.size + 1, 0, none⟩ = some (.int .i64 0) := by rw [blk_cell hrs]; rfl
        replace crs1 : u4.cell? ⟨w.heap.size + 1, 1, none⟩ = some (.int .i64 0) := by rw [blk_cell hrs]; rfl
        replace lrs := blk_lt hrs
        replace cfo0 : u4.cell? ⟨u2.heap.size, 0, none⟩ = some (.int .i64 (f1 : Int)) := by rw [blk_cell hfo]; rfl
        replace cfo1 : u4.cell? ⟨u2.heap.size, 1, none⟩ = some (.int .i64 (f2 : Int)) := by rw [blk_cell hfo]; rfl
        replace lfo := blk_lt hfo
        have z0 := blk_free hrs 0
        have z1 := blk_free hrs 1
        have hR := blk_set (blk_set hrs 0 (.int .i64 (f1 : Int))) 1 (.int .i64 (f2 : Int))
        have j0 := blk_cell hR 0
        have j1 := blk_cell hR 1
        go_wp2_with fail
        refine bodyPost_ret (v := FactV (f1, f2)) (by simp [results, Tryz.results90, go_sem, j0, j1]) rfl ⟨by rw [unhide HX], ?_⟩
        rw [unhide HX, if_pos hnc]
        exact ⟨V4, (hS.set nrs 0 _).set nrs 1 _, (hM.set (k := w.heap.size + 1) (by omega) 0 _).set (k := w.heap.size + 1) (by omega) 1 _⟩
    | succ k =>
      have hlt : k < trail.length := by omega
      have HST := hide (expl_step trail k hlt p n)
      have hlit := unhide HTB _ (List.getElem_mem hlt)
      obtain ⟨g, cap, hVe, _, hg', _, hcell⟩ := own_pos hT1 (by omega)
      injection hVe with hVe _ hV2
      subst hVe hV2
      obtain ⟨e0, e1⟩ := unitCells_at trail k hlt
      have nT : Far b V g := hfar g rfl
      have hgc : ∀ j u, (unitCells trail)[j]? = some u → wr.cell? ⟨g, j, none⟩ = some u := fun j u hj => by
        rw [cell_same (w := u1) (hMr.only.block g hg' nT.ts)]; exact hcell j u hj
      have hx0 := hgc _ _ e0
      have hx1 := hgc _ _ e1
      have hgw : g < wr.heap.size := Nat.lt_of_lt_of_le hg' hMr.only.size
      clear hgc hcell e0 e1
      have hlt9 := litsAt_lt p hpb n
      generalize trail[k] = made at *
      obtain ⟨x, ms⟩ := made
      dsimp only at *
      replace huu := hur
      replace hrs := hrr
      replace nuu := nur
      replace nrs := nrr
      replace hS := hSr
      replace hM := hMr
      replace lb := lbr
      clear hur hrr nur nrr hSr hMr lbr
      replace cuu0 : wr.cell? ⟨w.heap.size, 0, none⟩ = some (.int .i64 (v1 : Int)) := by rw [blk_cell huu]; rfl
      replace cuu1 : wr.cell? ⟨w.heap.size, 1, none⟩ = some (.int .i64 (v2 : Int)) := by rw [blk_cell huu]; rfl
      replace cuu2 : wr.cell? ⟨w.heap.size, 2, none⟩ = some (.slice (some ⟨g, 0, none⟩) trail.length cT) := by rw [blk_cell huu]; rfl
      replace cuu3 : wr.cell? ⟨w.heap.size, 3, none⟩ = some (.int .i64 (conf : Int)) := by rw [blk_cell huu]; rfl
      replace luu := blk_lt huu
      replace crs0 : wr.cell? ⟨w.heap.size + 1, 0, none⟩ = some (.int .i64 0) := by rw [blk_cell hrs]; rfl
      replace crs1 : wr.cell? ⟨w.heap.size + 1, 1, none⟩ = some (.int .i64 0) := by rw [blk_cell hrs]; rfl
      replace lrs := blk_lt hrs
      go_wp2_with fail
      have nmd : Far b V' wr.heap.size := hS.fresh (Nat.le_refl _)
      generalize hw0 : wr.alloc (.cells #[.int .i64 x, .int .i64 (ms : Int)] 177) = u2
      have b2 : Below wr.heap.size wr u2 := by rw [← hw0]; exact (Below.refl _ _).alloc (Nat.le_refl _) _
      have hmd : u2.heap[wr.heap.size]? = some (.cells #[.int .i64 x, .int .i64 (ms : Int)] 177 (0, 0)) := by rw [← hw0]; exact heap_alloc_new _ _
      clear hw0
      replace hM := hM.trans (SMoved.of_below b2)
      replace hS := hS.later b2
      replace lb := blk_lt hS.fb
      replace huu := (b2.block _ (blk_lt huu)).trans huu
      replace cuu0 : u2.cell? ⟨w.heap.size, 0, none⟩ = some (.int .i64 (v1 : Int)) := by rw [blk_cell huu]; rfl
      replace cuu1 : u2.cell? ⟨w.heap.size, 1, none⟩ = some (.int .i64 (v2 : Int)) := by rw [blk_cell huu]; rfl
      replace cuu2 : u2.cell? ⟨w.heap.size, 2, none⟩ = some (.slice (some ⟨g, 0, none⟩) trail.length cT) := by rw [blk_cell huu]; rfl
      replace cuu3 : u2.cell? ⟨w.heap.size, 3, none⟩ = some (.int .i64 (conf : Int)) := by rw [blk_cell huu]; rfl
      replace luu := blk_lt huu
      replace hrs := (b2.block _ (blk_lt hrs)).trans hrs
      replace crs0 : u2.cell? ⟨w.heap.size + 1, 0, none⟩ = some (.int .i64 0) := by rw [blk_cell hrs]; rfl
      replace crs1 : u2.cell? ⟨w.heap.size + 1, 1, none⟩ = some (.int .i64 0) := by rw [blk_cell hrs]; rfl
      replace lrs := blk_lt hrs
      have cmd0 : u2.cell? ⟨wr.heap.size, 0, none⟩ = some (.int .i64 x) := by rw [blk_cell hmd]; rfl
      have cmd1 : u2.cell? ⟨wr.heap.size, 1, none⟩ = some (.int .i64 (ms : Int)) := by rw [blk_cell hmd]; rfl
      have lmd := blk_lt hmd
      have c7 : u2.cell? ⟨b, 7, none⟩ = some V'.r := by rw [blk_cell hS.fb]; rfl
      refine (plits_any _ b 6 p V'.r n _ c7 hS.oR (by omega)).mono ?_
      rintro e u3 ⟨rfl, b3⟩
      replace hM := hM.trans (SMoved.of_below b3)
      replace hS := hS.later b3
      replace lb := blk_lt hS.fb
      replace huu := (b3.block _ (blk_lt huu)).trans huu
      replace cuu0 : u3.cell? ⟨w.heap.size, 0, none⟩ = some (.int .i64 (v1 : Int)) := by rw [blk_cell huu]; rfl
      replace cuu1 : u3.cell? ⟨w.heap.size, 1, none⟩ = some (.int .i64 (v2 : Int)) := by rw [blk_cell huu]; rfl
      replace cuu2 : u3.cell? ⟨w.heap.size, 2, none⟩ = some (.slice (some ⟨g, 0, none⟩) trail.length cT) := by rw [blk_cell huu]; rfl
      replace cuu3 : u3.cell? ⟨w.heap.size, 3, none⟩ = some (.int .i64 (conf : Int)) := by rw [blk_cell huu]; rfl
      replace luu := blk_lt huu
      replace hrs := (b3.block _ (blk_lt hrs)).trans hrs
      replace crs0 : u3.cell? ⟨w.heap.size + 1, 0, none⟩ = some (.int .i64 0) := by rw [blk_cell hrs]; rfl
      replace crs1 : u3.cell? ⟨w.heap.size + 1, 1, none⟩ = some (.int .i64 0) := by rw [blk_cell hrs]; rfl
      replace lrs := blk_lt hrs
      replace hmd := (b3.block _ (blk_lt hmd)).trans hmd
      replace cmd0 : u3.cell? ⟨wr.heap.size, 0, none⟩ = some (.int .i64 x) := by rw [blk_cell hmd]; rfl
      replace cmd1 : u3.cell? ⟨wr.heap.size, 1, none⟩ = some (.int .i64 (ms : Int)) := by rw [blk_cell hmd]; rfl
      replace lmd := blk_lt hmd
      clear c7
      generalize litsAt p n = cl at *
      obtain ⟨l1, l2⟩ := cl
      dsimp only at hlt9
      go_wp2_with fail
      have ncl : Far b V' u3.heap.size := hS.fresh (Nat.le_refl _)
      generalize hw0 : u3.alloc (.cells #[.int .i64 (l1 : Int), .int .i64 (l2 : Int)] 74) = u4
      have b4 : Below u3.heap.size u3 u4 := by rw [← hw0]; exact (Below.refl _ _).alloc (Nat.le_refl _) _
      have hcl : u4.heap[u3.heap.size]? = some (.cells #[.int .i64 (l1 : Int), .int .i64 (l2 : Int)] 74 (0, 0)) := by rw [← hw0]; exact heap_alloc_new _ _
      clear hw0
      replace hM := hM.trans (SMoved.of_below b4)
      replace hS := hS.later b4
      replace lb := blk_lt hS.fb
      replace huu := (b4.block _ (blk_lt huu)).trans huu
      replace cuu0 : u4.cell? ⟨w.heap.size, 0, none⟩ = some (.int .i64 (v1 : Int)) := by rw [blk_cell huu]; rfl
      replace cuu1 : u4.cell? ⟨w.heap.size, 1, none⟩ = some (.int .i64 (v2 : Int)) := by rw [blk_cell huu]; rfl
      replace cuu2 : u4.cell? ⟨w.heap.size, 2, none⟩ = some (.slice (some ⟨g, 0, none⟩) trail.length cT) := by rw [blk_cell huu]; rfl
      replace cuu3 : u4.cell? ⟨w.heap.size, 3, none⟩ = some (.int .i64 (conf : Int)) := by rw [blk_cell huu]; rfl
      replace luu := blk_lt huu
      replace hrs := (b4.block _ (blk_lt hrs)).trans hrs
      replace crs0 : u4.cell? ⟨w.heap.size + 1, 0, none⟩ = some (.int .i64 0) := by rw [blk_cell hrs]; rfl
      replace crs1 : u4.cell? ⟨w.heap.size + 1, 1, none⟩ = some (.int .i64 0) := by rw [blk_cell hrs]; rfl
      replace lrs := blk_lt hrs
      replace hmd := (b4.block _ (blk_lt hmd)).trans hmd
      replace cmd0 : u4.cell? ⟨wr.heap.size, 0, none⟩ = some (.int .i64 x) := by rw [blk_cell hmd]; rfl
      replace cmd1 : u4.cell? ⟨wr.heap.size, 1, none⟩ = some (.int .i64 (ms : Int)) := by rw [blk_cell hmd]; rfl
      replace lmd := blk_lt hmd
      have ccl0 : u4.cell? ⟨u3.heap.size, 0, none⟩ = some (.int .i64 (l1 : Int)) := by rw [blk_cell hcl]; rfl
      have ccl1 : u4.cell? ⟨u3.heap.size, 1, none⟩ = some (.int .i64 (l2 : Int)) := by rw [blk_cell hcl]; rfl
      have lcl := blk_lt hcl
      refine (has_any l1 l2 (-x) _ hlt9.1 hlt9.2 (by omega) (by omega)).mono ?_
      rintro e u5 ⟨rfl, b5⟩
      replace hM := hM.trans (SMoved.of_below b5)
      replace hS := hS.later b5
      replace lb := blk_lt hS.fb
      replace huu := (b5.block _ (blk_lt huu)).trans huu
      replace cuu0 : u5.cell? ⟨w.heap.size, 0, none⟩ = some (.int .i64 (v1 : Int)) := by rw [blk_cell huu]; rfl
      replace cuu1 : u5.cell? ⟨w.heap.size, 1, none⟩ = some (.int .i64 (v2 : Int)) := by rw [blk_cell huu]; rfl
      replace cuu2 : u5.cell? ⟨w.heap.size, 2, none⟩ = some (.slice (some ⟨g, 0, none⟩) trail.length cT) := by rw [blk_cell huu]; rfl
      replace cuu3 : u5.cell? ⟨w.heap.size, 3, none⟩ = some (.int .i64 (conf : Int)) := by rw [blk_cell huu]; rfl
      replace luu := blk_lt huu
      replace hrs := (b5.block _ (blk_lt hrs)).trans hrs
      replace crs0 : u5.cell? ⟨w.heap.size + 1, 0, none⟩ = some (.int .i64 0) := by rw [blk_cell hrs]; rfl
      replace crs1 : u5.cell? ⟨w.heap.size + 1, 1, none⟩ = some (.int .i64 0) := by rw [blk_cell hrs]; rfl
      replace lrs := blk_lt hrs
      replace hmd := (b5.block _ (blk_lt hmd)).trans hmd
      replace cmd0 : u5.cell? ⟨wr.heap.size, 0, none⟩ = some (.int .i64 x) := by rw [blk_cell hmd]; rfl
      replace cmd1 : u5.cell? ⟨wr.heap.size, 1, none⟩ = some (.int .i64 (ms : Int)) := by rw [blk_cell hmd]; rfl
      replace lmd := blk_lt hmd
      replace hcl := (b5.block _ (blk_lt hcl)).trans hcl
      replace ccl0 : u5.cell? ⟨u3.heap.size, 0, none⟩ = some (.int .i64 (l1 : Int)) := by rw [blk_cell hcl]; rfl
      replace ccl1 : u5.cell? ⟨u3.heap.size, 1, none⟩ = some (.int .i64 (l2 : Int)) := by rw [blk_cell hcl]; rfl
      replace lcl := blk_lt hcl
      cases hhl : hasLit (l1, l2) (-x) with
      | false =>
        have HF : Hid (expl trail.reverse S.ref conf = expl (trail.take k).reverse p n) := hide (by rw [unhide HEX, unhide HST, hhl]; rfl)
        clear hhl
        go_wp2_with fail
        go_roundg (gk - 1)
        case measure => omega
        case rel => exact ⟨k, n, p, V', by go_num, rfl, by omega, by omega, by omega, hn, by omega, hpb, unhide HF, hS, hM⟩
      | true =>
        have HST2 : Hid (expl trail.reverse S.ref conf = expl (trail.take k).reverse (resP p ms n x.natAbs).1 (resP p ms n x.natAbs).2) := hide (by rw [unhide HEX, unhide HST, hhl]; rfl)
        clear hhl
        go_wp2_with fail
        refine (varOf_any x _ (by omega) (by omega)).mono ?_
        rintro e w8 ⟨rfl, hw8⟩
        rw [hw8]
        clear hw8 w8
        go_wp2_with fail
        have hDr : Below u5.heap.size u5 u5.drew := (Below.refl _ _).drew
        have hSd := hS.later hDr
        have hMd := hM.trans (SMoved.of_below hDr)
        go_region_with (go_at_call 113; refine (presolve_any b 6 _ _ p _ 1 ms n x.natAbs _ (hSd.pat (Or.inl rfl)) (by omega) hpb (by omega)).mono ?_; rintro e u9 ⟨rfl, hgo⟩; obtain ⟨V2, hS2, hM2⟩ := hSd.put (Or.inl rfl) hgo; clear hgo)
        all_goals
          have hrb := resP_bd p ms n x.natAbs hpb
          generalize resP p ms n x.natAbs = R at *
          obtain ⟨q, rn⟩ := R
          dsimp only at hrb HST2 hS2 ⊢
          obtain ⟨hr1, hr2, hr3⟩ := hrb
          have HR3 : Hid (rn ≤ 100000 ∧ q.length + k ≤ S.ref.length + trail.length) := hide ⟨by omega, by omega⟩
          clear hr2 hr3
          go_wp2_with fail
          go_roundg (gk - 1)
          case measure => omega
          case rel => exact ⟨k, rn, q, V2, by go_num, rfl, by omega, by omega, by omega, (unhide HR3).1, (unhide HR3).2, hr1, unhide HST2, hS2, hMd.trans hM2⟩
end Go.Proofs.YtgipjjhkhfihpaaGreatDoor

namespace Go.Proofs.YtgipjjhkhfihpaaGreatDoor
open Go.RowKit

/-! ### Steps that are made well -/
structure QGood (q : QS) : Prop where
  qb : QB q
  nodup : (q.vars.map (·.1)).Nodup
  vars : ∀ c ∈ q.cl, ∀ s v, L c s v = true → v ∈ q.vars.map (·.1)
structure LOk (q : QS) (c : Nat × Nat) : Prop where
  bd : Bd c
  vars : ∀ s v, L c s v = true → v ∈ q.vars.map (·.1)
theorem lok_zero (q : QS) : LOk q (0, 0) := ⟨⟨by decide, by decide⟩, fun s v h => by rw [L_zero] at h; cases h⟩
theorem QGood.name {q : QS} (hq : QGood q) {v : Nat} (h : v ∈ q.vars.map (·.1)) : 1 ≤ v ∧ v ≤ 8 := by
  obtain ⟨x, hx, rfl⟩ := List.mem_map.1 h
  exact hq.qb.names x hx
def StOk (q : QS) (k : Nat) (p : List Stp) (s : Stp) : Prop :=
  LOk q s.lits ∧ (
  (s.rule = 1 ∧ k = 1 ∧ 1 ≤ s.first ∧ s.first ≤ q.cl.length ∧ s.second = 0 ∧ s.lits = q.cl.getD (s.first - 1) (0, 0)) ∨
  (s.rule = 2 ∧ k = 2 ∧ s.first = 0 ∧ s.second = 0 ∧ Free s.lits ∧ satQ q.cl s.lits = true) ∨
  (s.rule = 3 ∧ (1 ≤ s.first ∧ s.first ≤ p.length) ∧ (1 ≤ s.second ∧ s.second ≤ p.length) ∧ (∃ x ∈ q.vars, x.1 = s.var ∧ pivotB k x.2 = true) ∧ L (litsAt p s.first) true s.var = true ∧ L (litsAt p s.second) false s.var = true ∧ Free (litsAt p s.first) ∧ Free (litsAt p s.second) ∧ Free s.lits ∧ s.lits = without2 (litsAt p s.first) (litsAt p s.second) s.var) ∨
  (s.rule = 4 ∧ (1 ≤ s.first ∧ s.first ≤ p.length) ∧ s.second = 0 ∧ Free (litsAt p s.first) ∧ s.lits = redQ k q.vars.reverse (litsAt p s.first)))
def POk (q : QS) (k : Nat) (p : List Stp) : Prop := ∀ i (h : i < p.length), StOk q k (p.take i) p[i]
theorem pok_nil (q : QS) (k : Nat) : POk q k [] := fun i h => by simp at h
theorem POk.snoc {q : QS} {k : Nat} {p : List Stp} {s : Stp} (h : POk q k p) (hs : StOk q k p s) : POk q k (p ++ [s]) := by
  intro i hi
  by_cases e : i < p.length
  · rw [List.take_append_of_le_length (Nat.le_of_lt e), List.getElem_append_left e]
    exact h i e
  · have e2 : i = p.length := by simp at hi; omega
    subst e2
    rw [List.take_append_of_le_length (Nat.le_refl _), List.take_length]
    simpa using hs
theorem litsAt_append (p x : List Stp) (n : Nat) (h : n ≤ p.length) : litsAt (p ++ x) n = litsAt p n := by
  unfold litsAt
  split
  · rfl
  · rw [List.getElem?_append_left (by omega)]
theorem litsAt_new (p : List Stp) (s : Stp) : litsAt (p ++ [s]) (p.length + 1) = s.lits := by
  rw [litsAt_in _ _ (by simp)]; simp
theorem POk.lok {q : QS} {k : Nat} {p : List Stp} (h : POk q k p) (n : Nat) : LOk q (litsAt p n) := by
  by_cases hn : 1 ≤ n ∧ n ≤ p.length
  · obtain ⟨m, rfl⟩ : ∃ m, n = m + 1 := ⟨n - 1, by omega⟩
    rw [litsAt_in p m (by omega)]
    exact (h m (by omega)).1
  · rw [litsAt_out p n (by omega)]; exact lok_zero q
theorem lok_sub {q : QS} {c d : Nat × Nat} (h : LOk q c) (hb : Bd d) (hs : ∀ s v, L d s v = true → L c s v = true) : LOk q d := ⟨hb, fun s v hv => h.vars s v (hs s v hv)⟩

/-! ### Reduction -/
theorem var_ok {q : QS} (hq : QGood q) (i : Nat) (hi : i < q.vars.length) : 1 ≤ q.vars[i].1 ∧ q.vars[i].1 ≤ 8 := hq.qb.names _ (List.getElem_mem hi)
theorem redQ_sub {q : QS} (hq : QGood q) (k : Nat) : ∀ (n : Nat), n ≤ q.vars.length → ∀ c s v, L (redQ k (q.vars.take n).reverse c) s v = true → L c s v = true := by
  intro n
  induction n with
  | zero => intro _ c s v h; simpa [redQ] using h
  | succ n ih =>
    intro hn c s v h
    have hv := var_ok hq n (by omega)
    rw [redQ_step k q.vars n (by omega)] at h
    split at h
    · split at h
      · exact h
      · have := ih (by omega) _ s v h
        rw [L_without _ _ hv.1 hv.2, Bool.and_eq_true] at this
        exact this.1
    · exact ih (by omega) _ s v h
theorem red_sub {q : QS} (hq : QGood q) (k : Nat) (c : Nat × Nat) (s : Bool) (v : Nat) (h : L (redQ k q.vars.reverse c) s v = true) : L c s v = true := by
  have := redQ_sub hq k q.vars.length (Nat.le_refl _) c s v
  rw [List.take_length] at this
  exact this h
theorem redQ_idem {q : QS} (hq : QGood q) (k : Nat) : ∀ (n : Nat), n ≤ q.vars.length → ∀ c, redQ k (q.vars.take n).reverse (redQ k (q.vars.take n).reverse c) = redQ k (q.vars.take n).reverse c := by
  intro n
  induction n with
  | zero => intro _ c; rfl
  | succ n ih =>
    intro hn c
    have hv := var_ok hq n (by omega)
    have hno : ∀ d, hasVarB d q.vars[n].1 = false → redQ k (q.vars.take (n + 1)).reverse (redQ k (q.vars.take n).reverse d) = redQ k (q.vars.take n).reverse d := by
      intro d hd
      have h2 : hasVarB (redQ k (q.vars.take n).reverse d) q.vars[n].1 = false := by
        rw [hasVar_L _ _ hv.1 hv.2, Bool.or_eq_false_iff] at hd ⊢
        constructor
        · cases h : L (redQ k (q.vars.take n).reverse d) true q.vars[n].1 with
          | false => rfl
          | true => rw [redQ_sub hq k n (by omega) d true _ h] at hd; exact absurd hd.1 (by simp)
        · cases h : L (redQ k (q.vars.take n).reverse d) false q.vars[n].1 with
          | false => rfl
          | true => rw [redQ_sub hq k n (by omega) d false _ h] at hd; exact absurd hd.2 (by simp)
      rw [redQ_step k q.vars n (by omega), h2, if_neg (by decide)]
      exact ih (by omega) d
    conv => lhs; rw [redQ_step k q.vars n (by omega) c]
    conv => rhs; rw [redQ_step k q.vars n (by omega) c]
    cases h1 : hasVarB c q.vars[n].1 with
    | false => simp only [Bool.false_eq_true, if_false]; exact hno c h1
    | true =>
      simp only [if_true]
      cases h2 : pivotB k q.vars[n].2 with
      | true =>
        simp only [if_true]
        rw [redQ_step k q.vars n (by omega) c, h1, h2]; rfl
      | false =>
        simp only [Bool.false_eq_true, if_false]
        apply hno
        rw [hasVar_L _ _ hv.1 hv.2, L_without _ _ hv.1 hv.2, L_without _ _ hv.1 hv.2]
        simp
theorem red_idem {q : QS} (hq : QGood q) (k : Nat) (c : Nat × Nat) : redQ k q.vars.reverse (redQ k q.vars.reverse c) = redQ k q.vars.reverse c := by
  have := redQ_idem hq k q.vars.length (Nat.le_refl _) c
  rwa [List.take_length] at this
/-- What lies further in than d goes, if none of it could be a pivot. -/
theorem redQ_gone {q : QS} (hq : QGood q) (k d : Nat) : ∀ (n : Nat), n ≤ q.vars.length → ∀ c, (∀ i (hi : i < q.vars.length), d ≤ i → i < n → ∀ s, L c s q.vars[i].1 = true → pivotB k q.vars[i].2 = false) → ∀ i (hi : i < q.vars.length), d ≤ i → i < n → ∀ s, L (redQ k (q.vars.take n).reverse c) s q.vars[i].1 = false := by
  intro n
  induction n with
  | zero => intro _ c _ i _ _ h; omega
  | succ n ih =>
    intro hn c hp i hi hd hin s
    have hv := var_ok hq n (by omega)
    rw [redQ_step k q.vars n (by omega)]
    cases h1 : hasVarB c q.vars[n].1 with
    | false =>
      simp only [Bool.false_eq_true, if_false]
      by_cases e : i = n
      · subst e
        rw [hasVar_L _ _ hv.1 hv.2, Bool.or_eq_false_iff] at h1
        cases h : L (redQ k (q.vars.take i).reverse c) s q.vars[i].1 with
        | false => rfl
        | true =>
          have := redQ_sub hq k i (by omega) c s _ h
          cases s
          · rw [h1.2] at this; cases this
          · rw [h1.1] at this; cases this
      · exact ih (by omega) c (fun j hj h2 h3 => hp j hj h2 (by omega)) i hi hd (by omega) s
    | true =>
      simp only [if_true]
      have hpf : pivotB k q.vars[n].2 = false := by
        rw [hasVar_L _ _ hv.1 hv.2, Bool.or_eq_true] at h1
        rcases h1 with h1 | h1
        · exact hp n (by omega) (by omega) (by omega) true h1
        · exact hp n (by omega) (by omega) (by omega) false h1
      rw [hpf]
      simp only [Bool.false_eq_true, if_false]
      by_cases e : i = n
      · subst e
        cases h : L (redQ k (q.vars.take i).reverse (without c q.vars[i].1)) s q.vars[i].1 with
        | false => rfl
        | true =>
          have := redQ_sub hq k i (by omega) _ s _ h
          rw [L_without _ _ hv.1 hv.2] at this
          simp at this
      · refine ih (by omega) _ (fun j hj h2 h3 t ht => ?_) i hi hd (by omega) s
        rw [L_without _ _ hv.1 hv.2, Bool.and_eq_true] at ht
        exact hp j hj h2 (by omega) t ht.1
/-- The innermost variable of what is reduced is a pivot. -/
theorem red_pivot {q : QS} (hq : QGood q) (k d : Nat) (hd : d < q.vars.length) (c : Nat × Nat) (hr : redQ k q.vars.reverse c = c) (hin : ∀ i (hi : i < q.vars.length), d < i → ∀ s, L c s q.vars[i].1 = false) (hh : hasVarB c q.vars[d].1 = true) : pivotB k q.vars[d].2 = true := by
  have key : ∀ n, d + 1 ≤ n → n ≤ q.vars.length → redQ k (q.vars.take n).reverse c = redQ k (q.vars.take (d + 1)).reverse c := by
    intro n
    induction n with
    | zero => intro h; omega
    | succ n ih =>
      intro h1 h2
      by_cases e : n = d
      · subst e; rfl
      · have hv := var_ok hq n (by omega)
        rw [redQ_step k q.vars n (by omega), show hasVarB c q.vars[n].1 = false from by
          rw [hasVar_L _ _ hv.1 hv.2, hin n (by omega) (by omega) true, hin n (by omega) (by omega) false]; rfl]
        simp only [Bool.false_eq_true, if_false]
        exact ih (by omega) (by omega)
  have h1 := key q.vars.length (by omega) (Nat.le_refl _)
  rw [List.take_length, hr, redQ_step k q.vars d hd, hh] at h1
  simp only [if_true] at h1
  cases hp : pivotB k q.vars[d].2 with
  | true => rfl
  | false =>
    rw [hp] at h1
    simp only [Bool.false_eq_true, if_false] at h1
    have hv := var_ok hq d hd
    rw [hasVar_L _ _ hv.1 hv.2, Bool.or_eq_true] at hh
    exfalso
    rcases hh with hh | hh
    · rw [h1] at hh
      have := redQ_sub hq k d (by omega) _ true _ hh
      rw [L_without _ _ hv.1 hv.2] at this
      simp at this
    · rw [h1] at hh
      have := redQ_sub hq k d (by omega) _ false _ hh
      rw [L_without _ _ hv.1 hv.2] at this
      simp at this
theorem redQ_bd {q : QS} (k : Nat) (c : Nat × Nat) (h : Bd c) : Bd (redQ k q.vars.reverse c) := redQ_lt k _ c h
/-- The reduct, added if it is another. -/
theorem redP_ok {q : QS} (hq : QGood q) (k : Nat) (p : List Stp) (n : Nat) (hp : POk q k p) (h1 : 1 ≤ n) (hn : n ≤ p.length) (hf : Free (litsAt p n)) :
    POk q k (redP q k p n).1 ∧ (∃ x, (redP q k p n).1 = p ++ x ∧ x.length ≤ 1 ∧ ∀ s ∈ x, s.rule ≠ 3) ∧ 1 ≤ (redP q k p n).2 ∧ (redP q k p n).2 ≤ (redP q k p n).1.length ∧ litsAt (redP q k p n).1 (redP q k p n).2 = redQ k q.vars.reverse (litsAt p n) := by
  unfold redP
  split
  · next h => exact ⟨hp, ⟨[], by simp, by simp, by simp⟩, h1, hn, h.symm⟩
  · have hl := hp.lok n
    refine ⟨hp.snoc ⟨lok_sub hl (redQ_bd k _ hl.bd) (fun s v => red_sub hq k _ s v), Or.inr (Or.inr (Or.inr ⟨rfl, ⟨h1, hn⟩, rfl, hf, rfl⟩))⟩, ⟨_, rfl, by simp, by simp⟩, by simp, by simp, litsAt_new _ _⟩
end Go.Proofs.YtgipjjhkhfihpaaGreatDoor

namespace Go.Proofs.YtgipjjhkhfihpaaGreatDoor
open Go.RowKit

/-! ### What holds while nodes are looked at -/
def UniOk (q : QS) (uni : Nat × Nat) : Prop := ∀ s v, L uni s v = true ↔ ∃ x ∈ q.vars, x.1 = v ∧ x.2 = true
structure FactIn (q : QS) (S : SS) (f : Nat × Nat) : Prop where
  kind : f.1 = 1 ∨ f.1 = 2
  lo : 1 ≤ f.2
  hi : f.2 ≤ (S.proof f.1).length
  free : Free (S.lits f)
  red : redQ f.1 q.vars.reverse (S.lits f) = S.lits f
structure SInv (C : SC) (S : SS) : Prop where
  ref : POk C.q 1 S.ref
  len : C.q.cl.length ≤ S.ref.length
  ax : ∀ i (h : i < C.q.cl.length), litsAt S.ref (i + 1) = C.q.cl[i]
  aff : POk C.q 2 S.aff
  kept : ∀ f ∈ S.kept, FactIn C.q S f
  room : S.kept.length ≤ C.room
  most : S.most ≤ C.room
/-- Proofs that only grew. -/
structure Ext (S T : SS) : Prop where
  ref : ∃ x, T.ref = S.ref ++ x
  aff : ∃ x, T.aff = S.aff ++ x
theorem Ext.refl (S : SS) : Ext S S := ⟨⟨[], by simp⟩, ⟨[], by simp⟩⟩
theorem Ext.trans {S T U : SS} (h : Ext S T) (k : Ext T U) : Ext S U := by
  obtain ⟨⟨a, ha⟩, ⟨b, hb⟩⟩ := h
  obtain ⟨⟨c, hc⟩, ⟨d, hd⟩⟩ := k
  exact ⟨⟨a ++ c, by rw [hc, ha, List.append_assoc]⟩, ⟨b ++ d, by rw [hd, hb, List.append_assoc]⟩⟩
theorem Ext.proof {S T : SS} (h : Ext S T) (k : Nat) : ∃ x, T.proof k = S.proof k ++ x := by
  unfold SS.proof; split
  · exact h.aff
  · exact h.ref
theorem Ext.lits {S T : SS} (h : Ext S T) {f : Nat × Nat} (hf : f.2 ≤ (S.proof f.1).length) : T.lits f = S.lits f := by
  obtain ⟨x, hx⟩ := h.proof f.1
  unfold SS.lits; rw [hx, litsAt_append _ _ _ hf]
theorem FactIn.ext {q : QS} {S T : SS} {f : Nat × Nat} (h : FactIn q S f) (he : Ext S T) : FactIn q T f := by
  obtain ⟨x, hx⟩ := he.proof f.1
  have hl := he.lits h.hi
  exact ⟨h.kind, h.lo, by rw [hx, List.length_append]; have := h.hi; omega, by rw [hl]; exact h.free, by rw [hl]; exact h.red⟩
def OnPath (k : Nat) (path c : Nat × Nat) : Prop := ∀ s v, L c s v = true → L path (s == (k == 2)) v = true
structure PathAt (q : QS) (d : Nat) (path : Nat × Nat) : Prop where
  free : Free path
  bd : Bd path
  inn : ∀ s v, L path s v = true → ∃ i, ∃ h : i < q.vars.length, i < d ∧ q.vars[i].1 = v
  all : ∀ i (h : i < q.vars.length), i < d → ∃ s, L path s q.vars[i].1 = true
theorem path_zero (q : QS) : PathAt q 0 (0, 0) :=
  ⟨fun v h => (by rw [L_zero] at h; cases h), ⟨by decide, by decide⟩, fun s v h => (by rw [L_zero] at h; cases h), fun i _ h => (by omega)⟩
theorem PathAt.lok {q : QS} {d : Nat} {path : Nat × Nat} (h : PathAt q d path) : LOk q path :=
  ⟨h.bd, fun s v hv => by obtain ⟨i, hi, _, rfl⟩ := h.inn s v hv; exact List.mem_map_of_mem (List.getElem_mem hi)⟩
theorem index_inj {q : QS} (hq : QGood q) {i j : Nat} (hi : i < q.vars.length) (hj : j < q.vars.length) (h : q.vars[i].1 = q.vars[j].1) : i = j := by
  have hn := hq.nodup
  rw [List.nodup_iff_pairwise_ne, List.pairwise_iff_getElem] at hn
  rcases Nat.lt_trichotomy i j with h1 | h1 | h1
  · exact (hn i j (by simpa using hi) (by simpa using hj) h1 (by simpa using h)).elim
  · exact h1
  · exact (hn j i (by simpa using hj) (by simpa using hi) h1 (by simpa using h.symm)).elim
theorem PathAt.off {q : QS} (hq : QGood q) {d : Nat} {path : Nat × Nat} (h : PathAt q d path) {i : Nat} (hi : i < q.vars.length) (hd : d ≤ i) (s : Bool) : L path s q.vars[i].1 = false := by
  cases hh : L path s q.vars[i].1 with
  | false => rfl
  | true =>
    obtain ⟨j, hj, hjd, he⟩ := h.inn s _ hh
    have := index_inj hq hj hi he
    omega
theorem with_bd (c : Nat × Nat) (x : Int) (h : Bd c) : Bd (withLit c x) := by
  unfold withLit; split
  · exact ⟨h.1, or_lt _ _ h.2 (bitOf_lt _)⟩
  · exact ⟨or_lt _ _ h.1 (bitOf_lt _), h.2⟩
theorem with_free {c : Nat × Nat} {v : Nat} {s : Bool} (h1 : 1 ≤ v) (h8 : v ≤ 8) (h : Free c) (hn : L c (!s) v = false) : Free (withLit c (litI v s)) := by
  intro u a b
  rw [L_with c v s h1 h8] at a b
  rw [Bool.or_eq_true, Bool.and_eq_true] at a b
  rcases a with a | ⟨a1, a2⟩
  · rcases b with b | ⟨b1, b2⟩
    · exact h u a b
    · have e : u = v := of_decide_eq_true b2
      subst e
      cases s
      · simp only [Bool.not_false] at hn; rw [hn] at a; cases a
      · cases b1
  · have e : u = v := of_decide_eq_true a2
    subst e
    rcases b with b | ⟨b1, b2⟩
    · cases s
      · cases a1
      · simp only [Bool.not_true] at hn; rw [hn] at b; cases b
    · cases s
      · cases a1
      · cases b1
theorem PathAt.next {q : QS} (hq : QGood q) {d : Nat} {path : Nat × Nat} (h : PathAt q d path) (hd : d < q.vars.length) (s : Bool) : PathAt q (d + 1) (withLit path (litI q.vars[d].1 s)) := by
  have hv := var_ok hq d hd
  refine ⟨with_free hv.1 hv.2 h.free (h.off hq hd (Nat.le_refl _) _), with_bd _ _ h.bd, fun t v ht => ?_, fun i hi hid => ?_⟩
  · rw [L_with _ _ _ hv.1 hv.2, Bool.or_eq_true, Bool.and_eq_true] at ht
    rcases ht with ht | ⟨_, ht⟩
    · obtain ⟨i, hi, hid, he⟩ := h.inn t v ht
      exact ⟨i, hi, by omega, he⟩
    · exact ⟨d, hd, by omega, (of_decide_eq_true ht).symm⟩
  · by_cases e : i = d
    · subst e
      exact ⟨s, by rw [L_with _ _ _ hv.1 hv.2]; simp⟩
    · obtain ⟨t, ht⟩ := h.all i hi (by omega)
      exact ⟨t, by rw [L_with _ _ _ hv.1 hv.2, ht]; rfl⟩

/-! ### Keeping -/
theorem storeK_mem {room : Nat} {kept : List (Nat × Nat)} {f g : Nat × Nat} (h : g ∈ storeK room kept f) : g ∈ kept ∨ g = f := by
  unfold storeK at h
  split at h
  · exact Or.inl h
  · split at h
    · rcases List.mem_append.1 h with h | h
      · exact Or.inl (List.mem_of_mem_drop h)
      · exact Or.inr (by simpa using h)
    · rcases List.mem_append.1 h with h | h
      · exact Or.inl h
      · exact Or.inr (by simpa using h)
theorem storeK_len {room : Nat} {kept : List (Nat × Nat)} {f : Nat × Nat} (h : kept.length ≤ room) : (storeK room kept f).length ≤ room := by
  unfold storeK
  split
  · exact h
  · split
    · simp; omega
    · simp; omega
theorem keep_ref (r : Nat) (S : SS) (f : Nat × Nat) : (S.keep r f).ref = S.ref ∧ (S.keep r f).aff = S.aff ∧ (S.keep r f).nodes = S.nodes := by
  unfold SS.keep; split
  · exact ⟨rfl, rfl, rfl⟩
  · exact ⟨rfl, rfl, rfl⟩
theorem keep_ext (r : Nat) (S : SS) (f : Nat × Nat) : Ext S (S.keep r f) := by
  obtain ⟨h1, h2, _⟩ := keep_ref r S f
  exact ⟨⟨[], by rw [h1]; simp⟩, ⟨[], by rw [h2]; simp⟩⟩
theorem keep_ok {C : SC} {S : SS} {f : Nat × Nat} (h : SInv C S) (hf : FactIn C.q S f) : SInv C (S.keep C.room f) := by
  have he := keep_ext C.room S f
  obtain ⟨h1, h2, _⟩ := keep_ref C.room S f
  have hk : (∀ g ∈ (S.keep C.room f).kept, FactIn C.q S g) ∧ (S.keep C.room f).kept.length ≤ C.room ∧ (S.keep C.room f).most ≤ C.room := by
    unfold SS.keep; split
    · exact ⟨h.kept, h.room, h.most⟩
    · refine ⟨fun g hg => ?_, storeK_len h.room, ?_⟩
      · rcases storeK_mem hg with hg | hg
        · exact h.kept g hg
        · rw [hg]; exact hf
      · have := storeK_len (f := f) h.room
        show storeM _ _ _ _ ≤ _
        unfold storeM
        split
        · exact h.most
        · split
          · exact this
          · exact h.most
  exact ⟨by rw [h1]; exact h.ref, by rw [h1]; exact h.len, fun i hi => by rw [h1]; exact h.ax i hi, by rw [h2]; exact h.aff, fun g hg => (hk.1 g hg).ext he, hk.2.1, hk.2.2⟩
/-- The same with longer proofs. -/
theorem SInv.grow {C : SC} {S : SS} (h : SInv C S) {p : List Stp} (hp : ∃ x, p = S.ref ++ x) (hok : POk C.q 1 p) : SInv C { S with ref := p } := by
  have he : Ext S { S with ref := p } := ⟨hp, ⟨[], by simp⟩⟩
  obtain ⟨x, rfl⟩ := hp
  exact ⟨hok, by have := h.len; simp; omega, fun i hi => by rw [litsAt_append _ _ _ (by have := h.len; omega)]; exact h.ax i hi, h.aff, fun g hg => (h.kept g hg).ext he, h.room, h.most⟩
theorem SInv.growA {C : SC} {S : SS} (h : SInv C S) {p : List Stp} (hp : ∃ x, p = S.aff ++ x) (hok : POk C.q 2 p) : SInv C { S with aff := p } := by
  have he : Ext S { S with aff := p } := ⟨⟨[], by simp⟩, hp⟩
  exact ⟨h.ref, h.len, h.ax, hok, fun g hg => (h.kept g hg).ext he, h.room, h.most⟩
theorem clauses_in {C : SC} {S : SS} (h : SInv C S) {s : Nat} (hs : s ∈ clausesOf C.q S.kept) : 1 ≤ s ∧ s ≤ S.ref.length := by
  unfold clausesOf at hs
  rcases List.mem_append.1 hs with hs | hs
  · obtain ⟨i, hi, rfl⟩ := List.mem_map.1 hs
    have := List.mem_range.1 hi
    have := h.len
    omega
  · obtain ⟨f, hf, rfl⟩ := List.mem_map.1 hs
    rw [List.mem_filter] at hf
    have h1 := h.kept f hf.1
    have h2 : f.1 = 1 := by simpa using hf.2
    refine ⟨h1.lo, ?_⟩
    have := h1.hi
    unfold SS.proof at this
    rwa [h2, if_neg (by decide)] at this

/-! ### Units -/
def UnitAt (q : QS) (ref : List Stp) (cs : List Nat) (pre : Nat × Nat) (t : Int × Nat) : Prop :=
  ∃ v s, t.1 = litI v s ∧ (∃ x ∈ q.vars, x.1 = v ∧ x.2 = false) ∧ L pre true v = false ∧ L pre false v = false ∧ t.2 ∈ cs ∧ Free (litsAt ref t.2) ∧ L (litsAt ref t.2) s v = true ∧ ∀ u r, L (litsAt ref t.2) r u = true → (u = v ∧ r = s) ∨ L pre (!r) u = true
/-- The units, the last one ahead. -/
def TrailR (q : QS) (ref : List Stp) (cs : List Nat) (path : Nat × Nat) : List (Int × Nat) → Nat × Nat → Prop
  | [], vals => vals = path
  | t :: ts, vals => ∃ pre, TrailR q ref cs path ts pre ∧ UnitAt q ref cs pre t ∧ vals = withLit pre t.1
theorem unit_at {q : QS} (hq : QGood q) {uni : Nat × Nat} (hu : UniOk q uni) {ref : List Stp} (hp : POk q 1 ref) {cs : List Nat} {vals : Nat × Nat} (h : (unitOf ref uni cs vals).2 ≠ 0) : UnitAt q ref cs vals (unitOf ref uni cs vals) := by
  unfold unitOf at h ⊢
  cases hf : cs.find? (fun s => isUnit uni vals (litsAt ref s)) with
  | none => rw [hf] at h; exact absurd rfl h
  | some s =>
    have hm := List.mem_of_find?_eq_some hf
    have hi := List.find?_some hf
    simp only at hi ⊢
    unfold isUnit openB at hi
    rw [Bool.and_eq_true, Bool.and_eq_true, Bool.and_eq_true, Bool.not_eq_true', Bool.not_eq_true', Bool.not_eq_true', beq_iff_eq] at hi
    obtain ⟨⟨hme, hcl⟩, hlen, hun⟩ := hi
    obtain ⟨u, t, h1, h8, hhd, hL, hone⟩ := list_one hlen
    have hl := hp.lok s
    rw [L_left, Bool.and_eq_true, Bool.not_eq_true'] at hL
    have hnm : ∀ t v, L (litsAt ref s) t v = true → L vals t v = false := fun t v ht => by
      cases hh : L vals t v with
      | false => rfl
      | true => rw [(meets_iff _ _).2 ⟨t, v, ht, hh⟩] at hme; cases hme
    have hboth : L vals true u = false ∧ L vals false u = false := by
      have a := hL.2
      have b := hnm t u hL.1
      cases t
      · exact ⟨a, b⟩
      · exact ⟨b, a⟩
    obtain ⟨x, hx, hxe⟩ := List.mem_map.1 (hl.vars t u hL.1)
    refine ⟨u, t, hhd, ⟨x, hx, hxe, ?_⟩, hboth.1, hboth.2, hm, (free_iff _).1 hcl, hL.1, fun w r hr => ?_⟩
    · cases hxu : x.2 with
      | false => rfl
      | true =>
        have := (hu t u).2 ⟨x, hx, hxe, hxu⟩
        rw [(meets_iff _ _).2 ⟨t, u, by rw [L_left, hL.1, hL.2]; rfl, this⟩] at hun
        cases hun
    · cases hh : L vals (!r) w with
      | true => exact Or.inr rfl
      | false =>
        have hn := hq.name (hl.vars r w hr)
        have := hone r w hn.1 hn.2 (by rw [L_left, hr, hh]; rfl)
        exact Or.inl this
theorem conf_at {ref : List Stp} {uni : Nat × Nat} {cs : List Nat} {vals : Nat × Nat} (h : confOf ref uni cs vals ≠ 0) : confOf ref uni cs vals ∈ cs ∧ isConf uni vals (litsAt ref (confOf ref uni cs vals)) = true := by
  unfold confOf at h ⊢
  cases hf : cs.find? (fun s => isConf uni vals (litsAt ref s)) with
  | none => rw [hf] at h; exact absurd rfl h
  | some s =>
    have h2 := List.find?_some hf
    exact ⟨List.mem_of_find?_eq_some hf, h2⟩
theorem unitsGo_ok {q : QS} (hq : QGood q) {uni : Nat × Nat} (hu : UniOk q uni) {ref : List Stp} (hp : POk q 1 ref) {cs : List Nat} {path : Nat × Nat} : ∀ (m : Nat) (vals : Nat × Nat) (trail : List (Int × Nat)), TrailR q ref cs path trail.reverse vals →
    TrailR q ref cs path (unitsGo ref uni cs m vals trail).trail.reverse (unitsGo ref uni cs m vals trail).vals ∧ (unitsGo ref uni cs m vals trail).trail.length ≤ trail.length + m ∧
    ((unitsGo ref uni cs m vals trail).conf ≠ 0 → (unitsGo ref uni cs m vals trail).conf ∈ cs ∧ isConf uni (unitsGo ref uni cs m vals trail).vals (litsAt ref (unitsGo ref uni cs m vals trail).conf) = true) := by
  intro m
  induction m with
  | zero => intro vals trail h; exact ⟨h, by simp [unitsGo], fun h => absurd rfl h⟩
  | succ m ih =>
    intro vals trail h
    rw [unitsGo]
    split
    · next hc => exact ⟨h, by simp, fun _ => conf_at hc⟩
    · split
      · exact ⟨h, by simp, fun h => absurd rfl h⟩
      · next hn =>
        have := ih (withLit vals (unitOf ref uni cs vals).1) (trail ++ [unitOf ref uni cs vals]) (by
          rw [List.reverse_append]
          exact ⟨vals, h, unit_at hq hu hp hn, rfl⟩)
        refine ⟨this.1, ?_, this.2.2⟩
        have h2 := this.2.1
        simp at h2
        omega
/-- The values: free, of the formula's variables; beyond the path of existential ones alone. -/
theorem trail_vals {q : QS} (hq : QGood q) {ref : List Stp} {cs : List Nat} {d : Nat} {path : Nat × Nat} (hpa : PathAt q d path) : ∀ (ts : List (Int × Nat)) (vals : Nat × Nat), TrailR q ref cs path ts vals →
    Free vals ∧ LOk q vals ∧ (∀ s v, L path s v = true → L vals s v = true) ∧ (∀ s v, L vals s v = true → L path s v = true ∨ ((∃ x ∈ q.vars, x.1 = v ∧ x.2 = false) ∧ L path true v = false ∧ L path false v = false)) := by
  intro ts
  induction ts with
  | nil => intro vals h; subst h; exact ⟨hpa.free, hpa.lok, fun _ _ h => h, fun _ _ h => Or.inl h⟩
  | cons t ts ih =>
    rintro vals ⟨pre, hpre, ⟨v, s, ht, ⟨x, hx, hxe, hxu⟩, hn1, hn2, _⟩, rfl⟩
    obtain ⟨h1, h2, h3, h4⟩ := ih pre hpre
    have hv := hq.qb.names x hx
    rw [hxe] at hv
    rw [ht]
    refine ⟨with_free hv.1 hv.2 h1 (by cases s <;> assumption), ⟨with_bd _ _ h2.bd, fun r u hr => ?_⟩, fun r u hr => by rw [L_with _ _ _ hv.1 hv.2, h3 r u hr]; rfl, fun r u hr => ?_⟩
    · rw [L_with _ _ _ hv.1 hv.2, Bool.or_eq_true, Bool.and_eq_true] at hr
      rcases hr with hr | ⟨_, hr⟩
      · exact h2.vars r u hr
      · rw [of_decide_eq_true hr, ← hxe]; exact List.mem_map_of_mem hx
    · rw [L_with _ _ _ hv.1 hv.2, Bool.or_eq_true, Bool.and_eq_true] at hr
      rcases hr with hr | ⟨_, hr⟩
      · exact h4 r u hr
      · have e : u = v := of_decide_eq_true hr
        subst e
        refine Or.inr ⟨⟨x, hx, hxe, hxu⟩, ?_, ?_⟩
        · cases hh : L path true u with
          | false => rfl
          | true => rw [h3 _ _ hh] at hn1; cases hn1
        · cases hh : L path false u with
          | false => rfl
          | true => rw [h3 _ _ hh] at hn2; cases hn2
end Go.Proofs.YtgipjjhkhfihpaaGreatDoor
