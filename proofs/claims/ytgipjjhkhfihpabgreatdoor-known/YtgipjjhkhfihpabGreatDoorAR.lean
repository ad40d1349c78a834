import Derived.Test.YtgipjjhkhfihpabGreatDoorAQ
import Derived.Test.YtgipjjhkhfihpabGreatDoorAG
import Derived.Test.YtgipjjhkhfihpabGreatDoorAL
namespace Go.Proofs.YtgipjjhkhfihpabGreatDoor
open Go.RowKit

/-! ### explain -/
theorem expl_step (ms : List (Int × Nat)) (k : Nat) (h : k < ms.length) (p : List Stp) (n : Nat) : expl (ms.take (k + 1)).reverse p n = if hasLit (litsAt p n) (-ms[k].1) then expl (ms.take k).reverse (resP p ms[k].2 n ms[k].1.natAbs).1 (resP p ms[k].2 n ms[k].1.natAbs).2 else expl (ms.take k).reverse p n := by
  rw [List.take_succ_eq_append_getElem h, List.reverse_append]; rfl
structure TrailBd (ms : List (Int × Nat)) : Prop where
  len : ms.length ≤ 1000
  lit : ∀ u ∈ ms, -8 ≤ u.1 ∧ u.1 ≤ 8
theorem SBd.setRef {C : SC} {S : SS} (h : SBd C S) {p : List Stp} (hl : p.length ≤ 100000) (hb : ∀ s ∈ p, s.lits.1 < 512 ∧ s.lits.2 < 512) : SBd C { S with ref := p } := h.put (Or.inl rfl) hl hb
theorem explain_as (C : SC) (S : SS) (u : US) (p : List Stp) (n : Nat) (h : expl u.trail.reverse S.ref u.conf = (p, n)) : explain C S u = (if n ≠ u.conf then (({ S with ref := p } : SS).reduce C.q (1, n)).1.keep C.room (({ S with ref := p } : SS).reduce C.q (1, n)).2 else (({ S with ref := p } : SS).reduce C.q (1, n)).1, (({ S with ref := p } : SS).reduce C.q (1, n)).2) := by
  unfold explain
  rw [h]
  rfl
set_option maxRecDepth 100000 in
set_option maxHeartbeats 6400000 in
theorem explain_any (b : Nat) (C : SC) (S : SS) (V : SV) (u : US) (aT : Option Addr) (cT base : Nat) (w : World) (hS : SAt w b C S V) (hB : SBd C S) (hT : w.ownsRow base 139 2 (.slice aT u.trail.length cT) u.trail.length (unitCells u.trail)) (hTB : TrailBd u.trail) (hfar : ∀ k, (Value.slice aT u.trail.length cT).ownBlock = some k → Far b V k) (hrl : S.ref.length ≤ 90000) (hcf : u.conf ≤ 100000) :
    Calls Tryz.prog 51 #[.pointer (some ⟨b, 0, none⟩), .agg #[.int .i64 (u.vals.1 : Int), .int .i64 (u.vals.2 : Int), .slice aT u.trail.length cT, .int .i64 (u.conf : Int)]] w fun e w' => e = .returned (FactV (explain C S u).2) ∧ SPost b C (explain C S u).1 V w w' := by
  obtain ⟨⟨v1, v2⟩, trail, conf⟩ := u
  dsimp only at hT hTB hfar hcf ⊢
  have htl := hTB.len
  have HTB := hide hTB.lit
  clear hTB
  go_enter Tryz.func51, Tryz.ntmps51
  go_wp2_with fail
  generalize hw0 : ((w.alloc (.cells #[.int .i64 (v1 : Int), .int .i64 (v2 : Int), .slice aT trail.length cT, .int .i64 (conf : Int)] 117)).alloc (.cells #[.int .i64 0, .int .i64 0] 85)) = u1
  have hb0 : Below w.heap.size w u1 := by rw [← hw0]; exact ((Below.refl _ _).alloc (Nat.le_refl _) _).alloc (by simp; try omega) _
  have huu : u1.heap[w.heap.size]? = some (.cells #[.int .i64 (v1 : Int), .int .i64 (v2 : Int), .slice aT trail.length cT, .int .i64 (conf : Int)] 117 (0, 0)) := by rw [← hw0, heap_alloc_old _ _ (by simp; try omega)]; exact alloc_new_at (by simp)
  have nuu : Far b V (w.heap.size) := hS.fresh (by omega)
  have hrs : u1.heap[w.heap.size + 1]? = some (.cells #[.int .i64 0, .int .i64 0] 85 (0, 0)) := by rw [← hw0]; exact alloc_new_at (by simp)
  have nrs : Far b V (w.heap.size + 1) := hS.fresh (by omega)
  clear hw0
  have hM : SMoved b w u1 V V := SMoved.of_below hb0
  replace hS := hS.later hb0
  have lb := blk_lt hS.fb
  have cuu0 : u1.cell? ⟨w.heap.size, 0, none⟩ = some (.int .i64 (v1 : Int)) := by rw [blk_cell huu]; rfl
  have cuu1 : u1.cell? ⟨w.heap.size, 1, none⟩ = some (.int .i64 (v2 : Int)) := by rw [blk_cell huu]; rfl
  have cuu2 : u1.cell? ⟨w.heap.size, 2, none⟩ = some (.slice aT trail.length cT) := by rw [blk_cell huu]; rfl
  have cuu3 : u1.cell? ⟨w.heap.size, 3, none⟩ = some (.int .i64 (conf : Int)) := by rw [blk_cell huu]; rfl
  have luu := blk_lt huu
  have crs0 : u1.cell? ⟨w.heap.size + 1, 0, none⟩ = some (.int .i64 0) := by rw [blk_cell hrs]; rfl
  have crs1 : u1.cell? ⟨w.heap.size + 1, 1, none⟩ = some (.int .i64 0) := by rw [blk_cell hrs]; rfl
  have lrs := blk_lt hrs
  have hT1 := own_below hT hb0
  go_wp2_with fail
  go_loopg [5, 6] (trail.length + 1) (fun m sv i wx => ∃ (k n : Nat) (p : List Stp) (V' : SV), i = .int .i64 ((k : Int) - 1) ∧ sv = .int .i64 (n : Int) ∧ k + 1 ≤ m ∧ m ≤ k + 1 ∧ k ≤ trail.length ∧ n ≤ 100000 ∧ p.length + k ≤ S.ref.length + trail.length ∧ (∀ s ∈ p, s.lits.1 < 512 ∧ s.lits.2 < 512) ∧ expl trail.reverse S.ref conf = expl (trail.take k).reverse p n ∧ SAt wx b C { S with ref := p } V' ∧ SMoved b u1 wx V V')
  case atStart => exact ⟨trail.length, conf, S.ref, V, by go_num, rfl, by omega, by omega, by omega, hcf, by omega, hB.ref, by rw [List.take_length], hS, SMoved.of_below (Below.refl _ _)⟩
  case round =>
    obtain ⟨k, n, p, V', rfl, rfl, hkm, hkm2, hkl, hn, hpl, hpb, hex, hSr, hMr⟩ := hrel
    have HEX := hide hex
    clear hex
    have hur := hMr.blk huu nuu
    have hrr := hMr.blk hrs nrs
    have nrr := hMr.far lrs nrs
    have nur := hMr.far luu nuu
    have hBr := hB.setRef (p := p) (by omega) hpb
    have lur := blk_lt hur
    have lrr := blk_lt hrr
    have lbr := blk_lt hSr.fb
    have cu2 : wr.cell? ⟨w.heap.size, 2, none⟩ = some (.slice aT trail.length cT) := by rw [blk_cell hur]; rfl
    have cu3 : wr.cell? ⟨w.heap.size, 3, none⟩ = some (.int .i64 (conf : Int)) := by rw [blk_cell hur]; rfl
    cases k with
    | zero =>
      have HE0 : Hid (expl trail.reverse S.ref conf = (p, n)) := hide (by rw [unhide HEX]; rfl)
      replace huu := hur
      replace hrs := hrr
      replace nuu := nur
      replace nrs := nrr
      replace hS := hSr
      replace hM := hM.trans hMr
      replace lb := lbr
      clear hur hrr nur nrr hSr hMr lbr
      replace cuu0 : wr.cell? ⟨w.heap.size, 0, none⟩ = some (.int .i64 (v1 : Int)) := by rw [blk_cell huu]; rfl
      replace cuu1 : wr.cell? ⟨w.heap.size, 1, none⟩ = some (.int .i64 (v2 : Int)) := by rw [blk_cell huu]; rfl
      replace cuu2 : wr.cell? ⟨w.heap.size, 2, none⟩ = some (.slice aT trail.length cT) := by rw [blk_cell huu]; rfl
      replace cuu3 : wr.cell? ⟨w.heap.size, 3, none⟩ = some (.int .i64 (conf : Int)) := by rw [blk_cell huu]; rfl
      replace luu := blk_lt huu
      replace crs0 : wr.cell? ⟨w.heap.size + 1, 0, none⟩ = some (.int .i64 0) := by rw [blk_cell hrs]; rfl
      replace crs1 : wr.cell? ⟨w.heap.size + 1, 1, none⟩ = some (.int .i64 0) := by rw [blk_cell hrs]; rfl
      replace lrs := blk_lt hrs
      go_wp2_with fail
      refine (sreduce_any b C { S with ref := p } V' (1, n) _ hS hBr (Or.inl rfl) (by omega)).mono ?_
      rintro e u2 ⟨rfl, V3, hS2, hM2⟩
      replace huu := hM2.blk huu nuu
      replace nuu := hM2.far luu nuu
      replace hrs := hM2.blk hrs nrs
      replace nrs := hM2.far lrs nrs
      replace hM := hM.trans hM2
      replace hS := hS2
      clear hM2
      replace lb := blk_lt hS.fb
      replace cuu0 : u2.cell? ⟨w.heap.size, 0, none⟩ = some (.int .i64 (v1 : Int)) := by rw [blk_cell huu]; rfl
      replace cuu1 : u2.cell? ⟨w.heap.size, 1, none⟩ = some (.int .i64 (v2 : Int)) := by rw [blk_cell huu]; rfl
      replace cuu2 : u2.cell? ⟨w.heap.size, 2, none⟩ = some (.slice aT trail.length cT) := by rw [blk_cell huu]; rfl
      replace cuu3 : u2.cell? ⟨w.heap.size, 3, none⟩ = some (.int .i64 (conf : Int)) := by rw [blk_cell huu]; rfl
      replace luu := blk_lt huu
      replace crs0 : u2.cell? ⟨w.heap.size + 1, 0, none⟩ = some (.int .i64 0) := by rw [blk_cell hrs]; rfl
      replace crs1 : u2.cell? ⟨w.heap.size + 1, 1, none⟩ = some (.int .i64 0) := by rw [blk_cell hrs]; rfl
      replace lrs := blk_lt hrs
      have hB3 := reduce_bd hBr (Or.inl rfl) n (show p.length ≤ 99999 by omega)
      have HX := hide (explain_as C S ⟨(v1, v2), trail, conf⟩ p n (unhide HE0))
      generalize ({ S with ref := p } : SS).reduce C.q (1, n) = R at *
      obtain ⟨S3, f1, f2⟩ := R
      dsimp only at hS hB3 HX ⊢
      by_cases hnc : n = conf
      · have hq1 : ((n : Int) == (conf : Int)) = true := by rw [beq_iff_eq]; omega
        have hq2 : (n == conf) = true := by rw [beq_iff_eq]; omega
        have z0 := blk_free hrs 0
        have z1 := blk_free hrs 1
        have hR := blk_set (blk_set hrs 0 (.int .i64 (f1 : Int))) 1 (.int .i64 (f2 : Int))
        have hAl : Below ((u2.setCell ⟨w.heap.size + 1, 0, none⟩ (.int .i64 (f1 : Int))).setCell ⟨w.heap.size + 1, 1, none⟩ (.int .i64 (f2 : Int))).heap.size ((u2.setCell ⟨w.heap.size + 1, 0, none⟩ (.int .i64 (f1 : Int))).setCell ⟨w.heap.size + 1, 1, none⟩ (.int .i64 (f2 : Int))) (((u2.setCell ⟨w.heap.size + 1, 0, none⟩ (.int .i64 (f1 : Int))).setCell ⟨w.heap.size + 1, 1, none⟩ (.int .i64 (f2 : Int))).alloc (.cells #[.int .i64 (f1 : Int), .int .i64 (f2 : Int)] 85)) := (Below.refl _ _).alloc (Nat.le_refl _) _
        have hRA := (hAl.block _ (blk_lt hR)).trans hR
        have j0 := blk_cell hRA 0
        have j1 := blk_cell hRA 1
        have j2 := blk_cell hR 0
        have j3 := blk_cell hR 1
        go_wp2_with fail
        refine bodyPost_ret (v := FactV (f1, f2)) (by simp [results, Tryz.results51, go_sem, j0, j1]) rfl ⟨by rw [unhide HX], ?_⟩
        rw [unhide HX, if_neg (fun h => h hnc)]
        exact ⟨V3, ((hS.set nrs 0 _).set nrs 1 _).later hAl, ((hM.set (k := w.heap.size + 1) (by omega) 0 _).set (k := w.heap.size + 1) (by omega) 1 _).trans (SMoved.of_below hAl)⟩
      · have hq1 : ((n : Int) == (conf : Int)) = false := by rw [beq_eq_false_iff_ne]; omega
        have hq2 : (n == conf) = false := by rw [beq_eq_false_iff_ne]; omega
        go_wp2_with fail
        have nfo : Far b V3 u2.heap.size := hS.fresh (Nat.le_refl _)
        generalize hw0 : u2.alloc (.cells #[.int .i64 (f1 : Int), .int .i64 (f2 : Int)] 85) = u3
        have b3 : Below u2.heap.size u2 u3 := by rw [← hw0]; exact (Below.refl _ _).alloc (Nat.le_refl _) _
        have hfo : u3.heap[u2.heap.size]? = some (.cells #[.int .i64 (f1 : Int), .int .i64 (f2 : Int)] 85 (0, 0)) := by rw [← hw0]; exact heap_alloc_new _ _
        clear hw0
        replace hM := hM.trans (SMoved.of_below b3)
        replace hS := hS.later b3
        replace lb := blk_lt hS.fb
        replace huu := (b3.block _ (blk_lt huu)).trans huu
        replace cuu0 : u3.cell? ⟨w.heap.size, 0, none⟩ = some (.int .i64 (v1 : Int)) := by rw [blk_cell huu]; rfl
        replace cuu1 : u3.cell? ⟨w.heap.size, 1, none⟩ = some (.int .i64 (v2 : Int)) := by rw [blk_cell huu]; rfl
        replace cuu2 : u3.cell? ⟨w.heap.size, 2, none⟩ = some (.slice aT trail.length cT) := by rw [blk_cell huu]; rfl
        replace cuu3 : u3.cell? ⟨w.heap.size, 3, none⟩ = some (.int .i64 (conf : Int)) := by rw [blk_cell huu]; rfl
        replace luu := blk_lt huu
        replace hrs := (b3.block _ (blk_lt hrs)).trans hrs
        replace crs0 : u3.cell? ⟨w.heap.size + 1, 0, none⟩ = some (.int .i64 0) := by rw [blk_cell hrs]; rfl
        replace crs1 : u3.cell? ⟨w.heap.size + 1, 1, none⟩ = some (.int .i64 0) := by rw [blk_cell hrs]; rfl
        replace lrs := blk_lt hrs
        have cfo0 : u3.cell? ⟨u2.heap.size, 0, none⟩ = some (.int .i64 (f1 : Int)) := by rw [blk_cell hfo]; rfl
        have cfo1 : u3.cell? ⟨u2.heap.size, 1, none⟩ = some (.int .i64 (f2 : Int)) := by rw [blk_cell hfo]; rfl
        have lfo := blk_lt hfo
        refine (skeep_any b C S3 V3 (f1, f2) _ hS hB3).mono ?_
        rintro e u4 ⟨rfl, V4, hS2, hM2⟩
        replace huu := hM2.blk huu nuu
        replace nuu := hM2.far luu nuu
        replace hrs := hM2.blk hrs nrs
        replace nrs := hM2.far lrs nrs
        replace hfo := hM2.blk hfo nfo
        replace nfo := hM2.far lfo nfo
        replace hM := hM.trans hM2
        replace hS := hS2
        clear hM2
        replace lb := blk_lt hS.fb
        replace cuu0 : u4.cell? ⟨w.heap.size, 0, none⟩ = some (.int .i64 (v1 : Int)) := by rw [blk_cell huu]; rfl
        replace cuu1 : u4.cell? ⟨w.heap.size, 1, none⟩ = some (.int .i64 (v2 : Int)) := by rw [blk_cell huu]; rfl
        replace cuu2 : u4.cell? ⟨w.heap.size, 2, none⟩ = some (.slice aT trail.length cT) := by rw [blk_cell huu]; rfl
        replace cuu3 : u4.cell? ⟨w.heap.size, 3, none⟩ = some (.int .i64 (conf : Int)) := by rw [blk_cell huu]; rfl
        replace luu := blk_lt huu
        replace crs0 : u4.cell? ⟨w.heap.size + 1, 0, none⟩ = some (.int .i64 0) := by rw [blk_cell hrs]; rfl
        replace crs1 : u4.cell? ⟨w.heap.size + 1, 1, none⟩ = some (.int .i64 0) := by rw [blk_cell hrs]; rfl
        replace lrs := blk_lt hrs
        replace cfo0 : u4.cell? ⟨u2.heap.size, 0, none⟩ = some (.int .i64 (f1 : Int)) := by rw [blk_cell hfo]; rfl
        replace cfo1 : u4.cell? ⟨u2.heap.size, 1, none⟩ = some (.int .i64 (f2 : Int)) := by rw [blk_cell hfo]; rfl
        replace lfo := blk_lt hfo
        have z0 := blk_free hrs 0
        have z1 := blk_free hrs 1
        have hR := blk_set (blk_set hrs 0 (.int .i64 (f1 : Int))) 1 (.int .i64 (f2 : Int))
        have j0 := blk_cell hR 0
        have j1 := blk_cell hR 1
        go_wp2_with fail
        refine bodyPost_ret (v := FactV (f1, f2)) (by simp [results, Tryz.results51, go_sem, j0, j1]) rfl ⟨by rw [unhide HX], ?_⟩
        rw [unhide HX, if_pos hnc]
        exact ⟨V4, (hS.set nrs 0 _).set nrs 1 _, (hM.set (k := w.heap.size + 1) (by omega) 0 _).set (k := w.heap.size + 1) (by omega) 1 _⟩
    | succ k =>
      have hlt : k < trail.length := by omega
      have HST := hide (expl_step trail k hlt p n)
      have hlit := unhide HTB _ (List.getElem_mem hlt)
      obtain ⟨g, cap, hVe, _, hg', _, hcell⟩ := own_pos hT1 (by omega)
      injection hVe with hVe _ hV2
      subst hVe hV2
      obtain ⟨e0, e1⟩ := unitCells_at trail k hlt
      have nT : Far b V g := hfar g rfl
      have hgc : ∀ j u, (unitCells trail)[j]? = some u → wr.cell? ⟨g, j, none⟩ = some u := fun j u hj => by
        rw [cell_same (w := u1) (hMr.only.block g hg' nT.ts)]; exact hcell j u hj
      have hx0 := hgc _ _ e0
      have hx1 := hgc _ _ e1
      have hgw : g < wr.heap.size := Nat.lt_of_lt_of_le hg' hMr.only.size
      clear hgc hcell e0 e1
      have hlt9 := litsAt_lt p hpb n
      generalize trail[k] = made at *
      obtain ⟨x, ms⟩ := made
      dsimp only at *
      replace huu := hur
      replace hrs := hrr
      replace nuu := nur
      replace nrs := nrr
      replace hS := hSr
      replace hM := hMr
      replace lb := lbr
      clear hur hrr nur nrr hSr hMr lbr
      replace cuu0 : wr.cell? ⟨w.heap.size, 0, none⟩ = some (.int .i64 (v1 : Int)) := by rw [blk_cell huu]; rfl
      replace cuu1 : wr.cell? ⟨w.heap.size, 1, none⟩ = some (.int .i64 (v2 : Int)) := by rw [blk_cell huu]; rfl
      replace cuu2 : wr.cell? ⟨w.heap.size, 2, none⟩ = some (.slice (some ⟨g, 0, none⟩) trail.length cT) := by rw [blk_cell huu]; rfl
      replace cuu3 : wr.cell? ⟨w.heap.size, 3, none⟩ = some (.int .i64 (conf : Int)) := by rw [blk_cell huu]; rfl
      replace luu := blk_lt huu
      replace crs0 : wr.cell? ⟨w.heap.size + 1, 0, none⟩ = some (.int .i64 0) := by rw [blk_cell hrs]; rfl
      replace crs1 : wr.cell? ⟨w.heap.size + 1, 1, none⟩ = some (.int .i64 0) := by rw [blk_cell hrs]; rfl
      replace lrs := blk_lt hrs
      go_wp2_with fail
      have nmd : Far b V' wr.heap.size := hS.fresh (Nat.le_refl _)
      generalize hw0 : wr.alloc (.cells #[.int .i64 x, .int .i64 (ms : Int)] 139) = u2
      have b2 : Below wr.heap.size wr u2 := by rw [← hw0]; exact (Below.refl _ _).alloc (Nat.le_refl _) _
      have hmd : u2.heap[wr.heap.size]? = some (.cells #[.int .i64 x, .int .i64 (ms : Int)] 139 (0, 0)) := by rw [← hw0]; exact heap_alloc_new _ _
      clear hw0
      replace hM := hM.trans (SMoved.of_below b2)
      replace hS := hS.later b2
      replace lb := blk_lt hS.fb
      replace huu := (b2.block _ (blk_lt huu)).trans huu
      replace cuu0 : u2.cell? ⟨w.heap.size, 0, none⟩ = some (.int .i64 (v1 : Int)) := by rw [blk_cell huu]; rfl
      replace cuu1 : u2.cell? ⟨w.heap.size, 1, none⟩ = some (.int .i64 (v2 : Int)) := by rw [blk_cell huu]; rfl
      replace cuu2 : u2.cell? ⟨w.heap.size, 2, none⟩ = some (.slice (some ⟨g, 0, none⟩) trail.length cT) := by rw [blk_cell huu]; rfl
      replace cuu3 : u2.cell? ⟨w.heap.size, 3, none⟩ = some (.int .i64 (conf : Int)) := by rw [blk_cell huu]; rfl
      replace luu := blk_lt huu
      replace hrs := (b2.block _ (blk_lt hrs)).trans hrs
      replace crs0 : u2.cell? ⟨w.heap.size + 1, 0, none⟩ = some (.int .i64 0) := by rw [blk_cell hrs]; rfl
      replace crs1 : u2.cell? ⟨w.heap.size + 1, 1, none⟩ = some (.int .i64 0) := by rw [blk_cell hrs]; rfl
      replace lrs := blk_lt hrs
      have cmd0 : u2.cell? ⟨wr.heap.size, 0, none⟩ = some (.int .i64 x) := by rw [blk_cell hmd]; rfl
      have cmd1 : u2.cell? ⟨wr.heap.size, 1, none⟩ = some (.int .i64 (ms : Int)) := by rw [blk_cell hmd]; rfl
      have lmd := blk_lt hmd
      have c7 : u2.cell? ⟨b, 7, none⟩ = some V'.r := by rw [blk_cell hS.fb]; rfl
      refine (plits_any _ b 6 p V'.r n _ c7 hS.oR (by omega)).mono ?_
      rintro e u3 ⟨rfl, b3⟩
      replace hM := hM.trans (SMoved.of_below b3)
      replace hS := hS.later b3
      replace lb := blk_lt hS.fb
      replace huu := (b3.block _ (blk_lt huu)).trans huu
      replace cuu0 : u3.cell? ⟨w.heap.size, 0, none⟩ = some (.int .i64 (v1 : Int)) := by rw [blk_cell huu]; rfl
      replace cuu1 : u3.cell? ⟨w.heap.size, 1, none⟩ = some (.int .i64 (v2 : Int)) := by rw [blk_cell huu]; rfl
      replace cuu2 : u3.cell? ⟨w.heap.size, 2, none⟩ = some (.slice (some ⟨g, 0, none⟩) trail.length cT) := by rw [blk_cell huu]; rfl
      replace cuu3 : u3.cell? ⟨w.heap.size, 3, none⟩ = some (.int .i64 (conf : Int)) := by rw [blk_cell huu]; rfl
      replace luu := blk_lt huu
      replace hrs := (b3.block _ (blk_lt hrs)).trans hrs
      replace crs0 : u3.cell? ⟨w.heap.size + 1, 0, none⟩ = some (.int .i64 0) := by rw [blk_cell hrs]; rfl
      replace crs1 : u3.cell? ⟨w.heap.size + 1, 1, none⟩ = some (.int .i64 0) := by rw [blk_cell hrs]; rfl
      replace lrs := blk_lt hrs
      replace hmd := (b3.block _ (blk_lt hmd)).trans hmd
      replace cmd0 : u3.cell? ⟨wr.heap.size, 0, none⟩ = some (.int .i64 x) := by rw [blk_cell hmd]; rfl
      replace cmd1 : u3.cell? ⟨wr.heap.size, 1, none⟩ = some (.int .i64 (ms : Int)) := by rw [blk_cell hmd]; rfl
      replace lmd := blk_lt hmd
      clear c7
      generalize litsAt p n = cl at *
      obtain ⟨l1, l2⟩ := cl
      dsimp only at hlt9
      go_wp2_with fail
      have ncl : Far b V' u3.heap.size := hS.fresh (Nat.le_refl _)
      generalize hw0 : u3.alloc (.cells #[.int .i64 (l1 : Int), .int .i64 (l2 : Int)] 77) = u4
      have b4 : Below u3.heap.size u3 u4 := by rw [← hw0]; exact (Below.refl _ _).alloc (Nat.le_refl _) _
      have hcl : u4.heap[u3.heap.size]? = some (.cells #[.int .i64 (l1 : Int), .int .i64 (l2 : Int)] 77 (0, 0)) := by rw [← hw0]; exact heap_alloc_new _ _
      clear hw0
      replace hM := hM.trans (SMoved.of_below b4)
      replace hS := hS.later b4
      replace lb := blk_lt hS.fb
      replace huu := (b4.block _ (blk_lt huu)).trans huu
      replace cuu0 : u4.cell? ⟨w.heap.size, 0, none⟩ = some (.int .i64 (v1 : Int)) := by rw [blk_cell huu]; rfl
      replace cuu1 : u4.cell? ⟨w.heap.size, 1, none⟩ = some (.int .i64 (v2 : Int)) := by rw [blk_cell huu]; rfl
      replace cuu2 : u4.cell? ⟨w.heap.size, 2, none⟩ = some (.slice (some ⟨g, 0, none⟩) trail.length cT) := by rw [blk_cell huu]; rfl
      replace cuu3 : u4.cell? ⟨w.heap.size, 3, none⟩ = some (.int .i64 (conf : Int)) := by rw [blk_cell huu]; rfl
      replace luu := blk_lt huu
      replace hrs := (b4.block _ (blk_lt hrs)).trans hrs
      replace crs0 : u4.cell? ⟨w.heap.size + 1, 0, none⟩ = some (.int .i64 0) := by rw [blk_cell hrs]; rfl
      replace crs1 : u4.cell? ⟨w.heap.size + 1, 1, none⟩ = some (.int .i64 0) := by rw [blk_cell hrs]; rfl
      replace lrs := blk_lt hrs
      replace hmd := (b4.block _ (blk_lt hmd)).trans hmd
      replace cmd0 : u4.cell? ⟨wr.heap.size, 0, none⟩ = some (.int .i64 x) := by rw [blk_cell hmd]; rfl
      replace cmd1 : u4.cell? ⟨wr.heap.size, 1, none⟩ = some (.int .i64 (ms : Int)) := by rw [blk_cell hmd]; rfl
      replace lmd := blk_lt hmd
      have ccl0 : u4.cell? ⟨u3.heap.size, 0, none⟩ = some (.int .i64 (l1 : Int)) := by rw [blk_cell hcl]; rfl
      have ccl1 : u4.cell? ⟨u3.heap.size, 1, none⟩ = some (.int .i64 (l2 : Int)) := by rw [blk_cell hcl]; rfl
      have lcl := blk_lt hcl
      refine (has_any l1 l2 (-x) _ hlt9.1 hlt9.2 (by omega) (by omega)).mono ?_
      rintro e u5 ⟨rfl, b5⟩
      replace hM := hM.trans (SMoved.of_below b5)
      replace hS := hS.later b5
      replace lb := blk_lt hS.fb
      replace huu := (b5.block _ (blk_lt huu)).trans huu
      replace cuu0 : u5.cell? ⟨w.heap.size, 0, none⟩ = some (.int .i64 (v1 : Int)) := by rw [blk_cell huu]; rfl
      replace cuu1 : u5.cell? ⟨w.heap.size, 1, none⟩ = some (.int .i64 (v2 : Int)) := by rw [blk_cell huu]; rfl
      replace cuu2 : u5.cell? ⟨w.heap.size, 2, none⟩ = some (.slice (some ⟨g, 0, none⟩) trail.length cT) := by rw [blk_cell huu]; rfl
      replace cuu3 : u5.cell? ⟨w.heap.size, 3, none⟩ = some (.int .i64 (conf : Int)) := by rw [blk_cell huu]; rfl
      replace luu := blk_lt huu
      replace hrs := (b5.block _ (blk_lt hrs)).trans hrs
      replace crs0 : u5.cell? ⟨w.heap.size + 1, 0, none⟩ = some (.int .i64 0) := by rw [blk_cell hrs]; rfl
      replace crs1 : u5.cell? ⟨w.heap.size + 1, 1, none⟩ = some (.int .i64 0) := by rw [blk_cell hrs]; rfl
      replace lrs := blk_lt hrs
      replace hmd := (b5.block _ (blk_lt hmd)).trans hmd
      replace cmd0 : u5.cell? ⟨wr.heap.size, 0, none⟩ = some (.int .i64 x) := by rw [blk_cell hmd]; rfl
      replace cmd1 : u5.cell? ⟨wr.heap.size, 1, none⟩ = some (.int .i64 (ms : Int)) := by rw [blk_cell hmd]; rfl
      replace lmd := blk_lt hmd
      replace hcl := (b5.block _ (blk_lt hcl)).trans hcl
      replace ccl0 : u5.cell? ⟨u3.heap.size, 0, none⟩ = some (.int .i64 (l1 : Int)) := by rw [blk_cell hcl]; rfl
      replace ccl1 : u5.cell? ⟨u3.heap.size, 1, none⟩ = some (.int .i64 (l2 : Int)) := by rw [blk_cell hcl]; rfl
      replace lcl := blk_lt hcl
      cases hhl : hasLit (l1, l2) (-x) with
      | false =>
        have HF : Hid (expl trail.reverse S.ref conf = expl (trail.take k).reverse p n) := hide (by rw [unhide HEX, unhide HST, hhl]; rfl)
        clear hhl
        go_wp2_with fail
        go_roundg (gk - 1)
        case measure => omega
        case rel => exact ⟨k, n, p, V', by go_num, rfl, by omega, by omega, by omega, hn, by omega, hpb, unhide HF, hS, hM⟩
      | true =>
        have HST2 : Hid (expl trail.reverse S.ref conf = expl (trail.take k).reverse (resP p ms n x.natAbs).1 (resP p ms n x.natAbs).2) := hide (by rw [unhide HEX, unhide HST, hhl]; rfl)
        clear hhl
        go_wp2_with fail
        refine (varOf_any x _ (by omega) (by omega)).mono ?_
        rintro e w8 ⟨rfl, hw8⟩
        rw [hw8]
        clear hw8 w8
        go_wp2_with fail
        have hDr : Below u5.heap.size u5 u5.drew := (Below.refl _ _).drew
        have hSd := hS.later hDr
        have hMd := hM.trans (SMoved.of_below hDr)
        go_region_with (go_at_call 75; refine (presolve_any b 6 _ _ p _ 1 ms n x.natAbs _ (hSd.pat (Or.inl rfl)) (by omega) hpb (by omega)).mono ?_; rintro e u9 ⟨rfl, hgo⟩; obtain ⟨V2, hS2, hM2⟩ := hSd.put (Or.inl rfl) hgo; clear hgo)
        all_goals
          have hrb := resP_bd p ms n x.natAbs hpb
          generalize resP p ms n x.natAbs = R at *
          obtain ⟨q, rn⟩ := R
          dsimp only at hrb HST2 hS2 ⊢
          obtain ⟨hr1, hr2, hr3⟩ := hrb
          have HR3 : Hid (rn ≤ 100000 ∧ q.length + k ≤ S.ref.length + trail.length) := hide ⟨by omega, by omega⟩
          clear hr2 hr3
          go_wp2_with fail
          go_roundg (gk - 1)
          case measure => omega
          case rel => exact ⟨k, rn, q, V2, by go_num, rfl, by omega, by omega, by omega, (unhide HR3).1, (unhide HR3).2, hr1, unhide HST2, hS2, hMd.trans hM2⟩
end Go.Proofs.YtgipjjhkhfihpabGreatDoor

namespace Go.Proofs.YtgipjjhkhfihpabGreatDoor
open Go.RowKit

/-! ### Bounds while nodes are looked at -/
structure CBd (C : SC) : Prop where
  qg : QGood C.q
  uni : UniOk C.q C.uni
  ub : C.uni.1 < 512 ∧ C.uni.2 < 512
  budget : C.budget ≤ 1048576
  room : C.room ≤ 64
structure LIn (C : SC) (S : SS) : Prop where
  inv : SInv C S
  size : sizeS S ≤ 100 + 12 * S.nodes
  nodes : S.nodes ≤ 2000
theorem pok_bd {q : QS} {k : Nat} {p : List Stp} (h : POk q k p) : ∀ s ∈ p, s.lits.1 < 512 ∧ s.lits.2 < 512 := by
  intro s hs
  obtain ⟨i, hi, rfl⟩ := List.mem_iff_getElem.1 hs
  exact (h i hi).1.bd
theorem sizeS_le (S : SS) : S.ref.length ≤ sizeS S ∧ S.aff.length ≤ sizeS S := ⟨Nat.le_add_right _ _, Nat.le_add_left _ _⟩
theorem LIn.bd {C : SC} {S : SS} (hC : CBd C) (h : LIn C S) : SBd C S := by
  have h1 := h.size
  have h2 := h.nodes
  have h3 := sizeS_le S
  have h4 := hC.room
  have h5 := h.inv.room
  have h6 := h.inv.most
  refine ⟨hC.qg.qb, hC.ub, pok_bd h.inv.ref, pok_bd h.inv.aff, by omega, by omega, by omega, fun f hf => ?_, hC.budget, h4, by omega, by omega⟩
  have hk := h.inv.kept f hf
  have hi := hk.hi
  refine ⟨by rcases hk.kind with e | e <;> omega, ?_⟩
  unfold SS.proof at hi
  split at hi <;> omega
/-- Behind a node. -/
def branchM (C : SC) : Nat → Nat × Nat → Nat → Nat × Nat → SS → SS × (Nat × Nat)
  | 0, _, _, _, s => (s, (0, 0))
  | m + 1, path, depth, vals, s1 =>
      let v := (C.q.vars.getD depth (0, false)).1
      let side : Int := if hasLit vals (-(v : Int)) then -(v : Int) else v
      let a := lookM C m (withLit path side) (depth + 1) s1
      if hasVarB (a.1.lits a.2) v then
        let b := lookM C m (withLit path (-side)) (depth + 1) a.1
        if hasVarB (b.1.lits b.2) v then joinOf C b.1 a.2 b.2 v else b
      else a
def afterNode (C : SC) (m : Nat) (path : Nat × Nat) (d : Nat) : (SS × (Nat × Nat)) ⊕ (SS × (Nat × Nat)) → SS × (Nat × Nat)
  | .inl r => r
  | .inr r => branchM C m path d r.2 r.1
theorem lookM_as (C : SC) (m : Nat) (path : Nat × Nat) (d : Nat) (S : SS) : lookM C m path d S = afterNode C m path d (nodeOf C S path) := by
  cases m with
  | zero => rw [lookM]; cases nodeOf C S path <;> rfl
  | succ m => rw [lookM]; cases nodeOf C S path <;> rfl
/-- What a look is given. -/
structure LookIn (C : SC) (m d : Nat) (path : Nat × Nat) (S : SS) : Prop where
  lin : LIn C S
  path : PathAt C.q d path
  dm : d + m = C.q.vars.length
  most : S.nodes + 2 ^ (m + 1) ≤ 2001
/-- What a branch is given. -/
structure BranchIn (C : SC) (m d : Nat) (path vals : Nat × Nat) (S : SS) : Prop where
  lin : LIn C S
  path : PathAt C.q d path
  vals : vals.1 < 512 ∧ vals.2 < 512
  dm : d + m = C.q.vars.length
  most : S.nodes + 2 ^ (m + 1) ≤ 2002
def LookSpec (m : Nat) : Prop := ∀ (b : Nat) (C : SC) (S : SS) (V : SV) (path : Nat × Nat) (d : Nat) (w : World), CBd C → LookIn C m d path S → SAt w b C S V →
  Calls Tryz.prog 30 #[.pointer (some ⟨b, 0, none⟩), SetV path, .int .i64 (d : Int)] w fun e w' => e = .returned (FactV (lookM C m path d S).2) ∧ SPost b C (lookM C m path d S).1 V w w'
def BranchSpec (m : Nat) : Prop := ∀ (b : Nat) (C : SC) (S : SS) (V : SV) (path vals : Nat × Nat) (d : Nat) (w : World), CBd C → BranchIn C m d path vals S → SAt w b C S V →
  Calls Tryz.prog 53 #[.pointer (some ⟨b, 0, none⟩), SetV path, .int .i64 (d : Int), SetV vals] w fun e w' => e = .returned (FactV (branchM C m path d vals S).2) ∧ SPost b C (branchM C m path d vals S).1 V w w'
theorem LookIn.lk {C : SC} (hC : CBd C) {m d : Nat} {path : Nat × Nat} {S : SS} (h : LookIn C m d path S) : LookOk C m path S (lookM C m path d S) := look_ok hC.qg hC.uni m d path S h.lin.inv h.path h.dm
theorem LookIn.out {C : SC} (hC : CBd C) {m d : Nat} {path : Nat × Nat} {S : SS} (h : LookIn C m d path S) : LIn C (lookM C m path d S).1 := by
  have hk := h.lk hC
  have h1 := h.lin.size
  have h2 := hk.size
  have h3 := hk.mono
  have h4 := hk.most
  have h5 := h.most
  generalize 2 ^ (m + 1) = X at *
  exact ⟨hk.inv, by omega, by omega⟩
/-- The near side. -/
theorem BranchIn.near {C : SC} (hC : CBd C) {m d : Nat} {path vals : Nat × Nat} {S : SS} (h : BranchIn C (m + 1) d path vals S) (hd : d < C.q.vars.length) (s : Bool) : LookIn C m (d + 1) (withLit path (litI C.q.vars[d].1 s)) S := by
  have h1 := h.dm
  have h2 := h.most
  refine ⟨h.lin, h.path.next hC.qg hd s, by omega, ?_⟩
  have hpow : 2 ^ (m + 1 + 1) = 2 ^ (m + 1) + 2 ^ (m + 1) := by rw [Nat.pow_succ 2 (m + 1)]; omega
  have hpos : 0 < 2 ^ (m + 1) := Nat.pow_pos (by decide)
  generalize 2 ^ (m + 1 + 1) = Y at *
  generalize 2 ^ (m + 1) = X at *
  omega
theorem BranchIn.far {C : SC} (hC : CBd C) {m d : Nat} {path vals : Nat × Nat} {S : SS} (h : BranchIn C (m + 1) d path vals S) (hd : d < C.q.vars.length) (s t : Bool) : LookIn C m (d + 1) (withLit path (litI C.q.vars[d].1 t)) (lookM C m (withLit path (litI C.q.vars[d].1 s)) (d + 1) S).1 := by
  have h1 := h.dm
  have h2 := h.most
  have hn := h.near hC hd s
  have h3 := (hn.lk hC).most
  refine ⟨hn.out hC, h.path.next hC.qg hd t, by omega, ?_⟩
  have hpow : 2 ^ (m + 1 + 1) = 2 ^ (m + 1) + 2 ^ (m + 1) := by rw [Nat.pow_succ 2 (m + 1)]; omega
  generalize 2 ^ (m + 1 + 1) = Y at *
  generalize 2 ^ (m + 1) = X at *
  omega
/-- Behind the node. -/
theorem LookIn.node {C : SC} (_hC : CBd C) {m d : Nat} {path : Nat × Nat} {S : SS} (h : LookIn C m d path S) (_hb : ¬ (0 < C.budget ∧ C.budget ≤ S.nodes)) : LIn C { S with nodes := S.nodes + 1 } := by
  have h1 := h.lin.size
  have h5 := h.most
  have hpow : 2 ^ (m + 1) = 2 ^ m + 2 ^ m := by rw [Nat.pow_succ 2 m]; omega
  have hpos : 0 < 2 ^ m := Nat.pow_pos (by decide)
  generalize 2 ^ (m + 1) = X at *
  generalize 2 ^ m = Y at *
  refine ⟨nodes_inv h.lin.inv _, ?_, ?_⟩
  · show sizeS S ≤ 100 + 12 * (S.nodes + 1)
    omega
  · show S.nodes + 1 ≤ 2000
    omega
theorem units_bd {C : SC} (hC : CBd C) {S : SS} (h : SInv C S) {d : Nat} {path : Nat × Nat} (hp : PathAt C.q d path) : ((unitsOf C S path).vals.1 < 512 ∧ (unitsOf C S path).vals.2 < 512) ∧ TrailBd (unitsOf C S path).trail ∧ (unitsOf C S path).conf ≤ S.ref.length := by
  obtain ⟨h1, h2, h3⟩ := units_ok hC.qg hC.uni h path
  obtain ⟨_, t2, _, _⟩ := trail_vals hC.qg hp _ _ h1
  have hvl := hC.qg.qb.vl
  refine ⟨t2.bd, ⟨by omega, ?_⟩, ?_⟩
  · have key : ∀ (ts : List (Int × Nat)) (vals : Nat × Nat), TrailR C.q S.ref (clausesOf C.q S.kept) path ts vals → ∀ u ∈ ts, -8 ≤ u.1 ∧ u.1 ≤ 8 := by
      intro ts
      induction ts with
      | nil => intro vals _ u hu; cases hu
      | cons t ts ih =>
        rintro vals ⟨pre, hpre, ⟨v, s, ht, ⟨x, hx, hxe, hxu⟩, _⟩, rfl⟩ u hu
        rcases List.mem_cons.1 hu with rfl | hu
        · have hv := hC.qg.qb.names x hx
          rw [ht]
          unfold litI
          split <;> omega
        · exact ih pre hpre u hu
    intro u hu
    exact key _ _ h1 u (List.mem_reverse.2 hu)
  · by_cases h0 : (unitsOf C S path).conf = 0
    · omega
    · exact (clauses_in h (h3 h0).1).2
/-! ### A node, case by case -/
theorem node_out {C : SC} {S : SS} {path : Nat × Nat} (hb : 0 < C.budget ∧ C.budget ≤ S.nodes) : nodeOf C S path = .inl (S, (0, 0)) := by unfold nodeOf; rw [if_pos hb]
theorem node_conf {C : SC} {S : SS} {path : Nat × Nat} (hb : ¬ (0 < C.budget ∧ C.budget ≤ S.nodes)) (hc : (unitsOf C { S with nodes := S.nodes + 1 } path).conf ≠ 0) : nodeOf C S path = .inl (explain C { S with nodes := S.nodes + 1 } (unitsOf C { S with nodes := S.nodes + 1 } path)) := by
  unfold nodeOf; rw [if_neg hb]; dsimp only; rw [if_pos hc]
theorem node_won {C : SC} {S : SS} {path : Nat × Nat} (hb : ¬ (0 < C.budget ∧ C.budget ≤ S.nodes)) (hc : (unitsOf C { S with nodes := S.nodes + 1 } path).conf = 0) (hr : (cubeOf C { S with nodes := S.nodes + 1 } path (unitsOf C { S with nodes := S.nodes + 1 } path).vals).2.1 ≠ 0) : nodeOf C S path = .inl (cubeOf C { S with nodes := S.nodes + 1 } path (unitsOf C { S with nodes := S.nodes + 1 } path).vals) := by
  unfold nodeOf; rw [if_neg hb]; dsimp only; rw [if_neg (fun h => h hc), if_pos hr]
theorem node_on {C : SC} {S : SS} {path : Nat × Nat} (hb : ¬ (0 < C.budget ∧ C.budget ≤ S.nodes)) (hc : (unitsOf C { S with nodes := S.nodes + 1 } path).conf = 0) (hr : (cubeOf C { S with nodes := S.nodes + 1 } path (unitsOf C { S with nodes := S.nodes + 1 } path).vals).2.1 = 0) : nodeOf C S path = .inr ((cubeOf C { S with nodes := S.nodes + 1 } path (unitsOf C { S with nodes := S.nodes + 1 } path).vals).1, (unitsOf C { S with nodes := S.nodes + 1 } path).vals) := by
  unfold nodeOf; rw [if_neg hb]; dsimp only; rw [if_neg (fun h => h hc), if_neg (fun h => h hr)]
theorem LookIn.branch {C : SC} (hC : CBd C) {m d : Nat} {path : Nat × Nat} {S : SS} (h : LookIn C m d path S) {r : SS} {vals : Nat × Nat} (hn : nodeOf C S path = .inr (r, vals)) (hv : vals.1 < 512 ∧ vals.2 < 512) : BranchIn C m d path vals r := by
  obtain ⟨n1, n2⟩ := node_ok hC.qg hC.uni h.lin.inv h.path
  rw [hn] at n1 n2
  simp only [nodeSt] at n1 n2
  rcases n2 with ⟨_, _, h3⟩ | ⟨h1, h2, _⟩
  · cases h3
  have hsz := n1.size
  have hi := n1.inv
  dsimp only at hsz hi
  have h4 := h.lin.size
  have h5 := h.most
  have hpow : 2 ^ (m + 1) = 2 ^ m + 2 ^ m := by rw [Nat.pow_succ 2 m]; omega
  have hpos : 0 < 2 ^ m := Nat.pow_pos (by decide)
  refine ⟨⟨hi, by omega, ?_⟩, h.path, hv, h.dm, ?_⟩
  · generalize 2 ^ (m + 1) = X at *
    generalize 2 ^ m = Y at *
    omega
  · generalize 2 ^ (m + 1) = X at *
    generalize 2 ^ m = Y at *
    omega
theorem LookSpec.next {m : Nat} (h : LookSpec m) (b : Nat) (C : SC) (S : SS) (V : SV) (path : Nat × Nat) (d : Nat) (w : World) (hC : CBd C) (hi : LookIn C m (d + 1) path S) (hS : SAt w b C S V) :
  Calls Tryz.prog 30 #[.pointer (some ⟨b, 0, none⟩), SetV path, .int .i64 ((d : Int) + 1)] w fun e w' => e = .returned (FactV (lookM C m path (d + 1) S).2) ∧ SPost b C (lookM C m path (d + 1) S).1 V w w' := h b C S V path (d + 1) w hC hi hS
/-! ### A branch, case by case -/
theorem branchM_as (C : SC) (m d : Nat) (path vals : Nat × Nat) (S : SS) (v : Nat) (x y : Int) (hv : (C.q.vars.getD d (0, false)).1 = v) (hx : (if hasLit vals (-(v : Int)) then -(v : Int) else (v : Int)) = x) (hy : -x = y) :
    branchM C (m + 1) path d vals S = if hasVarB ((lookM C m (withLit path x) (d + 1) S).1.lits (lookM C m (withLit path x) (d + 1) S).2) v then
      (if hasVarB ((lookM C m (withLit path y) (d + 1) (lookM C m (withLit path x) (d + 1) S).1).1.lits (lookM C m (withLit path y) (d + 1) (lookM C m (withLit path x) (d + 1) S).1).2) v then joinOf C (lookM C m (withLit path y) (d + 1) (lookM C m (withLit path x) (d + 1) S).1).1 (lookM C m (withLit path x) (d + 1) S).2 (lookM C m (withLit path y) (d + 1) (lookM C m (withLit path x) (d + 1) S).1).2 v else lookM C m (withLit path y) (d + 1) (lookM C m (withLit path x) (d + 1) S).1)
      else lookM C m (withLit path x) (d + 1) S := by
  rw [branchM]
  dsimp only
  rw [hv, hx, hy]
theorem LookOk.kind {C : SC} {m : Nat} {path : Nat × Nat} {S : SS} {r : SS × (Nat × Nat)} (h : LookOk C m path S r) {v : Nat} (hh : hasVarB (r.1.lits r.2) v = true) : r.2.1 = 1 ∨ r.2.1 = 2 := by
  have ha0 : r.2.1 ≠ 0 := fun e => by rw [zero_has _ _ e (h.zero e)] at hh; cases hh
  exact (h.fact ha0).inn.kind
theorem LIn.plen {C : SC} {S : SS} (h : LIn C S) (k : Nat) : (S.proof k).length ≤ 99990 := by
  have h1 := h.size
  have h2 := h.nodes
  have h3 := sizeS_le S
  unfold SS.proof
  split <;> omega
theorem SAt.setNodes {w : World} {b : Nat} {C : SC} {S : SS} {V : SV} (h : SAt w b C S V) (n : Nat) : SAt (w.setCell ⟨b, 5, none⟩ (.int .i64 (n : Int))) b C { S with nodes := n } V :=
  ⟨blk_set h.fb 5 _, own_set_ne h.oV (own_type_ne h.oV h.fb (by decide)) _, own_set_ne h.oC (own_type_ne h.oC h.fb (by decide)) _, own_set_ne h.oR (own_type_ne h.oR h.fb (by decide)) _, own_set_ne h.oA (own_type_ne h.oA h.fb (by decide)) _,
   h.oK.keep (T := fun j => j = b) ((Only.refl (fun j => j = b) w).setCell (p := ⟨b, 5, none⟩) (Or.inl rfl) _) (fun j hj e => by subst e; obtain ⟨c, hc⟩ := h.oK.blk j hj; exact absurd (blk_type hc h.fb) (by decide)), h.ap⟩
end Go.Proofs.YtgipjjhkhfihpabGreatDoor

namespace Go.Proofs.YtgipjjhkhfihpabGreatDoor
open Go.RowKit

/-! ### holds, left: reading alone -/
set_option maxRecDepth 100000 in
set_option maxHeartbeats 1600000 in
theorem holds_any (b : Nat) (C : SC) (S : SS) (V : SV) (f p : Nat × Nat) (w : World) (hS : SAt w b C S V) (hB : SBd C S) (hp : p.1 < 512 ∧ p.2 < 512) :
    Calls Tryz.prog 78 #[.pointer (some ⟨b, 0, none⟩), FactV f, SetV p] w fun e w' => e = .returned (.bool (holdsB (S.lits f) p)) ∧ Below w.heap.size w w' := by
  obtain ⟨fk, fs⟩ := f
  obtain ⟨p1, p2⟩ := p
  have hlt := hB.lits (fk, fs)
  go_enter Tryz.func78, Tryz.ntmps78
  go_wp2_with fail
  generalize hw0 : ((w.alloc (.cells #[.int .i64 (fk : Int), .int .i64 (fs : Int)] 85)).alloc (.cells #[.int .i64 (p1 : Int), .int .i64 (p2 : Int)] 77)) = u1
  have hBw : Below w.heap.size w u1 := by rw [← hw0]; exact ((Below.refl _ _).alloc (Nat.le_refl _) _).alloc (by simp) _
  have hfa : u1.heap[w.heap.size]? = some (.cells #[.int .i64 (fk : Int), .int .i64 (fs : Int)] 85 (0, 0)) := by rw [← hw0, heap_alloc_old _ _ (by simp)]; exact alloc_new_at (by simp)
  have hpa : u1.heap[w.heap.size + 1]? = some (.cells #[.int .i64 (p1 : Int), .int .i64 (p2 : Int)] 77 (0, 0)) := by rw [← hw0]; exact alloc_new_at (by simp)
  clear hw0
  have cfa0 : u1.cell? ⟨w.heap.size, 0, none⟩ = some (.int .i64 (fk : Int)) := by rw [blk_cell hfa]; rfl
  have cfa1 : u1.cell? ⟨w.heap.size, 1, none⟩ = some (.int .i64 (fs : Int)) := by rw [blk_cell hfa]; rfl
  have lfa := blk_lt hfa
  have cpa0 : u1.cell? ⟨w.heap.size + 1, 0, none⟩ = some (.int .i64 (p1 : Int)) := by rw [blk_cell hpa]; rfl
  have cpa1 : u1.cell? ⟨w.heap.size + 1, 1, none⟩ = some (.int .i64 (p2 : Int)) := by rw [blk_cell hpa]; rfl
  have lpa := blk_lt hpa
  refine (slits_any b C S V (fk, fs) _ (hS.later hBw) hB).mono ?_
  rintro e u2 ⟨rfl, b2⟩
  replace hBw := hBw.trans (b2.mono hBw.size)
  replace hfa := (b2.block _ (blk_lt hfa)).trans hfa
  replace cfa0 : u2.cell? ⟨w.heap.size, 0, none⟩ = some (.int .i64 (fk : Int)) := by rw [blk_cell hfa]; rfl
  replace cfa1 : u2.cell? ⟨w.heap.size, 1, none⟩ = some (.int .i64 (fs : Int)) := by rw [blk_cell hfa]; rfl
  replace lfa := blk_lt hfa
  replace hpa := (b2.block _ (blk_lt hpa)).trans hpa
  replace cpa0 : u2.cell? ⟨w.heap.size + 1, 0, none⟩ = some (.int .i64 (p1 : Int)) := by rw [blk_cell hpa]; rfl
  replace cpa1 : u2.cell? ⟨w.heap.size + 1, 1, none⟩ = some (.int .i64 (p2 : Int)) := by rw [blk_cell hpa]; rfl
  replace lpa := blk_lt hpa
  have HH : Hid (holdsB (S.lits (fk, fs)) (p1, p2) = emptyB (minus (S.lits (fk, fs)) (p1, p2))) := hide rfl
  have HHS : Hid (holdsB (S.lits (fk, fs)) (p1, p2) = holdsB (S.lits (fk, fs)) (p1, p2)) := hide rfl
  generalize hea : S.lits (fk, fs) = c at *
  have HEC := hide hea
  clear hea HHS
  obtain ⟨c1, c2⟩ := c
  have hm := minus_lt (c1, c2) (p1, p2) hlt
  go_wp2_with fail
  generalize hw0 : u2.alloc (.cells #[.int .i64 (c1 : Int), .int .i64 (c2 : Int)] 77) = u3
  have b3 : Below u2.heap.size u2 u3 := by rw [← hw0]; exact (Below.refl _ _).alloc (Nat.le_refl _) _
  have hcu : u3.heap[u2.heap.size]? = some (.cells #[.int .i64 (c1 : Int), .int .i64 (c2 : Int)] 77 (0, 0)) := by rw [← hw0]; exact heap_alloc_new _ _
  clear hw0
  replace hBw := hBw.trans (b3.mono hBw.size)
  replace hfa := (b3.block _ (blk_lt hfa)).trans hfa
  replace cfa0 : u3.cell? ⟨w.heap.size, 0, none⟩ = some (.int .i64 (fk : Int)) := by rw [blk_cell hfa]; rfl
  replace cfa1 : u3.cell? ⟨w.heap.size, 1, none⟩ = some (.int .i64 (fs : Int)) := by rw [blk_cell hfa]; rfl
  replace lfa := blk_lt hfa
  replace hpa := (b3.block _ (blk_lt hpa)).trans hpa
  replace cpa0 : u3.cell? ⟨w.heap.size + 1, 0, none⟩ = some (.int .i64 (p1 : Int)) := by rw [blk_cell hpa]; rfl
  replace cpa1 : u3.cell? ⟨w.heap.size + 1, 1, none⟩ = some (.int .i64 (p2 : Int)) := by rw [blk_cell hpa]; rfl
  replace lpa := blk_lt hpa
  have ccu0 : u3.cell? ⟨u2.heap.size, 0, none⟩ = some (.int .i64 (c1 : Int)) := by rw [blk_cell hcu]; rfl
  have ccu1 : u3.cell? ⟨u2.heap.size, 1, none⟩ = some (.int .i64 (c2 : Int)) := by rw [blk_cell hcu]; rfl
  have lcu := blk_lt hcu
  refine (lwithout_any c1 c2 p1 p2 _ hlt.1 hlt.2 hp.1 hp.2).mono ?_
  rintro e u4 ⟨rfl, b4⟩
  replace hBw := hBw.trans (b4.mono hBw.size)
  replace hfa := (b4.block _ (blk_lt hfa)).trans hfa
  replace cfa0 : u4.cell? ⟨w.heap.size, 0, none⟩ = some (.int .i64 (fk : Int)) := by rw [blk_cell hfa]; rfl
  replace cfa1 : u4.cell? ⟨w.heap.size, 1, none⟩ = some (.int .i64 (fs : Int)) := by rw [blk_cell hfa]; rfl
  replace lfa := blk_lt hfa
  replace hpa := (b4.block _ (blk_lt hpa)).trans hpa
  replace cpa0 : u4.cell? ⟨w.heap.size + 1, 0, none⟩ = some (.int .i64 (p1 : Int)) := by rw [blk_cell hpa]; rfl
  replace cpa1 : u4.cell? ⟨w.heap.size + 1, 1, none⟩ = some (.int .i64 (p2 : Int)) := by rw [blk_cell hpa]; rfl
  replace lpa := blk_lt hpa
  replace hcu := (b4.block _ (blk_lt hcu)).trans hcu
  replace ccu0 : u4.cell? ⟨u2.heap.size, 0, none⟩ = some (.int .i64 (c1 : Int)) := by rw [blk_cell hcu]; rfl
  replace ccu1 : u4.cell? ⟨u2.heap.size, 1, none⟩ = some (.int .i64 (c2 : Int)) := by rw [blk_cell hcu]; rfl
  replace lcu := blk_lt hcu
  generalize hea : minus (c1, c2) (p1, p2) = c at *
  have HED := hide hea
  clear hea
  obtain ⟨d1, d2⟩ := c
  go_wp2_with fail
  generalize hw0 : u4.alloc (.cells #[.int .i64 (d1 : Int), .int .i64 (d2 : Int)] 77) = u5
  have b5 : Below u4.heap.size u4 u5 := by rw [← hw0]; exact (Below.refl _ _).alloc (Nat.le_refl _) _
  have hle : u5.heap[u4.heap.size]? = some (.cells #[.int .i64 (d1 : Int), .int .i64 (d2 : Int)] 77 (0, 0)) := by rw [← hw0]; exact heap_alloc_new _ _
  clear hw0
  replace hBw := hBw.trans (b5.mono hBw.size)
  replace hfa := (b5.block _ (blk_lt hfa)).trans hfa
  replace cfa0 : u5.cell? ⟨w.heap.size, 0, none⟩ = some (.int .i64 (fk : Int)) := by rw [blk_cell hfa]; rfl
  replace cfa1 : u5.cell? ⟨w.heap.size, 1, none⟩ = some (.int .i64 (fs : Int)) := by rw [blk_cell hfa]; rfl
  replace lfa := blk_lt hfa
  replace hpa := (b5.block _ (blk_lt hpa)).trans hpa
  replace cpa0 : u5.cell? ⟨w.heap.size + 1, 0, none⟩ = some (.int .i64 (p1 : Int)) := by rw [blk_cell hpa]; rfl
  replace cpa1 : u5.cell? ⟨w.heap.size + 1, 1, none⟩ = some (.int .i64 (p2 : Int)) := by rw [blk_cell hpa]; rfl
  replace lpa := blk_lt hpa
  replace hcu := (b5.block _ (blk_lt hcu)).trans hcu
  replace ccu0 : u5.cell? ⟨u2.heap.size, 0, none⟩ = some (.int .i64 (c1 : Int)) := by rw [blk_cell hcu]; rfl
  replace ccu1 : u5.cell? ⟨u2.heap.size, 1, none⟩ = some (.int .i64 (c2 : Int)) := by rw [blk_cell hcu]; rfl
  replace lcu := blk_lt hcu
  have cle0 : u5.cell? ⟨u4.heap.size, 0, none⟩ = some (.int .i64 (d1 : Int)) := by rw [blk_cell hle]; rfl
  have cle1 : u5.cell? ⟨u4.heap.size, 1, none⟩ = some (.int .i64 (d2 : Int)) := by rw [blk_cell hle]; rfl
  have lle := blk_lt hle
  refine (empty_any d1 d2 _ hm.1 hm.2).mono ?_
  rintro e u6 ⟨rfl, b6⟩
  replace hBw := hBw.trans (b6.mono hBw.size)
  replace hfa := (b6.block _ (blk_lt hfa)).trans hfa
  replace cfa0 : u6.cell? ⟨w.heap.size, 0, none⟩ = some (.int .i64 (fk : Int)) := by rw [blk_cell hfa]; rfl
  replace cfa1 : u6.cell? ⟨w.heap.size, 1, none⟩ = some (.int .i64 (fs : Int)) := by rw [blk_cell hfa]; rfl
  replace lfa := blk_lt hfa
  replace hpa := (b6.block _ (blk_lt hpa)).trans hpa
  replace cpa0 : u6.cell? ⟨w.heap.size + 1, 0, none⟩ = some (.int .i64 (p1 : Int)) := by rw [blk_cell hpa]; rfl
  replace cpa1 : u6.cell? ⟨w.heap.size + 1, 1, none⟩ = some (.int .i64 (p2 : Int)) := by rw [blk_cell hpa]; rfl
  replace lpa := blk_lt hpa
  replace hcu := (b6.block _ (blk_lt hcu)).trans hcu
  replace ccu0 : u6.cell? ⟨u2.heap.size, 0, none⟩ = some (.int .i64 (c1 : Int)) := by rw [blk_cell hcu]; rfl
  replace ccu1 : u6.cell? ⟨u2.heap.size, 1, none⟩ = some (.int .i64 (c2 : Int)) := by rw [blk_cell hcu]; rfl
  replace lcu := blk_lt hcu
  replace hle := (b6.block _ (blk_lt hle)).trans hle
  replace cle0 : u6.cell? ⟨u4.heap.size, 0, none⟩ = some (.int .i64 (d1 : Int)) := by rw [blk_cell hle]; rfl
  replace cle1 : u6.cell? ⟨u4.heap.size, 1, none⟩ = some (.int .i64 (d2 : Int)) := by rw [blk_cell hle]; rfl
  replace lle := blk_lt hle
  go_wp2_with fail
  go_ret
  exact ⟨by rw [unhide HEC, unhide HH]; rfl, hBw⟩
end Go.Proofs.YtgipjjhkhfihpabGreatDoor
