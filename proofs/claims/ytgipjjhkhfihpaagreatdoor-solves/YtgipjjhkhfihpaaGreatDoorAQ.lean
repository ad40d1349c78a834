import Derived.Test.YtgipjjhkhfihpaaGreatDoorAD
import Derived.Test.YtgipjjhkhfihpaaGreatDoorAF
import Derived.Test.YtgipjjhkhfihpaaGreatDoorAN
import Derived.Test.YtgipjjhkhfihpaaGreatDoorAJ
namespace Go.Proofs.YtgipjjhkhfihpaaGreatDoor
open Go.RowKit

/-! ### holds, left: reading alone -/
set_option maxRecDepth 100000 in
set_option maxHeartbeats 1600000 in
theorem holds_any (b : Nat) (C : SC) (S : SS) (V : SV) (f p : Nat × Nat) (w : World) (hS : SAt w b C S V) (hB : SBd C S) (hp : p.1 < 512 ∧ p.2 < 512) :
    Calls Tryz.prog 116 #[.pointer (some ⟨b, 0, none⟩), FactV f, SetV p] w fun e w' => e = .returned (.bool (holdsB (S.lits f) p)) ∧ Below w.heap.size w w' := by
  obtain ⟨fk, fs⟩ := f
  obtain ⟨p1, p2⟩ := p
  have hlt := hB.lits (fk, fs)
  go_enter Tryz.func116, Tryz.ntmps116
  go_wp2_with fail
  generalize hw0 : ((w.alloc (.cells #[.int .i64 (fk : Int), .int .i64 (fs : Int)] 129)).alloc (.cells #[.int .i64 (p1 : Int), .int .i64 (p2 : Int)] 74)) = u1
  have hBw : Below w.heap.size w u1 := by rw [← hw0]; exact ((Below.refl _ _).alloc (Nat.le_refl _) _).alloc (by simp) _
  have hfa : u1.heap[w.heap.size]? = some (.cells #[.int .i64 (fk : Int), .int .i64 (fs : Int)] 129 (0, 0)) := by rw [← hw0, heap_alloc_old _ _ (by simp)]; exact alloc_new_at (by simp)
  have hpa : u1.heap[w.heap.size + 1]? = some (.cells #[.int .i64 (p1 : Int), .int .i64 (p2 : Int)] 74 (0, 0)) := by rw [← hw0]; exact alloc_new_at (by simp)
  clear hw0
  have cfa0 : u1.cell? ⟨w.heap.size, 0, none⟩ = some (.int .i64 (fk : Int)) := by rw [blk_cell hfa]; rfl
  have cfa1 : u1.cell? ⟨w.heap.size, 1, none⟩ = some (.int .i64 (fs : Int)) := by rw [blk_cell hfa]; rfl
  have lfa := blk_lt hfa
  have cpa0 : u1.cell? ⟨w.heap.size + 1, 0, none⟩ = some (.int .i64 (p1 : Int)) := by rw [blk_cell hpa]; rfl
  have cpa1 : u1.cell? ⟨w.heap.size + 1, 1, none⟩ = some (.int .i64 (p2 : Int)) := by rw [blk_cell hpa]; rfl
  have lpa := blk_lt hpa
  refine (slits_any b C S V (fk, fs) _ (hS.later hBw) hB).mono ?_
  rintro e u2 ⟨rfl, b2⟩
  replace hBw := hBw.trans (b2.mono hBw.size)
  replace hfa := (b2.block _ (blk_lt hfa)).trans hfa
  replace cfa0 : u2.cell? ⟨w.heap.size, 0, none⟩ = some (.int .i64 (fk : Int)) := by rw [blk_cell hfa]; rfl
  replace cfa1 : u2.cell? ⟨w.heap.size, 1, none⟩ = some (.int .i64 (fs : Int)) := by rw [blk_cell hfa]; rfl
  replace lfa := blk_lt hfa
  replace hpa := (b2.block _ (blk_lt hpa)).trans hpa
  replace cpa0 : u2.cell? ⟨w.heap.size + 1, 0, none⟩ = some (.int .i64 (p1 : Int)) := by rw [blk_cell hpa]; rfl
  replace cpa1 : u2.cell? ⟨w.heap.size + 1, 1, none⟩ = some (.int .i64 (p2 : Int)) := by rw [blk_cell hpa]; rfl
  replace lpa := blk_lt hpa
  have HH : Hid (holdsB (S.lits (fk, fs)) (p1, p2) = emptyB (minus (S.lits (fk, fs)) (p1, p2))) := hide rfl
  have HHS : Hid (holdsB (S.lits (fk, fs)) (p1, p2) = holdsB (S.lits (fk, fs)) (p1, p2)) := hide rfl
  generalize hea : S.lits (fk, fs) = c at *
  have HEC := hide hea
  clear hea HHS
  obtain ⟨c1, c2⟩ := c
  have hm := minus_lt (c1, c2) (p1, p2) hlt
  go_wp2_with fail
  generalize hw0 : u2.alloc (.cells #[.int .i64 (c1 : Int), .int .i64 (c2 : Int)] 74) = u3
  have b3 : Below u2.heap.size u2 u3 := by rw [← hw0]; exact (Below.refl _ _).alloc (Nat.le_refl _) _
  have hcu : u3.heap[u2.heap.size]? = some (.cells #[.int .i64 (c1 : Int), .int .i64 (c2 : Int)] 74 (0, 0)) := by rw [← hw0]; exact heap_alloc_new _ _
  clear hw0
  replace hBw := hBw.trans (b3.mono hBw.size)
  replace hfa := (b3.block _ (blk_lt hfa)).trans hfa
  replace cfa0 : u3.cell? ⟨w.heap.size, 0, none⟩ = some (.int .i64 (fk : Int)) := by rw [blk_cell hfa]; rfl
  replace cfa1 : u3.cell? ⟨w.heap.size, 1, none⟩ = some (.int .i64 (fs : Int)) := by rw [blk_cell hfa]; rfl
  replace lfa := blk_lt hfa
  replace hpa := (b3.block _ (blk_lt hpa)).trans hpa
  replace cpa0 : u3.cell? ⟨w.heap.size + 1, 0, none⟩ = some (.int .i64 (p1 : Int)) := by rw [blk_cell hpa]; rfl
  replace cpa1 : u3.cell? ⟨w.heap.size + 1, 1, none⟩ = some (.int .i64 (p2 : Int)) := by rw [blk_cell hpa]; rfl
  replace lpa := blk_lt hpa
  have ccu0 : u3.cell? ⟨u2.heap.size, 0, none⟩ = some (.int .i64 (c1 : Int)) := by rw [blk_cell hcu]; rfl
  have ccu1 : u3.cell? ⟨u2.heap.size, 1, none⟩ = some (.int .i64 (c2 : Int)) := by rw [blk_cell hcu]; rfl
  have lcu := blk_lt hcu
  refine (lwithout_any c1 c2 p1 p2 _ hlt.1 hlt.2 hp.1 hp.2).mono ?_
  rintro e u4 ⟨rfl, b4⟩
  replace hBw := hBw.trans (b4.mono hBw.size)
  replace hfa := (b4.block _ (blk_lt hfa)).trans hfa
  replace cfa0 : u4.cell? ⟨w.heap.size, 0, none⟩ = some (.int .i64 (fk : Int)) := by rw [blk_cell hfa]; rfl
  replace cfa1 : u4.cell? ⟨w.heap.size, 1, none⟩ = some (.int .i64 (fs : Int)) := by rw [blk_cell hfa]; rfl
  replace lfa := blk_lt hfa
  replace hpa := (b4.block _ (blk_lt hpa)).trans hpa
  replace cpa0 : u4.cell? ⟨w.heap.size + 1, 0, none⟩ = some (.int .i64 (p1 : Int)) := by rw [blk_cell hpa]; rfl
  replace cpa1 : u4.cell? ⟨w.heap.size + 1, 1, none⟩ = some (.int .i64 (p2 : Int)) := by rw [blk_cell hpa]; rfl
  replace lpa := blk_lt hpa
  replace hcu := (b4.block _ (blk_lt hcu)).trans hcu
  replace ccu0 : u4.cell? ⟨u2.heap.size, 0, none⟩ = some (.int .i64 (c1 : Int)) := by rw [blk_cell hcu]; rfl
  replace ccu1 : u4.cell? ⟨u2.heap.size, 1, none⟩ = some (.int .i64 (c2 : Int)) := by rw [blk_cell hcu]; rfl
  replace lcu := blk_lt hcu
  generalize hea : minus (c1, c2) (p1, p2) = c at *
  have HED := hide hea
  clear hea
  obtain ⟨d1, d2⟩ := c
  go_wp2_with fail
  generalize hw0 : u4.alloc (.cells #[.int .i64 (d1 : Int), .int .i64 (d2 : Int)] 74) = u5
  have b5 : Below u4.heap.size u4 u5 := by rw [← hw0]; exact (Below.refl _ _).alloc (Nat.le_refl _) _
  have hle : u5.heap[u4.heap.size]? = some (.cells #[.int .i64 (d1 : Int), .int .i64 (d2 : Int)] 74 (0, 0)) := by rw [← hw0]; exact heap_alloc_new _ _
  clear hw0
  replace hBw := hBw.trans (b5.mono hBw.size)
  replace hfa := (b5.block _ (blk_lt hfa)).trans hfa
  replace cfa0 : u5.cell? ⟨w.heap.size, 0, none⟩ = some (.int .i64 (fk : Int)) := by rw [blk_cell hfa]; rfl
  replace cfa1 : u5.cell? ⟨w.heap.size, 1, none⟩ = some (.int .i64 (fs : Int)) := by rw [blk_cell hfa]; rfl
  replace lfa := blk_lt hfa
  replace hpa := (b5.block _ (blk_lt hpa)).trans hpa
  replace cpa0 : u5.cell? ⟨w.heap.size + 1, 0, none⟩ = some (.int .i64 (p1 : Int)) := by rw [blk_cell hpa]; rfl
  replace cpa1 : u5.cell? ⟨w.heap.size + 1, 1, none⟩ = some (.int .i64 (p2 : Int)) := by rw [blk_cell hpa]; rfl
  replace lpa := blk_lt hpa
  replace hcu := (b5.block _ (blk_lt hcu)).trans hcu
  replace ccu0 : u5.cell? ⟨u2.heap.size, 0, none⟩ = some (.int .i64 (c1 : Int)) := by rw [blk_cell hcu]; rfl
  replace ccu1 : u5.cell? ⟨u2.heap.size, 1, none⟩ = some (.int .i64 (c2 : Int)) := by rw [blk_cell hcu]; rfl
  replace lcu := blk_lt hcu
  have cle0 : u5.cell? ⟨u4.heap.size, 0, none⟩ = some (.int .i64 (d1 : Int)) := by rw [blk_cell hle]; rfl
  have cle1 : u5.cell? ⟨u4.heap.size, 1, none⟩ = some (.int .i64 (d2 : Int)) := by rw [blk_cell hle]; rfl
  have lle := blk_lt hle
  refine (empty_any d1 d2 _ hm.1 hm.2).mono ?_
  rintro e u6 ⟨rfl, b6⟩
  replace hBw := hBw.trans (b6.mono hBw.size)
  replace hfa := (b6.block _ (blk_lt hfa)).trans hfa
  replace cfa0 : u6.cell? ⟨w.heap.size, 0, none⟩ = some (.int .i64 (fk : Int)) := by rw [blk_cell hfa]; rfl
  replace cfa1 : u6.cell? ⟨w.heap.size, 1, none⟩ = some (.int .i64 (fs : Int)) := by rw [blk_cell hfa]; rfl
  replace lfa := blk_lt hfa
  replace hpa := (b6.block _ (blk_lt hpa)).trans hpa
  replace cpa0 : u6.cell? ⟨w.heap.size + 1, 0, none⟩ = some (.int .i64 (p1 : Int)) := by rw [blk_cell hpa]; rfl
  replace cpa1 : u6.cell? ⟨w.heap.size + 1, 1, none⟩ = some (.int .i64 (p2 : Int)) := by rw [blk_cell hpa]; rfl
  replace lpa := blk_lt hpa
  replace hcu := (b6.block _ (blk_lt hcu)).trans hcu
  replace ccu0 : u6.cell? ⟨u2.heap.size, 0, none⟩ = some (.int .i64 (c1 : Int)) := by rw [blk_cell hcu]; rfl
  replace ccu1 : u6.cell? ⟨u2.heap.size, 1, none⟩ = some (.int .i64 (c2 : Int)) := by rw [blk_cell hcu]; rfl
  replace lcu := blk_lt hcu
  replace hle := (b6.block _ (blk_lt hle)).trans hle
  replace cle0 : u6.cell? ⟨u4.heap.size, 0, none⟩ = some (.int .i64 (d1 : Int)) := by rw [blk_cell hle]; rfl
  replace cle1 : u6.cell? ⟨u4.heap.size, 1, none⟩ = some (.int .i64 (d2 : Int)) := by rw [blk_cell hle]; rfl
  replace lle := blk_lt hle
  go_wp2_with fail
  go_ret
  exact ⟨by rw [unhide HEC, unhide HH]; rfl, hBw⟩
end Go.Proofs.YtgipjjhkhfihpaaGreatDoor

namespace Go.Proofs.YtgipjjhkhfihpaaGreatDoor
open Go.RowKit

/-! ### findCube -/
theorem kfind_hit {α : Type} (P : α → Bool) (l : List α) (k : Nat) (h : k < l.length) (h0 : (l.take k).find? P = none) (h1 : P l[k] = true) : l.find? P = some l[k] := by
  have e : l = l.take k ++ l[k] :: l.drop (k + 1) := by rw [← List.drop_eq_getElem_cons h, List.take_append_drop]
  generalize l[k] = x at *
  rw [e, List.find?_append, h0, Option.none_or, List.find?_cons, h1]
theorem kfind_miss {α : Type} (P : α → Bool) (l : List α) (k : Nat) (h : k < l.length) (h0 : (l.take k).find? P = none) (h1 : P l[k] = false) : (l.take (k + 1)).find? P = none := by
  rw [List.take_succ_eq_append_getElem h, List.find?_append, h0, Option.none_or, List.find?_cons, h1]; rfl
theorem cube_some {C : SC} {S : SS} {path vals : Nat × Nat} {f : Nat × Nat} (h : S.kept.find? (fun f => f.1 == 2 && holdsB (S.lits f) path) = some f) : cubeOf C S path vals = (S, f) := by
  unfold cubeOf; rw [h]
theorem cube_not {C : SC} {S : SS} {path vals : Nat × Nat} (h : S.kept.find? (fun f => f.1 == 2 && holdsB (S.lits f) path) = none) (hs : satQ C.q.cl vals = false) : cubeOf C S path vals = (S, (0, 0)) := by
  unfold cubeOf; rw [h]; dsimp only; rw [hs]; rfl
theorem cube_new {C : SC} {S : SS} {path vals : Nat × Nat} (h : S.kept.find? (fun f => f.1 == 2 && holdsB (S.lits f) path) = none) (hs : satQ C.q.cl vals = true) : cubeOf C S path vals = (((S.put 2 (S.aff ++ [⟨2, 0, 0, 0, shrinkQ C.q vals⟩])).reduce C.q (2, S.aff.length + 1)).1.keep C.room ((S.put 2 (S.aff ++ [⟨2, 0, 0, 0, shrinkQ C.q vals⟩])).reduce C.q (2, S.aff.length + 1)).2, ((S.put 2 (S.aff ++ [⟨2, 0, 0, 0, shrinkQ C.q vals⟩])).reduce C.q (2, S.aff.length + 1)).2) := by
  unfold cubeOf; rw [h]; dsimp only; rw [hs]
  have e : (S.aff ++ [(⟨2, 0, 0, 0, shrinkQ C.q vals⟩ : Stp)]).length = S.aff.length + 1 := by simp
  rw [if_pos rfl, e]
  unfold SS.reduce
  dsimp only
  rw [put_proof2, put_put]
  rfl
theorem shrinkQ_lt (q : QS) (c : Nat × Nat) (h : c.1 < 512 ∧ c.2 < 512) : (shrinkQ q c).1 < 512 ∧ (shrinkQ q c).2 < 512 := shrinkK_lt q false _ (shrinkK_lt q true c h)
set_option maxRecDepth 100000 in
set_option maxHeartbeats 6400000 in
theorem findCube_any (b : Nat) (C : SC) (S : SS) (V : SV) (path vals : Nat × Nat) (w : World) (hS : SAt w b C S V) (hB : SBd C S) (hp : path.1 < 512 ∧ path.2 < 512) (hv : vals.1 < 512 ∧ vals.2 < 512) (hal : S.aff.length ≤ 99990) :
    Calls Tryz.prog 91 #[.pointer (some ⟨b, 0, none⟩), SetV path, SetV vals] w fun e w' => e = .returned (FactV (cubeOf C S path vals).2) ∧ SPost b C (cubeOf C S path vals).1 V w w' := by
  obtain ⟨p1, p2⟩ := path
  obtain ⟨v1, v2⟩ := vals
  dsimp only at hp hv
  obtain ⟨aK, cK, hKf⟩ := hS.oK.form
  have hkl := hB.kept
  have hbw := blk_lt hS.fb
  have hbE : Below w.heap.size w (((w.alloc (.cells #[.int .i64 (p1 : Int), .int .i64 (p2 : Int)] 74)).alloc (.cells #[.int .i64 (v1 : Int), .int .i64 (v2 : Int)] 74)).alloc (.cells #[.int .i64 0, .int .i64 0] 129)) := (((Below.refl _ _).alloc (Nat.le_refl _) _).alloc (by simp; try omega) _).alloc (by simp; try omega) _
  have c11 : (((w.alloc (.cells #[.int .i64 (p1 : Int), .int .i64 (p2 : Int)] 74)).alloc (.cells #[.int .i64 (v1 : Int), .int .i64 (v2 : Int)] 74)).alloc (.cells #[.int .i64 0, .int .i64 0] 129)).cell? ⟨b, 11, none⟩ = some (.slice aK S.kept.length cK) := by rw [hbE.cell (p := ⟨b, 11, none⟩) hbw]; rw [blk_cell hS.fb]; exact congrArg some hKf
  go_enter Tryz.func91, Tryz.ntmps91
  go_wp2_with fail
  clear hbE
  generalize hw0 : (((w.alloc (.cells #[.int .i64 (p1 : Int), .int .i64 (p2 : Int)] 74)).alloc (.cells #[.int .i64 (v1 : Int), .int .i64 (v2 : Int)] 74)).alloc (.cells #[.int .i64 0, .int .i64 0] 129)) = u1
  have hb0 : Below w.heap.size w u1 := by rw [← hw0]; exact (((Below.refl _ _).alloc (Nat.le_refl _) _).alloc (by simp; try omega) _).alloc (by simp; try omega) _
  have hpa : u1.heap[w.heap.size]? = some (.cells #[.int .i64 (p1 : Int), .int .i64 (p2 : Int)] 74 (0, 0)) := by rw [← hw0, heap_alloc_old _ _ (by simp; try omega), heap_alloc_old _ _ (by simp; try omega)]; exact alloc_new_at (by simp)
  have npa : Far b V (w.heap.size) := hS.fresh (by omega)
  have hva : u1.heap[w.heap.size + 1]? = some (.cells #[.int .i64 (v1 : Int), .int .i64 (v2 : Int)] 74 (0, 0)) := by rw [← hw0, heap_alloc_old _ _ (by simp; try omega)]; exact alloc_new_at (by simp)
  have nva : Far b V (w.heap.size + 1) := hS.fresh (by omega)
  have hrs : u1.heap[w.heap.size + 2]? = some (.cells #[.int .i64 0, .int .i64 0] 129 (0, 0)) := by rw [← hw0]; exact alloc_new_at (by simp)
  have nrs : Far b V (w.heap.size + 2) := hS.fresh (by omega)
  clear hw0
  have hM : SMoved b w u1 V V := SMoved.of_below hb0
  replace hS := hS.later hb0
  have lb := blk_lt hS.fb
  have cpa0 : u1.cell? ⟨w.heap.size, 0, none⟩ = some (.int .i64 (p1 : Int)) := by rw [blk_cell hpa]; rfl
  have cpa1 : u1.cell? ⟨w.heap.size, 1, none⟩ = some (.int .i64 (p2 : Int)) := by rw [blk_cell hpa]; rfl
  have lpa := blk_lt hpa
  have cva0 : u1.cell? ⟨w.heap.size + 1, 0, none⟩ = some (.int .i64 (v1 : Int)) := by rw [blk_cell hva]; rfl
  have cva1 : u1.cell? ⟨w.heap.size + 1, 1, none⟩ = some (.int .i64 (v2 : Int)) := by rw [blk_cell hva]; rfl
  have lva := blk_lt hva
  have crs0 : u1.cell? ⟨w.heap.size + 2, 0, none⟩ = some (.int .i64 0) := by rw [blk_cell hrs]; rfl
  have crs1 : u1.cell? ⟨w.heap.size + 2, 1, none⟩ = some (.int .i64 0) := by rw [blk_cell hrs]; rfl
  have lrs := blk_lt hrs
  replace c11 : u1.cell? ⟨b, 11, none⟩ = some (.slice aK S.kept.length cK) := by rw [blk_cell hS.fb]; exact congrArg some hKf
  go_loopg [18] (S.kept.length) (fun m i wx => ∃ (k : Nat), i = .int .i64 k ∧ k + m = S.kept.length ∧ (S.kept.take k).find? (fun f => f.1 == 2 && holdsB (S.lits f) (p1, p2)) = none ∧ Below u1.heap.size u1 wx)
  case atStart => exact ⟨0, rfl, by omega, rfl, Below.refl _ _⟩
  case round =>
    obtain ⟨k, rfl, hkm, hfi, hb⟩ := hrel
    have HFI := hide hfi
    clear hfi
    replace hM := hM.trans (SMoved.of_below hb)
    replace hS := hS.later hb
    replace lb := blk_lt hS.fb
    replace hpa := (hb.block _ (blk_lt hpa)).trans hpa
    replace cpa0 : wr.cell? ⟨w.heap.size, 0, none⟩ = some (.int .i64 (p1 : Int)) := by rw [blk_cell hpa]; rfl
    replace cpa1 : wr.cell? ⟨w.heap.size, 1, none⟩ = some (.int .i64 (p2 : Int)) := by rw [blk_cell hpa]; rfl
    replace lpa := blk_lt hpa
    replace hva := (hb.block _ (blk_lt hva)).trans hva
    replace cva0 : wr.cell? ⟨w.heap.size + 1, 0, none⟩ = some (.int .i64 (v1 : Int)) := by rw [blk_cell hva]; rfl
    replace cva1 : wr.cell? ⟨w.heap.size + 1, 1, none⟩ = some (.int .i64 (v2 : Int)) := by rw [blk_cell hva]; rfl
    replace lva := blk_lt hva
    replace hrs := (hb.block _ (blk_lt hrs)).trans hrs
    replace crs0 : wr.cell? ⟨w.heap.size + 2, 0, none⟩ = some (.int .i64 0) := by rw [blk_cell hrs]; rfl
    replace crs1 : wr.cell? ⟨w.heap.size + 2, 1, none⟩ = some (.int .i64 0) := by rw [blk_cell hrs]; rfl
    replace lrs := blk_lt hrs
    by_cases hlt : k < S.kept.length
    · have hd3 : decide ((k : Int) < (S.kept.length : Int)) = true := decide_eq_true (by omega)
      have hd4 : decide (k < S.kept.length) = true := decide_eq_true hlt
      have hrowx := hS.oK
      rw [hKf] at hrowx
      obtain ⟨g, off, cap, hVe, hg', hcell⟩ := hrowx.cell (by omega)
      injection hVe with hVe _ hV2
      subst hVe hV2
      obtain ⟨e0, e1⟩ := pairs_at S.kept k hlt
      have hx0 := hcell _ _ e0
      have hx1 := hcell _ _ e1
      have HIT := hide (fun h => kfind_hit (fun f => f.1 == 2 && holdsB (S.lits f) (p1, p2)) S.kept k hlt (unhide HFI) h)
      have MISS := hide (fun h => kfind_miss (fun f => f.1 == 2 && holdsB (S.lits f) (p1, p2)) S.kept k hlt (unhide HFI) h)
      clear hcell e0 e1
      generalize S.kept[k] = f at *
      obtain ⟨fk, fs⟩ := f
      dsimp only at *
      rw [← Nat.add_assoc] at hx1
      by_cases hk2 : fk = 2
      · subst hk2
        go_wp2_with fail
        have nfo : Far b V wr.heap.size := hS.fresh (Nat.le_refl _)
        generalize hw0 : wr.alloc (.cells #[.int .i64 2, .int .i64 (fs : Int)] 129) = u2
        have b2 : Below wr.heap.size wr u2 := by rw [← hw0]; exact (Below.refl _ _).alloc (Nat.le_refl _) _
        have hfo : u2.heap[wr.heap.size]? = some (.cells #[.int .i64 2, .int .i64 (fs : Int)] 129 (0, 0)) := by rw [← hw0]; exact heap_alloc_new _ _
        clear hw0
        replace hM := hM.trans (SMoved.of_below b2)
        replace hS := hS.later b2
        replace lb := blk_lt hS.fb
        replace hpa := (b2.block _ (blk_lt hpa)).trans hpa
        replace cpa0 : u2.cell? ⟨w.heap.size, 0, none⟩ = some (.int .i64 (p1 : Int)) := by rw [blk_cell hpa]; rfl
        replace cpa1 : u2.cell? ⟨w.heap.size, 1, none⟩ = some (.int .i64 (p2 : Int)) := by rw [blk_cell hpa]; rfl
        replace lpa := blk_lt hpa
        replace hva := (b2.block _ (blk_lt hva)).trans hva
        replace cva0 : u2.cell? ⟨w.heap.size + 1, 0, none⟩ = some (.int .i64 (v1 : Int)) := by rw [blk_cell hva]; rfl
        replace cva1 : u2.cell? ⟨w.heap.size + 1, 1, none⟩ = some (.int .i64 (v2 : Int)) := by rw [blk_cell hva]; rfl
        replace lva := blk_lt hva
        replace hrs := (b2.block _ (blk_lt hrs)).trans hrs
        replace crs0 : u2.cell? ⟨w.heap.size + 2, 0, none⟩ = some (.int .i64 0) := by rw [blk_cell hrs]; rfl
        replace crs1 : u2.cell? ⟨w.heap.size + 2, 1, none⟩ = some (.int .i64 0) := by rw [blk_cell hrs]; rfl
        replace lrs := blk_lt hrs
        have cfo0 : u2.cell? ⟨wr.heap.size, 0, none⟩ = some (.int .i64 2) := by rw [blk_cell hfo]; rfl
        have cfo1 : u2.cell? ⟨wr.heap.size, 1, none⟩ = some (.int .i64 (fs : Int)) := by rw [blk_cell hfo]; rfl
        have lfo := blk_lt hfo
        refine (holds_any b C S V (2, fs) (p1, p2) _ hS hB hp).mono ?_
        rintro e u3 ⟨rfl, b3⟩
        replace hM := hM.trans (SMoved.of_below b3)
        replace hS := hS.later b3
        replace lb := blk_lt hS.fb
        replace hpa := (b3.block _ (blk_lt hpa)).trans hpa
        replace cpa0 : u3.cell? ⟨w.heap.size, 0, none⟩ = some (.int .i64 (p1 : Int)) := by rw [blk_cell hpa]; rfl
        replace cpa1 : u3.cell? ⟨w.heap.size, 1, none⟩ = some (.int .i64 (p2 : Int)) := by rw [blk_cell hpa]; rfl
        replace lpa := blk_lt hpa
        replace hva := (b3.block _ (blk_lt hva)).trans hva
        replace cva0 : u3.cell? ⟨w.heap.size + 1, 0, none⟩ = some (.int .i64 (v1 : Int)) := by rw [blk_cell hva]; rfl
        replace cva1 : u3.cell? ⟨w.heap.size + 1, 1, none⟩ = some (.int .i64 (v2 : Int)) := by rw [blk_cell hva]; rfl
        replace lva := blk_lt hva
        replace hrs := (b3.block _ (blk_lt hrs)).trans hrs
        replace crs0 : u3.cell? ⟨w.heap.size + 2, 0, none⟩ = some (.int .i64 0) := by rw [blk_cell hrs]; rfl
        replace crs1 : u3.cell? ⟨w.heap.size + 2, 1, none⟩ = some (.int .i64 0) := by rw [blk_cell hrs]; rfl
        replace lrs := blk_lt hrs
        replace hfo := (b3.block _ (blk_lt hfo)).trans hfo
        replace cfo0 : u3.cell? ⟨wr.heap.size, 0, none⟩ = some (.int .i64 2) := by rw [blk_cell hfo]; rfl
        replace cfo1 : u3.cell? ⟨wr.heap.size, 1, none⟩ = some (.int .i64 (fs : Int)) := by rw [blk_cell hfo]; rfl
        replace lfo := blk_lt hfo
        replace hb := hb.trans ((Below.trans b2 (b3.mono b2.size)).mono hb.size)
        cases hho : holdsB (S.lits (2, fs)) (p1, p2) with
        | true =>
          have HX : Hid (cubeOf C S (p1, p2) (v1, v2) = (S, (2, fs))) := hide (cube_some (unhide HIT (by rw [hho]; rfl)))
          clear hho
          have z0 := blk_free hrs 0
          have z1 := blk_free hrs 1
          have hR := blk_set (blk_set hrs 0 (.int .i64 2)) 1 (.int .i64 (fs : Int))
          have j0 := blk_cell hR 0
          have j1 := blk_cell hR 1
          go_wp2_with fail
          refine bodyPost_ret (v := FactV (2, fs)) (by simp [results, Tryz.results91, go_sem, j0, j1]) rfl ⟨by rw [unhide HX], ?_⟩
          rw [unhide HX]
          exact ⟨V, (hS.set nrs 0 _).set nrs 1 _, (hM.set (k := w.heap.size + 2) (by omega) 0 _).set (k := w.heap.size + 2) (by omega) 1 _⟩
        | false =>
          have HN := hide (unhide MISS (by rw [hho]; rfl))
          clear hho
          go_wp2_with fail
          go_roundg (gk - 1)
          case measure => omega
          case rel => exact ⟨k + 1, by go_num, by omega, unhide HN, hb⟩
      · have hq : ((fk : Int) == 2) = false := by rw [beq_eq_false_iff_ne]; omega
        have hq2 : (fk == 2) = false := by rw [beq_eq_false_iff_ne]; exact hk2
        have HN := hide (unhide MISS (by rw [hq2]; rfl))
        have hA : Below u1.heap.size u1 (wr.alloc (.cells #[.int .i64 (fk : Int), .int .i64 (fs : Int)] 129)) := hb.trans (((Below.refl _ _).alloc (Nat.le_refl _) _).mono hb.size)
        clear hk2
        go_wp2_with fail
        go_roundg (gk - 1)
        case measure => omega
        case rel => exact ⟨k + 1, by go_num, by omega, unhide HN, hA⟩
    · have hke : k = S.kept.length := by omega
      have HNO : Hid (S.kept.find? (fun f => f.1 == 2 && holdsB (S.lits f) (p1, p2)) = none) := hide (by have := unhide HFI; rwa [hke, List.take_length] at this)
      have hd3 : decide ((k : Int) < (S.kept.length : Int)) = false := decide_eq_false (by omega)
      have hd4 : decide (k < S.kept.length) = false := decide_eq_false hlt
      clear hke
      go_wp2_with fail
      have hu9 : Below wr.heap.size wr wr.drew := (Below.refl _ wr).drew
      go_region_with (go_at_call 117; refine (qsat_any 0 b C.q V.c v1 v2 _ (by rw [blk_cell (hS.later hu9).fb]; rfl) (hS.later hu9).oC hB.qb hv.1 hv.2).mono ?_; rintro e w4 ⟨rfl, hb4⟩; have hbz : Below wr.heap.size wr w4 := hu9.trans hb4)
      all_goals
        replace hM := hM.trans (SMoved.of_below hbz)
        replace hS := hS.later hbz
        replace lb := blk_lt hS.fb
        replace hpa := (hbz.block _ (blk_lt hpa)).trans hpa
        replace cpa0 : w4.cell? ⟨w.heap.size, 0, none⟩ = some (.int .i64 (p1 : Int)) := by rw [blk_cell hpa]; rfl
        replace cpa1 : w4.cell? ⟨w.heap.size, 1, none⟩ = some (.int .i64 (p2 : Int)) := by rw [blk_cell hpa]; rfl
        replace lpa := blk_lt hpa
        replace hva := (hbz.block _ (blk_lt hva)).trans hva
        replace cva0 : w4.cell? ⟨w.heap.size + 1, 0, none⟩ = some (.int .i64 (v1 : Int)) := by rw [blk_cell hva]; rfl
        replace cva1 : w4.cell? ⟨w.heap.size + 1, 1, none⟩ = some (.int .i64 (v2 : Int)) := by rw [blk_cell hva]; rfl
        replace lva := blk_lt hva
        replace hrs := (hbz.block _ (blk_lt hrs)).trans hrs
        replace crs0 : w4.cell? ⟨w.heap.size + 2, 0, none⟩ = some (.int .i64 0) := by rw [blk_cell hrs]; rfl
        replace crs1 : w4.cell? ⟨w.heap.size + 2, 1, none⟩ = some (.int .i64 0) := by rw [blk_cell hrs]; rfl
        replace lrs := blk_lt hrs
        cases hsat : satQ C.q.cl (v1, v2) with
        | false =>
          have HX : Hid (cubeOf C S (p1, p2) (v1, v2) = (S, (0, 0))) := hide (cube_not (unhide HNO) hsat)
          clear hsat
          have z0 := blk_free hrs 0
          have z1 := blk_free hrs 1
          have hR := blk_set (blk_set hrs 0 (.int .i64 0)) 1 (.int .i64 0)
          have j0 := blk_cell hR 0
          have j1 := blk_cell hR 1
          go_wp2_with fail
          refine bodyPost_ret (v := FactV (0, 0)) (by simp [results, Tryz.results91, go_sem, j0, j1]) rfl ⟨by rw [unhide HX], ?_⟩
          rw [unhide HX]
          exact ⟨V, (hS.set nrs 0 _).set nrs 1 _, (hM.set (k := w.heap.size + 2) (by omega) 0 _).set (k := w.heap.size + 2) (by omega) 1 _⟩
        | true =>
          have HX := hide (cube_new (path := (p1, p2)) (unhide HNO) hsat)
          have hcl := shrinkQ_lt C.q (v1, v2) hv
          clear hsat
          go_wp2_with fail
          refine (shrink_any b C S V (v1, v2) _ hS hB hv).mono ?_
          rintro e u2 ⟨rfl, b2⟩
          replace hM := hM.trans (SMoved.of_below b2)
          replace hS := hS.later b2
          replace lb := blk_lt hS.fb
          replace hpa := (b2.block _ (blk_lt hpa)).trans hpa
          replace cpa0 : u2.cell? ⟨w.heap.size, 0, none⟩ = some (.int .i64 (p1 : Int)) := by rw [blk_cell hpa]; rfl
          replace cpa1 : u2.cell? ⟨w.heap.size, 1, none⟩ = some (.int .i64 (p2 : Int)) := by rw [blk_cell hpa]; rfl
          replace lpa := blk_lt hpa
          replace hva := (b2.block _ (blk_lt hva)).trans hva
          replace cva0 : u2.cell? ⟨w.heap.size + 1, 0, none⟩ = some (.int .i64 (v1 : Int)) := by rw [blk_cell hva]; rfl
          replace cva1 : u2.cell? ⟨w.heap.size + 1, 1, none⟩ = some (.int .i64 (v2 : Int)) := by rw [blk_cell hva]; rfl
          replace lva := blk_lt hva
          replace hrs := (b2.block _ (blk_lt hrs)).trans hrs
          replace crs0 : u2.cell? ⟨w.heap.size + 2, 0, none⟩ = some (.int .i64 0) := by rw [blk_cell hrs]; rfl
          replace crs1 : u2.cell? ⟨w.heap.size + 2, 1, none⟩ = some (.int .i64 0) := by rw [blk_cell hrs]; rfl
          replace lrs := blk_lt hrs
          generalize shrinkQ C.q (v1, v2) = cu at *
          obtain ⟨c1, c2⟩ := cu
          dsimp only at hcl
          go_wp2_with fail
          have ncu : Far b V u2.heap.size := hS.fresh (Nat.le_refl _)
          generalize hw0 : u2.alloc (.cells #[.int .i64 (c1 : Int), .int .i64 (c2 : Int)] 74) = u3
          have b3 : Below u2.heap.size u2 u3 := by rw [← hw0]; exact (Below.refl _ _).alloc (Nat.le_refl _) _
          have hcu : u3.heap[u2.heap.size]? = some (.cells #[.int .i64 (c1 : Int), .int .i64 (c2 : Int)] 74 (0, 0)) := by rw [← hw0]; exact heap_alloc_new _ _
          clear hw0
          replace hM := hM.trans (SMoved.of_below b3)
          replace hS := hS.later b3
          replace lb := blk_lt hS.fb
          replace hpa := (b3.block _ (blk_lt hpa)).trans hpa
          replace cpa0 : u3.cell? ⟨w.heap.size, 0, none⟩ = some (.int .i64 (p1 : Int)) := by rw [blk_cell hpa]; rfl
          replace cpa1 : u3.cell? ⟨w.heap.size, 1, none⟩ = some (.int .i64 (p2 : Int)) := by rw [blk_cell hpa]; rfl
          replace lpa := blk_lt hpa
          replace hva := (b3.block _ (blk_lt hva)).trans hva
          replace cva0 : u3.cell? ⟨w.heap.size + 1, 0, none⟩ = some (.int .i64 (v1 : Int)) := by rw [blk_cell hva]; rfl
          replace cva1 : u3.cell? ⟨w.heap.size + 1, 1, none⟩ = some (.int .i64 (v2 : Int)) := by rw [blk_cell hva]; rfl
          replace lva := blk_lt hva
          replace hrs := (b3.block _ (blk_lt hrs)).trans hrs
          replace crs0 : u3.cell? ⟨w.heap.size + 2, 0, none⟩ = some (.int .i64 0) := by rw [blk_cell hrs]; rfl
          replace crs1 : u3.cell? ⟨w.heap.size + 2, 1, none⟩ = some (.int .i64 0) := by rw [blk_cell hrs]; rfl
          replace lrs := blk_lt hrs
          have ccu0 : u3.cell? ⟨u2.heap.size, 0, none⟩ = some (.int .i64 (c1 : Int)) := by rw [blk_cell hcu]; rfl
          have ccu1 : u3.cell? ⟨u2.heap.size, 1, none⟩ = some (.int .i64 (c2 : Int)) := by rw [blk_cell hcu]; rfl
          have lcu := blk_lt hcu
          have hDr : Below u3.heap.size u3 u3.drew := (Below.refl _ _).drew
          have hSd := hS.later hDr
          have hMd := hM.trans (SMoved.of_below hDr)
          have hB2 := hB.put (k := 2) (Or.inr rfl) (p := S.aff ++ [⟨2, 0, 0, 0, (c1, c2)⟩]) (by simp; omega) (fun s hs => (List.mem_append.1 hs).elim (hB.aff s) (fun h => by simp at h; subst h; exact hcl))
          have hl2 : ((S.put 2 (S.aff ++ [⟨2, 0, 0, 0, (c1, c2)⟩])).proof 2).length ≤ 99999 := by rw [put_proof2]; simp; omega
          go_region_with (go_at_call 72; refine (add_any 0 b 8 S.aff V.a ⟨2, 0, 0, 0, (c1, c2)⟩ (sCells C S V) 126 _ hSd.fb rfl (by decide) hSd.oA (by omega) (Nat.zero_le _)).mono ?_; rintro e w5 ⟨v5, rfl, ho5, hf5, hn5, hm5⟩; obtain ⟨V2, hS2, hM2⟩ := hSd.put (kind := 2) (Or.inr rfl) (p := S.aff ++ [⟨2, 0, 0, 0, (c1, c2)⟩]) ⟨v5, (by simpa using ho5), hf5, hn5, hm5⟩; clear ho5 hf5 hn5 hm5; replace hM2 := (SMoved.of_below hDr).trans hM2)
          all_goals
            generalize S.put 2 (S.aff ++ [⟨2, 0, 0, 0, (c1, c2)⟩]) = S2 at *
            clear hSd hMd hDr
            replace hpa := hM2.blk hpa npa
            replace npa := hM2.far lpa npa
            replace hva := hM2.blk hva nva
            replace nva := hM2.far lva nva
            replace hrs := hM2.blk hrs nrs
            replace nrs := hM2.far lrs nrs
            replace hcu := hM2.blk hcu ncu
            replace ncu := hM2.far lcu ncu
            replace hM := hM.trans hM2
            replace hS := hS2
            clear hM2 hS2
            replace lb := blk_lt hS.fb
            replace cpa0 : w5.cell? ⟨w.heap.size, 0, none⟩ = some (.int .i64 (p1 : Int)) := by rw [blk_cell hpa]; rfl
            replace cpa1 : w5.cell? ⟨w.heap.size, 1, none⟩ = some (.int .i64 (p2 : Int)) := by rw [blk_cell hpa]; rfl
            replace lpa := blk_lt hpa
            replace cva0 : w5.cell? ⟨w.heap.size + 1, 0, none⟩ = some (.int .i64 (v1 : Int)) := by rw [blk_cell hva]; rfl
            replace cva1 : w5.cell? ⟨w.heap.size + 1, 1, none⟩ = some (.int .i64 (v2 : Int)) := by rw [blk_cell hva]; rfl
            replace lva := blk_lt hva
            replace crs0 : w5.cell? ⟨w.heap.size + 2, 0, none⟩ = some (.int .i64 0) := by rw [blk_cell hrs]; rfl
            replace crs1 : w5.cell? ⟨w.heap.size + 2, 1, none⟩ = some (.int .i64 0) := by rw [blk_cell hrs]; rfl
            replace lrs := blk_lt hrs
            replace ccu0 : w5.cell? ⟨u2.heap.size, 0, none⟩ = some (.int .i64 (c1 : Int)) := by rw [blk_cell hcu]; rfl
            replace ccu1 : w5.cell? ⟨u2.heap.size, 1, none⟩ = some (.int .i64 (c2 : Int)) := by rw [blk_cell hcu]; rfl
            replace lcu := blk_lt hcu
            go_wp2_with fail
            refine (sreduce_any b C S2 V2 (2, S.aff.length + 1) _ hS hB2 (Or.inr rfl) (show S.aff.length + 1 ≤ 1048576 by omega)).mono ?_
            rintro e u4 ⟨rfl, V3, hS2, hM2⟩
            replace hpa := hM2.blk hpa npa
            replace npa := hM2.far lpa npa
            replace hva := hM2.blk hva nva
            replace nva := hM2.far lva nva
            replace hrs := hM2.blk hrs nrs
            replace nrs := hM2.far lrs nrs
            replace hcu := hM2.blk hcu ncu
            replace ncu := hM2.far lcu ncu
            replace hM := hM.trans hM2
            replace hS := hS2
            clear hM2
            replace lb := blk_lt hS.fb
            replace cpa0 : u4.cell? ⟨w.heap.size, 0, none⟩ = some (.int .i64 (p1 : Int)) := by rw [blk_cell hpa]; rfl
            replace cpa1 : u4.cell? ⟨w.heap.size, 1, none⟩ = some (.int .i64 (p2 : Int)) := by rw [blk_cell hpa]; rfl
            replace lpa := blk_lt hpa
            replace cva0 : u4.cell? ⟨w.heap.size + 1, 0, none⟩ = some (.int .i64 (v1 : Int)) := by rw [blk_cell hva]; rfl
            replace cva1 : u4.cell? ⟨w.heap.size + 1, 1, none⟩ = some (.int .i64 (v2 : Int)) := by rw [blk_cell hva]; rfl
            replace lva := blk_lt hva
            replace crs0 : u4.cell? ⟨w.heap.size + 2, 0, none⟩ = some (.int .i64 0) := by rw [blk_cell hrs]; rfl
            replace crs1 : u4.cell? ⟨w.heap.size + 2, 1, none⟩ = some (.int .i64 0) := by rw [blk_cell hrs]; rfl
            replace lrs := blk_lt hrs
            replace ccu0 : u4.cell? ⟨u2.heap.size, 0, none⟩ = some (.int .i64 (c1 : Int)) := by rw [blk_cell hcu]; rfl
            replace ccu1 : u4.cell? ⟨u2.heap.size, 1, none⟩ = some (.int .i64 (c2 : Int)) := by rw [blk_cell hcu]; rfl
            replace lcu := blk_lt hcu
            have hB3 := reduce_bd hB2 (Or.inr rfl) (S.aff.length + 1) hl2
            generalize S2.reduce C.q (2, S.aff.length + 1) = R at *
            obtain ⟨S3, f1, f2⟩ := R
            dsimp only at hS hB3 HX ⊢
            go_wp2_with fail
            have nfo : Far b V3 u4.heap.size := hS.fresh (Nat.le_refl _)
            generalize hw0 : u4.alloc (.cells #[.int .i64 (f1 : Int), .int .i64 (f2 : Int)] 129) = u5
            have b5 : Below u4.heap.size u4 u5 := by rw [← hw0]; exact (Below.refl _ _).alloc (Nat.le_refl _) _
            have hfo : u5.heap[u4.heap.size]? = some (.cells #[.int .i64 (f1 : Int), .int .i64 (f2 : Int)] 129 (0, 0)) := by rw [← hw0]; exact heap_alloc_new _ _
            clear hw0
            replace hM := hM.trans (SMoved.of_below b5)
            replace hS := hS.later b5
            replace lb := blk_lt hS.fb
            replace hpa := (b5.block _ (blk_lt hpa)).trans hpa
            replace cpa0 : u5.cell? ⟨w.heap.size, 0, none⟩ = some (.int .i64 (p1 : Int)) := by rw [blk_cell hpa]; rfl
            replace cpa1 : u5.cell? ⟨w.heap.size, 1, none⟩ = some (.int .i64 (p2 : Int)) := by rw [blk_cell hpa]; rfl
            replace lpa := blk_lt hpa
            replace hva := (b5.block _ (blk_lt hva)).trans hva
            replace cva0 : u5.cell? ⟨w.heap.size + 1, 0, none⟩ = some (.int .i64 (v1 : Int)) := by rw [blk_cell hva]; rfl
            replace cva1 : u5.cell? ⟨w.heap.size + 1, 1, none⟩ = some (.int .i64 (v2 : Int)) := by rw [blk_cell hva]; rfl
            replace lva := blk_lt hva
            replace hrs := (b5.block _ (blk_lt hrs)).trans hrs
            replace crs0 : u5.cell? ⟨w.heap.size + 2, 0, none⟩ = some (.int .i64 0) := by rw [blk_cell hrs]; rfl
            replace crs1 : u5.cell? ⟨w.heap.size + 2, 1, none⟩ = some (.int .i64 0) := by rw [blk_cell hrs]; rfl
            replace lrs := blk_lt hrs
            replace hcu := (b5.block _ (blk_lt hcu)).trans hcu
            replace ccu0 : u5.cell? ⟨u2.heap.size, 0, none⟩ = some (.int .i64 (c1 : Int)) := by rw [blk_cell hcu]; rfl
            replace ccu1 : u5.cell? ⟨u2.heap.size, 1, none⟩ = some (.int .i64 (c2 : Int)) := by rw [blk_cell hcu]; rfl
            replace lcu := blk_lt hcu
            have cfo0 : u5.cell? ⟨u4.heap.size, 0, none⟩ = some (.int .i64 (f1 : Int)) := by rw [blk_cell hfo]; rfl
            have cfo1 : u5.cell? ⟨u4.heap.size, 1, none⟩ = some (.int .i64 (f2 : Int)) := by rw [blk_cell hfo]; rfl
            have lfo := blk_lt hfo
            refine (skeep_any b C S3 V3 (f1, f2) _ hS hB3).mono ?_
            rintro e u6 ⟨rfl, V4, hS2, hM2⟩
            replace hpa := hM2.blk hpa npa
            replace npa := hM2.far lpa npa
            replace hva := hM2.blk hva nva
            replace nva := hM2.far lva nva
            replace hrs := hM2.blk hrs nrs
            replace nrs := hM2.far lrs nrs
            replace hcu := hM2.blk hcu ncu
            replace ncu := hM2.far lcu ncu
            replace hfo := hM2.blk hfo nfo
            replace nfo := hM2.far lfo nfo
            replace hM := hM.trans hM2
            replace hS := hS2
            clear hM2
            replace lb := blk_lt hS.fb
            replace cpa0 : u6.cell? ⟨w.heap.size, 0, none⟩ = some (.int .i64 (p1 : Int)) := by rw [blk_cell hpa]; rfl
            replace cpa1 : u6.cell? ⟨w.heap.size, 1, none⟩ = some (.int .i64 (p2 : Int)) := by rw [blk_cell hpa]; rfl
            replace lpa := blk_lt hpa
            replace cva0 : u6.cell? ⟨w.heap.size + 1, 0, none⟩ = some (.int .i64 (v1 : Int)) := by rw [blk_cell hva]; rfl
            replace cva1 : u6.cell? ⟨w.heap.size + 1, 1, none⟩ = some (.int .i64 (v2 : Int)) := by rw [blk_cell hva]; rfl
            replace lva := blk_lt hva
            replace crs0 : u6.cell? ⟨w.heap.size + 2, 0, none⟩ = some (.int .i64 0) := by rw [blk_cell hrs]; rfl
            replace crs1 : u6.cell? ⟨w.heap.size + 2, 1, none⟩ = some (.int .i64 0) := by rw [blk_cell hrs]; rfl
            replace lrs := blk_lt hrs
            replace ccu0 : u6.cell? ⟨u2.heap.size, 0, none⟩ = some (.int .i64 (c1 : Int)) := by rw [blk_cell hcu]; rfl
            replace ccu1 : u6.cell? ⟨u2.heap.size, 1, none⟩ = some (.int .i64 (c2 : Int)) := by rw [blk_cell hcu]; rfl
            replace lcu := blk_lt hcu
            replace cfo0 : u6.cell? ⟨u4.heap.size, 0, none⟩ = some (.int .i64 (f1 : Int)) := by rw [blk_cell hfo]; rfl
            replace cfo1 : u6.cell? ⟨u4.heap.size, 1, none⟩ = some (.int .i64 (f2 : Int)) := by rw [blk_cell hfo]; rfl
            replace lfo := blk_lt hfo
            have z0 := blk_free hrs 0
            have z1 := blk_free hrs 1
            have hR := blk_set (blk_set hrs 0 (.int .i64 (f1 : Int))) 1 (.int .i64 (f2 : Int))
            have j0 := blk_cell hR 0
            have j1 := blk_cell hR 1
            go_wp2_with fail
            refine bodyPost_ret (v := FactV (f1, f2)) (by simp [results, Tryz.results91, go_sem, j0, j1]) rfl ⟨by rw [unhide HX], ?_⟩
            rw [unhide HX]
            exact ⟨V4, (hS.set nrs 0 _).set nrs 1 _, (hM.set (k := w.heap.size + 2) (by omega) 0 _).set (k := w.heap.size + 2) (by omega) 1 _⟩
end Go.Proofs.YtgipjjhkhfihpaaGreatDoor

namespace Go.Proofs.YtgipjjhkhfihpaaGreatDoor
open Go.RowKit

set_option maxRecDepth 100000 in
set_option maxHeartbeats 6400000 in
theorem findUnit_any (b : Nat) (C : SC) (S : SS) (V : SV) (cs : List Nat) (aX : Option Addr) (cX base : Nat) (p : Nat × Nat) (w : World) (hS : SAt w b C S V) (hB : SBd C S) (hp : p.1 < 512 ∧ p.2 < 512) (hX : w.ownsRow base 3 1 (.slice aX cs.length cX) cs.length (ints cs)) (hcl : cs.length ≤ 1048576) :
    Calls Tryz.prog 111 #[.pointer (some ⟨b, 0, none⟩), .slice aX cs.length cX, SetV p] w fun e w' => e = .returned (UnitV (unitOf S.ref C.uni cs p)) ∧ Below w.heap.size w w' := by
  obtain ⟨p1, p2⟩ := p
  have hbw := blk_lt hS.fb
  have hu := hB.uni
  go_enter Tryz.func111, Tryz.ntmps111
  go_wp2_with fail
  go_loopg [14] (cs.length) (fun m i wx => ∃ (k : Nat), i = .int .i64 k ∧ k + m = cs.length ∧ Below w.heap.size w wx ∧ wx.heap[w.heap.size]? = some (.cells #[.int .i64 (p1 : Int), .int .i64 (p2 : Int)] 74 (0, 0)) ∧ wx.heap[w.heap.size + 1]? = some (.cells #[.int .i64 0, .int .i64 0] 177 (0, 0)) ∧ unitOf S.ref C.uni cs (p1, p2) = unitSel S.ref (p1, p2) ((cs.drop k).find? (fun s => isUnit C.uni (p1, p2) (litsAt S.ref s))))
  case atStart => exact ⟨0, rfl, by omega, ((Below.refl _ _).alloc (Nat.le_refl _) _).alloc (by simp) _, by rw [heap_alloc_old _ _ (by simp)]; exact heap_alloc_new _ _, alloc_new_at (by simp), unitOf_sel _ _ _ _⟩
  case round =>
    obtain ⟨k, rfl, hkm, hBw, hva, hrs, hcf⟩ := hrel
    have HCF := hide hcf
    clear hcf
    have z0 := blk_free hrs 0
    have z1 := blk_free hrs 1
    by_cases hlt : k < cs.length
    · have HFD := hide (find_drop cs (fun s => isUnit C.uni (p1, p2) (litsAt S.ref s)) k hlt)
      obtain ⟨g, cap, hVe, _, hg', _, hcell⟩ := own_pos hX (by omega)
      injection hVe with hVe _ hV2
      subst hVe hV2
      have hck : wr.cell? ⟨g, k, none⟩ = some (.int .i64 (cs[k] : Int)) := by rw [hBw.cell (p := ⟨g, k, none⟩) hg']; exact hcell k _ (by simp [ints, hlt])
      have lg := Nat.lt_of_lt_of_le hg' hBw.size
      clear hcell
      have hlt9 := litsAt_lt S.ref hB.ref cs[k]
      generalize cs[k] = n at *
      have cva0 : wr.cell? ⟨w.heap.size, 0, none⟩ = some (.int .i64 (p1 : Int)) := by rw [blk_cell hva]; rfl
      have cva1 : wr.cell? ⟨w.heap.size, 1, none⟩ = some (.int .i64 (p2 : Int)) := by rw [blk_cell hva]; rfl
      have lva := blk_lt hva
      have crs0 : wr.cell? ⟨w.heap.size + 1, 0, none⟩ = some (.int .i64 0) := by rw [blk_cell hrs]; rfl
      have crs1 : wr.cell? ⟨w.heap.size + 1, 1, none⟩ = some (.int .i64 0) := by rw [blk_cell hrs]; rfl
      have lrs := blk_lt hrs
      have hSr := hS.later hBw
      clear z0 z1
      go_wp2_with fail
      refine (left_any b C S V n (p1, p2) _ hSr hB hp).mono ?_
      rintro e u1 ⟨rfl, b1⟩
      replace hBw := hBw.trans (b1.mono hBw.size)
      replace hva := (b1.block _ (blk_lt hva)).trans hva
      replace cva0 : u1.cell? ⟨w.heap.size, 0, none⟩ = some (.int .i64 (p1 : Int)) := by rw [blk_cell hva]; rfl
      replace cva1 : u1.cell? ⟨w.heap.size, 1, none⟩ = some (.int .i64 (p2 : Int)) := by rw [blk_cell hva]; rfl
      replace lva := blk_lt hva
      replace hrs := (b1.block _ (blk_lt hrs)).trans hrs
      replace crs0 : u1.cell? ⟨w.heap.size + 1, 0, none⟩ = some (.int .i64 0) := by rw [blk_cell hrs]; rfl
      replace crs1 : u1.cell? ⟨w.heap.size + 1, 1, none⟩ = some (.int .i64 0) := by rw [blk_cell hrs]; rfl
      replace lrs := blk_lt hrs
      replace hSr := hSr.later b1
      have hl9 : (leftOf (litsAt S.ref n) (p1, p2)).1 < 512 ∧ (leftOf (litsAt S.ref n) (p1, p2)).2 < 512 := minus_lt (litsAt S.ref n) (swapL (p1, p2)) hlt9
      have HIC2 : Hid (∀ l op, leftOf (litsAt S.ref n) (p1, p2) = l → openB (litsAt S.ref n) (p1, p2) = op → isUnit C.uni (p1, p2) (litsAt S.ref n) = (op && ((listOf l).length == 1 && !((l.1 &&& C.uni.1) ||| (l.2 &&& C.uni.2) != 0))) ∧ unitSel S.ref (p1, p2) (some n) = ((listOf l).headD 0, n)) := hide (fun l op e1 e2 => by subst e1 e2; exact ⟨rfl, rfl⟩)
      generalize hel : leftOf (litsAt S.ref n) (p1, p2) = l at *
      generalize heo : openB (litsAt S.ref n) (p1, p2) = op at *
      have HIC3 := hide (unhide HIC2 l op rfl rfl).1
      have HSEL := hide (unhide HIC2 l op rfl rfl).2
      clear hel heo HIC2 hlt9
      obtain ⟨l1, l2⟩ := l
      dsimp only at hl9 HIC3
      go_wp2_with fail
      generalize hw0 : u1.alloc (.cells #[.int .i64 (l1 : Int), .int .i64 (l2 : Int)] 74) = u2
      have b2 : Below u1.heap.size u1 u2 := by rw [← hw0]; exact (Below.refl _ _).alloc (Nat.le_refl _) _
      have hle : u2.heap[u1.heap.size]? = some (.cells #[.int .i64 (l1 : Int), .int .i64 (l2 : Int)] 74 (0, 0)) := by rw [← hw0]; exact heap_alloc_new _ _
      clear hw0
      replace hBw := hBw.trans (b2.mono hBw.size)
      replace hva := (b2.block _ (blk_lt hva)).trans hva
      replace cva0 : u2.cell? ⟨w.heap.size, 0, none⟩ = some (.int .i64 (p1 : Int)) := by rw [blk_cell hva]; rfl
      replace cva1 : u2.cell? ⟨w.heap.size, 1, none⟩ = some (.int .i64 (p2 : Int)) := by rw [blk_cell hva]; rfl
      replace lva := blk_lt hva
      replace hrs := (b2.block _ (blk_lt hrs)).trans hrs
      replace crs0 : u2.cell? ⟨w.heap.size + 1, 0, none⟩ = some (.int .i64 0) := by rw [blk_cell hrs]; rfl
      replace crs1 : u2.cell? ⟨w.heap.size + 1, 1, none⟩ = some (.int .i64 0) := by rw [blk_cell hrs]; rfl
      replace lrs := blk_lt hrs
      replace hSr := hSr.later b2
      have cle0 : u2.cell? ⟨u1.heap.size, 0, none⟩ = some (.int .i64 (l1 : Int)) := by rw [blk_cell hle]; rfl
      have cle1 : u2.cell? ⟨u1.heap.size, 1, none⟩ = some (.int .i64 (l2 : Int)) := by rw [blk_cell hle]; rfl
      have lle := blk_lt hle
      refine (list_any l1 l2 _ hl9.1 hl9.2).mono ?_
      rintro e u3 ⟨vL, rfl, hoL, b3⟩
      replace hBw := hBw.trans (b3.mono hBw.size)
      replace hva := (b3.block _ (blk_lt hva)).trans hva
      replace cva0 : u3.cell? ⟨w.heap.size, 0, none⟩ = some (.int .i64 (p1 : Int)) := by rw [blk_cell hva]; rfl
      replace cva1 : u3.cell? ⟨w.heap.size, 1, none⟩ = some (.int .i64 (p2 : Int)) := by rw [blk_cell hva]; rfl
      replace lva := blk_lt hva
      replace hrs := (b3.block _ (blk_lt hrs)).trans hrs
      replace crs0 : u3.cell? ⟨w.heap.size + 1, 0, none⟩ = some (.int .i64 0) := by rw [blk_cell hrs]; rfl
      replace crs1 : u3.cell? ⟨w.heap.size + 1, 1, none⟩ = some (.int .i64 0) := by rw [blk_cell hrs]; rfl
      replace lrs := blk_lt hrs
      replace hle := (b3.block _ (blk_lt hle)).trans hle
      replace cle0 : u3.cell? ⟨u1.heap.size, 0, none⟩ = some (.int .i64 (l1 : Int)) := by rw [blk_cell hle]; rfl
      replace cle1 : u3.cell? ⟨u1.heap.size, 1, none⟩ = some (.int .i64 (l2 : Int)) := by rw [blk_cell hle]; rfl
      replace lle := blk_lt hle
      replace hSr := hSr.later b3
      have hLl : (listOf (l1, l2)).length ≤ 16 := listFrom_len (l1, l2) 8 1
      generalize hLL : listOf (l1, l2) = LL at *
      clear hLL
      obtain ⟨aL, cL, rfl⟩ := own_form hoL
      have k2 : u3.cell? ⟨b, 2, none⟩ = some (.int .i64 (C.uni.1 : Int)) := by rw [blk_cell hSr.fb]; rfl
      have k3 : u3.cell? ⟨b, 3, none⟩ = some (.int .i64 (C.uni.2 : Int)) := by rw [blk_cell hSr.fb]; rfl
      have lb := blk_lt hSr.fb
      have z0 := blk_free hrs 0
      have z1 := blk_free hrs 1
      have HNX : Hid (isUnit C.uni (p1, p2) (litsAt S.ref n) = false → unitOf S.ref C.uni cs (p1, p2) = unitSel S.ref (p1, p2) ((cs.drop (k + 1)).find? (fun s => isUnit C.uni (p1, p2) (litsAt S.ref s)))) := hide (fun h => by rw [unhide HCF, unhide HFD, h]; rfl)
      have HYS : Hid (isUnit C.uni (p1, p2) (litsAt S.ref n) = true → unitOf S.ref C.uni cs (p1, p2) = ((LL).headD 0, n)) := hide (fun h => by rw [unhide HCF, unhide HFD, h, if_pos rfl, unhide HSEL])
      go_wp2_with fail
      obtain ⟨wo, rfl⟩ : ∃ wo, wo = wr := ⟨_, rfl⟩
      go_cut [41] (fun s41 wx => s41 = .bool (op && ((LL).length == 1 && !((l1 &&& C.uni.1) ||| (l2 &&& C.uni.2) != 0))) ∧ Below u3.heap.size u3 wx)
      case first =>
        have hlL := cle0
        clear HNX HYS HCF HFD HIC3 HSEL hva cva0 cva1 lva hrs crs0 crs1 lrs z0 z1 hSr hS hB hX hck lg hoL hBw b1 b2 b3 hle hp hcl
        cases op with
        | false =>
          go_quiet (fail)
          go_wp2_with fail
          go_meet
          exact ⟨rfl, below_drewN (Below.refl _ _) nq⟩
        | true =>
          by_cases h1 : (LL).length = 1
          · obtain ⟨x, rfl⟩ := List.length_eq_one_iff.1 h1
            clear h1 hLl
            refine wp_region_any (by kernel_rfl) ?_
            try (change wpAny _ _ _ _ _ _ _ (World.drew _))
            refine wpAny_take (i := 0) (v := .bool true) rfl (by kernel_rfl) (by kernel_rfl) (by kernel_rfl) (fun _ _ _ h => h) (Or.inl ⟨by kernel_rfl, fun _ => by kernel_rfl⟩) ?_
            refine wpAny_take (i := 1) (v := .bool true) rfl (by kernel_rfl) (by kernel_rfl) (by kernel_rfl) (fun _ _ _ h => h) (Or.inl ⟨by kernel_rfl, fun _ => by kernel_rfl⟩) ?_
            refine wpAny_take (i := 2) (v := .slice aL 1 cL) rfl (by kernel_rfl) (by kernel_rfl) (by kernel_rfl) (fun _ _ _ h => h) (Or.inl ⟨by kernel_rfl, fun _ => by kernel_rfl⟩) ?_
            refine wpAny_take (i := 3) (v := .int .i64 1) rfl (by kernel_rfl) (by kernel_rfl) (by kernel_rfl) (fun _ _ _ h => h) (Or.inl ⟨by kernel_rfl, fun _ => by kernel_rfl⟩) ?_
            refine wpAny_take (i := 4) (v := .bool true) rfl (by kernel_rfl) (by kernel_rfl) (by kernel_rfl) (fun _ _ _ h => h) (Or.inl ⟨by kernel_rfl, fun _ => by kernel_rfl⟩) ?_
            refine wpAny_take (i := 5) (v := .bool true) rfl (by kernel_rfl) (by kernel_rfl) (by kernel_rfl) (fun _ _ _ h => h) (Or.inl ⟨by kernel_rfl, fun _ => by kernel_rfl⟩) ?_
            refine wpAny_take (i := 6) (v := .bool true) rfl (by kernel_rfl) (by kernel_rfl) (by kernel_rfl) (fun _ _ _ h => h) (Or.inl ⟨by kernel_rfl, fun _ => by kernel_rfl⟩) ?_
            refine wpAny_take (i := 8) (v := .pointer (some ⟨b, 0, none⟩)) rfl (by kernel_rfl) (by kernel_rfl) (by kernel_rfl) (fun _ _ _ h => h) (Or.inl ⟨by kernel_rfl, fun _ => by kernel_rfl⟩) ?_
            refine wpAny_take (i := 9) (v := .pointer (some ⟨b, 0, none⟩)) rfl (by kernel_rfl) (by kernel_rfl) (by kernel_rfl) (fun _ _ _ h => h) (Or.inl ⟨by kernel_rfl, fun _ => by kernel_rfl⟩) ?_
            refine wpAny_take (i := 10) (v := .pointer (some ⟨b, 2, none⟩)) rfl (by kernel_rfl) (by kernel_rfl) (by kernel_rfl) (fun _ _ _ h => h) (Or.inl ⟨by kernel_rfl, fun _ => by kernel_rfl⟩) ?_
            refine wpAny_ready (rs := [7, 11]) (by kernel_rfl) (by simp) ?_
            refine AllReady.cons rfl (fun K hK => ?_) (AllReady.cons rfl (fun K hK => ?_) AllReady.nil)
            · go_simp
              refine hK _ _ ?_
              clear hK K
              refine wpAny_ready (rs := [11]) (by kernel_rfl) (by simp) ?_
              refine AllReady.cons rfl (fun K hK => ?_) AllReady.nil
              go_simp
              refine hK _ _ ?_
              clear hK K
              refine wpAny_ready (rs := [12]) (by kernel_rfl) (by simp) ?_
              refine AllReady.cons rfl (fun K hK => ?_) AllReady.nil
              go_simp
              go_wp2_with (go_at_call 131; refine (meets_any l1 l2 C.uni.1 C.uni.2 _ hl9.1 hl9.2 hu.1 hu.2).mono ?_; rintro e v3 ⟨rfl, y3⟩; have x3 : Below u3.heap.size u3 v3 := Below.trans (by first | exact Below.refl _ _ | exact (Below.refl _ _).drew | exact (Below.refl _ _).alloc (Nat.le_refl _) _ | exact ((Below.refl _ _).alloc (Nat.le_refl _) _).drew | exact ((Below.refl _ _).drew).alloc (Nat.le_refl _) _) (y3.mono (by simp)))
              try (refine hK _ _ ?_; clear hK K)
              refine wpAny_take (i := 13) (v := .bool (!((l1 &&& C.uni.1) ||| (l2 &&& C.uni.2) != 0))) rfl (by kernel_rfl) (by kernel_rfl) (by kernel_rfl) (fun _ _ _ h => h) (Or.inl ⟨by kernel_rfl, fun _ => by kernel_rfl⟩) ?_
              refine wpAny_take (i := 14) (v := .bool (!((l1 &&& C.uni.1) ||| (l2 &&& C.uni.2) != 0))) rfl (by kernel_rfl) (by kernel_rfl) (by kernel_rfl) (fun _ _ _ h => h) (Or.inl ⟨by kernel_rfl, fun _ => by kernel_rfl⟩) ?_
              refine wpAny_done (by kernel_rfl) ?_ _
              go_wp2_with fail
              go_meet
              exact ⟨rfl, x3⟩
            · go_simp
              refine hK _ _ ?_
              clear hK K
              refine wpAny_ready (rs := [7]) (by kernel_rfl) (by simp) ?_
              refine AllReady.cons rfl (fun K hK => ?_) AllReady.nil
              go_simp
              refine hK _ _ ?_
              clear hK K
              refine wpAny_ready (rs := [12]) (by kernel_rfl) (by simp) ?_
              refine AllReady.cons rfl (fun K hK => ?_) AllReady.nil
              go_simp
              go_wp2_with (go_at_call 131; refine (meets_any l1 l2 C.uni.1 C.uni.2 _ hl9.1 hl9.2 hu.1 hu.2).mono ?_; rintro e v3 ⟨rfl, y3⟩; have x3 : Below u3.heap.size u3 v3 := Below.trans (by first | exact Below.refl _ _ | exact (Below.refl _ _).drew | exact (Below.refl _ _).alloc (Nat.le_refl _) _ | exact ((Below.refl _ _).alloc (Nat.le_refl _) _).drew | exact ((Below.refl _ _).drew).alloc (Nat.le_refl _) _) (y3.mono (by simp)))
              try (refine hK _ _ ?_; clear hK K)
              refine wpAny_take (i := 13) (v := .bool (!((l1 &&& C.uni.1) ||| (l2 &&& C.uni.2) != 0))) rfl (by kernel_rfl) (by kernel_rfl) (by kernel_rfl) (fun _ _ _ h => h) (Or.inl ⟨by kernel_rfl, fun _ => by kernel_rfl⟩) ?_
              refine wpAny_take (i := 14) (v := .bool (!((l1 &&& C.uni.1) ||| (l2 &&& C.uni.2) != 0))) rfl (by kernel_rfl) (by kernel_rfl) (by kernel_rfl) (fun _ _ _ h => h) (Or.inl ⟨by kernel_rfl, fun _ => by kernel_rfl⟩) ?_
              refine wpAny_done (by kernel_rfl) ?_ _
              go_wp2_with fail
              go_meet
              exact ⟨rfl, x3⟩
          · have hq1 : (((LL).length : Int) == 1) = false := by rw [beq_eq_false_iff_ne]; omega
            have HQ : Hid (((LL).length == 1) = false) := hide (by simpa using h1)
            clear h1
            go_quiet (fail)
            go_wp2_with fail
            go_meet
            exact ⟨by rw [unhide HQ]; rfl, below_drewN (Below.refl _ _) nq⟩
      case rest =>
      obtain ⟨rfl, hbc⟩ := hcut
      have hBc := hBw.trans (hbc.mono hBw.size)
      have hvc := (hbc.block _ (blk_lt hva)).trans hva
      have hrc := (hbc.block _ (blk_lt hrs)).trans hrs
      have hoLc := own_below hoL hbc
      rw [← unhide HIC3]
      cases hiu : isUnit C.uni (p1, p2) (litsAt S.ref n) with
      | false =>
        have HF := hide (unhide HNX hiu)
        clear hiu
        go_wp2_with fail
        go_roundg (gk - 1)
        case measure => omega
        case rel => exact ⟨k + 1, by go_num, by omega, hBc, hvc, hrc, unhide HF⟩
      | true =>
        have h1 : (LL).length = 1 := by
          have h2 := hiu
          rw [unhide HIC3] at h2
          simp only [Bool.and_eq_true, beq_iff_eq] at h2
          exact h2.2.1
        obtain ⟨x, hx⟩ := List.length_eq_one_iff.1 h1
        obtain ⟨gL, capL, hVL, _, hgL', _, hcL⟩ := own_pos hoLc (by omega)
        injection hVL with hVL _ hVL2
        subst hVL hVL2
        have hL0 : wc.cell? ⟨gL, 0, none⟩ = some (.int .i64 x) := hcL 0 _ (by rw [hx]; rfl)
        have HF : Hid (unitOf S.ref C.uni cs (p1, p2) = (x, n)) := hide (by rw [unhide HYS hiu, hx]; rfl)
        have lL := hgL'
        have w0 : wc.cell? ⟨w.heap.size + 1, 0, none⟩ = some (.int .i64 0) := by rw [blk_cell hrc]; rfl
        have w1 : wc.cell? ⟨w.heap.size + 1, 1, none⟩ = some (.int .i64 0) := by rw [blk_cell hrc]; rfl
        have lrc := blk_lt hrc
        have y0 := blk_free hrc 0
        have y1 := blk_free hrc 1
        have hR := blk_set (blk_set hrc 0 (.int .i64 x)) 1 (.int .i64 (n : Int))
        have j0 := blk_cell hR 0
        have j1 := blk_cell hR 1
        rw [h1]
        clear hx hcL h1 hiu hoLc hoL
        go_wp2_with fail
        refine bodyPost_ret (v := UnitV (x, n)) (by simp [results, Tryz.results111, go_sem, j0, j1, UnitV]) rfl ⟨by rw [unhide HF], ?_⟩
        exact (hBc.setCell (p := ⟨w.heap.size + 1, 0, none⟩) (Nat.le_succ _) _).setCell (p := ⟨w.heap.size + 1, 1, none⟩) (Nat.le_succ _) _
    · have hke : k = cs.length := by omega
      have HF : Hid (unitOf S.ref C.uni cs (p1, p2) = (0, 0)) := hide (by rw [unhide HCF, hke, List.drop_length]; rfl)
      subst hke
      have crs0 : wr.cell? ⟨w.heap.size + 1, 0, none⟩ = some (.int .i64 0) := by rw [blk_cell hrs]; rfl
      have crs1 : wr.cell? ⟨w.heap.size + 1, 1, none⟩ = some (.int .i64 0) := by rw [blk_cell hrs]; rfl
      have lrs := blk_lt hrs
      have hR := blk_set (blk_set hrs 0 (.int .i64 0)) 1 (.int .i64 0)
      have j0 := blk_cell hR 0
      have j1 := blk_cell hR 1
      go_wp2_with fail
      refine bodyPost_ret (v := UnitV (0, 0)) (by simp [results, Tryz.results111, go_sem, j0, j1, UnitV]) rfl ⟨by rw [unhide HF], ?_⟩
      exact (hBw.setCell (p := ⟨w.heap.size + 1, 0, none⟩) (Nat.le_succ _) _).setCell (p := ⟨w.heap.size + 1, 1, none⟩) (Nat.le_succ _) _
end Go.Proofs.YtgipjjhkhfihpaaGreatDoor
