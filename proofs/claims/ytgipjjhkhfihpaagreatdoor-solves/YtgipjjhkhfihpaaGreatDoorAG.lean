import Derived.Test.YtgipjjhkhfihpaaGreatDoorAD
import Derived.ArgAppend
namespace Go.Proofs.YtgipjjhkhfihpaaGreatDoor
open Go.RowKit

/-! ### A proof inside a block -/
structure PAt (w : World) (b o : Nat) (cells : Array Value) (t : TypeId) (p : List Stp) (vS : Value) (kind : Nat) : Prop where
  fb : w.heap[b]? = some (.cells cells t (0, 0))
  ck : cells[o]? = some (.int .i64 (kind : Int))
  cs : cells[o + 1]? = some vS
  own : w.ownsRow 0 134 6 vS p.length (psCells p)
  ty : 134 ≠ t
theorem PAt.later {w w' : World} {b o : Nat} {cells : Array Value} {t : TypeId} {p : List Stp} {vS : Value} {kind : Nat} (h : PAt w b o cells t p vS kind) (hb : Below w.heap.size w w') : PAt w' b o cells t p vS kind :=
  ⟨(hb.block _ (blk_lt h.fb)).trans h.fb, h.ck, h.cs, own_below h.own hb, h.ty⟩
def PGo (b o : Nat) (cells : Array Value) (t : TypeId) (p' : List Stp) (vS : Value) (w w' : World) : Prop :=
  ∃ v', w'.ownsRow 0 134 6 v' p'.length (psCells p') ∧ w'.heap[b]? = some (.cells (cells.setIfInBounds (o + 1) v') t (0, 0)) ∧ Only (fun k => k = b ∨ vS.ownBlock = some k) w w' ∧ Moved w vS v'
theorem PGo.before {b o : Nat} {cells : Array Value} {t : TypeId} {p' : List Stp} {vS : Value} {w0 w w' : World} (h : PGo b o cells t p' vS w w') (hb : Below w0.heap.size w0 w) : PGo b o cells t p' vS w0 w' := by
  obtain ⟨v', h1, h2, h3, h4⟩ := h
  refine ⟨v', h1, h2, (Only.of_below hb).trans h3, ?_⟩
  rcases h4 with h4 | ⟨k, h4, h5⟩
  · exact Or.inl h4
  · exact Or.inr ⟨k, h4, Nat.le_trans hb.size h5⟩
theorem PGo.later {b o : Nat} {cells : Array Value} {t : TypeId} {p' : List Stp} {vS : Value} {w w1 w' : World} (h : PGo b o cells t p' vS w w1) (hb : Below w1.heap.size w1 w') : PGo b o cells t p' vS w w' := by
  obtain ⟨v', h1, h2, h3, h4⟩ := h
  exact ⟨v', own_below h1 hb, (hb.block _ (blk_lt h2)).trans h2, h3.trans (Only.of_below hb), h4⟩
theorem PAt.same {w w' : World} {b o : Nat} {cells : Array Value} {t : TypeId} {p : List Stp} {vS : Value} {kind : Nat} (h : PAt w b o cells t p vS kind) (hb : Below w.heap.size w w') : PGo b o cells t p vS w w' := by
  have h' := h.later hb
  have e : cells.setIfInBounds (o + 1) vS = cells := by
    apply Array.ext_getElem?
    intro i
    rw [Array.getElem?_setIfInBounds]
    split
    · next hi => subst hi; rw [h.cs]; simp [(Array.getElem?_eq_some_iff.1 h.cs).1]
    · rfl
  exact ⟨vS, h'.own, by rw [e]; exact h'.fb, Only.of_below hb, Or.inl rfl⟩
theorem PAt.add {w w' : World} {b o : Nat} {cells : Array Value} {t : TypeId} {p : List Stp} {vS : Value} {s : Stp} {e : Ending} (h : AddPost 0 b o p vS s cells t w e w') : e = .returned (.int .i64 ((p.length : Int) + 1)) ∧ PGo b o cells t (p ++ [s]) vS w w' := by
  obtain ⟨v', h0, h1, h2, h3, h4⟩ := h
  exact ⟨h0, v', by simpa using h1, h2, h3, h4⟩

set_option maxRecDepth 100000 in
set_option maxHeartbeats 1600000 in
theorem preduce_any (b o : Nat) (cells : Array Value) (t : TypeId) (q : QS) (vV vC : Value) (p : List Stp) (vS : Value) (kind n : Nat) (w : World) (hP : PAt w b o cells t p vS kind) (hoV : w.ownsRow 0 139 2 vV q.vars.length (varCells q.vars)) (hCf : ∃ aC nC cC, vC = .slice aC nC cC) (hQ : QB q) (hl : p.length ≤ 100000) (hlt : ∀ s ∈ p, s.lits.1 < 512 ∧ s.lits.2 < 512) (_hn : n ≤ 1048576) :
    Calls Tryz.prog 133 #[.pointer (some ⟨b, o, none⟩), .agg #[vV, vC], .int .i64 (n : Int)] w fun e w' => e = .returned (.int .i64 ((redP q kind p n).2 : Nat)) ∧ PGo b o cells t (redP q kind p n).1 vS w w' := by
  obtain ⟨aV, cV, rfl⟩ := own_form hoV
  obtain ⟨aC, nC, cC, rfl⟩ := hCf
  have hbw := blk_lt hP.fb
  have hla := litsAt_lt p hlt n
  have hlr := redQ_lt kind q.vars.reverse _ hla
  go_enter Tryz.func133, Tryz.ntmps133
  go_wp2_with fail
  generalize hw0 : (w.alloc (.cells #[.slice aV q.vars.length cV, .slice aC nC cC] 60)) = u1
  have hB : Below w.heap.size w u1 := by rw [← hw0]; exact (Below.refl _ _).alloc (Nat.le_refl _) _
  have hfo : u1.heap[w.heap.size]? = some (.cells #[.slice aV q.vars.length cV, .slice aC nC cC] 60 (0, 0)) := by rw [← hw0]; exact alloc_new_at (by simp)
  clear hw0
  have cfo0 : u1.cell? ⟨w.heap.size, 0, none⟩ = some (.slice aV q.vars.length cV) := by rw [blk_cell hfo]; rfl
  have cfo1 : u1.cell? ⟨w.heap.size, 1, none⟩ = some (.slice aC nC cC) := by rw [blk_cell hfo]; rfl
  have lfo := blk_lt hfo
  have hP1 := hP.later hB
  refine (plits_any 0 b o p vS n _ (by rw [blk_cell hP1.fb]; exact hP1.cs) hP1.own (by omega)).mono ?_
  rintro e u2 ⟨rfl, b2⟩
  replace hB := hB.trans (b2.mono hB.size)
  replace hfo := (b2.block _ (blk_lt hfo)).trans hfo
  replace cfo0 : u2.cell? ⟨w.heap.size, 0, none⟩ = some (.slice aV q.vars.length cV) := by rw [blk_cell hfo]; rfl
  replace cfo1 : u2.cell? ⟨w.heap.size, 1, none⟩ = some (.slice aC nC cC) := by rw [blk_cell hfo]; rfl
  replace lfo := blk_lt hfo
  replace hP1 := hP1.later b2
  have HR : Hid (redP q kind p n = if redQ kind q.vars.reverse (litsAt p n) = litsAt p n then (p, n) else (p ++ [⟨4, n, 0, 0, redQ kind q.vars.reverse (litsAt p n)⟩], p.length + 1)) := hide rfl
  generalize hea : litsAt p n = c at *
  have HEA := hide hea
  clear hea HR
  obtain ⟨a1, a2⟩ := c
  dsimp only at hla hlr
  go_wp2_with fail
  generalize hw0 : u2.alloc (.cells #[.int .i64 (a1 : Int), .int .i64 (a2 : Int)] 74) = u3
  have b3 : Below u2.heap.size u2 u3 := by rw [← hw0]; exact (Below.refl _ _).alloc (Nat.le_refl _) _
  have hwh : u3.heap[u2.heap.size]? = some (.cells #[.int .i64 (a1 : Int), .int .i64 (a2 : Int)] 74 (0, 0)) := by rw [← hw0]; exact heap_alloc_new _ _
  clear hw0
  replace hB := hB.trans (b3.mono hB.size)
  replace hfo := (b3.block _ (blk_lt hfo)).trans hfo
  replace cfo0 : u3.cell? ⟨w.heap.size, 0, none⟩ = some (.slice aV q.vars.length cV) := by rw [blk_cell hfo]; rfl
  replace cfo1 : u3.cell? ⟨w.heap.size, 1, none⟩ = some (.slice aC nC cC) := by rw [blk_cell hfo]; rfl
  replace lfo := blk_lt hfo
  replace hP1 := hP1.later b3
  have cwh0 : u3.cell? ⟨u2.heap.size, 0, none⟩ = some (.int .i64 (a1 : Int)) := by rw [blk_cell hwh]; rfl
  have cwh1 : u3.cell? ⟨u2.heap.size, 1, none⟩ = some (.int .i64 (a2 : Int)) := by rw [blk_cell hwh]; rfl
  have lwh := blk_lt hwh
  refine (preduced_any 0 b o q kind _ _ (a1, a2) _ (by rw [blk_cell hP1.fb]; exact hP1.ck) (own_below hoV hB) hQ hla ⟨aC, nC, cC, rfl⟩).mono ?_
  rintro e u4 ⟨rfl, b4⟩
  replace hB := hB.trans (b4.mono hB.size)
  replace hfo := (b4.block _ (blk_lt hfo)).trans hfo
  replace cfo0 : u4.cell? ⟨w.heap.size, 0, none⟩ = some (.slice aV q.vars.length cV) := by rw [blk_cell hfo]; rfl
  replace cfo1 : u4.cell? ⟨w.heap.size, 1, none⟩ = some (.slice aC nC cC) := by rw [blk_cell hfo]; rfl
  replace lfo := blk_lt hfo
  replace hwh := (b4.block _ (blk_lt hwh)).trans hwh
  replace cwh0 : u4.cell? ⟨u2.heap.size, 0, none⟩ = some (.int .i64 (a1 : Int)) := by rw [blk_cell hwh]; rfl
  replace cwh1 : u4.cell? ⟨u2.heap.size, 1, none⟩ = some (.int .i64 (a2 : Int)) := by rw [blk_cell hwh]; rfl
  replace lwh := blk_lt hwh
  replace hP1 := hP1.later b4
  generalize hea : redQ kind q.vars.reverse (a1, a2) = c at *
  have HEB : Hid (redQ kind q.vars.reverse (litsAt p n) = c) := hide (by rw [unhide HEA]; exact hea)
  clear hea
  obtain ⟨d1, d2⟩ := c
  dsimp only at hlr
  have HDN : ∀ {x y : Nat}, x ≠ y → ((x : Int) == (y : Int)) = false := fun h => by rw [beq_eq_false_iff_ne]; omega
  have hrr : ∀ r1 r2 : Nat, (r1, r2) ≠ (a1, a2) → Hid (redQ kind q.vars.reverse (litsAt p n) = (r1, r2)) → Hid (redP q kind p n = (p ++ [⟨4, n, 0, 0, (r1, r2)⟩], p.length + 1)) := fun r1 r2 hne he => hide (by unfold redP; rw [unhide he, unhide HEA, if_neg hne])
  by_cases e1 : d1 = a1
  · subst e1
    by_cases e2 : d2 = a2
    · subst e2
      have HF : Hid (redP q kind p n = (p, n)) := hide (by unfold redP; rw [unhide HEB, unhide HEA, if_pos rfl])
      clear HDN hrr
      go_wp2_with fail
      go_ret
      refine ⟨?_, ?_⟩
      · rw [unhide HF]; rfl
      · rw [unhide HF]; exact hP.same (hB.alloc hB.size _)
    · have hne := HDN e2
      have HF := hrr d1 d2 (fun e => e2 (by injection e)) HEB
      clear HDN hrr e2
      go_wp2_with fail
      generalize hw0 : u4.alloc (.cells #[.int .i64 (d1 : Int), .int .i64 (d2 : Int)] 74) = u5
      have b5 : Below u4.heap.size u4 u5 := by rw [← hw0]; exact (Below.refl _ _).alloc (Nat.le_refl _) _
      have hre : u5.heap[u4.heap.size]? = some (.cells #[.int .i64 (d1 : Int), .int .i64 (d2 : Int)] 74 (0, 0)) := by rw [← hw0]; exact heap_alloc_new _ _
      clear hw0
      replace hB := hB.trans (b5.mono hB.size)
      replace hfo := (b5.block _ (blk_lt hfo)).trans hfo
      replace cfo0 : u5.cell? ⟨w.heap.size, 0, none⟩ = some (.slice aV q.vars.length cV) := by rw [blk_cell hfo]; rfl
      replace cfo1 : u5.cell? ⟨w.heap.size, 1, none⟩ = some (.slice aC nC cC) := by rw [blk_cell hfo]; rfl
      replace lfo := blk_lt hfo
      replace hwh := (b5.block _ (blk_lt hwh)).trans hwh
      replace cwh0 : u5.cell? ⟨u2.heap.size, 0, none⟩ = some (.int .i64 (d1 : Int)) := by rw [blk_cell hwh]; rfl
      replace cwh1 : u5.cell? ⟨u2.heap.size, 1, none⟩ = some (.int .i64 (a2 : Int)) := by rw [blk_cell hwh]; rfl
      replace lwh := blk_lt hwh
      replace hP1 := hP1.later b5
      have cre0 : u5.cell? ⟨u4.heap.size, 0, none⟩ = some (.int .i64 (d1 : Int)) := by rw [blk_cell hre]; rfl
      have cre1 : u5.cell? ⟨u4.heap.size, 1, none⟩ = some (.int .i64 (d2 : Int)) := by rw [blk_cell hre]; rfl
      have lre := blk_lt hre
      refine (add_any 0 b o p vS ⟨4, n, 0, 0, (d1, d2)⟩ cells t _ hP1.fb hP1.cs hP1.ty hP1.own (by omega) (Nat.zero_le _)).mono ?_
      intro e uz hadd
      obtain ⟨rfl, hgo⟩ := PAt.add hadd
      have hgo2 := hgo.before hB
      clear hadd hgo
      go_wp2_with fail
      go_ret
      refine ⟨?_, ?_⟩
      · rw [unhide HF]; exact ret_int (by simp)
      · rw [unhide HF]; exact hgo2
  · have hne := HDN e1
    have HF := hrr d1 d2 (fun e => e1 (by injection e)) HEB
    clear HDN hrr e1
    go_wp2_with fail
    generalize hw0 : u4.alloc (.cells #[.int .i64 (d1 : Int), .int .i64 (d2 : Int)] 74) = u5
    have b5 : Below u4.heap.size u4 u5 := by rw [← hw0]; exact (Below.refl _ _).alloc (Nat.le_refl _) _
    have hre : u5.heap[u4.heap.size]? = some (.cells #[.int .i64 (d1 : Int), .int .i64 (d2 : Int)] 74 (0, 0)) := by rw [← hw0]; exact heap_alloc_new _ _
    clear hw0
    replace hB := hB.trans (b5.mono hB.size)
    replace hfo := (b5.block _ (blk_lt hfo)).trans hfo
    replace cfo0 : u5.cell? ⟨w.heap.size, 0, none⟩ = some (.slice aV q.vars.length cV) := by rw [blk_cell hfo]; rfl
    replace cfo1 : u5.cell? ⟨w.heap.size, 1, none⟩ = some (.slice aC nC cC) := by rw [blk_cell hfo]; rfl
    replace lfo := blk_lt hfo
    replace hwh := (b5.block _ (blk_lt hwh)).trans hwh
    replace cwh0 : u5.cell? ⟨u2.heap.size, 0, none⟩ = some (.int .i64 (a1 : Int)) := by rw [blk_cell hwh]; rfl
    replace cwh1 : u5.cell? ⟨u2.heap.size, 1, none⟩ = some (.int .i64 (a2 : Int)) := by rw [blk_cell hwh]; rfl
    replace lwh := blk_lt hwh
    replace hP1 := hP1.later b5
    have cre0 : u5.cell? ⟨u4.heap.size, 0, none⟩ = some (.int .i64 (d1 : Int)) := by rw [blk_cell hre]; rfl
    have cre1 : u5.cell? ⟨u4.heap.size, 1, none⟩ = some (.int .i64 (d2 : Int)) := by rw [blk_cell hre]; rfl
    have lre := blk_lt hre
    refine (add_any 0 b o p vS ⟨4, n, 0, 0, (d1, d2)⟩ cells t _ hP1.fb hP1.cs hP1.ty hP1.own (by omega) (Nat.zero_le _)).mono ?_
    intro e uz hadd
    obtain ⟨rfl, hgo⟩ := PAt.add hadd
    have hgo2 := hgo.before hB
    clear hadd hgo
    go_wp2_with fail
    go_ret
    refine ⟨?_, ?_⟩
    · rw [unhide HF]; exact ret_int (by simp)
    · rw [unhide HF]; exact hgo2
end Go.Proofs.YtgipjjhkhfihpaaGreatDoor

namespace Go.Proofs.YtgipjjhkhfihpaaGreatDoor
open Go.RowKit

set_option maxRecDepth 100000 in
set_option maxHeartbeats 1600000 in
theorem presolve_any (b o : Nat) (cells : Array Value) (t : TypeId) (p : List Stp) (vS : Value) (kind i j v : Nat) (w : World) (hP : PAt w b o cells t p vS kind) (hl : p.length ≤ 100000) (hlt : ∀ s ∈ p, s.lits.1 < 512 ∧ s.lits.2 < 512) (hv : v ≤ 1048576) :
    Calls Tryz.prog 113 #[.pointer (some ⟨b, o, none⟩), .int .i64 (i : Int), .int .i64 (j : Int), .int .i64 (v : Int)] w fun e w' => e = .returned (.int .i64 ((resP p i j v).2 : Nat)) ∧ PGo b o cells t (resP p i j v).1 vS w w' := by
  have hbw := blk_lt hP.fb
  have hla := litsAt_lt p hlt i
  go_enter Tryz.func113, Tryz.ntmps113
  go_wp2_with fail
  refine (plits_any 0 b o p vS i _ (by rw [blk_cell hP.fb]; exact hP.cs) hP.own (by omega)).mono ?_
  rintro e u1 ⟨rfl, b1⟩
  have hB : Below w.heap.size w u1 := b1
  have hP1 := hP.later hB
  have HR : Hid (resP p i j v = if hasLit (litsAt p i) v then (p ++ [⟨3, i, j, v, without2 (litsAt p i) (litsAt p j) v⟩], p.length + 1) else (p ++ [⟨3, j, i, v, without2 (litsAt p j) (litsAt p i) v⟩], p.length + 1)) := hide rfl
  generalize hea : litsAt p i = c at *
  have HEA := hide hea
  clear hea
  obtain ⟨a1, a2⟩ := c
  dsimp only at hla
  go_wp2_with fail
  generalize hw0 : u1.alloc (.cells #[.int .i64 (a1 : Int), .int .i64 (a2 : Int)] 74) = u2
  have b2 : Below u1.heap.size u1 u2 := by rw [← hw0]; exact (Below.refl _ _).alloc (Nat.le_refl _) _
  have how : u2.heap[u1.heap.size]? = some (.cells #[.int .i64 (a1 : Int), .int .i64 (a2 : Int)] 74 (0, 0)) := by rw [← hw0]; exact heap_alloc_new _ _
  clear hw0
  replace hB := hB.trans (b2.mono hB.size)
  replace hP1 := hP1.later b2
  have cow0 : u2.cell? ⟨u1.heap.size, 0, none⟩ = some (.int .i64 (a1 : Int)) := by rw [blk_cell how]; rfl
  have cow1 : u2.cell? ⟨u1.heap.size, 1, none⟩ = some (.int .i64 (a2 : Int)) := by rw [blk_cell how]; rfl
  have low := blk_lt how
  refine (has_any a1 a2 v _ hla.1 hla.2 (by omega) (by omega)).mono ?_
  rintro e u3 ⟨rfl, b3⟩
  replace hB := hB.trans (b3.mono hB.size)
  replace how := (b3.block _ (blk_lt how)).trans how
  replace cow0 : u3.cell? ⟨u1.heap.size, 0, none⟩ = some (.int .i64 (a1 : Int)) := by rw [blk_cell how]; rfl
  replace cow1 : u3.cell? ⟨u1.heap.size, 1, none⟩ = some (.int .i64 (a2 : Int)) := by rw [blk_cell how]; rfl
  replace low := blk_lt how
  replace hP1 := hP1.later b3
  cases hh : hasLit (a1, a2) (v : Int) with
  | true =>
    have HF : Hid (resP p i j v = (p ++ [⟨3, i, j, v, without2 (litsAt p i) (litsAt p j) v⟩], p.length + 1)) := hide (by rw [unhide HR, hh]; rw [← unhide HEA]; rfl)
    clear hh
    go_wp2_with fail
    have hsl0 := hB.size
    generalize hw0 : u3.alloc (.cells #[.int .i64 3, .int .i64 (i : Int), .int .i64 (j : Int), .int .i64 (v : Int), .int .i64 0, .int .i64 0] 134) = u4
    have b4 : Below u3.heap.size u3 u4 := by rw [← hw0]; exact (Below.refl _ _).alloc (Nat.le_refl _) _
    have hst : u4.heap[u3.heap.size]? = some (.cells #[.int .i64 3, .int .i64 (i : Int), .int .i64 (j : Int), .int .i64 (v : Int), .int .i64 0, .int .i64 0] 134 (0, 0)) := by rw [← hw0]; exact heap_alloc_new _ _
    clear hw0
    replace hB := hB.trans (b4.mono hB.size)
    replace how := (b4.block _ (blk_lt how)).trans how
    replace cow0 : u4.cell? ⟨u1.heap.size, 0, none⟩ = some (.int .i64 (a1 : Int)) := by rw [blk_cell how]; rfl
    replace cow1 : u4.cell? ⟨u1.heap.size, 1, none⟩ = some (.int .i64 (a2 : Int)) := by rw [blk_cell how]; rfl
    replace low := blk_lt how
    replace hP1 := hP1.later b4
    have cst0 : u4.cell? ⟨u3.heap.size, 0, none⟩ = some (.int .i64 3) := by rw [blk_cell hst]; rfl
    have cst1 : u4.cell? ⟨u3.heap.size, 1, none⟩ = some (.int .i64 (i : Int)) := by rw [blk_cell hst]; rfl
    have cst2 : u4.cell? ⟨u3.heap.size, 2, none⟩ = some (.int .i64 (j : Int)) := by rw [blk_cell hst]; rfl
    have cst3 : u4.cell? ⟨u3.heap.size, 3, none⟩ = some (.int .i64 (v : Int)) := by rw [blk_cell hst]; rfl
    have cst4 : u4.cell? ⟨u3.heap.size, 4, none⟩ = some (.int .i64 0) := by rw [blk_cell hst]; rfl
    have cst5 : u4.cell? ⟨u3.heap.size, 5, none⟩ = some (.int .i64 0) := by rw [blk_cell hst]; rfl
    have lst := blk_lt hst
    refine (resolvent_any 0 b o p vS ⟨3, i, j, v, (0, 0)⟩ _ (by rw [blk_cell hP1.fb]; exact hP1.cs) hP1.own (by omega) hlt).mono ?_
    rintro e u5 ⟨rfl, b5⟩
    replace hB := hB.trans (b5.mono hB.size)
    replace how := (b5.block _ (blk_lt how)).trans how
    replace cow0 : u5.cell? ⟨u1.heap.size, 0, none⟩ = some (.int .i64 (a1 : Int)) := by rw [blk_cell how]; rfl
    replace cow1 : u5.cell? ⟨u1.heap.size, 1, none⟩ = some (.int .i64 (a2 : Int)) := by rw [blk_cell how]; rfl
    replace low := blk_lt how
    replace hst := (b5.block _ (blk_lt hst)).trans hst
    replace cst0 : u5.cell? ⟨u3.heap.size, 0, none⟩ = some (.int .i64 3) := by rw [blk_cell hst]; rfl
    replace cst1 : u5.cell? ⟨u3.heap.size, 1, none⟩ = some (.int .i64 (i : Int)) := by rw [blk_cell hst]; rfl
    replace cst2 : u5.cell? ⟨u3.heap.size, 2, none⟩ = some (.int .i64 (j : Int)) := by rw [blk_cell hst]; rfl
    replace cst3 : u5.cell? ⟨u3.heap.size, 3, none⟩ = some (.int .i64 (v : Int)) := by rw [blk_cell hst]; rfl
    replace cst4 : u5.cell? ⟨u3.heap.size, 4, none⟩ = some (.int .i64 0) := by rw [blk_cell hst]; rfl
    replace cst5 : u5.cell? ⟨u3.heap.size, 5, none⟩ = some (.int .i64 0) := by rw [blk_cell hst]; rfl
    replace lst := blk_lt hst
    replace hP1 := hP1.later b5
    dsimp only
    generalize hea : without2 (litsAt p i) (litsAt p j) v = c at *
    obtain ⟨d1, d2⟩ := c
    clear hea
    have hsl : w.heap.size ≤ u3.heap.size := by have h1 := hsl0; omega
    have z4 := blk_free hst 4
    have z5 := blk_free hst 5
    have hx1 : (u5.setCell ⟨u3.heap.size, 4, none⟩ (.int .i64 (d1 : Int))).heap[u3.heap.size]? = some (.cells #[.int .i64 3, .int .i64 (i : Int), .int .i64 (j : Int), .int .i64 (v : Int), .int .i64 (d1 : Int), .int .i64 0] 134 (0, 0)) := blk_set hst 4 _
    have hx2 : ((u5.setCell ⟨u3.heap.size, 4, none⟩ (.int .i64 (d1 : Int))).setCell ⟨u3.heap.size, 5, none⟩ (.int .i64 (d2 : Int))).heap[u3.heap.size]? = some (.cells #[.int .i64 3, .int .i64 (i : Int), .int .i64 (j : Int), .int .i64 (v : Int), .int .i64 (d1 : Int), .int .i64 (d2 : Int)] 134 (0, 0)) := blk_set hx1 5 _
    generalize hwz : ((u5.setCell ⟨u3.heap.size, 4, none⟩ (.int .i64 (d1 : Int))).setCell ⟨u3.heap.size, 5, none⟩ (.int .i64 (d2 : Int))) = wz at *
    have hBz : Below w.heap.size w wz := by
      rw [← hwz]
      exact (hB.setCell (p := ⟨u3.heap.size, 4, none⟩) hsl _).setCell (p := ⟨u3.heap.size, 5, none⟩) hsl _
    have hPz := hP.later hBz
    have q0 : wz.cell? ⟨u3.heap.size, 0, none⟩ = some (.int .i64 3) := by rw [blk_cell hx2]; rfl
    have q1 : wz.cell? ⟨u3.heap.size, 1, none⟩ = some (.int .i64 (i : Int)) := by rw [blk_cell hx2]; rfl
    have q2 : wz.cell? ⟨u3.heap.size, 2, none⟩ = some (.int .i64 (j : Int)) := by rw [blk_cell hx2]; rfl
    have q3 : wz.cell? ⟨u3.heap.size, 3, none⟩ = some (.int .i64 (v : Int)) := by rw [blk_cell hx2]; rfl
    have q4 : wz.cell? ⟨u3.heap.size, 4, none⟩ = some (.int .i64 (d1 : Int)) := by rw [blk_cell hx2]; rfl
    have q5 : wz.cell? ⟨u3.heap.size, 5, none⟩ = some (.int .i64 (d2 : Int)) := by rw [blk_cell hx2]; rfl
    have lz := blk_lt hx2
    have hbz := blk_lt hPz.fb
    clear hx1
    go_wp2_with fail
    refine (add_any 0 b o p vS ⟨3, i, j, v, (d1, d2)⟩ cells t _ hPz.fb hPz.cs hPz.ty hPz.own (by omega) (Nat.zero_le _)).mono ?_
    intro e uz hadd
    obtain ⟨rfl, hgo⟩ := PAt.add hadd
    have hgo2 := hgo.before hBz
    clear hadd hgo
    go_wp2_with fail
    go_ret
    refine ⟨?_, ?_⟩
    · rw [unhide HF]; exact ret_int (by simp)
    · rw [unhide HF]; exact hgo2
  | false =>
    have HF : Hid (resP p i j v = (p ++ [⟨3, j, i, v, without2 (litsAt p j) (litsAt p i) v⟩], p.length + 1)) := hide (by rw [unhide HR, hh]; rw [← unhide HEA]; rfl)
    clear hh
    go_wp2_with fail
    have hsl0 := hB.size
    generalize hw0 : u3.alloc (.cells #[.int .i64 3, .int .i64 (j : Int), .int .i64 (i : Int), .int .i64 (v : Int), .int .i64 0, .int .i64 0] 134) = u4
    have b4 : Below u3.heap.size u3 u4 := by rw [← hw0]; exact (Below.refl _ _).alloc (Nat.le_refl _) _
    have hst : u4.heap[u3.heap.size]? = some (.cells #[.int .i64 3, .int .i64 (j : Int), .int .i64 (i : Int), .int .i64 (v : Int), .int .i64 0, .int .i64 0] 134 (0, 0)) := by rw [← hw0]; exact heap_alloc_new _ _
    clear hw0
    replace hB := hB.trans (b4.mono hB.size)
    replace how := (b4.block _ (blk_lt how)).trans how
    replace cow0 : u4.cell? ⟨u1.heap.size, 0, none⟩ = some (.int .i64 (a1 : Int)) := by rw [blk_cell how]; rfl
    replace cow1 : u4.cell? ⟨u1.heap.size, 1, none⟩ = some (.int .i64 (a2 : Int)) := by rw [blk_cell how]; rfl
    replace low := blk_lt how
    replace hP1 := hP1.later b4
    have cst0 : u4.cell? ⟨u3.heap.size, 0, none⟩ = some (.int .i64 3) := by rw [blk_cell hst]; rfl
    have cst1 : u4.cell? ⟨u3.heap.size, 1, none⟩ = some (.int .i64 (j : Int)) := by rw [blk_cell hst]; rfl
    have cst2 : u4.cell? ⟨u3.heap.size, 2, none⟩ = some (.int .i64 (i : Int)) := by rw [blk_cell hst]; rfl
    have cst3 : u4.cell? ⟨u3.heap.size, 3, none⟩ = some (.int .i64 (v : Int)) := by rw [blk_cell hst]; rfl
    have cst4 : u4.cell? ⟨u3.heap.size, 4, none⟩ = some (.int .i64 0) := by rw [blk_cell hst]; rfl
    have cst5 : u4.cell? ⟨u3.heap.size, 5, none⟩ = some (.int .i64 0) := by rw [blk_cell hst]; rfl
    have lst := blk_lt hst
    refine (resolvent_any 0 b o p vS ⟨3, j, i, v, (0, 0)⟩ _ (by rw [blk_cell hP1.fb]; exact hP1.cs) hP1.own (by omega) hlt).mono ?_
    rintro e u5 ⟨rfl, b5⟩
    replace hB := hB.trans (b5.mono hB.size)
    replace how := (b5.block _ (blk_lt how)).trans how
    replace cow0 : u5.cell? ⟨u1.heap.size, 0, none⟩ = some (.int .i64 (a1 : Int)) := by rw [blk_cell how]; rfl
    replace cow1 : u5.cell? ⟨u1.heap.size, 1, none⟩ = some (.int .i64 (a2 : Int)) := by rw [blk_cell how]; rfl
    replace low := blk_lt how
    replace hst := (b5.block _ (blk_lt hst)).trans hst
    replace cst0 : u5.cell? ⟨u3.heap.size, 0, none⟩ = some (.int .i64 3) := by rw [blk_cell hst]; rfl
    replace cst1 : u5.cell? ⟨u3.heap.size, 1, none⟩ = some (.int .i64 (j : Int)) := by rw [blk_cell hst]; rfl
    replace cst2 : u5.cell? ⟨u3.heap.size, 2, none⟩ = some (.int .i64 (i : Int)) := by rw [blk_cell hst]; rfl
    replace cst3 : u5.cell? ⟨u3.heap.size, 3, none⟩ = some (.int .i64 (v : Int)) := by rw [blk_cell hst]; rfl
    replace cst4 : u5.cell? ⟨u3.heap.size, 4, none⟩ = some (.int .i64 0) := by rw [blk_cell hst]; rfl
    replace cst5 : u5.cell? ⟨u3.heap.size, 5, none⟩ = some (.int .i64 0) := by rw [blk_cell hst]; rfl
    replace lst := blk_lt hst
    replace hP1 := hP1.later b5
    dsimp only
    generalize hea : without2 (litsAt p j) (litsAt p i) v = c at *
    obtain ⟨d1, d2⟩ := c
    clear hea
    have hsl : w.heap.size ≤ u3.heap.size := by have h1 := hsl0; omega
    have z4 := blk_free hst 4
    have z5 := blk_free hst 5
    have hx1 : (u5.setCell ⟨u3.heap.size, 4, none⟩ (.int .i64 (d1 : Int))).heap[u3.heap.size]? = some (.cells #[.int .i64 3, .int .i64 (j : Int), .int .i64 (i : Int), .int .i64 (v : Int), .int .i64 (d1 : Int), .int .i64 0] 134 (0, 0)) := blk_set hst 4 _
    have hx2 : ((u5.setCell ⟨u3.heap.size, 4, none⟩ (.int .i64 (d1 : Int))).setCell ⟨u3.heap.size, 5, none⟩ (.int .i64 (d2 : Int))).heap[u3.heap.size]? = some (.cells #[.int .i64 3, .int .i64 (j : Int), .int .i64 (i : Int), .int .i64 (v : Int), .int .i64 (d1 : Int), .int .i64 (d2 : Int)] 134 (0, 0)) := blk_set hx1 5 _
    generalize hwz : ((u5.setCell ⟨u3.heap.size, 4, none⟩ (.int .i64 (d1 : Int))).setCell ⟨u3.heap.size, 5, none⟩ (.int .i64 (d2 : Int))) = wz at *
    have hBz : Below w.heap.size w wz := by
      rw [← hwz]
      exact (hB.setCell (p := ⟨u3.heap.size, 4, none⟩) hsl _).setCell (p := ⟨u3.heap.size, 5, none⟩) hsl _
    have hPz := hP.later hBz
    have q0 : wz.cell? ⟨u3.heap.size, 0, none⟩ = some (.int .i64 3) := by rw [blk_cell hx2]; rfl
    have q1 : wz.cell? ⟨u3.heap.size, 1, none⟩ = some (.int .i64 (j : Int)) := by rw [blk_cell hx2]; rfl
    have q2 : wz.cell? ⟨u3.heap.size, 2, none⟩ = some (.int .i64 (i : Int)) := by rw [blk_cell hx2]; rfl
    have q3 : wz.cell? ⟨u3.heap.size, 3, none⟩ = some (.int .i64 (v : Int)) := by rw [blk_cell hx2]; rfl
    have q4 : wz.cell? ⟨u3.heap.size, 4, none⟩ = some (.int .i64 (d1 : Int)) := by rw [blk_cell hx2]; rfl
    have q5 : wz.cell? ⟨u3.heap.size, 5, none⟩ = some (.int .i64 (d2 : Int)) := by rw [blk_cell hx2]; rfl
    have lz := blk_lt hx2
    have hbz := blk_lt hPz.fb
    clear hx1
    go_wp2_with fail
    refine (add_any 0 b o p vS ⟨3, j, i, v, (d1, d2)⟩ cells t _ hPz.fb hPz.cs hPz.ty hPz.own (by omega) (Nat.zero_le _)).mono ?_
    intro e uz hadd
    obtain ⟨rfl, hgo⟩ := PAt.add hadd
    have hgo2 := hgo.before hBz
    clear hadd hgo
    go_wp2_with fail
    go_ret
    refine ⟨?_, ?_⟩
    · rw [unhide HF]; exact ret_int (by simp)
    · rw [unhide HF]; exact hgo2
end Go.Proofs.YtgipjjhkhfihpaaGreatDoor

namespace Go.Proofs.YtgipjjhkhfihpaaGreatDoor
open Go.RowKit

theorem SAt.pat {w : World} {b : Nat} {C : SC} {S : SS} {V : SV} (h : SAt w b C S V) {kind : Nat} (hk : kind = 1 ∨ kind = 2) : PAt w b (pOff kind) (sCells C S V) 126 (S.proof kind) (if kind = 2 then V.a else V.r) kind := by
  rcases hk with rfl | rfl
  · exact ⟨h.fb, rfl, rfl, h.oR, by decide⟩
  · exact ⟨h.fb, rfl, rfl, h.oA, by decide⟩
theorem SAt.put {w w' : World} {b : Nat} {C : SC} {S : SS} {V : SV} (h : SAt w b C S V) {kind : Nat} (hk : kind = 1 ∨ kind = 2) {p : List Stp} (hg : PGo b (pOff kind) (sCells C S V) 126 p (if kind = 2 then V.a else V.r) w w') : SPost b C (S.put kind p) V w w' := by
  obtain ⟨v', h1, h2, h3, h4⟩ := hg
  have hS : ∀ k, (if kind = 2 then V.a else V.r).ownBlock = some k → ∃ c, w.heap[k]? = some (.cells c 134 (0, 0)) := by
    rcases hk with rfl | rfl
    · exact own_bk h.oR
    · exact own_bk h.oA
  have hne : ∀ {e : TypeId} {k : Nat}, e ≠ 126 → e ≠ 134 → (∃ c, w.heap[k]? = some (.cells c e (0, 0))) → ¬ (k = b ∨ (if kind = 2 then V.a else V.r).ownBlock = some k) := by
    rintro e k h5 h6 ⟨c, hc⟩ (e2 | e2)
    · subst e2; exact h5 (blk_type hc h.fb)
    · obtain ⟨c', hc'⟩ := hS k e2; exact h6 (blk_type hc hc')
  have honly : Only (TS b V) w w' := h3.mono (fun k _ hh => by
    rcases hh with hh | hh
    · exact Or.inl hh
    · rcases hk with rfl | rfl
      · exact Or.inr (Or.inl hh)
      · exact Or.inr (Or.inr (Or.inl hh)))
  have oV := own_keep h.oV h3 (fun k hk2 => hne (by decide) (by decide) (own_bk h.oV k hk2))
  have oC := own_keep h.oC h3 (fun k hk2 => hne (by decide) (by decide) (own_bk h.oC k hk2))
  have oK := h.oK.keep h3 (fun k hk2 => hne (by decide) (by decide) (h.oK.blk k hk2))
  rcases hk with rfl | rfl
  · have oA := own_keep h.oA h3 (fun k hk2 hh => by
      rcases hh with e | e
      · subst e; exact own_type_ne h.oA h.fb (by decide) hk2
      · exact h.ap k e hk2)
    refine ⟨{ V with r := v' }, ⟨h2, oV, oC, h1, oA, oK, fun k hk1 hk2 => ?_⟩, honly, rfl, rfl, h4, Or.inl rfl, Or.inl rfl⟩
    have hlt := (h.oA.lt k hk2).2
    exact h4.ne hlt (fun e => h.ap k e hk2) hk1
  · have oR := own_keep h.oR h3 (fun k hk2 hh => by
      rcases hh with e | e
      · subst e; exact own_type_ne h.oR h.fb (by decide) hk2
      · exact h.ap k hk2 e)
    refine ⟨{ V with a := v' }, ⟨h2, oV, oC, oR, h1, oK, fun k hk1 hk2 => ?_⟩, honly, rfl, rfl, Or.inl rfl, h4, Or.inl rfl⟩
    have hlt := (h.oR.lt k hk1).2
    exact h4.ne hlt (fun e => h.ap k hk1 e) hk2
theorem SPost.before {b : Nat} {C : SC} {S' : SS} {V V1 : SV} {w w1 w' : World} (h : SPost b C S' V1 w1 w') (hm : SMoved b w w1 V V1) : SPost b C S' V w w' := by
  obtain ⟨V', h1, h2⟩ := h
  exact ⟨V', h1, hm.trans h2⟩
end Go.Proofs.YtgipjjhkhfihpaaGreatDoor

namespace Go.Proofs.YtgipjjhkhfihpaaGreatDoor
open Go.RowKit

set_option maxRecDepth 100000 in
set_option maxHeartbeats 1600000 in
theorem sreduce_any (b : Nat) (C : SC) (S : SS) (V : SV) (f : Nat × Nat) (w : World) (hS : SAt w b C S V) (hB : SBd C S) (hk : f.1 = 1 ∨ f.1 = 2) (hf : f.2 ≤ 1048576) :
    Calls Tryz.prog 114 #[.pointer (some ⟨b, 0, none⟩), FactV f] w fun e w' => e = .returned (FactV (S.reduce C.q f).2) ∧ SPost b C (S.reduce C.q f).1 V w w' := by
  obtain ⟨fk, fs⟩ := f
  obtain ⟨aV, cV, hVf⟩ := own_form hS.oV
  obtain ⟨aC, cC, hCf⟩ := own_form hS.oC
  have HR : Hid (S.reduce C.q (fk, fs) = (S.put fk (redP C.q fk (S.proof fk) fs).1, (fk, (redP C.q fk (S.proof fk) fs).2))) := hide rfl
  go_enter Tryz.func114, Tryz.ntmps114
  go_wp2_with fail
  generalize hw0 : ((w.alloc (.cells #[.int .i64 (fk : Int), .int .i64 (fs : Int)] 129)).alloc (.cells #[.int .i64 0, .int .i64 0] 129)) = u1
  have hb0 : Below w.heap.size w u1 := by rw [← hw0]; exact ((Below.refl _ _).alloc (Nat.le_refl _) _).alloc (by simp; try omega) _
  have hfa : u1.heap[w.heap.size]? = some (.cells #[.int .i64 (fk : Int), .int .i64 (fs : Int)] 129 (0, 0)) := by rw [← hw0, heap_alloc_old _ _ (by simp; try omega)]; exact alloc_new_at (by simp)
  have nfa : Far b V (w.heap.size) := hS.fresh (by omega)
  have hrs : u1.heap[w.heap.size + 1]? = some (.cells #[.int .i64 0, .int .i64 0] 129 (0, 0)) := by rw [← hw0]; exact alloc_new_at (by simp)
  have nrs : Far b V (w.heap.size + 1) := hS.fresh (by omega)
  clear hw0
  have hM : SMoved b w u1 V V := SMoved.of_below hb0
  replace hS := hS.later hb0
  have lb := blk_lt hS.fb
  have cfa0 : u1.cell? ⟨w.heap.size, 0, none⟩ = some (.int .i64 (fk : Int)) := by rw [blk_cell hfa]; rfl
  have cfa1 : u1.cell? ⟨w.heap.size, 1, none⟩ = some (.int .i64 (fs : Int)) := by rw [blk_cell hfa]; rfl
  have lfa := blk_lt hfa
  have crs0 : u1.cell? ⟨w.heap.size + 1, 0, none⟩ = some (.int .i64 0) := by rw [blk_cell hrs]; rfl
  have crs1 : u1.cell? ⟨w.heap.size + 1, 1, none⟩ = some (.int .i64 0) := by rw [blk_cell hrs]; rfl
  have lrs := blk_lt hrs
  refine (sproof_any b fk _ lb).mono ?_
  rintro e w2 ⟨rfl, hw2⟩
  subst hw2
  have q0 : w2.cell? ⟨b, 0, none⟩ = some (.slice aV C.q.vars.length cV) := by rw [blk_cell hS.fb]; exact congrArg some hVf
  have q1 : w2.cell? ⟨b, 1, none⟩ = some (.slice aC C.q.cl.length cC) := by rw [blk_cell hS.fb]; exact congrArg some hCf
  have hoV : w2.ownsRow 0 139 2 (.slice aV C.q.vars.length cV) C.q.vars.length (varCells C.q.vars) := by rw [← hVf]; exact hS.oV
  go_wp2_with fail
  have hb9 : Below w2.heap.size w2 w2.drew := (Below.refl _ w2).drew
  go_region_with (go_at_call 133; refine (preduce_any b (pOff fk) _ _ C.q _ (.slice aC C.q.cl.length cC) _ _ fk fs _ ((hS.later hb9).pat hk) (own_below hoV hb9) ⟨_, _, _, rfl⟩ hB.qb (hB.proof fk).1 (hB.proof fk).2 hf).mono ?_; rintro e w3 ⟨rfl, hgo⟩; obtain ⟨V2, hS2, hM1⟩ := (hS.later hb9).put hk hgo; have hM2 := (SMoved.of_below hb9).trans hM1; clear hgo; have hrs2 := hM2.blk hrs nrs; have nrs2 := hM2.far lrs nrs; have hM3 := hM.trans hM2; have crs20 : w3.cell? ⟨w.heap.size + 1, 0, none⟩ = some (.int .i64 0) := (by rw [blk_cell hrs2]; rfl); have crs21 : w3.cell? ⟨w.heap.size + 1, 1, none⟩ = some (.int .i64 0) := (by rw [blk_cell hrs2]; rfl); have hfa2 := hM2.blk hfa nfa; have cfa20 : w3.cell? ⟨w.heap.size, 0, none⟩ = some (.int .i64 (fk : Int)) := (by rw [blk_cell hfa2]; rfl); have l3 := blk_lt hrs2; have l4 : w.heap.size < w3.heap.size := (by omega); have z0 := blk_free hrs2 0; have z1 := blk_free hrs2 1)
  all_goals
    generalize hrn : (redP C.q fk (S.proof fk) fs).2 = rn at *
    have HF : Hid (S.reduce C.q (fk, fs) = (S.put fk (redP C.q fk (S.proof fk) fs).1, (fk, rn))) := HR
    have hR := blk_set (blk_set hrs2 0 (.int .i64 (fk : Int))) 1 (.int .i64 (rn : Int))
    have j0 := blk_cell hR 0
    have j1 := blk_cell hR 1
    clear hrn HR
    go_wp2_with fail
    refine bodyPost_ret (v := FactV (fk, rn)) (by simp [results, Tryz.results114, go_sem, j0, j1]) rfl ⟨by rw [unhide HF], ?_⟩
    rw [unhide HF]
    exact ⟨V2, (hS2.set nrs2 0 _).set nrs2 1 _, (hM3.set (Nat.le_succ _) 0 _).set (Nat.le_succ _) 1 _⟩
end Go.Proofs.YtgipjjhkhfihpaaGreatDoor

namespace Go.Proofs.YtgipjjhkhfihpaaGreatDoor
open Go.RowKit

/-! ### append onto a row that may begin inside its block -/
section
variable {P : Program}
theorem rowAt_of_own {w : World} {base : Nat} {e : TypeId} {size : Nat} {v : Value} {n : Nat} {xs : List Value} (h : w.ownsRow base e size v n xs) : RowAt w e size v n xs := by
  obtain ⟨h1, h2⟩ := h
  refine ⟨h1, ?_⟩
  rcases h2 with ⟨rfl, rfl⟩ | ⟨g, cap, cur, rfl, _, hg, hc, hm, hs, ht⟩
  · exact Or.inl ⟨rfl, none, rfl, fun k hk => by cases hk⟩
  · refine Or.inr ⟨g, 0, cap, cur, rfl, hg, hc, hm, by omega, fun j u hj => ?_⟩
    rw [← ht, List.getElem?_take] at hj
    split at hj
    · simpa using hj
    · cases hj
theorem run_append_row2 (w : World) (t ty e : TypeId) (i : TypeInfo) (z : Value) (bytes : Nat) (ht : P.underlying t = some (.slice e)) (hi : P.info? e = some i) (hz : i.zero = some z) (hsize : i.size = 2) (hby : i.bytes = bytes) (hzs : z.cells.size = 2)
    (v : Value) (n : Nat) (xs : List Value) (h : RowAt w e 2 v n xs) (a : Addr) (c : Nat) (x y : Value) (hx : w.cell? a = some x) (hy : w.cell? (a.add 1) = some y) (ox : x.oneCell' = true) (oy : y.oneCell' = true) (h63 : n + 1 ≤ 1048576) (hbytes : bytes ≤ 1024) :
    ∃ v' w', (Builtin.append_ #[t, t] ty #[v, .slice (some a) 1 c]).run P w = .ok v' w' ∧ RowAt w' e 2 v' (n + 1) (xs ++ [x, y]) ∧ Only (fun k => v.ownBlock = some k) w w' ∧ Moved w v v' := by
  have hl : [x, y].length = 1 * 2 := rfl
  have ha0 : a.add 0 = a := by unfold Addr.add; split <;> simp_all
  have hnews : ∀ j u, [x, y][j]? = some u → w.cell? (a.add j) = some u := by
    intro j u hj
    match j, hj with
    | 0, hj => simp at hj; subst hj; rw [ha0]; exact hx
    | 1, hj => simp at hj; subst hj; exact hy
    | j + 2, hj => simp at hj
  have hb1 : (n + 1) * bytes ≤ 140737488355328 := by
    have : (n + 1) * bytes ≤ 1048576 * 1024 := Nat.mul_le_mul h63 hbytes
    omega
  have hmax : n + 1 ≤ maxLen := by unfold maxLen; omega
  obtain ⟨hlen, hh⟩ := h
  have grow : ∀ (b : Addr) (cap : Nat), v = .slice (some b) n cap → cap < n + 1 → (∀ j u, xs[j]? = some u → w.cell? (b.add j) = some u) → ∃ v' w', (Builtin.append_ #[t, t] ty #[v, .slice (some a) 1 c]).run P w = .ok v' w' ∧ RowAt w' e 2 v' (n + 1) (xs ++ [x, y]) ∧ Only (fun k => v.ownBlock = some k) w w' ∧ Moved w v v' := by
    intro b cap hv hcap holds
    subst hv
    obtain ⟨v', w', h1, h2, h3⟩ := run_append_arg_grows (P := P) w t ty e i z 2 bytes ht hi hz hsize hby hzs (by decide) b n cap xs hlen holds a 1 c [x, y] hl hnews hcap hmax hb1
    refine ⟨v', w', h1, rowAt_of_own h2, ⟨h3.os, h3.tape, h3.output, h3.size, fun k hk _ => h3.block k hk (by simp)⟩, ?_⟩
    rcases h2.2 with ⟨_, h0⟩ | ⟨g, cap', cur, rfl, hg, _⟩
    · omega
    · exact Or.inr ⟨g, rfl, hg⟩
  rcases hh with ⟨hn0, a0, hv, hbk⟩ | ⟨g, off, cap, cur, hv, hg, hnc, hcm, hcs, hcells⟩
  · subst hn0
    have hxs : xs = [] := List.eq_nil_of_length_eq_zero (by simpa using hlen)
    cases a0 with
    | none =>
      subst hv hxs
      obtain ⟨v', w', h1, h2, h3, h4⟩ := run_append_at (P := P) w w.heap.size t ty e i z 2 bytes ht hi hz hsize hby hzs (by decide) (.slice none 0 0) 0 [] (World.ownsRow_nil _ _ _ _) a 1 c [x, y] hl hnews (by simp [ox, oy]) (by decide) hmax hb1 (Nat.le_refl _)
      refine ⟨v', w', h1, rowAt_of_own h2, ⟨h3.os, h3.tape, h3.output, h3.size, fun k hk _ => h3.block k hk (fun e => by cases e)⟩, h4⟩
    | some b => exact grow b 0 hv (by omega) (fun j u hj => by rw [hxs] at hj; simp at hj)
  · by_cases hroom : n + 1 ≤ cap
    · subst hv
      have hsz : off + n * 2 + 1 < cur.size := by omega
      have hr := run_append_room_cells (P := P) w t ty e i ht hi g off n cap a 1 c [x, y] (by rw [hsize]; rfl) hnews (by simp [ox, oy]) hroom (by
        intro j hj
        rw [hsize, blk_cell hg]
        have : off + n * 2 + j < cur.size := by simp at hj; omega
        simp [this]) (by intro j hj; exact blk_free hg _)
      rw [hsize] at hr
      have hset : w.setCells g (off + n * 2) [x, y] = (w.setCell ⟨g, off + n * 2, none⟩ x).setCell ⟨g, off + n * 2 + 1, none⟩ y := rfl
      rw [hset] at hr
      have hg2 := blk_set (blk_set hg (off + n * 2) x) (off + n * 2 + 1) y
      refine ⟨_, _, hr, ⟨by simp [hlen]; omega, Or.inr ⟨g, off, cap, _, rfl, hg2, hroom, hcm, by simpa using hcs, ?_⟩⟩, ((Only.refl (fun k => (Value.slice (some ⟨g, off, none⟩) n cap).ownBlock = some k) w).setCell (p := ⟨g, off + n * 2, none⟩) (Or.inl rfl) x).setCell (p := ⟨g, off + n * 2 + 1, none⟩) (Or.inl rfl) y, Or.inl rfl⟩
      intro j u hj
      rw [Array.getElem?_setIfInBounds, Array.getElem?_setIfInBounds]
      rcases Nat.lt_or_ge j (n * 2) with h1 | h1
      · rw [List.getElem?_append_left (by omega)] at hj
        rw [if_neg (by omega), if_neg (by omega)]
        exact hcells j u hj
      · rw [List.getElem?_append_right (by omega), hlen] at hj
        have : j - n * 2 = 0 ∨ j - n * 2 = 1 := by
          rcases Nat.lt_or_ge (j - n * 2) 2 with h2 | h2
          · omega
          · rw [List.getElem?_eq_none (by simpa using h2)] at hj; cases hj
        rcases this with h2 | h2
        · rw [h2] at hj
          simp at hj
          subst hj
          have e1 : j = n * 2 := by omega
          subst e1
          rw [if_neg (by omega), if_pos rfl, if_pos (by omega)]
        · rw [h2] at hj
          simp at hj
          subst hj
          have e1 : j = n * 2 + 1 := by omega
          subst e1
          rw [if_pos (by omega), if_pos (by simp; omega)]
    · exact grow ⟨g, off, none⟩ cap hv (by omega) (fun j u hj => by
        have hadd : (⟨g, off, none⟩ : Addr).add j = ⟨g, off + j, none⟩ := by unfold Addr.add; split <;> simp_all
        rw [hadd, blk_cell hg]; exact hcells j u hj)
theorem step_append_row2 {ops : Array Oper} {o : Oper} {a : Act} {w : World} {K : Act → World → Prop} {Q : Exit → Act → World → Prop} {E : Prop}
    (hg : o.guard = none) (s x : Operand) (t : TypeId) (hop : o.op = Op.call { callee := Callee.builtin Builtin.append, args := #[s, x], argTypes := #[t, t] })
    (e : TypeId) (i : TypeInfo) (z : Value) (bytes : Nat) (ht : P.underlying t = some (.slice e)) (hi : P.info? e = some i) (hz : i.zero = some z) (hsize : i.size = 2) (hby : i.bytes = bytes) (hzs : z.cells.size = 2)
    (v : Value) (n : Nat) (xs : List Value) (hrow : RowAt w e 2 v n xs) (hs : a.eval s = v) (ad : Addr) (c : Nat) (p q : Value) (hx : a.eval x = .slice (some ad) 1 c) (hp : w.cell? ad = some p) (hq : w.cell? (ad.add 1) = some q) (op : p.oneCell' = true) (oq : q.oneCell' = true) (h63 : n + 1 ≤ 1048576) (hbytes : bytes ≤ 1024)
    (hK : ∀ v' w', RowAt w' e 2 v' (n + 1) (xs ++ [p, q]) → Only (fun k => v.ownBlock = some k) w w' → Moved w v v' → K (a.put o.dst v') w') :
    if Region.wanted o (yielded ops a.tmps) = true then Oper.wp P o a w K Q else E := by
  have hw : Region.wanted o (yielded ops a.tmps) = true := by simp [Region.wanted, hg]
  rw [if_pos hw]
  obtain ⟨v', w', hr, h2, h3, h4⟩ := run_append_row2 (P := P) w t o.type e i z bytes ht hi hz hsize hby hzs v n xs hrow ad c p q hp hq op oq h63 hbytes
  unfold Oper.wp execOp
  simp only [hop, resolve, invoke, builtin, Sem.run_bind, Sem.run_pure, Result.andThen_ok, List.map_toArray, List.map_cons, List.map_nil, hs, hx, hr]
  exact hK v' w' h2 h3 h4
end
/-- What is left of a row without its first element. -/
theorem RowAt.tail {w : World} {e : TypeId} {g off cap m : Nat} {l : List (Nat × Nat)} (h : RowAt w e 2 (.slice (some ⟨g, off, none⟩) l.length cap) l.length (pairs l)) (hm : l.length = m + 1) (v : Value) (hv : (cap = 1 ∧ v = .slice (some ⟨g, off, none⟩) m 0) ∨ v = .slice (some ⟨g, off + 2, none⟩) m (cap - 1)) : RowAt w e 2 v (l.drop 1).length (pairs (l.drop 1)) := by
  have hlen : (l.drop 1).length = m := by simp; omega
  have hpl : (pairs (l.drop 1)).length = (l.drop 1).length * 2 := pairs_length _
  obtain ⟨h1, h2⟩ := h
  rcases h2 with ⟨h0, _⟩ | ⟨g', off', cap', cur, he, hg, hc, hcm, hcs, hcells⟩
  · omega
  injection he with he _ e3
  injection he with he
  injection he with e1 e2 _
  subst e1 e2 e3
  refine ⟨hpl, ?_⟩
  rw [hlen]
  rcases hv with ⟨hc1, rfl⟩ | rfl
  · left
    have hm0 : m = 0 := by omega
    subst hm0
    exact ⟨rfl, _, rfl, fun k hk => by injection hk with hk; subst hk; exact ⟨cur, hg⟩⟩
  · right
    refine ⟨g, off + 2, cap - 1, cur, rfl, hg, by omega, by omega, by omega, fun j u hj => ?_⟩
    have := hcells (j + 2) u (by
      cases l with
      | nil => simp at hm
      | cons x l => simp only [pairs, List.flatMap_cons] at hj ⊢; simpa using hj)
    rw [← this]; congr 1; omega
end Go.Proofs.YtgipjjhkhfihpaaGreatDoor
