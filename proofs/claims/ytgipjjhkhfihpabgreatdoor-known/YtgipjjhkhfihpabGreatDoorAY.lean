import Derived.Test.YtgipjjhkhfihpabGreatDoorAT
import Derived.Test.YtgipjjhkhfihpabGreatDoorAU
import Derived.Test.YtgipjjhkhfihpabGreatDoorAV
import Derived.Test.YtgipjjhkhfihpabGreatDoorAX
import Derived.Test.YtgipjjhkhfihpabGreatDoorAK
import Derived.Shelf.Strconv.Itoa3
import Derived.Ground.NamesProg
import Derived.Test.YtgipjjhkhfihpabGreatDoorAL
import Derived.Test.YtgipjjhkhfihpabGreatDoorAQ
import Derived.Lib.AppendIntMem
import Derived.Lib.ItoaLen
import Derived.Test.YtgipjjhkhfihpabGreatDoorAH
namespace Go.Proofs.YtgipjjhkhfihpabGreatDoor
open Go.RowKit

/-! ### Solve -/
theorem look_all : ∀ m, LookSpec m := by
  intro m
  induction m with
  | zero => exact look_of_branch 0 branch_zero
  | succ m ih => exact look_of_branch (m + 1) (branch_succ m ih)
theorem uniTo_lt (vs : List (Nat × Bool)) (u : Nat × Nat) (h : u.1 < 512 ∧ u.2 < 512) : (uniTo vs u).1 < 512 ∧ (uniTo vs u).2 < 512 := by
  unfold uniTo
  induction vs generalizing u with
  | nil => exact h
  | cons v vs ih =>
    rw [List.foldl_cons]
    apply ih
    split
    · have h1 := withLit_lt u v.1 h.1 h.2
      exact withLit_lt _ _ h1.1 h1.2
    · exact h
theorem begin_cbd {q : QS} (hq : QGood q) {budget room : Nat} (hb : budget ≤ 1048576) (hr : room ≤ 64) : CBd (beginC q budget room) := ⟨hq, uni_ok hq, uniTo_lt _ _ ⟨by decide, by decide⟩, hb, hr⟩
theorem begin_in {q : QS} (hq : QGood q) (budget room : Nat) : LookIn (beginC q budget room) q.vars.length 0 (0, 0) (beginS q) := by
  have h1 := hq.qb.vl
  have h2 := hq.qb.cl
  refine ⟨⟨begin_inv hq budget room, ?_, Nat.zero_le _⟩, path_zero _, Nat.zero_add _, ?_⟩
  · show (axioms q.cl).length + 0 ≤ 100 + 12 * 0
    rw [axioms_len]; omega
  · have h3 : 2 ^ (q.vars.length + 1) ≤ 2 ^ 9 := Nat.pow_le_pow_right (by decide) (by omega)
    have h4 : (2 : Nat) ^ 9 = 512 := by decide
    show 0 + 2 ^ (q.vars.length + 1) ≤ 2001
    omega
/-- The proof that goes with an answer. -/
def solvedP (r : SS × (Nat × Nat)) : Nat × List Stp := if r.2.1 = 1 then (1, shortOf r.1.ref r.2.2) else if r.2.1 = 2 then (2, shortOf r.1.aff r.2.2) else (0, [])
theorem look_kind {C : SC} {m : Nat} {path : Nat × Nat} {S : SS} {r : SS × (Nat × Nat)} (h : LookOk C m path S r) : r.2.1 = 0 ∨ r.2.1 = 1 ∨ r.2.1 = 2 := by
  by_cases h0 : r.2.1 = 0
  · exact Or.inl h0
  · exact Or.inr (h.fact h0).inn.kind
def SolvePost (r : SS × (Nat × Nat)) (w : World) (e : Ending) (w' : World) : Prop := ∃ v, e = .returned (.agg #[.int .i64 (r.2.1 : Int), .int .i64 (r.1.nodes : Int), .int .i64 (r.1.most : Int), .int .i64 ((solvedP r).1 : Int), v]) ∧ w'.ownsRow w.heap.size 91 6 v (solvedP r).2.length (psCells (solvedP r).2) ∧ Below w.heap.size w w'
set_option maxRecDepth 100000 in
set_option maxHeartbeats 6400000 in
theorem ssolve_any (q : QS) (aV aC : Option Addr) (cV cC budget room : Nat) (w : World) (hoV : w.ownsRow 0 109 2 (.slice aV q.vars.length cV) q.vars.length (varCells q.vars)) (hoC : w.ownsRow 0 77 2 (.slice aC q.cl.length cC) q.cl.length (pairs q.cl)) (hq : QGood q) (hbu : budget ≤ 1048576) (hro : room ≤ 64) :
    Calls Tryz.prog 14 #[.agg #[.slice aV q.vars.length cV, .slice aC q.cl.length cC], .int .i64 (budget : Int), .int .i64 (room : Int)] w fun e w' => SolvePost (solveM q budget room) w e w' := by
  have hvl := hq.qb.vl
  have hcl := hq.qb.cl
  have hcb := begin_cbd hq hbu hro
  have hin := begin_in hq budget room
  have hlk := hin.lk hcb
  have hlo := hin.out hcb
  have HSM : Hid (solveM q budget room = lookM (beginC q budget room) q.vars.length (0, 0) 0 (beginS q)) := hide rfl
  go_enter Tryz.func14, Tryz.ntmps14
  go_wp2_with fail
  generalize hw0 : ((w.alloc (.cells #[.slice aV q.vars.length cV, .slice aC q.cl.length cC] 44)).alloc (.cells #[.int .i64 0, .int .i64 0, .int .i64 0, .int .i64 0, .slice none 0 0] 53)) = u1
  have hB : Below w.heap.size w u1 := by rw [← hw0]; exact ((Below.refl _ _).alloc (Nat.le_refl _) _).alloc (by simp; try omega) _
  have hfo : u1.heap[w.heap.size]? = some (.cells #[.slice aV q.vars.length cV, .slice aC q.cl.length cC] 44 (0, 0)) := by rw [← hw0, heap_alloc_old _ _ (by simp; try omega)]; exact alloc_new_at (by simp)
  have hrs : u1.heap[w.heap.size + 1]? = some (.cells #[.int .i64 0, .int .i64 0, .int .i64 0, .int .i64 0, .slice none 0 0] 53 (0, 0)) := by rw [← hw0]; exact alloc_new_at (by simp)
  clear hw0
  have cfo0 : u1.cell? ⟨w.heap.size, 0, none⟩ = some (.slice aV q.vars.length cV) := by rw [blk_cell hfo]; rfl
  have cfo1 : u1.cell? ⟨w.heap.size, 1, none⟩ = some (.slice aC q.cl.length cC) := by rw [blk_cell hfo]; rfl
  have lfo := blk_lt hfo
  have crs0 : u1.cell? ⟨w.heap.size + 1, 0, none⟩ = some (.int .i64 0) := by rw [blk_cell hrs]; rfl
  have crs1 : u1.cell? ⟨w.heap.size + 1, 1, none⟩ = some (.int .i64 0) := by rw [blk_cell hrs]; rfl
  have crs2 : u1.cell? ⟨w.heap.size + 1, 2, none⟩ = some (.int .i64 0) := by rw [blk_cell hrs]; rfl
  have crs3 : u1.cell? ⟨w.heap.size + 1, 3, none⟩ = some (.int .i64 0) := by rw [blk_cell hrs]; rfl
  have crs4 : u1.cell? ⟨w.heap.size + 1, 4, none⟩ = some (.slice none 0 0) := by rw [blk_cell hrs]; rfl
  have lrs := blk_lt hrs
  have hoV1 := own_below hoV hB
  have hoC1 := own_below hoC hB
  refine (begin_any q aV aC cV cC budget room _ hoV1 hoC1 hq.qb hbu hro).mono ?_
  rintro e u2 ⟨b0, V, rfl, hS0, hVv, hVc, hfr, hfa, hfk, b2⟩
  replace hB := hB.trans (b2.mono hB.size)
  replace hrs := (b2.block _ (blk_lt hrs)).trans hrs
  have hrl : w.heap.size + 1 < u1.heap.size := lrs
  clear hfo cfo0 cfo1 lfo crs0 crs1 crs2 crs3 crs4 lrs
  obtain ⟨aR, cR, hVR⟩ := own_form hS0.oR
  obtain ⟨aA, cA, hVA⟩ := own_form hS0.oA
  obtain ⟨aK, cK, hVK⟩ := hS0.oK.form
  have HCS : Hid (sCells (beginC q budget room) (beginS q) V = #[.slice aV q.vars.length cV, .slice aC q.cl.length cC, .int .i64 ((beginC q budget room).uni.1 : Int), .int .i64 ((beginC q budget room).uni.2 : Int), .int .i64 (budget : Int), .int .i64 0, .int .i64 1, .slice aR (beginS q).ref.length cR, .int .i64 2, .slice aA (beginS q).aff.length cA, .int .i64 (room : Int), .slice aK (beginS q).kept.length cK, .int .i64 0]) := hide (by simp only [sCells, hVv, hVc, hVR, hVA, hVK]; rfl)
  rw [unhide HCS]
  obtain ⟨C, hCe⟩ : ∃ X, X = beginC q budget room := ⟨_, rfl⟩
  obtain ⟨S, hSe⟩ : ∃ X, X = beginS q := ⟨_, rfl⟩
  have hCq : C.q = q := by rw [hCe]; rfl
  rw [← hCe] at hcb hin hlk hlo HSM hS0 HCS ⊢
  rw [← hSe] at hin hlk hlo HSM hS0 HCS ⊢
  clear hCe hSe
  obtain ⟨⟨n1, n2⟩, hne⟩ : ∃ X, X = C.uni := ⟨_, rfl⟩
  rw [← hne] at HCS ⊢
  clear hne
  dsimp only at HCS ⊢
  generalize hLR : S.ref.length = lr at *
  generalize hLA : S.aff.length = la at *
  generalize hLK : S.kept.length = lk at *
  go_wp2_with fail
  have hA3 : Below u2.heap.size u2 (u2.alloc (.cells #[.slice aV q.vars.length cV, .slice aC q.cl.length cC, .int .i64 (n1 : Int), .int .i64 (n2 : Int), .int .i64 (budget : Int), .int .i64 0, .int .i64 1, .slice aR lr cR, .int .i64 2, .slice aA la cA, .int .i64 (room : Int), .slice aK lk cK, .int .i64 0] 82)) := (Below.refl _ _).alloc (Nat.le_refl _) _
  have hSb : (u2.alloc (.cells #[.slice aV q.vars.length cV, .slice aC q.cl.length cC, .int .i64 (n1 : Int), .int .i64 (n2 : Int), .int .i64 (budget : Int), .int .i64 0, .int .i64 1, .slice aR lr cR, .int .i64 2, .slice aA la cA, .int .i64 (room : Int), .slice aK lk cK, .int .i64 0] 82)).heap[u2.heap.size]? = some (.cells (sCells C S V) 82 (0, 0)) := by rw [unhide HCS]; exact heap_alloc_new _ _
  have hS9 := hS0.later hA3
  have hS : SAt (u2.alloc (.cells #[.slice aV q.vars.length cV, .slice aC q.cl.length cC, .int .i64 (n1 : Int), .int .i64 (n2 : Int), .int .i64 (budget : Int), .int .i64 0, .int .i64 1, .slice aR lr cR, .int .i64 2, .slice aA la cA, .int .i64 (room : Int), .slice aK lk cK, .int .i64 0] 82)) u2.heap.size C S V := ⟨hSb, hS9.oV, hS9.oC, hS9.oR, hS9.oA, hS9.oK, hS9.ap⟩
  have hl2 : w.heap.size + 1 < u2.heap.size := blk_lt hrs
  replace hrs := (hA3.block _ hl2).trans hrs
  replace hB := hB.trans (hA3.mono hB.size)
  have nrs : Far u2.heap.size V (w.heap.size + 1) := ⟨by omega, fun e => (by rw [hVv] at e; have := (hoV.lt _ e).2; omega), fun e => (by rw [hVc] at e; have := (hoC.lt _ e).2; omega), fun e => (by have := hfr _ e; omega), fun e => (by have := hfa _ e; omega), fun e => (by have := hfk _ e; omega)⟩
  have HFR : Hid ((∀ k, V.r.ownBlock = some k → w.heap.size ≤ k) ∧ (∀ k, V.a.ownBlock = some k → w.heap.size ≤ k) ∧ (∀ k, V.k.ownBlock = some k → w.heap.size ≤ k)) := hide ⟨fun k hk => (by have := hfr _ hk; omega), fun k hk => (by have := hfa _ hk; omega), fun k hk => (by have := hfk _ hk; omega)⟩
  clear hSb hS9 hS0 HCS hfr hfa hfk hVR hVA hVK
  generalize (u2.alloc (.cells #[.slice aV q.vars.length cV, .slice aC q.cl.length cC, .int .i64 (n1 : Int), .int .i64 (n2 : Int), .int .i64 (budget : Int), .int .i64 0, .int .i64 1, .slice aR lr cR, .int .i64 2, .slice aA la cA, .int .i64 (room : Int), .slice aK lk cK, .int .i64 0] 82)) = u3 at *
  clear hA3
  refine (look_all q.vars.length u2.heap.size C S V (0, 0) 0 _ hcb hin hS).mono ?_
  rintro e u4 ⟨rfl, V2, hS2, hM2⟩
  have lrs := blk_lt hrs
  replace hrs := hM2.blk hrs nrs
  replace nrs := hM2.far lrs nrs
  have hB4 := hM2.only.under hB (Nat.le_refl _) (fun k hk => by
    rcases hk with hk | hk | hk | hk
    · omega
    · exact (unhide HFR).1 k hk
    · exact (unhide HFR).2.1 k hk
    · exact (unhide HFR).2.2 k hk)
  replace hB := hB4
  replace hS := hS2
  clear hB4 hS2 hM2 lrs HFR
  generalize lookM C q.vars.length (0, 0) 0 S = R at *
  obtain ⟨S4, f1, f2⟩ := R
  have hki := look_kind hlk
  have hpl1 := hlo.plen 1
  have hpl2 := hlo.plen 2
  dsimp only at hS hlo hki hpl1 hpl2 ⊢
  have HSX : Hid (solveM q budget room = (S4, f1, f2)) := HSM
  have cb5 : u4.cell? ⟨u2.heap.size, 5, none⟩ = some (.int .i64 (S4.nodes : Int)) := by rw [blk_cell hS.fb]; rfl
  have cb12 : u4.cell? ⟨u2.heap.size, 12, none⟩ = some (.int .i64 (S4.most : Int)) := by rw [blk_cell hS.fb]; rfl
  have lb := blk_lt hS.fb
  rcases hki with hki | hki | hki
  · have hd1 : ((f1 : Int) == 1) = false := by rw [beq_eq_false_iff_ne]; omega
    have hn1 : (f1 == 1) = false := by rw [beq_eq_false_iff_ne]; omega
    have hd2 : ((f1 : Int) == 2) = false := by rw [beq_eq_false_iff_ne]; omega
    have hn2 : (f1 == 2) = false := by rw [beq_eq_false_iff_ne]; omega
    have HSP : Hid (solvedP (S4, f1, f2) = (0, [])) := hide (by unfold solvedP; rw [if_neg (show ¬ f1 = 1 by omega), if_neg (show ¬ f1 = 2 by omega)])
    clear hki
    have hA5 : Below u4.heap.size u4 ((u4.alloc (.cells #[.int .i64 (f1 : Int), .int .i64 (f2 : Int)] 85)).alloc (.cells #[.int .i64 (f1 : Int), .int .i64 (S4.nodes : Int), .int .i64 (S4.most : Int), .int .i64 0, .slice none 0 0] 53)) := ((Below.refl _ _).alloc (Nat.le_refl _) _).alloc (by simp) _
    have hrs5 := (hA5.block _ (blk_lt hrs)).trans hrs
    have hB5 := hB.trans (hA5.mono hB.size)
    go_wp2_with (refine wpList_store_row rfl 53 _ _ rfl (w.heap.size + 1) _ rfl rfl 53 _ hrs5 (by kernel_rfl) rfl (by simp [Value.oneCell']) ?_)
    refine bodyPost_ret (v := .agg #[.int .i64 (f1 : Int), .int .i64 (S4.nodes : Int), .int .i64 (S4.most : Int), .int .i64 0, .slice none 0 0]) (results_cell_row rfl _ _ (w.heap.size + 1) 53 _ (0, 0) _ rfl (setRow_heap _ _ _ _ _ _ hrs5) Tryz.underlying53 rfl (by kernel_rfl)) rfl ?_
    rw [unhide HSX]
    refine ⟨.slice none 0 0, by rw [unhide HSP]; rfl, by rw [unhide HSP]; exact World.ownsRow_nil _ _ _ _, below_setRow hB5 (Nat.le_succ _) _⟩
  · have hd1 : ((f1 : Int) == 1) = true := by rw [beq_iff_eq]; omega
    have hn1 : (f1 == 1) = true := by rw [beq_iff_eq]; exact hki
    have hd2 : ((f1 : Int) == 2) = false := by rw [beq_eq_false_iff_ne]; omega
    have hn2 : (f1 == 2) = false := by rw [beq_eq_false_iff_ne]; omega
    have HSP : Hid (solvedP (S4, f1, f2) = (1, shortOf S4.ref f2)) := hide (by unfold solvedP; rw [if_pos (show f1 = 1 from hki)])
    clear hki
    have hA5 : Below u4.heap.size u4 ((u4.alloc (.cells #[.int .i64 (f1 : Int), .int .i64 (f2 : Int)] 85)).alloc (.cells #[.int .i64 (f1 : Int), .int .i64 (S4.nodes : Int), .int .i64 (S4.most : Int), .int .i64 0, .slice none 0 0] 53)) := ((Below.refl _ _).alloc (Nat.le_refl _) _).alloc (by simp) _
    have hrs5 := (hA5.block _ (blk_lt hrs)).trans hrs
    have hB5 := hB.trans (hA5.mono hB.size)
    have hfd : ((u4.alloc (.cells #[.int .i64 (f1 : Int), .int .i64 (f2 : Int)] 85)).alloc (.cells #[.int .i64 (f1 : Int), .int .i64 (S4.nodes : Int), .int .i64 (S4.most : Int), .int .i64 0, .slice none 0 0] 53)).heap[u4.heap.size]? = some (.cells #[.int .i64 (f1 : Int), .int .i64 (f2 : Int)] 85 (0, 0)) := by rw [heap_alloc_old _ _ (by simp)]; exact alloc_new_at (by simp)
    have han : ((u4.alloc (.cells #[.int .i64 (f1 : Int), .int .i64 (f2 : Int)] 85)).alloc (.cells #[.int .i64 (f1 : Int), .int .i64 (S4.nodes : Int), .int .i64 (S4.most : Int), .int .i64 0, .slice none 0 0] 53)).heap[u4.heap.size + 1]? = some (.cells #[.int .i64 (f1 : Int), .int .i64 (S4.nodes : Int), .int .i64 (S4.most : Int), .int .i64 0, .slice none 0 0] 53 (0, 0)) := alloc_new_at (by simp)
    have hS5 := hS.later hA5
    go_wp2_with fail
    have hz45 : u4.heap.size + 2 = ((u4.alloc (.cells #[.int .i64 (f1 : Int), .int .i64 (f2 : Int)] 85)).alloc (.cells #[.int .i64 (f1 : Int), .int .i64 (S4.nodes : Int), .int .i64 (S4.most : Int), .int .i64 0, .slice none 0 0] 53)).heap.size := by simp
    generalize ((u4.alloc (.cells #[.int .i64 (f1 : Int), .int .i64 (f2 : Int)] 85)).alloc (.cells #[.int .i64 (f1 : Int), .int .i64 (S4.nodes : Int), .int .i64 (S4.most : Int), .int .i64 0, .slice none 0 0] 53)) = u5 at *
    refine (short_any u2.heap.size 6 (sCells C S4 V2) 82 S4.ref V2.r 1 f2 _ (hS5.pat (Or.inl rfl)) (by have := hpl1; exact Nat.le_trans this (by decide))).mono ?_
    rintro e u6 ⟨v6, rfl, ho6, b6⟩
    replace hrs5 := (b6.block _ (blk_lt hrs5)).trans hrs5
    replace han := (b6.block _ (blk_lt han)).trans han
    replace hB5 := hB5.trans (b6.mono hB5.size)
    obtain ⟨a6, c6, rfl⟩ := own_form ho6
    generalize hSL : shortOf S4.ref f2 = sl at *
    have z3 := blk_free han 3
    have z4 := blk_free han 4
    have q3 : u6.cell? ⟨u4.heap.size + 1, 3, none⟩ = some (.int .i64 0) := by rw [blk_cell han]; rfl
    have q4 : u6.cell? ⟨u4.heap.size + 1, 4, none⟩ = some (.slice none 0 0) := by rw [blk_cell han]; rfl
    have lan := blk_lt han
    have hanS : ((u6.setCell ⟨u4.heap.size + 1, 3, none⟩ (.int .i64 1)).setCell ⟨u4.heap.size + 1, 4, none⟩ (.slice a6 sl.length c6)).heap[u4.heap.size + 1]? = some (.cells #[.int .i64 (f1 : Int), .int .i64 (S4.nodes : Int), .int .i64 (S4.most : Int), .int .i64 1, .slice a6 sl.length c6] 53 (0, 0)) := blk_set (blk_set han 3 (.int .i64 1)) 4 (.slice a6 sl.length c6)
    have hl4 : w.heap.size + 1 < u4.heap.size := blk_lt hrs
    have hrsS := blk_other (blk_other hrs5 (c := u4.heap.size + 1) (by omega) 3 (.int .i64 1)) (c := u4.heap.size + 1) (by omega) 4 (.slice a6 sl.length c6)
    have hne : (Value.slice a6 sl.length c6).ownBlock ≠ some (u4.heap.size + 1) := fun e => (by have := own_ge ho6 e; omega)
    have hne2 : (Value.slice a6 sl.length c6).ownBlock ≠ some (w.heap.size + 1) := fun e => (by have := own_ge ho6 e; omega)
    have hoS := own_set_ne (own_set_ne ho6 (p := ⟨u4.heap.size + 1, 3, none⟩) hne (.int .i64 1)) (p := ⟨u4.heap.size + 1, 4, none⟩) hne (.slice a6 sl.length c6)
    have hBS := (hB5.setCell (p := ⟨u4.heap.size + 1, 3, none⟩) (show w.heap.size ≤ u4.heap.size + 1 by omega) (.int .i64 1)).setCell (p := ⟨u4.heap.size + 1, 4, none⟩) (show w.heap.size ≤ u4.heap.size + 1 by omega) (.slice a6 sl.length c6)
    go_wp2_with (first | (refine wpList_load_row rfl 53 _ rfl (u4.heap.size + 1) rfl 53 _ (0, 0) _ hanS Tryz.underlying53 rfl (by kernel_rfl) ?_) | (refine wpList_store_row rfl 53 _ _ rfl (w.heap.size + 1) _ rfl rfl 53 _ hrsS (by kernel_rfl) rfl (by simp [Value.oneCell']) ?_))
    refine bodyPost_ret (v := .agg #[.int .i64 (f1 : Int), .int .i64 (S4.nodes : Int), .int .i64 (S4.most : Int), .int .i64 1, .slice a6 sl.length c6]) (results_cell_row rfl _ _ (w.heap.size + 1) 53 _ (0, 0) _ rfl (setRow_heap _ _ _ _ _ _ hrsS) Tryz.underlying53 rfl (by kernel_rfl)) rfl ?_
    rw [unhide HSX]
    refine ⟨.slice a6 sl.length c6, by rw [unhide HSP]; rfl, ?_, below_setRow hBS (Nat.le_succ _) _⟩
    rw [unhide HSP]
    exact own_lo (own_keep hoS (only_setRow _ (w.heap.size + 1) _) (fun k hk e => hne2 (by rw [hk, e]))) (by omega)
  · have hd1 : ((f1 : Int) == 1) = false := by rw [beq_eq_false_iff_ne]; omega
    have hn1 : (f1 == 1) = false := by rw [beq_eq_false_iff_ne]; omega
    have hd2 : ((f1 : Int) == 2) = true := by rw [beq_iff_eq]; omega
    have hn2 : (f1 == 2) = true := by rw [beq_iff_eq]; exact hki
    have HSP : Hid (solvedP (S4, f1, f2) = (2, shortOf S4.aff f2)) := hide (by unfold solvedP; rw [if_neg (show ¬ f1 = 1 by omega), if_pos (show f1 = 2 from hki)])
    clear hki
    have hA5 : Below u4.heap.size u4 ((u4.alloc (.cells #[.int .i64 (f1 : Int), .int .i64 (f2 : Int)] 85)).alloc (.cells #[.int .i64 (f1 : Int), .int .i64 (S4.nodes : Int), .int .i64 (S4.most : Int), .int .i64 0, .slice none 0 0] 53)) := ((Below.refl _ _).alloc (Nat.le_refl _) _).alloc (by simp) _
    have hrs5 := (hA5.block _ (blk_lt hrs)).trans hrs
    have hB5 := hB.trans (hA5.mono hB.size)
    have hfd : ((u4.alloc (.cells #[.int .i64 (f1 : Int), .int .i64 (f2 : Int)] 85)).alloc (.cells #[.int .i64 (f1 : Int), .int .i64 (S4.nodes : Int), .int .i64 (S4.most : Int), .int .i64 0, .slice none 0 0] 53)).heap[u4.heap.size]? = some (.cells #[.int .i64 (f1 : Int), .int .i64 (f2 : Int)] 85 (0, 0)) := by rw [heap_alloc_old _ _ (by simp)]; exact alloc_new_at (by simp)
    have han : ((u4.alloc (.cells #[.int .i64 (f1 : Int), .int .i64 (f2 : Int)] 85)).alloc (.cells #[.int .i64 (f1 : Int), .int .i64 (S4.nodes : Int), .int .i64 (S4.most : Int), .int .i64 0, .slice none 0 0] 53)).heap[u4.heap.size + 1]? = some (.cells #[.int .i64 (f1 : Int), .int .i64 (S4.nodes : Int), .int .i64 (S4.most : Int), .int .i64 0, .slice none 0 0] 53 (0, 0)) := alloc_new_at (by simp)
    have hS5 := hS.later hA5
    go_wp2_with fail
    have hz45 : u4.heap.size + 2 = ((u4.alloc (.cells #[.int .i64 (f1 : Int), .int .i64 (f2 : Int)] 85)).alloc (.cells #[.int .i64 (f1 : Int), .int .i64 (S4.nodes : Int), .int .i64 (S4.most : Int), .int .i64 0, .slice none 0 0] 53)).heap.size := by simp
    generalize ((u4.alloc (.cells #[.int .i64 (f1 : Int), .int .i64 (f2 : Int)] 85)).alloc (.cells #[.int .i64 (f1 : Int), .int .i64 (S4.nodes : Int), .int .i64 (S4.most : Int), .int .i64 0, .slice none 0 0] 53)) = u5 at *
    refine (short_any u2.heap.size 8 (sCells C S4 V2) 82 S4.aff V2.a 2 f2 _ (hS5.pat (Or.inr rfl)) (by have := hpl2; exact Nat.le_trans this (by decide))).mono ?_
    rintro e u6 ⟨v6, rfl, ho6, b6⟩
    replace hrs5 := (b6.block _ (blk_lt hrs5)).trans hrs5
    replace han := (b6.block _ (blk_lt han)).trans han
    replace hB5 := hB5.trans (b6.mono hB5.size)
    obtain ⟨a6, c6, rfl⟩ := own_form ho6
    generalize hSL : shortOf S4.aff f2 = sl at *
    have z3 := blk_free han 3
    have z4 := blk_free han 4
    have q3 : u6.cell? ⟨u4.heap.size + 1, 3, none⟩ = some (.int .i64 0) := by rw [blk_cell han]; rfl
    have q4 : u6.cell? ⟨u4.heap.size + 1, 4, none⟩ = some (.slice none 0 0) := by rw [blk_cell han]; rfl
    have lan := blk_lt han
    have hanS : ((u6.setCell ⟨u4.heap.size + 1, 3, none⟩ (.int .i64 2)).setCell ⟨u4.heap.size + 1, 4, none⟩ (.slice a6 sl.length c6)).heap[u4.heap.size + 1]? = some (.cells #[.int .i64 (f1 : Int), .int .i64 (S4.nodes : Int), .int .i64 (S4.most : Int), .int .i64 2, .slice a6 sl.length c6] 53 (0, 0)) := blk_set (blk_set han 3 (.int .i64 2)) 4 (.slice a6 sl.length c6)
    have hl4 : w.heap.size + 1 < u4.heap.size := blk_lt hrs
    have hrsS := blk_other (blk_other hrs5 (c := u4.heap.size + 1) (by omega) 3 (.int .i64 2)) (c := u4.heap.size + 1) (by omega) 4 (.slice a6 sl.length c6)
    have hne : (Value.slice a6 sl.length c6).ownBlock ≠ some (u4.heap.size + 1) := fun e => (by have := own_ge ho6 e; omega)
    have hne2 : (Value.slice a6 sl.length c6).ownBlock ≠ some (w.heap.size + 1) := fun e => (by have := own_ge ho6 e; omega)
    have hoS := own_set_ne (own_set_ne ho6 (p := ⟨u4.heap.size + 1, 3, none⟩) hne (.int .i64 2)) (p := ⟨u4.heap.size + 1, 4, none⟩) hne (.slice a6 sl.length c6)
    have hBS := (hB5.setCell (p := ⟨u4.heap.size + 1, 3, none⟩) (show w.heap.size ≤ u4.heap.size + 1 by omega) (.int .i64 2)).setCell (p := ⟨u4.heap.size + 1, 4, none⟩) (show w.heap.size ≤ u4.heap.size + 1 by omega) (.slice a6 sl.length c6)
    go_wp2_with (first | (refine wpList_load_row rfl 53 _ rfl (u4.heap.size + 1) rfl 53 _ (0, 0) _ hanS Tryz.underlying53 rfl (by kernel_rfl) ?_) | (refine wpList_store_row rfl 53 _ _ rfl (w.heap.size + 1) _ rfl rfl 53 _ hrsS (by kernel_rfl) rfl (by simp [Value.oneCell']) ?_))
    refine bodyPost_ret (v := .agg #[.int .i64 (f1 : Int), .int .i64 (S4.nodes : Int), .int .i64 (S4.most : Int), .int .i64 2, .slice a6 sl.length c6]) (results_cell_row rfl _ _ (w.heap.size + 1) 53 _ (0, 0) _ rfl (setRow_heap _ _ _ _ _ _ hrsS) Tryz.underlying53 rfl (by kernel_rfl)) rfl ?_
    rw [unhide HSX]
    refine ⟨.slice a6 sl.length c6, by rw [unhide HSP]; rfl, ?_, below_setRow hBS (Nat.le_succ _) _⟩
    rw [unhide HSP]
    exact own_lo (own_keep hoS (only_setRow _ (w.heap.size + 1) _) (fun k hk e => hne2 (by rw [hk, e]))) (by omega)
end Go.Proofs.YtgipjjhkhfihpabGreatDoor

namespace Go.Proofs
open Go.Shelf
def Tryz.laysItoa_ren : Go.Shelf.Ren := ⟨fun | 171 => 55 | 243 => 83 | 246 => 102 | 283 => 109 | 284 => 110 | 285 => 111 | 286 => 112 | 129 => 115 | 317 => 114 | 318 => 116 | 319 => 117 | 320 => 118 | 337 => 119 | 338 => 120 | n => n, fun | 3 => 3 | 9 => 9 | 2 => 2 | 4 => 4 | 171 => 165 | 0 => 0 | 53 => 166 | 37 => 89 | 5 => 5 | 173 => 169 | 212 => 173 | 51 => 174 | 20 => 20 | 213 => 175 | 46 => 176 | 232 => 179 | 233 => 180 | n => n, fun | 17 => 0 | 18 => 1 | 19 => 2 | n => n⟩
theorem Tryz.laysItoa : Go.Proofs.LaysM.n171 Tryz.prog Tryz.laysItoa_ren := {
  mixed := by kernel_rfl
  f129 := Tryz.func115.trans (congrArg some (by kernel_rfl))
  f171 := Tryz.func55.trans (congrArg some (by kernel_rfl))
  f243 := Tryz.func83.trans (congrArg some (by kernel_rfl))
  f246 := Tryz.func102.trans (congrArg some (by kernel_rfl))
  f283 := Tryz.func109.trans (congrArg some (by kernel_rfl))
  f284 := Tryz.func110.trans (congrArg some (by kernel_rfl))
  f285 := Tryz.func111.trans (congrArg some (by kernel_rfl))
  f286 := Tryz.func112.trans (congrArg some (by kernel_rfl))
  f317 := Tryz.func114.trans (congrArg some (by kernel_rfl))
  f318 := Tryz.func116.trans (congrArg some (by kernel_rfl))
  f319 := Tryz.func117.trans (congrArg some (by kernel_rfl))
  f320 := Tryz.func118.trans (congrArg some (by kernel_rfl))
  f337 := Tryz.func119.trans (congrArg some (by kernel_rfl))
  f338 := Tryz.func120.trans (congrArg some (by kernel_rfl))
  t0 := Tryz.underlying0
  a0 := Tryz.isAgg0
  z0 := Tryz.sizeOf0
  v0 := Tryz.zeroValue0
  t2 := Tryz.underlying2
  a2 := Tryz.isAgg2
  z2 := Tryz.sizeOf2
  v2 := Tryz.zeroValue2
  t3 := Tryz.underlying3
  a3 := Tryz.isAgg3
  z3 := Tryz.sizeOf3
  v3 := Tryz.zeroValue3
  t4 := Tryz.underlying4
  a4 := Tryz.isAgg4
  z4 := Tryz.sizeOf4
  v4 := Tryz.zeroValue4
  t5 := Tryz.underlying5
  a5 := Tryz.isAgg5
  z5 := Tryz.sizeOf5
  v5 := Tryz.zeroValue5
  t9 := Tryz.underlying9
  a9 := Tryz.isAgg9
  z9 := Tryz.sizeOf9
  v9 := Tryz.zeroValue9
  t20 := Tryz.underlying20
  a20 := Tryz.isAgg20
  z20 := Tryz.sizeOf20
  v20 := Tryz.zeroValue20
  t37 := Tryz.underlying89
  a37 := Tryz.isAgg89
  z37 := Tryz.sizeOf89
  v37 := Tryz.zeroValue89
  t46 := Tryz.underlying176
  a46 := Tryz.isAgg176
  z46 := Tryz.sizeOf176
  v46 := Tryz.zeroValue176
  t51 := Tryz.underlying174
  a51 := Tryz.isAgg174
  z51 := Tryz.sizeOf174
  v51 := Tryz.zeroValue174
  t53 := Tryz.underlying166
  a53 := Tryz.isAgg166
  z53 := Tryz.sizeOf166
  v53 := Tryz.zeroValue166
  t171 := Tryz.underlying165
  a171 := Tryz.isAgg165
  z171 := Tryz.sizeOf165
  v171 := Tryz.zeroValue165
  t173 := Tryz.underlying169
  a173 := Tryz.isAgg169
  z173 := Tryz.sizeOf169
  v173 := Tryz.zeroValue169
  t212 := Tryz.underlying173
  a212 := Tryz.isAgg173
  z212 := Tryz.sizeOf173
  v212 := Tryz.zeroValue173
  t213 := Tryz.underlying175
  a213 := Tryz.isAgg175
  z213 := Tryz.sizeOf175
  t232 := Tryz.underlying179
  a232 := Tryz.isAgg179
  z232 := Tryz.sizeOf179
  v232 := Tryz.zeroValue179
  t233 := Tryz.underlying180
  a233 := Tryz.isAgg180
  z233 := Tryz.sizeOf180
  v233 := Tryz.zeroValue180
  g17 := by kernel_rfl
  g18 := by kernel_rfl
  g19 := by kernel_rfl
  i0 := by kernel_rfl
  i2 := by kernel_rfl
  i3 := by kernel_rfl
  i4 := by kernel_rfl
  i5 := by kernel_rfl
  i9 := by kernel_rfl
  i20 := by kernel_rfl
  i37 := by kernel_rfl
  i46 := by kernel_rfl
  i51 := by kernel_rfl
  i53 := by kernel_rfl
  i171 := by kernel_rfl
  i173 := by kernel_rfl
  i212 := by kernel_rfl
  i232 := by kernel_rfl
  i233 := by kernel_rfl
  m17 := by kernel_rfl
  m18 := by kernel_rfl
  m19 := by kernel_rfl }
end Go.Proofs
namespace Go.Proofs.YtgipjjhkhfihpabGreatDoor
open Go.RowKit

/-- The library's table of powers of ten, where the program's start laid it. -/
def TabAt (w : World) : Prop := Lib.TabIs Tryz.prog w "internal/strconv.uint64pow10" .u64 Lib.pow10Tab
theorem below_grow (w : World) (k : Nat) (os : Array Obj) : Below w.heap.size w (Sort.grow (w.drewN k) os) := by
  have h := below_drewN (Below.refl w.heap.size w) k
  refine ⟨h.os, h.tape, h.output, ?_, fun i hi => ?_⟩
  · have h2 := h.size
    show w.heap.size ≤ ((w.drewN k).heap ++ os).size
    rw [Array.size_append]; omega
  · show ((w.drewN k).heap ++ os)[i]? = _
    rw [Array.getElem?_append_left (Nat.lt_of_lt_of_le hi h.size)]
    exact h.block i hi
theorem itoa_any (n : Int) (h0 : -9223372036854775808 ≤ n) (h1 : n ≤ 9223372036854775807) (w : World) (ht : TabAt w) :
    Calls Tryz.prog 55 #[.int .i64 n] w fun e w' => e = .returned (.string ⟨(Lib.itoa n).toArray⟩) ∧ Below w.heap.size w w' :=
  (Any.strconv_Itoa Tryz.laysItoa n h0 h1 w ht).mono fun e w' ⟨he, k, os, hw⟩ => ⟨he, by rw [hw]; exact below_grow w k os⟩
end Go.Proofs.YtgipjjhkhfihpabGreatDoor

namespace Go.Proofs.YtgipjjhkhfihpabGreatDoor
open Go.RowKit

/-! ### The lines of a proof's text -/
theorem TabAt.later {w w' : World} (h : TabAt w) (hb : Below w.heap.size w w') : TabAt w' := Lib.tabBelow_of_tabIs h w' hb
def resLine (s : Stp) : List UInt8 := [114, 32] ++ Lib.itoa s.first ++ [32] ++ Lib.itoa s.second ++ [32] ++ Lib.itoa s.var ++ [10]
theorem resLine_bytes (a b c : List UInt8) : ByteArray.mk #[114, 32] ++ ByteArray.mk a.toArray ++ ByteArray.mk #[32] ++ ByteArray.mk b.toArray ++ ByteArray.mk #[32] ++ ByteArray.mk c.toArray ++ ByteArray.mk #[10] = ByteArray.mk ([114, 32] ++ a ++ [32] ++ b ++ [32] ++ c ++ [10]).toArray := by
  rw [show (ByteArray.mk #[114, 32]) = ByteArray.mk ([114, 32] : List UInt8).toArray from rfl, show (ByteArray.mk #[32]) = ByteArray.mk ([32] : List UInt8).toArray from rfl, show (ByteArray.mk #[10]) = ByteArray.mk ([10] : List UInt8).toArray from rfl]
  simp only [ba_append]
set_option maxRecDepth 100000 in
set_option maxHeartbeats 1600000 in
theorem resolventLine_any (s : Stp) (w : World) (ht : TabAt w) (h1 : s.first ≤ 1048576) (h2 : s.second ≤ 1048576) (h3 : s.var ≤ 1048576) :
    Calls Tryz.prog 57 #[StpV s] w fun e w' => e = .returned (.string ⟨(resLine s).toArray⟩) ∧ Below w.heap.size w w' := by
  obtain ⟨sr, sf, ss, sv, l1, l2⟩ := s
  dsimp only at h1 h2 h3 ⊢
  have HR : Hid (resLine ⟨sr, sf, ss, sv, (l1, l2)⟩ = [114, 32] ++ Lib.itoa (sf : Int) ++ [32] ++ Lib.itoa (ss : Int) ++ [32] ++ Lib.itoa (sv : Int) ++ [10]) := hide rfl
  go_enter Tryz.func57, Tryz.ntmps57
  go_wp2_with fail
  generalize hw0 : (w.alloc (.cells #[.int .i64 (sr : Int), .int .i64 (sf : Int), .int .i64 (ss : Int), .int .i64 (sv : Int), .int .i64 (l1 : Int), .int .i64 (l2 : Int)] 91)) = u1
  have hB : Below w.heap.size w u1 := by rw [← hw0]; exact (Below.refl _ _).alloc (Nat.le_refl _) _
  have hst : u1.heap[w.heap.size]? = some (.cells #[.int .i64 (sr : Int), .int .i64 (sf : Int), .int .i64 (ss : Int), .int .i64 (sv : Int), .int .i64 (l1 : Int), .int .i64 (l2 : Int)] 91 (0, 0)) := by rw [← hw0]; exact alloc_new_at (by simp)
  clear hw0
  have cst0 : u1.cell? ⟨w.heap.size, 0, none⟩ = some (.int .i64 (sr : Int)) := by rw [blk_cell hst]; rfl
  have cst1 : u1.cell? ⟨w.heap.size, 1, none⟩ = some (.int .i64 (sf : Int)) := by rw [blk_cell hst]; rfl
  have cst2 : u1.cell? ⟨w.heap.size, 2, none⟩ = some (.int .i64 (ss : Int)) := by rw [blk_cell hst]; rfl
  have cst3 : u1.cell? ⟨w.heap.size, 3, none⟩ = some (.int .i64 (sv : Int)) := by rw [blk_cell hst]; rfl
  have cst4 : u1.cell? ⟨w.heap.size, 4, none⟩ = some (.int .i64 (l1 : Int)) := by rw [blk_cell hst]; rfl
  have cst5 : u1.cell? ⟨w.heap.size, 5, none⟩ = some (.int .i64 (l2 : Int)) := by rw [blk_cell hst]; rfl
  have lst := blk_lt hst
  have ht0 := ht.later hB
  refine (itoa_any (sf : Int) (by omega) (by omega) _ ht0).mono ?_
  rintro e u2 ⟨rfl, b2⟩
  replace hB := hB.trans (b2.mono hB.size)
  replace hst := (b2.block _ (blk_lt hst)).trans hst
  replace cst0 : u2.cell? ⟨w.heap.size, 0, none⟩ = some (.int .i64 (sr : Int)) := by rw [blk_cell hst]; rfl
  replace cst1 : u2.cell? ⟨w.heap.size, 1, none⟩ = some (.int .i64 (sf : Int)) := by rw [blk_cell hst]; rfl
  replace cst2 : u2.cell? ⟨w.heap.size, 2, none⟩ = some (.int .i64 (ss : Int)) := by rw [blk_cell hst]; rfl
  replace cst3 : u2.cell? ⟨w.heap.size, 3, none⟩ = some (.int .i64 (sv : Int)) := by rw [blk_cell hst]; rfl
  replace cst4 : u2.cell? ⟨w.heap.size, 4, none⟩ = some (.int .i64 (l1 : Int)) := by rw [blk_cell hst]; rfl
  replace cst5 : u2.cell? ⟨w.heap.size, 5, none⟩ = some (.int .i64 (l2 : Int)) := by rw [blk_cell hst]; rfl
  replace lst := blk_lt hst
  have hx0 := Lib.itoa_length_le (sf : Int) (by omega) (by omega)
  generalize Lib.itoa (sf : Int) = x0 at *
  go_wp2_with fail
  have ht1 := ht.later hB
  refine (itoa_any (ss : Int) (by omega) (by omega) _ ht1).mono ?_
  rintro e u3 ⟨rfl, b3⟩
  replace hB := hB.trans (b3.mono hB.size)
  replace hst := (b3.block _ (blk_lt hst)).trans hst
  replace cst0 : u3.cell? ⟨w.heap.size, 0, none⟩ = some (.int .i64 (sr : Int)) := by rw [blk_cell hst]; rfl
  replace cst1 : u3.cell? ⟨w.heap.size, 1, none⟩ = some (.int .i64 (sf : Int)) := by rw [blk_cell hst]; rfl
  replace cst2 : u3.cell? ⟨w.heap.size, 2, none⟩ = some (.int .i64 (ss : Int)) := by rw [blk_cell hst]; rfl
  replace cst3 : u3.cell? ⟨w.heap.size, 3, none⟩ = some (.int .i64 (sv : Int)) := by rw [blk_cell hst]; rfl
  replace cst4 : u3.cell? ⟨w.heap.size, 4, none⟩ = some (.int .i64 (l1 : Int)) := by rw [blk_cell hst]; rfl
  replace cst5 : u3.cell? ⟨w.heap.size, 5, none⟩ = some (.int .i64 (l2 : Int)) := by rw [blk_cell hst]; rfl
  replace lst := blk_lt hst
  have hx1 := Lib.itoa_length_le (ss : Int) (by omega) (by omega)
  generalize Lib.itoa (ss : Int) = x1 at *
  go_wp2_with fail
  have ht2 := ht.later hB
  refine (itoa_any (sv : Int) (by omega) (by omega) _ ht2).mono ?_
  rintro e u4 ⟨rfl, b4⟩
  replace hB := hB.trans (b4.mono hB.size)
  replace hst := (b4.block _ (blk_lt hst)).trans hst
  replace cst0 : u4.cell? ⟨w.heap.size, 0, none⟩ = some (.int .i64 (sr : Int)) := by rw [blk_cell hst]; rfl
  replace cst1 : u4.cell? ⟨w.heap.size, 1, none⟩ = some (.int .i64 (sf : Int)) := by rw [blk_cell hst]; rfl
  replace cst2 : u4.cell? ⟨w.heap.size, 2, none⟩ = some (.int .i64 (ss : Int)) := by rw [blk_cell hst]; rfl
  replace cst3 : u4.cell? ⟨w.heap.size, 3, none⟩ = some (.int .i64 (sv : Int)) := by rw [blk_cell hst]; rfl
  replace cst4 : u4.cell? ⟨w.heap.size, 4, none⟩ = some (.int .i64 (l1 : Int)) := by rw [blk_cell hst]; rfl
  replace cst5 : u4.cell? ⟨w.heap.size, 5, none⟩ = some (.int .i64 (l2 : Int)) := by rw [blk_cell hst]; rfl
  replace lst := blk_lt hst
  have hx2 := Lib.itoa_length_le (sv : Int) (by omega) (by omega)
  generalize Lib.itoa (sv : Int) = x2 at *
  go_wp2_with fail
  have HE := hide (resLine_bytes x0 x1 x2)
  go_ret
  exact ⟨by rw [unhide HE, unhide HR]; rfl, hB⟩

def litsLine (l : List Int) : List UInt8 := l.flatMap (fun x => 32 :: Lib.itoa x)
theorem litsLine_snoc (l : List Int) (x : Int) : litsLine (l ++ [x]) = litsLine l ++ 32 :: Lib.itoa x := by simp [litsLine]
def cubeLn (s : Stp) : List UInt8 := [99] ++ litsLine (listOf s.lits) ++ [10]
theorem cube_bytes (a b : List UInt8) : ByteArray.mk ([99] ++ a).toArray ++ (ByteArray.mk #[32] ++ ByteArray.mk b.toArray) = ByteArray.mk ([99] ++ (a ++ 32 :: b)).toArray := by
  rw [show (ByteArray.mk #[32]) = ByteArray.mk ([32] : List UInt8).toArray from rfl, ba_append, ba_append]; simp
theorem cube_end (a : List UInt8) : ByteArray.mk ([99] ++ a).toArray ++ ByteArray.mk #[10] = ByteArray.mk ([99] ++ a ++ [10]).toArray := by
  rw [show (ByteArray.mk #[10]) = ByteArray.mk ([10] : List UInt8).toArray from rfl, ba_append]
theorem intsI_at (l : List Int) (k : Nat) (h : k < l.length) : (intsI l)[k]? = some (.int .i64 l[k]) := by simp [intsI, h]
theorem listOf_bd (c : Nat × Nat) : ∀ x ∈ listOf c, -8 ≤ x ∧ x ≤ 8 := listFrom_bd c 8 1 (by decide) (by decide)
set_option maxRecDepth 100000 in
set_option maxHeartbeats 1600000 in
theorem cubeLine_any (s : Stp) (w : World) (ht : TabAt w) (hl : s.lits.1 < 512 ∧ s.lits.2 < 512) :
    Calls Tryz.prog 56 #[StpV s] w fun e w' => e = .returned (.string ⟨(cubeLn s).toArray⟩) ∧ Below w.heap.size w w' := by
  obtain ⟨sr, sf, ss, sv, l1, l2⟩ := s
  dsimp only at hl ⊢
  have HR : Hid (cubeLn ⟨sr, sf, ss, sv, (l1, l2)⟩ = [99] ++ litsLine (listOf (l1, l2)) ++ [10]) := hide rfl
  have hbd := listOf_bd (l1, l2)
  have hll : (listOf (l1, l2)).length ≤ 16 := listFrom_len (l1, l2) 8 1
  go_enter Tryz.func56, Tryz.ntmps56
  go_wp2_with fail
  generalize hw0 : (w.alloc (.cells #[.int .i64 (sr : Int), .int .i64 (sf : Int), .int .i64 (ss : Int), .int .i64 (sv : Int), .int .i64 (l1 : Int), .int .i64 (l2 : Int)] 91)) = u1
  have hB : Below w.heap.size w u1 := by rw [← hw0]; exact (Below.refl _ _).alloc (Nat.le_refl _) _
  have hst : u1.heap[w.heap.size]? = some (.cells #[.int .i64 (sr : Int), .int .i64 (sf : Int), .int .i64 (ss : Int), .int .i64 (sv : Int), .int .i64 (l1 : Int), .int .i64 (l2 : Int)] 91 (0, 0)) := by rw [← hw0]; exact alloc_new_at (by simp)
  clear hw0
  have cst0 : u1.cell? ⟨w.heap.size, 0, none⟩ = some (.int .i64 (sr : Int)) := by rw [blk_cell hst]; rfl
  have cst1 : u1.cell? ⟨w.heap.size, 1, none⟩ = some (.int .i64 (sf : Int)) := by rw [blk_cell hst]; rfl
  have cst2 : u1.cell? ⟨w.heap.size, 2, none⟩ = some (.int .i64 (ss : Int)) := by rw [blk_cell hst]; rfl
  have cst3 : u1.cell? ⟨w.heap.size, 3, none⟩ = some (.int .i64 (sv : Int)) := by rw [blk_cell hst]; rfl
  have cst4 : u1.cell? ⟨w.heap.size, 4, none⟩ = some (.int .i64 (l1 : Int)) := by rw [blk_cell hst]; rfl
  have cst5 : u1.cell? ⟨w.heap.size, 5, none⟩ = some (.int .i64 (l2 : Int)) := by rw [blk_cell hst]; rfl
  have lst := blk_lt hst
  refine (list_any l1 l2 _ hl.1 hl.2).mono ?_
  rintro e u2 ⟨vL, rfl, hrow, b2⟩
  replace hB := hB.trans (b2.mono hB.size)
  replace hst := (b2.block _ (blk_lt hst)).trans hst
  replace cst0 : u2.cell? ⟨w.heap.size, 0, none⟩ = some (.int .i64 (sr : Int)) := by rw [blk_cell hst]; rfl
  replace cst1 : u2.cell? ⟨w.heap.size, 1, none⟩ = some (.int .i64 (sf : Int)) := by rw [blk_cell hst]; rfl
  replace cst2 : u2.cell? ⟨w.heap.size, 2, none⟩ = some (.int .i64 (ss : Int)) := by rw [blk_cell hst]; rfl
  replace cst3 : u2.cell? ⟨w.heap.size, 3, none⟩ = some (.int .i64 (sv : Int)) := by rw [blk_cell hst]; rfl
  replace cst4 : u2.cell? ⟨w.heap.size, 4, none⟩ = some (.int .i64 (l1 : Int)) := by rw [blk_cell hst]; rfl
  replace cst5 : u2.cell? ⟨w.heap.size, 5, none⟩ = some (.int .i64 (l2 : Int)) := by rw [blk_cell hst]; rfl
  replace lst := blk_lt hst
  generalize listOf (l1, l2) = ls at *
  have HBD := hide hbd
  clear hbd
  obtain ⟨aL, cL, rfl⟩ := own_form hrow
  go_wp2_with fail
  go_loopg [3, 10] (ls.length) (fun m sv i wx => ∃ (k : Nat) (bs : List UInt8), sv = .string ⟨bs.toArray⟩ ∧ i = .int .i64 k ∧ k + m = ls.length ∧ bs = [99] ++ litsLine (ls.take k) ∧ bs.length ≤ 1 + 22 * k ∧ Below w.heap.size w wx ∧ Below u2.heap.size u2 wx)
  case atStart => exact ⟨0, [99], rfl, rfl, by omega, rfl, by decide, hB, Below.refl _ _⟩
  case round =>
    obtain ⟨k, bs, rfl, rfl, hkm, hbs, hbl, hbw, hbu⟩ := hrel
    have HBS := hide hbs
    clear hbs
    by_cases hlt : k < ls.length
    · have hd3 : decide ((k : Int) < (ls.length : Int)) = true := decide_eq_true (by omega)
      have hd4 : decide (k < ls.length) = true := decide_eq_true hlt
      obtain ⟨g, cap, hVe, _, hg', _, hcell⟩ := own_pos (own_below hrow hbu) (by omega)
      injection hVe with hVe _ hV2
      subst hVe hV2
      have hx := hcell _ _ (intsI_at ls k hlt)
      have hb8 := unhide HBD _ (List.getElem_mem hlt)
      have HTK := hide (List.take_succ_eq_append_getElem hlt)
      clear hcell
      generalize ls[k] = x at *
      have htr := ht.later hbw
      have hxl := Lib.itoa_length_le x (by omega) (by omega)
      go_wp2_with fail
      refine (itoa_any x (by omega) (by omega) _ htr).mono ?_
      rintro e u9 ⟨rfl, b9⟩
      have HSN := hide (litsLine_snoc (ls.take k) x)
      generalize Lib.itoa x = y at *
      have HE := hide (cube_bytes (litsLine (ls.take k)) y)
      rw [← unhide HBS] at HE
      have HN : Hid ([99] ++ (litsLine (ls.take k) ++ 32 :: y) = [99] ++ litsLine (ls.take (k + 1))) := hide (by rw [unhide HTK, unhide HSN])
      go_wp2_with fail
      go_roundg (gk - 1)
      case measure => omega
      case rel => exact ⟨k + 1, [99] ++ (litsLine (ls.take k) ++ 32 :: y), by rw [unhide HE], by go_num, by omega, unhide HN, by rw [← List.append_assoc, ← unhide HBS, List.length_append, List.length_cons]; omega, hbw.trans (b9.mono hbw.size), hbu.trans (b9.mono hbu.size)⟩
    · have hd3 : decide ((k : Int) < (ls.length : Int)) = false := decide_eq_false (by omega)
      have hd4 : decide (k < ls.length) = false := decide_eq_false hlt
      have HN : Hid (bs = [99] ++ litsLine ls) := hide (by rw [unhide HBS, List.take_of_length_le (by omega)])
      have HE := hide (cube_end (litsLine ls))
      rw [← unhide HN] at HE
      go_wp2_with fail
      go_ret
      exact ⟨by rw [unhide HE, unhide HR, ← unhide HN]; rfl, hbw⟩
end Go.Proofs.YtgipjjhkhfihpabGreatDoor

namespace Go.Proofs.YtgipjjhkhfihpabGreatDoor
open Go.RowKit

/-! ### line -/
/-- Numbers that a step's text wants. -/
structure StpBd (s : Stp) : Prop where
  first : s.first ≤ 1048576
  second : s.rule = 3 → s.second ≤ 1048576
  var : s.rule = 3 → s.var ≤ 1048576
  lits : s.lits.1 < 512 ∧ s.lits.2 < 512
theorem joinW_lits (l : List Int) : ∀ x : List UInt8, joinW (x :: l.map Lib.itoa) = x ++ litsLine l := by
  induction l with
  | nil => intro x; simp [joinW, litsLine]
  | cons a l ih =>
    intro x
    rw [List.map_cons]
    show x ++ 32 :: joinW (Lib.itoa a :: l.map Lib.itoa) = _
    rw [ih]; simp [litsLine]
theorem itoa_nat (n : Nat) : Lib.itoa (n : Int) = Lib.decDigits n := itoa_pos n
theorem line_one (c : UInt8) (s : Stp) (h : wordsP s = [[c], Lib.decDigits s.first]) : lineP s ++ [10] = [c, 32] ++ Lib.itoa (s.first : Int) ++ [10] := by
  unfold lineP; rw [h, itoa_nat]; simp [joinW]
theorem line_res (s : Stp) (h : s.rule = 3) : lineP s ++ [10] = resLine s := by
  unfold lineP wordsP resLine
  rw [if_neg (by omega), if_neg (by omega), if_pos h, itoa_nat, itoa_nat, itoa_nat]; simp [joinW]
theorem line_cube (s : Stp) (h : s.rule = 2) : lineP s ++ [10] = cubeLn s := by
  unfold lineP wordsP cubeLn
  rw [if_neg (by omega), if_pos h, joinW_lits]
theorem one_bytes (c : UInt8) (a : List UInt8) : ByteArray.mk #[c, 32] ++ ByteArray.mk a.toArray ++ ByteArray.mk #[10] = ByteArray.mk ([c, 32] ++ a ++ [10]).toArray := by
  rw [show (ByteArray.mk #[c, 32]) = ByteArray.mk ([c, 32] : List UInt8).toArray from rfl, show (ByteArray.mk #[10]) = ByteArray.mk ([10] : List UInt8).toArray from rfl]
  simp only [ba_append]
set_option maxRecDepth 100000 in
set_option maxHeartbeats 3200000 in
theorem line_any (s : Stp) (w : World) (ht : TabAt w) (hs : StpBd s) :
    Calls Tryz.prog 32 #[StpV s] w fun e w' => e = .returned (.string ⟨(lineP s ++ [10]).toArray⟩) ∧ Below w.heap.size w w' := by
  obtain ⟨h1, h2, h3, h4⟩ := hs
  have HC := hide (cubeLine_any s)
  have HRL := hide (resolventLine_any s)
  have HL2 := hide (line_cube s)
  have HL3 := hide (line_res s)
  have HO := hide (fun c h => line_one c s h)
  have HWP : Hid (wordsP s = if s.rule = 1 then [[97], Lib.decDigits s.first] else if s.rule = 2 then [99] :: (listOf s.lits).map Lib.itoa else if s.rule = 3 then [[114], Lib.decDigits s.first, Lib.decDigits s.second, Lib.decDigits s.var] else [[100], Lib.decDigits s.first]) := hide rfl
  obtain ⟨sr, sf, ss, sv, l1, l2⟩ := s
  dsimp only at h1 h2 h3 h4 HC HRL HL2 HL3 HO HWP ⊢
  rcases (show sr = 1 ∨ sr = 2 ∨ sr = 3 ∨ (sr ≠ 1 ∧ sr ≠ 2 ∧ sr ≠ 3) by omega) with hr | hr | hr | hr
  · have HF : Hid (lineP ⟨sr, sf, ss, sv, (l1, l2)⟩ ++ [10] = [97, 32] ++ Lib.itoa (sf : Int) ++ [10]) := hide (unhide HO 97 (by rw [unhide HWP, if_pos hr]))
    have hd1 : ((sr : Int) == 1) = true := by rw [beq_iff_eq]; omega
    have hn1 : (sr == 1) = true := by rw [beq_iff_eq]; exact hr
    have hd2 : ((sr : Int) == 2) = false := by rw [beq_eq_false_iff_ne]; omega
    have hn2 : (sr == 2) = false := by rw [beq_eq_false_iff_ne]; omega
    have hd3 : ((sr : Int) == 3) = false := by rw [beq_eq_false_iff_ne]; omega
    have hn3 : (sr == 3) = false := by rw [beq_eq_false_iff_ne]; omega
    clear hr HL2 HL3 HO HWP h2 h3
    go_enter Tryz.func32, Tryz.ntmps32
    go_wp2_with fail
    generalize hw0 : (w.alloc (.cells #[.int .i64 (sr : Int), .int .i64 (sf : Int), .int .i64 (ss : Int), .int .i64 (sv : Int), .int .i64 (l1 : Int), .int .i64 (l2 : Int)] 91)) = u1
    have hB : Below w.heap.size w u1 := by rw [← hw0]; exact (Below.refl _ _).alloc (Nat.le_refl _) _
    have hst : u1.heap[w.heap.size]? = some (.cells #[.int .i64 (sr : Int), .int .i64 (sf : Int), .int .i64 (ss : Int), .int .i64 (sv : Int), .int .i64 (l1 : Int), .int .i64 (l2 : Int)] 91 (0, 0)) := by rw [← hw0]; exact alloc_new_at (by simp)
    clear hw0
    have cst0 : u1.cell? ⟨w.heap.size, 0, none⟩ = some (.int .i64 (sr : Int)) := by rw [blk_cell hst]; rfl
    have cst1 : u1.cell? ⟨w.heap.size, 1, none⟩ = some (.int .i64 (sf : Int)) := by rw [blk_cell hst]; rfl
    have cst2 : u1.cell? ⟨w.heap.size, 2, none⟩ = some (.int .i64 (ss : Int)) := by rw [blk_cell hst]; rfl
    have cst3 : u1.cell? ⟨w.heap.size, 3, none⟩ = some (.int .i64 (sv : Int)) := by rw [blk_cell hst]; rfl
    have cst4 : u1.cell? ⟨w.heap.size, 4, none⟩ = some (.int .i64 (l1 : Int)) := by rw [blk_cell hst]; rfl
    have cst5 : u1.cell? ⟨w.heap.size, 5, none⟩ = some (.int .i64 (l2 : Int)) := by rw [blk_cell hst]; rfl
    have lst := blk_lt hst
    have ht0 := ht.later hB
    have hxl := Lib.itoa_length_le (sf : Int) (by omega) (by omega)
    refine (itoa_any (sf : Int) (by omega) (by omega) _ ht0).mono ?_
    rintro e u2 ⟨rfl, b2⟩
    replace hB := hB.trans (b2.mono hB.size)
    replace hst := (b2.block _ (blk_lt hst)).trans hst
    replace cst0 : u2.cell? ⟨w.heap.size, 0, none⟩ = some (.int .i64 (sr : Int)) := by rw [blk_cell hst]; rfl
    replace cst1 : u2.cell? ⟨w.heap.size, 1, none⟩ = some (.int .i64 (sf : Int)) := by rw [blk_cell hst]; rfl
    replace cst2 : u2.cell? ⟨w.heap.size, 2, none⟩ = some (.int .i64 (ss : Int)) := by rw [blk_cell hst]; rfl
    replace cst3 : u2.cell? ⟨w.heap.size, 3, none⟩ = some (.int .i64 (sv : Int)) := by rw [blk_cell hst]; rfl
    replace cst4 : u2.cell? ⟨w.heap.size, 4, none⟩ = some (.int .i64 (l1 : Int)) := by rw [blk_cell hst]; rfl
    replace cst5 : u2.cell? ⟨w.heap.size, 5, none⟩ = some (.int .i64 (l2 : Int)) := by rw [blk_cell hst]; rfl
    replace lst := blk_lt hst
    generalize Lib.itoa (sf : Int) = x at *
    have HE := hide (one_bytes 97 x)
    go_wp2_with fail
    go_ret
    exact ⟨by rw [unhide HE, unhide HF]; rfl, hB⟩
  · have HF : Hid (lineP ⟨sr, sf, ss, sv, (l1, l2)⟩ ++ [10] = cubeLn ⟨sr, sf, ss, sv, (l1, l2)⟩) := hide (unhide HL2 hr)
    have hd1 : ((sr : Int) == 1) = false := by rw [beq_eq_false_iff_ne]; omega
    have hn1 : (sr == 1) = false := by rw [beq_eq_false_iff_ne]; omega
    have hd2 : ((sr : Int) == 2) = true := by rw [beq_iff_eq]; omega
    have hn2 : (sr == 2) = true := by rw [beq_iff_eq]; exact hr
    have hd3 : ((sr : Int) == 3) = false := by rw [beq_eq_false_iff_ne]; omega
    have hn3 : (sr == 3) = false := by rw [beq_eq_false_iff_ne]; omega
    clear hr HL2 HL3 HO HWP h2 h3
    go_enter Tryz.func32, Tryz.ntmps32
    go_wp2_with fail
    generalize hw0 : (w.alloc (.cells #[.int .i64 (sr : Int), .int .i64 (sf : Int), .int .i64 (ss : Int), .int .i64 (sv : Int), .int .i64 (l1 : Int), .int .i64 (l2 : Int)] 91)) = u1
    have hB : Below w.heap.size w u1 := by rw [← hw0]; exact (Below.refl _ _).alloc (Nat.le_refl _) _
    have hst : u1.heap[w.heap.size]? = some (.cells #[.int .i64 (sr : Int), .int .i64 (sf : Int), .int .i64 (ss : Int), .int .i64 (sv : Int), .int .i64 (l1 : Int), .int .i64 (l2 : Int)] 91 (0, 0)) := by rw [← hw0]; exact alloc_new_at (by simp)
    clear hw0
    have cst0 : u1.cell? ⟨w.heap.size, 0, none⟩ = some (.int .i64 (sr : Int)) := by rw [blk_cell hst]; rfl
    have cst1 : u1.cell? ⟨w.heap.size, 1, none⟩ = some (.int .i64 (sf : Int)) := by rw [blk_cell hst]; rfl
    have cst2 : u1.cell? ⟨w.heap.size, 2, none⟩ = some (.int .i64 (ss : Int)) := by rw [blk_cell hst]; rfl
    have cst3 : u1.cell? ⟨w.heap.size, 3, none⟩ = some (.int .i64 (sv : Int)) := by rw [blk_cell hst]; rfl
    have cst4 : u1.cell? ⟨w.heap.size, 4, none⟩ = some (.int .i64 (l1 : Int)) := by rw [blk_cell hst]; rfl
    have cst5 : u1.cell? ⟨w.heap.size, 5, none⟩ = some (.int .i64 (l2 : Int)) := by rw [blk_cell hst]; rfl
    have lst := blk_lt hst
    have ht0 := ht.later hB
    refine (unhide HC _ ht0 h4).mono ?_
    rintro e u2 ⟨rfl, b2⟩
    replace hB := hB.trans (b2.mono hB.size)
    replace hst := (b2.block _ (blk_lt hst)).trans hst
    replace cst0 : u2.cell? ⟨w.heap.size, 0, none⟩ = some (.int .i64 (sr : Int)) := by rw [blk_cell hst]; rfl
    replace cst1 : u2.cell? ⟨w.heap.size, 1, none⟩ = some (.int .i64 (sf : Int)) := by rw [blk_cell hst]; rfl
    replace cst2 : u2.cell? ⟨w.heap.size, 2, none⟩ = some (.int .i64 (ss : Int)) := by rw [blk_cell hst]; rfl
    replace cst3 : u2.cell? ⟨w.heap.size, 3, none⟩ = some (.int .i64 (sv : Int)) := by rw [blk_cell hst]; rfl
    replace cst4 : u2.cell? ⟨w.heap.size, 4, none⟩ = some (.int .i64 (l1 : Int)) := by rw [blk_cell hst]; rfl
    replace cst5 : u2.cell? ⟨w.heap.size, 5, none⟩ = some (.int .i64 (l2 : Int)) := by rw [blk_cell hst]; rfl
    replace lst := blk_lt hst
    go_wp2_with fail
    go_ret
    exact ⟨by rw [unhide HF]; rfl, hB⟩
  · have HF : Hid (lineP ⟨sr, sf, ss, sv, (l1, l2)⟩ ++ [10] = resLine ⟨sr, sf, ss, sv, (l1, l2)⟩) := hide (unhide HL3 hr)
    replace h2 := h2 hr
    replace h3 := h3 hr
    have hd1 : ((sr : Int) == 1) = false := by rw [beq_eq_false_iff_ne]; omega
    have hn1 : (sr == 1) = false := by rw [beq_eq_false_iff_ne]; omega
    have hd2 : ((sr : Int) == 2) = false := by rw [beq_eq_false_iff_ne]; omega
    have hn2 : (sr == 2) = false := by rw [beq_eq_false_iff_ne]; omega
    have hd3 : ((sr : Int) == 3) = true := by rw [beq_iff_eq]; omega
    have hn3 : (sr == 3) = true := by rw [beq_iff_eq]; exact hr
    clear hr HL2 HL3 HO HWP
    go_enter Tryz.func32, Tryz.ntmps32
    go_wp2_with fail
    generalize hw0 : (w.alloc (.cells #[.int .i64 (sr : Int), .int .i64 (sf : Int), .int .i64 (ss : Int), .int .i64 (sv : Int), .int .i64 (l1 : Int), .int .i64 (l2 : Int)] 91)) = u1
    have hB : Below w.heap.size w u1 := by rw [← hw0]; exact (Below.refl _ _).alloc (Nat.le_refl _) _
    have hst : u1.heap[w.heap.size]? = some (.cells #[.int .i64 (sr : Int), .int .i64 (sf : Int), .int .i64 (ss : Int), .int .i64 (sv : Int), .int .i64 (l1 : Int), .int .i64 (l2 : Int)] 91 (0, 0)) := by rw [← hw0]; exact alloc_new_at (by simp)
    clear hw0
    have cst0 : u1.cell? ⟨w.heap.size, 0, none⟩ = some (.int .i64 (sr : Int)) := by rw [blk_cell hst]; rfl
    have cst1 : u1.cell? ⟨w.heap.size, 1, none⟩ = some (.int .i64 (sf : Int)) := by rw [blk_cell hst]; rfl
    have cst2 : u1.cell? ⟨w.heap.size, 2, none⟩ = some (.int .i64 (ss : Int)) := by rw [blk_cell hst]; rfl
    have cst3 : u1.cell? ⟨w.heap.size, 3, none⟩ = some (.int .i64 (sv : Int)) := by rw [blk_cell hst]; rfl
    have cst4 : u1.cell? ⟨w.heap.size, 4, none⟩ = some (.int .i64 (l1 : Int)) := by rw [blk_cell hst]; rfl
    have cst5 : u1.cell? ⟨w.heap.size, 5, none⟩ = some (.int .i64 (l2 : Int)) := by rw [blk_cell hst]; rfl
    have lst := blk_lt hst
    have ht0 := ht.later hB
    refine (unhide HRL _ ht0 h1 h2 h3).mono ?_
    rintro e u2 ⟨rfl, b2⟩
    replace hB := hB.trans (b2.mono hB.size)
    replace hst := (b2.block _ (blk_lt hst)).trans hst
    replace cst0 : u2.cell? ⟨w.heap.size, 0, none⟩ = some (.int .i64 (sr : Int)) := by rw [blk_cell hst]; rfl
    replace cst1 : u2.cell? ⟨w.heap.size, 1, none⟩ = some (.int .i64 (sf : Int)) := by rw [blk_cell hst]; rfl
    replace cst2 : u2.cell? ⟨w.heap.size, 2, none⟩ = some (.int .i64 (ss : Int)) := by rw [blk_cell hst]; rfl
    replace cst3 : u2.cell? ⟨w.heap.size, 3, none⟩ = some (.int .i64 (sv : Int)) := by rw [blk_cell hst]; rfl
    replace cst4 : u2.cell? ⟨w.heap.size, 4, none⟩ = some (.int .i64 (l1 : Int)) := by rw [blk_cell hst]; rfl
    replace cst5 : u2.cell? ⟨w.heap.size, 5, none⟩ = some (.int .i64 (l2 : Int)) := by rw [blk_cell hst]; rfl
    replace lst := blk_lt hst
    go_wp2_with fail
    go_ret
    exact ⟨by rw [unhide HF]; rfl, hB⟩
  · have HF : Hid (lineP ⟨sr, sf, ss, sv, (l1, l2)⟩ ++ [10] = [100, 32] ++ Lib.itoa (sf : Int) ++ [10]) := hide (unhide HO 100 (by rw [unhide HWP, if_neg hr.1, if_neg hr.2.1, if_neg hr.2.2]))
    have hd1 : ((sr : Int) == 1) = false := by rw [beq_eq_false_iff_ne]; omega
    have hn1 : (sr == 1) = false := by rw [beq_eq_false_iff_ne]; omega
    have hd2 : ((sr : Int) == 2) = false := by rw [beq_eq_false_iff_ne]; omega
    have hn2 : (sr == 2) = false := by rw [beq_eq_false_iff_ne]; omega
    have hd3 : ((sr : Int) == 3) = false := by rw [beq_eq_false_iff_ne]; omega
    have hn3 : (sr == 3) = false := by rw [beq_eq_false_iff_ne]; omega
    clear hr HL2 HL3 HO HWP h2 h3
    go_enter Tryz.func32, Tryz.ntmps32
    go_wp2_with fail
    generalize hw0 : (w.alloc (.cells #[.int .i64 (sr : Int), .int .i64 (sf : Int), .int .i64 (ss : Int), .int .i64 (sv : Int), .int .i64 (l1 : Int), .int .i64 (l2 : Int)] 91)) = u1
    have hB : Below w.heap.size w u1 := by rw [← hw0]; exact (Below.refl _ _).alloc (Nat.le_refl _) _
    have hst : u1.heap[w.heap.size]? = some (.cells #[.int .i64 (sr : Int), .int .i64 (sf : Int), .int .i64 (ss : Int), .int .i64 (sv : Int), .int .i64 (l1 : Int), .int .i64 (l2 : Int)] 91 (0, 0)) := by rw [← hw0]; exact alloc_new_at (by simp)
    clear hw0
    have cst0 : u1.cell? ⟨w.heap.size, 0, none⟩ = some (.int .i64 (sr : Int)) := by rw [blk_cell hst]; rfl
    have cst1 : u1.cell? ⟨w.heap.size, 1, none⟩ = some (.int .i64 (sf : Int)) := by rw [blk_cell hst]; rfl
    have cst2 : u1.cell? ⟨w.heap.size, 2, none⟩ = some (.int .i64 (ss : Int)) := by rw [blk_cell hst]; rfl
    have cst3 : u1.cell? ⟨w.heap.size, 3, none⟩ = some (.int .i64 (sv : Int)) := by rw [blk_cell hst]; rfl
    have cst4 : u1.cell? ⟨w.heap.size, 4, none⟩ = some (.int .i64 (l1 : Int)) := by rw [blk_cell hst]; rfl
    have cst5 : u1.cell? ⟨w.heap.size, 5, none⟩ = some (.int .i64 (l2 : Int)) := by rw [blk_cell hst]; rfl
    have lst := blk_lt hst
    have ht0 := ht.later hB
    have hxl := Lib.itoa_length_le (sf : Int) (by omega) (by omega)
    refine (itoa_any (sf : Int) (by omega) (by omega) _ ht0).mono ?_
    rintro e u2 ⟨rfl, b2⟩
    replace hB := hB.trans (b2.mono hB.size)
    replace hst := (b2.block _ (blk_lt hst)).trans hst
    replace cst0 : u2.cell? ⟨w.heap.size, 0, none⟩ = some (.int .i64 (sr : Int)) := by rw [blk_cell hst]; rfl
    replace cst1 : u2.cell? ⟨w.heap.size, 1, none⟩ = some (.int .i64 (sf : Int)) := by rw [blk_cell hst]; rfl
    replace cst2 : u2.cell? ⟨w.heap.size, 2, none⟩ = some (.int .i64 (ss : Int)) := by rw [blk_cell hst]; rfl
    replace cst3 : u2.cell? ⟨w.heap.size, 3, none⟩ = some (.int .i64 (sv : Int)) := by rw [blk_cell hst]; rfl
    replace cst4 : u2.cell? ⟨w.heap.size, 4, none⟩ = some (.int .i64 (l1 : Int)) := by rw [blk_cell hst]; rfl
    replace cst5 : u2.cell? ⟨w.heap.size, 5, none⟩ = some (.int .i64 (l2 : Int)) := by rw [blk_cell hst]; rfl
    replace lst := blk_lt hst
    generalize Lib.itoa (sf : Int) = x at *
    have HE := hide (one_bytes 100 x)
    go_wp2_with fail
    go_ret
    exact ⟨by rw [unhide HE, unhide HF]; rfl, hB⟩
end Go.Proofs.YtgipjjhkhfihpabGreatDoor
