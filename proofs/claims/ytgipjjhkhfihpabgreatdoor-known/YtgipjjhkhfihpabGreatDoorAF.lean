import Derived.Test.YtgipjjhkhfihpabGreatDoorAE
import Derived.Test.YtgipjjhkhfihpabGreatDoorAB
namespace Go.Proofs.YtgipjjhkhfihpabGreatDoor
open Go.RowKit

def litsL (ss : List Stp) : List (Nat × Nat) := ss.map (·.lits)
/-- The reader of a proof, at block b: the formula's rows lie below b, the steps' row above it. -/
structure PInv (w : World) (b : Nat) (q : QS) (kind : Nat) (ss : List Stp) (vV vC vS : Value) : Prop where
  fb : w.heap[b]? = some (.cells #[vV, vC, .int .i64 kind, vS] 93 (0, 0))
  oV : w.ownsRow 0 109 2 vV q.vars.length (varCells q.vars)
  oC : w.ownsRow 0 77 2 vC q.cl.length (pairs q.cl)
  oS : w.ownsRow (b + 1) 91 6 vS ss.length (psCells ss)
  lV : ∀ k, vV.ownBlock = some k → k < b
  lC : ∀ k, vC.ownBlock = some k → k < b
theorem PInv.later {w w' : World} {b : Nat} {q : QS} {kind : Nat} {ss : List Stp} {vV vC vS : Value} (h : PInv w b q kind ss vV vC vS) (hb : Below w.heap.size w w') : PInv w' b q kind ss vV vC vS :=
  ⟨(hb.block b (blk_lt h.fb)).trans h.fb, own_below h.oV hb, own_below h.oC hb, own_below h.oS hb, h.lV, h.lC⟩
structure SBs (ss : List Stp) : Prop where
  len : ss.length ≤ 9000
  bits : ∀ s ∈ ss, s.lits.1 < 512 ∧ s.lits.2 < 512
def aheadQ (ss : List (Nat × Nat)) (w : List UInt8) : Option (Nat × Nat) := (numOf w ss.length).bind (fun n => ss[n - 1]?)
theorem numOf_range {l : List UInt8} {most n : Nat} (h : numOf l most = some n) : 1 ≤ n ∧ n ≤ most := by
  unfold numOf at h
  split at h
  · cases h
  · next hc =>
    simp only [not_or] at hc
    obtain ⟨h1, h2, h3, h4⟩ := hc
    simp at h
    subst h
    refine ⟨?_, by omega⟩
    match l, h1 with
    | c :: r, _ =>
      have h3' : (c :: r).all isDigit = true := by simpa using h3
      have hd : isDigit c = true := by simp at h3'; exact h3'.1
      have hd' : 48 ≤ c.toNat ∧ c.toNat ≤ 57 := of_decide_eq_true hd
      have hne : c.toNat ≠ 48 := fun e => h2 (by simp; apply UInt8.toNat_inj.1; exact e)
      have hm := dec_mono (c :: r) 1
      have : dec ((c :: r).take 1) = c.toNat - 48 := by simp [dec]
      omega
theorem ahead_lits (ss : List Stp) (l : List UInt8) : aheadQ (litsL ss) l = (numOf l ss.length).map (litsAt ss) := by
  unfold aheadQ litsL
  rw [List.length_map]
  cases hn : numOf l ss.length with
  | none => rfl
  | some n =>
    obtain ⟨h1, h2⟩ := numOf_range hn
    obtain ⟨m, rfl⟩ : ∃ m, n = m + 1 := ⟨n - 1, by omega⟩
    show (ss.map (·.lits))[m + 1 - 1]? = some (litsAt ss (m + 1))
    rw [litsAt_in ss m (by omega), Nat.add_sub_cancel, List.getElem?_map, List.getElem?_eq_getElem (by omega)]; rfl
/-- A step, or that it is none. -/
def StPost (G : Stp → Prop) (res : Option (Nat × Nat)) (w : World) (e : Ending) (w' : World) : Prop :=
  Below w.heap.size w w' ∧ ∃ (s : Stp) (ok : Bool), e = .returned (.tuple #[StpV s, .bool ok]) ∧ (s.lits.1 < 512 ∧ s.lits.2 < 512) ∧ ((ok = true ∧ res = some s.lits ∧ G s) ∨ (ok = false ∧ res = none))
abbrev S0 : Stp := ⟨0, 0, 0, 0, (0, 0)⟩
theorem StPost.none_ {G : Stp → Prop} {res : Option (Nat × Nat)} {w w' : World} {e : Ending} (hb : Below w.heap.size w w') (h : res = none) (s : Stp) (hc : s.lits.1 < 512 ∧ s.lits.2 < 512) (he : e = .returned (.tuple #[StpV s, .bool false])) : StPost G res w e w' :=
  ⟨hb, s, false, he, hc, Or.inr ⟨rfl, h⟩⟩
theorem StPost.some_ {G : Stp → Prop} {res : Option (Nat × Nat)} {w w' : World} {e : Ending} (hb : Below w.heap.size w w') (s : Stp) (h : res = some s.lits) (hc : s.lits.1 < 512 ∧ s.lits.2 < 512) (he : e = .returned (.tuple #[StpV s, .bool true])) (hg : G s) : StPost G res w e w' :=
  ⟨hb, s, true, he, hc, Or.inl ⟨rfl, h, hg⟩⟩
/-- A step that reduces, and which; one that doesn't. -/
def RedTag (q : QS) (kind : Nat) (ss : List Stp) (s : Stp) : Prop := s.rule = 4 ∧ (1 ≤ s.first ∧ s.first ≤ ss.length) ∧ s.lits = redQ kind q.vars.reverse (litsAt ss s.first)
def NotRed (s : Stp) : Prop := s.rule ≠ 4
/-- Which step a step reduces, by the step and by its line's words. -/
def stMark (s : Stp) : Option Nat := if s.rule = 4 then some s.first else none
def markOf (n : Nat) (ws : List (List UInt8)) : Option Nat := match ws with
  | [h, x] => if h = [100] then numOf x n else none
  | _ => none
theorem mark_other {s : Stp} {n : Nat} {hd : List UInt8} {tl : List (List UInt8)} (g : s.rule ≠ 4) (h : hd ≠ [100]) : stMark s = markOf n (hd :: tl) := by
  unfold stMark markOf
  rw [if_neg g]
  split
  · next h1 =>
    injection h1 with h1 _
    subst h1
    rw [if_neg h]
  · rfl
def RedTagW (q : QS) (kind : Nat) (ss : List Stp) (ws : List (List UInt8)) (s : Stp) : Prop := RedTag q kind ss s ∧ ∃ x, ws = [x] ∧ numOf x ss.length = some s.first
theorem mark_red {q : QS} {kind : Nat} {ss : List Stp} {ws : List (List UInt8)} {s : Stp} (h : RedTagW q kind ss ws s) : stMark s = markOf ss.length ([100] :: ws) := by
  obtain ⟨⟨h1, _⟩, x, rfl, hx⟩ := h
  unfold stMark markOf
  rw [if_pos h1]
  dsimp only
  rw [if_pos rfl, hx]
theorem zero_lt9 : ((0 : Nat), (0 : Nat)).1 < 512 ∧ ((0 : Nat), (0 : Nat)).2 < 512 := by decide
theorem blk_set6 {w : World} {b : Nat} {a0 a1 a2 a3 a4 a5 : Value} {t : TypeId} (h : w.heap[b]? = some (.cells #[a0, a1, a2, a3, a4, a5] t (0, 0))) (v0 v1 v2 v3 v4 v5 : Value) :
    ((((((w.setCell ⟨b, 0, none⟩ v0).setCell ⟨b, 1, none⟩ v1).setCell ⟨b, 2, none⟩ v2).setCell ⟨b, 3, none⟩ v3).setCell ⟨b, 4, none⟩ v4).setCell ⟨b, 5, none⟩ v5).heap[b]? = some (.cells #[v0, v1, v2, v3, v4, v5] t (0, 0)) :=
  blk_set (blk_set (blk_set (blk_set (blk_set (blk_set h 0 v0) 1 v1) 2 v2) 3 v3) 4 v4) 5 v5
theorem below_set6 {B : Nat} {a w : World} (h : Below B a w) {b : Nat} (hb : B ≤ b) (v0 v1 v2 v3 v4 v5 : Value) :
    Below B a ((((((w.setCell ⟨b, 0, none⟩ v0).setCell ⟨b, 1, none⟩ v1).setCell ⟨b, 2, none⟩ v2).setCell ⟨b, 3, none⟩ v3).setCell ⟨b, 4, none⟩ v4).setCell ⟨b, 5, none⟩ v5) :=
  (((((h.setCell (p := ⟨b, 0, none⟩) hb v0).setCell (p := ⟨b, 1, none⟩) hb v1).setCell (p := ⟨b, 2, none⟩) hb v2).setCell (p := ⟨b, 3, none⟩) hb v3).setCell (p := ⟨b, 4, none⟩) hb v4).setCell (p := ⟨b, 5, none⟩) hb v5

set_option maxRecDepth 100000 in
set_option maxHeartbeats 800000 in
theorem readNumber_any (b : Nat) (q : QS) (kind : Nat) (ss : List Stp) (vV vC vS : Value) (l : List UInt8) (w : World) (hP : PInv w b q kind ss vV vC vS) (hS : SBs ss) (hl : l.length ≤ 1048576) :
    Calls Tryz.prog 103 #[.pointer (some ⟨b, 0, none⟩), .string ⟨l.toArray⟩] w fun e w' => e = .returned (.tuple #[.int .i64 ((numOf l ss.length).getD 0 : Nat), .bool (numOf l ss.length).isSome]) ∧ w' = w := by
  obtain ⟨aS, cS, rfl⟩ := own_form hP.oS
  have hbw := blk_lt hP.fb
  have hsl := hS.len
  have k3 : w.cell? ⟨b, 3, none⟩ = some (.slice aS ss.length cS) := by rw [blk_cell hP.fb]; rfl
  go_enter Tryz.func103, Tryz.ntmps103
  go_wp2_with fail
  refine (number_any l ss.length _ hl (by omega)).mono ?_
  rintro e w1 ⟨hw1, rfl⟩
  subst hw1
  go_wp2_with fail
  go_ret2
  exact ⟨rfl, rfl⟩

def reductQ (q : QS) (kind : Nat) (ss : List (Nat × Nat)) (ws : List (List UInt8)) : Option (Nat × Nat) :=
  match ws with
  | [x] => (aheadQ ss x).map (redQ kind q.vars.reverse)
  | _ => none

set_option maxRecDepth 100000 in
set_option maxHeartbeats 1600000 in
theorem readReduct_any (b : Nat) (q : QS) (kind : Nat) (ss : List Stp) (vV vC vS : Value) (ws : List (List UInt8)) (ao : Option Addr) (cap : Nat) (w : World) (hP : PInv w b q kind ss vV vC vS) (hQ : QB q) (hS : SBs ss)
    (hs : StrsAt w ao ws) (hl : ws.length ≤ 1048576) (hws : ∀ x ∈ ws, x.length ≤ 1048576) :
    Calls Tryz.prog 88 #[.pointer (some ⟨b, 0, none⟩), .slice ao ws.length cap] w fun e w' => StPost (RedTagW q kind ss ws) (reductQ q kind (litsL ss) ws) w e w' := by
  by_cases h1 : ws.length = 1
  · obtain ⟨x, rfl⟩ := List.length_eq_one_iff.1 h1
    clear h1
    obtain ⟨g, off, cur, rfl, hg, hcur⟩ := hs (by simp)
    have hxc : w.cell? ⟨g, off, none⟩ = some (S x) := by rw [blk_cell hg]; exact hcur 0 (by simp)
    have hgw := blk_lt hg
    have hxl := hws x (by simp)
    clear hcur hws
    obtain ⟨aV, cV, hVf⟩ := own_form hP.oV
    obtain ⟨aC, cC, hCf⟩ := own_form hP.oC
    have HR : Hid (reductQ q kind (litsL ss) [x] = ((numOf x ss.length).map (litsAt ss)).map (redQ kind q.vars.reverse)) := hide (by show (aheadQ (litsL ss) x).map _ = _; rw [ahead_lits])
    go_enter Tryz.func88, Tryz.ntmps88
    go_wp2_with fail
    generalize hw0 : (w.alloc (.cells #[.int .i64 0, .int .i64 0, .int .i64 0, .int .i64 0, .int .i64 0, .int .i64 0] 91)) = u1
    have hB : Below w.heap.size w u1 := by rw [← hw0]; exact (Below.refl _ _).alloc (Nat.le_refl _) _
    have hrs : u1.heap[w.heap.size]? = some (.cells #[.int .i64 0, .int .i64 0, .int .i64 0, .int .i64 0, .int .i64 0, .int .i64 0] 91 (0, 0)) := by rw [← hw0]; exact alloc_new_at (by simp)
    clear hw0
    have crs0 : u1.cell? ⟨w.heap.size, 0, none⟩ = some (.int .i64 0) := by rw [blk_cell hrs]; rfl
    have crs1 : u1.cell? ⟨w.heap.size, 1, none⟩ = some (.int .i64 0) := by rw [blk_cell hrs]; rfl
    have crs2 : u1.cell? ⟨w.heap.size, 2, none⟩ = some (.int .i64 0) := by rw [blk_cell hrs]; rfl
    have crs3 : u1.cell? ⟨w.heap.size, 3, none⟩ = some (.int .i64 0) := by rw [blk_cell hrs]; rfl
    have crs4 : u1.cell? ⟨w.heap.size, 4, none⟩ = some (.int .i64 0) := by rw [blk_cell hrs]; rfl
    have crs5 : u1.cell? ⟨w.heap.size, 5, none⟩ = some (.int .i64 0) := by rw [blk_cell hrs]; rfl
    have lrs := blk_lt hrs
    have hP1 := hP.later hB
    refine (readNumber_any b q kind ss vV vC vS x _ hP1 hS hxl).mono ?_
    rintro e w2 ⟨rfl, hw2⟩
    subst hw2
    have hnb : (numOf x ss.length).getD 0 ≤ 9000 := by
      cases hn : numOf x ss.length with
      | none => simp
      | some n => have := numOf_range hn; have := hS.len; simp; omega
    have HC : Hid ((numOf x ss.length).isSome = true → numOf x ss.length = some ((numOf x ss.length).getD 0)) := hide (by
      cases numOf x ss.length with
      | none => intro h; cases h
      | some c => intro _; rfl)
    have HN : Hid ((numOf x ss.length).isSome = false → numOf x ss.length = none) := hide (by
      cases numOf x ss.length with
      | none => intro _; rfl
      | some c => intro h; cases h)
    generalize (numOf x ss.length).getD 0 = i at *
    generalize (numOf x ss.length).isSome = ok at *
    have hla := litsAt_lt ss hS.bits i
    have c3 : w2.cell? ⟨b, 3, none⟩ = some vS := by rw [blk_cell hP1.fb]; rfl
    have hsl := hS.len
    go_wp2_with fail
    refine (plits_any (b + 1) b 2 ss vS i _ c3 hP1.oS (by omega)).mono ?_
    rintro e u2 ⟨rfl, b2⟩
    replace hB := hB.trans (b2.mono hB.size)
    replace hrs := (b2.block _ (blk_lt hrs)).trans hrs
    replace crs0 : u2.cell? ⟨w.heap.size, 0, none⟩ = some (.int .i64 0) := by rw [blk_cell hrs]; rfl
    replace crs1 : u2.cell? ⟨w.heap.size, 1, none⟩ = some (.int .i64 0) := by rw [blk_cell hrs]; rfl
    replace crs2 : u2.cell? ⟨w.heap.size, 2, none⟩ = some (.int .i64 0) := by rw [blk_cell hrs]; rfl
    replace crs3 : u2.cell? ⟨w.heap.size, 3, none⟩ = some (.int .i64 0) := by rw [blk_cell hrs]; rfl
    replace crs4 : u2.cell? ⟨w.heap.size, 4, none⟩ = some (.int .i64 0) := by rw [blk_cell hrs]; rfl
    replace crs5 : u2.cell? ⟨w.heap.size, 5, none⟩ = some (.int .i64 0) := by rw [blk_cell hrs]; rfl
    replace lrs := blk_lt hrs
    replace hP1 := hP1.later b2
    have HL : Hid (∀ ok', ok' = ok → ok' = true → reductQ q kind (litsL ss) [x] = some (redQ kind q.vars.reverse (litsAt ss i))) := hide (fun ok' e h => by rw [unhide HR, unhide HC (by rw [← e]; exact h)]; rfl)
    have HLN : Hid (∀ ok', ok' = ok → ok' = false → reductQ q kind (litsL ss) [x] = none) := hide (fun ok' e h => by rw [unhide HR, unhide HN (by rw [← e]; exact h)]; rfl)
    have HT : Hid (∀ ok', ok' = ok → ok' = true → RedTagW q kind ss [x] ⟨4, i, 0, 0, redQ kind q.vars.reverse (litsAt ss i)⟩) := hide (fun ok' e h => ⟨⟨rfl, numOf_range (unhide HC (by rw [← e]; exact h)), rfl⟩, x, rfl, unhide HC (by rw [← e]; exact h)⟩)
    generalize hea : litsAt ss i = c at *
    clear hea
    obtain ⟨p, n⟩ := c
    go_wp2_with fail
    generalize hw0 : u2.alloc (.cells #[.int .i64 (p : Int), .int .i64 (n : Int)] 77) = u3
    have b3 : Below u2.heap.size u2 u3 := by rw [← hw0]; exact (Below.refl _ _).alloc (Nat.le_refl _) _
    have hwh : u3.heap[u2.heap.size]? = some (.cells #[.int .i64 (p : Int), .int .i64 (n : Int)] 77 (0, 0)) := by rw [← hw0]; exact heap_alloc_new _ _
    clear hw0
    replace hB := hB.trans (b3.mono hB.size)
    replace hrs := (b3.block _ (blk_lt hrs)).trans hrs
    replace crs0 : u3.cell? ⟨w.heap.size, 0, none⟩ = some (.int .i64 0) := by rw [blk_cell hrs]; rfl
    replace crs1 : u3.cell? ⟨w.heap.size, 1, none⟩ = some (.int .i64 0) := by rw [blk_cell hrs]; rfl
    replace crs2 : u3.cell? ⟨w.heap.size, 2, none⟩ = some (.int .i64 0) := by rw [blk_cell hrs]; rfl
    replace crs3 : u3.cell? ⟨w.heap.size, 3, none⟩ = some (.int .i64 0) := by rw [blk_cell hrs]; rfl
    replace crs4 : u3.cell? ⟨w.heap.size, 4, none⟩ = some (.int .i64 0) := by rw [blk_cell hrs]; rfl
    replace crs5 : u3.cell? ⟨w.heap.size, 5, none⟩ = some (.int .i64 0) := by rw [blk_cell hrs]; rfl
    replace lrs := blk_lt hrs
    replace hP1 := hP1.later b3
    have cwh0 : u3.cell? ⟨u2.heap.size, 0, none⟩ = some (.int .i64 (p : Int)) := by rw [blk_cell hwh]; rfl
    have cwh1 : u3.cell? ⟨u2.heap.size, 1, none⟩ = some (.int .i64 (n : Int)) := by rw [blk_cell hwh]; rfl
    have lwh := blk_lt hwh
    have q0 : u3.cell? ⟨b, 0, none⟩ = some (.slice aV q.vars.length cV) := by rw [blk_cell hP1.fb]; exact congrArg some hVf
    have q1 : u3.cell? ⟨b, 1, none⟩ = some (.slice aC q.cl.length cC) := by rw [blk_cell hP1.fb]; exact congrArg some hCf
    have hoV : u3.ownsRow 0 109 2 (.slice aV q.vars.length cV) q.vars.length (varCells q.vars) := by rw [← hVf]; exact hP1.oV
    have hb1 := blk_lt hP1.fb
    have hu9 : Below u3.heap.size u3 u3.drew := (Below.refl _ u3).drew
    have hlr := redQ_lt kind q.vars.reverse (p, n) hla
    go_region_with (go_at_call 105; refine (preduced_any 0 b 2 q kind _ (.slice aC q.cl.length cC) (p, n) _ (by rw [blk_cell (hP1.later hu9).fb]; rfl) (own_below hoV hu9) hQ hla ⟨_, _, _, rfl⟩).mono ?_; rintro e w9 ⟨rfl, hb9⟩; have hB9 : Below w.heap.size w w9 := hB.drew.trans (hb9.mono hB.size); have hr9 := (hb9.block _ (blk_lt hrs)).trans hrs; have r90 : w9.cell? ⟨w.heap.size, 0, none⟩ = some (.int .i64 0) := (by rw [blk_cell hr9]; rfl); have r91 : w9.cell? ⟨w.heap.size, 1, none⟩ = some (.int .i64 0) := (by rw [blk_cell hr9]; rfl); have r92 : w9.cell? ⟨w.heap.size, 2, none⟩ = some (.int .i64 0) := (by rw [blk_cell hr9]; rfl); have r93 : w9.cell? ⟨w.heap.size, 3, none⟩ = some (.int .i64 0) := (by rw [blk_cell hr9]; rfl); have r94 : w9.cell? ⟨w.heap.size, 4, none⟩ = some (.int .i64 0) := (by rw [blk_cell hr9]; rfl); have r95 : w9.cell? ⟨w.heap.size, 5, none⟩ = some (.int .i64 0) := (by rw [blk_cell hr9]; rfl); have z90 := blk_free hr9 0; have z91 := blk_free hr9 1; have z92 := blk_free hr9 2; have z93 := blk_free hr9 3; have z94 := blk_free hr9 4; have z95 := blk_free hr9 5; have l9 := blk_lt hr9)
    all_goals
      generalize hea : redQ kind q.vars.reverse (p, n) = c at *
      clear hea
      obtain ⟨d1, d2⟩ := c
      have hR := blk_set6 hr9 (.int .i64 4) (.int .i64 (i : Int)) (.int .i64 0) (.int .i64 0) (.int .i64 (d1 : Int)) (.int .i64 (d2 : Int))
      have j0 := blk_cell hR 0
      have j1 := blk_cell hR 1
      have j2 := blk_cell hR 2
      have j3 := blk_cell hR 3
      have j4 := blk_cell hR 4
      have j5 := blk_cell hR 5
      cases ok with
      | true =>
        have HF := hide (unhide HL true rfl rfl)
        have HG := hide (unhide HT true rfl rfl)
        clear HL HLN HC HN HT
        go_wp2_with fail
        refine bodyPost_ret (v := .tuple #[StpV ⟨4, i, 0, 0, (d1, d2)⟩, .bool true]) (by simp [results, Tryz.results88, go_sem, j0, j1, j2, j3, j4, j5]) rfl (StPost.some_ ?_ ⟨4, i, 0, 0, (d1, d2)⟩ (unhide HF) hlr rfl (unhide HG))
        exact below_set6 hB9 (Nat.le_refl _) _ _ _ _ _ _
      | false =>
        have HF := hide (unhide HLN false rfl rfl)
        clear HL HLN HC HN HT
        go_wp2_with fail
        refine bodyPost_ret (v := .tuple #[StpV ⟨4, i, 0, 0, (d1, d2)⟩, .bool false]) (by simp [results, Tryz.results88, go_sem, j0, j1, j2, j3, j4, j5]) rfl (StPost.none_ ?_ (unhide HF) ⟨4, i, 0, 0, (d1, d2)⟩ hlr rfl)
        exact below_set6 hB9 (Nat.le_refl _) _ _ _ _ _ _
  · have HR : Hid (reductQ q kind (litsL ss) ws = none) := hide (by
      unfold reductQ; split
      · simp at h1
      · rfl)
    have hb1 : ((ws.length : Int) != 1) = true := by rw [bne_iff_ne]; omega
    clear h1
    go_enter Tryz.func88, Tryz.ntmps88
    go_wp2_with fail
    refine bodyPost_ret (v := .tuple #[StpV S0, .bool false]) (by simp [results, Tryz.results88, go_sem]) rfl (StPost.none_ ?_ (unhide HR) S0 zero_lt9 rfl)
    exact (Below.refl _ _).alloc (Nat.le_refl _) _
end Go.Proofs.YtgipjjhkhfihpabGreatDoor

namespace Go.Proofs.YtgipjjhkhfihpabGreatDoor
open Go.RowKit

theorem number_same (l : List UInt8) (most : Nat) (w : World) (hl : l.length ≤ 1048576) (hm : most ≤ 1048576) :
    Calls Tryz.prog 92 #[.string ⟨l.toArray⟩, .int .i64 most] w fun e w' => e = .returned (.tuple #[.int .i64 ((numOf l most).getD 0 : Nat), .bool (numOf l most).isSome]) ∧ w' = w :=
  (number_any l most w hl hm).mono fun _ _ h => ⟨h.2, h.1⟩
def axiomQ (q : QS) (kind : Nat) (ws : List (List UInt8)) : Option (Nat × Nat) :=
  if kind = 1 then
    match ws with
    | [x] => (numOf x q.cl.length).bind (fun k => (q.cl[k - 1]?).bind (fun c => if c.1 &&& c.2 != 0 then none else some c))
    | _ => none
  else none

set_option maxRecDepth 100000 in
set_option maxHeartbeats 1600000 in
theorem readAxiom_any (b : Nat) (q : QS) (kind : Nat) (ss : List Stp) (vV vC vS : Value) (ws : List (List UInt8)) (ao : Option Addr) (cap : Nat) (w : World) (hP : PInv w b q kind ss vV vC vS) (hQ : QB q)
    (hs : StrsAt w ao ws) (hl : ws.length ≤ 1048576) (hws : ∀ x ∈ ws, x.length ≤ 1048576) :
    Calls Tryz.prog 85 #[.pointer (some ⟨b, 0, none⟩), .slice ao ws.length cap] w fun e w' => StPost NotRed (axiomQ q kind ws) w e w' := by
  have hbw := blk_lt hP.fb
  have k2 : w.cell? ⟨b, 2, none⟩ = some (.int .i64 kind) := by rw [blk_cell hP.fb]; rfl
  have hcl := hQ.cl
  by_cases hk : kind = 1
  · have hkb : ((kind : Int) != 1) = false := by rw [bne_eq_false_iff_eq]; omega
    by_cases h1 : ws.length = 1
    · obtain ⟨x, rfl⟩ := List.length_eq_one_iff.1 h1
      clear h1
      have HR : Hid (axiomQ q kind [x] = (numOf x q.cl.length).bind (fun k => (q.cl[k - 1]?).bind (fun c => if c.1 &&& c.2 != 0 then none else some c))) := hide (by unfold axiomQ; rw [if_pos hk])
      clear hk
      obtain ⟨g, off, cur, rfl, hg, hcur⟩ := hs (by simp)
      have hxc : w.cell? ⟨g, off, none⟩ = some (S x) := by rw [blk_cell hg]; exact hcur 0 (by simp)
      have hgw := blk_lt hg
      have hxl := hws x (by simp)
      clear hcur hws
      obtain ⟨aC, cC, rfl⟩ := own_form hP.oC
      have k1 : w.cell? ⟨b, 1, none⟩ = some (.slice aC q.cl.length cC) := by rw [blk_cell hP.fb]; rfl
      have hrs := heap_alloc_new w (.cells #[.int .i64 0, .int .i64 0, .int .i64 0, .int .i64 0, .int .i64 0, .int .i64 0] 91)
      have hA0 : Below w.heap.size w (w.alloc (.cells #[.int .i64 0, .int .i64 0, .int .i64 0, .int .i64 0, .int .i64 0, .int .i64 0] 91)) := (Below.refl _ _).alloc (Nat.le_refl _) _
      go_enter Tryz.func85, Tryz.ntmps85
      go_wp2_with fail
      go_quiet ((go_at_call 92; exact Calls.quiet_of_same (number_same x q.cl.length _ hxl (by omega))))
      cases hn : numOf x q.cl.length with
      | none =>
        have HF : Hid (axiomQ q kind [x] = none) := hide (by rw [unhide HR, hn]; rfl)
        go_wp2_with fail
        refine bodyPost_ret (v := .tuple #[StpV S0, .bool false]) (by simp [results, Tryz.results85, go_sem]) rfl (StPost.none_ ?_ (unhide HF) S0 zero_lt9 rfl)
        exact below_set6 (below_drewN hA0 nq) (Nat.le_refl _) _ _ _ _ _ _
      | some n =>
        obtain ⟨hn1, hn2⟩ := numOf_range hn
        obtain ⟨m, rfl⟩ : ∃ m, n = m + 1 := ⟨n - 1, by omega⟩
        have hm : m < q.cl.length := by omega
        have HF : Hid (axiomQ q kind [x] = if q.cl[m].1 &&& q.cl[m].2 != 0 then none else some q.cl[m]) := hide (by rw [unhide HR, hn]; simp [hm])
        obtain ⟨g2, cap2, hVe, hg2, hg2', _, hcell⟩ := own_pos hP.oC (by omega)
        injection hVe with hVe _ hV2
        subst hVe hV2
        obtain ⟨ha, hb'⟩ := pairs_at q.cl m hm
        have hx0 : w.cell? ⟨g2, m * 2, none⟩ = some (.int .i64 (q.cl[m].1 : Int)) := hcell _ _ ha
        have hx1 : w.cell? ⟨g2, m * 2 + 1, none⟩ = some (.int .i64 (q.cl[m].2 : Int)) := hcell _ _ hb'
        have hlt := hQ.bits _ (List.getElem_mem hm)
        clear hcell ha hb' hn
        generalize q.cl[m] = c at *
        obtain ⟨p, n⟩ := c
        dsimp only at *
        go_wp2_with fail
        have hz1 : (((w.alloc (.cells #[.int .i64 0, .int .i64 0, .int .i64 0, .int .i64 0, .int .i64 0, .int .i64 0] 91)).drewN nq).alloc (.cells #[.int .i64 (p : Int), .int .i64 (n : Int)] 77)).heap[w.heap.size]? = some (.cells #[.int .i64 0, .int .i64 0, .int .i64 0, .int .i64 0, .int .i64 0, .int .i64 0] 91 (0, 0)) := by
          rw [heap_alloc_old _ _ (by rw [World.heap_drewN]; simp), World.heap_drewN]; exact hrs
        have hz2 : (((w.alloc (.cells #[.int .i64 0, .int .i64 0, .int .i64 0, .int .i64 0, .int .i64 0, .int .i64 0] 91)).drewN nq).alloc (.cells #[.int .i64 (p : Int), .int .i64 (n : Int)] 77)).heap[w.heap.size + 1]? = some (.cells #[.int .i64 (p : Int), .int .i64 (n : Int)] 77 (0, 0)) := alloc_new_at (by rw [World.heap_drewN]; simp)
        have hz3 : Below w.heap.size w (((w.alloc (.cells #[.int .i64 0, .int .i64 0, .int .i64 0, .int .i64 0, .int .i64 0, .int .i64 0] 91)).drewN nq).alloc (.cells #[.int .i64 (p : Int), .int .i64 (n : Int)] 77)) := (below_drewN hA0 nq).alloc (by rw [World.heap_drewN]; simp) _
        generalize (((w.alloc (.cells #[.int .i64 0, .int .i64 0, .int .i64 0, .int .i64 0, .int .i64 0, .int .i64 0] 91)).drewN nq).alloc (.cells #[.int .i64 (p : Int), .int .i64 (n : Int)] 77)) = wz at *
        have i0 : wz.cell? ⟨w.heap.size + 1, 0, none⟩ = some (.int .i64 p) := by rw [blk_cell hz2]; rfl
        have i1 : wz.cell? ⟨w.heap.size + 1, 1, none⟩ = some (.int .i64 n) := by rw [blk_cell hz2]; rfl
        go_region_with (go_at_call 100; refine (clashes_any p n _ hlt.1 hlt.2).mono ?_; rintro e w1 ⟨rfl, hb1⟩; have hy1 := (hb1.block _ (blk_lt hz1)).trans hz1; have hy2 := (hb1.block _ (blk_lt hz2)).trans hz2; have r90 : w1.cell? ⟨w.heap.size, 0, none⟩ = some (.int .i64 0) := (by rw [blk_cell hy1]; rfl); have r91 : w1.cell? ⟨w.heap.size, 1, none⟩ = some (.int .i64 0) := (by rw [blk_cell hy1]; rfl); have r92 : w1.cell? ⟨w.heap.size, 2, none⟩ = some (.int .i64 0) := (by rw [blk_cell hy1]; rfl); have r93 : w1.cell? ⟨w.heap.size, 3, none⟩ = some (.int .i64 0) := (by rw [blk_cell hy1]; rfl); have r94 : w1.cell? ⟨w.heap.size, 4, none⟩ = some (.int .i64 0) := (by rw [blk_cell hy1]; rfl); have r95 : w1.cell? ⟨w.heap.size, 5, none⟩ = some (.int .i64 0) := (by rw [blk_cell hy1]; rfl); have z90 := blk_free hy1 0; have z91 := blk_free hy1 1; have z92 := blk_free hy1 2; have z93 := blk_free hy1 3; have z94 := blk_free hy1 4; have z95 := blk_free hy1 5; have l9 := blk_lt hy1; have l0 : w1.cell? ⟨w.heap.size + 1, 0, none⟩ = some (.int .i64 p) := (by rw [blk_cell hy2]; rfl); have l1 : w1.cell? ⟨w.heap.size + 1, 1, none⟩ = some (.int .i64 n) := (by rw [blk_cell hy2]; rfl); have hbz : Below w.heap.size w w1 := hz3.drew.trans (hb1.mono hz3.size))
        all_goals go_wp2_with fail
        all_goals
          have hR := blk_set6 hy1 (.int .i64 1) (.int .i64 ((m : Int) + 1)) (.int .i64 0) (.int .i64 0) (.int .i64 (p : Int)) (.int .i64 (n : Int))
          have j0 := blk_cell hR 0
          have j1 := blk_cell hR 1
          have j2 := blk_cell hR 2
          have j3 := blk_cell hR 3
          have j4 := blk_cell hR 4
          have j5 := blk_cell hR 5
          refine bodyPost_ret (v := .tuple #[StpV ⟨1, m + 1, 0, 0, (p, n)⟩, .bool (!(p &&& n != 0))]) (by simp [results, Tryz.results85, go_sem, j0, j1, j2, j3, j4, j5]) rfl ?_
          have hB := below_set6 hbz (Nat.le_refl w.heap.size) (.int .i64 1) (.int .i64 ((m : Int) + 1)) (.int .i64 0) (.int .i64 0) (.int .i64 (p : Int)) (.int .i64 (n : Int))
          cases hcl : (p &&& n != 0) with
          | true => exact StPost.none_ hB (by rw [unhide HF, hcl]; rfl) ⟨1, m + 1, 0, 0, (p, n)⟩ hlt rfl
          | false => exact StPost.some_ hB ⟨1, m + 1, 0, 0, (p, n)⟩ (by rw [unhide HF, hcl]; rfl) hlt rfl (show (1 : Nat) ≠ 4 by decide)
    · have HR : Hid (axiomQ q kind ws = none) := hide (by
        unfold axiomQ; rw [if_pos hk]; split
        · simp at h1
        · rfl)
      have hb1 : ((ws.length : Int) != 1) = true := by rw [bne_iff_ne]; omega
      clear h1 hk
      go_enter Tryz.func85, Tryz.ntmps85
      go_wp2_with fail
      refine bodyPost_ret (v := .tuple #[StpV S0, .bool false]) (by simp [results, Tryz.results85, go_sem]) rfl (StPost.none_ ?_ (unhide HR) S0 zero_lt9 rfl)
      exact (Below.refl _ _).alloc (Nat.le_refl _) _
  · have HR : Hid (axiomQ q kind ws = none) := hide (by unfold axiomQ; rw [if_neg hk])
    have hb1 : ((kind : Int) != 1) = true := by rw [bne_iff_ne]; omega
    clear hk
    go_enter Tryz.func85, Tryz.ntmps85
    go_wp2_with fail
    refine bodyPost_ret (v := .tuple #[StpV S0, .bool false]) (by simp [results, Tryz.results85, go_sem]) rfl (StPost.none_ ?_ (unhide HR) S0 zero_lt9 rfl)
    exact (Below.refl _ _).alloc (Nat.le_refl _) _

/-! ### readPivot -/
def pivQ (q : QS) (kind : Nat) (l : List UInt8) : Option Nat :=
  if 0 < dig l then (findV q.vars (dig l).toNat).bind (fun x => if pivotB kind x.2 then some (dig l).toNat else none) else none
def PivPost (res : Option Nat) (w : World) (e : Ending) (w' : World) : Prop :=
  Below w.heap.size w w' ∧ ∃ (n : Nat) (ok : Bool), e = .returned (.tuple #[.int .i64 n, .bool ok]) ∧ n ≤ 8 ∧ ((ok = true ∧ res = some n ∧ 1 ≤ n) ∨ (ok = false ∧ res = none))

set_option maxRecDepth 100000 in
set_option maxHeartbeats 1600000 in
theorem readPivot_any (b : Nat) (q : QS) (kind : Nat) (ss : List Stp) (vV vC vS : Value) (l : List UInt8) (w : World) (hP : PInv w b q kind ss vV vC vS) (hQ : QB q) (hl : l.length ≤ 1048576) :
    Calls Tryz.prog 104 #[.pointer (some ⟨b, 0, none⟩), .string ⟨l.toArray⟩] w fun e w' => PivPost (pivQ q kind l) w e w' := by
  have hbw := blk_lt hP.fb
  have hvl := hQ.vl
  have k0 : w.cell? ⟨b, 0, none⟩ = some vV := by rw [blk_cell hP.fb]; rfl
  obtain ⟨d0, d1⟩ := dig_bd l
  obtain ⟨dn, hdn⟩ := Int.eq_ofNat_of_zero_le d0
  have HR : Hid (pivQ q kind l = if 0 < dn then (findV q.vars dn).bind (fun x => if pivotB kind x.2 then some dn else none) else none) := hide (by
    unfold pivQ; rw [hdn]; simp)
  go_enter Tryz.func104, Tryz.ntmps104
  go_wp2_with fail
  refine (variable_any l w hl).mono ?_
  rintro e w1 ⟨hw1, rfl⟩
  subst hw1
  rw [hdn]
  have hdn8 : dn ≤ 8 := by omega
  clear hdn d0 d1
  by_cases hz : dn = 0
  · have hdz : decide (0 < dn) = false := by simp; omega
    have HF : Hid (pivQ q kind l = none) := hide (by rw [unhide HR, if_neg (by omega)])
    clear hz
    go_wp2_with fail
    go_ret2
    exact ⟨Below.refl _ _, 0, false, rfl, by omega, Or.inr ⟨rfl, unhide HF⟩⟩
  · have hdz : decide (0 < dn) = true := by simp; omega
    have h1 : 1 ≤ dn := by omega
    have HF : Hid (pivQ q kind l = (findV q.vars dn).bind (fun x => if pivotB kind x.2 then some dn else none)) := hide (by rw [unhide HR, if_pos (by omega)])
    clear hz
    go_wp2_with fail
    refine (find_any 0 b q.vars vV dn w1 k0 hP.oV (by omega)).mono ?_
    rintro e w2 ⟨hb2, rfl⟩
    have x2 : w2.cell? ⟨b, 2, none⟩ = some (.int .i64 kind) := by rw [blk_cell (hP.later hb2).fb]; rfl
    have hbw2 := cell_lt x2
    cases hfd : findV q.vars dn with
    | none =>
      rw [hfd] at HF
      go_wp2_with fail
      go_quiet (fail)
      go_wp2_with fail
      go_ret2
      exact ⟨below_drewN (hb2.alloc hb2.size _) nq, dn, false, rfl, hdn8, Or.inr ⟨rfl, unhide HF⟩⟩
    | some x =>
      rw [hfd] at HF
      obtain ⟨xn, xu⟩ := x
      dsimp only [Option.getD_some, Option.isSome_some]
      have hb2a : Below w1.heap.size w1 (w2.alloc (.cells #[.int .i64 (xn : Int), .bool xu] 109)) := hb2.alloc hb2.size _
      have hv2 := heap_alloc_new w2 (.cells #[.int .i64 (xn : Int), .bool xu] 109)
      go_wp2_with fail
      generalize w2.alloc (.cells #[.int .i64 (xn : Int), .bool xu] 109) = w5 at *
      have v0 : w5.cell? ⟨w2.heap.size, 0, none⟩ = some (.int .i64 (xn : Int)) := by rw [blk_cell hv2]; rfl
      have v1 : w5.cell? ⟨w2.heap.size, 1, none⟩ = some (.bool xu) := by rw [blk_cell hv2]; rfl
      have lv := blk_lt hv2
      have hb5 := Nat.lt_of_lt_of_le hbw hb2a.size
      go_region_with (go_at_call 113; refine (isPivot_any b 2 kind xn xu _ (by rw [hb2a.drew.cell (p := ⟨b, 2, none⟩) hbw]; rw [blk_cell hP.fb]; rfl)).mono ?_; rintro e w3 ⟨rfl, hb3⟩; have hb3' : Below w1.heap.size w1 w3 := hb2a.drew.trans (hb3.mono hb2a.size))
      all_goals
        cases hpv : pivotB kind xu with
        | true =>
          have HG : Hid (pivQ q kind l = some dn) := hide (by rw [unhide HF]; simp [hpv])
          go_wp2_with fail
          go_ret2
          exact ⟨hb3', dn, true, rfl, hdn8, Or.inl ⟨rfl, unhide HG, h1⟩⟩
        | false =>
          have HG : Hid (pivQ q kind l = none) := hide (by rw [unhide HF]; simp [hpv])
          go_wp2_with fail
          go_ret2
          exact ⟨hb3', dn, false, rfl, hdn8, Or.inr ⟨rfl, unhide HG⟩⟩
end Go.Proofs.YtgipjjhkhfihpabGreatDoor

namespace Go.Proofs.YtgipjjhkhfihpabGreatDoor
open Go.RowKit

def resQ2 (a b : Nat × Nat) (v : Nat) : Option (Nat × Nat) :=
  if hasLit a v = true ∧ hasLit b (-(v : Int)) = true then (if (without2 a b v).1 &&& (without2 a b v).2 != 0 then none else some (without2 a b v)) else none
def resQ (q : QS) (kind : Nat) (ss : List (Nat × Nat)) (ws : List (List UInt8)) : Option (Nat × Nat) :=
  match ws with
  | [x, y, z] => (aheadQ ss x).bind fun a => (aheadQ ss y).bind fun b => (pivQ q kind z).bind fun v => resQ2 a b v
  | _ => none
theorem wrap_neg_small (v : Nat) (h : v ≤ 8) : IntKind.i64.wrap (-(v : Int)) = -(v : Int) := by
  have : ∀ v : Fin 9, IntKind.i64.wrap (-(v.val : Int)) = -(v.val : Int) := by decide
  exact this ⟨v, by omega⟩
theorem opt_isSome {α : Type} (o : Option α) (d : α) : (o.isSome = true → o = some (o.getD d)) ∧ (o.isSome = false → o = none) := by
  cases o with
  | none => exact ⟨fun h => (by cases h), fun _ => rfl⟩
  | some c => exact ⟨fun _ => rfl, fun h => (by cases h)⟩
theorem len_three {α : Type} {l : List α} (h : l.length = 3) : ∃ x y z, l = [x, y, z] := by
  match l, h with
  | [x, y, z], _ => exact ⟨x, y, z, rfl⟩
theorem numOf_le (l : List UInt8) (most : Nat) : (numOf l most).getD 0 ≤ most := by
  cases hn : numOf l most with
  | none => simp
  | some n => have := numOf_range hn; simp; omega

set_option maxRecDepth 100000 in
set_option maxHeartbeats 3200000 in
theorem readResolvent_any (b : Nat) (q : QS) (kind : Nat) (ss : List Stp) (vV vC vS : Value) (ws : List (List UInt8)) (ao : Option Addr) (cap : Nat) (w : World) (hP : PInv w b q kind ss vV vC vS) (hQ : QB q) (hS : SBs ss)
    (hs : StrsAt w ao ws) (hl : ws.length ≤ 1048576) (hws : ∀ x ∈ ws, x.length ≤ 1048576) :
    Calls Tryz.prog 87 #[.pointer (some ⟨b, 0, none⟩), .slice ao ws.length cap] w fun e w' => StPost NotRed (resQ q kind (litsL ss) ws) w e w' := by
  by_cases h3 : ws.length = 3
  · obtain ⟨x, y, z, rfl⟩ := len_three h3
    clear h3
    obtain ⟨g, off, cur, rfl, hg, hcur⟩ := hs (by simp)
    have hgw := blk_lt hg
    have hx : w.cell? ⟨g, off, none⟩ = some (S x) := by rw [blk_cell hg]; exact hcur 0 (by simp)
    have hy : w.cell? ⟨g, off + 1, none⟩ = some (S y) := by rw [blk_cell hg]; exact hcur 1 (by simp)
    have hz : w.cell? ⟨g, off + 2, none⟩ = some (S z) := by rw [blk_cell hg]; exact hcur 2 (by simp)
    have hxl := hws x (by simp)
    have hyl := hws y (by simp)
    have hzl := hws z (by simp)
    clear hcur hws
    have hsl := hS.len
    have HR : Hid (resQ q kind (litsL ss) [x, y, z] = ((numOf x ss.length).map (litsAt ss)).bind fun a => ((numOf y ss.length).map (litsAt ss)).bind fun b => (pivQ q kind z).bind fun v => resQ2 a b v) := hide (by show (aheadQ (litsL ss) x).bind _ = _; rw [ahead_lits, ahead_lits])
    go_enter Tryz.func87, Tryz.ntmps87
    go_wp2_with fail
    generalize hw0 : (w.alloc (.cells #[.int .i64 0, .int .i64 0, .int .i64 0, .int .i64 0, .int .i64 0, .int .i64 0] 91)) = u1
    have hB : Below w.heap.size w u1 := by rw [← hw0]; exact (Below.refl _ _).alloc (Nat.le_refl _) _
    have hrs : u1.heap[w.heap.size]? = some (.cells #[.int .i64 0, .int .i64 0, .int .i64 0, .int .i64 0, .int .i64 0, .int .i64 0] 91 (0, 0)) := by rw [← hw0]; exact alloc_new_at (by simp)
    clear hw0
    have crs0 : u1.cell? ⟨w.heap.size, 0, none⟩ = some (.int .i64 0) := by rw [blk_cell hrs]; rfl
    have crs1 : u1.cell? ⟨w.heap.size, 1, none⟩ = some (.int .i64 0) := by rw [blk_cell hrs]; rfl
    have crs2 : u1.cell? ⟨w.heap.size, 2, none⟩ = some (.int .i64 0) := by rw [blk_cell hrs]; rfl
    have crs3 : u1.cell? ⟨w.heap.size, 3, none⟩ = some (.int .i64 0) := by rw [blk_cell hrs]; rfl
    have crs4 : u1.cell? ⟨w.heap.size, 4, none⟩ = some (.int .i64 0) := by rw [blk_cell hrs]; rfl
    have crs5 : u1.cell? ⟨w.heap.size, 5, none⟩ = some (.int .i64 0) := by rw [blk_cell hrs]; rfl
    have lrs := blk_lt hrs
    have hP1 := hP.later hB
    have hx' : u1.cell? ⟨g, off, none⟩ = some (S x) := by rw [hB.cell (p := ⟨g, off, none⟩) hgw]; exact hx
    have hy' : u1.cell? ⟨g, off + 1, none⟩ = some (S y) := by rw [hB.cell (p := ⟨g, off + 1, none⟩) hgw]; exact hy
    have hz' : u1.cell? ⟨g, off + 2, none⟩ = some (S z) := by rw [hB.cell (p := ⟨g, off + 2, none⟩) hgw]; exact hz
    have hgw' : g < u1.heap.size := Nat.lt_of_lt_of_le hgw hB.size
    refine (readNumber_any b q kind ss vV vC vS x _ hP1 hS hxl).mono ?_
    rintro e w19 ⟨rfl, hw19⟩
    subst hw19
    have hnb1 := numOf_le x ss.length
    obtain ⟨HC1, HN1⟩ : Hid ((numOf x ss.length).isSome = true → numOf x ss.length = some ((numOf x ss.length).getD 0)) ∧ Hid ((numOf x ss.length).isSome = false → numOf x ss.length = none) := ⟨hide (opt_isSome _ _).1, hide (opt_isSome _ 0).2⟩
    generalize (numOf x ss.length).getD 0 = i at *
    generalize (numOf x ss.length).isSome = o1 at *
    go_wp2_with fail
    refine (readNumber_any b q kind ss vV vC vS y _ hP1 hS hyl).mono ?_
    rintro e w29 ⟨rfl, hw29⟩
    subst hw29
    have hnb2 := numOf_le y ss.length
    obtain ⟨HC2, HN2⟩ : Hid ((numOf y ss.length).isSome = true → numOf y ss.length = some ((numOf y ss.length).getD 0)) ∧ Hid ((numOf y ss.length).isSome = false → numOf y ss.length = none) := ⟨hide (opt_isSome _ _).1, hide (opt_isSome _ 0).2⟩
    generalize (numOf y ss.length).getD 0 = j at *
    generalize (numOf y ss.length).isSome = o2 at *
    go_wp2_with fail
    refine (readPivot_any b q kind ss vV vC vS z _ hP1 hQ hzl).mono ?_
    rintro e u5 ⟨b5, v, o3, rfl, hv8, hpv⟩
    clear hx' hy' hz' 
    replace hB := hB.trans (b5.mono hB.size)
    replace hrs := (b5.block _ (blk_lt hrs)).trans hrs
    replace crs0 : u5.cell? ⟨w.heap.size, 0, none⟩ = some (.int .i64 0) := by rw [blk_cell hrs]; rfl
    replace crs1 : u5.cell? ⟨w.heap.size, 1, none⟩ = some (.int .i64 0) := by rw [blk_cell hrs]; rfl
    replace crs2 : u5.cell? ⟨w.heap.size, 2, none⟩ = some (.int .i64 0) := by rw [blk_cell hrs]; rfl
    replace crs3 : u5.cell? ⟨w.heap.size, 3, none⟩ = some (.int .i64 0) := by rw [blk_cell hrs]; rfl
    replace crs4 : u5.cell? ⟨w.heap.size, 4, none⟩ = some (.int .i64 0) := by rw [blk_cell hrs]; rfl
    replace crs5 : u5.cell? ⟨w.heap.size, 5, none⟩ = some (.int .i64 0) := by rw [blk_cell hrs]; rfl
    replace lrs := blk_lt hrs
    replace hP1 := hP1.later b5
    have zr0 := blk_free hrs 0
    have zr1 := blk_free hrs 1
    have zr2 := blk_free hrs 2
    have zr3 := blk_free hrs 3
    have zr4 := blk_free hrs 4
    have zr5 := blk_free hrs 5
    have hRn := blk_set6 hrs (.int .i64 0) (.int .i64 0) (.int .i64 0) (.int .i64 0) (.int .i64 0) (.int .i64 0)
    have jn0 := blk_cell hRn 0
    have jn1 := blk_cell hRn 1
    have jn2 := blk_cell hRn 2
    have jn3 := blk_cell hRn 3
    have jn4 := blk_cell hRn 4
    have jn5 := blk_cell hRn 5
    have hE5 := below_set6 hB (Nat.le_refl w.heap.size) (.int .i64 0) (.int .i64 0) (.int .i64 0) (.int .i64 0) (.int .i64 0) (.int .i64 0)
    cases o1 with
    | false =>
      have HF : Hid (resQ q kind (litsL ss) [x, y, z] = none) := hide (by rw [unhide HR, unhide HN1 rfl]; rfl)
      go_wp2_with fail
      refine bodyPost_ret (v := .tuple #[StpV S0, .bool false]) (by simp [results, Tryz.results87, go_sem, jn0, jn1, jn2, jn3, jn4, jn5]) rfl (StPost.none_ hE5 (unhide HF) S0 zero_lt9 rfl)
    | true =>
      cases o2 with
      | false =>
        have HF : Hid (resQ q kind (litsL ss) [x, y, z] = none) := hide (by rw [unhide HR, unhide HN2 rfl, unhide HC1 rfl]; rfl)
        go_wp2_with fail
        refine bodyPost_ret (v := .tuple #[StpV S0, .bool false]) (by simp [results, Tryz.results87, go_sem, jn0, jn1, jn2, jn3, jn4, jn5]) rfl (StPost.none_ hE5 (unhide HF) S0 zero_lt9 rfl)
      | true =>
        rcases hpv with ⟨rfl, hpv, hv1⟩ | ⟨rfl, hpv⟩
        · have HF : Hid (resQ q kind (litsL ss) [x, y, z] = resQ2 (litsAt ss i) (litsAt ss j) v) := hide (by rw [unhide HR, unhide HC2 rfl, unhide HC1 rfl, hpv]; rfl)
          have hwn := wrap_neg_small v hv8
          clear hpv HR HC1 HN1 HC2 HN2 jn0 jn1 jn2 jn3 jn4 jn5 hRn hE5
          have c3 : u5.cell? ⟨b, 3, none⟩ = some vS := by rw [blk_cell hP1.fb]; rfl
          have hl1 := litsAt_lt ss hS.bits i
          have hl2 := litsAt_lt ss hS.bits j
          have lbb := blk_lt hP1.fb
          go_wp2_with fail
          refine (plits_any (b + 1) b 2 ss vS i _ c3 hP1.oS (by omega)).mono ?_
          rintro e u6 ⟨rfl, b6⟩
          replace hB := hB.trans (b6.mono hB.size)
          replace hrs := (b6.block _ (blk_lt hrs)).trans hrs
          replace crs0 : u6.cell? ⟨w.heap.size, 0, none⟩ = some (.int .i64 0) := by rw [blk_cell hrs]; rfl
          replace crs1 : u6.cell? ⟨w.heap.size, 1, none⟩ = some (.int .i64 0) := by rw [blk_cell hrs]; rfl
          replace crs2 : u6.cell? ⟨w.heap.size, 2, none⟩ = some (.int .i64 0) := by rw [blk_cell hrs]; rfl
          replace crs3 : u6.cell? ⟨w.heap.size, 3, none⟩ = some (.int .i64 0) := by rw [blk_cell hrs]; rfl
          replace crs4 : u6.cell? ⟨w.heap.size, 4, none⟩ = some (.int .i64 0) := by rw [blk_cell hrs]; rfl
          replace crs5 : u6.cell? ⟨w.heap.size, 5, none⟩ = some (.int .i64 0) := by rw [blk_cell hrs]; rfl
          replace lrs := blk_lt hrs
          replace hP1 := hP1.later b6
          replace c3 : u6.cell? ⟨b, 3, none⟩ = some vS := by rw [blk_cell hP1.fb]; rfl
          replace lbb := blk_lt hP1.fb
          generalize hea : litsAt ss i = c at *
          have HEA := hide hea
          clear hea
          obtain ⟨p1, n1⟩ := c
          dsimp only at hl1
          go_wp2_with fail
          generalize hw0 : u6.alloc (.cells #[.int .i64 (p1 : Int), .int .i64 (n1 : Int)] 77) = u7
          have b7 : Below u6.heap.size u6 u7 := by rw [← hw0]; exact (Below.refl _ _).alloc (Nat.le_refl _) _
          have hfi : u7.heap[u6.heap.size]? = some (.cells #[.int .i64 (p1 : Int), .int .i64 (n1 : Int)] 77 (0, 0)) := by rw [← hw0]; exact heap_alloc_new _ _
          clear hw0
          replace hB := hB.trans (b7.mono hB.size)
          replace hrs := (b7.block _ (blk_lt hrs)).trans hrs
          replace crs0 : u7.cell? ⟨w.heap.size, 0, none⟩ = some (.int .i64 0) := by rw [blk_cell hrs]; rfl
          replace crs1 : u7.cell? ⟨w.heap.size, 1, none⟩ = some (.int .i64 0) := by rw [blk_cell hrs]; rfl
          replace crs2 : u7.cell? ⟨w.heap.size, 2, none⟩ = some (.int .i64 0) := by rw [blk_cell hrs]; rfl
          replace crs3 : u7.cell? ⟨w.heap.size, 3, none⟩ = some (.int .i64 0) := by rw [blk_cell hrs]; rfl
          replace crs4 : u7.cell? ⟨w.heap.size, 4, none⟩ = some (.int .i64 0) := by rw [blk_cell hrs]; rfl
          replace crs5 : u7.cell? ⟨w.heap.size, 5, none⟩ = some (.int .i64 0) := by rw [blk_cell hrs]; rfl
          replace lrs := blk_lt hrs
          replace hP1 := hP1.later b7
          replace c3 : u7.cell? ⟨b, 3, none⟩ = some vS := by rw [blk_cell hP1.fb]; rfl
          replace lbb := blk_lt hP1.fb
          have cfi0 : u7.cell? ⟨u6.heap.size, 0, none⟩ = some (.int .i64 (p1 : Int)) := by rw [blk_cell hfi]; rfl
          have cfi1 : u7.cell? ⟨u6.heap.size, 1, none⟩ = some (.int .i64 (n1 : Int)) := by rw [blk_cell hfi]; rfl
          have lfi := blk_lt hfi
          refine (plits_any (b + 1) b 2 ss vS j _ c3 hP1.oS (by omega)).mono ?_
          rintro e u8 ⟨rfl, b8⟩
          replace hB := hB.trans (b8.mono hB.size)
          replace hrs := (b8.block _ (blk_lt hrs)).trans hrs
          replace crs0 : u8.cell? ⟨w.heap.size, 0, none⟩ = some (.int .i64 0) := by rw [blk_cell hrs]; rfl
          replace crs1 : u8.cell? ⟨w.heap.size, 1, none⟩ = some (.int .i64 0) := by rw [blk_cell hrs]; rfl
          replace crs2 : u8.cell? ⟨w.heap.size, 2, none⟩ = some (.int .i64 0) := by rw [blk_cell hrs]; rfl
          replace crs3 : u8.cell? ⟨w.heap.size, 3, none⟩ = some (.int .i64 0) := by rw [blk_cell hrs]; rfl
          replace crs4 : u8.cell? ⟨w.heap.size, 4, none⟩ = some (.int .i64 0) := by rw [blk_cell hrs]; rfl
          replace crs5 : u8.cell? ⟨w.heap.size, 5, none⟩ = some (.int .i64 0) := by rw [blk_cell hrs]; rfl
          replace lrs := blk_lt hrs
          replace hfi := (b8.block _ (blk_lt hfi)).trans hfi
          replace cfi0 : u8.cell? ⟨u6.heap.size, 0, none⟩ = some (.int .i64 (p1 : Int)) := by rw [blk_cell hfi]; rfl
          replace cfi1 : u8.cell? ⟨u6.heap.size, 1, none⟩ = some (.int .i64 (n1 : Int)) := by rw [blk_cell hfi]; rfl
          replace lfi := blk_lt hfi
          replace hP1 := hP1.later b8
          replace c3 : u8.cell? ⟨b, 3, none⟩ = some vS := by rw [blk_cell hP1.fb]; rfl
          replace lbb := blk_lt hP1.fb
          generalize hea : litsAt ss j = c at *
          have HEB := hide hea
          clear hea
          obtain ⟨p2, n2⟩ := c
          dsimp only at hl2
          go_wp2_with fail
          generalize hw0 : u8.alloc (.cells #[.int .i64 (p2 : Int), .int .i64 (n2 : Int)] 77) = u9
          have b9 : Below u8.heap.size u8 u9 := by rw [← hw0]; exact (Below.refl _ _).alloc (Nat.le_refl _) _
          have hse : u9.heap[u8.heap.size]? = some (.cells #[.int .i64 (p2 : Int), .int .i64 (n2 : Int)] 77 (0, 0)) := by rw [← hw0]; exact heap_alloc_new _ _
          clear hw0
          replace hB := hB.trans (b9.mono hB.size)
          replace hrs := (b9.block _ (blk_lt hrs)).trans hrs
          replace crs0 : u9.cell? ⟨w.heap.size, 0, none⟩ = some (.int .i64 0) := by rw [blk_cell hrs]; rfl
          replace crs1 : u9.cell? ⟨w.heap.size, 1, none⟩ = some (.int .i64 0) := by rw [blk_cell hrs]; rfl
          replace crs2 : u9.cell? ⟨w.heap.size, 2, none⟩ = some (.int .i64 0) := by rw [blk_cell hrs]; rfl
          replace crs3 : u9.cell? ⟨w.heap.size, 3, none⟩ = some (.int .i64 0) := by rw [blk_cell hrs]; rfl
          replace crs4 : u9.cell? ⟨w.heap.size, 4, none⟩ = some (.int .i64 0) := by rw [blk_cell hrs]; rfl
          replace crs5 : u9.cell? ⟨w.heap.size, 5, none⟩ = some (.int .i64 0) := by rw [blk_cell hrs]; rfl
          replace lrs := blk_lt hrs
          replace hfi := (b9.block _ (blk_lt hfi)).trans hfi
          replace cfi0 : u9.cell? ⟨u6.heap.size, 0, none⟩ = some (.int .i64 (p1 : Int)) := by rw [blk_cell hfi]; rfl
          replace cfi1 : u9.cell? ⟨u6.heap.size, 1, none⟩ = some (.int .i64 (n1 : Int)) := by rw [blk_cell hfi]; rfl
          replace lfi := blk_lt hfi
          replace hP1 := hP1.later b9
          replace c3 : u9.cell? ⟨b, 3, none⟩ = some vS := by rw [blk_cell hP1.fb]; rfl
          replace lbb := blk_lt hP1.fb
          have cse0 : u9.cell? ⟨u8.heap.size, 0, none⟩ = some (.int .i64 (p2 : Int)) := by rw [blk_cell hse]; rfl
          have cse1 : u9.cell? ⟨u8.heap.size, 1, none⟩ = some (.int .i64 (n2 : Int)) := by rw [blk_cell hse]; rfl
          have lse := blk_lt hse
          refine (has_any p1 n1 v _ hl1.1 hl1.2 (by omega) (by omega)).mono ?_
          rintro e u10 ⟨rfl, b10⟩
          replace hB := hB.trans (b10.mono hB.size)
          replace hrs := (b10.block _ (blk_lt hrs)).trans hrs
          replace crs0 : u10.cell? ⟨w.heap.size, 0, none⟩ = some (.int .i64 0) := by rw [blk_cell hrs]; rfl
          replace crs1 : u10.cell? ⟨w.heap.size, 1, none⟩ = some (.int .i64 0) := by rw [blk_cell hrs]; rfl
          replace crs2 : u10.cell? ⟨w.heap.size, 2, none⟩ = some (.int .i64 0) := by rw [blk_cell hrs]; rfl
          replace crs3 : u10.cell? ⟨w.heap.size, 3, none⟩ = some (.int .i64 0) := by rw [blk_cell hrs]; rfl
          replace crs4 : u10.cell? ⟨w.heap.size, 4, none⟩ = some (.int .i64 0) := by rw [blk_cell hrs]; rfl
          replace crs5 : u10.cell? ⟨w.heap.size, 5, none⟩ = some (.int .i64 0) := by rw [blk_cell hrs]; rfl
          replace lrs := blk_lt hrs
          replace hfi := (b10.block _ (blk_lt hfi)).trans hfi
          replace cfi0 : u10.cell? ⟨u6.heap.size, 0, none⟩ = some (.int .i64 (p1 : Int)) := by rw [blk_cell hfi]; rfl
          replace cfi1 : u10.cell? ⟨u6.heap.size, 1, none⟩ = some (.int .i64 (n1 : Int)) := by rw [blk_cell hfi]; rfl
          replace lfi := blk_lt hfi
          replace hse := (b10.block _ (blk_lt hse)).trans hse
          replace cse0 : u10.cell? ⟨u8.heap.size, 0, none⟩ = some (.int .i64 (p2 : Int)) := by rw [blk_cell hse]; rfl
          replace cse1 : u10.cell? ⟨u8.heap.size, 1, none⟩ = some (.int .i64 (n2 : Int)) := by rw [blk_cell hse]; rfl
          replace lse := blk_lt hse
          replace hP1 := hP1.later b10
          replace c3 : u10.cell? ⟨b, 3, none⟩ = some vS := by rw [blk_cell hP1.fb]; rfl
          replace lbb := blk_lt hP1.fb
          clear zr0 zr1 zr2 zr3 zr4 zr5
          cases hh1 : hasLit (p1, n1) (v : Int) with
          | false =>
            have zr0 := blk_free hrs 0
            have zr1 := blk_free hrs 1
            have zr2 := blk_free hrs 2
            have zr3 := blk_free hrs 3
            have zr4 := blk_free hrs 4
            have zr5 := blk_free hrs 5
            have hRn := blk_set6 hrs (.int .i64 0) (.int .i64 0) (.int .i64 0) (.int .i64 0) (.int .i64 0) (.int .i64 0)
            have jn0 := blk_cell hRn 0
            have jn1 := blk_cell hRn 1
            have jn2 := blk_cell hRn 2
            have jn3 := blk_cell hRn 3
            have jn4 := blk_cell hRn 4
            have jn5 := blk_cell hRn 5
            have hE5 := below_set6 hB (Nat.le_refl w.heap.size) (.int .i64 0) (.int .i64 0) (.int .i64 0) (.int .i64 0) (.int .i64 0) (.int .i64 0)
            have HG : Hid (resQ q kind (litsL ss) [x, y, z] = none) := hide (by rw [unhide HF]; unfold resQ2; rw [if_neg (by rw [hh1]; simp)])
            go_wp2_with fail
            refine bodyPost_ret (v := .tuple #[StpV S0, .bool false]) (by simp [results, Tryz.results87, go_sem, jn0, jn1, jn2, jn3, jn4, jn5]) rfl (StPost.none_ hE5 (unhide HG) S0 zero_lt9 rfl)
          | true =>
            go_wp2_with fail
            refine (has_any p2 n2 (-(v : Int)) _ hl2.1 hl2.2 (by omega) (by omega)).mono ?_
            rintro e u11 ⟨rfl, b11⟩
            replace hB := hB.trans (b11.mono hB.size)
            replace hrs := (b11.block _ (blk_lt hrs)).trans hrs
            replace crs0 : u11.cell? ⟨w.heap.size, 0, none⟩ = some (.int .i64 0) := by rw [blk_cell hrs]; rfl
            replace crs1 : u11.cell? ⟨w.heap.size, 1, none⟩ = some (.int .i64 0) := by rw [blk_cell hrs]; rfl
            replace crs2 : u11.cell? ⟨w.heap.size, 2, none⟩ = some (.int .i64 0) := by rw [blk_cell hrs]; rfl
            replace crs3 : u11.cell? ⟨w.heap.size, 3, none⟩ = some (.int .i64 0) := by rw [blk_cell hrs]; rfl
            replace crs4 : u11.cell? ⟨w.heap.size, 4, none⟩ = some (.int .i64 0) := by rw [blk_cell hrs]; rfl
            replace crs5 : u11.cell? ⟨w.heap.size, 5, none⟩ = some (.int .i64 0) := by rw [blk_cell hrs]; rfl
            replace lrs := blk_lt hrs
            replace hfi := (b11.block _ (blk_lt hfi)).trans hfi
            replace cfi0 : u11.cell? ⟨u6.heap.size, 0, none⟩ = some (.int .i64 (p1 : Int)) := by rw [blk_cell hfi]; rfl
            replace cfi1 : u11.cell? ⟨u6.heap.size, 1, none⟩ = some (.int .i64 (n1 : Int)) := by rw [blk_cell hfi]; rfl
            replace lfi := blk_lt hfi
            replace hse := (b11.block _ (blk_lt hse)).trans hse
            replace cse0 : u11.cell? ⟨u8.heap.size, 0, none⟩ = some (.int .i64 (p2 : Int)) := by rw [blk_cell hse]; rfl
            replace cse1 : u11.cell? ⟨u8.heap.size, 1, none⟩ = some (.int .i64 (n2 : Int)) := by rw [blk_cell hse]; rfl
            replace lse := blk_lt hse
            replace hP1 := hP1.later b11
            replace c3 : u11.cell? ⟨b, 3, none⟩ = some vS := by rw [blk_cell hP1.fb]; rfl
            replace lbb := blk_lt hP1.fb
            cases hh2 : hasLit (p2, n2) (-(v : Int)) with
            | false =>
              have zr0 := blk_free hrs 0
              have zr1 := blk_free hrs 1
              have zr2 := blk_free hrs 2
              have zr3 := blk_free hrs 3
              have zr4 := blk_free hrs 4
              have zr5 := blk_free hrs 5
              have hRn := blk_set6 hrs (.int .i64 0) (.int .i64 0) (.int .i64 0) (.int .i64 0) (.int .i64 0) (.int .i64 0)
              have jn0 := blk_cell hRn 0
              have jn1 := blk_cell hRn 1
              have jn2 := blk_cell hRn 2
              have jn3 := blk_cell hRn 3
              have jn4 := blk_cell hRn 4
              have jn5 := blk_cell hRn 5
              have hE5 := below_set6 hB (Nat.le_refl w.heap.size) (.int .i64 0) (.int .i64 0) (.int .i64 0) (.int .i64 0) (.int .i64 0) (.int .i64 0)
              have HG : Hid (resQ q kind (litsL ss) [x, y, z] = none) := hide (by rw [unhide HF]; unfold resQ2; rw [if_neg (by rw [hh2]; simp)])
              go_wp2_with fail
              refine bodyPost_ret (v := .tuple #[StpV S0, .bool false]) (by simp [results, Tryz.results87, go_sem, jn0, jn1, jn2, jn3, jn4, jn5]) rfl (StPost.none_ hE5 (unhide HG) S0 zero_lt9 rfl)
            | true =>
              have HG : Hid (resQ q kind (litsL ss) [x, y, z] = if (without2 (p1, n1) (p2, n2) v).1 &&& (without2 (p1, n1) (p2, n2) v).2 != 0 then none else some (without2 (p1, n1) (p2, n2) v)) := hide (by rw [unhide HF]; unfold resQ2; rw [if_pos ⟨hh1, hh2⟩])
              clear hh1 hh2 HF
              go_wp2_with fail
              have hsl1 := lrs
              generalize hw0 : u11.alloc (.cells #[.int .i64 3, .int .i64 (i : Int), .int .i64 (j : Int), .int .i64 (v : Int), .int .i64 0, .int .i64 0] 91) = u12
              have b12 : Below u11.heap.size u11 u12 := by rw [← hw0]; exact (Below.refl _ _).alloc (Nat.le_refl _) _
              have hst : u12.heap[u11.heap.size]? = some (.cells #[.int .i64 3, .int .i64 (i : Int), .int .i64 (j : Int), .int .i64 (v : Int), .int .i64 0, .int .i64 0] 91 (0, 0)) := by rw [← hw0]; exact heap_alloc_new _ _
              clear hw0
              replace hB := hB.trans (b12.mono hB.size)
              replace hrs := (b12.block _ (blk_lt hrs)).trans hrs
              replace crs0 : u12.cell? ⟨w.heap.size, 0, none⟩ = some (.int .i64 0) := by rw [blk_cell hrs]; rfl
              replace crs1 : u12.cell? ⟨w.heap.size, 1, none⟩ = some (.int .i64 0) := by rw [blk_cell hrs]; rfl
              replace crs2 : u12.cell? ⟨w.heap.size, 2, none⟩ = some (.int .i64 0) := by rw [blk_cell hrs]; rfl
              replace crs3 : u12.cell? ⟨w.heap.size, 3, none⟩ = some (.int .i64 0) := by rw [blk_cell hrs]; rfl
              replace crs4 : u12.cell? ⟨w.heap.size, 4, none⟩ = some (.int .i64 0) := by rw [blk_cell hrs]; rfl
              replace crs5 : u12.cell? ⟨w.heap.size, 5, none⟩ = some (.int .i64 0) := by rw [blk_cell hrs]; rfl
              replace lrs := blk_lt hrs
              replace hfi := (b12.block _ (blk_lt hfi)).trans hfi
              replace cfi0 : u12.cell? ⟨u6.heap.size, 0, none⟩ = some (.int .i64 (p1 : Int)) := by rw [blk_cell hfi]; rfl
              replace cfi1 : u12.cell? ⟨u6.heap.size, 1, none⟩ = some (.int .i64 (n1 : Int)) := by rw [blk_cell hfi]; rfl
              replace lfi := blk_lt hfi
              replace hse := (b12.block _ (blk_lt hse)).trans hse
              replace cse0 : u12.cell? ⟨u8.heap.size, 0, none⟩ = some (.int .i64 (p2 : Int)) := by rw [blk_cell hse]; rfl
              replace cse1 : u12.cell? ⟨u8.heap.size, 1, none⟩ = some (.int .i64 (n2 : Int)) := by rw [blk_cell hse]; rfl
              replace lse := blk_lt hse
              replace hP1 := hP1.later b12
              replace c3 : u12.cell? ⟨b, 3, none⟩ = some vS := by rw [blk_cell hP1.fb]; rfl
              replace lbb := blk_lt hP1.fb
              have cst0 : u12.cell? ⟨u11.heap.size, 0, none⟩ = some (.int .i64 3) := by rw [blk_cell hst]; rfl
              have cst1 : u12.cell? ⟨u11.heap.size, 1, none⟩ = some (.int .i64 (i : Int)) := by rw [blk_cell hst]; rfl
              have cst2 : u12.cell? ⟨u11.heap.size, 2, none⟩ = some (.int .i64 (j : Int)) := by rw [blk_cell hst]; rfl
              have cst3 : u12.cell? ⟨u11.heap.size, 3, none⟩ = some (.int .i64 (v : Int)) := by rw [blk_cell hst]; rfl
              have cst4 : u12.cell? ⟨u11.heap.size, 4, none⟩ = some (.int .i64 0) := by rw [blk_cell hst]; rfl
              have cst5 : u12.cell? ⟨u11.heap.size, 5, none⟩ = some (.int .i64 0) := by rw [blk_cell hst]; rfl
              have lst := blk_lt hst
              have hsl0 : w.heap.size ≤ u11.heap.size := by omega
              have hne0 : w.heap.size ≠ u11.heap.size := by omega
              go_region_with (go_at_call 95; refine (resolvent_any (b + 1) b 2 ss vS ⟨3, i, j, v, (0, 0)⟩ _ (by rw [blk_cell (hP1.later (Below.refl _ u12).drew).fb]; rfl) (hP1.later (Below.refl _ u12).drew).oS (by omega) hS.bits).mono ?_; rintro e w9 ⟨rfl, hb9⟩; have hB9 : Below w.heap.size w w9 := hB.drew.trans (hb9.mono hB.size); have hr9 := (hb9.block _ (blk_lt hrs)).trans hrs; have ht9 := (hb9.block _ (blk_lt hst)).trans hst; have s90 : w9.cell? ⟨u11.heap.size, 0, none⟩ = some (.int .i64 3) := (by rw [blk_cell ht9]; rfl); have s91 : w9.cell? ⟨u11.heap.size, 1, none⟩ = some (.int .i64 (i : Int)) := (by rw [blk_cell ht9]; rfl); have s92 : w9.cell? ⟨u11.heap.size, 2, none⟩ = some (.int .i64 (j : Int)) := (by rw [blk_cell ht9]; rfl); have s93 : w9.cell? ⟨u11.heap.size, 3, none⟩ = some (.int .i64 (v : Int)) := (by rw [blk_cell ht9]; rfl); have s94 : w9.cell? ⟨u11.heap.size, 4, none⟩ = some (.int .i64 0) := (by rw [blk_cell ht9]; rfl); have s95 : w9.cell? ⟨u11.heap.size, 5, none⟩ = some (.int .i64 0) := (by rw [blk_cell ht9]; rfl); have y94 := blk_free ht9 4; have y95 := blk_free ht9 5; have ls9 := blk_lt ht9)
              all_goals
                try dsimp only
                rw [unhide HEA, unhide HEB]
                have hlt9 := without_lt (p1 ||| p2, n1 ||| n2) v ⟨or_lt _ _ hl1.1 hl2.1, or_lt _ _ hl1.2 hl2.2⟩
                rw [show without (p1 ||| p2, n1 ||| n2) (v : Int) = without2 (p1, n1) (p2, n2) v from rfl] at hlt9
                generalize without2 (p1, n1) (p2, n2) v = cw at *
                obtain ⟨d1, d2⟩ := cw
                dsimp only at hlt9
                have hx1 := blk_set (blk_set ht9 4 (.int .i64 (d1 : Int))) 5 (.int .i64 (d2 : Int))
                have hx2 : ((w9.setCell ⟨u11.heap.size, 4, none⟩ (.int .i64 (d1 : Int))).setCell ⟨u11.heap.size, 5, none⟩ (.int .i64 (d2 : Int))).heap[u11.heap.size]? = some (.cells #[.int .i64 3, .int .i64 (i : Int), .int .i64 (j : Int), .int .i64 (v : Int), .int .i64 (d1 : Int), .int .i64 (d2 : Int)] 91 (0, 0)) := hx1
                have hxr : ((w9.setCell ⟨u11.heap.size, 4, none⟩ (.int .i64 (d1 : Int))).setCell ⟨u11.heap.size, 5, none⟩ (.int .i64 (d2 : Int))).heap[w.heap.size]? = some (.cells #[.int .i64 0, .int .i64 0, .int .i64 0, .int .i64 0, .int .i64 0, .int .i64 0] 91 (0, 0)) := by rw [Below.heap_setCell _ _ _ _ (by intro e; exact hne0 (by simpa using e)), Below.heap_setCell _ _ _ _ (by intro e; exact hne0 (by simpa using e))]; exact hr9
                have hxB : Below w.heap.size w ((w9.setCell ⟨u11.heap.size, 4, none⟩ (.int .i64 (d1 : Int))).setCell ⟨u11.heap.size, 5, none⟩ (.int .i64 (d2 : Int))) := (hB9.setCell (p := ⟨u11.heap.size, 4, none⟩) hsl0 _).setCell (p := ⟨u11.heap.size, 5, none⟩) hsl0 _
                clear hx1
                generalize hwz : (w9.setCell ⟨u11.heap.size, 4, none⟩ (.int .i64 (d1 : Int))).setCell ⟨u11.heap.size, 5, none⟩ (.int .i64 (d2 : Int)) = wz at *
                have q0 : wz.cell? ⟨u11.heap.size, 0, none⟩ = some (.int .i64 3) := by rw [blk_cell hx2]; rfl
                have q1 : wz.cell? ⟨u11.heap.size, 1, none⟩ = some (.int .i64 (i : Int)) := by rw [blk_cell hx2]; rfl
                have q2 : wz.cell? ⟨u11.heap.size, 2, none⟩ = some (.int .i64 (j : Int)) := by rw [blk_cell hx2]; rfl
                have q3 : wz.cell? ⟨u11.heap.size, 3, none⟩ = some (.int .i64 (v : Int)) := by rw [blk_cell hx2]; rfl
                have q4 : wz.cell? ⟨u11.heap.size, 4, none⟩ = some (.int .i64 (d1 : Int)) := by rw [blk_cell hx2]; rfl
                have q5 : wz.cell? ⟨u11.heap.size, 5, none⟩ = some (.int .i64 (d2 : Int)) := by rw [blk_cell hx2]; rfl
                have lz := blk_lt hx2
                go_wp2_with fail
                clear hP1 hrs hst hfi hse hr9 ht9 hB hB9 hwz
                go_region_with (go_at_call 100; refine (clashes_any d1 d2 _ hlt9.1 hlt9.2).mono ?_; rintro e w7 ⟨rfl, hb7⟩; have hy1 := (hb7.block _ (blk_lt hxr)).trans hxr; have hy2 := (hb7.block _ (blk_lt hx2)).trans hx2; have m90 : w7.cell? ⟨w.heap.size, 0, none⟩ = some (.int .i64 0) := (by rw [blk_cell hy1]; rfl); have m91 : w7.cell? ⟨w.heap.size, 1, none⟩ = some (.int .i64 0) := (by rw [blk_cell hy1]; rfl); have m92 : w7.cell? ⟨w.heap.size, 2, none⟩ = some (.int .i64 0) := (by rw [blk_cell hy1]; rfl); have m93 : w7.cell? ⟨w.heap.size, 3, none⟩ = some (.int .i64 0) := (by rw [blk_cell hy1]; rfl); have m94 : w7.cell? ⟨w.heap.size, 4, none⟩ = some (.int .i64 0) := (by rw [blk_cell hy1]; rfl); have m95 : w7.cell? ⟨w.heap.size, 5, none⟩ = some (.int .i64 0) := (by rw [blk_cell hy1]; rfl); have o90 := blk_free hy1 0; have o91 := blk_free hy1 1; have o92 := blk_free hy1 2; have o93 := blk_free hy1 3; have o94 := blk_free hy1 4; have o95 := blk_free hy1 5; have lo9 := blk_lt hy1; have n90 : w7.cell? ⟨u11.heap.size, 0, none⟩ = some (.int .i64 3) := (by rw [blk_cell hy2]; rfl); have n91 : w7.cell? ⟨u11.heap.size, 1, none⟩ = some (.int .i64 (i : Int)) := (by rw [blk_cell hy2]; rfl); have n92 : w7.cell? ⟨u11.heap.size, 2, none⟩ = some (.int .i64 (j : Int)) := (by rw [blk_cell hy2]; rfl); have n93 : w7.cell? ⟨u11.heap.size, 3, none⟩ = some (.int .i64 (v : Int)) := (by rw [blk_cell hy2]; rfl); have n94 : w7.cell? ⟨u11.heap.size, 4, none⟩ = some (.int .i64 (d1 : Int)) := (by rw [blk_cell hy2]; rfl); have n95 : w7.cell? ⟨u11.heap.size, 5, none⟩ = some (.int .i64 (d2 : Int)) := (by rw [blk_cell hy2]; rfl); have ln9 := blk_lt hy2; have hB7 : Below w.heap.size w w7 := hxB.drew.trans (hb7.mono hxB.size))
                all_goals go_wp2_with fail
                all_goals
                  have hR := blk_set6 hy1 (.int .i64 3) (.int .i64 (i : Int)) (.int .i64 (j : Int)) (.int .i64 (v : Int)) (.int .i64 (d1 : Int)) (.int .i64 (d2 : Int))
                  have j0 := blk_cell hR 0
                  have j1 := blk_cell hR 1
                  have j2 := blk_cell hR 2
                  have j3 := blk_cell hR 3
                  have j4 := blk_cell hR 4
                  have j5 := blk_cell hR 5
                  refine bodyPost_ret (v := .tuple #[StpV ⟨3, i, j, v, (d1, d2)⟩, .bool (!(d1 &&& d2 != 0))]) (by simp [results, Tryz.results87, go_sem, j0, j1, j2, j3, j4, j5]) rfl ?_
                  have hBz := below_set6 hB7 (Nat.le_refl w.heap.size) (.int .i64 3) (.int .i64 (i : Int)) (.int .i64 (j : Int)) (.int .i64 (v : Int)) (.int .i64 (d1 : Int)) (.int .i64 (d2 : Int))
                  cases hcl : (d1 &&& d2 != 0) with
                  | true => exact StPost.none_ hBz (by rw [unhide HG, hcl]; rfl) ⟨3, i, j, v, (d1, d2)⟩ hlt9 rfl
                  | false => exact StPost.some_ hBz ⟨3, i, j, v, (d1, d2)⟩ (by rw [unhide HG, hcl]; rfl) hlt9 rfl (show (3 : Nat) ≠ 4 by decide)
        · have HF : Hid (resQ q kind (litsL ss) [x, y, z] = none) := hide (by rw [unhide HR, unhide HC2 rfl, unhide HC1 rfl, hpv]; rfl)
          clear hpv
          go_wp2_with fail
          refine bodyPost_ret (v := .tuple #[StpV S0, .bool false]) (by simp [results, Tryz.results87, go_sem, jn0, jn1, jn2, jn3, jn4, jn5]) rfl (StPost.none_ hE5 (unhide HF) S0 zero_lt9 rfl)
  · have HR : Hid (resQ q kind (litsL ss) ws = none) := hide (by
      unfold resQ; split
      · simp at h3
      · rfl)
    have hb1 : ((ws.length : Int) != 3) = true := by rw [bne_iff_ne]; omega
    clear h3
    go_enter Tryz.func87, Tryz.ntmps87
    go_wp2_with fail
    refine bodyPost_ret (v := .tuple #[StpV S0, .bool false]) (by simp [results, Tryz.results87, go_sem]) rfl (StPost.none_ ?_ (unhide HR) S0 zero_lt9 rfl)
    exact (Below.refl _ _).alloc (Nat.le_refl _) _
end Go.Proofs.YtgipjjhkhfihpabGreatDoor

namespace Go.Proofs.YtgipjjhkhfihpabGreatDoor
open Go.RowKit

/-! ### readCube -/
def cubeQ (vs : List (Nat × Bool)) : Nat × Nat → Nat → List (List UInt8) → Option (Nat × Nat)
  | c, _, [] => some c
  | c, last, w :: ws => if litGood w then
      match findV vs (litNum w).natAbs with
      | none => none
      | some x => if x.1 ≤ last then none else cubeQ vs (withLit c (litNum w)) x.1 ws
    else none
def cubeStepQ (q : QS) (kind : Nat) (ws : List (List UInt8)) : Option (Nat × Nat) :=
  if kind = 2 then (cubeQ q.vars (0, 0) 0 ws).bind (fun c => if satQ q.cl c then some c else none) else none

set_option maxRecDepth 100000 in
set_option maxHeartbeats 3200000 in
theorem readCube_any (b : Nat) (q : QS) (kind : Nat) (ss : List Stp) (vV vC vS : Value) (ws : List (List UInt8)) (ao : Option Addr) (cap : Nat) (w : World) (hP : PInv w b q kind ss vV vC vS) (hQ : QB q)
    (hs : StrsAt w ao ws) (hl : ws.length ≤ 1048576) (hws : ∀ x ∈ ws, x.length ≤ 1048576) :
    Calls Tryz.prog 86 #[.pointer (some ⟨b, 0, none⟩), .slice ao ws.length cap] w fun e w' => StPost NotRed (cubeStepQ q kind ws) w e w' := by
  have hbw := blk_lt hP.fb
  have hvl := hQ.vl
  have k2 : w.cell? ⟨b, 2, none⟩ = some (.int .i64 kind) := by rw [blk_cell hP.fb]; rfl
  have k0 : w.cell? ⟨b, 0, none⟩ = some vV := by rw [blk_cell hP.fb]; rfl
  by_cases hk : kind = 2
  · have hkb : ((kind : Int) != 2) = false := by rw [bne_eq_false_iff_eq]; omega
    have HR : Hid (cubeStepQ q kind ws = (cubeQ q.vars (0, 0) 0 ws).bind (fun c => if satQ q.cl c then some c else none)) := hide (by unfold cubeStepQ; rw [if_pos hk])
    have HWS := hide hws; clear hws hk
    go_enter Tryz.func86, Tryz.ntmps86
    go_wp2_with fail
    go_loopg [7, 24] (ws.length) (fun m la i wx => ∃ (j p n last : Nat), i = .int .i64 j ∧ la = .int .i64 last ∧ j + m = ws.length ∧ p < 512 ∧ n < 512 ∧ last ≤ 8 ∧ cubeQ q.vars (0, 0) 0 ws = cubeQ q.vars (p, n) last (ws.drop j) ∧ Below w.heap.size w wx ∧
      wx.heap[w.heap.size]? = some (.cells #[.int .i64 0, .int .i64 0, .int .i64 0, .int .i64 0, .int .i64 0, .int .i64 0] 91 (0, 0)) ∧ wx.heap[w.heap.size + 1]? = some (.cells #[.int .i64 p, .int .i64 n] 77 (0, 0)))
    case atStart => exact ⟨0, 0, 0, 0, rfl, rfl, by omega, by omega, by omega, by omega, rfl, ((Below.refl _ _).alloc (Nat.le_refl _) _).alloc (by simp) _, by rw [heap_alloc_old _ _ (by simp)]; exact heap_alloc_new _ _, alloc_new_at (by simp)⟩
    case round =>
      obtain ⟨j, p, n, last, rfl, rfl, hj, hp, hn, hla, hto, hb, hres, hcub⟩ := hrel
      have hbs := blk_lt hcub
      have hbs0 : w.heap.size < wr.heap.size := by omega
      have hbw1 : b < wr.heap.size := by omega
      have r0 : wr.cell? ⟨w.heap.size, 0, none⟩ = some (.int .i64 0) := by rw [blk_cell hres]; rfl
      have r1 : wr.cell? ⟨w.heap.size, 1, none⟩ = some (.int .i64 0) := by rw [blk_cell hres]; rfl
      have r2 : wr.cell? ⟨w.heap.size, 2, none⟩ = some (.int .i64 0) := by rw [blk_cell hres]; rfl
      have r3 : wr.cell? ⟨w.heap.size, 3, none⟩ = some (.int .i64 0) := by rw [blk_cell hres]; rfl
      have r4 : wr.cell? ⟨w.heap.size, 4, none⟩ = some (.int .i64 0) := by rw [blk_cell hres]; rfl
      have r5 : wr.cell? ⟨w.heap.size, 5, none⟩ = some (.int .i64 0) := by rw [blk_cell hres]; rfl
      have z0 := blk_free hres 0
      have z1 := blk_free hres 1
      have z2 := blk_free hres 2
      have z3 := blk_free hres 3
      have z4 := blk_free hres 4
      have z5 := blk_free hres 5
      have c0 : wr.cell? ⟨w.heap.size + 1, 0, none⟩ = some (.int .i64 p) := by rw [blk_cell hcub]; rfl
      have c1 : wr.cell? ⟨w.heap.size + 1, 1, none⟩ = some (.int .i64 n) := by rw [blk_cell hcub]; rfl
      by_cases hlt : j < ws.length
      · obtain ⟨g, off, cur, rfl, hg, hcur⟩ := hs (by intro e; subst e; simp at hlt)
        have hgw := blk_lt hg
        have hgw1 : g < wr.heap.size := by omega
        have hcj : wr.cell? ⟨g, off + j, none⟩ = some (S ws[j]) := by
          rw [hb.cell (p := ⟨g, off + j, none⟩) hgw, blk_cell hg]; exact hcur j hlt
        have hwl := unhide HWS _ (List.getElem_mem hlt)
        rw [List.drop_eq_getElem_cons hlt, cubeQ] at hto
        have HTO := hide hto; clear hto hcur
        obtain ⟨n0, n1⟩ := litNum_bd ws[j]
        go_wp2_with fail
        refine (wliteral_any ws[j] wr hwl).mono ?_
        rintro e w2 ⟨hw2, rfl⟩
        subst hw2
        cases hgd : litGood ws[j] with
        | false =>
          have HF : Hid (cubeStepQ q kind ws = none) := hide (by rw [unhide HR, unhide HTO, hgd]; rfl)
          have hRm := blk_set6 hres (.int .i64 0) (.int .i64 0) (.int .i64 0) (.int .i64 0) (.int .i64 0) (.int .i64 0)
          have jm0 := blk_cell hRm 0
          have jm1 := blk_cell hRm 1
          have jm2 := blk_cell hRm 2
          have jm3 := blk_cell hRm 3
          have jm4 := blk_cell hRm 4
          have jm5 := blk_cell hRm 5
          go_wp2_with fail
          refine bodyPost_ret (v := .tuple #[StpV S0, .bool false]) (by simp [results, Tryz.results86, go_sem, jm0, jm1, jm2, jm3, jm4, jm5]) rfl (StPost.none_ ?_ (unhide HF) S0 zero_lt9 rfl)
          exact below_set6 hb (Nat.le_refl _) _ _ _ _ _ _
        | true =>
          rw [hgd, if_pos rfl] at HTO
          have x0 : w2.cell? ⟨b, 0, none⟩ = some vV := by rw [hb.cell (p := ⟨b, 0, none⟩) hbw]; exact k0
          have hoV : w2.ownsRow 0 109 2 vV q.vars.length (varCells q.vars) := own_under hP.oV (fun k hk => Nat.lt_trans (hP.lV k hk) hbw) hb
          go_wp2_with fail
          refine (varOf_any (litNum ws[j]) w2 (by omega) (by omega)).mono ?_
          rintro e w3 ⟨rfl, hw3⟩
          subst hw3
          go_wp2_with fail
          refine (find_any 0 b q.vars vV (litNum ws[j]).natAbs w3 x0 hoV (by omega)).mono ?_
          rintro e w4 ⟨hb4, rfl⟩
          have hbw4 := Nat.lt_of_lt_of_le hbw1 hb4.size
          have hbs4 := Nat.lt_of_lt_of_le hbs hb4.size
          have hbs04 := Nat.lt_of_lt_of_le hbs0 hb4.size
          have hres4 := (hb4.block _ hbs0).trans hres
          have hcub4 := (hb4.block _ hbs).trans hcub
          have hB4 : Below w.heap.size w w4 := hb.trans (hb4.mono hb.size)
          have r40 : w4.cell? ⟨w.heap.size, 0, none⟩ = some (.int .i64 0) := by rw [blk_cell hres4]; rfl
          have r41 : w4.cell? ⟨w.heap.size, 1, none⟩ = some (.int .i64 0) := by rw [blk_cell hres4]; rfl
          have r42 : w4.cell? ⟨w.heap.size, 2, none⟩ = some (.int .i64 0) := by rw [blk_cell hres4]; rfl
          have r43 : w4.cell? ⟨w.heap.size, 3, none⟩ = some (.int .i64 0) := by rw [blk_cell hres4]; rfl
          have r44 : w4.cell? ⟨w.heap.size, 4, none⟩ = some (.int .i64 0) := by rw [blk_cell hres4]; rfl
          have r45 : w4.cell? ⟨w.heap.size, 5, none⟩ = some (.int .i64 0) := by rw [blk_cell hres4]; rfl
          have z40 := blk_free hres4 0
          have z41 := blk_free hres4 1
          have z42 := blk_free hres4 2
          have z43 := blk_free hres4 3
          have z44 := blk_free hres4 4
          have z45 := blk_free hres4 5
          have c40 : w4.cell? ⟨w.heap.size + 1, 0, none⟩ = some (.int .i64 p) := by rw [blk_cell hcub4]; rfl
          have c41 : w4.cell? ⟨w.heap.size + 1, 1, none⟩ = some (.int .i64 n) := by rw [blk_cell hcub4]; rfl
          cases hfd : findV q.vars (litNum ws[j]).natAbs with
          | none =>
            rw [hfd] at HTO
            have HF : Hid (cubeStepQ q kind ws = none) := hide (by rw [unhide HR, unhide HTO]; rfl)
            go_wp2_with fail
            have hR := blk_set6 hres4 (.int .i64 0) (.int .i64 0) (.int .i64 0) (.int .i64 0) (.int .i64 0) (.int .i64 0)
            have hR' := (heap_alloc_old _ (.cells #[.int .i64 0, .bool false] 109) (blk_lt hR)).trans hR
            have q0 := blk_cell hR' 0
            have q1 := blk_cell hR' 1
            have q2 := blk_cell hR' 2
            have q3 := blk_cell hR' 3
            have q4 := blk_cell hR' 4
            have q5 := blk_cell hR' 5
            refine bodyPost_ret (v := .tuple #[StpV S0, .bool false]) (by simp [results, Tryz.results86, go_sem, q0, q1, q2, q3, q4, q5]) rfl (StPost.none_ ?_ (unhide HF) S0 zero_lt9 rfl)
            exact (below_set6 hB4 (Nat.le_refl _) _ _ _ _ _ _).alloc (by simp [World.setCell]; omega) _
          | some x =>
            rw [hfd] at HTO
            have hxn := hQ.names x (List.mem_of_find?_eq_some hfd)
            obtain ⟨xn, xu⟩ := x
            dsimp only [Option.getD_some, Option.isSome_some] at HTO hxn ⊢
            by_cases hle : xn ≤ last
            · have hdl : decide (xn ≤ last) = true := by simp; omega
              have HF : Hid (cubeStepQ q kind ws = none) := hide (by rw [unhide HR, unhide HTO, if_pos hle]; rfl)
              clear hle
              go_wp2_with fail
              have hR := blk_set6 hres4 (.int .i64 0) (.int .i64 0) (.int .i64 0) (.int .i64 0) (.int .i64 0) (.int .i64 0)
              have hR' := (heap_alloc_old _ (.cells #[.int .i64 (xn : Int), .bool xu] 109) (blk_lt hR)).trans hR
              have q0 := blk_cell hR' 0
              have q1 := blk_cell hR' 1
              have q2 := blk_cell hR' 2
              have q3 := blk_cell hR' 3
              have q4 := blk_cell hR' 4
              have q5 := blk_cell hR' 5
              refine bodyPost_ret (v := .tuple #[StpV S0, .bool false]) (by simp [results, Tryz.results86, go_sem, q0, q1, q2, q3, q4, q5]) rfl (StPost.none_ ?_ (unhide HF) S0 zero_lt9 rfl)
              exact (below_set6 hB4 (Nat.le_refl _) _ _ _ _ _ _).alloc (by simp [World.setCell]; omega) _
            · have hdl : decide (xn ≤ last) = false := by simp; omega
              have HF : Hid (cubeQ q.vars (0, 0) 0 ws = cubeQ q.vars (withLit (p, n) (litNum ws[j])) xn (ws.drop (j + 1))) := hide (by rw [unhide HTO, if_neg hle])
              clear hle
              have hwl2 := withLit_lt (p, n) (litNum ws[j]) hp hn
              have hA4 : Below w4.heap.size w4 (w4.alloc (.cells #[.int .i64 (xn : Int), .bool xu] 109)) := (Below.refl _ _).alloc (Nat.le_refl _) _
              have hB4a := hB4.trans (hA4.mono hB4.size)
              have hres4a := (hA4.block _ (blk_lt hres4)).trans hres4
              have hcub4a := (hA4.block _ (blk_lt hcub4)).trans hcub4
              have hv4a := heap_alloc_new w4 (.cells #[.int .i64 (xn : Int), .bool xu] 109)
              go_wp2_with fail
              refine (with_any p n (litNum ws[j]) _ hp hn (by omega) (by omega)).mono ?_
              rintro e w5 ⟨rfl, hb5⟩
              have hres5 := (hb5.block _ (blk_lt hres4a)).trans hres4a
              have hcub5 := (hb5.block _ (blk_lt hcub4a)).trans hcub4a
              have hv5 := (hb5.block _ (blk_lt hv4a)).trans hv4a
              have hB5 : Below w.heap.size w w5 := hB4a.trans (hb5.mono hB4a.size)
              have c50 : w5.cell? ⟨w.heap.size + 1, 0, none⟩ = some (.int .i64 p) := by rw [blk_cell hcub5]; rfl
              have c51 : w5.cell? ⟨w.heap.size + 1, 1, none⟩ = some (.int .i64 n) := by rw [blk_cell hcub5]; rfl
              have v50 : w5.cell? ⟨w4.heap.size, 0, none⟩ = some (.int .i64 xn) := by rw [blk_cell hv5]; rfl
              have z50 := blk_free hcub5 0
              have z51 := blk_free hcub5 1
              have hne : w4.heap.size ≠ w.heap.size + 1 := by omega
              have hne2 : w.heap.size + 1 ≠ w4.heap.size := by omega
              generalize withLit (p, n) (litNum ws[j]) = cw at *
              obtain ⟨p', n'⟩ := cw
              go_wp2_with fail
              go_roundg (gk - 1)
              case measure => omega
              case rel =>
                refine ⟨j + 1, p', n', xn, by go_num, rfl, by omega, hwl2.1, hwl2.2, hxn.2, unhide HF, (hB5.setCell (p := ⟨w.heap.size + 1, 0, none⟩) (Nat.le_succ _) _).setCell (p := ⟨w.heap.size + 1, 1, none⟩) (Nat.le_succ _) _, ?_, blk_set (blk_set hcub5 0 _) 1 _⟩
                rw [Below.heap_setCell _ _ _ _ (by simp), Below.heap_setCell _ _ _ _ (by simp)]
                exact hres5
      · have hjl : j = ws.length := by omega
        subst hjl
        rw [List.drop_length] at hto
        have HF : Hid (cubeStepQ q kind ws = if satQ q.cl (p, n) then some (p, n) else none) := hide (by rw [unhide HR, hto]; rfl)
        clear hto
        have hP1 : PInv wr b q kind ss vV vC vS := hP.later hb
        go_wp2_with fail
        have hb9 : Below wr.heap.size wr wr.drew := (Below.refl _ wr).drew
        go_region_with (go_at_call 79; refine (qsat_any 0 b q vC p n _ (by rw [blk_cell (hP1.later hb9).fb]; rfl) (hP1.later hb9).oC hQ hp hn).mono ?_; rintro e w8 ⟨rfl, hb8⟩; have hy1 := (hb8.block _ (blk_lt hres)).trans hres; have hy2 := (hb8.block _ (blk_lt hcub)).trans hcub; have f0 : w8.cell? ⟨w.heap.size, 0, none⟩ = some (.int .i64 0) := (by rw [blk_cell hy1]; rfl); have f1 : w8.cell? ⟨w.heap.size, 1, none⟩ = some (.int .i64 0) := (by rw [blk_cell hy1]; rfl); have f2 : w8.cell? ⟨w.heap.size, 2, none⟩ = some (.int .i64 0) := (by rw [blk_cell hy1]; rfl); have f3 : w8.cell? ⟨w.heap.size, 3, none⟩ = some (.int .i64 0) := (by rw [blk_cell hy1]; rfl); have f4 : w8.cell? ⟨w.heap.size, 4, none⟩ = some (.int .i64 0) := (by rw [blk_cell hy1]; rfl); have f5 : w8.cell? ⟨w.heap.size, 5, none⟩ = some (.int .i64 0) := (by rw [blk_cell hy1]; rfl); have t0 := blk_free hy1 0; have t1 := blk_free hy1 1; have t2 := blk_free hy1 2; have t3 := blk_free hy1 3; have t4 := blk_free hy1 4; have t5 := blk_free hy1 5; have l0 : w8.cell? ⟨w.heap.size + 1, 0, none⟩ = some (.int .i64 p) := (by rw [blk_cell hy2]; rfl); have l1 : w8.cell? ⟨w.heap.size + 1, 1, none⟩ = some (.int .i64 n) := (by rw [blk_cell hy2]; rfl); have hbz : Below w.heap.size w w8 := hb.drew.trans (hb8.mono hb.size))
        all_goals go_wp2_with fail
        all_goals
          have hR := blk_set6 hy1 (.int .i64 2) (.int .i64 0) (.int .i64 0) (.int .i64 0) (.int .i64 (p : Int)) (.int .i64 (n : Int))
          have j0 := blk_cell hR 0
          have j1 := blk_cell hR 1
          have j2 := blk_cell hR 2
          have j3 := blk_cell hR 3
          have j4 := blk_cell hR 4
          have j5 := blk_cell hR 5
          refine bodyPost_ret (v := .tuple #[StpV ⟨2, 0, 0, 0, (p, n)⟩, .bool (satQ q.cl (p, n))]) (by simp [results, Tryz.results86, go_sem, j0, j1, j2, j3, j4, j5]) rfl ?_
          have hB := below_set6 hbz (Nat.le_refl w.heap.size) (.int .i64 2) (.int .i64 0) (.int .i64 0) (.int .i64 0) (.int .i64 (p : Int)) (.int .i64 (n : Int))
          cases hcl : satQ q.cl (p, n) with
          | false => exact StPost.none_ hB (by rw [unhide HF, hcl]; rfl) ⟨2, 0, 0, 0, (p, n)⟩ ⟨hp, hn⟩ rfl
          | true => exact StPost.some_ hB ⟨2, 0, 0, 0, (p, n)⟩ (by rw [unhide HF, hcl]; rfl) ⟨hp, hn⟩ rfl (show (2 : Nat) ≠ 4 by decide)
  · have HR : Hid (cubeStepQ q kind ws = none) := hide (by unfold cubeStepQ; rw [if_neg hk])
    have hb1 : ((kind : Int) != 2) = true := by rw [bne_iff_ne]; omega
    clear hk
    go_enter Tryz.func86, Tryz.ntmps86
    go_wp2_with fail
    refine bodyPost_ret (v := .tuple #[StpV S0, .bool false]) (by simp [results, Tryz.results86, go_sem]) rfl (StPost.none_ ?_ (unhide HR) S0 zero_lt9 rfl)
    exact (Below.refl _ _).alloc (Nat.le_refl _) _
end Go.Proofs.YtgipjjhkhfihpabGreatDoor

namespace Go.Proofs.YtgipjjhkhfihpabGreatDoor
open Go.RowKit

/-! ### readStep -/
def stepQ (q : QS) (kind : Nat) (ss : List (Nat × Nat)) (hd : List UInt8) (tl : List (List UInt8)) : Option (Nat × Nat) :=
  if hd = [97] then axiomQ q kind tl
  else if hd = [99] then cubeStepQ q kind tl
  else if hd = [114] then resQ q kind ss tl
  else if hd = [100] then reductQ q kind ss tl
  else none

/-- How a step was made. -/
def Tag (q : QS) (kind : Nat) (ss : List Stp) (s : Stp) : Prop := RedTag q kind ss s ∨ (s.rule ≠ 4 ∧ ∃ tl, axiomQ q kind tl = some s.lits ∨ cubeStepQ q kind tl = some s.lits ∨ resQ q kind (litsL ss) tl = some s.lits)
def Tags (q : QS) (kind : Nat) (ss : List Stp) : Prop := ∀ i (h : i < ss.length), Tag q kind (ss.take i) ss[i]
def TagM (q : QS) (kind : Nat) (ss : List Stp) (ws : List (List UInt8)) (s : Stp) : Prop := Tag q kind ss s ∧ stMark s = markOf ss.length ws
theorem tags_nil (q : QS) (kind : Nat) : Tags q kind [] := fun i h => by simp at h
theorem Tags.snoc {q : QS} {kind : Nat} {ss : List Stp} {s : Stp} (h : Tags q kind ss) (hs : Tag q kind ss s) : Tags q kind (ss ++ [s]) := by
  intro i hi
  by_cases e : i < ss.length
  · rw [List.take_append_of_le_length (Nat.le_of_lt e), List.getElem_append_left e]
    exact h i e
  · have e2 : i = ss.length := by simp at hi; omega
    subst e2
    rw [List.take_append_of_le_length (Nat.le_refl _), List.take_length]
    simpa using hs
theorem tag_of {G H : Stp → Prop} {res : Option (Nat × Nat)} {ok : Bool} {s : Stp} (h : (ok = true ∧ res = some s.lits ∧ G s) ∨ (ok = false ∧ res = none)) (f : res = some s.lits → G s → H s) : (ok = true ∧ res = some s.lits ∧ H s) ∨ (ok = false ∧ res = none) := by
  rcases h with ⟨h1, h2, h3⟩ | h
  · exact Or.inl ⟨h1, h2, f h2 h3⟩
  · exact Or.inr h

set_option maxRecDepth 100000 in
set_option maxHeartbeats 3200000 in
theorem readStep_any (b : Nat) (q : QS) (kind : Nat) (ss : List Stp) (vV vC vS : Value) (hd : List UInt8) (tl : List (List UInt8)) (g off cap : Nat) (w : World) (hP : PInv w b q kind ss vV vC vS) (hQ : QB q) (hS : SBs ss)
    (hs : StrsAt w (some ⟨g, off, none⟩) (hd :: tl)) (hl : tl.length ≤ 1048575) (hcap : tl.length + 1 ≤ cap) (hws : ∀ x ∈ tl, x.length ≤ 1048576) :
    Calls Tryz.prog 59 #[.pointer (some ⟨b, 0, none⟩), .slice (some ⟨g, off, none⟩) (tl.length + 1) cap] w fun e w' => StPost (TagM q kind ss (hd :: tl)) (stepQ q kind (litsL ss) hd tl) w e w' := by
  obtain ⟨g', off', cur, he, hg, hcur⟩ := hs (by simp)
  injection he with he
  injection he with e1 e2 e3
  subst e1 e2
  clear e3
  have hgw := blk_lt hg
  have hc0 : w.cell? ⟨g, off, none⟩ = some (S hd) := by rw [blk_cell hg]; exact hcur 0 (by simp)
  have hA0 : Below w.heap.size w (w.alloc (.cells #[.int .i64 0, .int .i64 0, .int .i64 0, .int .i64 0, .int .i64 0, .int .i64 0] 91)) := (Below.refl _ _).alloc (Nat.le_refl _) _
  have HST : Hid (∀ ao : Option Addr, (tl ≠ [] → ao = some ⟨g, off + 1, none⟩) → StrsAt (w.alloc (.cells #[.int .i64 0, .int .i64 0, .int .i64 0, .int .i64 0, .int .i64 0, .int .i64 0] 91)) ao tl) := hide (fun ao ho hne => ⟨g, off + 1, cur, ho hne, (hA0.block _ hgw).trans hg, fun j hj => by
    have h1 := hcur (1 + j) (by simp; omega)
    rw [← Nat.add_assoc] at h1
    rw [h1]
    simp [show 1 + j = j + 1 from by omega]⟩)
  have HWS := hide hws
  have hP0 := hP.later hA0
  have hr0 := heap_alloc_new w (.cells #[.int .i64 0, .int .i64 0, .int .i64 0, .int .i64 0, .int .i64 0, .int .i64 0] 91)
  have hne0 : (((tl.length + 1 : Nat) : Int) == 0) = false := by rw [beq_eq_false_iff_ne]; omega
  clear hcur hws hs
  by_cases ha : hd = [97]
  · subst ha
    have HR : Hid (stepQ q kind (litsL ss) [97] tl = axiomQ q kind tl) := hide rfl
    go_enter Tryz.func59, Tryz.ntmps59
    go_wp2_with fail
    all_goals
      refine (readAxiom_any b q kind ss vV vC vS tl _ _ _ hP0 hQ (unhide HST _ (fun hne => by first | rfl | (exfalso; apply hne; exact List.eq_nil_of_length_eq_zero (by omega)))) (by omega) (unhide HWS)).mono ?_
      rintro e w1 ⟨hb1, c, ok, rfl, hlt, hok⟩
      obtain ⟨sr, sf, ss2, sv, sl⟩ := c
      obtain ⟨p, n⟩ := sl
      have HOK := hide hok
      clear hok
      have hr1 := (hb1.block _ (blk_lt hr0)).trans hr0
      have hB1 : Below w.heap.size w w1 := hA0.trans (hb1.mono hA0.size)
      have r0 : w1.cell? ⟨w.heap.size, 0, none⟩ = some (.int .i64 0) := by rw [blk_cell hr1]; rfl
      have r1 : w1.cell? ⟨w.heap.size, 1, none⟩ = some (.int .i64 0) := by rw [blk_cell hr1]; rfl
      have r2 : w1.cell? ⟨w.heap.size, 2, none⟩ = some (.int .i64 0) := by rw [blk_cell hr1]; rfl
      have r3 : w1.cell? ⟨w.heap.size, 3, none⟩ = some (.int .i64 0) := by rw [blk_cell hr1]; rfl
      have r4 : w1.cell? ⟨w.heap.size, 4, none⟩ = some (.int .i64 0) := by rw [blk_cell hr1]; rfl
      have r5 : w1.cell? ⟨w.heap.size, 5, none⟩ = some (.int .i64 0) := by rw [blk_cell hr1]; rfl
      have z0 := blk_free hr1 0
      have z1 := blk_free hr1 1
      have z2 := blk_free hr1 2
      have z3 := blk_free hr1 3
      have z4 := blk_free hr1 4
      have z5 := blk_free hr1 5
      have hR := blk_set6 hr1 (.int .i64 (sr : Int)) (.int .i64 (sf : Int)) (.int .i64 (ss2 : Int)) (.int .i64 (sv : Int)) (.int .i64 (p : Int)) (.int .i64 (n : Int))
      have j0 := blk_cell hR 0
      have j1 := blk_cell hR 1
      have j2 := blk_cell hR 2
      have j3 := blk_cell hR 3
      have j4 := blk_cell hR 4
      have j5 := blk_cell hR 5
      go_wp2_with fail
      refine bodyPost_ret (v := .tuple #[StpV ⟨sr, sf, ss2, sv, (p, n)⟩, .bool ok]) (by simp [results, Tryz.results59, go_sem, j0, j1, j2, j3, j4, j5]) rfl ⟨?_, ⟨sr, sf, ss2, sv, (p, n)⟩, ok, rfl, hlt, by rw [unhide HR]; exact tag_of (unhide HOK) (fun h g => ⟨Or.inr ⟨g, tl, Or.inl h⟩, mark_other g (by decide)⟩)⟩
      exact below_set6 hB1 (Nat.le_refl _) _ _ _ _ _ _
  · have hab : (hd == [97]) = false := by simp [ha]
    by_cases hc : hd = [99]
    · subst hc
      clear ha hab
      have HR : Hid (stepQ q kind (litsL ss) [99] tl = cubeStepQ q kind tl) := hide rfl
      go_enter Tryz.func59, Tryz.ntmps59
      go_wp2_with fail
      all_goals
        refine (readCube_any b q kind ss vV vC vS tl _ _ _ hP0 hQ (unhide HST _ (fun hne => by first | rfl | (exfalso; apply hne; exact List.eq_nil_of_length_eq_zero (by omega)))) (by omega) (unhide HWS)).mono ?_
        rintro e w1 ⟨hb1, c, ok, rfl, hlt, hok⟩
        obtain ⟨sr, sf, ss2, sv, sl⟩ := c
        obtain ⟨p, n⟩ := sl
        have HOK := hide hok
        clear hok
        have hr1 := (hb1.block _ (blk_lt hr0)).trans hr0
        have hB1 : Below w.heap.size w w1 := hA0.trans (hb1.mono hA0.size)
        have r0 : w1.cell? ⟨w.heap.size, 0, none⟩ = some (.int .i64 0) := by rw [blk_cell hr1]; rfl
        have r1 : w1.cell? ⟨w.heap.size, 1, none⟩ = some (.int .i64 0) := by rw [blk_cell hr1]; rfl
        have r2 : w1.cell? ⟨w.heap.size, 2, none⟩ = some (.int .i64 0) := by rw [blk_cell hr1]; rfl
        have r3 : w1.cell? ⟨w.heap.size, 3, none⟩ = some (.int .i64 0) := by rw [blk_cell hr1]; rfl
        have r4 : w1.cell? ⟨w.heap.size, 4, none⟩ = some (.int .i64 0) := by rw [blk_cell hr1]; rfl
        have r5 : w1.cell? ⟨w.heap.size, 5, none⟩ = some (.int .i64 0) := by rw [blk_cell hr1]; rfl
        have z0 := blk_free hr1 0
        have z1 := blk_free hr1 1
        have z2 := blk_free hr1 2
        have z3 := blk_free hr1 3
        have z4 := blk_free hr1 4
        have z5 := blk_free hr1 5
        have hR := blk_set6 hr1 (.int .i64 (sr : Int)) (.int .i64 (sf : Int)) (.int .i64 (ss2 : Int)) (.int .i64 (sv : Int)) (.int .i64 (p : Int)) (.int .i64 (n : Int))
        have j0 := blk_cell hR 0
        have j1 := blk_cell hR 1
        have j2 := blk_cell hR 2
        have j3 := blk_cell hR 3
        have j4 := blk_cell hR 4
        have j5 := blk_cell hR 5
        go_wp2_with fail
        refine bodyPost_ret (v := .tuple #[StpV ⟨sr, sf, ss2, sv, (p, n)⟩, .bool ok]) (by simp [results, Tryz.results59, go_sem, j0, j1, j2, j3, j4, j5]) rfl ⟨?_, ⟨sr, sf, ss2, sv, (p, n)⟩, ok, rfl, hlt, by rw [unhide HR]; exact tag_of (unhide HOK) (fun h g => ⟨Or.inr ⟨g, tl, Or.inr (Or.inl h)⟩, mark_other g (by decide)⟩)⟩
        exact below_set6 hB1 (Nat.le_refl _) _ _ _ _ _ _
    · have hcb : (hd == [99]) = false := by simp [hc]
      by_cases hr : hd = [114]
      · subst hr
        clear ha hab hc hcb
        have HR : Hid (stepQ q kind (litsL ss) [114] tl = resQ q kind (litsL ss) tl) := hide rfl
        go_enter Tryz.func59, Tryz.ntmps59
        go_wp2_with fail
        all_goals
          refine (readResolvent_any b q kind ss vV vC vS tl _ _ _ hP0 hQ hS (unhide HST _ (fun hne => by first | rfl | (exfalso; apply hne; exact List.eq_nil_of_length_eq_zero (by omega)))) (by omega) (unhide HWS)).mono ?_
          rintro e w1 ⟨hb1, c, ok, rfl, hlt, hok⟩
          obtain ⟨sr, sf, ss2, sv, sl⟩ := c
          obtain ⟨p, n⟩ := sl
          have HOK := hide hok
          clear hok
          have hr1 := (hb1.block _ (blk_lt hr0)).trans hr0
          have hB1 : Below w.heap.size w w1 := hA0.trans (hb1.mono hA0.size)
          have r0 : w1.cell? ⟨w.heap.size, 0, none⟩ = some (.int .i64 0) := by rw [blk_cell hr1]; rfl
          have r1 : w1.cell? ⟨w.heap.size, 1, none⟩ = some (.int .i64 0) := by rw [blk_cell hr1]; rfl
          have r2 : w1.cell? ⟨w.heap.size, 2, none⟩ = some (.int .i64 0) := by rw [blk_cell hr1]; rfl
          have r3 : w1.cell? ⟨w.heap.size, 3, none⟩ = some (.int .i64 0) := by rw [blk_cell hr1]; rfl
          have r4 : w1.cell? ⟨w.heap.size, 4, none⟩ = some (.int .i64 0) := by rw [blk_cell hr1]; rfl
          have r5 : w1.cell? ⟨w.heap.size, 5, none⟩ = some (.int .i64 0) := by rw [blk_cell hr1]; rfl
          have z0 := blk_free hr1 0
          have z1 := blk_free hr1 1
          have z2 := blk_free hr1 2
          have z3 := blk_free hr1 3
          have z4 := blk_free hr1 4
          have z5 := blk_free hr1 5
          have hR := blk_set6 hr1 (.int .i64 (sr : Int)) (.int .i64 (sf : Int)) (.int .i64 (ss2 : Int)) (.int .i64 (sv : Int)) (.int .i64 (p : Int)) (.int .i64 (n : Int))
          have j0 := blk_cell hR 0
          have j1 := blk_cell hR 1
          have j2 := blk_cell hR 2
          have j3 := blk_cell hR 3
          have j4 := blk_cell hR 4
          have j5 := blk_cell hR 5
          go_wp2_with fail
          refine bodyPost_ret (v := .tuple #[StpV ⟨sr, sf, ss2, sv, (p, n)⟩, .bool ok]) (by simp [results, Tryz.results59, go_sem, j0, j1, j2, j3, j4, j5]) rfl ⟨?_, ⟨sr, sf, ss2, sv, (p, n)⟩, ok, rfl, hlt, by rw [unhide HR]; exact tag_of (unhide HOK) (fun h g => ⟨Or.inr ⟨g, tl, Or.inr (Or.inr h)⟩, mark_other g (by decide)⟩)⟩
          exact below_set6 hB1 (Nat.le_refl _) _ _ _ _ _ _
      · have hrb : (hd == [114]) = false := by simp [hr]
        by_cases hdd : hd = [100]
        · subst hdd
          clear ha hab hc hcb hr hrb
          have HR : Hid (stepQ q kind (litsL ss) [100] tl = reductQ q kind (litsL ss) tl) := hide rfl
          go_enter Tryz.func59, Tryz.ntmps59
          go_wp2_with fail
          all_goals
            refine (readReduct_any b q kind ss vV vC vS tl _ _ _ hP0 hQ hS (unhide HST _ (fun hne => by first | rfl | (exfalso; apply hne; exact List.eq_nil_of_length_eq_zero (by omega)))) (by omega) (unhide HWS)).mono ?_
            rintro e w1 ⟨hb1, c, ok, rfl, hlt, hok⟩
            obtain ⟨sr, sf, ss2, sv, sl⟩ := c
            obtain ⟨p, n⟩ := sl
            have HOK := hide hok
            clear hok
            have hr1 := (hb1.block _ (blk_lt hr0)).trans hr0
            have hB1 : Below w.heap.size w w1 := hA0.trans (hb1.mono hA0.size)
            have r0 : w1.cell? ⟨w.heap.size, 0, none⟩ = some (.int .i64 0) := by rw [blk_cell hr1]; rfl
            have r1 : w1.cell? ⟨w.heap.size, 1, none⟩ = some (.int .i64 0) := by rw [blk_cell hr1]; rfl
            have r2 : w1.cell? ⟨w.heap.size, 2, none⟩ = some (.int .i64 0) := by rw [blk_cell hr1]; rfl
            have r3 : w1.cell? ⟨w.heap.size, 3, none⟩ = some (.int .i64 0) := by rw [blk_cell hr1]; rfl
            have r4 : w1.cell? ⟨w.heap.size, 4, none⟩ = some (.int .i64 0) := by rw [blk_cell hr1]; rfl
            have r5 : w1.cell? ⟨w.heap.size, 5, none⟩ = some (.int .i64 0) := by rw [blk_cell hr1]; rfl
            have z0 := blk_free hr1 0
            have z1 := blk_free hr1 1
            have z2 := blk_free hr1 2
            have z3 := blk_free hr1 3
            have z4 := blk_free hr1 4
            have z5 := blk_free hr1 5
            have hR := blk_set6 hr1 (.int .i64 (sr : Int)) (.int .i64 (sf : Int)) (.int .i64 (ss2 : Int)) (.int .i64 (sv : Int)) (.int .i64 (p : Int)) (.int .i64 (n : Int))
            have j0 := blk_cell hR 0
            have j1 := blk_cell hR 1
            have j2 := blk_cell hR 2
            have j3 := blk_cell hR 3
            have j4 := blk_cell hR 4
            have j5 := blk_cell hR 5
            go_wp2_with fail
            refine bodyPost_ret (v := .tuple #[StpV ⟨sr, sf, ss2, sv, (p, n)⟩, .bool ok]) (by simp [results, Tryz.results59, go_sem, j0, j1, j2, j3, j4, j5]) rfl ⟨?_, ⟨sr, sf, ss2, sv, (p, n)⟩, ok, rfl, hlt, by rw [unhide HR]; exact tag_of (unhide HOK) (fun _ g => ⟨Or.inl g.1, mark_red g⟩)⟩
            exact below_set6 hB1 (Nat.le_refl _) _ _ _ _ _ _
        · have hdb : (hd == [100]) = false := by simp [hdd]
          have HR : Hid (stepQ q kind (litsL ss) hd tl = none) := hide (by unfold stepQ; rw [if_neg ha, if_neg hc, if_neg hr, if_neg hdd])
          clear ha hc hr hdd
          go_enter Tryz.func59, Tryz.ntmps59
          go_wp2_with fail
          all_goals
            refine bodyPost_ret (v := .tuple #[StpV S0, .bool false]) (by simp [results, Tryz.results59, go_sem]) rfl (StPost.none_ hA0 (unhide HR) S0 zero_lt9 rfl)

/-! ### closed, readKind -/
def closedQ (ss : List (Nat × Nat)) : Bool := match ss.getLast? with
  | none => false
  | some c => c.1 ||| c.2 == 0
theorem closed_lits (ss : List Stp) : closedQ (litsL ss) = (decide (0 < ss.length) && ((litsAt ss ss.length).1 ||| (litsAt ss ss.length).2 == 0)) := by
  unfold closedQ litsL
  by_cases h : ss = []
  · subst h; rfl
  · have hp : 0 < ss.length := List.length_pos_iff.2 h
    obtain ⟨m, hm⟩ : ∃ m, ss.length = m + 1 := ⟨ss.length - 1, by omega⟩
    have e1 : litsAt ss ss.length = (ss[m]'(by omega)).lits := by have h5 := litsAt_in ss m (by omega); rwa [← hm] at h5
    rw [List.getLast?_map, List.getLast?_eq_getElem?, show ss.length - 1 = m from by omega, List.getElem?_eq_getElem (by omega : m < ss.length), e1]
    simp [hp]
set_option maxRecDepth 100000 in
set_option maxHeartbeats 1600000 in
theorem closed_any (b : Nat) (q : QS) (kind : Nat) (ss : List Stp) (vV vC vS : Value) (w : World) (hP : PInv w b q kind ss vV vC vS) (hS : SBs ss) :
    Calls Tryz.prog 34 #[.pointer (some ⟨b, 0, none⟩)] w fun e w' => e = .returned (.bool (closedQ (litsL ss))) ∧ Below w.heap.size w w' := by
  obtain ⟨aS, cS, rfl⟩ := own_form hP.oS
  have hbw := blk_lt hP.fb
  have hsl := hS.len
  have HC := hide (closed_lits ss)
  have k3 : w.cell? ⟨b, 3, none⟩ = some (.slice aS ss.length cS) := by rw [blk_cell hP.fb]; rfl
  have hlt := litsAt_lt ss hS.bits ss.length
  go_enter Tryz.func34, Tryz.ntmps34
  go_wp2_with fail
  refine (plits_any (b + 1) b 2 ss _ ss.length _ k3 hP.oS (by omega)).mono ?_
  rintro e w1 ⟨rfl, hb1⟩
  generalize hea : litsAt ss ss.length = c at *
  clear hea
  obtain ⟨p, n⟩ := c
  dsimp only at hlt
  have hA : Below w.heap.size w (w1.alloc (.cells #[.int .i64 (p : Int), .int .i64 (n : Int)] 77)) := hb1.alloc hb1.size _
  have hv := heap_alloc_new w1 (.cells #[.int .i64 (p : Int), .int .i64 (n : Int)] 77)
  by_cases h0 : 0 < ss.length
  · have hd1 : decide (0 < ss.length) = true := by simpa using h0
    have hd2 : decide ((0 : Int) < (ss.length : Int)) = true := decide_eq_true (by omega)
    have HF : Hid (closedQ (litsL ss) = (p ||| n == 0)) := hide (by rw [unhide HC, hd1]; rfl)
    clear h0
    go_wp2_with fail
    generalize w1.alloc (.cells #[.int .i64 (p : Int), .int .i64 (n : Int)] 77) = w5 at *
    have v0 : w5.cell? ⟨w1.heap.size, 0, none⟩ = some (.int .i64 (p : Int)) := by rw [blk_cell hv]; rfl
    have v1 : w5.cell? ⟨w1.heap.size, 1, none⟩ = some (.int .i64 (n : Int)) := by rw [blk_cell hv]; rfl
    have lv := blk_lt hv
    refine (empty_any p n _ hlt.1 hlt.2).mono ?_
    rintro e w3 ⟨rfl, hb3⟩
    go_wp2_with fail
    go_ret
    exact ⟨ret_bool (unhide HF).symm, hA.trans (hb3.mono hA.size)⟩
  · have hd1 : decide (0 < ss.length) = false := by simpa using h0
    have hd2 : decide ((0 : Int) < (ss.length : Int)) = false := decide_eq_false (by omega)
    have HF : Hid (closedQ (litsL ss) = false) := hide (by rw [unhide HC, hd1]; rfl)
    clear h0
    go_wp2_with fail
    go_ret
    exact ⟨ret_bool (unhide HF).symm, hA⟩

def KindPost (b : Nat) (l : List UInt8) (w : World) (e : Ending) (w' : World) : Prop :=
  (l = sFalse ∧ e = .returned (.bool true) ∧ w' = w.setCell ⟨b, 2, none⟩ (.int .i64 1)) ∨ (l = sTrue ∧ e = .returned (.bool true) ∧ w' = w.setCell ⟨b, 2, none⟩ (.int .i64 2)) ∨ (l ≠ sTrue ∧ l ≠ sFalse ∧ e = .returned (.bool false) ∧ w' = w)
set_option maxRecDepth 100000 in
set_option maxHeartbeats 1600000 in
theorem readKind_any (b : Nat) (vV vC vS : Value) (kind : Nat) (l : List UInt8) (w : World) (hfb : w.heap[b]? = some (.cells #[vV, vC, .int .i64 kind, vS] 93 (0, 0))) :
    Calls Tryz.prog 58 #[.pointer (some ⟨b, 0, none⟩), .string ⟨l.toArray⟩] w fun e w' => KindPost b l w e w' := by
  have hbw := blk_lt hfb
  have k2 : w.cell? ⟨b, 2, none⟩ = some (.int .i64 kind) := by rw [blk_cell hfb]; rfl
  have z2 := blk_free hfb 2
  by_cases hf : l = sFalse
  · have HF := hide hf
    unfold sFalse at hf
    subst hf
    go_enter Tryz.func58, Tryz.ntmps58
    go_wp2_with fail
    go_ret
    exact Or.inl ⟨unhide HF, rfl, rfl⟩
  · by_cases ht : l = sTrue
    · have HT := hide ht
      clear hf
      unfold sTrue at ht
      subst ht
      go_enter Tryz.func58, Tryz.ntmps58
      go_wp2_with fail
      go_ret
      exact Or.inr (Or.inl ⟨unhide HT, rfl, rfl⟩)
    · have hfb1 : (l == [112, 114, 111, 111, 102, 32, 102, 97, 108, 115, 101]) = false := by rw [beq_eq_false_iff_ne]; exact hf
      have htb1 : (l == [112, 114, 111, 111, 102, 32, 116, 114, 117, 101]) = false := by rw [beq_eq_false_iff_ne]; exact ht
      have HT := hide ht
      have HF := hide hf
      clear hf ht
      go_enter Tryz.func58, Tryz.ntmps58
      go_wp2_with fail
      go_ret
      exact Or.inr (Or.inr ⟨unhide HT, unhide HF, rfl, rfl⟩)
end Go.Proofs.YtgipjjhkhfihpabGreatDoor
