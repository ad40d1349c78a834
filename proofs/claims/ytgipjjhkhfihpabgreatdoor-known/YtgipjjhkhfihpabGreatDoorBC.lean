import Derived.Test.YtgipjjhkhfihpabGreatDoorAK
import Derived.Test.YtgipjjhkhfihpabGreatDoorAL
import Derived.Test.YtgipjjhkhfihpabGreatDoorAC
namespace Go.Proofs.YtgipjjhkhfihpabGreatDoor
open Go.RowKit

def litsL (ss : List Stp) : List (Nat × Nat) := ss.map (·.lits)
/-- The reader of a proof, at block b: the formula's rows lie below b, the steps' row above it. -/
structure PInv (w : World) (b : Nat) (q : QS) (kind : Nat) (ss : List Stp) (vV vC vS : Value) : Prop where
  fb : w.heap[b]? = some (.cells #[vV, vC, .int .i64 kind, vS] 93 (0, 0))
  oV : w.ownsRow 0 109 2 vV q.vars.length (varCells q.vars)
  oC : w.ownsRow 0 77 2 vC q.cl.length (pairs q.cl)
  oS : w.ownsRow (b + 1) 91 6 vS ss.length (psCells ss)
  lV : ∀ k, vV.ownBlock = some k → k < b
  lC : ∀ k, vC.ownBlock = some k → k < b
theorem PInv.later {w w' : World} {b : Nat} {q : QS} {kind : Nat} {ss : List Stp} {vV vC vS : Value} (h : PInv w b q kind ss vV vC vS) (hb : Below w.heap.size w w') : PInv w' b q kind ss vV vC vS :=
  ⟨(hb.block b (blk_lt h.fb)).trans h.fb, own_below h.oV hb, own_below h.oC hb, own_below h.oS hb, h.lV, h.lC⟩
structure SBs (ss : List Stp) : Prop where
  len : ss.length ≤ 9000
  bits : ∀ s ∈ ss, s.lits.1 < 512 ∧ s.lits.2 < 512
def aheadQ (ss : List (Nat × Nat)) (w : List UInt8) : Option (Nat × Nat) := (numOf w ss.length).bind (fun n => ss[n - 1]?)
theorem numOf_range {l : List UInt8} {most n : Nat} (h : numOf l most = some n) : 1 ≤ n ∧ n ≤ most := by
  unfold numOf at h
  split at h
  · cases h
  · next hc =>
    simp only [not_or] at hc
    obtain ⟨h1, h2, h3, h4⟩ := hc
    simp at h
    subst h
    refine ⟨?_, by omega⟩
    match l, h1 with
    | c :: r, _ =>
      have h3' : (c :: r).all isDigit = true := by simpa using h3
      have hd : isDigit c = true := by simp at h3'; exact h3'.1
      have hd' : 48 ≤ c.toNat ∧ c.toNat ≤ 57 := of_decide_eq_true hd
      have hne : c.toNat ≠ 48 := fun e => h2 (by simp; apply UInt8.toNat_inj.1; exact e)
      have hm := dec_mono (c :: r) 1
      have : dec ((c :: r).take 1) = c.toNat - 48 := by simp [dec]
      omega
theorem ahead_lits (ss : List Stp) (l : List UInt8) : aheadQ (litsL ss) l = (numOf l ss.length).map (litsAt ss) := by
  unfold aheadQ litsL
  rw [List.length_map]
  cases hn : numOf l ss.length with
  | none => rfl
  | some n =>
    obtain ⟨h1, h2⟩ := numOf_range hn
    obtain ⟨m, rfl⟩ : ∃ m, n = m + 1 := ⟨n - 1, by omega⟩
    show (ss.map (·.lits))[m + 1 - 1]? = some (litsAt ss (m + 1))
    rw [litsAt_in ss m (by omega), Nat.add_sub_cancel, List.getElem?_map, List.getElem?_eq_getElem (by omega)]; rfl
/-- A step, or that it is none. -/
def StPost (G : Stp → Prop) (res : Option (Nat × Nat)) (w : World) (e : Ending) (w' : World) : Prop :=
  Below w.heap.size w w' ∧ ∃ (s : Stp) (ok : Bool), e = .returned (.tuple #[StpV s, .bool ok]) ∧ (s.lits.1 < 512 ∧ s.lits.2 < 512) ∧ ((ok = true ∧ res = some s.lits ∧ G s) ∨ (ok = false ∧ res = none))
abbrev S0 : Stp := ⟨0, 0, 0, 0, (0, 0)⟩
theorem StPost.none_ {G : Stp → Prop} {res : Option (Nat × Nat)} {w w' : World} {e : Ending} (hb : Below w.heap.size w w') (h : res = none) (s : Stp) (hc : s.lits.1 < 512 ∧ s.lits.2 < 512) (he : e = .returned (.tuple #[StpV s, .bool false])) : StPost G res w e w' :=
  ⟨hb, s, false, he, hc, Or.inr ⟨rfl, h⟩⟩
theorem StPost.some_ {G : Stp → Prop} {res : Option (Nat × Nat)} {w w' : World} {e : Ending} (hb : Below w.heap.size w w') (s : Stp) (h : res = some s.lits) (hc : s.lits.1 < 512 ∧ s.lits.2 < 512) (he : e = .returned (.tuple #[StpV s, .bool true])) (hg : G s) : StPost G res w e w' :=
  ⟨hb, s, true, he, hc, Or.inl ⟨rfl, h, hg⟩⟩
/-- A step that reduces, and which; one that doesn't. -/
def RedTag (q : QS) (kind : Nat) (ss : List Stp) (s : Stp) : Prop := s.rule = 4 ∧ (1 ≤ s.first ∧ s.first ≤ ss.length) ∧ s.lits = redQ kind q.vars.reverse (litsAt ss s.first)
def NotRed (s : Stp) : Prop := s.rule ≠ 4
/-- Which step a step reduces, by the step and by its line's words. -/
def stMark (s : Stp) : Option Nat := if s.rule = 4 then some s.first else none
def markOf (n : Nat) (ws : List (List UInt8)) : Option Nat := match ws with
  | [h, x] => if h = [100] then numOf x n else none
  | _ => none
theorem mark_other {s : Stp} {n : Nat} {hd : List UInt8} {tl : List (List UInt8)} (g : s.rule ≠ 4) (h : hd ≠ [100]) : stMark s = markOf n (hd :: tl) := by
  unfold stMark markOf
  rw [if_neg g]
  split
  · next h1 =>
    injection h1 with h1 _
    subst h1
    rw [if_neg h]
  · rfl
def RedTagW (q : QS) (kind : Nat) (ss : List Stp) (ws : List (List UInt8)) (s : Stp) : Prop := RedTag q kind ss s ∧ ∃ x, ws = [x] ∧ numOf x ss.length = some s.first
theorem mark_red {q : QS} {kind : Nat} {ss : List Stp} {ws : List (List UInt8)} {s : Stp} (h : RedTagW q kind ss ws s) : stMark s = markOf ss.length ([100] :: ws) := by
  obtain ⟨⟨h1, _⟩, x, rfl, hx⟩ := h
  unfold stMark markOf
  rw [if_pos h1]
  dsimp only
  rw [if_pos rfl, hx]
theorem zero_lt9 : ((0 : Nat), (0 : Nat)).1 < 512 ∧ ((0 : Nat), (0 : Nat)).2 < 512 := by decide
theorem blk_set6 {w : World} {b : Nat} {a0 a1 a2 a3 a4 a5 : Value} {t : TypeId} (h : w.heap[b]? = some (.cells #[a0, a1, a2, a3, a4, a5] t (0, 0))) (v0 v1 v2 v3 v4 v5 : Value) :
    ((((((w.setCell ⟨b, 0, none⟩ v0).setCell ⟨b, 1, none⟩ v1).setCell ⟨b, 2, none⟩ v2).setCell ⟨b, 3, none⟩ v3).setCell ⟨b, 4, none⟩ v4).setCell ⟨b, 5, none⟩ v5).heap[b]? = some (.cells #[v0, v1, v2, v3, v4, v5] t (0, 0)) :=
  blk_set (blk_set (blk_set (blk_set (blk_set (blk_set h 0 v0) 1 v1) 2 v2) 3 v3) 4 v4) 5 v5
theorem below_set6 {B : Nat} {a w : World} (h : Below B a w) {b : Nat} (hb : B ≤ b) (v0 v1 v2 v3 v4 v5 : Value) :
    Below B a ((((((w.setCell ⟨b, 0, none⟩ v0).setCell ⟨b, 1, none⟩ v1).setCell ⟨b, 2, none⟩ v2).setCell ⟨b, 3, none⟩ v3).setCell ⟨b, 4, none⟩ v4).setCell ⟨b, 5, none⟩ v5) :=
  (((((h.setCell (p := ⟨b, 0, none⟩) hb v0).setCell (p := ⟨b, 1, none⟩) hb v1).setCell (p := ⟨b, 2, none⟩) hb v2).setCell (p := ⟨b, 3, none⟩) hb v3).setCell (p := ⟨b, 4, none⟩) hb v4).setCell (p := ⟨b, 5, none⟩) hb v5

set_option maxRecDepth 100000 in
set_option maxHeartbeats 800000 in
theorem readNumber_any (b : Nat) (q : QS) (kind : Nat) (ss : List Stp) (vV vC vS : Value) (l : List UInt8) (w : World) (hP : PInv w b q kind ss vV vC vS) (hS : SBs ss) (hl : l.length ≤ 1048576) :
    Calls Tryz.prog 103 #[.pointer (some ⟨b, 0, none⟩), .string ⟨l.toArray⟩] w fun e w' => e = .returned (.tuple #[.int .i64 ((numOf l ss.length).getD 0 : Nat), .bool (numOf l ss.length).isSome]) ∧ w' = w := by
  obtain ⟨aS, cS, rfl⟩ := own_form hP.oS
  have hbw := blk_lt hP.fb
  have hsl := hS.len
  have k3 : w.cell? ⟨b, 3, none⟩ = some (.slice aS ss.length cS) := by rw [blk_cell hP.fb]; rfl
  go_enter Tryz.func103, Tryz.ntmps103
  go_wp2_with fail
  refine (number_any l ss.length _ hl (by omega)).mono ?_
  rintro e w1 ⟨hw1, rfl⟩
  subst hw1
  go_wp2_with fail
  go_ret2
  exact ⟨rfl, rfl⟩

def reductQ (q : QS) (kind : Nat) (ss : List (Nat × Nat)) (ws : List (List UInt8)) : Option (Nat × Nat) :=
  match ws with
  | [x] => (aheadQ ss x).map (redQ kind q.vars.reverse)
  | _ => none

set_option maxRecDepth 100000 in
set_option maxHeartbeats 1600000 in
theorem readReduct_any (b : Nat) (q : QS) (kind : Nat) (ss : List Stp) (vV vC vS : Value) (ws : List (List UInt8)) (ao : Option Addr) (cap : Nat) (w : World) (hP : PInv w b q kind ss vV vC vS) (hQ : QB q) (hS : SBs ss)
    (hs : StrsAt w ao ws) (hl : ws.length ≤ 1048576) (hws : ∀ x ∈ ws, x.length ≤ 1048576) :
    Calls Tryz.prog 88 #[.pointer (some ⟨b, 0, none⟩), .slice ao ws.length cap] w fun e w' => StPost (RedTagW q kind ss ws) (reductQ q kind (litsL ss) ws) w e w' := by
  by_cases h1 : ws.length = 1
  · obtain ⟨x, rfl⟩ := List.length_eq_one_iff.1 h1
    clear h1
    obtain ⟨g, off, cur, rfl, hg, hcur⟩ := hs (by simp)
    have hxc : w.cell? ⟨g, off, none⟩ = some (S x) := by rw [blk_cell hg]; exact hcur 0 (by simp)
    have hgw := blk_lt hg
    have hxl := hws x (by simp)
    clear hcur hws
    obtain ⟨aV, cV, hVf⟩ := own_form hP.oV
    obtain ⟨aC, cC, hCf⟩ := own_form hP.oC
    have HR : Hid (reductQ q kind (litsL ss) [x] = ((numOf x ss.length).map (litsAt ss)).map (redQ kind q.vars.reverse)) := hide (by show (aheadQ (litsL ss) x).map _ = _; rw [ahead_lits])
    go_enter Tryz.func88, Tryz.ntmps88
    go_wp2_with fail
    generalize hw0 : (w.alloc (.cells #[.int .i64 0, .int .i64 0, .int .i64 0, .int .i64 0, .int .i64 0, .int .i64 0] 91)) = u1
    have hB : Below w.heap.size w u1 := by rw [← hw0]; exact (Below.refl _ _).alloc (Nat.le_refl _) _
    have hrs : u1.heap[w.heap.size]? = some (.cells #[.int .i64 0, .int .i64 0, .int .i64 0, .int .i64 0, .int .i64 0, .int .i64 0] 91 (0, 0)) := by rw [← hw0]; exact alloc_new_at (by simp)
    clear hw0
    have crs0 : u1.cell? ⟨w.heap.size, 0, none⟩ = some (.int .i64 0) := by rw [blk_cell hrs]; rfl
    have crs1 : u1.cell? ⟨w.heap.size, 1, none⟩ = some (.int .i64 0) := by rw [blk_cell hrs]; rfl
    have crs2 : u1.cell? ⟨w.heap.size, 2, none⟩ = some (.int .i64 0) := by rw [blk_cell hrs]; rfl
    have crs3 : u1.cell? ⟨w.heap.size, 3, none⟩ = some (.int .i64 0) := by rw [blk_cell hrs]; rfl
    have crs4 : u1.cell? ⟨w.heap.size, 4, none⟩ = some (.int .i64 0) := by rw [blk_cell hrs]; rfl
    have crs5 : u1.cell? ⟨w.heap.size, 5, none⟩ = some (.int .i64 0) := by rw [blk_cell hrs]; rfl
    have lrs := blk_lt hrs
    have hP1 := hP.later hB
    refine (readNumber_any b q kind ss vV vC vS x _ hP1 hS hxl).mono ?_
    rintro e w2 ⟨rfl, hw2⟩
    subst hw2
    have hnb : (numOf x ss.length).getD 0 ≤ 9000 := by
      cases hn : numOf x ss.length with
      | none => simp
      | some n => have := numOf_range hn; have := hS.len; simp; omega
    have HC : Hid ((numOf x ss.length).isSome = true → numOf x ss.length = some ((numOf x ss.length).getD 0)) := hide (by
      cases numOf x ss.length with
      | none => intro h; cases h
      | some c => intro _; rfl)
    have HN : Hid ((numOf x ss.length).isSome = false → numOf x ss.length = none) := hide (by
      cases numOf x ss.length with
      | none => intro _; rfl
      | some c => intro h; cases h)
    generalize (numOf x ss.length).getD 0 = i at *
    generalize (numOf x ss.length).isSome = ok at *
    have hla := litsAt_lt ss hS.bits i
    have c3 : w2.cell? ⟨b, 3, none⟩ = some vS := by rw [blk_cell hP1.fb]; rfl
    have hsl := hS.len
    go_wp2_with fail
    refine (plits_any (b + 1) b 2 ss vS i _ c3 hP1.oS (by omega)).mono ?_
    rintro e u2 ⟨rfl, b2⟩
    replace hB := hB.trans (b2.mono hB.size)
    replace hrs := (b2.block _ (blk_lt hrs)).trans hrs
    replace crs0 : u2.cell? ⟨w.heap.size, 0, none⟩ = some (.int .i64 0) := by rw [blk_cell hrs]; rfl
    replace crs1 : u2.cell? ⟨w.heap.size, 1, none⟩ = some (.int .i64 0) := by rw [blk_cell hrs]; rfl
    replace crs2 : u2.cell? ⟨w.heap.size, 2, none⟩ = some (.int .i64 0) := by rw [blk_cell hrs]; rfl
    replace crs3 : u2.cell? ⟨w.heap.size, 3, none⟩ = some (.int .i64 0) := by rw [blk_cell hrs]; rfl
    replace crs4 : u2.cell? ⟨w.heap.size, 4, none⟩ = some (.int .i64 0) := by rw [blk_cell hrs]; rfl
    replace crs5 : u2.cell? ⟨w.heap.size, 5, none⟩ = some (.int .i64 0) := by rw [blk_cell hrs]; rfl
    replace lrs := blk_lt hrs
    replace hP1 := hP1.later b2
    have HL : Hid (∀ ok', ok' = ok → ok' = true → reductQ q kind (litsL ss) [x] = some (redQ kind q.vars.reverse (litsAt ss i))) := hide (fun ok' e h => by rw [unhide HR, unhide HC (by rw [← e]; exact h)]; rfl)
    have HLN : Hid (∀ ok', ok' = ok → ok' = false → reductQ q kind (litsL ss) [x] = none) := hide (fun ok' e h => by rw [unhide HR, unhide HN (by rw [← e]; exact h)]; rfl)
    have HT : Hid (∀ ok', ok' = ok → ok' = true → RedTagW q kind ss [x] ⟨4, i, 0, 0, redQ kind q.vars.reverse (litsAt ss i)⟩) := hide (fun ok' e h => ⟨⟨rfl, numOf_range (unhide HC (by rw [← e]; exact h)), rfl⟩, x, rfl, unhide HC (by rw [← e]; exact h)⟩)
    generalize hea : litsAt ss i = c at *
    clear hea
    obtain ⟨p, n⟩ := c
    go_wp2_with fail
    generalize hw0 : u2.alloc (.cells #[.int .i64 (p : Int), .int .i64 (n : Int)] 77) = u3
    have b3 : Below u2.heap.size u2 u3 := by rw [← hw0]; exact (Below.refl _ _).alloc (Nat.le_refl _) _
    have hwh : u3.heap[u2.heap.size]? = some (.cells #[.int .i64 (p : Int), .int .i64 (n : Int)] 77 (0, 0)) := by rw [← hw0]; exact heap_alloc_new _ _
    clear hw0
    replace hB := hB.trans (b3.mono hB.size)
    replace hrs := (b3.block _ (blk_lt hrs)).trans hrs
    replace crs0 : u3.cell? ⟨w.heap.size, 0, none⟩ = some (.int .i64 0) := by rw [blk_cell hrs]; rfl
    replace crs1 : u3.cell? ⟨w.heap.size, 1, none⟩ = some (.int .i64 0) := by rw [blk_cell hrs]; rfl
    replace crs2 : u3.cell? ⟨w.heap.size, 2, none⟩ = some (.int .i64 0) := by rw [blk_cell hrs]; rfl
    replace crs3 : u3.cell? ⟨w.heap.size, 3, none⟩ = some (.int .i64 0) := by rw [blk_cell hrs]; rfl
    replace crs4 : u3.cell? ⟨w.heap.size, 4, none⟩ = some (.int .i64 0) := by rw [blk_cell hrs]; rfl
    replace crs5 : u3.cell? ⟨w.heap.size, 5, none⟩ = some (.int .i64 0) := by rw [blk_cell hrs]; rfl
    replace lrs := blk_lt hrs
    replace hP1 := hP1.later b3
    have cwh0 : u3.cell? ⟨u2.heap.size, 0, none⟩ = some (.int .i64 (p : Int)) := by rw [blk_cell hwh]; rfl
    have cwh1 : u3.cell? ⟨u2.heap.size, 1, none⟩ = some (.int .i64 (n : Int)) := by rw [blk_cell hwh]; rfl
    have lwh := blk_lt hwh
    have q0 : u3.cell? ⟨b, 0, none⟩ = some (.slice aV q.vars.length cV) := by rw [blk_cell hP1.fb]; exact congrArg some hVf
    have q1 : u3.cell? ⟨b, 1, none⟩ = some (.slice aC q.cl.length cC) := by rw [blk_cell hP1.fb]; exact congrArg some hCf
    have hoV : u3.ownsRow 0 109 2 (.slice aV q.vars.length cV) q.vars.length (varCells q.vars) := by rw [← hVf]; exact hP1.oV
    have hb1 := blk_lt hP1.fb
    have hu9 : Below u3.heap.size u3 u3.drew := (Below.refl _ u3).drew
    have hlr := redQ_lt kind q.vars.reverse (p, n) hla
    go_region_with (go_at_call 105; refine (preduced_any 0 b 2 q kind _ (.slice aC q.cl.length cC) (p, n) _ (by rw [blk_cell (hP1.later hu9).fb]; rfl) (own_below hoV hu9) hQ hla ⟨_, _, _, rfl⟩).mono ?_; rintro e w9 ⟨rfl, hb9⟩; have hB9 : Below w.heap.size w w9 := hB.drew.trans (hb9.mono hB.size); have hr9 := (hb9.block _ (blk_lt hrs)).trans hrs; have r90 : w9.cell? ⟨w.heap.size, 0, none⟩ = some (.int .i64 0) := (by rw [blk_cell hr9]; rfl); have r91 : w9.cell? ⟨w.heap.size, 1, none⟩ = some (.int .i64 0) := (by rw [blk_cell hr9]; rfl); have r92 : w9.cell? ⟨w.heap.size, 2, none⟩ = some (.int .i64 0) := (by rw [blk_cell hr9]; rfl); have r93 : w9.cell? ⟨w.heap.size, 3, none⟩ = some (.int .i64 0) := (by rw [blk_cell hr9]; rfl); have r94 : w9.cell? ⟨w.heap.size, 4, none⟩ = some (.int .i64 0) := (by rw [blk_cell hr9]; rfl); have r95 : w9.cell? ⟨w.heap.size, 5, none⟩ = some (.int .i64 0) := (by rw [blk_cell hr9]; rfl); have z90 := blk_free hr9 0; have z91 := blk_free hr9 1; have z92 := blk_free hr9 2; have z93 := blk_free hr9 3; have z94 := blk_free hr9 4; have z95 := blk_free hr9 5; have l9 := blk_lt hr9)
    all_goals
      generalize hea : redQ kind q.vars.reverse (p, n) = c at *
      clear hea
      obtain ⟨d1, d2⟩ := c
      have hR := blk_set6 hr9 (.int .i64 4) (.int .i64 (i : Int)) (.int .i64 0) (.int .i64 0) (.int .i64 (d1 : Int)) (.int .i64 (d2 : Int))
      have j0 := blk_cell hR 0
      have j1 := blk_cell hR 1
      have j2 := blk_cell hR 2
      have j3 := blk_cell hR 3
      have j4 := blk_cell hR 4
      have j5 := blk_cell hR 5
      cases ok with
      | true =>
        have HF := hide (unhide HL true rfl rfl)
        have HG := hide (unhide HT true rfl rfl)
        clear HL HLN HC HN HT
        go_wp2_with fail
        refine bodyPost_ret (v := .tuple #[StpV ⟨4, i, 0, 0, (d1, d2)⟩, .bool true]) (by simp [results, Tryz.results88, go_sem, j0, j1, j2, j3, j4, j5]) rfl (StPost.some_ ?_ ⟨4, i, 0, 0, (d1, d2)⟩ (unhide HF) hlr rfl (unhide HG))
        exact below_set6 hB9 (Nat.le_refl _) _ _ _ _ _ _
      | false =>
        have HF := hide (unhide HLN false rfl rfl)
        clear HL HLN HC HN HT
        go_wp2_with fail
        refine bodyPost_ret (v := .tuple #[StpV ⟨4, i, 0, 0, (d1, d2)⟩, .bool false]) (by simp [results, Tryz.results88, go_sem, j0, j1, j2, j3, j4, j5]) rfl (StPost.none_ ?_ (unhide HF) ⟨4, i, 0, 0, (d1, d2)⟩ hlr rfl)
        exact below_set6 hB9 (Nat.le_refl _) _ _ _ _ _ _
  · have HR : Hid (reductQ q kind (litsL ss) ws = none) := hide (by
      unfold reductQ; split
      · simp at h1
      · rfl)
    have hb1 : ((ws.length : Int) != 1) = true := by rw [bne_iff_ne]; omega
    clear h1
    go_enter Tryz.func88, Tryz.ntmps88
    go_wp2_with fail
    refine bodyPost_ret (v := .tuple #[StpV S0, .bool false]) (by simp [results, Tryz.results88, go_sem]) rfl (StPost.none_ ?_ (unhide HR) S0 zero_lt9 rfl)
    exact (Below.refl _ _).alloc (Nat.le_refl _) _
end Go.Proofs.YtgipjjhkhfihpabGreatDoor

namespace Go.Proofs.YtgipjjhkhfihpabGreatDoor
open Go.RowKit

theorem number_same (l : List UInt8) (most : Nat) (w : World) (hl : l.length ≤ 1048576) (hm : most ≤ 1048576) :
    Calls Tryz.prog 92 #[.string ⟨l.toArray⟩, .int .i64 most] w fun e w' => e = .returned (.tuple #[.int .i64 ((numOf l most).getD 0 : Nat), .bool (numOf l most).isSome]) ∧ w' = w :=
  (number_any l most w hl hm).mono fun _ _ h => ⟨h.2, h.1⟩
def axiomQ (q : QS) (kind : Nat) (ws : List (List UInt8)) : Option (Nat × Nat) :=
  if kind = 1 then
    match ws with
    | [x] => (numOf x q.cl.length).bind (fun k => (q.cl[k - 1]?).bind (fun c => if c.1 &&& c.2 != 0 then none else some c))
    | _ => none
  else none

set_option maxRecDepth 100000 in
set_option maxHeartbeats 1600000 in
theorem readAxiom_any (b : Nat) (q : QS) (kind : Nat) (ss : List Stp) (vV vC vS : Value) (ws : List (List UInt8)) (ao : Option Addr) (cap : Nat) (w : World) (hP : PInv w b q kind ss vV vC vS) (hQ : QB q)
    (hs : StrsAt w ao ws) (hl : ws.length ≤ 1048576) (hws : ∀ x ∈ ws, x.length ≤ 1048576) :
    Calls Tryz.prog 85 #[.pointer (some ⟨b, 0, none⟩), .slice ao ws.length cap] w fun e w' => StPost NotRed (axiomQ q kind ws) w e w' := by
  have hbw := blk_lt hP.fb
  have k2 : w.cell? ⟨b, 2, none⟩ = some (.int .i64 kind) := by rw [blk_cell hP.fb]; rfl
  have hcl := hQ.cl
  by_cases hk : kind = 1
  · have hkb : ((kind : Int) != 1) = false := by rw [bne_eq_false_iff_eq]; omega
    by_cases h1 : ws.length = 1
    · obtain ⟨x, rfl⟩ := List.length_eq_one_iff.1 h1
      clear h1
      have HR : Hid (axiomQ q kind [x] = (numOf x q.cl.length).bind (fun k => (q.cl[k - 1]?).bind (fun c => if c.1 &&& c.2 != 0 then none else some c))) := hide (by unfold axiomQ; rw [if_pos hk])
      clear hk
      obtain ⟨g, off, cur, rfl, hg, hcur⟩ := hs (by simp)
      have hxc : w.cell? ⟨g, off, none⟩ = some (S x) := by rw [blk_cell hg]; exact hcur 0 (by simp)
      have hgw := blk_lt hg
      have hxl := hws x (by simp)
      clear hcur hws
      obtain ⟨aC, cC, rfl⟩ := own_form hP.oC
      have k1 : w.cell? ⟨b, 1, none⟩ = some (.slice aC q.cl.length cC) := by rw [blk_cell hP.fb]; rfl
      have hrs := heap_alloc_new w (.cells #[.int .i64 0, .int .i64 0, .int .i64 0, .int .i64 0, .int .i64 0, .int .i64 0] 91)
      have hA0 : Below w.heap.size w (w.alloc (.cells #[.int .i64 0, .int .i64 0, .int .i64 0, .int .i64 0, .int .i64 0, .int .i64 0] 91)) := (Below.refl _ _).alloc (Nat.le_refl _) _
      go_enter Tryz.func85, Tryz.ntmps85
      go_wp2_with fail
      go_quiet ((go_at_call 92; exact Calls.quiet_of_same (number_same x q.cl.length _ hxl (by omega))))
      cases hn : numOf x q.cl.length with
      | none =>
        have HF : Hid (axiomQ q kind [x] = none) := hide (by rw [unhide HR, hn]; rfl)
        go_wp2_with fail
        refine bodyPost_ret (v := .tuple #[StpV S0, .bool false]) (by simp [results, Tryz.results85, go_sem]) rfl (StPost.none_ ?_ (unhide HF) S0 zero_lt9 rfl)
        exact below_set6 (below_drewN hA0 nq) (Nat.le_refl _) _ _ _ _ _ _
      | some n =>
        obtain ⟨hn1, hn2⟩ := numOf_range hn
        obtain ⟨m, rfl⟩ : ∃ m, n = m + 1 := ⟨n - 1, by omega⟩
        have hm : m < q.cl.length := by omega
        have HF : Hid (axiomQ q kind [x] = if q.cl[m].1 &&& q.cl[m].2 != 0 then none else some q.cl[m]) := hide (by rw [unhide HR, hn]; simp [hm])
        obtain ⟨g2, cap2, hVe, hg2, hg2', _, hcell⟩ := own_pos hP.oC (by omega)
        injection hVe with hVe _ hV2
        subst hVe hV2
        obtain ⟨ha, hb'⟩ := pairs_at q.cl m hm
        have hx0 : w.cell? ⟨g2, m * 2, none⟩ = some (.int .i64 (q.cl[m].1 : Int)) := hcell _ _ ha
        have hx1 : w.cell? ⟨g2, m * 2 + 1, none⟩ = some (.int .i64 (q.cl[m].2 : Int)) := hcell _ _ hb'
        have hlt := hQ.bits _ (List.getElem_mem hm)
        clear hcell ha hb' hn
        generalize q.cl[m] = c at *
        obtain ⟨p, n⟩ := c
        dsimp only at *
        go_wp2_with fail
        have hz1 : (((w.alloc (.cells #[.int .i64 0, .int .i64 0, .int .i64 0, .int .i64 0, .int .i64 0, .int .i64 0] 91)).drewN nq).alloc (.cells #[.int .i64 (p : Int), .int .i64 (n : Int)] 77)).heap[w.heap.size]? = some (.cells #[.int .i64 0, .int .i64 0, .int .i64 0, .int .i64 0, .int .i64 0, .int .i64 0] 91 (0, 0)) := by
          rw [heap_alloc_old _ _ (by rw [World.heap_drewN]; simp), World.heap_drewN]; exact hrs
        have hz2 : (((w.alloc (.cells #[.int .i64 0, .int .i64 0, .int .i64 0, .int .i64 0, .int .i64 0, .int .i64 0] 91)).drewN nq).alloc (.cells #[.int .i64 (p : Int), .int .i64 (n : Int)] 77)).heap[w.heap.size + 1]? = some (.cells #[.int .i64 (p : Int), .int .i64 (n : Int)] 77 (0, 0)) := alloc_new_at (by rw [World.heap_drewN]; simp)
        have hz3 : Below w.heap.size w (((w.alloc (.cells #[.int .i64 0, .int .i64 0, .int .i64 0, .int .i64 0, .int .i64 0, .int .i64 0] 91)).drewN nq).alloc (.cells #[.int .i64 (p : Int), .int .i64 (n : Int)] 77)) := (below_drewN hA0 nq).alloc (by rw [World.heap_drewN]; simp) _
        generalize (((w.alloc (.cells #[.int .i64 0, .int .i64 0, .int .i64 0, .int .i64 0, .int .i64 0, .int .i64 0] 91)).drewN nq).alloc (.cells #[.int .i64 (p : Int), .int .i64 (n : Int)] 77)) = wz at *
        have i0 : wz.cell? ⟨w.heap.size + 1, 0, none⟩ = some (.int .i64 p) := by rw [blk_cell hz2]; rfl
        have i1 : wz.cell? ⟨w.heap.size + 1, 1, none⟩ = some (.int .i64 n) := by rw [blk_cell hz2]; rfl
        go_region_with (go_at_call 100; refine (clashes_any p n _ hlt.1 hlt.2).mono ?_; rintro e w1 ⟨rfl, hb1⟩; have hy1 := (hb1.block _ (blk_lt hz1)).trans hz1; have hy2 := (hb1.block _ (blk_lt hz2)).trans hz2; have r90 : w1.cell? ⟨w.heap.size, 0, none⟩ = some (.int .i64 0) := (by rw [blk_cell hy1]; rfl); have r91 : w1.cell? ⟨w.heap.size, 1, none⟩ = some (.int .i64 0) := (by rw [blk_cell hy1]; rfl); have r92 : w1.cell? ⟨w.heap.size, 2, none⟩ = some (.int .i64 0) := (by rw [blk_cell hy1]; rfl); have r93 : w1.cell? ⟨w.heap.size, 3, none⟩ = some (.int .i64 0) := (by rw [blk_cell hy1]; rfl); have r94 : w1.cell? ⟨w.heap.size, 4, none⟩ = some (.int .i64 0) := (by rw [blk_cell hy1]; rfl); have r95 : w1.cell? ⟨w.heap.size, 5, none⟩ = some (.int .i64 0) := (by rw [blk_cell hy1]; rfl); have z90 := blk_free hy1 0; have z91 := blk_free hy1 1; have z92 := blk_free hy1 2; have z93 := blk_free hy1 3; have z94 := blk_free hy1 4; have z95 := blk_free hy1 5; have l9 := blk_lt hy1; have l0 : w1.cell? ⟨w.heap.size + 1, 0, none⟩ = some (.int .i64 p) := (by rw [blk_cell hy2]; rfl); have l1 : w1.cell? ⟨w.heap.size + 1, 1, none⟩ = some (.int .i64 n) := (by rw [blk_cell hy2]; rfl); have hbz : Below w.heap.size w w1 := hz3.drew.trans (hb1.mono hz3.size))
        all_goals go_wp2_with fail
        all_goals
          have hR := blk_set6 hy1 (.int .i64 1) (.int .i64 ((m : Int) + 1)) (.int .i64 0) (.int .i64 0) (.int .i64 (p : Int)) (.int .i64 (n : Int))
          have j0 := blk_cell hR 0
          have j1 := blk_cell hR 1
          have j2 := blk_cell hR 2
          have j3 := blk_cell hR 3
          have j4 := blk_cell hR 4
          have j5 := blk_cell hR 5
          refine bodyPost_ret (v := .tuple #[StpV ⟨1, m + 1, 0, 0, (p, n)⟩, .bool (!(p &&& n != 0))]) (by simp [results, Tryz.results85, go_sem, j0, j1, j2, j3, j4, j5]) rfl ?_
          have hB := below_set6 hbz (Nat.le_refl w.heap.size) (.int .i64 1) (.int .i64 ((m : Int) + 1)) (.int .i64 0) (.int .i64 0) (.int .i64 (p : Int)) (.int .i64 (n : Int))
          cases hcl : (p &&& n != 0) with
          | true => exact StPost.none_ hB (by rw [unhide HF, hcl]; rfl) ⟨1, m + 1, 0, 0, (p, n)⟩ hlt rfl
          | false => exact StPost.some_ hB ⟨1, m + 1, 0, 0, (p, n)⟩ (by rw [unhide HF, hcl]; rfl) hlt rfl (show (1 : Nat) ≠ 4 by decide)
    · have HR : Hid (axiomQ q kind ws = none) := hide (by
        unfold axiomQ; rw [if_pos hk]; split
        · simp at h1
        · rfl)
      have hb1 : ((ws.length : Int) != 1) = true := by rw [bne_iff_ne]; omega
      clear h1 hk
      go_enter Tryz.func85, Tryz.ntmps85
      go_wp2_with fail
      refine bodyPost_ret (v := .tuple #[StpV S0, .bool false]) (by simp [results, Tryz.results85, go_sem]) rfl (StPost.none_ ?_ (unhide HR) S0 zero_lt9 rfl)
      exact (Below.refl _ _).alloc (Nat.le_refl _) _
  · have HR : Hid (axiomQ q kind ws = none) := hide (by unfold axiomQ; rw [if_neg hk])
    have hb1 : ((kind : Int) != 1) = true := by rw [bne_iff_ne]; omega
    clear hk
    go_enter Tryz.func85, Tryz.ntmps85
    go_wp2_with fail
    refine bodyPost_ret (v := .tuple #[StpV S0, .bool false]) (by simp [results, Tryz.results85, go_sem]) rfl (StPost.none_ ?_ (unhide HR) S0 zero_lt9 rfl)
    exact (Below.refl _ _).alloc (Nat.le_refl _) _

/-! ### readPivot -/
def pivQ (q : QS) (kind : Nat) (l : List UInt8) : Option Nat :=
  if 0 < dig l then (findV q.vars (dig l).toNat).bind (fun x => if pivotB kind x.2 then some (dig l).toNat else none) else none
def PivPost (res : Option Nat) (w : World) (e : Ending) (w' : World) : Prop :=
  Below w.heap.size w w' ∧ ∃ (n : Nat) (ok : Bool), e = .returned (.tuple #[.int .i64 n, .bool ok]) ∧ n ≤ 8 ∧ ((ok = true ∧ res = some n ∧ 1 ≤ n) ∨ (ok = false ∧ res = none))

set_option maxRecDepth 100000 in
set_option maxHeartbeats 1600000 in
theorem readPivot_any (b : Nat) (q : QS) (kind : Nat) (ss : List Stp) (vV vC vS : Value) (l : List UInt8) (w : World) (hP : PInv w b q kind ss vV vC vS) (hQ : QB q) (hl : l.length ≤ 1048576) :
    Calls Tryz.prog 104 #[.pointer (some ⟨b, 0, none⟩), .string ⟨l.toArray⟩] w fun e w' => PivPost (pivQ q kind l) w e w' := by
  have hbw := blk_lt hP.fb
  have hvl := hQ.vl
  have k0 : w.cell? ⟨b, 0, none⟩ = some vV := by rw [blk_cell hP.fb]; rfl
  obtain ⟨d0, d1⟩ := dig_bd l
  obtain ⟨dn, hdn⟩ := Int.eq_ofNat_of_zero_le d0
  have HR : Hid (pivQ q kind l = if 0 < dn then (findV q.vars dn).bind (fun x => if pivotB kind x.2 then some dn else none) else none) := hide (by
    unfold pivQ; rw [hdn]; simp)
  go_enter Tryz.func104, Tryz.ntmps104
  go_wp2_with fail
  refine (variable_any l w hl).mono ?_
  rintro e w1 ⟨hw1, rfl⟩
  subst hw1
  rw [hdn]
  have hdn8 : dn ≤ 8 := by omega
  clear hdn d0 d1
  by_cases hz : dn = 0
  · have hdz : decide (0 < dn) = false := by simp; omega
    have HF : Hid (pivQ q kind l = none) := hide (by rw [unhide HR, if_neg (by omega)])
    clear hz
    go_wp2_with fail
    go_ret2
    exact ⟨Below.refl _ _, 0, false, rfl, by omega, Or.inr ⟨rfl, unhide HF⟩⟩
  · have hdz : decide (0 < dn) = true := by simp; omega
    have h1 : 1 ≤ dn := by omega
    have HF : Hid (pivQ q kind l = (findV q.vars dn).bind (fun x => if pivotB kind x.2 then some dn else none)) := hide (by rw [unhide HR, if_pos (by omega)])
    clear hz
    go_wp2_with fail
    refine (find_any 0 b q.vars vV dn w1 k0 hP.oV (by omega)).mono ?_
    rintro e w2 ⟨hb2, rfl⟩
    have x2 : w2.cell? ⟨b, 2, none⟩ = some (.int .i64 kind) := by rw [blk_cell (hP.later hb2).fb]; rfl
    have hbw2 := cell_lt x2
    cases hfd : findV q.vars dn with
    | none =>
      rw [hfd] at HF
      go_wp2_with fail
      go_quiet (fail)
      go_wp2_with fail
      go_ret2
      exact ⟨below_drewN (hb2.alloc hb2.size _) nq, dn, false, rfl, hdn8, Or.inr ⟨rfl, unhide HF⟩⟩
    | some x =>
      rw [hfd] at HF
      obtain ⟨xn, xu⟩ := x
      dsimp only [Option.getD_some, Option.isSome_some]
      have hb2a : Below w1.heap.size w1 (w2.alloc (.cells #[.int .i64 (xn : Int), .bool xu] 109)) := hb2.alloc hb2.size _
      have hv2 := heap_alloc_new w2 (.cells #[.int .i64 (xn : Int), .bool xu] 109)
      go_wp2_with fail
      generalize w2.alloc (.cells #[.int .i64 (xn : Int), .bool xu] 109) = w5 at *
      have v0 : w5.cell? ⟨w2.heap.size, 0, none⟩ = some (.int .i64 (xn : Int)) := by rw [blk_cell hv2]; rfl
      have v1 : w5.cell? ⟨w2.heap.size, 1, none⟩ = some (.bool xu) := by rw [blk_cell hv2]; rfl
      have lv := blk_lt hv2
      have hb5 := Nat.lt_of_lt_of_le hbw hb2a.size
      go_region_with (go_at_call 113; refine (isPivot_any b 2 kind xn xu _ (by rw [hb2a.drew.cell (p := ⟨b, 2, none⟩) hbw]; rw [blk_cell hP.fb]; rfl)).mono ?_; rintro e w3 ⟨rfl, hb3⟩; have hb3' : Below w1.heap.size w1 w3 := hb2a.drew.trans (hb3.mono hb2a.size))
      all_goals
        cases hpv : pivotB kind xu with
        | true =>
          have HG : Hid (pivQ q kind l = some dn) := hide (by rw [unhide HF]; simp [hpv])
          go_wp2_with fail
          go_ret2
          exact ⟨hb3', dn, true, rfl, hdn8, Or.inl ⟨rfl, unhide HG, h1⟩⟩
        | false =>
          have HG : Hid (pivQ q kind l = none) := hide (by rw [unhide HF]; simp [hpv])
          go_wp2_with fail
          go_ret2
          exact ⟨hb3', dn, false, rfl, hdn8, Or.inr ⟨rfl, unhide HG⟩⟩
end Go.Proofs.YtgipjjhkhfihpabGreatDoor
