import Derived.Test.YtgipjjhkhfihpaaGreatDoorAC
import Derived.Test.YtgipjjhkhfihpaaGreatDoorAB
namespace Go.Proofs.YtgipjjhkhfihpaaGreatDoor
open Go.RowKit

theorem own_set_ne {w : World} {base : Nat} {e : TypeId} {size : Nat} {v : Value} {n : Nat} {xs : List Value} (h : w.ownsRow base e size v n xs) {p : Addr} (hp : v.ownBlock ≠ some p.block) (u : Value) : (w.setCell p u).ownsRow base e size v n xs := by
  obtain ⟨h1, h2⟩ := h
  refine ⟨h1, ?_⟩
  rcases h2 with h2 | ⟨g, cap, cur, rfl, hg, hh, h3⟩
  · exact Or.inl h2
  · refine Or.inr ⟨g, cap, cur, rfl, hg, ?_, h3⟩
    rw [Below.heap_setCell _ _ _ _ (fun e => hp (by subst e; rfl))]; exact hh
/-- A row and a block of another type are apart. -/
theorem own_type_ne {w : World} {base : Nat} {e t : TypeId} {size : Nat} {v : Value} {n : Nat} {xs : List Value} {b : Nat} {c : Array Value} {fr : Nat × Nat} (h : w.ownsRow base e size v n xs) (hb : w.heap[b]? = some (.cells c t fr)) (hne : e ≠ t) : v.ownBlock ≠ some b := by
  rcases h.2 with ⟨rfl, _⟩ | ⟨g, cap, cur, rfl, hg, hh, h3⟩
  · intro h; cases h
  · intro h
    injection h with h
    subst h
    rw [hh] at hb
    injection hb with hb
    injection hb with _ hb _
    exact hne hb
/-- A row stays where all but other blocks do. -/
theorem own_keep {T : Nat → Prop} {w w' : World} {base : Nat} {e : TypeId} {size : Nat} {v : Value} {n : Nat} {xs : List Value} (h : w.ownsRow base e size v n xs) (ho : Only T w w') (hT : ∀ k, v.ownBlock = some k → ¬ T k) : w'.ownsRow base e size v n xs := by
  obtain ⟨h1, h2⟩ := h
  refine ⟨h1, ?_⟩
  rcases h2 with h2 | ⟨g, cap, cur, rfl, hg, hh, h3⟩
  · exact Or.inl h2
  · exact Or.inr ⟨g, cap, cur, rfl, hg, (ho.block g (blk_lt hh) (hT g rfl)).trans hh, h3⟩
theorem infoStep : (Tryz.prog.info? 134).map (fun i => (i.zero, i.size, i.bytes)) = some (some (.agg #[.int .i64 0, .int .i64 0, .int .i64 0, .int .i64 0, .int .i64 0, .int .i64 0]), 6, 48) := by kernel_rfl
/-- Where a row went: it is where it was, or in a new block. -/
def Moved (w : World) (v v' : Value) : Prop := v'.ownBlock = v.ownBlock ∨ ∃ k, v'.ownBlock = some k ∧ w.heap.size ≤ k
def AddPost (base b o : Nat) (p : List Stp) (vS : Value) (s : Stp) (cells : Array Value) (t : TypeId) (w : World) (e : Ending) (w' : World) : Prop :=
  ∃ v', e = .returned (.int .i64 ((p.length : Int) + 1)) ∧ w'.ownsRow base 134 6 v' (p.length + 1) (psCells (p ++ [s])) ∧ w'.heap[b]? = some (.cells (cells.setIfInBounds (o + 1) v') t (0, 0)) ∧ Only (fun k => k = b ∨ vS.ownBlock = some k) w w' ∧ Moved w vS v'

set_option maxRecDepth 100000 in
set_option maxHeartbeats 1600000 in
theorem add_any (base b o : Nat) (p : List Stp) (vS : Value) (s : Stp) (cells : Array Value) (t : TypeId) (w : World) (hfb : w.heap[b]? = some (.cells cells t (0, 0))) (hcs : cells[o + 1]? = some vS) (ht : 134 ≠ t) (hown : w.ownsRow base 134 6 vS p.length (psCells p)) (hl : p.length ≤ 1048576) (hbase : base ≤ w.heap.size) :
    Calls Tryz.prog 72 #[.pointer (some ⟨b, o, none⟩), StpV s] w fun e w' => AddPost base b o p vS s cells t w e w' := by
  obtain ⟨aS, cS, rfl⟩ := own_form hown
  have hbw := blk_lt hfb
  have hne := own_type_ne hown hfb ht
  have hs : w.cell? ⟨b, o + 1, none⟩ = some (.slice aS p.length cS) := by rw [blk_cell hfb]; exact hcs
  obtain ⟨sr, sf, ss, sv, sl⟩ := s
  obtain ⟨sl1, sl2⟩ := sl
  obtain ⟨i1, hi1, hz10, hz11, hz12⟩ := info_parts infoStep
  go_enter Tryz.func72, Tryz.ntmps72
  go_wp2_with fail
  generalize hw0 : w.alloc (.cells #[.int .i64 (sr : Int), .int .i64 (sf : Int), .int .i64 (ss : Int), .int .i64 (sv : Int), .int .i64 (sl1 : Int), .int .i64 (sl2 : Int)] 134) = wz
  have hB : Below w.heap.size w wz := by rw [← hw0]; exact (Below.refl _ _).alloc (Nat.le_refl _) _
  have hst : wz.heap[w.heap.size]? = some (.cells #[.int .i64 (sr : Int), .int .i64 (sf : Int), .int .i64 (ss : Int), .int .i64 (sv : Int), .int .i64 (sl1 : Int), .int .i64 (sl2 : Int)] 134 (0, 0)) := by rw [← hw0]; exact heap_alloc_new _ _
  clear hw0
  have lst := blk_lt hst
  have c0 : wz.cell? ⟨w.heap.size, 0, none⟩ = some (.int .i64 (sr : Int)) := by rw [blk_cell hst]; rfl
  have c1 : wz.cell? ⟨w.heap.size, 1, none⟩ = some (.int .i64 (sf : Int)) := by rw [blk_cell hst]; rfl
  have c2 : wz.cell? ⟨w.heap.size, 2, none⟩ = some (.int .i64 (ss : Int)) := by rw [blk_cell hst]; rfl
  have c3 : wz.cell? ⟨w.heap.size, 3, none⟩ = some (.int .i64 (sv : Int)) := by rw [blk_cell hst]; rfl
  have c4 : wz.cell? ⟨w.heap.size, 4, none⟩ = some (.int .i64 (sl1 : Int)) := by rw [blk_cell hst]; rfl
  have c5 : wz.cell? ⟨w.heap.size, 5, none⟩ = some (.int .i64 (sl2 : Int)) := by rw [blk_cell hst]; rfl
  have hfz := (hB.block _ hbw).trans hfb
  have hsz : wz.cell? ⟨b, o + 1, none⟩ = some (.slice aS p.length cS) := by rw [blk_cell hfz]; exact hcs
  have hfr := blk_free hfz (o + 1)
  have hbz := blk_lt hfz
  have hownz := own_below hown hB
  have hbz0 : base ≤ wz.heap.size := Nat.le_trans hbase hB.size
  have HPS := hide (psCells_snoc p ⟨sr, sf, ss, sv, (sl1, sl2)⟩)
  have HNE := hide hne
  clear hne
  go_region_law (refine step_append_at rfl (.tmp 9) (.tmp 11) 65 rfl base 134 i1 (.agg #[.int .i64 0, .int .i64 0, .int .i64 0, .int .i64 0, .int .i64 0, .int .i64 0]) 6 48 Tryz.underlying65 hi1 hz10 hz11 hz12 rfl (by decide) (.slice aS p.length cS) p.length (psCells p) (hownz.alloc _).drew rfl ⟨wz.heap.size, 0, none⟩ 1 1 [.int .i64 (sr : Int), .int .i64 (sf : Int), .int .i64 (ss : Int), .int .i64 (sv : Int), .int .i64 (sl1 : Int), .int .i64 (sl2 : Int)] rfl rfl (new_cells wz [.int .i64 (sr : Int), .int .i64 (sf : Int), .int .i64 (ss : Int), .int .i64 (sv : Int), .int .i64 (sl1 : Int), .int .i64 (sl2 : Int)] 134) (by simp [Value.oneCell']) (by decide) (by unfold maxLen; omega) (by omega) (by simp; omega) ?_; intro v' w' hown' hgrow hmv; have hfb' : w'.heap[b]? = some (.cells cells t (0, 0)) := (hgrow.block b (by simp [World.drew]; omega) (fun e => unhide HNE e.symm)).trans ((heap_alloc_old wz _ hbz).trans hfz); obtain ⟨g4, cap4, rfl, hg4, hg4', hcap4, hcell4⟩ := own_pos hown' (by omega); have hq3 : w'.cell? ⟨b, o + 1, none⟩ = some (.slice aS p.length cS) := (by rw [blk_cell hfb']; exact hcs); have hqz := blk_free hfb' (o + 1))
  all_goals
    have hlo : o + 1 < cells.size := (Array.getElem?_eq_some_iff.1 hcs).1
    have hset := blk_set hfb' (o + 1) (.slice (some ⟨g4, 0, none⟩) (p.length + 1) cap4)
    have hget : (w'.setCell ⟨b, o + 1, none⟩ (.slice (some ⟨g4, 0, none⟩) (p.length + 1) cap4)).cell? ⟨b, o + 1, none⟩ = some (.slice (some ⟨g4, 0, none⟩) (p.length + 1) cap4) := by rw [blk_cell hset]; simp [hlo]
    have HO := hide (own_set_ne hown' (p := ⟨b, o + 1, none⟩) (own_type_ne hown' hfb' ht) (.slice (some ⟨g4, 0, none⟩) (p.length + 1) cap4))
    have HX : Hid (Only (fun k => k = b ∨ (Value.slice aS p.length cS).ownBlock = some k) w w') := hide ((((Only.of_below hB).alloc _).drew).grown hgrow (fun k hk => Or.inl (Or.inr hk)))
    have HM := hide hmv
    clear hown' hmv hgrow hcell4 hownz
    go_wp2_with fail
    go_ret
    refine ⟨_, ret_int (by omega), ?_, hset, (unhide HX).setCell (p := ⟨b, o + 1, none⟩) (Or.inl (Or.inl rfl)) _, ?_⟩
    · rw [unhide HPS]; exact unhide HO
    · rcases unhide HM with h | ⟨k, h1, h2⟩
      · exact Or.inl h
      · exact Or.inr ⟨k, h1, by have := hB.size; simp [World.drew] at h2; omega⟩
end Go.Proofs.YtgipjjhkhfihpaaGreatDoor

namespace Go.Proofs.YtgipjjhkhfihpaaGreatDoor
open Go.RowKit

/-! ### The search, as a function -/
def meetsB (a b : Nat × Nat) : Bool := (a.1 &&& b.1) ||| (a.2 &&& b.2) != 0
def clashB (a : Nat × Nat) : Bool := a.1 &&& a.2 != 0
def emptyB (a : Nat × Nat) : Bool := a.1 ||| a.2 == 0
def minus (a b : Nat × Nat) : Nat × Nat := (less a.1 b.1, less a.2 b.2)
def swapL (a : Nat × Nat) : Nat × Nat := (a.2, a.1)
/-- The resolvent of two steps, added. -/
def resP (p : List Stp) (a b v : Nat) : List Stp × Nat :=
  if hasLit (litsAt p a) v then (p ++ [⟨3, a, b, v, without2 (litsAt p a) (litsAt p b) v⟩], p.length + 1)
  else (p ++ [⟨3, b, a, v, without2 (litsAt p b) (litsAt p a) v⟩], p.length + 1)
def redP (q : QS) (kind : Nat) (p : List Stp) (n : Nat) : List Stp × Nat :=
  if redQ kind q.vars.reverse (litsAt p n) = litsAt p n then (p, n) else (p ++ [⟨4, n, 0, 0, redQ kind q.vars.reverse (litsAt p n)⟩], p.length + 1)
/-- What changes while nodes are looked at. -/
structure SS where
  nodes : Nat
  ref : List Stp
  aff : List Stp
  kept : List (Nat × Nat)
  most : Nat
/-- What doesn't. -/
structure SC where
  q : QS
  uni : Nat × Nat
  budget : Nat
  room : Nat
def SS.proof (s : SS) (kind : Nat) : List Stp := if kind = 2 then s.aff else s.ref
def SS.lits (s : SS) (f : Nat × Nat) : Nat × Nat := litsAt (s.proof f.1) f.2
def SS.put (s : SS) (kind : Nat) (p : List Stp) : SS := if kind = 2 then { s with aff := p } else { s with ref := p }
def storeK (room : Nat) (kept : List (Nat × Nat)) (f : Nat × Nat) : List (Nat × Nat) := if room = 0 then kept else if room ≤ kept.length then kept.drop 1 ++ [f] else kept ++ [f]
def storeM (room : Nat) (kept : List (Nat × Nat)) (f : Nat × Nat) (most : Nat) : Nat := if room = 0 then most else if most < (storeK room kept f).length then (storeK room kept f).length else most
def SS.store (room : Nat) (s : SS) (f : Nat × Nat) : SS := { s with kept := storeK room s.kept f, most := storeM room s.kept f s.most }
def SS.keep (room : Nat) (s : SS) (f : Nat × Nat) : SS := if emptyB (s.lits f) then s else s.store room f
def SS.reduce (q : QS) (s : SS) (f : Nat × Nat) : SS × (Nat × Nat) := (s.put f.1 (redP q f.1 (s.proof f.1) f.2).1, (f.1, (redP q f.1 (s.proof f.1) f.2).2))

def clausesOf (q : QS) (kept : List (Nat × Nat)) : List Nat := (List.range q.cl.length).map (· + 1) ++ (kept.filter (fun f => f.1 == 1)).map (·.2)
def leftOf (c vals : Nat × Nat) : Nat × Nat := minus c (swapL vals)
def openB (c vals : Nat × Nat) : Bool := !meetsB c vals && !clashB c
def isConf (uni vals c : Nat × Nat) : Bool := openB c vals && emptyB (minus (leftOf c vals) uni)
def confOf (ref : List Stp) (uni : Nat × Nat) (cs : List Nat) (vals : Nat × Nat) : Nat := (cs.find? (fun s => isConf uni vals (litsAt ref s))).getD 0
def listFrom (c : Nat × Nat) : Nat → Nat → List Int
  | 0, _ => []
  | k + 1, v => (if hasLit c v then [(v : Int)] else []) ++ ((if hasLit c (-(v : Int)) then [-(v : Int)] else []) ++ listFrom c k (v + 1))
/-- The literals, rising. -/
def listOf (c : Nat × Nat) : List Int := listFrom c 8 1
def isUnit (uni vals c : Nat × Nat) : Bool := openB c vals && ((listOf (leftOf c vals)).length == 1 && !meetsB (leftOf c vals) uni)
def unitOf (ref : List Stp) (uni : Nat × Nat) (cs : List Nat) (vals : Nat × Nat) : Int × Nat := match cs.find? (fun s => isUnit uni vals (litsAt ref s)) with
  | none => (0, 0)
  | some s => ((listOf (leftOf (litsAt ref s) vals)).headD 0, s)
structure US where
  vals : Nat × Nat
  trail : List (Int × Nat)
  conf : Nat
def unitsGo (ref : List Stp) (uni : Nat × Nat) (cs : List Nat) : Nat → Nat × Nat → List (Int × Nat) → US
  | 0, vals, trail => ⟨vals, trail, 0⟩
  | m + 1, vals, trail => if confOf ref uni cs vals ≠ 0 then ⟨vals, trail, confOf ref uni cs vals⟩ else
    if (unitOf ref uni cs vals).2 = 0 then ⟨vals, trail, 0⟩ else unitsGo ref uni cs m (withLit vals (unitOf ref uni cs vals).1) (trail ++ [unitOf ref uni cs vals])
def unitsOf (C : SC) (s : SS) (path : Nat × Nat) : US := unitsGo s.ref C.uni (clausesOf C.q s.kept) (C.q.vars.length + 1) path []
/-- From the last unit to the first. -/
def expl : List (Int × Nat) → List Stp → Nat → List Stp × Nat
  | [], p, n => (p, n)
  | m :: ms, p, n => if hasLit (litsAt p n) (-m.1) then expl ms (resP p m.2 n m.1.natAbs).1 (resP p m.2 n m.1.natAbs).2 else expl ms p n
def explain (C : SC) (s : SS) (u : US) : SS × (Nat × Nat) :=
  let r := expl u.trail.reverse s.ref u.conf
  let d := redP C.q 1 r.1 r.2
  let s2 : SS := { s with ref := d.1 }
  (if r.2 ≠ u.conf then s2.keep C.room (1, d.2) else s2, (1, d.2))
def holdsB (c path : Nat × Nat) : Bool := emptyB (minus c path)
def shrinkStep (q : QS) (u : Bool) (c : Nat × Nat) (v : Nat × Bool) : Nat × Nat := if v.2 = u ∧ satQ q.cl (without c v.1) = true then without c v.1 else c
def shrinkK (q : QS) (u : Bool) (c : Nat × Nat) : Nat × Nat := q.vars.reverse.foldl (shrinkStep q u) c
def shrinkQ (q : QS) (c : Nat × Nat) : Nat × Nat := shrinkK q false (shrinkK q true c)
def cubeOf (C : SC) (s : SS) (path vals : Nat × Nat) : SS × (Nat × Nat) :=
  match s.kept.find? (fun f => f.1 == 2 && holdsB (s.lits f) path) with
  | some f => (s, f)
  | none => if satQ C.q.cl vals then
      let p := s.aff ++ [⟨2, 0, 0, 0, shrinkQ C.q vals⟩]
      let d := redP C.q 2 p p.length
      let s2 : SS := { s with aff := d.1 }
      (s2.keep C.room (2, d.2), (2, d.2))
    else (s, (0, 0))
/-- A node ahead of its branches: what was found, or the values. -/
def nodeOf (C : SC) (s : SS) (path : Nat × Nat) : (SS × (Nat × Nat)) ⊕ (SS × (Nat × Nat)) :=
  if 0 < C.budget ∧ C.budget ≤ s.nodes then .inl (s, (0, 0)) else
  let s1 : SS := { s with nodes := s.nodes + 1 }
  let u := unitsOf C s1 path
  if u.conf ≠ 0 then .inl (explain C s1 u) else
  let r := cubeOf C s1 path u.vals
  if r.2.1 ≠ 0 then .inl r else .inr (r.1, u.vals)
def joinOf (C : SC) (s : SS) (a b : Nat × Nat) (v : Nat) : SS × (Nat × Nat) :=
  let r := resP (s.proof a.1) a.2 b.2 v
  let d := redP C.q a.1 r.1 r.2
  let s2 := s.put a.1 d.1
  (s2.keep C.room (a.1, d.2), (a.1, d.2))
def lookM (C : SC) : Nat → Nat × Nat → Nat → SS → SS × (Nat × Nat)
  | 0, path, _, s => match nodeOf C s path with
    | .inl r => r
    | .inr r => (r.1, (0, 0))
  | m + 1, path, depth, s => match nodeOf C s path with
    | .inl r => r
    | .inr (s1, vals) =>
      let v := (C.q.vars.getD depth (0, false)).1
      let side : Int := if hasLit vals (-(v : Int)) then -(v : Int) else v
      let a := lookM C m (withLit path side) (depth + 1) s1
      if hasVarB (a.1.lits a.2) v then
        let b := lookM C m (withLit path (-side)) (depth + 1) a.1
        if hasVarB (b.1.lits b.2) v then joinOf C b.1 a.2 b.2 v else b
      else a
/-! ### What is needed of a proof, and its text -/
def markOne (b : Bool) (i n : Nat) (m : List Bool) : List Bool := if b = true ∧ 0 < n ∧ n < i then m.set n true else m
def markStep (p : List Stp) (last i : Nat) (m : List Bool) : List Bool :=
  let m1 := if i = last then m.set i true else m
  let b := m1.getD i false && decide ((p.getD (i - 1) ⟨0, 0, 0, 0, (0, 0)⟩).rule ≠ 1)
  markOne b i (p.getD (i - 1) ⟨0, 0, 0, 0, (0, 0)⟩).second (markOne b i (p.getD (i - 1) ⟨0, 0, 0, 0, (0, 0)⟩).first m1)
def markTo (p : List Stp) (last : Nat) : Nat → List Bool → List Bool
  | 0, m => m
  | i + 1, m => markTo p last i (markStep p last (i + 1) m)
def needs (p : List Stp) (last : Nat) : List Bool := markTo p last p.length (List.replicate (p.length + 1) false)
/-- A step with the new numbers of those that it is made of. -/
def renum (nums : List Nat) (i : Nat) (s : Stp) : Stp := { s with first := if s.rule ≠ 1 ∧ s.first ≤ i then nums.getD s.first 0 else s.first, second := if s.second ≤ i then nums.getD s.second 0 else s.second }
def shortTo (p : List Stp) (mk : List Bool) : Nat → List Stp → List Nat → List Stp × List Nat
  | 0, sh, nums => (sh, nums)
  | m + 1, sh, nums =>
    let i := p.length - (m + 1)
    if mk.getD (i + 1) false then shortTo p mk m (sh ++ [renum nums i (p.getD i ⟨0, 0, 0, 0, (0, 0)⟩)]) (nums.set (i + 1) (sh.length + 1)) else shortTo p mk m sh nums
def shortOf (p : List Stp) (last : Nat) : List Stp := (shortTo p (needs p last) p.length [] (List.replicate (p.length + 1) 0)).1

def uniTo (vs : List (Nat × Bool)) (u : Nat × Nat) : Nat × Nat := vs.foldl (fun u v => if v.2 then withLit (withLit u v.1) (-(v.1 : Int)) else u) u
def axioms (cl : List (Nat × Nat)) : List Stp := cl.zipIdx.map (fun c => ⟨1, c.2 + 1, 0, 0, c.1⟩)
def beginC (q : QS) (budget room : Nat) : SC := ⟨q, uniTo q.vars (0, 0), budget, room⟩
def beginS (q : QS) : SS := ⟨0, axioms q.cl, [], [], 0⟩
def solveM (q : QS) (budget room : Nat) : SS × (Nat × Nat) := lookM (beginC q budget room) q.vars.length (0, 0) 0 (beginS q)
end Go.Proofs.YtgipjjhkhfihpaaGreatDoor

namespace Go.Proofs.YtgipjjhkhfihpaaGreatDoor
open Go.RowKit

/-! ### What a search holds in memory -/
/-- A row that may begin inside its block. -/
def RowAt (w : World) (e : TypeId) (size : Nat) (v : Value) (n : Nat) (xs : List Value) : Prop :=
  xs.length = n * size ∧ ((n = 0 ∧ ∃ a, v = .slice a 0 0 ∧ ∀ k, v.ownBlock = some k → ∃ c, w.heap[k]? = some (.cells c e (0, 0))) ∨
   ∃ g off cap cur, v = .slice (some ⟨g, off, none⟩) n cap ∧ w.heap[g]? = some (.cells cur e (0, 0)) ∧ n ≤ cap ∧ cap ≤ maxLen ∧ off + cap * size ≤ cur.size ∧ ∀ j u, xs[j]? = some u → cur[off + j]? = some u)
theorem RowAt.blk {w : World} {e : TypeId} {size : Nat} {v : Value} {n : Nat} {xs : List Value} (h : RowAt w e size v n xs) : ∀ k, v.ownBlock = some k → ∃ c, w.heap[k]? = some (.cells c e (0, 0)) := by
  rcases h.2 with ⟨_, a, _, h2⟩ | ⟨g, off, cap, cur, rfl, hg, _⟩
  · exact h2
  · intro k hk
    injection hk with hk
    subst hk
    exact ⟨cur, hg⟩
theorem RowAt.lt {w : World} {e : TypeId} {size : Nat} {v : Value} {n : Nat} {xs : List Value} (h : RowAt w e size v n xs) : ∀ k, v.ownBlock = some k → k < w.heap.size := fun k hk => by
  obtain ⟨c, hc⟩ := h.blk k hk
  exact blk_lt hc
theorem own_bk {w : World} {base : Nat} {e : TypeId} {size : Nat} {v : Value} {n : Nat} {xs : List Value} (h : w.ownsRow base e size v n xs) : ∀ k, v.ownBlock = some k → ∃ c, w.heap[k]? = some (.cells c e (0, 0)) := by
  rcases h.2 with ⟨rfl, _⟩ | ⟨g, cap, cur, rfl, _, hg, _⟩
  · intro k hk; cases hk
  · intro k hk
    injection hk with hk
    subst hk
    exact ⟨cur, hg⟩
theorem blk_type {w : World} {k : Nat} {c c' : Array Value} {e e' : TypeId} {f f' : Nat × Nat} (h : w.heap[k]? = some (.cells c e f)) (h' : w.heap[k]? = some (.cells c' e' f')) : e = e' := by
  rw [h] at h'
  injection h' with h'
  injection h' with _ h' _
theorem RowAt.form {w : World} {e : TypeId} {size : Nat} {v : Value} {n : Nat} {xs : List Value} (h : RowAt w e size v n xs) : ∃ a cap, v = .slice a n cap := by
  rcases h.2 with ⟨rfl, a, rfl, _⟩ | ⟨g, off, cap, cur, rfl, _⟩
  · exact ⟨_, _, rfl⟩
  · exact ⟨_, _, rfl⟩
theorem RowAt.cell {w : World} {e : TypeId} {size : Nat} {v : Value} {n : Nat} {xs : List Value} (h : RowAt w e size v n xs) (hn : 0 < n) : ∃ g off cap, v = .slice (some ⟨g, off, none⟩) n cap ∧ g < w.heap.size ∧ ∀ j u, xs[j]? = some u → w.cell? ⟨g, off + j, none⟩ = some u := by
  rcases h.2 with ⟨h0, _⟩ | ⟨g, off, cap, cur, rfl, hg, _, _, _, hc⟩
  · omega
  · exact ⟨g, off, cap, rfl, blk_lt hg, fun j u hj => by rw [blk_cell hg]; exact hc j u hj⟩
theorem RowAt.keep {T : Nat → Prop} {w w' : World} {e : TypeId} {size : Nat} {v : Value} {n : Nat} {xs : List Value} (h : RowAt w e size v n xs) (ho : Only T w w') (hT : ∀ k, v.ownBlock = some k → ¬ T k) : RowAt w' e size v n xs := by
  obtain ⟨h1, h2⟩ := h
  refine ⟨h1, ?_⟩
  rcases h2 with ⟨h0, a, ha, hl⟩ | ⟨g, off, cap, cur, rfl, hg, hr⟩
  · exact Or.inl ⟨h0, a, ha, fun k hk => by obtain ⟨c, hc⟩ := hl k hk; exact ⟨c, (ho.block k (blk_lt hc) (hT k hk)).trans hc⟩⟩
  · exact Or.inr ⟨g, off, cap, cur, rfl, (ho.block g (blk_lt hg) (hT g rfl)).trans hg, hr⟩
structure SV where
  v : Value
  c : Value
  r : Value
  a : Value
  k : Value
abbrev sCells (C : SC) (S : SS) (V : SV) : Array Value := #[V.v, V.c, .int .i64 (C.uni.1 : Int), .int .i64 (C.uni.2 : Int), .int .i64 (C.budget : Int), .int .i64 (S.nodes : Int), .int .i64 1, V.r, .int .i64 2, V.a, .int .i64 (C.room : Int), V.k, .int .i64 (S.most : Int)]
structure SAt (w : World) (b : Nat) (C : SC) (S : SS) (V : SV) : Prop where
  fb : w.heap[b]? = some (.cells (sCells C S V) 126 (0, 0))
  oV : w.ownsRow 0 139 2 V.v C.q.vars.length (varCells C.q.vars)
  oC : w.ownsRow 0 74 2 V.c C.q.cl.length (pairs C.q.cl)
  oR : w.ownsRow 0 134 6 V.r S.ref.length (psCells S.ref)
  oA : w.ownsRow 0 134 6 V.a S.aff.length (psCells S.aff)
  oK : RowAt w 129 2 V.k S.kept.length (pairs S.kept)
  ap : ∀ k, V.r.ownBlock = some k → V.a.ownBlock ≠ some k
/-- Bounds that the walks want. -/
structure SBd (C : SC) (S : SS) : Prop where
  qb : QB C.q
  uni : C.uni.1 < 512 ∧ C.uni.2 < 512
  ref : ∀ s ∈ S.ref, s.lits.1 < 512 ∧ s.lits.2 < 512
  aff : ∀ s ∈ S.aff, s.lits.1 < 512 ∧ s.lits.2 < 512
  rl : S.ref.length ≤ 100000
  al : S.aff.length ≤ 100000
  kept : S.kept.length ≤ 64
  kind : ∀ f ∈ S.kept, f.1 ≤ 2 ∧ f.2 ≤ 100000
  budget : C.budget ≤ 1048576
  room : C.room ≤ 64
  most : S.most ≤ 64
  nodes : S.nodes ≤ 1048576
/-- A block that is none of the search's. -/
def Far (b : Nat) (V : SV) (k : Nat) : Prop := k ≠ b ∧ V.v.ownBlock ≠ some k ∧ V.c.ownBlock ≠ some k ∧ V.r.ownBlock ≠ some k ∧ V.a.ownBlock ≠ some k ∧ V.k.ownBlock ≠ some k
/-- Blocks that the search may write. -/
def TS (b : Nat) (V : SV) (k : Nat) : Prop := k = b ∨ V.r.ownBlock = some k ∨ V.a.ownBlock = some k ∨ V.k.ownBlock = some k
theorem Far.ts {b : Nat} {V : SV} {k : Nat} (h : Far b V k) : ¬ TS b V k := by
  rintro (h1 | h1 | h1 | h1)
  · exact h.1 h1
  · exact h.2.2.2.1 h1
  · exact h.2.2.2.2.1 h1
  · exact h.2.2.2.2.2 h1
theorem SAt.fresh {w : World} {b : Nat} {C : SC} {S : SS} {V : SV} (h : SAt w b C S V) {n : Nat} (hn : w.heap.size ≤ n) : Far b V n := by
  refine ⟨fun e => ?_, fun e => ?_, fun e => ?_, fun e => ?_, fun e => ?_, fun e => ?_⟩
  · have := blk_lt h.fb; omega
  · have := (h.oV.lt n e).2; omega
  · have := (h.oC.lt n e).2; omega
  · have := (h.oR.lt n e).2; omega
  · have := (h.oA.lt n e).2; omega
  · have := h.oK.lt n e; omega
/-- A search that is where it was, or has moved on into new blocks. -/
structure SMoved (b : Nat) (w w' : World) (V V' : SV) : Prop where
  only : Only (TS b V) w w'
  v : V'.v = V.v
  c : V'.c = V.c
  r : Moved w V.r V'.r
  a : Moved w V.a V'.a
  k : Moved w V.k V'.k
theorem SMoved.of_below {b : Nat} {w w' : World} {V : SV} (h : Below w.heap.size w w') : SMoved b w w' V V := ⟨Only.of_below h, rfl, rfl, Or.inl rfl, Or.inl rfl, Or.inl rfl⟩
theorem Moved.ne {w : World} {v v' : Value} (h : Moved w v v') {k : Nat} (hk : k < w.heap.size) (hv : v.ownBlock ≠ some k) : v'.ownBlock ≠ some k := by
  rcases h with h | ⟨j, h, hj⟩
  · rw [h]; exact hv
  · rw [h]; intro e; injection e with e; omega
theorem Moved.trans {w w1 : World} {a b c : Value} (h : Moved w a b) (k : Moved w1 b c) (hs : w.heap.size ≤ w1.heap.size) : Moved w a c := by
  rcases k with k | ⟨j, k, hj⟩
  · rcases h with h | ⟨i, h, hi⟩
    · exact Or.inl (k.trans h)
    · exact Or.inr ⟨i, k.trans h, hi⟩
  · exact Or.inr ⟨j, k, by omega⟩
theorem SMoved.far {b : Nat} {w w' : World} {V V' : SV} (h : SMoved b w w' V V') {k : Nat} (hk : k < w.heap.size) (hf : Far b V k) : Far b V' k :=
  ⟨hf.1, by rw [h.v]; exact hf.2.1, by rw [h.c]; exact hf.2.2.1, h.r.ne hk hf.2.2.2.1, h.a.ne hk hf.2.2.2.2.1, h.k.ne hk hf.2.2.2.2.2⟩
theorem SMoved.blk {b : Nat} {w w' : World} {V V' : SV} (h : SMoved b w w' V V') {k : Nat} {o : Obj} (hb : w.heap[k]? = some o) (hf : Far b V k) : w'.heap[k]? = some o := (h.only.block k (blk_lt hb) hf.ts).trans hb
theorem SMoved.trans {b : Nat} {w w1 w2 : World} {V V1 V2 : SV} (h : SMoved b w w1 V V1) (k : SMoved b w1 w2 V1 V2) : SMoved b w w2 V V2 := by
  have hs := h.only.size
  refine ⟨⟨k.only.os.trans h.only.os, k.only.tape.trans h.only.tape, k.only.output.trans h.only.output, Nat.le_trans hs k.only.size, fun i hi ht => ?_⟩, k.v.trans h.v, k.c.trans h.c, h.r.trans k.r hs, h.a.trans k.a hs, h.k.trans k.k hs⟩
  refine (k.only.block i (by omega) ?_).trans (h.only.block i hi ht)
  rintro (h1 | h1 | h1 | h1)
  · exact ht (Or.inl h1)
  · exact h.r.ne hi (fun e => ht (Or.inr (Or.inl e))) h1
  · exact h.a.ne hi (fun e => ht (Or.inr (Or.inr (Or.inl e)))) h1
  · exact h.k.ne hi (fun e => ht (Or.inr (Or.inr (Or.inr e)))) h1
theorem SAt.later {w w' : World} {b : Nat} {C : SC} {S : SS} {V : SV} (h : SAt w b C S V) (hb : Below w.heap.size w w') : SAt w' b C S V :=
  ⟨(hb.block b (blk_lt h.fb)).trans h.fb, own_below h.oV hb, own_below h.oC hb, own_below h.oR hb, own_below h.oA hb, h.oK.keep (Only.of_below (T := fun _ => False) hb) (fun _ _ h => h), h.ap⟩
/-- A store into a block that is none of the search's. -/
theorem SAt.set {w : World} {b : Nat} {C : SC} {S : SS} {V : SV} (h : SAt w b C S V) {k : Nat} (hf : Far b V k) (o : Nat) (u : Value) : SAt (w.setCell ⟨k, o, none⟩ u) b C S V :=
  ⟨by rw [Below.heap_setCell _ _ _ _ (fun e => hf.1 e.symm)]; exact h.fb, own_set_ne h.oV hf.2.1 u, own_set_ne h.oC hf.2.2.1 u, own_set_ne h.oR hf.2.2.2.1 u, own_set_ne h.oA hf.2.2.2.2.1 u,
   h.oK.keep (T := fun j => j = k) ((Only.refl (fun j => j = k) w).setCell (p := ⟨k, o, none⟩) (Or.inl rfl) u) (fun j hj e => hf.2.2.2.2.2 (by rw [hj, e])), h.ap⟩
theorem SMoved.set {b : Nat} {w w' : World} {V V' : SV} (h : SMoved b w w' V V') {k : Nat} (hk : w.heap.size ≤ k) (o : Nat) (u : Value) : SMoved b w (w'.setCell ⟨k, o, none⟩ u) V V' :=
  ⟨h.only.setCell (p := ⟨k, o, none⟩) (Or.inr hk) u, h.v, h.c, h.r, h.a, h.k⟩
/-- What a call leaves of the search. -/
def SPost (b : Nat) (C : SC) (S' : SS) (V : SV) (w w' : World) : Prop := ∃ V', SAt w' b C S' V' ∧ SMoved b w w' V V'
end Go.Proofs.YtgipjjhkhfihpaaGreatDoor

namespace Go.Proofs.YtgipjjhkhfihpaaGreatDoor
open Go.RowKit

theorem minus_lt (a b : Nat × Nat) (h : a.1 < 512 ∧ a.2 < 512) : (minus a b).1 < 512 ∧ (minus a b).2 < 512 := ⟨less_lt9 _ _ h.1, less_lt9 _ _ h.2⟩
set_option maxRecDepth 100000 in
set_option maxHeartbeats 800000 in
theorem lwithout_any (p n p2 n2 : Nat) (w : World) (hp : p < 512) (hn : n < 512) (hp2 : p2 < 512) (hn2 : n2 < 512) :
    Calls Tryz.prog 75 #[SetV (p, n), SetV (p2, n2)] w fun e w' => e = .returned (SetV (minus (p, n) (p2, n2))) ∧ Below w.heap.size w w' := by
  have h1 : bits .andNot .i64 (p : Int) (p2 : Int) = ((less p p2 : Nat) : Int) := i64_andNot _ _ (by omega) (by omega)
  have h2 : bits .andNot .i64 (n : Int) (n2 : Int) = ((less n n2 : Nat) : Int) := i64_andNot _ _ (by omega) (by omega)
  go_enter Tryz.func75, Tryz.ntmps75
  go_wp2_with fail
  refine bodyPost_ret (v := SetV (minus (p, n) (p2, n2))) (by simp [results, Tryz.results75, go_sem, minus]) rfl ⟨rfl, ?_⟩
  exact ((((Below.refl _ _).alloc (Nat.le_refl _) _).alloc (by simp) _)).alloc (by simp; omega) _

set_option maxRecDepth 100000 in
set_option maxHeartbeats 800000 in
theorem turned_any (p n : Nat) (w : World) :
    Calls Tryz.prog 76 #[SetV (p, n)] w fun e w' => e = .returned (SetV (swapL (p, n))) ∧ Below w.heap.size w w' := by
  go_enter Tryz.func76, Tryz.ntmps76
  go_wp2_with fail
  refine bodyPost_ret (v := SetV (swapL (p, n))) (by simp [results, Tryz.results76, go_sem, swapL]) rfl ⟨rfl, ?_⟩
  exact ((Below.refl _ _).alloc (Nat.le_refl _) _).alloc (by simp) _

/-! ### The list of literals -/
def intsI (l : List Int) : List Value := l.map (fun x => .int .i64 x)
theorem listFrom_len (c : Nat × Nat) : ∀ k v, (listFrom c k v).length ≤ 2 * k := by
  intro k
  induction k with
  | zero => intro v; simp [listFrom]
  | succ k ih =>
    intro v
    rw [listFrom]
    have := ih (v + 1)
    simp only [List.length_append]
    split <;> split <;> simp <;> omega
/-- The literals of the variables ahead of v. -/
def listTo (c : Nat × Nat) : Nat → List Int
  | 0 => []
  | k + 1 => listTo c k ++ ((if hasLit c ((k + 1 : Nat) : Int) then [((k + 1 : Nat) : Int)] else []) ++ (if hasLit c (-((k + 1 : Nat) : Int)) then [-((k + 1 : Nat) : Int)] else []))
theorem listTo_from (c : Nat × Nat) : ∀ m k, listTo c k ++ listFrom c m (k + 1) = listTo c (k + m) := by
  intro m
  induction m with
  | zero => intro k; simp [listFrom]
  | succ m ih =>
    intro k
    rw [listFrom, show k + (m + 1) = (k + 1) + m from by omega, ← ih (k + 1), listTo]
    simp only [List.append_assoc]
theorem listTo_all (c : Nat × Nat) : listTo c 8 = listOf c := by
  have := listTo_from c 8 0
  simpa [listTo, listOf] using this.symm
theorem listTo_len (c : Nat × Nat) (k : Nat) : (listTo c k).length ≤ 2 * k := by
  induction k with
  | zero => simp [listTo]
  | succ k ih =>
    rw [listTo]
    simp only [List.length_append]
    split <;> split <;> simp <;> omega
theorem wrap_neg_small' (v : Nat) (h : v ≤ 8) : IntKind.i64.wrap (-(v : Int)) = -(v : Int) := by
  have : ∀ v : Fin 9, IntKind.i64.wrap (-(v.val : Int)) = -(v.val : Int) := by decide
  exact this ⟨v, by omega⟩
def ListPost (c : Nat × Nat) (w : World) (e : Ending) (w' : World) : Prop := ∃ v, e = .returned v ∧ w'.ownsRow w.heap.size 3 1 v (listOf c).length (intsI (listOf c)) ∧ Below w.heap.size w w'

set_option maxRecDepth 100000 in
set_option maxHeartbeats 1600000 in
theorem list_any (p n : Nat) (w : World) (hp : p < 512) (hn : n < 512) :
    Calls Tryz.prog 122 #[SetV (p, n)] w fun e w' => ListPost (p, n) w e w' := by
  obtain ⟨i3, hi3, hz30, hz31, hz32⟩ := info_parts Tryz.info3
  go_enter Tryz.func122, Tryz.ntmps122
  go_wp2_with fail
  go_loopg [3, 4] 8 (fun m vl iv wx => ∃ (k : Nat), iv = .int .i64 ((k : Int) + 1) ∧ k + m = 8 ∧ wx.ownsRow (w.heap.size + 1) 3 1 vl (listTo (p, n) k).length (intsI (listTo (p, n) k)) ∧ Below w.heap.size w wx ∧ wx.heap[w.heap.size]? = some (.cells #[.int .i64 (p : Int), .int .i64 (n : Int)] 74 (0, 0)))
  case atStart => exact ⟨0, rfl, by omega, World.ownsRow_nil _ _ _ _, (Below.refl _ _).alloc (Nat.le_refl _) _, heap_alloc_new _ _⟩
  case round =>
    obtain ⟨k, rfl, hk, hown, hb, hset⟩ := hrel
    have HLN := hide (listTo_len (p, n) k)
    have hln := listTo_len (p, n) k
    have hbs := blk_lt hset
    obtain ⟨aL, cL, rfl⟩ := own_form hown
    have c0 : wr.cell? ⟨w.heap.size, 0, none⟩ = some (.int .i64 (p : Int)) := by rw [blk_cell hset]; rfl
    have c1 : wr.cell? ⟨w.heap.size, 1, none⟩ = some (.int .i64 (n : Int)) := by rw [blk_cell hset]; rfl
    by_cases hlt : k < 8
    · have hd : decide ((k : Int) + 1 ≤ 8) = true := by simp; omega
      have hwn : IntKind.i64.wrap (-((k : Int) + 1)) = -((k : Int) + 1) := wrap_neg_small' (k + 1) (by omega)
      have HT : Hid (listTo (p, n) (k + 1) = listTo (p, n) k ++ ((if hasLit (p, n) ((k : Int) + 1) then [(k : Int) + 1] else []) ++ (if hasLit (p, n) (-((k : Int) + 1)) then [-((k : Int) + 1)] else []))) := hide rfl
      generalize listTo (p, n) k = l at *
      go_wp2_with fail
      refine (has_any p n ((k : Int) + 1) wr hp hn (by omega) (by omega)).mono ?_
      rintro e w1 ⟨rfl, hb1⟩
      have hset1 := (hb1.block _ hbs).trans hset
      have hB1 : Below w.heap.size w w1 := hb.trans (hb1.mono hb.size)
      have hown1 := own_below hown hb1
      have d0 : w1.cell? ⟨w.heap.size, 0, none⟩ = some (.int .i64 (p : Int)) := by rw [blk_cell hset1]; rfl
      have d1 : w1.cell? ⟨w.heap.size, 1, none⟩ = some (.int .i64 (n : Int)) := by rw [blk_cell hset1]; rfl
      have hbs1 := blk_lt hset1
      cases h1 : hasLit (p, n) ((k : Int) + 1) with
      | false =>
        go_wp2_with fail
        refine (has_any p n (-((k : Int) + 1)) w1 hp hn (by omega) (by omega)).mono ?_
        rintro e w3 ⟨rfl, hb3⟩
        have hset3 := (hb3.block _ (blk_lt hset1)).trans hset1
        have hB3 : Below w.heap.size w w3 := hB1.trans (hb3.mono hB1.size)
        have hown3 := own_below hown1 hb3
        have hbs3 := blk_lt hset3
        cases h2 : hasLit (p, n) (-((k : Int) + 1)) with
        | false =>
          have HL : Hid (listTo (p, n) (k + 1) = l) := hide (by rw [unhide HT, h1, h2]; simp)
          go_wp2_with fail
          go_roundg (gk - 1)
          case measure => omega
          case rel => exact ⟨k + 1, by go_num, by omega, by rw [unhide HL]; simpa [intsI] using hown3, hB3, hset3⟩
        | true =>
          have HL : Hid (listTo (p, n) (k + 1) = l ++ [-((k : Int) + 1)]) := hide (by rw [unhide HT, h1, h2]; simp)
          go_wp2_with (at_builtin; refine wpList_append_new rfl _ _ 25 rfl (w.heap.size + 1) i3 (.int .i64 0) 1 8 Tryz.underlying25 hi3 hz30 hz31 hz32 rfl (by decide) _ _ _ hown3 rfl rfl rfl (by simp [Value.oneCell']) (by unfold maxLen; omega) (by omega) hbs3 ?_; intro v4 w4 hown4 hgrow4 hnn4)
          have hB4 : Below w.heap.size w w4 := below_grown hB3 hgrow4 hown3 (Nat.le_succ _) hB3.size
          have hset4 : w4.heap[w.heap.size]? = some (.cells #[.int .i64 (p : Int), .int .i64 (n : Int)] 74 (0, 0)) := (hgrow4.block _ hbs3 (fun e => by have := (hown3.lt _ e.symm).1; omega)).trans hset3
          obtain ⟨a4, c4, rfl⟩ := own_form hown4
          go_wp2_with fail
          go_roundg (gk - 1)
          case measure => omega
          case rel => exact ⟨k + 1, by go_num, by omega, by rw [unhide HL]; simpa [intsI] using hown4, hB4, hset4⟩
      | true =>
        go_wp2_with (at_builtin; refine wpList_append_new rfl _ _ 25 rfl (w.heap.size + 1) i3 (.int .i64 0) 1 8 Tryz.underlying25 hi3 hz30 hz31 hz32 rfl (by decide) _ _ _ hown1 rfl rfl rfl (by simp [Value.oneCell']) (by unfold maxLen; omega) (by omega) hbs1 ?_; intro v2 w2 hown2 hgrow2 hnn2; have hB2 : Below w.heap.size w w2 := below_grown hB1 hgrow2 hown1 (Nat.le_succ _) hB1.size; have hset2 : w2.heap[w.heap.size]? = some (.cells #[.int .i64 (p : Int), .int .i64 (n : Int)] 74 (0, 0)) := (hgrow2.block _ hbs1 (fun e => by have := (hown1.lt _ e.symm).1; omega)).trans hset1; obtain ⟨a2, c2, rfl⟩ := own_form hown2; have hbs2 := blk_lt hset2; have f0 : w2.cell? ⟨w.heap.size, 0, none⟩ = some (.int .i64 (p : Int)) := (by rw [blk_cell hset2]; rfl); have f1 : w2.cell? ⟨w.heap.size, 1, none⟩ = some (.int .i64 (n : Int)) := (by rw [blk_cell hset2]; rfl))
        refine (has_any p n (-((k : Int) + 1)) w2 hp hn (by omega) (by omega)).mono ?_
        rintro e w3 ⟨rfl, hb3⟩
        have hset3 := (hb3.block _ (blk_lt hset2)).trans hset2
        have hB3 : Below w.heap.size w w3 := hB2.trans (hb3.mono hB2.size)
        have hown3 := own_below hown2 hb3
        have hbs3 := blk_lt hset3
        cases h2 : hasLit (p, n) (-((k : Int) + 1)) with
        | false =>
          have HL : Hid (listTo (p, n) (k + 1) = (l ++ [(k : Int) + 1])) := hide (by rw [unhide HT, h1, h2]; simp)
          go_wp2_with fail
          go_roundg (gk - 1)
          case measure => omega
          case rel => exact ⟨k + 1, by go_num, by omega, by rw [unhide HL]; simpa [intsI] using hown3, hB3, hset3⟩
        | true =>
          have HL : Hid (listTo (p, n) (k + 1) = (l ++ [(k : Int) + 1]) ++ [-((k : Int) + 1)]) := hide (by rw [unhide HT, h1, h2]; simp)
          go_wp2_with (at_builtin; refine wpList_append_new rfl _ _ 25 rfl (w.heap.size + 1) i3 (.int .i64 0) 1 8 Tryz.underlying25 hi3 hz30 hz31 hz32 rfl (by decide) _ _ _ hown3 rfl rfl rfl (by simp [Value.oneCell']) (by unfold maxLen; omega) (by omega) hbs3 ?_; intro v4 w4 hown4 hgrow4 hnn4)
          have hB4 : Below w.heap.size w w4 := below_grown hB3 hgrow4 hown3 (Nat.le_succ _) hB3.size
          have hset4 : w4.heap[w.heap.size]? = some (.cells #[.int .i64 (p : Int), .int .i64 (n : Int)] 74 (0, 0)) := (hgrow4.block _ hbs3 (fun e => by have := (hown3.lt _ e.symm).1; omega)).trans hset3
          obtain ⟨a4, c4, rfl⟩ := own_form hown4
          go_wp2_with fail
          go_roundg (gk - 1)
          case measure => omega
          case rel => exact ⟨k + 1, by go_num, by omega, by rw [unhide HL]; simpa [intsI] using hown4, hB4, hset4⟩
    · have hk8 : k = 8 := by omega
      subst hk8
      have HA := hide (listTo_all (p, n))
      go_wp2_with fail
      go_ret
      exact ⟨_, rfl, by rw [← unhide HA]; exact own_lo hown (Nat.le_succ _), hb⟩
end Go.Proofs.YtgipjjhkhfihpaaGreatDoor

namespace Go.Proofs.YtgipjjhkhfihpaaGreatDoor
open Go.RowKit

set_option maxRecDepth 100000 in
set_option maxHeartbeats 1600000 in
theorem qsat_any (base b : Nat) (q : QS) (vC : Value) (p0 n0 : Nat) (w : World) (hc1 : w.cell? ⟨b, 1, none⟩ = some vC) (hoC : w.ownsRow base 74 2 vC q.cl.length (pairs q.cl)) (hQ : QB q) (hp0 : p0 < 512) (hn0 : n0 < 512) :
    Calls Tryz.prog 117 #[.pointer (some ⟨b, 0, none⟩), SetV (p0, n0)] w fun e w' => e = .returned (.bool (satQ q.cl (p0, n0))) ∧ Below w.heap.size w w' := by
  have hbw := cell_lt hc1
  have hcl := hQ.cl
  have HCL := hide hQ.bits
  obtain ⟨aC, cC, rfl⟩ := own_form hoC
  go_enter Tryz.func117, Tryz.ntmps117
  go_wp2_with fail
  go_loopg [13] (q.cl.length) (fun m i wx => ∃ k : Nat, i = .int .i64 k ∧ k + m = q.cl.length ∧ satQ (q.cl.take k) (p0, n0) = true ∧ Below w.heap.size w wx ∧ wx.heap[w.heap.size]? = some (.cells #[.int .i64 p0, .int .i64 n0] 74 (0, 0)))
  case atStart => exact ⟨0, rfl, by omega, rfl, (Below.refl _ _).alloc (Nat.le_refl _) _, heap_alloc_new _ _⟩
  case round =>
    obtain ⟨k, rfl, hk, hno, hb, hset⟩ := hrel
    have HNO := hide hno; clear hno
    have hbs := blk_lt hset
    have c0 : wr.cell? ⟨w.heap.size, 0, none⟩ = some (.int .i64 p0) := by rw [blk_cell hset]; rfl
    have c1 : wr.cell? ⟨w.heap.size, 1, none⟩ = some (.int .i64 n0) := by rw [blk_cell hset]; rfl
    by_cases hlt : k < q.cl.length
    · obtain ⟨g, cap, hV, hg, hg', _, hcell⟩ := own_pos hoC (by omega)
      injection hV with hV _ hV2
      subst hV hV2
      have hgw : g < wr.heap.size := by omega
      obtain ⟨ha, hb'⟩ := pairs_at q.cl k hlt
      have hx0 : wr.cell? ⟨g, k * 2, none⟩ = some (.int .i64 (q.cl[k].1 : Int)) := by rw [hb.cell (p := ⟨g, k * 2, none⟩) hg']; exact hcell _ _ ha
      have hx1 : wr.cell? ⟨g, k * 2 + 1, none⟩ = some (.int .i64 (q.cl[k].2 : Int)) := by rw [hb.cell (p := ⟨g, k * 2 + 1, none⟩) hg']; exact hcell _ _ hb'
      have HT := hide (satQ_take q.cl (p0, n0) k hlt)
      have hbd := unhide HCL _ (List.getElem_mem hlt)
      have HOF := hide (satQ_of q.cl (p0, n0) k hlt)
      clear hcell ha hb'
      generalize q.cl[k] = c at *
      obtain ⟨p, n⟩ := c
      have HOK : Hid (okC (p, n) (p0, n0) = (((p &&& p0) ||| (n &&& n0) != 0) || (p &&& n != 0))) := hide rfl
      go_wp2_with fail
      refine (meets_any p n p0 n0 _ hbd.1 hbd.2 hp0 hn0).mono ?_
      rintro e w2 ⟨rfl, hb2⟩
      have hA : Below wr.heap.size wr (wr.alloc (.cells #[.int .i64 (p : Int), .int .i64 (n : Int)] 74)) := (Below.refl _ _).alloc (Nat.le_refl _) _
      have hb2' : Below wr.heap.size wr w2 := hA.trans (hb2.mono hA.size)
      have hb3 : Below w.heap.size w w2 := hb.trans (hb2'.mono hb.size)
      have hset2 := (hb2'.block _ hbs).trans hset
      have hc2 := (hb2.block _ (by simp)).trans (heap_alloc_new wr (.cells #[.int .i64 (p : Int), .int .i64 (n : Int)] 74))
      have d0 : w2.cell? ⟨wr.heap.size, 0, none⟩ = some (.int .i64 p) := by rw [blk_cell hc2]; rfl
      have d1 : w2.cell? ⟨wr.heap.size, 1, none⟩ = some (.int .i64 n) := by rw [blk_cell hc2]; rfl
      cases hh : ((p &&& p0) ||| (n &&& n0) != 0) with
      | true =>
        have HO1 : Hid (okC (p, n) (p0, n0) = true) := hide (by rw [unhide HOK, hh]; rfl)
        go_wp2_with fail
        go_roundg (gk - 1)
        case measure => omega
        case rel => exact ⟨k + 1, by go_num, by omega, by rw [unhide HT, unhide HNO, unhide HO1]; rfl, hb3, hset2⟩
      | false =>
        go_wp2_with fail
        refine (clashes_any p n w2 hbd.1 hbd.2).mono ?_
        rintro e w3 ⟨rfl, hb4⟩
        have hb5 : Below w.heap.size w w3 := hb3.trans (hb4.mono hb3.size)
        have hset3 := (hb4.block _ (blk_lt hset2)).trans hset2
        cases hc : (p &&& n != 0) with
        | true =>
          have HO1 : Hid (okC (p, n) (p0, n0) = true) := hide (by rw [unhide HOK, hh, hc]; rfl)
          go_wp2_with fail
          go_roundg (gk - 1)
          case measure => omega
          case rel => exact ⟨k + 1, by go_num, by omega, by rw [unhide HT, unhide HNO, unhide HO1]; rfl, hb5, hset3⟩
        | false =>
          have HF := hide (unhide HOF (by rw [unhide HOK, hh, hc]; rfl))
          go_wp2_with fail
          go_ret
          exact ⟨ret_bool (unhide HF).symm, hb5⟩
    · have hkl : k = q.cl.length := by omega
      subst hkl
      have hno := unhide HNO
      rw [List.take_length] at hno
      have HF := hide hno; clear hno
      go_wp2_with fail
      go_ret
      exact ⟨ret_bool (unhide HF).symm, hb⟩
end Go.Proofs.YtgipjjhkhfihpaaGreatDoor

namespace Go.Proofs.YtgipjjhkhfihpaaGreatDoor
open Go.RowKit

abbrev FactV (f : Nat × Nat) : Value := .agg #[.int .i64 (f.1 : Int), .int .i64 (f.2 : Int)]
def pOff (kind : Nat) : Nat := if kind = 2 then 8 else 6
set_option maxRecDepth 100000 in
set_option maxHeartbeats 800000 in
theorem sproof_any (b kind : Nat) (w : World) (_hb : b < w.heap.size) :
    Calls Tryz.prog 132 #[.pointer (some ⟨b, 0, none⟩), .int .i64 (kind : Int)] w fun e w' => e = .returned (.pointer (some ⟨b, pOff kind, none⟩)) ∧ w' = w := by
  by_cases h : kind = 2
  · subst h
    go_enter Tryz.func132, Tryz.ntmps132
    go_wp2_with fail
    go_ret
    exact ⟨rfl, rfl⟩
  · have hd : ((kind : Int) == 2) = false := by rw [beq_eq_false_iff_ne]; omega
    have HO : Hid (pOff kind = 6) := hide (by unfold pOff; rw [if_neg h])
    clear h
    go_enter Tryz.func132, Tryz.ntmps132
    go_wp2_with fail
    go_ret
    exact ⟨by rw [unhide HO]; rfl, rfl⟩
/-- The proof of a kind: where it lies. -/
theorem SAt.proofAt {w : World} {b : Nat} {C : SC} {S : SS} {V : SV} (h : SAt w b C S V) (kind : Nat) : ∃ vS, w.cell? ⟨b, pOff kind + 1, none⟩ = some vS ∧ w.ownsRow 0 134 6 vS (S.proof kind).length (psCells (S.proof kind)) := by
  by_cases e : kind = 2
  · subst e; exact ⟨V.a, by rw [blk_cell h.fb]; rfl, h.oA⟩
  · refine ⟨V.r, ?_, ?_⟩
    · rw [blk_cell h.fb]; unfold pOff; rw [if_neg e]; rfl
    · unfold SS.proof; rw [if_neg e]; exact h.oR
theorem SBd.proof {C : SC} {S : SS} (h : SBd C S) (kind : Nat) : (S.proof kind).length ≤ 100000 ∧ ∀ s ∈ S.proof kind, s.lits.1 < 512 ∧ s.lits.2 < 512 := by
  unfold SS.proof; split
  · exact ⟨h.al, h.aff⟩
  · exact ⟨h.rl, h.ref⟩
theorem SBd.lits {C : SC} {S : SS} (h : SBd C S) (f : Nat × Nat) : (S.lits f).1 < 512 ∧ (S.lits f).2 < 512 := litsAt_lt _ (h.proof f.1).2 _

set_option maxRecDepth 100000 in
set_option maxHeartbeats 800000 in
theorem slits_any (b : Nat) (C : SC) (S : SS) (V : SV) (f : Nat × Nat) (w : World) (hS : SAt w b C S V) (hB : SBd C S) :
    Calls Tryz.prog 134 #[.pointer (some ⟨b, 0, none⟩), FactV f] w fun e w' => e = .returned (SetV (S.lits f)) ∧ Below w.heap.size w w' := by
  obtain ⟨fk, fs⟩ := f
  have hbw := blk_lt hS.fb
  have HL : Hid (S.lits (fk, fs) = litsAt (S.proof fk) fs) := hide rfl
  have hlt := hB.lits (fk, fs)
  go_enter Tryz.func134, Tryz.ntmps134
  go_wp2_with fail
  generalize hw0 : ((w.alloc (.cells #[.int .i64 (fk : Int), .int .i64 (fs : Int)] 129)).alloc (.cells #[.int .i64 0, .int .i64 0] 74)) = u1
  have hBw : Below w.heap.size w u1 := by rw [← hw0]; exact ((Below.refl _ _).alloc (Nat.le_refl _) _).alloc (by simp) _
  have hfa : u1.heap[w.heap.size]? = some (.cells #[.int .i64 (fk : Int), .int .i64 (fs : Int)] 129 (0, 0)) := by rw [← hw0, heap_alloc_old _ _ (by simp)]; exact alloc_new_at (by simp)
  have hrs : u1.heap[w.heap.size + 1]? = some (.cells #[.int .i64 0, .int .i64 0] 74 (0, 0)) := by rw [← hw0]; exact alloc_new_at (by simp)
  clear hw0
  have cfa0 : u1.cell? ⟨w.heap.size, 0, none⟩ = some (.int .i64 (fk : Int)) := by rw [blk_cell hfa]; rfl
  have cfa1 : u1.cell? ⟨w.heap.size, 1, none⟩ = some (.int .i64 (fs : Int)) := by rw [blk_cell hfa]; rfl
  have lfa := blk_lt hfa
  have crs0 : u1.cell? ⟨w.heap.size + 1, 0, none⟩ = some (.int .i64 0) := by rw [blk_cell hrs]; rfl
  have crs1 : u1.cell? ⟨w.heap.size + 1, 1, none⟩ = some (.int .i64 0) := by rw [blk_cell hrs]; rfl
  have lrs := blk_lt hrs
  have hbw2 : b < u1.heap.size := Nat.lt_of_lt_of_le hbw hBw.size
  refine (sproof_any b fk _ hbw2).mono ?_
  rintro e w2 ⟨rfl, hw2⟩
  subst hw2
  obtain ⟨vS, hv1, hv2⟩ := (hS.later hBw).proofAt fk
  go_wp2_with fail
  refine (plits_any 0 b (pOff fk) (S.proof fk) vS fs _ hv1 hv2 (by have := (hB.proof fk).1; omega)).mono ?_
  rintro e w3 ⟨rfl, hb3⟩
  rw [← unhide HL]
  generalize hea : S.lits (fk, fs) = c at *
  have HEC := hide hea
  clear hea
  obtain ⟨c1, c2⟩ := c
  have hrs3 := (hb3.block _ (blk_lt hrs)).trans hrs
  have crs30 : w3.cell? ⟨w.heap.size + 1, 0, none⟩ = some (.int .i64 0) := by rw [blk_cell hrs3]; rfl
  have crs31 : w3.cell? ⟨w.heap.size + 1, 1, none⟩ = some (.int .i64 0) := by rw [blk_cell hrs3]; rfl
  have z0 := blk_free hrs3 0
  have z1 := blk_free hrs3 1
  have l3 := blk_lt hrs3
  have hR := blk_set (blk_set hrs3 0 (.int .i64 (c1 : Int))) 1 (.int .i64 (c2 : Int))
  have j0 := blk_cell hR 0
  have j1 := blk_cell hR 1
  go_wp2_with fail
  refine bodyPost_ret (v := SetV (c1, c2)) (by simp [results, Tryz.results134, go_sem, j0, j1]) rfl ⟨by rw [unhide HEC], ?_⟩
  exact ((hBw.trans (hb3.mono hBw.size)).setCell (p := ⟨w.heap.size + 1, 0, none⟩) (Nat.le_succ _) _).setCell (p := ⟨w.heap.size + 1, 1, none⟩) (Nat.le_succ _) _

set_option maxRecDepth 100000 in
set_option maxHeartbeats 800000 in
theorem shas_any (b : Nat) (C : SC) (S : SS) (V : SV) (f : Nat × Nat) (v : Nat) (w : World) (hS : SAt w b C S V) (hB : SBd C S) :
    Calls Tryz.prog 119 #[.pointer (some ⟨b, 0, none⟩), FactV f, .int .i64 (v : Int)] w fun e w' => e = .returned (.bool (hasVarB (S.lits f) v)) ∧ Below w.heap.size w w' := by
  obtain ⟨fk, fs⟩ := f
  have hbw := blk_lt hS.fb
  have hlt := hB.lits (fk, fs)
  have hA : Below w.heap.size w (w.alloc (.cells #[.int .i64 (fk : Int), .int .i64 (fs : Int)] 129)) := (Below.refl _ _).alloc (Nat.le_refl _) _
  go_enter Tryz.func119, Tryz.ntmps119
  go_wp2_with fail
  refine (slits_any b C S V (fk, fs) _ (hS.later hA) hB).mono ?_
  rintro e w2 ⟨rfl, hb2⟩
  have hB2 := hA.trans (hb2.mono hA.size)
  generalize hea : S.lits (fk, fs) = c at *
  have HEC := hide hea
  clear hea
  obtain ⟨c1, c2⟩ := c
  go_wp2_with fail
  have hA2 : Below w2.heap.size w2 (w2.alloc (.cells #[.int .i64 (c1 : Int), .int .i64 (c2 : Int)] 74)) := (Below.refl _ _).alloc (Nat.le_refl _) _
  have hB3 := hB2.trans (hA2.mono hB2.size)
  refine (hasVar_any c1 c2 v _ hlt.1 hlt.2).mono ?_
  rintro e w3 ⟨rfl, hb3⟩
  go_wp2_with fail
  go_ret
  exact ⟨by rw [unhide HEC]; rfl, hB3.trans (hb3.mono hB3.size)⟩
end Go.Proofs.YtgipjjhkhfihpaaGreatDoor
