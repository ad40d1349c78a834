import Derived.Test.YtgipjjhkhfihpaaGreatDoorAI
import Derived.Test.YtgipjjhkhfihpaaGreatDoorAA
import Derived.Test.YtgipjjhkhfihpaaGreatDoorAB
import Derived.Test.YtgipjjhkhfihpaaGreatDoorAC
namespace Go.Proofs.YtgipjjhkhfihpaaGreatDoor
open Go.RowKit

/-! ### findUnit -/
def unitSel (ref : List Stp) (vals : Nat × Nat) : Option Nat → Int × Nat
  | none => (0, 0)
  | some s => ((listOf (leftOf (litsAt ref s) vals)).headD 0, s)
theorem unitOf_sel (ref : List Stp) (uni : Nat × Nat) (cs : List Nat) (vals : Nat × Nat) : unitOf ref uni cs vals = unitSel ref vals (cs.find? (fun s => isUnit uni vals (litsAt ref s))) := by
  unfold unitOf
  cases cs.find? (fun s => isUnit uni vals (litsAt ref s)) <;> rfl
def UnitV (u : Int × Nat) : Value := .agg #[.int .i64 u.1, .int .i64 (u.2 : Int)]
/-- What findUnit must answer. -/
def FindUnitSpec : Prop := ∀ (b : Nat) (C : SC) (S : SS) (V : SV) (cs : List Nat) (aX : Option Addr) (cX base : Nat) (p : Nat × Nat) (w : World), SAt w b C S V → SBd C S → (p.1 < 512 ∧ p.2 < 512) → w.ownsRow base 3 1 (.slice aX cs.length cX) cs.length (ints cs) → cs.length ≤ 1048576 →
    Calls Tryz.prog 111 #[.pointer (some ⟨b, 0, none⟩), .slice aX cs.length cX, SetV p] w fun e w' => e = .returned (UnitV (unitOf S.ref C.uni cs p)) ∧ Below w.heap.size w w'
end Go.Proofs.YtgipjjhkhfihpaaGreatDoor

namespace Go.Proofs.YtgipjjhkhfihpaaGreatDoor

/-! ### Truth by all assignments, and why steps prove -/
/-- Variable by variable: one value that makes it so, or (of universal ones) both. -/
def fromL (sat : Nat → Bool) (all : Nat) : List Nat → Nat → Bool
  | [], t => sat t
  | v :: vs, t => if fromL sat all vs (t ||| 2 ^ v) != all.testBit v then fromL sat all vs (t ||| 2 ^ v) else fromL sat all vs t
/-- A set of literals is hit by t: it has one that is true (val: true), or one that is false (val: false). -/
def Hit (val : Bool) (c : Nat × Nat) (t : Nat) : Prop := ∃ v, (c.1.testBit v = true ∧ t.testBit v = val) ∨ (c.2.testBit v = true ∧ t.testBit v = !val)
/-- t comes out of t0 by values of vs, at each of which the outcome stays val. -/
def Plays (sat : Nat → Bool) (all : Nat) (val : Bool) : List Nat → Nat → Nat → Prop
  | [], t0, t => sat t0 = val ∧ t = t0
  | v :: vs, t0, t => fromL sat all (v :: vs) t0 = val ∧ ∃ b : Bool, Plays sat all val vs (if b then t0 ||| 2 ^ v else t0) t

section
variable {sat : Nat → Bool} {all : Nat} {val : Bool}

theorem Plays.from {vs : List Nat} {t0 t : Nat} (h : Plays sat all val vs t0 t) : fromL sat all vs t0 = val := by
  cases vs with
  | nil => exact h.1
  | cons v vs => exact h.1
theorem from_both {v : Nat} {vs : List Nat} {t : Nat} (h : fromL sat all (v :: vs) t = val) (hk : all.testBit v = val) (b : Bool) : fromL sat all vs (if b then t ||| 2 ^ v else t) = val := by
  rw [fromL, hk] at h
  cases ha : fromL sat all vs (t ||| 2 ^ v) <;> cases hv : val <;> cases b <;> simp_all
theorem from_one {v : Nat} {vs : List Nat} {t : Nat} (h : fromL sat all (v :: vs) t = val) : ∃ b : Bool, fromL sat all vs (if b then t ||| 2 ^ v else t) = val := by
  rw [fromL] at h
  split at h
  · exact ⟨true, h⟩
  · exact ⟨false, h⟩
theorem bit_or (t v u : Nat) : (t ||| 2 ^ v).testBit u = (t.testBit u || decide (v = u)) := by rw [Nat.testBit_or, Nat.testBit_two_pow]
theorem pick_bit (b : Bool) (t v u : Nat) (h : u ≠ v) : (if b then t ||| 2 ^ v else t).testBit u = t.testBit u := by
  cases b with
  | false => rfl
  | true => rw [if_pos rfl, bit_or]; simp [Ne.symm h]
theorem pick_at (b : Bool) (t v : Nat) (h : t.testBit v = false) : (if b then t ||| 2 ^ v else t).testBit v = b := by
  cases b with
  | false => exact h
  | true => rw [if_pos rfl, bit_or]; simp
/-- Bits of other variables stay. -/
theorem Plays.stays : ∀ {vs : List Nat} {t0 t : Nat}, Plays sat all val vs t0 t → ∀ u, u ∉ vs → t.testBit u = t0.testBit u := by
  intro vs
  induction vs with
  | nil => intro t0 t h u _; rw [h.2]
  | cons v vs ih =>
    intro t0 t h u hu
    obtain ⟨_, b, h⟩ := h
    rw [List.mem_cons, not_or] at hu
    rw [ih h u hu.2, pick_bit _ _ _ _ hu.1]
/-- Where the outcome is val, some play leads on, whatever values the variables have that are of the kind that val is for. -/
theorem plays_ext (f : Nat → Bool) : ∀ (vs : List Nat) (t0 : Nat), fromL sat all vs t0 = val → vs.Nodup → (∀ v ∈ vs, t0.testBit v = false) → ∃ t, Plays sat all val vs t0 t ∧ ∀ v ∈ vs, all.testBit v = val → t.testBit v = f v := by
  intro vs
  induction vs with
  | nil => intro t0 h _ _; exact ⟨t0, ⟨h, rfl⟩, by simp⟩
  | cons v vs ih =>
    intro t0 h hn h0
    rw [List.nodup_cons] at hn
    have hstep : ∃ b : Bool, fromL sat all vs (if b then t0 ||| 2 ^ v else t0) = val ∧ (all.testBit v = val → b = f v) := by
      by_cases hk : all.testBit v = val
      · exact ⟨f v, from_both h hk _, fun _ => rfl⟩
      · obtain ⟨b, hb⟩ := from_one h
        exact ⟨b, hb, fun e => absurd e hk⟩
    obtain ⟨b, hb, hf⟩ := hstep
    obtain ⟨t, hp, ht⟩ := ih _ hb hn.2 (fun u hu => by
      rw [pick_bit b t0 v u (fun e => hn.1 (by rw [← e]; exact hu))]
      exact h0 u (by simp [hu]))
    refine ⟨t, ⟨h, b, hp⟩, fun u hu hk => ?_⟩
    rcases List.mem_cons.1 hu with rfl | hu
    · rw [hp.stays u hn.1, pick_at _ _ _ (h0 u (by simp))]
      exact hf hk
    · exact ht u hu hk
theorem plays_any_one (vs : List Nat) (t0 : Nat) (h : fromL sat all vs t0 = val) (hn : vs.Nodup) (h0 : ∀ v ∈ vs, t0.testBit v = false) : ∃ t, Plays sat all val vs t0 t := by
  obtain ⟨t, ht, _⟩ := plays_ext (fun _ => false) vs t0 h hn h0
  exact ⟨t, ht⟩
/-- A play cut in two. -/
theorem Plays.cut : ∀ {a b : List Nat} {t0 t : Nat}, Plays sat all val (a ++ b) t0 t → ∃ t1, Plays sat all val b t1 t ∧ (∀ t', Plays sat all val b t1 t' → Plays sat all val (a ++ b) t0 t') ∧ (∀ u, u ∉ a → t1.testBit u = t0.testBit u) := by
  intro a
  induction a with
  | nil => intro b t0 t h; exact ⟨t0, h, fun t' h' => h', fun u _ => rfl⟩
  | cons v a ih =>
    intro b t0 t h
    obtain ⟨h1, c, h2⟩ := h
    obtain ⟨t1, h3, h4, h5⟩ := ih h2
    refine ⟨t1, h3, fun t' h' => ⟨h1, c, h4 t' h'⟩, fun u hu => ?_⟩
    rw [List.mem_cons, not_or] at hu
    rw [h5 u hu.2, pick_bit _ _ _ _ hu.1]
theorem Plays.leaf : ∀ {vs : List Nat} {t0 t : Nat}, Plays sat all val vs t0 t → sat t = val := by
  intro vs
  induction vs with
  | nil => intro t0 t h; rw [h.2]; exact h.1
  | cons v vs ih => intro t0 t h; obtain ⟨_, b, h⟩ := h; exact ih h

/-- What holds of every step of a proof. -/
structure Good (sat : Nat → Bool) (all : Nat) (val : Bool) (order : List Nat) (c : Nat × Nat) : Prop where
  apart : ∀ v, c.1.testBit v = true → c.2.testBit v = true → False
  vars : ∀ v, c.1.testBit v = true ∨ c.2.testBit v = true → v ∈ order
  hits : ∀ t, Plays sat all val order 0 t → Hit val c t

/-- Reduction. -/
theorem good_reduced {pre suf : List Nat} {c c' : Nat × Nat} (hg : Good sat all val (pre ++ suf) c) (hn : (pre ++ suf).Nodup)
    (hlast : ∀ v ∈ suf, c.1.testBit v = true ∨ c.2.testBit v = true → all.testBit v = val)
    (h1 : ∀ v, c'.1.testBit v = (c.1.testBit v && !(decide (v ∈ suf) && (all.testBit v == val)))) (h2 : ∀ v, c'.2.testBit v = (c.2.testBit v && !(decide (v ∈ suf) && (all.testBit v == val)))) : Good sat all val (pre ++ suf) c' := by
  have s1 : ∀ v, c'.1.testBit v = true → c.1.testBit v = true := fun v h => by rw [h1, Bool.and_eq_true] at h; exact h.1
  have s2 : ∀ v, c'.2.testBit v = true → c.2.testBit v = true := fun v h => by rw [h2, Bool.and_eq_true] at h; exact h.1
  refine ⟨fun v a b => hg.apart v (s1 v a) (s2 v b), fun v h => hg.vars v (h.elim (fun h => Or.inl (s1 v h)) (fun h => Or.inr (s2 v h))), fun t ht => ?_⟩
  obtain ⟨t1, h3, h4, h5⟩ := ht.cut
  rw [List.nodup_append] at hn
  obtain ⟨hn1, hn2, hn3⟩ := hn
  have hz : ∀ v ∈ suf, t1.testBit v = false := fun v hv => by
    rw [h5 v (fun hp => hn3 v hp v hv rfl)]; simp
  obtain ⟨t', hp', hf'⟩ := plays_ext (fun v => if c.1.testBit v then !val else val) suf t1 h3.from hn2 hz
  obtain ⟨v, hv⟩ := hg.hits t' (h4 t' hp')
  have hvo : v ∈ pre ++ suf := hg.vars v (hv.elim (fun h => Or.inl h.1) (fun h => Or.inr h.1))
  by_cases hs : v ∈ suf
  · have hk := hlast v hs (hv.elim (fun h => Or.inl h.1) (fun h => Or.inr h.1))
    have hb := hf' v hs hk
    rcases hv with ⟨a, b⟩ | ⟨a, b⟩
    · rw [b, a, if_pos rfl] at hb
      cases val <;> cases hb
    · have hc1 : c.1.testBit v = false := by
        cases h : c.1.testBit v with
        | false => rfl
        | true => exact (hg.apart v h a).elim
      rw [b, hc1, if_neg (by decide)] at hb
      cases val <;> cases hb
  · have e1 : t'.testBit v = t.testBit v := by rw [hp'.stays v hs, h3.stays v hs]
    refine ⟨v, ?_⟩
    rw [h1, h2, ← e1]
    simpa [hs] using hv
/-- Resolution. -/
theorem good_resolved {order : List Nat} {a b c : Nat × Nat} {p : Nat} (ha : Good sat all val order a) (hb : Good sat all val order b) (_hap : a.1.testBit p = true) (_hbp : b.2.testBit p = true)
    (h1 : ∀ v, c.1.testBit v = ((a.1.testBit v && !(decide (v = p))) || b.1.testBit v)) (h2 : ∀ v, c.2.testBit v = (a.2.testBit v || (b.2.testBit v && !(decide (v = p)))))
    (hc : ∀ v, c.1.testBit v = true → c.2.testBit v = true → False) : Good sat all val order c := by
  refine ⟨hc, fun v h => ?_, fun t ht => ?_⟩
  · rw [h1, h2] at h
    simp at h
    rcases h with (h | h) | (h | h)
    · exact ha.vars v (Or.inl h.1)
    · exact hb.vars v (Or.inl h)
    · exact ha.vars v (Or.inr h)
    · exact hb.vars v (Or.inr h.1)
  · obtain ⟨v, hv⟩ := ha.hits t ht
    obtain ⟨u, hu⟩ := hb.hits t ht
    rcases hv with ⟨x, y⟩ | ⟨x, y⟩
    · by_cases hvp : v = p
      · subst hvp
        rcases hu with ⟨x', y'⟩ | ⟨x', y'⟩
        · exact ⟨u, Or.inl ⟨by rw [h1]; simp [x'], y'⟩⟩
        · by_cases hup : u = v
          · subst hup
            rw [y] at y'
            cases val <;> cases y'
          · exact ⟨u, Or.inr ⟨by rw [h2]; simp [x', hup], y'⟩⟩
      · exact ⟨v, Or.inl ⟨by rw [h1]; simp [x, hvp], y⟩⟩
    · exact ⟨v, Or.inr ⟨by rw [h2]; simp [x], y⟩⟩
/-- A step with no literals ends it. -/
theorem good_empty {order : List Nat} {c : Nat × Nat} (hg : Good sat all val order c) (hn : order.Nodup) (h1 : c.1 = 0) (h2 : c.2 = 0) : fromL sat all order 0 = !val := by
  by_cases h : fromL sat all order 0 = val
  · obtain ⟨t, ht⟩ := plays_any_one order 0 h hn (fun v _ => by simp)
    obtain ⟨v, hv⟩ := hg.hits t ht
    rw [h1, h2] at hv
    simp at hv
  · cases val <;> cases hh : fromL sat all order 0 <;> simp_all
end
end Go.Proofs.YtgipjjhkhfihpaaGreatDoor

namespace Go.Proofs.YtgipjjhkhfihpaaGreatDoor
open Go.RowKit

/-! ### What a text proves, by the document -/
/-- A number from 1 to most; 0: none. -/
def cnt (w : List UInt8) (most : Nat) : Nat := if w.all isDigit = true ∧ w.length ≤ 6 ∧ w.head? ≠ some 48 ∧ dec w ≤ most then dec w else 0
def big : Nat := 1048576
def hasB (c : Nat × Nat) (v : Nat) : Bool := (c.1 ||| c.2).testBit v
/-- One more than the last place that bars reduction. -/
def lastTo (order : List Nat) (kind : Nat) (c : Nat × Nat) : Nat → Nat
  | 0 => 0
  | k + 1 => if hasB c (order.getD k 0) && !kind.testBit (order.getD k 0) then k + 1 else lastTo order kind c k
def clr (kind : Nat) (c : Nat × Nat) (v : Nat) : Nat × Nat := if kind.testBit v then (less c.1 (2 ^ v), less c.2 (2 ^ v)) else c
def redR (order : List Nat) (kind : Nat) (c : Nat × Nat) : Nat × Nat := (order.drop (lastTo order kind c order.length)).foldl (clr kind) c
def apartO (c : Nat × Nat) : Option (Nat × Nat) := if c.1 &&& c.2 = 0 then some c else none
def axR (F : Form) (k : Nat) : Option (Nat × Nat) := if k < 1 ∨ F.cl.length < k then none else apartO (F.cl.getD (k - 1) (0, 0))
def litVar (w : List UInt8) : Nat := if dig w = 0 then (dig w.tail).toNat else (dig w).toNat
def cubeTo (order : List Nat) : Nat × Nat → Nat → List (List UInt8) → Option (Nat × Nat)
  | c, _, [] => some c
  | c, last, w :: ws => if (litInto c w).2 = true ∧ last < litVar w ∧ litVar w ∈ order then cubeTo order (litInto c w).1 (litVar w) ws else none
def missed (x c : Nat × Nat) : Bool := (x.1 &&& x.2 == 0) && ((x.1 &&& c.1 == 0) && (x.2 &&& c.2 == 0))
def satR (cl : List (Nat × Nat)) (c : Nat × Nat) : Bool := cl.all (fun x => !missed x c)
def cubeR (F : Form) (tl : List (List UInt8)) : Option (Nat × Nat) := (cubeTo F.order (0, 0) 0 tl).bind (fun c => if satR F.cl c then some c else none)
def resolve2 (a b : Nat × Nat) (v : Nat) : Nat × Nat := (less a.1 (2 ^ v) ||| b.1, a.2 ||| less b.2 (2 ^ v))
def resR (F : Form) (truth : Bool) (ss : List (Nat × Nat)) (i j v : Nat) : Option (Nat × Nat) :=
  if i < 1 ∨ ss.length < i ∨ j < 1 ∨ ss.length < j ∨ v < 1 ∨ 8 < v then none else
  if F.all.testBit v ≠ truth ∨ (ss.getD (i - 1) (0, 0)).1.testBit v = false ∨ (ss.getD (j - 1) (0, 0)).2.testBit v = false then none else
  apartO (resolve2 (ss.getD (i - 1) (0, 0)) (ss.getD (j - 1) (0, 0)) v)
def kindR (F : Form) (truth : Bool) : Nat := if truth then less 510 F.all else F.all
def reductR (F : Form) (truth : Bool) (ss : List (Nat × Nat)) (i : Nat) : Option (Nat × Nat) :=
  if i < 1 ∨ ss.length < i then none else some (redR F.order (kindR F truth) (ss.getD (i - 1) (0, 0)))
/-- What a line adds to the steps. -/
def stepR (F : Form) (truth : Bool) (ss : List (Nat × Nat)) (hd : List UInt8) (tl : List (List UInt8)) : Option (Nat × Nat) :=
  if hd = [97] ∧ truth = false ∧ tl.length = 1 then axR F (cnt (tl.getD 0 []) big)
  else if hd = [99] ∧ truth = true then cubeR F tl
  else if hd = [114] ∧ tl.length = 3 then resR F truth ss (cnt (tl.getD 0 []) big) (cnt (tl.getD 1 []) big) (cnt (tl.getD 2 []) big)
  else if hd = [100] ∧ tl.length = 1 then reductR F truth ss (cnt (tl.getD 0 []) big)
  else none
def lineR (F : Form) (truth : Bool) (ss : List (Nat × Nat)) (row : List UInt8) : Option (Nat × Nat) :=
  match cutAt 32 row with
  | [] => none
  | hd :: tl => if ss.length = 9000 then none else stepR F truth ss hd tl
theorem lineR_eq (F : Form) (truth : Bool) (ss : List (Nat × Nat)) (row hd : List UInt8) (tl : List (List UInt8)) (h : cutAt 32 row = hd :: tl) : lineR F truth ss row = if ss.length = 9000 then none else stepR F truth ss hd tl := by
  unfold lineR; rw [h]
/-- Lines from the n-th on: the steps, or the first line that is none. -/
def rowsR (F : Form) (truth : Bool) : List (Nat × Nat) → Nat → List (List UInt8) → List (Nat × Nat) ⊕ Nat
  | ss, _, [] => .inl ss
  | ss, n, r :: rs => match lineR F truth ss r with
    | none => .inr (n + 1)
    | some c => rowsR F truth (ss ++ [c]) (n + 1) rs
def isTwo (row : List UInt8) : Bool := (cutAt 32 row).head? == some [114]
def twoR (rs : List (List UInt8)) : Nat := (rs.filter isTwo).length
def sTrue : List UInt8 := [112, 114, 111, 111, 102, 32, 116, 114, 117, 101]
def sFalse : List UInt8 := [112, 114, 111, 111, 102, 32, 102, 97, 108, 115, 101]
def emptyLast (ss : List (Nat × Nat)) : Bool := match ss.getLast? with
  | none => false
  | some c => c.1 ||| c.2 == 0
def provesR (F : Form) (l : List UInt8) : (Nat × Nat) ⊕ (Bool × Nat) :=
  if 262144 < l.length then .inl (1, 0) else
  match (cutTo 10 l).1 with
  | [] => .inl (5, 1)
  | r0 :: rs => if r0 = sTrue ∨ r0 = sFalse then
      match rowsR F (r0 == sTrue) [] 1 rs with
      | .inr i => .inl (5, i)
      | .inl ss => if (cutTo 10 l).2 = [] ∧ emptyLast ss = true then .inr (r0 == sTrue, twoR rs) else .inl (5, rs.length + 2)
    else .inl (5, 1)

/-! ### Bounds -/
def Bd (c : Nat × Nat) : Prop := c.1 < 512 ∧ c.2 < 512
theorem less_lt (a b : Nat) (h : a < 512) : less a b < 512 := Nat.lt_of_le_of_lt (less_le a b) h
theorem clr_bd (kind : Nat) (c : Nat × Nat) (v : Nat) (h : Bd c) : Bd (clr kind c v) := by
  unfold clr; split
  · exact ⟨less_lt _ _ h.1, less_lt _ _ h.2⟩
  · exact h
theorem clrs_bd (kind : Nat) (l : List Nat) : ∀ c, Bd c → Bd (l.foldl (clr kind) c) := by
  induction l with
  | nil => intro c h; exact h
  | cons v l ih => intro c h; exact ih _ (clr_bd kind c v h)
theorem litInto_bd (c : Nat × Nat) (w : List UInt8) (h : Bd c) : Bd (litInto c w).1 := litInto_lt c w h.1 h.2
theorem cubeTo_bd (order : List Nat) (ws : List (List UInt8)) : ∀ c last c', Bd c → cubeTo order c last ws = some c' → Bd c' := by
  induction ws with
  | nil => intro c last c' h e; simp [cubeTo] at e; subst e; exact h
  | cons w ws ih =>
    intro c last c' h e
    rw [cubeTo] at e
    split at e
    · exact ih _ _ _ (litInto_bd c w h) e
    · cases e
theorem apartO_some {c c' : Nat × Nat} (h : apartO c = some c') : c' = c ∧ c.1 &&& c.2 = 0 := by
  unfold apartO at h
  split at h
  · next hh => simp at h; exact ⟨h.symm, hh⟩
  · cases h
theorem getD_bd (l : List (Nat × Nat)) (k : Nat) (h : ∀ c ∈ l, Bd c) : Bd (l.getD k (0, 0)) := by
  rw [List.getD]
  cases hk : l[k]? with
  | none => exact ⟨by decide, by decide⟩
  | some c => exact h c (List.mem_of_getElem? hk)
theorem stepR_bd (F : Form) (truth : Bool) (ss : List (Nat × Nat)) (hd : List UInt8) (tl : List (List UInt8)) (c : Nat × Nat) (hF : ∀ c ∈ F.cl, Bd c) (hS : ∀ c ∈ ss, Bd c) (h : stepR F truth ss hd tl = some c) : Bd c := by
  unfold stepR at h
  split at h
  · unfold axR at h
    split at h
    · cases h
    · obtain ⟨rfl, _⟩ := apartO_some h; exact getD_bd _ _ hF
  · split at h
    · unfold cubeR at h
      cases hc : cubeTo F.order (0, 0) 0 tl with
      | none => rw [hc] at h; cases h
      | some c' =>
        rw [hc] at h
        simp only [Option.bind_some] at h
        split at h
        · simp at h; subst h; exact cubeTo_bd _ _ _ _ _ ⟨by decide, by decide⟩ hc
        · cases h
    · split at h
      · unfold resR at h
        split at h
        · cases h
        · split at h
          · cases h
          · obtain ⟨rfl, _⟩ := apartO_some h
            have h1 := getD_bd ss (cnt (tl.getD 0 []) big - 1) hS
            have h2 := getD_bd ss (cnt (tl.getD 1 []) big - 1) hS
            exact ⟨or_lt _ _ (less_lt _ _ h1.1) h2.1, or_lt _ _ h1.2 (less_lt _ _ h2.2)⟩
      · split at h
        · unfold reductR at h
          split at h
          · cases h
          · simp at h; subst h
            exact clrs_bd _ _ _ (getD_bd _ _ hS)
        · cases h
end Go.Proofs.YtgipjjhkhfihpaaGreatDoor

namespace Go.Proofs.YtgipjjhkhfihpaaGreatDoor
open Go.RowKit

def qOf (q : QS) (hd : List UInt8) (tl : List (List UInt8)) : Option QS :=
  if hd = [101] then (qPrefix q tl false).map (fun vs => { q with vars := vs })
  else if hd = [97] then (qPrefix q tl true).map (fun vs => { q with vars := vs })
  else if hd = [99] then (clTo (0, 0) tl).map (fun c => { q with cl := q.cl ++ [c] })
  else none
def qLine (q : QS) (line : List UInt8) : Option QS :=
  if splitOk line then (match cutAt 32 line with | [] => none | hd :: tl => qOf q hd tl) else none
theorem qLine_eq (q : QS) (line hd : List UInt8) (tl : List (List UInt8)) (h : cutAt 32 line = hd :: tl) (hs : splitOk line = true) : qLine q line = qOf q hd tl := by
  unfold qLine; rw [if_pos hs, h]
def LinePost (bq : Nat) (q : QS) (line : List UInt8) (w : World) (e : Ending) (w' : World) : Prop :=
  Below bq w w' ∧ match qLine q line with
    | none => e = .returned (.bool false)
    | some q' => e = .returned (.bool true) ∧ ∃ vV vC, QInv (bq + 1) w' bq q' vV vC

theorem line_of_pref {bq : Nat} {q : QS} {vC : Value} {tl : List (List UInt8)} {u : Bool} {line : List UInt8} {w w2 w3 : World} {e : Ending} (hb : Below w.heap.size w w2) (hbq : bq < w.heap.size) (hp : PrefPost bq q vC tl u w2 e w3)
    (hq : qLine q line = (qPrefix q tl u).map (fun vs => { q with vars := vs })) : LinePost bq q line w e w3 := by
  obtain ⟨h1, h2⟩ := hp
  refine ⟨(hb.mono (Nat.le_of_lt hbq)).trans h1, ?_⟩
  rw [hq]
  cases h : qPrefix q tl u with
  | none => rw [h] at h2; exact h2
  | some vs => rw [h] at h2; obtain ⟨h3, vV, h4⟩ := h2; exact ⟨h3, vV, vC, h4⟩
theorem line_of_cl {bq : Nat} {q : QS} {vV : Value} {tl : List (List UInt8)} {line : List UInt8} {w w2 w3 : World} {e : Ending} (hb : Below w.heap.size w w2) (hbq : bq < w.heap.size) (hp : ClPost bq q vV tl w2 e w3)
    (hq : qLine q line = (clTo (0, 0) tl).map (fun c => { q with cl := q.cl ++ [c] })) : LinePost bq q line w e w3 := by
  obtain ⟨h1, h2⟩ := hp
  refine ⟨(hb.mono (Nat.le_of_lt hbq)).trans h1, ?_⟩
  rw [hq]
  cases h : clTo (0, 0) tl with
  | none => rw [h] at h2; exact h2
  | some c => rw [h] at h2; obtain ⟨h3, vC, h4⟩ := h2; exact ⟨h3, vV, vC, h4⟩

theorem line_ret {bq : Nat} {q : QS} {line : List UInt8} {w w' : World} {e : Ending} (h : LinePost bq q line w e w') : ∃ b, e = .returned (.bool b) := by
  obtain ⟨_, h2⟩ := h
  cases hq : qLine q line with
  | none => rw [hq] at h2; exact ⟨_, h2⟩
  | some q' => rw [hq] at h2; exact ⟨_, h2.1⟩

set_option maxRecDepth 100000 in
set_option maxHeartbeats 1600000 in
theorem readLine_any (bq : Nat) (q : QS) (vV vC : Value) (line : List UInt8) (w : World) (hq : QInv (bq + 1) w bq q vV vC) (hl : line.length ≤ 2000) (hvl : q.vars.length ≤ 536870912) (hcl : q.cl.length ≤ 1048576) :
    Calls Tryz.prog 44 #[.pointer (some ⟨bq, 0, none⟩), .string ⟨line.toArray⟩] w fun e w' => LinePost bq q line w e w' := by
  have hbq := blk_lt hq.fb
  go_enter Tryz.func44, Tryz.ntmps44
  go_wp2_with fail
  refine (split_any line w (by omega)).mono ?_
  rintro e w2 ⟨hb, hsp⟩
  cases hok : splitOk line with
  | false =>
    rw [hok, if_neg (by decide)] at hsp
    subst hsp
    have HF : Hid (qLine q line = none) := hide (by unfold qLine; rw [hok]; rfl)
    go_wp2_with fail
    go_ret
    exact ⟨hb.mono (Nat.le_of_lt hbq), by rw [unhide HF]; rfl⟩
  | true =>
    rw [hok, if_pos rfl] at hsp
    obtain ⟨v, rfl, hown⟩ := hsp
    have hwl : (cutAt 32 line).length ≤ 2001 := by have := cutTo_size 32 line; simp [cutAt]; omega
    have hwl2 : ∀ x ∈ cutAt 32 line, x.length ≤ 1048576 := fun x hx => by have := cutAt_len 32 line x hx; omega
    obtain ⟨hd, tl, hws⟩ : ∃ hd tl, cutAt 32 line = hd :: tl := by
      cases h : cutAt 32 line with
      | nil => simp [cutAt] at h
      | cons a b => exact ⟨a, b, rfl⟩
    have HQ := hide (qLine_eq q line hd tl hws hok)
    rw [hws] at hown hwl hwl2
    clear hws hok
    rcases hown.2 with ⟨_, h0⟩ | ⟨g, cap, cur, rfl, hbg, hg, hnc, hcm, hcs, htake⟩
    · simp at h0
    simp only [List.length_cons] at hwl hnc
    have hc0 : w2.cell? ⟨g, 0, none⟩ = some (S hd) := by
      rw [hown.cellAt 0 (by simp)]; rfl
    have HST : Hid (∀ ao : Option Addr, (tl ≠ [] → ao = some ⟨g, 1, none⟩) → StrsAt w2 ao tl) := hide (fun ao ho hne => ⟨g, 1, cur, ho hne, hg, fun j hj => by
      have h1 := hown.cellAt (1 + j) (by simp; omega)
      rw [blk_cell hg] at h1
      rw [h1]
      simp [show 1 + j = j + 1 from by omega, hj]⟩)
    have HWL : Hid (∀ x ∈ tl, x.length ≤ 1048576) := hide (fun x hx => hwl2 x (List.mem_cons_of_mem _ hx))
    have hq2 := hq.later hb
    clear hwl2 htake hcs hcm hg
    simp only [List.length_cons]
    have hne0 : (((tl.length + 1 : Nat) : Int) == 0) = false := by rw [beq_eq_false_iff_ne]; omega
    by_cases he : hd = [101]
    · subst he
      have HR : Hid (qLine q line = (qPrefix q tl false).map (fun vs => { q with vars := vs })) := hide (by rw [unhide HQ]; rfl)
      go_wp2_with fail
      all_goals
        refine (readPrefix_any bq q vV vC tl false _ _ w2 hq2 (unhide HST _ (fun hne => by first | rfl | (exfalso; apply hne; exact List.eq_nil_of_length_eq_zero (by omega)))) (by omega) (unhide HWL) hvl hcl).mono ?_
        intro e w3 hp
        have hL := line_of_pref (line := line) hb hbq hp (unhide HR)
        obtain ⟨b, rfl⟩ := line_ret hL
        have HL := hide hL
        clear hp hL
        go_wp2_with fail
        go_ret
        exact unhide HL
    · have heb : (hd == [101]) = false := by simp [he]
      by_cases ha : hd = [97]
      · subst ha
        have HR : Hid (qLine q line = (qPrefix q tl true).map (fun vs => { q with vars := vs })) := hide (by rw [unhide HQ]; rfl)
        go_wp2_with fail
        all_goals
          refine (readPrefix_any bq q vV vC tl true _ _ w2 hq2 (unhide HST _ (fun hne => by first | rfl | (exfalso; apply hne; exact List.eq_nil_of_length_eq_zero (by omega)))) (by omega) (unhide HWL) hvl hcl).mono ?_
          intro e w3 hp
          have hL := line_of_pref (line := line) hb hbq hp (unhide HR)
          obtain ⟨b, rfl⟩ := line_ret hL
          have HL := hide hL
          clear hp hL
          go_wp2_with fail
          go_ret
          exact unhide HL
      · have hab : (hd == [97]) = false := by simp [ha]
        by_cases hc : hd = [99]
        · subst hc
          have HR : Hid (qLine q line = (clTo (0, 0) tl).map (fun c => { q with cl := q.cl ++ [c] })) := hide (by rw [unhide HQ]; rfl)
          go_wp2_with fail
          all_goals
            refine (readClause_any bq q vV vC tl _ _ w2 hq2 (unhide HST _ (fun hne => by first | rfl | (exfalso; apply hne; exact List.eq_nil_of_length_eq_zero (by omega)))) (by omega) (unhide HWL) hcl).mono ?_
            intro e w3 hp
            have hL := line_of_cl (line := line) hb hbq hp (unhide HR)
            obtain ⟨b, rfl⟩ := line_ret hL
            have HL := hide hL
            clear hp hL
            go_wp2_with fail
            go_ret
            exact unhide HL
        · have hcb : (hd == [99]) = false := by simp [hc]
          have HR : Hid (qLine q line = none) := hide (by rw [unhide HQ, qOf, if_neg he, if_neg ha, if_neg hc])
          clear he ha hc
          go_wp2_with fail
          all_goals
            go_ret
            exact ⟨hb.mono (Nat.le_of_lt hbq), by rw [unhide HR]; rfl⟩
end Go.Proofs.YtgipjjhkhfihpaaGreatDoor

namespace Go.Proofs.YtgipjjhkhfihpaaGreatDoor
open Go.RowKit

/-- Lines from the i-th on: what the program holds behind them, or the first line that is none. -/
def qRows : QS → Nat → List (List UInt8) → QS ⊕ Nat
  | q, _, [] => .inl q
  | q, i, r :: rs => match qLine q r with
    | none => .inr (i + 1)
    | some q' => qRows q' (i + 1) rs
def qFinish (q : QS) : QS := { q with vars := exv (freeQ q 8) ++ q.vars }
def loadSpec (l : List UInt8) : (Nat × Nat) ⊕ QS :=
  if 2000 < l.length then .inl (1, 0) else
  match qRows ⟨[], []⟩ 0 (cutTo 10 l).1 with
  | .inr i => .inl (2, i)
  | .inl q => if (cutTo 10 l).2 ≠ [] then .inl (2, (cutTo 10 l).1.length + 1) else if 24 < q.cl.length then .inl (3, 0) else .inr (qFinish q)

/-- What holds of the program's formula behind k lines. -/
structure QOk (q : QS) (k : Nat) : Prop where
  vl : q.vars.length ≤ 2001 * k
  ll : q.cl.length ≤ k
  cl : ∀ c ∈ q.cl, c.1 < 512 ∧ c.2 < 512
theorem prefTo_len (u : Bool) (ws : List (List UInt8)) : ∀ (vs vs' : List (Nat × Bool)), prefTo u vs ws = some vs' → vs'.length = vs.length + ws.length := by
  induction ws with
  | nil => intro vs vs' h; simp [prefTo] at h; subst h; rfl
  | cons w ws ih =>
    intro vs vs' h
    rw [prefTo] at h
    split at h
    · cases h
    · have := ih _ _ h
      simp at this ⊢; omega
theorem clTo_lt (ws : List (List UInt8)) : ∀ (c c' : Nat × Nat), c.1 < 512 → c.2 < 512 → clTo c ws = some c' → c'.1 < 512 ∧ c'.2 < 512 := by
  induction ws with
  | nil => intro c c' h1 h2 h; simp [clTo] at h; subst h; exact ⟨h1, h2⟩
  | cons w ws ih =>
    intro c c' h1 h2 h
    rw [clTo] at h
    split at h
    · have := withLit_lt c (litNum w) h1 h2
      exact ih _ _ this.1 this.2 h
    · cases h
theorem qLine_ok {q q' : QS} {k : Nat} {r : List UInt8} (hr : r.length ≤ 2000) (hq : QOk q k) (h : qLine q r = some q') : QOk q' (k + 1) := by
  unfold qLine at h
  split at h
  · split at h
    · cases h
    · next hd tl hws =>
      have hwl : (cutAt 32 r).length ≤ 2001 := by have := cutTo_size 32 r; simp [cutAt]; omega
      rw [hws] at hwl
      simp at hwl
      have hpre : ∀ u vs, qPrefix q tl u = some vs → vs.length ≤ 2001 * (k + 1) := by
        intro u vs hv
        unfold qPrefix at hv
        split at hv
        · cases hv
        · have := prefTo_len u tl _ _ hv
          have := hq.vl
          omega
      unfold qOf at h
      split at h
      · cases hp : qPrefix q tl false with
        | none => rw [hp] at h; cases h
        | some vs =>
          rw [hp] at h; simp at h; subst h
          exact ⟨hpre _ _ hp, Nat.le_succ_of_le hq.ll, hq.cl⟩
      · split at h
        · cases hp : qPrefix q tl true with
          | none => rw [hp] at h; cases h
          | some vs =>
            rw [hp] at h; simp at h; subst h
            exact ⟨hpre _ _ hp, Nat.le_succ_of_le hq.ll, hq.cl⟩
        · split at h
          · cases hp : clTo (0, 0) tl with
            | none => rw [hp] at h; cases h
            | some c =>
              rw [hp] at h; simp at h; subst h
              refine ⟨by have := hq.vl; dsimp only; omega, by have := hq.ll; simp; omega, ?_⟩
              intro c' hc'
              simp at hc'
              rcases hc' with hc' | hc'
              · exact hq.cl c' hc'
              · subst hc'; exact clTo_lt tl _ _ (by decide) (by decide) hp
          · cases h
  · cases h

def LoadPost (l : List UInt8) (w : World) (e : Ending) (w' : World) : Prop :=
  Below w.heap.size w w' ∧ match loadSpec l with
    | .inl (x, i) => e = .returned (.tuple #[.agg #[.slice none 0 0, .slice none 0 0], .int .i64 (x : Int), .int .i64 (i : Int)])
    | .inr q => ∃ vV vC, e = .returned (.tuple #[.agg #[vV, vC], .int .i64 0, .int .i64 0]) ∧ w'.ownsRow w.heap.size 139 2 vV q.vars.length (varCells q.vars) ∧ w'.ownsRow w.heap.size 74 2 vC q.cl.length (pairs q.cl)

set_option maxRecDepth 100000 in
set_option maxHeartbeats 1600000 in
theorem qload_any (l : List UInt8) (w : World) : Calls Tryz.prog 23 #[.string ⟨l.toArray⟩] w fun e w' => LoadPost l w e w' := by
  by_cases hlong : 2000 < l.length
  · have hd : decide ((2000 : Int) < (l.length : Int)) = true := by simp; omega
    have HF : Hid (loadSpec l = .inl (1, 0)) := hide (by unfold loadSpec; rw [if_pos hlong])
    clear hlong
    go_enter Tryz.func23, Tryz.ntmps23
    go_wp2_with fail
    refine bodyPost_ret (v := .tuple #[.agg #[.slice none 0 0, .slice none 0 0], .int .i64 1, .int .i64 0]) (by simp [results, Tryz.results23, go_sem]) rfl ⟨(Below.refl _ _).alloc (Nat.le_refl _) _, ?_⟩
    rw [unhide HF]; rfl
  · have hl : l.length ≤ 2000 := by omega
    have hd : decide ((2000 : Int) < (l.length : Int)) = false := by simp; omega
    have hdr := cutTo_size 10 l
    have HSP : Hid (loadSpec l = match qRows ⟨[], []⟩ 0 (cutTo 10 l).1 with
      | .inr i => .inl (2, i)
      | .inl q => if (cutTo 10 l).2 ≠ [] then .inl (2, (cutTo 10 l).1.length + 1) else if 24 < q.cl.length then .inl (3, 0) else .inr (qFinish q)) := hide (by unfold loadSpec; rw [if_neg hlong])
    clear hlong
    go_enter Tryz.func23, Tryz.ntmps23
    go_wp2_with fail
    refine (lines_any l _ (by omega)).mono ?_
    rintro e w1 ⟨v, rfl, hown, hb1⟩
    have hsz1 : w.heap.size < w1.heap.size := by have := hb1.size; simp at this; omega
    have hb0 : Below w.heap.size w w1 := ((Below.refl _ _).alloc (Nat.le_refl _) _).trans (hb1.mono (by simp))
    have hbr : w1.heap[w.heap.size]? = some (.cells #[.slice none 0 0, .slice none 0 0] 60 (0, 0)) := by
      rw [hb1.block _ (by simp)]; exact heap_alloc_new _ _
    have HRL : Hid (∀ r ∈ (cutTo 10 l).1, r.length ≤ 2000) := hide (fun r hr => by
      have := cutAt_len 10 l r (by unfold cutAt; exact List.mem_append_left _ hr); omega)
    generalize hrows : (cutTo 10 l).1 = rows at *
    obtain ⟨aL, cL, rfl⟩ := own_form hown
    obtain ⟨ended, hended⟩ : ∃ b, decide ((cutTo 10 l).2 = []) = b := ⟨_, rfl⟩
    rw [hended]
    have HE := hide hended
    clear hended hrows
    have hown1 := own_lo (lo := 0) hown (Nat.zero_le _)
    clear hown
    have hrows2 : rows.length ≤ 2000 := by omega
    clear hdr
    go_wp2_with fail
    go_loopg [22] (rows.length) (fun n i wx => ∃ (k : Nat) (q : QS) (vV vC : Value), i = .int .i64 k ∧ k + n = rows.length ∧ QOk q k ∧ QInv (w1.heap.size + 1) wx w1.heap.size q vV vC ∧ Below w1.heap.size w1 wx ∧ qRows ⟨[], []⟩ 0 rows = qRows q k (rows.drop k))
    case atStart =>
      exact ⟨0, ⟨[], []⟩, _, _, rfl, by omega, ⟨by simp, by simp, by simp⟩, ⟨heap_alloc_new _ _, World.ownsRow_nil _ _ _ _, World.ownsRow_nil _ _ _ _⟩, (Below.refl _ _).alloc (Nat.le_refl _) _, rfl⟩
    case round =>
      obtain ⟨k, q, vV, vC, rfl, hk, hqo, hqi, hbx, hrr⟩ := hrel
      have hvl := hqo.vl
      have hll := hqo.ll
      have hbrx : wr.heap[w.heap.size]? = some (.cells #[.slice none 0 0, .slice none 0 0] 60 (0, 0)) := (hbx.block _ hsz1).trans hbr
      have hr0 : wr.cell? ⟨w.heap.size, 0, none⟩ = some (.slice none 0 0) := by rw [blk_cell hbrx]; rfl
      have hr1 : wr.cell? ⟨w.heap.size, 1, none⟩ = some (.slice none 0 0) := by rw [blk_cell hbrx]; rfl
      by_cases hlt : k < rows.length
      · obtain ⟨g, cap, hV, hg, hg', _, hcell⟩ := own_pos hown1 (by omega)
        injection hV with hV _ hV2
        subst hV hV2
        have hcj : wr.cell? ⟨g, k, none⟩ = some (S rows[k]) := by
          rw [hbx.cell (p := ⟨g, k, none⟩) hg']; exact hcell k _ (by simp [hlt])
        have hrl := unhide HRL _ (List.getElem_mem hlt)
        rw [List.drop_eq_getElem_cons hlt, qRows] at hrr
        have HRR := hide hrr; clear hrr hcell
        go_wp2_with fail
        refine (readLine_any w1.heap.size q vV vC rows[k] wr hqi hrl (by omega) (by omega)).mono ?_
        rintro e w2 ⟨hb2, hp⟩
        have hb3 : Below w1.heap.size w1 w2 := hbx.trans hb2
        cases hq : qLine q rows[k] with
        | none =>
          rw [hq] at hp
          have hp' : e = .returned (.bool false) := hp
          subst hp'
          have HF : Hid (loadSpec l = .inl (2, k + 1)) := hide (by rw [unhide HSP, unhide HRR, hq])
          have hbr2 : w2.heap[w.heap.size]? = some (.cells #[.slice none 0 0, .slice none 0 0] 60 (0, 0)) := (hb3.block _ hsz1).trans hbr
          have hs0 : w2.cell? ⟨w.heap.size, 0, none⟩ = some (.slice none 0 0) := by rw [blk_cell hbr2]; rfl
          have hs1 : w2.cell? ⟨w.heap.size, 1, none⟩ = some (.slice none 0 0) := by rw [blk_cell hbr2]; rfl
          have hz0 := blk_free hbr2 0
          have hz1 := blk_free hbr2 1
          clear hp
          go_wp2_with fail
          refine bodyPost_ret (v := .tuple #[.agg #[.slice none 0 0, .slice none 0 0], .int .i64 2, .int .i64 ((k : Int) + 1)]) (by simp [results, Tryz.results23, go_sem, hs0, hs1]) rfl ⟨?_, ?_⟩
          · exact ((hb0.trans (hb3.mono (by omega))).setCell (p := ⟨w.heap.size, 0, none⟩) (Nat.le_refl _) _).setCell (p := ⟨w.heap.size, 1, none⟩) (Nat.le_refl _) _
          · rw [unhide HF]; exact congrArg (fun m : Int => Ending.returned (.tuple #[.agg #[.slice none 0 0, .slice none 0 0], .int .i64 2, .int .i64 m])) (by omega)
        | some q' =>
          rw [hq] at hp
          have hp' : e = .returned (.bool true) ∧ ∃ vV vC, QInv (w1.heap.size + 1) w2 w1.heap.size q' vV vC := hp
          obtain ⟨rfl, vV', vC', hqi'⟩ := hp'
          have HF : Hid (qRows ⟨[], []⟩ 0 rows = qRows q' (k + 1) (rows.drop (k + 1))) := hide (by rw [unhide HRR, hq])
          have HQO := hide (qLine_ok hrl hqo hq)
          clear hp hq
          go_wp2_with fail
          go_roundg (gk - 1)
          case measure => omega
          case rel => exact ⟨k + 1, q', vV', vC', by go_num, by omega, unhide HQO, hqi', hb3, unhide HF⟩
      · have hkl : k = rows.length := by omega
        subst hkl
        rw [List.drop_length] at hrr
        have HRR : Hid (qRows ⟨[], []⟩ 0 rows = .inl q) := hide hrr
        clear hrr
        have hz0 := blk_free hbrx 0
        have hz1 := blk_free hbrx 1
        cases ended with
        | false =>
          have HF : Hid (loadSpec l = .inl (2, rows.length + 1)) := hide (by
            rw [unhide HSP, unhide HRR]; dsimp only; rw [if_pos (of_decide_eq_false (unhide HE))])
          go_wp2_with fail
          refine bodyPost_ret (v := .tuple #[.agg #[.slice none 0 0, .slice none 0 0], .int .i64 2, .int .i64 ((rows.length : Int) + 1)]) (by simp [results, Tryz.results23, go_sem, hr0, hr1]) rfl ⟨?_, ?_⟩
          · exact ((hb0.trans (hbx.mono (by omega))).setCell (p := ⟨w.heap.size, 0, none⟩) (Nat.le_refl _) _).setCell (p := ⟨w.heap.size, 1, none⟩) (Nat.le_refl _) _
          · rw [unhide HF]; exact congrArg (fun m : Int => Ending.returned (.tuple #[.agg #[.slice none 0 0, .slice none 0 0], .int .i64 2, .int .i64 m])) (by omega)
        | true =>
          have hf1 : wr.cell? ⟨w1.heap.size, 1, none⟩ = some vC := by rw [blk_cell hqi.fb]; rfl
          obtain ⟨aC, cC, rfl⟩ := own_form hqi.oC
          by_cases h24 : 24 < q.cl.length
          · have hd24 : decide ((24 : Int) < (q.cl.length : Int)) = true := by simp; omega
            have HF : Hid (loadSpec l = .inl (3, 0)) := hide (by
              rw [unhide HSP, unhide HRR]; dsimp only; rw [if_neg (fun h => h (of_decide_eq_true (unhide HE))), if_pos h24])
            go_wp2_with fail
            refine bodyPost_ret (v := .tuple #[.agg #[.slice none 0 0, .slice none 0 0], .int .i64 3, .int .i64 0]) (by simp [results, Tryz.results23, go_sem, hr0, hr1]) rfl ⟨?_, ?_⟩
            · exact ((hb0.trans (hbx.mono (by omega))).setCell (p := ⟨w.heap.size, 0, none⟩) (Nat.le_refl _) _).setCell (p := ⟨w.heap.size, 1, none⟩) (Nat.le_refl _) _
            · rw [unhide HF]; rfl
          · have hd24 : decide ((24 : Int) < (q.cl.length : Int)) = false := by simp; omega
            have HF : Hid (loadSpec l = .inr (qFinish q)) := hide (by
              rw [unhide HSP, unhide HRR]; dsimp only; rw [if_neg (fun h => h (of_decide_eq_true (unhide HE))), if_neg h24])
            go_wp2_with fail
            refine (withFree_any (w1.heap.size + 1) w1.heap.size q vV _ wr hqi (by omega) (by omega) hqo.cl).mono ?_
            rintro e w2 ⟨v2, rfl, hown2, hb2⟩
            have hqi2 := hqi.later hb2
            have hbq : w1.heap.size < wr.heap.size := blk_lt hqi.fb
            have hbr2 : w2.heap[w.heap.size]? = some (.cells #[.slice none 0 0, .slice none 0 0] 60 (0, 0)) := (hb2.block _ (by omega)).trans hbrx
            have hs0 : w2.cell? ⟨w.heap.size, 0, none⟩ = some (.slice none 0 0) := by rw [blk_cell hbr2]; rfl
            have hs1 : w2.cell? ⟨w.heap.size, 1, none⟩ = some (.slice none 0 0) := by rw [blk_cell hbr2]; rfl
            have hy0 := blk_free hbr2 0
            have hy1 := blk_free hbr2 1
            have hg0 : w2.cell? ⟨w1.heap.size, 0, none⟩ = some vV := by rw [blk_cell hqi2.fb]; rfl
            have hg1 : w2.cell? ⟨w1.heap.size, 1, none⟩ = some (.slice aC q.cl.length cC) := by rw [blk_cell hqi2.fb]; rfl
            have hx0 := blk_free hqi2.fb 0
            have hne1 : w.heap.size ≠ w1.heap.size := by omega
            have hne2 : w1.heap.size ≠ w.heap.size := by omega
            obtain ⟨a2, c2, rfl⟩ := own_form hown2
            have hbel : Below w.heap.size w w2 := hb0.trans ((hbx.trans (hb2.mono (by omega))).mono (by omega))
            have hO1 := ownsRow_setCell_below (ownsRow_setCell_below (ownsRow_setCell_below hown2 (a := ⟨w1.heap.size, 0, none⟩) (by exact hbq) (.slice a2 (exv (freeQ q 8) ++ q.vars).length c2)) (a := ⟨w.heap.size, 0, none⟩) (show w.heap.size < wr.heap.size by omega) (.slice a2 (exv (freeQ q 8) ++ q.vars).length c2)) (a := ⟨w.heap.size, 1, none⟩) (show w.heap.size < wr.heap.size by omega) (.slice aC q.cl.length cC)
            have hO2 := ownsRow_setCell_below (ownsRow_setCell_below (ownsRow_setCell_below hqi2.oC (a := ⟨w1.heap.size, 0, none⟩) (Nat.lt_succ_self _) (.slice a2 (exv (freeQ q 8) ++ q.vars).length c2)) (a := ⟨w.heap.size, 0, none⟩) (show w.heap.size < w1.heap.size + 1 by omega) (.slice a2 (exv (freeQ q 8) ++ q.vars).length c2)) (a := ⟨w.heap.size, 1, none⟩) (show w.heap.size < w1.heap.size + 1 by omega) (.slice aC q.cl.length cC)
            have HO1 := hide hO1
            have HO2 := hide hO2
            clear hO1 hO2
            generalize hnn : (exv (freeQ q 8) ++ q.vars).length = nn at *
            go_wp2_with fail
            refine bodyPost_ret (v := .tuple #[.agg #[.slice a2 nn c2, .slice aC q.cl.length cC], .int .i64 0, .int .i64 0]) (by simp [results, Tryz.results23, go_sem, hs0, hs1]) rfl ⟨?_, ?_⟩
            · exact ((hbel.setCell (p := ⟨w1.heap.size, 0, none⟩) (by exact Nat.le_of_lt hsz1) _).setCell (p := ⟨w.heap.size, 0, none⟩) (Nat.le_refl _) _).setCell (p := ⟨w.heap.size, 1, none⟩) (Nat.le_refl _) _
            · rw [unhide HF]
              refine ⟨_, _, rfl, ?_, ?_⟩
              · have := own_lo (lo := w.heap.size) (unhide HO1) (by omega)
                show World.ownsRow _ w.heap.size _ 2 _ (exv (freeQ q 8) ++ q.vars).length (varCells (exv (freeQ q 8) ++ q.vars))
                rw [hnn]; exact this
              · exact own_lo (lo := w.heap.size) (unhide HO2) (by omega)
end Go.Proofs.YtgipjjhkhfihpaaGreatDoor

namespace Go.Proofs.YtgipjjhkhfihpaaGreatDoor
open Go.RowKit

theorem alloc_new_at' {w : World} {o : Obj} {n : Nat} (h : n = w.heap.size) : (w.alloc o).heap[n]? = some o := by subst h; exact heap_alloc_new w o
/-- The program's formula, as Load hands it out, at block b, its blocks from lo on. -/
structure ProgAt (lo : Nat) (w : World) (b : Nat) (q : QS) : Prop where
  lo_le : lo ≤ b
  at_ : ∃ vV vC, w.heap[b]? = some (.cells #[vV, vC] 64 (0, 0)) ∧ w.ownsRow lo 139 2 vV q.vars.length (varCells q.vars) ∧ w.ownsRow lo 74 2 vC q.cl.length (pairs q.cl)
def DLoadPost (l : List UInt8) (w : World) (e : Ending) (w' : World) : Prop :=
  Below w.heap.size w w' ∧ match loadSpec l with
    | .inl (x, i) => e = .returned (.tuple #[.pointer none, .int .i64 (x : Int), .int .i64 (i : Int)])
    | .inr q => ∃ b, e = .returned (.tuple #[.pointer (some ⟨b, 0, none⟩), .int .i64 0, .int .i64 0]) ∧ ProgAt w.heap.size w' b q
theorem loadSpec_pos (l : List UInt8) (x i : Nat) (h : loadSpec l = .inl (x, i)) : 0 < x := by
  unfold loadSpec at h
  split at h
  · simp at h; omega
  · split at h
    · simp at h; omega
    · split at h
      · simp at h; omega
      · split at h
        · simp at h; omega
        · cases h

set_option maxRecDepth 100000 in
set_option maxHeartbeats 800000 in
theorem load_any (l : List UInt8) (w : World) : Calls Tryz.prog 16 #[.string ⟨l.toArray⟩] w fun e w' => DLoadPost l w e w' := by
  go_enter Tryz.func16, Tryz.ntmps16
  go_wp2_with fail
  refine (qload_any l w).mono ?_
  rintro e w1 ⟨hb, hp⟩
  cases hq : loadSpec l with
  | inl xi =>
    obtain ⟨x, i⟩ := xi
    rw [hq] at hp
    have hp' : e = .returned (.tuple #[.agg #[.slice none 0 0, .slice none 0 0], .int .i64 (x : Int), .int .i64 (i : Int)]) := hp
    subst hp'
    have hx := loadSpec_pos l x i hq
    have hxb : ((x : Int) != 0) = true := by rw [bne_iff_ne]; omega
    have HQ := hide hq
    clear hp hq
    go_wp2_with fail
    go_ret3
    exact ⟨hb.alloc hb.size _, by rw [unhide HQ]; rfl⟩
  | inr q =>
    rw [hq] at hp
    have hp' : ∃ vV vC, e = .returned (.tuple #[.agg #[vV, vC], .int .i64 0, .int .i64 0]) ∧ w1.ownsRow w.heap.size 139 2 vV q.vars.length (varCells q.vars) ∧ w1.ownsRow w.heap.size 74 2 vC q.cl.length (pairs q.cl) := hp
    obtain ⟨vV, vC, rfl, hV, hC⟩ := hp'
    have HQ := hide hq
    clear hp hq
    obtain ⟨a1, c1, rfl⟩ := own_form hV
    obtain ⟨a2, c2, rfl⟩ := own_form hC
    go_wp2_with fail
    go_ret3
    refine ⟨(hb.alloc hb.size _).alloc (by simp; have := hb.size; omega) _, ?_⟩
    rw [unhide HQ]
    refine ⟨_, rfl, by have := hb.size; simp; omega, _, _, alloc_new_at' (by simp), (hV.alloc _).alloc _, (hC.alloc _).alloc _⟩
end Go.Proofs.YtgipjjhkhfihpaaGreatDoor
