import Derived.Test.YtgipjjhkhfihpaaGreatDoorAA
import Derived.Test.YtgipjjhkhfihpaaGreatDoorAC
import Derived.Test.YtgipjjhkhfihpaaGreatDoorAB
import Derived.Deep.QuietTactic
import Derived.BigQuiet
namespace Go.Proofs.YtgipjjhkhfihpaaGreatDoor

/-! ### Truth by all assignments, and why steps prove -/
/-- Variable by variable: one value that makes it so, or (of universal ones) both. -/
def fromL (sat : Nat → Bool) (all : Nat) : List Nat → Nat → Bool
  | [], t => sat t
  | v :: vs, t => if fromL sat all vs (t ||| 2 ^ v) != all.testBit v then fromL sat all vs (t ||| 2 ^ v) else fromL sat all vs t
/-- A set of literals is hit by t: it has one that is true (val: true), or one that is false (val: false). -/
def Hit (val : Bool) (c : Nat × Nat) (t : Nat) : Prop := ∃ v, (c.1.testBit v = true ∧ t.testBit v = val) ∨ (c.2.testBit v = true ∧ t.testBit v = !val)
/-- t comes out of t0 by values of vs, at each of which the outcome stays val. -/
def Plays (sat : Nat → Bool) (all : Nat) (val : Bool) : List Nat → Nat → Nat → Prop
  | [], t0, t => sat t0 = val ∧ t = t0
  | v :: vs, t0, t => fromL sat all (v :: vs) t0 = val ∧ ∃ b : Bool, Plays sat all val vs (if b then t0 ||| 2 ^ v else t0) t

section
variable {sat : Nat → Bool} {all : Nat} {val : Bool}

theorem Plays.from {vs : List Nat} {t0 t : Nat} (h : Plays sat all val vs t0 t) : fromL sat all vs t0 = val := by
  cases vs with
  | nil => exact h.1
  | cons v vs => exact h.1
theorem from_both {v : Nat} {vs : List Nat} {t : Nat} (h : fromL sat all (v :: vs) t = val) (hk : all.testBit v = val) (b : Bool) : fromL sat all vs (if b then t ||| 2 ^ v else t) = val := by
  rw [fromL, hk] at h
  cases ha : fromL sat all vs (t ||| 2 ^ v) <;> cases hv : val <;> cases b <;> simp_all
theorem from_one {v : Nat} {vs : List Nat} {t : Nat} (h : fromL sat all (v :: vs) t = val) : ∃ b : Bool, fromL sat all vs (if b then t ||| 2 ^ v else t) = val := by
  rw [fromL] at h
  split at h
  · exact ⟨true, h⟩
  · exact ⟨false, h⟩
theorem bit_or (t v u : Nat) : (t ||| 2 ^ v).testBit u = (t.testBit u || decide (v = u)) := by rw [Nat.testBit_or, Nat.testBit_two_pow]
theorem pick_bit (b : Bool) (t v u : Nat) (h : u ≠ v) : (if b then t ||| 2 ^ v else t).testBit u = t.testBit u := by
  cases b with
  | false => rfl
  | true => rw [if_pos rfl, bit_or]; simp [Ne.symm h]
theorem pick_at (b : Bool) (t v : Nat) (h : t.testBit v = false) : (if b then t ||| 2 ^ v else t).testBit v = b := by
  cases b with
  | false => exact h
  | true => rw [if_pos rfl, bit_or]; simp
/-- Bits of other variables stay. -/
theorem Plays.stays : ∀ {vs : List Nat} {t0 t : Nat}, Plays sat all val vs t0 t → ∀ u, u ∉ vs → t.testBit u = t0.testBit u := by
  intro vs
  induction vs with
  | nil => intro t0 t h u _; rw [h.2]
  | cons v vs ih =>
    intro t0 t h u hu
    obtain ⟨_, b, h⟩ := h
    rw [List.mem_cons, not_or] at hu
    rw [ih h u hu.2, pick_bit _ _ _ _ hu.1]
/-- Where the outcome is val, some play leads on, whatever values the variables have that are of the kind that val is for. -/
theorem plays_ext (f : Nat → Bool) : ∀ (vs : List Nat) (t0 : Nat), fromL sat all vs t0 = val → vs.Nodup → (∀ v ∈ vs, t0.testBit v = false) → ∃ t, Plays sat all val vs t0 t ∧ ∀ v ∈ vs, all.testBit v = val → t.testBit v = f v := by
  intro vs
  induction vs with
  | nil => intro t0 h _ _; exact ⟨t0, ⟨h, rfl⟩, by simp⟩
  | cons v vs ih =>
    intro t0 h hn h0
    rw [List.nodup_cons] at hn
    have hstep : ∃ b : Bool, fromL sat all vs (if b then t0 ||| 2 ^ v else t0) = val ∧ (all.testBit v = val → b = f v) := by
      by_cases hk : all.testBit v = val
      · exact ⟨f v, from_both h hk _, fun _ => rfl⟩
      · obtain ⟨b, hb⟩ := from_one h
        exact ⟨b, hb, fun e => absurd e hk⟩
    obtain ⟨b, hb, hf⟩ := hstep
    obtain ⟨t, hp, ht⟩ := ih _ hb hn.2 (fun u hu => by
      rw [pick_bit b t0 v u (fun e => hn.1 (by rw [← e]; exact hu))]
      exact h0 u (by simp [hu]))
    refine ⟨t, ⟨h, b, hp⟩, fun u hu hk => ?_⟩
    rcases List.mem_cons.1 hu with rfl | hu
    · rw [hp.stays u hn.1, pick_at _ _ _ (h0 u (by simp))]
      exact hf hk
    · exact ht u hu hk
theorem plays_any_one (vs : List Nat) (t0 : Nat) (h : fromL sat all vs t0 = val) (hn : vs.Nodup) (h0 : ∀ v ∈ vs, t0.testBit v = false) : ∃ t, Plays sat all val vs t0 t := by
  obtain ⟨t, ht, _⟩ := plays_ext (fun _ => false) vs t0 h hn h0
  exact ⟨t, ht⟩
/-- A play cut in two. -/
theorem Plays.cut : ∀ {a b : List Nat} {t0 t : Nat}, Plays sat all val (a ++ b) t0 t → ∃ t1, Plays sat all val b t1 t ∧ (∀ t', Plays sat all val b t1 t' → Plays sat all val (a ++ b) t0 t') ∧ (∀ u, u ∉ a → t1.testBit u = t0.testBit u) := by
  intro a
  induction a with
  | nil => intro b t0 t h; exact ⟨t0, h, fun t' h' => h', fun u _ => rfl⟩
  | cons v a ih =>
    intro b t0 t h
    obtain ⟨h1, c, h2⟩ := h
    obtain ⟨t1, h3, h4, h5⟩ := ih h2
    refine ⟨t1, h3, fun t' h' => ⟨h1, c, h4 t' h'⟩, fun u hu => ?_⟩
    rw [List.mem_cons, not_or] at hu
    rw [h5 u hu.2, pick_bit _ _ _ _ hu.1]
theorem Plays.leaf : ∀ {vs : List Nat} {t0 t : Nat}, Plays sat all val vs t0 t → sat t = val := by
  intro vs
  induction vs with
  | nil => intro t0 t h; rw [h.2]; exact h.1
  | cons v vs ih => intro t0 t h; obtain ⟨_, b, h⟩ := h; exact ih h

/-- What holds of every step of a proof. -/
structure Good (sat : Nat → Bool) (all : Nat) (val : Bool) (order : List Nat) (c : Nat × Nat) : Prop where
  apart : ∀ v, c.1.testBit v = true → c.2.testBit v = true → False
  vars : ∀ v, c.1.testBit v = true ∨ c.2.testBit v = true → v ∈ order
  hits : ∀ t, Plays sat all val order 0 t → Hit val c t

/-- Reduction. -/
theorem good_reduced {pre suf : List Nat} {c c' : Nat × Nat} (hg : Good sat all val (pre ++ suf) c) (hn : (pre ++ suf).Nodup)
    (hlast : ∀ v ∈ suf, c.1.testBit v = true ∨ c.2.testBit v = true → all.testBit v = val)
    (h1 : ∀ v, c'.1.testBit v = (c.1.testBit v && !(decide (v ∈ suf) && (all.testBit v == val)))) (h2 : ∀ v, c'.2.testBit v = (c.2.testBit v && !(decide (v ∈ suf) && (all.testBit v == val)))) : Good sat all val (pre ++ suf) c' := by
  have s1 : ∀ v, c'.1.testBit v = true → c.1.testBit v = true := fun v h => by rw [h1, Bool.and_eq_true] at h; exact h.1
  have s2 : ∀ v, c'.2.testBit v = true → c.2.testBit v = true := fun v h => by rw [h2, Bool.and_eq_true] at h; exact h.1
  refine ⟨fun v a b => hg.apart v (s1 v a) (s2 v b), fun v h => hg.vars v (h.elim (fun h => Or.inl (s1 v h)) (fun h => Or.inr (s2 v h))), fun t ht => ?_⟩
  obtain ⟨t1, h3, h4, h5⟩ := ht.cut
  rw [List.nodup_append] at hn
  obtain ⟨hn1, hn2, hn3⟩ := hn
  have hz : ∀ v ∈ suf, t1.testBit v = false := fun v hv => by
    rw [h5 v (fun hp => hn3 v hp v hv rfl)]; simp
  obtain ⟨t', hp', hf'⟩ := plays_ext (fun v => if c.1.testBit v then !val else val) suf t1 h3.from hn2 hz
  obtain ⟨v, hv⟩ := hg.hits t' (h4 t' hp')
  have hvo : v ∈ pre ++ suf := hg.vars v (hv.elim (fun h => Or.inl h.1) (fun h => Or.inr h.1))
  by_cases hs : v ∈ suf
  · have hk := hlast v hs (hv.elim (fun h => Or.inl h.1) (fun h => Or.inr h.1))
    have hb := hf' v hs hk
    rcases hv with ⟨a, b⟩ | ⟨a, b⟩
    · rw [b, a, if_pos rfl] at hb
      cases val <;> cases hb
    · have hc1 : c.1.testBit v = false := by
        cases h : c.1.testBit v with
        | false => rfl
        | true => exact (hg.apart v h a).elim
      rw [b, hc1, if_neg (by decide)] at hb
      cases val <;> cases hb
  · have e1 : t'.testBit v = t.testBit v := by rw [hp'.stays v hs, h3.stays v hs]
    refine ⟨v, ?_⟩
    rw [h1, h2, ← e1]
    simpa [hs] using hv
/-- Resolution. -/
theorem good_resolved {order : List Nat} {a b c : Nat × Nat} {p : Nat} (ha : Good sat all val order a) (hb : Good sat all val order b) (_hap : a.1.testBit p = true) (_hbp : b.2.testBit p = true)
    (h1 : ∀ v, c.1.testBit v = ((a.1.testBit v && !(decide (v = p))) || b.1.testBit v)) (h2 : ∀ v, c.2.testBit v = (a.2.testBit v || (b.2.testBit v && !(decide (v = p)))))
    (hc : ∀ v, c.1.testBit v = true → c.2.testBit v = true → False) : Good sat all val order c := by
  refine ⟨hc, fun v h => ?_, fun t ht => ?_⟩
  · rw [h1, h2] at h
    simp at h
    rcases h with (h | h) | (h | h)
    · exact ha.vars v (Or.inl h.1)
    · exact hb.vars v (Or.inl h)
    · exact ha.vars v (Or.inr h)
    · exact hb.vars v (Or.inr h.1)
  · obtain ⟨v, hv⟩ := ha.hits t ht
    obtain ⟨u, hu⟩ := hb.hits t ht
    rcases hv with ⟨x, y⟩ | ⟨x, y⟩
    · by_cases hvp : v = p
      · subst hvp
        rcases hu with ⟨x', y'⟩ | ⟨x', y'⟩
        · exact ⟨u, Or.inl ⟨by rw [h1]; simp [x'], y'⟩⟩
        · by_cases hup : u = v
          · subst hup
            rw [y] at y'
            cases val <;> cases y'
          · exact ⟨u, Or.inr ⟨by rw [h2]; simp [x', hup], y'⟩⟩
      · exact ⟨v, Or.inl ⟨by rw [h1]; simp [x, hvp], y⟩⟩
    · exact ⟨v, Or.inr ⟨by rw [h2]; simp [x], y⟩⟩
/-- A step with no literals ends it. -/
theorem good_empty {order : List Nat} {c : Nat × Nat} (hg : Good sat all val order c) (hn : order.Nodup) (h1 : c.1 = 0) (h2 : c.2 = 0) : fromL sat all order 0 = !val := by
  by_cases h : fromL sat all order 0 = val
  · obtain ⟨t, ht⟩ := plays_any_one order 0 h hn (fun v _ => by simp)
    obtain ⟨v, hv⟩ := hg.hits t ht
    rw [h1, h2] at hv
    simp at hv
  · cases val <;> cases hh : fromL sat all order 0 <;> simp_all
end
end Go.Proofs.YtgipjjhkhfihpaaGreatDoor

namespace Go.Proofs.YtgipjjhkhfihpaaGreatDoor
open Go.RowKit

/-! ### What a text proves, by the document -/
/-- A number from 1 to most; 0: none. -/
def cnt (w : List UInt8) (most : Nat) : Nat := if w.all isDigit = true ∧ w.length ≤ 6 ∧ w.head? ≠ some 48 ∧ dec w ≤ most then dec w else 0
def big : Nat := 1048576
def hasB (c : Nat × Nat) (v : Nat) : Bool := (c.1 ||| c.2).testBit v
/-- One more than the last place that bars reduction. -/
def lastTo (order : List Nat) (kind : Nat) (c : Nat × Nat) : Nat → Nat
  | 0 => 0
  | k + 1 => if hasB c (order.getD k 0) && !kind.testBit (order.getD k 0) then k + 1 else lastTo order kind c k
def clr (kind : Nat) (c : Nat × Nat) (v : Nat) : Nat × Nat := if kind.testBit v then (less c.1 (2 ^ v), less c.2 (2 ^ v)) else c
def redR (order : List Nat) (kind : Nat) (c : Nat × Nat) : Nat × Nat := (order.drop (lastTo order kind c order.length)).foldl (clr kind) c
def apartO (c : Nat × Nat) : Option (Nat × Nat) := if c.1 &&& c.2 = 0 then some c else none
def axR (F : Form) (k : Nat) : Option (Nat × Nat) := if k < 1 ∨ F.cl.length < k then none else apartO (F.cl.getD (k - 1) (0, 0))
def litVar (w : List UInt8) : Nat := if dig w = 0 then (dig w.tail).toNat else (dig w).toNat
def cubeTo (order : List Nat) : Nat × Nat → Nat → List (List UInt8) → Option (Nat × Nat)
  | c, _, [] => some c
  | c, last, w :: ws => if (litInto c w).2 = true ∧ last < litVar w ∧ litVar w ∈ order then cubeTo order (litInto c w).1 (litVar w) ws else none
def missed (x c : Nat × Nat) : Bool := (x.1 &&& x.2 == 0) && ((x.1 &&& c.1 == 0) && (x.2 &&& c.2 == 0))
def satR (cl : List (Nat × Nat)) (c : Nat × Nat) : Bool := cl.all (fun x => !missed x c)
def cubeR (F : Form) (tl : List (List UInt8)) : Option (Nat × Nat) := (cubeTo F.order (0, 0) 0 tl).bind (fun c => if satR F.cl c then some c else none)
def resolve2 (a b : Nat × Nat) (v : Nat) : Nat × Nat := (less a.1 (2 ^ v) ||| b.1, a.2 ||| less b.2 (2 ^ v))
def resR (F : Form) (truth : Bool) (ss : List (Nat × Nat)) (i j v : Nat) : Option (Nat × Nat) :=
  if i < 1 ∨ ss.length < i ∨ j < 1 ∨ ss.length < j ∨ v < 1 ∨ 8 < v then none else
  if F.all.testBit v ≠ truth ∨ (ss.getD (i - 1) (0, 0)).1.testBit v = false ∨ (ss.getD (j - 1) (0, 0)).2.testBit v = false then none else
  apartO (resolve2 (ss.getD (i - 1) (0, 0)) (ss.getD (j - 1) (0, 0)) v)
def kindR (F : Form) (truth : Bool) : Nat := if truth then less 510 F.all else F.all
def reductR (F : Form) (truth : Bool) (ss : List (Nat × Nat)) (i : Nat) : Option (Nat × Nat) :=
  if i < 1 ∨ ss.length < i then none else some (redR F.order (kindR F truth) (ss.getD (i - 1) (0, 0)))
/-- What a line adds to the steps. -/
def stepR (F : Form) (truth : Bool) (ss : List (Nat × Nat)) (hd : List UInt8) (tl : List (List UInt8)) : Option (Nat × Nat) :=
  if hd = [97] ∧ truth = false ∧ tl.length = 1 then axR F (cnt (tl.getD 0 []) big)
  else if hd = [99] ∧ truth = true then cubeR F tl
  else if hd = [114] ∧ tl.length = 3 then resR F truth ss (cnt (tl.getD 0 []) big) (cnt (tl.getD 1 []) big) (cnt (tl.getD 2 []) big)
  else if hd = [100] ∧ tl.length = 1 then reductR F truth ss (cnt (tl.getD 0 []) big)
  else none
def lineR (F : Form) (truth : Bool) (ss : List (Nat × Nat)) (row : List UInt8) : Option (Nat × Nat) :=
  match cutAt 32 row with
  | [] => none
  | hd :: tl => if ss.length = 9000 then none else stepR F truth ss hd tl
theorem lineR_eq (F : Form) (truth : Bool) (ss : List (Nat × Nat)) (row hd : List UInt8) (tl : List (List UInt8)) (h : cutAt 32 row = hd :: tl) : lineR F truth ss row = if ss.length = 9000 then none else stepR F truth ss hd tl := by
  unfold lineR; rw [h]
/-- Lines from the n-th on: the steps, or the first line that is none. -/
def rowsR (F : Form) (truth : Bool) : List (Nat × Nat) → Nat → List (List UInt8) → List (Nat × Nat) ⊕ Nat
  | ss, _, [] => .inl ss
  | ss, n, r :: rs => match lineR F truth ss r with
    | none => .inr (n + 1)
    | some c => rowsR F truth (ss ++ [c]) (n + 1) rs
def isTwo (row : List UInt8) : Bool := (cutAt 32 row).head? == some [114]
def twoR (rs : List (List UInt8)) : Nat := (rs.filter isTwo).length
def sTrue : List UInt8 := [112, 114, 111, 111, 102, 32, 116, 114, 117, 101]
def sFalse : List UInt8 := [112, 114, 111, 111, 102, 32, 102, 97, 108, 115, 101]
def emptyLast (ss : List (Nat × Nat)) : Bool := match ss.getLast? with
  | none => false
  | some c => c.1 ||| c.2 == 0
def provesR (F : Form) (l : List UInt8) : (Nat × Nat) ⊕ (Bool × Nat) :=
  if 262144 < l.length then .inl (1, 0) else
  match (cutTo 10 l).1 with
  | [] => .inl (5, 1)
  | r0 :: rs => if r0 = sTrue ∨ r0 = sFalse then
      match rowsR F (r0 == sTrue) [] 1 rs with
      | .inr i => .inl (5, i)
      | .inl ss => if (cutTo 10 l).2 = [] ∧ emptyLast ss = true then .inr (r0 == sTrue, twoR rs) else .inl (5, rs.length + 2)
    else .inl (5, 1)

/-! ### Bounds -/
def Bd (c : Nat × Nat) : Prop := c.1 < 512 ∧ c.2 < 512
theorem less_lt (a b : Nat) (h : a < 512) : less a b < 512 := Nat.lt_of_le_of_lt (less_le a b) h
theorem clr_bd (kind : Nat) (c : Nat × Nat) (v : Nat) (h : Bd c) : Bd (clr kind c v) := by
  unfold clr; split
  · exact ⟨less_lt _ _ h.1, less_lt _ _ h.2⟩
  · exact h
theorem clrs_bd (kind : Nat) (l : List Nat) : ∀ c, Bd c → Bd (l.foldl (clr kind) c) := by
  induction l with
  | nil => intro c h; exact h
  | cons v l ih => intro c h; exact ih _ (clr_bd kind c v h)
theorem litInto_bd (c : Nat × Nat) (w : List UInt8) (h : Bd c) : Bd (litInto c w).1 := litInto_lt c w h.1 h.2
theorem cubeTo_bd (order : List Nat) (ws : List (List UInt8)) : ∀ c last c', Bd c → cubeTo order c last ws = some c' → Bd c' := by
  induction ws with
  | nil => intro c last c' h e; simp [cubeTo] at e; subst e; exact h
  | cons w ws ih =>
    intro c last c' h e
    rw [cubeTo] at e
    split at e
    · exact ih _ _ _ (litInto_bd c w h) e
    · cases e
theorem apartO_some {c c' : Nat × Nat} (h : apartO c = some c') : c' = c ∧ c.1 &&& c.2 = 0 := by
  unfold apartO at h
  split at h
  · next hh => simp at h; exact ⟨h.symm, hh⟩
  · cases h
theorem getD_bd (l : List (Nat × Nat)) (k : Nat) (h : ∀ c ∈ l, Bd c) : Bd (l.getD k (0, 0)) := by
  rw [List.getD]
  cases hk : l[k]? with
  | none => exact ⟨by decide, by decide⟩
  | some c => exact h c (List.mem_of_getElem? hk)
theorem stepR_bd (F : Form) (truth : Bool) (ss : List (Nat × Nat)) (hd : List UInt8) (tl : List (List UInt8)) (c : Nat × Nat) (hF : ∀ c ∈ F.cl, Bd c) (hS : ∀ c ∈ ss, Bd c) (h : stepR F truth ss hd tl = some c) : Bd c := by
  unfold stepR at h
  split at h
  · unfold axR at h
    split at h
    · cases h
    · obtain ⟨rfl, _⟩ := apartO_some h; exact getD_bd _ _ hF
  · split at h
    · unfold cubeR at h
      cases hc : cubeTo F.order (0, 0) 0 tl with
      | none => rw [hc] at h; cases h
      | some c' =>
        rw [hc] at h
        simp only [Option.bind_some] at h
        split at h
        · simp at h; subst h; exact cubeTo_bd _ _ _ _ _ ⟨by decide, by decide⟩ hc
        · cases h
    · split at h
      · unfold resR at h
        split at h
        · cases h
        · split at h
          · cases h
          · obtain ⟨rfl, _⟩ := apartO_some h
            have h1 := getD_bd ss (cnt (tl.getD 0 []) big - 1) hS
            have h2 := getD_bd ss (cnt (tl.getD 1 []) big - 1) hS
            exact ⟨or_lt _ _ (less_lt _ _ h1.1) h2.1, or_lt _ _ h1.2 (less_lt _ _ h2.2)⟩
      · split at h
        · unfold reductR at h
          split at h
          · cases h
          · simp at h; subst h
            exact clrs_bd _ _ _ (getD_bd _ _ hS)
        · cases h
end Go.Proofs.YtgipjjhkhfihpaaGreatDoor

namespace Go.Proofs.YtgipjjhkhfihpaaGreatDoor
open Go.RowKit

/-! ### Satisfied -/
def satC (c : Nat × Nat) (t : Nat) : Bool := !((c.1 &&& t == 0) && (less c.2 t == 0))
def satB (cl : List (Nat × Nat)) (t : Nat) : Bool := cl.all (satC · t)
theorem satB_take (cl : List (Nat × Nat)) (t k : Nat) (h : k < cl.length) : satB (cl.take (k + 1)) t = (satB (cl.take k) t && satC cl[k] t) := by
  unfold satB; rw [List.take_succ_eq_append_getElem h, List.all_append]; simp
theorem satB_of (cl : List (Nat × Nat)) (t k : Nat) (h : k < cl.length) (hc : satC cl[k] t = false) : satB cl t = false := by
  unfold satB; rw [List.all_eq_false]; exact ⟨cl[k], List.getElem_mem h, by rw [hc]; decide⟩
theorem nat_beq_zero (n : Nat) : ((n : Int) == 0) = (n == 0) := by
  rw [Bool.eq_iff_iff, beq_iff_eq, beq_iff_eq]; omega

set_option maxRecDepth 100000 in
set_option maxHeartbeats 1600000 in
theorem satisfied_any (lo b t : Nat) (F : Form) (w : World) (hR : RefAt lo w b F) (ht : t < 512) (hcl : ∀ c ∈ F.cl, c.1 < 512 ∧ c.2 < 512) (hl : F.cl.length ≤ 1073741824) :
    Calls Tryz.prog 40 #[.pointer (some ⟨b, 0, none⟩), .int .i64 t] w fun e w' => e = .returned (.bool (satB F.cl t)) ∧ Below w.heap.size w w' := by
  obtain ⟨_, vO, vE, vC, hfb, _, _, hC⟩ := hR
  obtain ⟨aC, cC, rfl⟩ := own_form hC
  have k3 : w.cell? ⟨b, 3, none⟩ = some (.slice aC F.cl.length cC) := by rw [blk_cell hfb]; rfl
  have hbl := blk_lt hfb
  have HCL := hide hcl; clear hcl
  go_enter Tryz.func40, Tryz.ntmps40
  go_wp2_with fail
  go_loopg [5] F.cl.length (fun q i wx => ∃ k : Nat, i = .int .i64 k ∧ k + q = F.cl.length ∧ satB (F.cl.take k) t = true ∧ Below w.heap.size w wx)
  case atStart => exact ⟨0, rfl, by omega, rfl, Below.refl _ _⟩
  case round =>
    obtain ⟨k, rfl, hk, hs, hb⟩ := hrel
    have HS := hide hs; clear hs
    have hbs := hb.size
    have x3 : wr.cell? ⟨b, 3, none⟩ = some (.slice aC F.cl.length cC) := by rw [hb.cell (p := ⟨b, 3, none⟩) hbl]; exact k3
    by_cases hlt : k < F.cl.length
    · obtain ⟨g, cap, hV, hg, hg', _, hcell⟩ := own_pos hC (by omega)
      injection hV with hV _ hV2
      subst hV hV2
      have hgw : g < wr.heap.size := by omega
      obtain ⟨ha, hb'⟩ := pairs_at F.cl k hlt
      have hx0 : wr.cell? ⟨g, k * 2, none⟩ = some (.int .i64 (F.cl[k].1 : Int)) := by rw [hb.cell (p := ⟨g, k * 2, none⟩) hg']; exact hcell _ _ ha
      have hx1 : wr.cell? ⟨g, k * 2 + 1, none⟩ = some (.int .i64 (F.cl[k].2 : Int)) := by rw [hb.cell (p := ⟨g, k * 2 + 1, none⟩) hg']; exact hcell _ _ hb'
      have HT := hide (satB_take F.cl t k hlt)
      have HO := hide (satB_of F.cl t k hlt)
      obtain ⟨hb1, hb2⟩ := unhide HCL _ (List.getElem_mem hlt)
      clear hcell ha hb'
      generalize F.cl[k] = c at *
      obtain ⟨p, n⟩ := c
      dsimp only at hx0 hx1 hb1 hb2
      have h1 : (bits .and .i64 (p : Int) (t : Int) == 0) = (p &&& t == 0) := by rw [i64_and _ _ (by omega) (by omega), nat_beq_zero]
      have h2 : (bits .andNot .i64 (n : Int) (t : Int) == 0) = (less n t == 0) := by rw [i64_andNot _ _ (by omega) (by omega), nat_beq_zero]
      have HC : Hid (satC (p, n) t = !((p &&& t == 0) && (less n t == 0))) := hide rfl
      cases e1 : (p &&& t == 0) with
      | false =>
        rw [e1] at h1
        have HC1 : Hid (satC (p, n) t = true) := hide (by rw [unhide HC, e1]; rfl)
        clear e1
        go_wp2_with fail
        go_roundg (gk - 1)
        case measure => omega
        case rel => exact ⟨k + 1, by go_num, by omega, by rw [unhide HT, unhide HS, unhide HC1]; rfl, hb⟩
      | true =>
        rw [e1] at h1
        cases e2 : (less n t == 0) with
        | false =>
          rw [e2] at h2
          have HC1 : Hid (satC (p, n) t = true) := hide (by rw [unhide HC, e1, e2]; rfl)
          clear e1 e2
          go_wp2_with fail
          go_roundg (gk - 1)
          case measure => omega
          case rel => exact ⟨k + 1, by go_num, by omega, by rw [unhide HT, unhide HS, unhide HC1]; rfl, hb⟩
        | true =>
          rw [e2] at h2
          have HF : Hid (satB F.cl t = false) := hide (unhide HO (by rw [unhide HC, e1, e2]; rfl))
          clear e1 e2
          go_wp2_with fail
          go_ret
          exact ⟨ret_bool (unhide HF).symm, hb⟩
    · have hkl : k = F.cl.length := by omega
      subst hkl
      have hs := unhide HS
      rw [List.take_length] at hs
      have HF := hide hs; clear hs
      go_wp2_with fail
      go_ret
      exact ⟨ret_bool (unhide HF).symm, hb⟩
end Go.Proofs.YtgipjjhkhfihpaaGreatDoor

namespace Go.Proofs.YtgipjjhkhfihpaaGreatDoor
open Go.RowKit

theorem bits_apart {a b : Nat} (h : a &&& b = 0) (v : Nat) (ha : a.testBit v = true) (hb : b.testBit v = true) : False := by
  have : (a &&& b).testBit v = true := by rw [Nat.testBit_and, ha, hb]; rfl
  rw [h] at this; simp at this
theorem apart_bits {a b : Nat} (h : ∀ v, a.testBit v = true → b.testBit v = true → False) : a &&& b = 0 := by
  apply Nat.eq_of_testBit_eq
  intro v
  rw [Nat.testBit_and, Nat.zero_testBit]
  cases ha : a.testBit v with
  | false => rfl
  | true =>
    cases hb : b.testBit v with
    | false => rfl
    | true => exact (h v ha hb).elim
theorem some_bit {a : Nat} (h : a ≠ 0) : ∃ v, a.testBit v = true := by
  apply Classical.byContradiction
  intro hn
  apply h
  apply Nat.eq_of_testBit_eq
  intro v
  rw [Nat.zero_testBit]
  cases hv : a.testBit v with
  | false => rfl
  | true => exact (hn ⟨v, hv⟩).elim

theorem getD_at {α : Type} (l : List α) (k : Nat) (d : α) (h : k < l.length) : l.getD k d = l[k] := by
  rw [List.getD, List.getElem?_eq_getElem h]; rfl
/-- What is so of a formula that was read. -/
structure FOk (F : Form) : Prop where
  nodup : F.order.Nodup
  names : ∀ v ∈ F.order, 1 ≤ v ∧ v ≤ 8
  bits : ∀ c ∈ F.cl, Bd c
  vars : ∀ c ∈ F.cl, ∀ v, c.1.testBit v = true ∨ c.2.testBit v = true → v ∈ F.order

theorem good_ax {F : Form} (hF : FOk F) {c : Nat × Nat} (hc : c ∈ F.cl) (ha : c.1 &&& c.2 = 0) : Good (satB F.cl) F.all true F.order c := by
  refine ⟨fun v h1 h2 => bits_apart ha v h1 h2, hF.vars c hc, fun t ht => ?_⟩
  have hs := ht.leaf
  unfold satB at hs
  rw [List.all_eq_true] at hs
  have hs := hs c hc
  unfold satC at hs
  rw [Bool.not_eq_true', Bool.and_eq_false_iff, beq_eq_false_iff_ne, beq_eq_false_iff_ne] at hs
  rcases hs with hs | hs
  · obtain ⟨v, hv⟩ := some_bit hs
    rw [Nat.testBit_and, Bool.and_eq_true] at hv
    exact ⟨v, Or.inl hv⟩
  · obtain ⟨v, hv⟩ := some_bit hs
    rw [testBit_less, Bool.and_eq_true, Bool.not_eq_true'] at hv
    exact ⟨v, Or.inr hv⟩
theorem good_cube {F : Form} {c : Nat × Nat} (h1 : ∀ v, c.1.testBit v = true → c.2.testBit v = true → False) (h2 : ∀ v, c.1.testBit v = true ∨ c.2.testBit v = true → v ∈ F.order) (h3 : satR F.cl c = true) : Good (satB F.cl) F.all false F.order c := by
  refine ⟨h1, h2, fun t ht => ?_⟩
  have hs := ht.leaf
  unfold satB at hs
  rw [List.all_eq_false] at hs
  obtain ⟨x, hx, hs⟩ := hs
  have hs : satC x t = false := by simpa using hs
  unfold satC at hs
  rw [Bool.not_eq_false', Bool.and_eq_true, beq_iff_eq, beq_iff_eq] at hs
  obtain ⟨hp, hn⟩ := hs
  have hp' : ∀ v, x.1.testBit v = true → t.testBit v = false := fun v hv => by
    cases ht : t.testBit v with
    | false => rfl
    | true => exact (bits_apart hp v hv ht).elim
  have hn' : ∀ v, x.2.testBit v = true → t.testBit v = true := fun v hv => by
    cases ht : t.testBit v with
    | true => rfl
    | false =>
      have : (less x.2 t).testBit v = true := by rw [testBit_less, hv, ht]; rfl
      rw [hn] at this; simp at this
  unfold satR at h3
  rw [List.all_eq_true] at h3
  have hm := h3 x hx
  unfold missed at hm
  rw [Bool.not_eq_true', Bool.and_eq_false_iff, Bool.and_eq_false_iff, beq_eq_false_iff_ne, beq_eq_false_iff_ne, beq_eq_false_iff_ne] at hm
  rcases hm with hm | hm | hm
  · obtain ⟨v, hv⟩ := some_bit hm
    rw [Nat.testBit_and, Bool.and_eq_true] at hv
    have a1 := hp' v hv.1
    rw [hn' v hv.2] at a1; cases a1
  · obtain ⟨v, hv⟩ := some_bit hm
    rw [Nat.testBit_and, Bool.and_eq_true] at hv
    exact ⟨v, Or.inl ⟨hv.2, hp' v hv.1⟩⟩
  · obtain ⟨v, hv⟩ := some_bit hm
    rw [Nat.testBit_and, Bool.and_eq_true] at hv
    exact ⟨v, Or.inr ⟨hv.2, by rw [hn' v hv.1]; rfl⟩⟩

/-! ### Cubes -/
theorem litInto_form (c : Nat × Nat) (w : List UInt8) (h : (litInto c w).2 = true) : 1 ≤ litVar w ∧ ((litInto c w).1 = (c.1, c.2 ||| 2 ^ litVar w) ∨ (litInto c w).1 = (c.1 ||| 2 ^ litVar w, c.2)) := by
  unfold litInto at h ⊢
  split at h
  · next r =>
    have h' : 0 < dig r := of_decide_eq_true h
    have hd : dig (45 :: r) = 0 := by
      cases r with
      | nil => rfl
      | cons a b => rfl
    have e : litVar (45 :: r) = (dig r).toNat := by unfold litVar; rw [if_pos hd]; rfl
    rw [e]
    exact ⟨by omega, Or.inl rfl⟩
  · next hw =>
    have h' : 0 < dig w := of_decide_eq_true h
    have e : litVar w = (dig w).toNat := by unfold litVar; rw [if_neg (by omega)]
    rw [e]
    exact ⟨by omega, Or.inr rfl⟩
structure CI (order : List Nat) (c : Nat × Nat) (last : Nat) : Prop where
  apart : ∀ v, c.1.testBit v = true → c.2.testBit v = true → False
  vars : ∀ v, c.1.testBit v = true ∨ c.2.testBit v = true → v ≤ last ∧ v ∈ order
theorem cubeTo_ci (order : List Nat) (ws : List (List UInt8)) : ∀ c last c', CI order c last → cubeTo order c last ws = some c' → ∃ last', CI order c' last' := by
  induction ws with
  | nil => intro c last c' h e; simp [cubeTo] at e; subst e; exact ⟨last, h⟩
  | cons w ws ih =>
    intro c last c' h e
    rw [cubeTo] at e
    split at e
    · next hc =>
      obtain ⟨h1, h2, h3⟩ := hc
      refine ih _ _ _ ?_ e
      obtain ⟨_, hf⟩ := litInto_form c w h1
      have hno1 : c.1.testBit (litVar w) = false := by
        cases hh : c.1.testBit (litVar w) with
        | false => rfl
        | true => have := (h.vars _ (Or.inl hh)).1; omega
      have hno2 : c.2.testBit (litVar w) = false := by
        cases hh : c.2.testBit (litVar w) with
        | false => rfl
        | true => have := (h.vars _ (Or.inr hh)).1; omega
      rcases hf with hf | hf
      · rw [hf]
        constructor
        · intro v a b
          have b : (c.2 ||| 2 ^ litVar w).testBit v = true := b
          rw [bit_or, Bool.or_eq_true] at b
          rcases b with b | b
          · exact h.apart v a b
          · have : litVar w = v := of_decide_eq_true b
            subst this
            have a : c.1.testBit (litVar w) = true := a
            rw [hno1] at a; cases a
        · intro v a
          rcases a with a | a
          · have := h.vars v (Or.inl a); exact ⟨by omega, this.2⟩
          · have a : (c.2 ||| 2 ^ litVar w).testBit v = true := a
            rw [bit_or, Bool.or_eq_true] at a
            rcases a with a | a
            · have := h.vars v (Or.inr a); exact ⟨by omega, this.2⟩
            · have : litVar w = v := of_decide_eq_true a
              subst this; exact ⟨Nat.le_refl _, h3⟩
      · rw [hf]
        constructor
        · intro v a b
          have a : (c.1 ||| 2 ^ litVar w).testBit v = true := a
          rw [bit_or, Bool.or_eq_true] at a
          rcases a with a | a
          · exact h.apart v a b
          · have : litVar w = v := of_decide_eq_true a
            subst this
            have b : c.2.testBit (litVar w) = true := b
            rw [hno2] at b; cases b
        · intro v a
          rcases a with a | a
          · have a : (c.1 ||| 2 ^ litVar w).testBit v = true := a
            rw [bit_or, Bool.or_eq_true] at a
            rcases a with a | a
            · have := h.vars v (Or.inl a); exact ⟨by omega, this.2⟩
            · have : litVar w = v := of_decide_eq_true a
              subst this; exact ⟨Nat.le_refl _, h3⟩
          · have := h.vars v (Or.inr a); exact ⟨by omega, this.2⟩
    · cases e

/-! ### Reduction -/
theorem lastTo_le (order : List Nat) (kind : Nat) (c : Nat × Nat) (k : Nat) : lastTo order kind c k ≤ k := by
  induction k with
  | zero => exact Nat.le_refl _
  | succ k ih => rw [lastTo]; split <;> omega
theorem lastTo_past (order : List Nat) (kind : Nat) (c : Nat × Nat) (k i : Nat) (h1 : lastTo order kind c k ≤ i) (h2 : i < k) : hasB c (order.getD i 0) = true → kind.testBit (order.getD i 0) = true := by
  induction k with
  | zero => omega
  | succ k ih =>
    rw [lastTo] at h1
    split at h1
    · omega
    · next hc =>
      by_cases hk : i = k
      · subst hk
        intro hh
        rw [hh] at hc
        cases hb : kind.testBit (order.getD i 0) with
        | true => rfl
        | false => rw [hb] at hc; simp at hc
      · exact ih h1 (by omega)
theorem clr_bits (kind : Nat) (c : Nat × Nat) (u v : Nat) : (clr kind c u).1.testBit v = (c.1.testBit v && !(decide (v = u) && kind.testBit u)) ∧ (clr kind c u).2.testBit v = (c.2.testBit v && !(decide (v = u) && kind.testBit u)) := by
  unfold clr
  cases hk : kind.testBit u with
  | false => simp
  | true =>
    have e : ∀ a : Nat, (less a (2 ^ u)).testBit v = (a.testBit v && !(decide (v = u) && true)) := fun a => by
      rw [testBit_less, Nat.testBit_two_pow, Bool.and_true]
      by_cases h : u = v
      · subst h; simp
      · simp [h, Ne.symm h]
    exact ⟨e _, e _⟩
theorem clrs_bits (kind : Nat) (l : List Nat) (v : Nat) : ∀ c : Nat × Nat, (l.foldl (clr kind) c).1.testBit v = (c.1.testBit v && !(decide (v ∈ l) && kind.testBit v)) ∧ (l.foldl (clr kind) c).2.testBit v = (c.2.testBit v && !(decide (v ∈ l) && kind.testBit v)) := by
  induction l with
  | nil => intro c; simp
  | cons u l ih =>
    intro c
    have h1 := ih (clr kind c u)
    have h2 := clr_bits kind c u v
    rw [List.foldl_cons, h1.1, h1.2, h2.1, h2.2]
    by_cases hv : v = u
    · subst hv
      cases kind.testBit v <;> cases decide (v ∈ l) <;> simp
    · have e : decide (v ∈ u :: l) = decide (v ∈ l) := by simp [hv]
      rw [e]; simp [hv]
theorem bits510 (v : Nat) (h1 : 1 ≤ v) (h2 : v ≤ 8) : (510 : Nat).testBit v = true := by
  have : ∀ v : Fin 9, 1 ≤ v.val → (510 : Nat).testBit v.val = true := by decide
  exact this ⟨v, by omega⟩ h1
theorem kind_bit {F : Form} (hF : FOk F) (truth : Bool) (v : Nat) (hv : v ∈ F.order) : (kindR F truth).testBit v = (F.all.testBit v == !truth) := by
  have hn := hF.names v hv
  unfold kindR
  cases truth with
  | false => simp
  | true =>
    rw [if_pos rfl, testBit_less, bits510 v hn.1 hn.2]
    cases F.all.testBit v <;> rfl
theorem good_reductR {F : Form} (hF : FOk F) (truth : Bool) {c : Nat × Nat} (hg : Good (satB F.cl) F.all (!truth) F.order c) : Good (satB F.cl) F.all (!truth) F.order (redR F.order (kindR F truth) c) := by
  generalize hm : lastTo F.order (kindR F truth) c F.order.length = m
  have hml : m ≤ F.order.length := by rw [← hm]; exact lastTo_le _ _ _ _
  have e : F.order = F.order.take m ++ F.order.drop m := (List.take_append_drop m F.order).symm
  have hsub : ∀ v, v ∈ F.order.drop m → v ∈ F.order := fun v hv => List.mem_of_mem_drop hv
  have hb := clrs_bits (kindR F truth) (F.order.drop m)
  have hk : ∀ v, (decide (v ∈ F.order.drop m) && (kindR F truth).testBit v) = (decide (v ∈ F.order.drop m) && (F.all.testBit v == !truth)) := fun v => by
    by_cases hv : v ∈ F.order.drop m
    · rw [kind_bit hF truth v (hsub v hv)]
    · simp [hv]
  unfold redR
  rw [hm]
  have hg2 := hg
  rw [e] at hg2 ⊢
  have hd : (F.order.take m ++ F.order.drop m).drop m = F.order.drop m := by rw [List.take_append_drop]
  rw [hd]
  refine good_reduced hg2 (by rw [← e]; exact hF.nodup) ?_ ?_ ?_
  · intro v hv hc
    obtain ⟨i, hi, rfl⟩ := List.getElem_of_mem hv
    rw [List.getElem_drop]
    have hi' : m + i < F.order.length := by simp at hi; omega
    have hp := lastTo_past F.order (kindR F truth) c F.order.length (m + i) (by omega) hi'
    rw [getD_at _ _ _ hi'] at hp
    have hh : hasB c F.order[m + i] = true := by
      unfold hasB
      rw [Nat.testBit_or, Bool.or_eq_true]
      rw [List.getElem_drop] at hc
      exact hc
    have hk2 := hp hh
    rw [kind_bit hF truth _ (List.getElem_mem hi')] at hk2
    simpa using hk2
  · intro v; rw [(hb v c).1, hk]
  · intro v; rw [(hb v c).2, hk]

/-! ### Steps -/
theorem good_stepR {F : Form} (hF : FOk F) (truth : Bool) (ss : List (Nat × Nat)) (hd : List UInt8) (tl : List (List UInt8)) (c : Nat × Nat) (hS : ∀ c ∈ ss, Good (satB F.cl) F.all (!truth) F.order c) (h : stepR F truth ss hd tl = some c) : Good (satB F.cl) F.all (!truth) F.order c := by
  have hget : ∀ i, 1 ≤ i → i ≤ ss.length → Good (satB F.cl) F.all (!truth) F.order (ss.getD (i - 1) (0, 0)) := fun i h1 h2 => by
    have : i - 1 < ss.length := by omega
    rw [getD_at _ _ _ this]
    exact hS _ (List.getElem_mem this)
  unfold stepR at h
  split at h
  · next hc =>
    obtain ⟨_, ht, _⟩ := hc
    subst ht
    unfold axR at h
    split at h
    · cases h
    · next hk =>
      obtain ⟨rfl, ha⟩ := apartO_some h
      have : cnt (tl.getD 0 []) big - 1 < F.cl.length := by omega
      rw [getD_at _ _ _ this] at ha ⊢
      exact good_ax hF (List.getElem_mem this) ha
  · split at h
    · next hc =>
      obtain ⟨_, ht⟩ := hc
      subst ht
      unfold cubeR at h
      cases hq : cubeTo F.order (0, 0) 0 tl with
      | none => rw [hq] at h; cases h
      | some c' =>
        rw [hq] at h
        simp only [Option.bind_some] at h
        split at h
        · next hs =>
          simp at h; subst h
          obtain ⟨last, hci⟩ := cubeTo_ci _ _ (0, 0) 0 _ ⟨by simp, by simp⟩ hq
          exact good_cube hci.apart (fun v hv => (hci.vars v hv).2) hs
        · cases h
    · split at h
      · unfold resR at h
        split at h
        · cases h
        · next hr =>
          split at h
          · cases h
          · next hr2 =>
            obtain ⟨rfl, ha⟩ := apartO_some h
            simp only [not_or, Bool.not_eq_false] at hr hr2
            refine good_resolved (hget _ (by omega) (by omega)) (hget _ (by omega) (by omega)) hr2.2.1 hr2.2.2 ?_ ?_ (fun v h1 h2 => bits_apart ha v h1 h2)
            · intro v
              show (less _ _ ||| _).testBit v = _
              rw [Nat.testBit_or, testBit_less, Nat.testBit_two_pow]
              simp only [eq_comm]
            · intro v
              show (_ ||| less _ _).testBit v = _
              rw [Nat.testBit_or, testBit_less, Nat.testBit_two_pow]
              simp only [eq_comm]
      · split at h
        · unfold reductR at h
          split at h
          · cases h
          · next hr =>
            have h := Option.some.inj h
            subst h
            exact good_reductR hF truth (hget _ (by omega) (by omega))
        · cases h
theorem good_rows {F : Form} (hF : FOk F) (truth : Bool) (rs : List (List UInt8)) : ∀ (ss : List (Nat × Nat)) (n : Nat) (ss' : List (Nat × Nat)), (∀ c ∈ ss, Good (satB F.cl) F.all (!truth) F.order c) → rowsR F truth ss n rs = .inl ss' → ∀ c ∈ ss', Good (satB F.cl) F.all (!truth) F.order c := by
  induction rs with
  | nil => intro ss n ss' h e; simp [rowsR] at e; subst e; exact h
  | cons r rs ih =>
    intro ss n ss' h e
    rw [rowsR] at e
    cases hl : lineR F truth ss r with
    | none => rw [hl] at e; cases e
    | some c =>
      rw [hl] at e
      refine ih _ _ _ ?_ e
      intro c' hc'
      rcases List.mem_append.1 hc' with hc' | hc'
      · exact h c' hc'
      · simp at hc'; subst hc'
        unfold lineR at hl
        split at hl
        · cases hl
        · split at hl
          · cases hl
          · exact good_stepR hF truth ss _ _ _ h hl
/-- WHAT IS PROVED IS SO. -/
theorem proves_sound {F : Form} (hF : FOk F) (l : List UInt8) (truth : Bool) (two : Nat) (h : provesR F l = .inr (truth, two)) : fromL (satB F.cl) F.all F.order 0 = truth := by
  unfold provesR at h
  split at h
  · cases h
  · split at h
    · cases h
    · next r0 rs hrows =>
      split at h
      · split at h
        · cases h
        · next ss hss =>
          split at h
          · next hc =>
            have h' : (r0 == sTrue) = truth := by injection h with h; injection h
            rw [h'] at hss
            have hg := good_rows hF truth rs [] 1 ss (by simp) hss
            have he := hc.2
            unfold emptyLast at he
            split at he
            · cases he
            · next c hlast =>
              have hc0 : c.1 ||| c.2 = 0 := by simpa using he
              have hm : c ∈ ss := List.mem_of_getLast? hlast
              have h1 : c.1 = 0 := by
                apply Nat.eq_of_testBit_eq; intro v
                have : (c.1 ||| c.2).testBit v = false := by rw [hc0]; simp
                rw [Nat.testBit_or, Bool.or_eq_false_iff] at this
                rw [this.1]; simp
              have h2 : c.2 = 0 := by
                apply Nat.eq_of_testBit_eq; intro v
                have : (c.1 ||| c.2).testBit v = false := by rw [hc0]; simp
                rw [Nat.testBit_or, Bool.or_eq_false_iff] at this
                rw [this.2]; simp
              have := good_empty (hg c hm) hF.nodup h1 h2
              rw [this]; simp
          · cases h
      · cases h

/-! ### When a clause is satisfied -/
theorem satC_iff (c : Nat × Nat) (t : Nat) : satC c t = true ↔ ∃ v, (c.1.testBit v = true ∧ t.testBit v = true) ∨ (c.2.testBit v = true ∧ t.testBit v = false) := by
  unfold satC
  rw [Bool.not_eq_true', Bool.and_eq_false_iff, beq_eq_false_iff_ne, beq_eq_false_iff_ne]
  constructor
  · rintro (h | h)
    · obtain ⟨v, hv⟩ := some_bit h
      rw [Nat.testBit_and, Bool.and_eq_true] at hv
      exact ⟨v, Or.inl hv⟩
    · obtain ⟨v, hv⟩ := some_bit h
      rw [testBit_less, Bool.and_eq_true, Bool.not_eq_true'] at hv
      exact ⟨v, Or.inr hv⟩
  · rintro ⟨v, h | h⟩
    · left
      intro e
      have : (c.1 &&& t).testBit v = true := by rw [Nat.testBit_and, h.1, h.2]; rfl
      rw [e] at this; simp at this
    · right
      intro e
      have : (less c.2 t).testBit v = true := by rw [testBit_less, h.1, h.2]; rfl
      rw [e] at this; simp at this
theorem satB_iff (cs : List (Nat × Nat)) (t : Nat) : satB cs t = true ↔ ∀ c ∈ cs, satC c t = true := by unfold satB; rw [List.all_eq_true]
end Go.Proofs.YtgipjjhkhfihpaaGreatDoor

namespace Go.Proofs.YtgipjjhkhfihpaaGreatDoor
open Go.RowKit

theorem ints_at (l : List Nat) (k : Nat) (h : k < l.length) : (ints l)[k]? = some (.int .i64 (l[k] : Int)) := by
  unfold ints; rw [List.getElem?_map, List.getElem?_eq_getElem h]; rfl

/-! ### place -/
set_option maxRecDepth 100000 in
set_option maxHeartbeats 800000 in
theorem place_any (lo b v : Nat) (F : Form) (w : World) (hR : RefAt lo w b F) (hl : F.order.length ≤ 8) :
    Calls Tryz.prog 129 #[.pointer (some ⟨b, 0, none⟩), .int .i64 v] w fun e w' => (∃ p : Int, e = .returned (.int .i64 p) ∧ decide (p < 0) = !decide (v ∈ F.order)) ∧ w' = w := by
  obtain ⟨_, vO, vE, vC, hfb, hO, _, _⟩ := hR
  obtain ⟨aO, cO, rfl⟩ := own_form hO
  have k0 : w.cell? ⟨b, 0, none⟩ = some (.slice aO F.order.length cO) := by rw [blk_cell hfb]; rfl
  go_enter Tryz.func129, Tryz.ntmps129
  go_wp2_with fail
  go_loopg [5] F.order.length (fun m i wx => ∃ k : Nat, i = .int .i64 k ∧ k + m = F.order.length ∧ v ∉ F.order.take k ∧ wx = w)
  case atStart => exact ⟨0, rfl, by omega, by simp, rfl⟩
  case round =>
    obtain ⟨k, rfl, hk, hno, hwr⟩ := hrel
    subst hwr
    have HNO := hide hno; clear hno
    by_cases hlt : k < F.order.length
    · obtain ⟨g, cap, hV, hg, hg', _, hcell⟩ := own_pos hO (by omega)
      injection hV with hV _ hV2
      subst hV hV2
      have hx : wr.cell? ⟨g, k, none⟩ = some (.int .i64 (F.order[k] : Int)) := hcell _ _ (ints_at _ _ hlt)
      have HT : Hid (F.order.take (k + 1) = F.order.take k ++ [F.order[k]]) := hide (List.take_succ_eq_append_getElem hlt)
      have HM : Hid (F.order[k] ∈ F.order) := hide (List.getElem_mem hlt)
      clear hcell
      generalize F.order[k] = u at *
      by_cases hv : u = v
      · have hvb : ((u : Int) == (v : Int)) = true := by rw [beq_iff_eq]; omega
        have HV := hide hv
        clear hv
        go_wp2_with fail
        go_ret
        refine ⟨⟨_, rfl, ?_⟩, rfl⟩
        have hm : v ∈ F.order := unhide HV ▸ unhide HM
        simp [hm]
      · have hvb : ((u : Int) == (v : Int)) = false := by rw [beq_eq_false_iff_ne]; omega
        have HV := hide hv
        clear hv
        go_wp2_with fail
        go_roundg (gk - 1)
        case measure => omega
        case rel =>
          refine ⟨k + 1, by go_num, by omega, ?_, rfl⟩
          rw [unhide HT]
          intro hm
          rcases List.mem_append.1 hm with hm | hm
          · exact unhide HNO hm
          · simp at hm; exact unhide HV hm.symm
    · have hkl : k = F.order.length := by omega
      have HF : Hid (v ∉ F.order) := hide (by have := unhide HNO; rw [hkl, List.take_length] at this; exact this)
      subst hkl
      go_wp2_with fail
      go_ret
      exact ⟨⟨_, rfl, by simp [unhide HF]⟩, rfl⟩

/-! ### count -/
theorem dec_lt (l : List UInt8) (h : l.all isDigit = true) : dec l < 10 ^ l.length := by
  suffices hh : ∀ (n : Nat) (l : List UInt8), l.length = n → l.all isDigit = true → dec l < 10 ^ n from hh _ l rfl h
  intro n
  induction n with
  | zero => intro l hl _; rw [List.eq_nil_of_length_eq_zero hl]; decide
  | succ n ih =>
    intro l hl ha
    have hlt : n < l.length := by omega
    have hall : (l.take n).all isDigit = true := by
      rw [List.all_eq_true] at ha ⊢
      exact fun x hx => ha x (List.mem_of_mem_take hx)
    have h1 := ih (l.take n) (by simp; omega) hall
    have h2 := dec_take l n hlt
    rw [show l.take (n + 1) = l from by rw [← hl]; exact List.take_length] at h2
    have hd : isDigit l[n] = true := by rw [List.all_eq_true] at ha; exact ha _ (List.getElem_mem hlt)
    have hd' : 48 ≤ l[n].toNat ∧ l[n].toNat ≤ 57 := of_decide_eq_true hd
    rw [h2, Nat.pow_succ]
    omega
theorem ten_six (k : Nat) (h : k ≤ 6) : 10 ^ k ≤ 1000000 := by
  have := Nat.pow_le_pow_right (n := 10) (by omega) h
  simpa using this

attribute [local go_sem] ba_get

set_option maxRecDepth 100000 in
set_option maxHeartbeats 1600000 in
theorem count_any (l : List UInt8) (most : Nat) (w : World) (hl : l.length ≤ 1048576) (_hm : most ≤ 1048576) :
    Calls Tryz.prog 105 #[.string ⟨l.toArray⟩, .int .i64 most] w fun e w' => e = .returned (.int .i64 (cnt l most : Nat)) ∧ w' = w := by
  go_enter Tryz.func105, Tryz.ntmps105
  go_wp2_with fail
  go_loopg [5, 6] (l.length) (fun m n i wx => ∃ k : Nat, i = .int .i64 k ∧ k + m = l.length ∧ k ≤ 6 ∧ n = .int .i64 (dec (l.take k) : Nat) ∧ (l.take k).all isDigit = true ∧ (1 ≤ k → l.head? ≠ some 48) ∧ wx = w)
  case atStart => exact ⟨0, rfl, by omega, by omega, rfl, rfl, fun h => by omega, rfl⟩
  case round =>
    obtain ⟨k, rfl, hkm, hk6, rfl, hall, hhead, hwr⟩ := hrel
    subst hwr
    have HA := hide hall
    have HH := hide hhead
    have hdl := dec_lt _ hall
    have h10 := ten_six k hk6
    have hn : dec (l.take k) < 1000000 := by
      have e : (l.take k).length = k := by simp; omega
      rw [e] at hdl; omega
    clear hall hhead hdl h10
    by_cases hlt : k < l.length
    · have hdl : decide ((k : Int) < (l.length : Int)) = true := by simp; omega
      have HDT := hide (dec_take l k hlt)
      generalize dec (l.take k) = n at *
      have hb8 : l[k].toNat < 256 := UInt8.toNat_lt l[k]
      have hbad : Hid (∀ h : k < l.length, isDigit l[k] = false → cnt l most = 0) := hide (fun h hd => by
        unfold cnt
        rw [if_neg]
        rintro ⟨h1, _⟩
        rw [List.all_eq_true] at h1
        rw [h1 _ (List.getElem_mem h)] at hd; cases hd)
      by_cases hd : isDigit l[k] = true
      · have hd1 : 48 ≤ l[k].toNat ∧ l[k].toNat ≤ 57 := of_decide_eq_true hd
        have HD := hide hd
        have hq1 : decide ((l[k].toNat : Int) < 48) = false := by simp; omega
        have hq2 : decide ((57 : Int) < (l[k].toNat : Int)) = false := by simp; omega
        clear hd
        by_cases h5 : 5 < k
        · have hq3 : decide ((5 : Int) < (k : Int)) = true := by simp; omega
          have HC : Hid (cnt l most = 0) := hide (by unfold cnt; rw [if_neg]; rintro ⟨_, h2, _⟩; omega)
          clear h5
          go_wp2_with fail
          go_ret
          exact ⟨ret_int (by rw [unhide HC]; rfl), rfl⟩
        · have hq3 : decide ((5 : Int) < (k : Int)) = false := by simp; omega
          by_cases hk0 : k = 0
          · have hq4 : ((k : Int) == 0) = true := by rw [beq_iff_eq]; omega
            have h0 : 0 < l.length := by omega
            have hhd : l.head? = some l[0] := by rw [List.head?_eq_getElem?, List.getElem?_eq_getElem h0]
            by_cases hc : l[0] = 48
            · have hq5 : ((l[0].toNat : Int) == 48) = true := by rw [hc]; rfl
              have HC : Hid (cnt l most = 0) := hide (by unfold cnt; rw [if_neg]; rintro ⟨_, _, h3, _⟩; exact h3 (by rw [hhd, hc]))
              clear hc hhd h5 hk0
              go_wp2_with fail
              go_ret
              exact ⟨ret_int (by rw [unhide HC]; rfl), rfl⟩
            · have hq5 : ((l[0].toNat : Int) == 48) = false := by
                rw [beq_eq_false_iff_ne]; intro e; exact hc (by apply UInt8.toNat_inj.1; show _ = 48; omega)
              have HHD : Hid (l.head? ≠ some 48) := hide (by rw [hhd]; simpa using hc)
              have h5' : k + 1 ≤ 6 := by omega
              clear hc hhd h5 hk0
              go_wp2_with fail
              go_roundg (gk - 1)
              case measure => omega
              case rel =>
                refine ⟨k + 1, by go_num, by omega, h5', ?_, ?_, fun _ => unhide HHD, rfl⟩
                · rw [unhide HDT]; exact congrArg (Value.int .i64) (by omega)
                · rw [List.take_succ_eq_append_getElem hlt, List.all_append, unhide HA]; simp [unhide HD]
          · have hq4 : ((k : Int) == 0) = false := by rw [beq_eq_false_iff_ne]; omega
            have HHD : Hid (l.head? ≠ some 48) := hide (unhide HH (by omega))
            have h5' : k + 1 ≤ 6 := by omega
            clear h5 hk0
            go_wp2_with fail
            go_roundg (gk - 1)
            case measure => omega
            case rel =>
              refine ⟨k + 1, by go_num, by omega, h5', ?_, ?_, fun _ => unhide HHD, rfl⟩
              · rw [unhide HDT]; exact congrArg (Value.int .i64) (by omega)
              · rw [List.take_succ_eq_append_getElem hlt, List.all_append, unhide HA]; simp [unhide HD]
      · have hdf : isDigit l[k] = false := by simpa using hd
        have HC : Hid (cnt l most = 0) := hide (unhide hbad hlt hdf)
        have hd1 : ¬ (48 ≤ l[k].toNat ∧ l[k].toNat ≤ 57) := of_decide_eq_false hdf
        clear hd hdf
        by_cases hlo : l[k].toNat < 48
        · have hq1 : decide ((l[k].toNat : Int) < 48) = true := by simp; omega
          clear hd1
          go_wp2_with fail
          go_ret
          exact ⟨ret_int (by rw [unhide HC]; rfl), rfl⟩
        · have hq1 : decide ((l[k].toNat : Int) < 48) = false := by simp; omega
          have hq2 : decide ((57 : Int) < (l[k].toNat : Int)) = true := by simp; omega
          clear hd1
          go_wp2_with fail
          go_ret
          exact ⟨ret_int (by rw [unhide HC]; rfl), rfl⟩
    · have hkl : k = l.length := by omega
      subst hkl
      have HT : Hid (l.take l.length = l) := hide List.take_length
      have hA := unhide HA
      rw [unhide HT] at hA hn
      have HHD : Hid (l.head? ≠ some 48) := hide (by
        by_cases h1 : 1 ≤ l.length
        · exact unhide HH h1
        · have : l = [] := List.eq_nil_of_length_eq_zero (by omega)
          rw [this]; simp)
      have HAA := hide hA
      clear hA
      have hE : Value.int .i64 (dec (l.take l.length) : Nat) = Value.int .i64 (dec l : Nat) := by rw [unhide HT]
      rw [unhide HT]
      have hdl : decide ((l.length : Int) < (l.length : Int)) = false := by simp
      clear hE
      by_cases hmo : most < dec l
      · have hq : decide (most < dec l) = true := by simp; omega
        have HC : Hid (cnt l most = 0) := hide (by unfold cnt; rw [if_neg]; rintro ⟨_, _, _, h4⟩; omega)
        clear hmo
        go_wp2_with fail
        go_ret
        exact ⟨ret_int (by rw [unhide HC]; rfl), rfl⟩
      · have hq : decide (most < dec l) = false := by simp; omega
        have HC : Hid (cnt l most = dec l) := hide (by unfold cnt; rw [if_pos ⟨unhide HAA, hk6, unhide HHD, by omega⟩])
        clear hmo
        go_wp2_with fail
        go_ret
        exact ⟨ret_int (by rw [unhide HC]), rfl⟩
end Go.Proofs.YtgipjjhkhfihpaaGreatDoor

namespace Go.Proofs.YtgipjjhkhfihpaaGreatDoor
open Go.RowKit

abbrev SetV (c : Nat × Nat) : Value := .agg #[.int .i64 (c.1 : Int), .int .i64 (c.2 : Int)]
theorem int_ne_zero (a : Nat) : ((a : Int) != 0) = (a != 0) := by
  rw [Bool.eq_iff_iff, bne_iff_ne, bne_iff_ne]; omega
theorem int_eq_zero (a : Nat) : ((a : Int) == 0) = (a == 0) := by
  rw [Bool.eq_iff_iff, beq_iff_eq, beq_iff_eq]; omega
theorem and_lt9 (a b : Nat) (ha : a < 512) : a &&& b < 512 := Nat.lt_of_le_of_lt Nat.and_le_left ha
theorem less_lt9 (a b : Nat) (ha : a < 512) : less a b < 512 := Nat.lt_of_le_of_lt (less_le a b) ha

set_option maxRecDepth 100000 in
set_option maxHeartbeats 800000 in
theorem varOf_any (x : Int) (w : World) (hx : -9223372036854775807 ≤ x) (hx2 : x ≤ 9223372036854775807) :
    Calls Tryz.prog 112 #[.int .i64 x] w fun e w' => e = .returned (.int .i64 (x.natAbs : Nat)) ∧ w' = w := by
  by_cases h : x < 0
  · have hd : decide (x < 0) = true := by simpa using h
    have hwx : IntKind.i64.wrap (-x) = -x := by
      obtain ⟨m, hm⟩ := Int.eq_ofNat_of_zero_le (show 0 ≤ -x by omega)
      rw [hm]; exact wrap_i64_nat m (by omega)
    go_enter Tryz.func112, Tryz.ntmps112
    go_wp2_with fail
    go_ret
    exact ⟨ret_int (by omega), rfl⟩
  · have hd : decide (x < 0) = false := by simpa using h
    go_enter Tryz.func112, Tryz.ntmps112
    go_wp2_with fail
    go_ret
    exact ⟨ret_int (by omega), rfl⟩

set_option maxRecDepth 100000 in
set_option maxHeartbeats 800000 in
theorem empty_any (p n : Nat) (w : World) (hp : p < 512) (hn : n < 512) :
    Calls Tryz.prog 74 #[SetV (p, n)] w fun e w' => e = .returned (.bool (p ||| n == 0)) ∧ Below w.heap.size w w' := by
  have hor : bits .or .i64 (p : Int) (n : Int) = ((p ||| n : Nat) : Int) := i64_or _ _ (by omega) (by omega)
  have HE := hide (int_eq_zero (p ||| n))
  go_enter Tryz.func74, Tryz.ntmps74
  go_wp2_with fail
  go_ret
  exact ⟨ret_bool (unhide HE), (Below.refl _ _).alloc (Nat.le_refl _) _⟩

set_option maxRecDepth 100000 in
set_option maxHeartbeats 800000 in
theorem clashes_any (p n : Nat) (w : World) (hp : p < 512) (hn : n < 512) :
    Calls Tryz.prog 124 #[SetV (p, n)] w fun e w' => e = .returned (.bool (p &&& n != 0)) ∧ Below w.heap.size w w' := by
  have hand : bits .and .i64 (p : Int) (n : Int) = ((p &&& n : Nat) : Int) := i64_and _ _ (by omega) (by omega)
  have HE := hide (int_ne_zero (p &&& n))
  go_enter Tryz.func124, Tryz.ntmps124
  go_wp2_with fail
  go_ret
  exact ⟨ret_bool (unhide HE), (Below.refl _ _).alloc (Nat.le_refl _) _⟩

set_option maxRecDepth 100000 in
set_option maxHeartbeats 800000 in
theorem meets_any (p n p2 n2 : Nat) (w : World) (hp : p < 512) (hn : n < 512) (hp2 : p2 < 512) (hn2 : n2 < 512) :
    Calls Tryz.prog 131 #[SetV (p, n), SetV (p2, n2)] w fun e w' => e = .returned (.bool ((p &&& p2) ||| (n &&& n2) != 0)) ∧ Below w.heap.size w w' := by
  have h1 : bits .and .i64 (p : Int) (p2 : Int) = ((p &&& p2 : Nat) : Int) := i64_and _ _ (by omega) (by omega)
  have h2 : bits .and .i64 (n : Int) (n2 : Int) = ((n &&& n2 : Nat) : Int) := i64_and _ _ (by omega) (by omega)
  have h3 : bits .or .i64 ((p &&& p2 : Nat) : Int) ((n &&& n2 : Nat) : Int) = (((p &&& p2) ||| (n &&& n2) : Nat) : Int) := i64_or _ _ (by have := and_lt9 p p2 hp; omega) (by have := and_lt9 n n2 hn; omega)
  have HE := hide (int_ne_zero ((p &&& p2) ||| (n &&& n2)))
  go_enter Tryz.func131, Tryz.ntmps131
  go_wp2_with fail
  go_ret
  exact ⟨ret_bool (unhide HE), ((Below.refl _ _).alloc (Nat.le_refl _) _).alloc (by simp) _⟩

/-- A set has a literal. -/
def hasLit (c : Nat × Nat) (x : Int) : Bool := if x < 0 then c.2 &&& bitOf (-x) != 0 else c.1 &&& bitOf x != 0
set_option maxRecDepth 100000 in
set_option maxHeartbeats 800000 in
theorem has_any (p n : Nat) (x : Int) (w : World) (hp : p < 512) (hn : n < 512) (hx : -9223372036854775807 ≤ x) (hx2 : x ≤ 9223372036854775807) :
    Calls Tryz.prog 87 #[SetV (p, n), .int .i64 x] w fun e w' => e = .returned (.bool (hasLit (p, n) x)) ∧ Below w.heap.size w w' := by
  by_cases h : x < 0
  · have HW : Hid (hasLit (p, n) x = (n &&& bitOf (-x) != 0)) := hide (by unfold hasLit; rw [if_pos h])
    have hd : decide (x < 0) = true := by simpa using h
    have hwx : IntKind.i64.wrap (-x) = -x := by
      obtain ⟨m, hm⟩ := Int.eq_ofNat_of_zero_le (show 0 ≤ -x by omega)
      rw [hm]; exact wrap_i64_nat m (by omega)
    have hand : bits .and .i64 (n : Int) (bitOf (-x) : Nat) = ((n &&& bitOf (-x) : Nat) : Int) := i64_and _ _ (by omega) (by have := bitOf_lt (-x); omega)
    have HE := hide (int_ne_zero (n &&& bitOf (-x)))
    go_enter Tryz.func87, Tryz.ntmps87
    go_wp2_with fail
    go_quiet ((go_at_call 108; exact Calls.quiet_of_same (bit_any _ _)))
    go_wp2_with fail
    go_ret
    exact ⟨ret_bool (by rw [unhide HW]; exact unhide HE), below_drewN ((Below.refl _ _).alloc (Nat.le_refl _) _) nq⟩
  · have HW : Hid (hasLit (p, n) x = (p &&& bitOf x != 0)) := hide (by unfold hasLit; rw [if_neg h])
    have hd : decide (x < 0) = false := by simpa using h
    have hand : bits .and .i64 (p : Int) (bitOf x : Nat) = ((p &&& bitOf x : Nat) : Int) := i64_and _ _ (by omega) (by have := bitOf_lt x; omega)
    have HE := hide (int_ne_zero (p &&& bitOf x))
    go_enter Tryz.func87, Tryz.ntmps87
    go_wp2_with fail
    go_quiet ((go_at_call 108; exact Calls.quiet_of_same (bit_any _ _)))
    go_wp2_with fail
    go_ret
    exact ⟨ret_bool (by rw [unhide HW]; exact unhide HE), below_drewN ((Below.refl _ _).alloc (Nat.le_refl _) _) nq⟩

set_option maxRecDepth 100000 in
set_option maxHeartbeats 800000 in
theorem union_any (p n p2 n2 : Nat) (w : World) (hp : p < 512) (hn : n < 512) (hp2 : p2 < 512) (hn2 : n2 < 512) :
    Calls Tryz.prog 139 #[SetV (p, n), SetV (p2, n2)] w fun e w' => e = .returned (SetV (p ||| p2, n ||| n2)) ∧ Below w.heap.size w w' := by
  have h1 : bits .or .i64 (p : Int) (p2 : Int) = ((p ||| p2 : Nat) : Int) := i64_or _ _ (by omega) (by omega)
  have h2 : bits .or .i64 (n : Int) (n2 : Int) = ((n ||| n2 : Nat) : Int) := i64_or _ _ (by omega) (by omega)
  go_enter Tryz.func139, Tryz.ntmps139
  go_wp2_with fail
  refine bodyPost_ret (v := SetV (p ||| p2, n ||| n2)) (by simp [results, Tryz.results139, go_sem]) rfl ⟨rfl, ?_⟩
  exact ((((Below.refl _ _).alloc (Nat.le_refl _) _).alloc (by simp) _)).alloc (by simp; omega) _

/-- A set without a variable's literals. -/
def without (c : Nat × Nat) (v : Int) : Nat × Nat := (less c.1 (bitOf v), less c.2 (bitOf v))
set_option maxRecDepth 100000 in
set_option maxHeartbeats 800000 in
theorem withoutVar_any (p n : Nat) (v : Int) (w : World) (hp : p < 512) (hn : n < 512) :
    Calls Tryz.prog 140 #[SetV (p, n), .int .i64 v] w fun e w' => e = .returned (SetV (without (p, n) v)) ∧ Below w.heap.size w w' := by
  have hb := bitOf_lt v
  have h1 : bits .andNot .i64 (p : Int) (bitOf v : Nat) = ((less p (bitOf v) : Nat) : Int) := i64_andNot _ _ (by omega) (by omega)
  have h2 : bits .andNot .i64 (n : Int) (bitOf v : Nat) = ((less n (bitOf v) : Nat) : Int) := i64_andNot _ _ (by omega) (by omega)
  go_enter Tryz.func140, Tryz.ntmps140
  go_wp2_with fail
  refine (bit_any _ _).mono ?_
  rintro e w1 ⟨rfl, rfl⟩
  go_wp2_with fail
  refine bodyPost_ret (v := SetV (without (p, n) v)) (by simp [results, Tryz.results140, go_sem, without]) rfl ⟨rfl, ?_⟩
  exact (((Below.refl _ _).alloc (Nat.le_refl _) _).alloc (by simp) _)
end Go.Proofs.YtgipjjhkhfihpaaGreatDoor

namespace Go.Proofs.YtgipjjhkhfihpaaGreatDoor
open Go.RowKit

/-- What holds of the formula and the steps. -/
structure QB (q : QS) : Prop where
  vl : q.vars.length ≤ 8
  cl : q.cl.length ≤ 24
  bits : ∀ c ∈ q.cl, c.1 < 512 ∧ c.2 < 512
  names : ∀ x ∈ q.vars, 1 ≤ x.1 ∧ x.1 ≤ 8
structure SB (ss : List (Nat × Nat)) : Prop where
  len : ss.length ≤ 9000
  bits : ∀ c ∈ ss, c.1 < 512 ∧ c.2 < 512
def pivotB (kind : Nat) (u : Bool) : Bool := u == (kind == 2)
def hasVarB (c : Nat × Nat) (v : Nat) : Bool := (c.1 ||| c.2) &&& bitOf v != 0
/-- From the innermost variable outwards. -/
def redQ (kind : Nat) : List (Nat × Bool) → Nat × Nat → Nat × Nat
  | [], c => c
  | v :: vs, c => if hasVarB c v.1 then (if pivotB kind v.2 then c else redQ kind vs (without c v.1)) else redQ kind vs c
theorem without_lt (c : Nat × Nat) (v : Int) (h : c.1 < 512 ∧ c.2 < 512) : (without c v).1 < 512 ∧ (without c v).2 < 512 := ⟨less_lt9 _ _ h.1, less_lt9 _ _ h.2⟩
theorem redQ_lt (kind : Nat) (vs : List (Nat × Bool)) : ∀ (c : Nat × Nat), c.1 < 512 ∧ c.2 < 512 → (redQ kind vs c).1 < 512 ∧ (redQ kind vs c).2 < 512 := by
  induction vs with
  | nil => intro c h; exact h
  | cons v vs ih =>
    intro c h
    rw [redQ]
    split
    · split
      · exact h
      · exact ih _ (without_lt _ _ h)
    · exact ih _ h
theorem redQ_step (kind : Nat) (vs : List (Nat × Bool)) (k : Nat) (h : k < vs.length) (c : Nat × Nat) :
    redQ kind (vs.take (k + 1)).reverse c = if hasVarB c vs[k].1 then (if pivotB kind vs[k].2 then c else redQ kind (vs.take k).reverse (without c vs[k].1)) else redQ kind (vs.take k).reverse c := by
  rw [List.take_succ_eq_append_getElem h, List.reverse_append]
  rfl
def without2 (a b : Nat × Nat) (v : Nat) : Nat × Nat := without (a.1 ||| b.1, a.2 ||| b.2) v
def okC (x c : Nat × Nat) : Bool := ((x.1 &&& c.1) ||| (x.2 &&& c.2) != 0) || (x.1 &&& x.2 != 0)
def satQ (cl : List (Nat × Nat)) (c : Nat × Nat) : Bool := cl.all (okC · c)
theorem satQ_take (cl : List (Nat × Nat)) (c : Nat × Nat) (k : Nat) (h : k < cl.length) : satQ (cl.take (k + 1)) c = (satQ (cl.take k) c && okC cl[k] c) := by
  unfold satQ; rw [List.take_succ_eq_append_getElem h, List.all_append]; simp
theorem satQ_of (cl : List (Nat × Nat)) (c : Nat × Nat) (k : Nat) (h : k < cl.length) (hc : okC cl[k] c = false) : satQ cl c = false := by
  unfold satQ; rw [List.all_eq_false]; exact ⟨cl[k], List.getElem_mem h, by rw [hc]; decide⟩

/-! ### Steps as the program holds them -/
structure Stp where
  rule : Nat
  first : Nat
  second : Nat
  var : Nat
  lits : Nat × Nat
def litsAt (p : List Stp) (n : Nat) : Nat × Nat := if n = 0 then (0, 0) else match p[n - 1]? with
  | some s => s.lits
  | none => (0, 0)
def psCells (l : List Stp) : List Value := l.flatMap (fun s => [Value.int .i64 (s.rule : Int), Value.int .i64 (s.first : Int), Value.int .i64 (s.second : Int), Value.int .i64 (s.var : Int), Value.int .i64 (s.lits.1 : Int), Value.int .i64 (s.lits.2 : Int)])
theorem psCells_length (l : List Stp) : (psCells l).length = l.length * 6 := by
  induction l with
  | nil => rfl
  | cons a l ih => simp [psCells] at *; omega
theorem psCells_snoc (l : List Stp) (s : Stp) : psCells (l ++ [s]) = psCells l ++ [Value.int .i64 (s.rule : Int), Value.int .i64 (s.first : Int), Value.int .i64 (s.second : Int), Value.int .i64 (s.var : Int), Value.int .i64 (s.lits.1 : Int), Value.int .i64 (s.lits.2 : Int)] := by simp [psCells]
theorem psCells_at (l : List Stp) (k j : Nat) (h : k < l.length) (hj : j < 6) : (psCells l)[k * 6 + j]? = [Value.int .i64 (l[k].rule : Int), Value.int .i64 (l[k].first : Int), Value.int .i64 (l[k].second : Int), Value.int .i64 (l[k].var : Int), Value.int .i64 (l[k].lits.1 : Int), Value.int .i64 (l[k].lits.2 : Int)][j]? := by
  induction l generalizing k with
  | nil => simp at h
  | cons a l ih =>
    cases k with
    | zero =>
      simp only [psCells, List.flatMap_cons, Nat.zero_mul, Nat.zero_add, List.getElem_cons_zero]
      rw [List.getElem?_append_left (by simpa using hj)]
    | succ k =>
      have := ih k (by simpa using h)
      simp only [psCells, List.flatMap_cons] at this ⊢
      rw [show (k + 1) * 6 + j = (k * 6 + j) + 6 from by omega, List.getElem?_append_right (by simp)]
      simpa using this
theorem litsAt_in (p : List Stp) (m : Nat) (h : m < p.length) : litsAt p (m + 1) = p[m].lits := by
  unfold litsAt; rw [if_neg (by omega), Nat.add_sub_cancel, List.getElem?_eq_getElem h]
theorem litsAt_out (p : List Stp) (n : Nat) (h : n < 1 ∨ p.length < n) : litsAt p n = (0, 0) := by
  unfold litsAt
  split
  · rfl
  · rw [List.getElem?_eq_none (by omega)]
theorem litsAt_lt (p : List Stp) (h : ∀ s ∈ p, s.lits.1 < 512 ∧ s.lits.2 < 512) (n : Nat) : (litsAt p n).1 < 512 ∧ (litsAt p n).2 < 512 := by
  unfold litsAt
  split
  · exact ⟨by decide, by decide⟩
  · split
    · next s hs => exact h s (List.mem_of_getElem? hs)
    · exact ⟨by decide, by decide⟩
end Go.Proofs.YtgipjjhkhfihpaaGreatDoor

namespace Go.Proofs.YtgipjjhkhfihpaaGreatDoor
open Go.RowKit

/-! ### Both sides read proofs alike -/
theorem dec_ge (l : List UInt8) (h : l.all isDigit = true) (h0 : l ≠ []) (h48 : l.head? ≠ some 48) : ∀ k, k < l.length → 10 ^ k ≤ dec (l.take (k + 1)) := by
  intro k
  induction k with
  | zero =>
    intro hk
    match l, h0 with
    | c :: r, _ =>
      have hd : isDigit c = true := by simp at h; exact h.1
      have hd' : 48 ≤ c.toNat ∧ c.toNat ≤ 57 := of_decide_eq_true hd
      have hne : c.toNat ≠ 48 := fun e => h48 (by simp; apply UInt8.toNat_inj.1; exact e)
      simp [dec]; omega
  | succ k ih =>
    intro hk
    have h1 := ih (by omega)
    rw [dec_take l (k + 1) hk, Nat.pow_succ]
    omega
theorem num_cnt (w : List UInt8) (most : Nat) (hm : most ≤ 999999) : numOf w most = if 1 ≤ cnt w big ∧ cnt w big ≤ most then some (cnt w big) else none := by
  by_cases hbad : w = [] ∨ w.head? = some 48 ∨ w.all isDigit = false
  · have h1 : numOf w most = none := by
      unfold numOf
      rw [if_pos]
      rcases hbad with h | h | h
      · exact Or.inl h
      · exact Or.inr (Or.inl h)
      · exact Or.inr (Or.inr (Or.inl h))
    have h2 : cnt w big = 0 := by
      rcases hbad with h | h | h
      · subst h; rfl
      · unfold cnt; rw [if_neg]; rintro ⟨_, _, h3, _⟩; exact h3 h
      · unfold cnt; rw [if_neg]; rintro ⟨h3, _⟩; rw [h] at h3; cases h3
    rw [h1, h2, if_neg (by omega)]
  · simp only [not_or, Bool.not_eq_false] at hbad
    obtain ⟨b1, b2, b3⟩ := hbad
    have hpos : 0 < w.length := List.length_pos_iff.2 b1
    by_cases h6 : w.length ≤ 6
    · have hd := dec_lt w b3
      have ht := ten_six w.length h6
      have hc : cnt w big = dec w := by
        unfold cnt; rw [if_pos ⟨b3, h6, b2, by unfold big; omega⟩]
      have h1 : 1 ≤ dec w := by
        have := dec_ge w b3 b1 b2 0 hpos
        have hmm := dec_mono w 1
        simp at this; omega
      rw [hc]
      unfold numOf
      by_cases hmo : most < dec w
      · rw [if_pos (Or.inr (Or.inr (Or.inr hmo))), if_neg (by omega)]
      · rw [if_neg, if_pos ⟨h1, by omega⟩]
        rintro (h | h | h | h)
        · exact b1 h
        · exact b2 h
        · rw [b3] at h; cases h
        · exact hmo h
    · have hc : cnt w big = 0 := by unfold cnt; rw [if_neg]; rintro ⟨_, h2, _⟩; exact h6 h2
      have hg := dec_ge w b3 b1 b2 6 (by omega)
      have hmm := dec_mono w (6 + 1)
      rw [hc, if_neg (by omega)]
      unfold numOf
      rw [if_pos]
      right; right; right
      have : (10 : Nat) ^ 6 = 1000000 := by decide
      omega
/-- What both sides hold of a formula. -/
structure FQ (F : Form) (q : QS) : Prop where
  order : F.order = q.vars.map (·.1)
  kinds : ∀ x ∈ q.vars, F.all.testBit x.1 = x.2
  nodup : (q.vars.map (·.1)).Nodup
  names : ∀ x ∈ q.vars, 1 ≤ x.1 ∧ x.1 ≤ 8
  cl : F.cl = q.cl
  clen : q.cl.length ≤ 24
  bits : ∀ c ∈ q.cl, Bd c
  vars : ∀ c ∈ q.cl, ∀ v, c.1.testBit v = true ∨ c.2.testBit v = true → v ∈ F.order
/-- What holds of every step. -/
structure SI (F : Form) (c : Nat × Nat) : Prop where
  bd : Bd c
  apart : c.1 &&& c.2 = 0
  vars : ∀ v, c.1.testBit v = true ∨ c.2.testBit v = true → v ∈ F.order
def kd (truth : Bool) : Nat := if truth then 2 else 1

theorem find_mem {F : Form} {q : QS} (h : FQ F q) (v : Nat) : (∃ x, findV q.vars v = some x ∧ x.1 = v ∧ x ∈ q.vars ∧ v ∈ F.order) ∨ (findV q.vars v = none ∧ v ∉ F.order) := by
  cases hf : findV q.vars v with
  | none =>
    right
    refine ⟨rfl, ?_⟩
    unfold findV at hf
    rw [List.find?_eq_none] at hf
    rw [h.order, List.mem_map]
    rintro ⟨x, hx, hxe⟩
    exact hf x hx (by simpa using hxe)
  | some x =>
    left
    unfold findV at hf
    have hm := List.mem_of_find?_eq_some hf
    have he := List.find?_some hf
    have he' : x.1 = v := by simpa using he
    exact ⟨x, rfl, he', hm, by rw [h.order, ← he']; exact List.mem_map_of_mem hm⟩
theorem bitOf_nat (v : Nat) (h1 : 1 ≤ v) (h8 : v ≤ 8) : bitOf (v : Int) = 2 ^ v := by unfold bitOf; rw [if_pos ⟨by omega, by omega⟩]; simp
theorem and_pow_ne (x v : Nat) : (x &&& 2 ^ v != 0) = x.testBit v := by
  rw [bne, show (x &&& 2 ^ v == 0) = !x.testBit v from ?_]
  · simp
  · cases h : x.testBit v with
    | false =>
      have : x &&& 2 ^ v = 0 := by
        apply Nat.eq_of_testBit_eq
        intro i
        rw [Nat.testBit_and, Nat.testBit_two_pow, Nat.zero_testBit]
        by_cases e : v = i
        · subst e; rw [h]; rfl
        · simp [e]
      rw [this]; rfl
    | true =>
      have : x &&& 2 ^ v ≠ 0 := fun e => by
        have h2 : (x &&& 2 ^ v).testBit v = true := by rw [Nat.testBit_and, Nat.testBit_two_pow, h]; simp
        rw [e] at h2; simp at h2
      simpa using this
theorem has_eq (c : Nat × Nat) (v : Nat) (h1 : 1 ≤ v) (h8 : v ≤ 8) : hasVarB c v = hasB c v := by
  unfold hasVarB hasB; rw [bitOf_nat v h1 h8, and_pow_ne]
theorem hasLit_pos (c : Nat × Nat) (v : Nat) (h1 : 1 ≤ v) (h8 : v ≤ 8) : hasLit c v = c.1.testBit v := by
  unfold hasLit; rw [if_neg (by omega), bitOf_nat v h1 h8, and_pow_ne]
theorem hasLit_neg (c : Nat × Nat) (v : Nat) (h1 : 1 ≤ v) (h8 : v ≤ 8) : hasLit c (-(v : Int)) = c.2.testBit v := by
  unfold hasLit; rw [if_pos (by omega), Int.neg_neg, bitOf_nat v h1 h8, and_pow_ne]
theorem pair_ext {a b : Nat × Nat} (h1 : ∀ v, a.1.testBit v = b.1.testBit v) (h2 : ∀ v, a.2.testBit v = b.2.testBit v) : a = b := by
  obtain ⟨a1, a2⟩ := a
  obtain ⟨b1, b2⟩ := b
  have e1 : a1 = b1 := Nat.eq_of_testBit_eq h1
  have e2 : a2 = b2 := Nat.eq_of_testBit_eq h2
  rw [e1, e2]

/-! Reduction -/
theorem lastTo_same (order : List Nat) (kind : Nat) (c c' : Nat × Nat) (k : Nat) (h : ∀ i, i < k → hasB c' (order.getD i 0) = hasB c (order.getD i 0)) : lastTo order kind c' k = lastTo order kind c k := by
  induction k with
  | zero => rfl
  | succ k ih =>
    rw [lastTo, lastTo, h k (by omega), ih (fun i hi => h i (by omega))]
theorem red_eq {F : Form} {q : QS} (h : FQ F q) (hF : FOk F) (truth : Bool) : ∀ (k : Nat), k ≤ q.vars.length → ∀ c, redQ (kd truth) (q.vars.take k).reverse c = ((F.order.take k).drop (lastTo F.order (kindR F truth) c k)).foldl (clr (kindR F truth)) c := by
  intro k
  induction k with
  | zero => intro _ c; simp [redQ]
  | succ k ih =>
    intro hk c
    have hlt : k < q.vars.length := by omega
    have hlen : F.order.length = q.vars.length := by rw [h.order]; simp
    have hlt' : k < F.order.length := by omega
    have hv : F.order[k] = q.vars[k].1 := by simp only [h.order, List.getElem_map]
    have hx := h.names _ (List.getElem_mem hlt)
    have hkind := h.kinds _ (List.getElem_mem hlt)
    have hmem : F.order[k] ∈ F.order := List.getElem_mem hlt'
    have hkb := kind_bit hF truth F.order[k] hmem
    have hgd : F.order.getD k 0 = F.order[k] := getD_at _ _ _ hlt'
    rw [redQ_step _ _ _ hlt, has_eq c _ hx.1 hx.2, ← hv]
    rw [← hv] at hkind
    have hpiv : pivotB (kd truth) q.vars[k].2 = !(kindR F truth).testBit F.order[k] := by
      rw [hkb, hkind]
      unfold pivotB kd
      generalize q.vars[k].2 = u
      cases truth <;> cases u <;> rfl
    rw [hpiv, lastTo, hgd]
    have hsplit : ∀ m, m ≤ k → (F.order.take (k + 1)).drop m = (F.order.take k).drop m ++ [F.order[k]] := fun m hm => by
      rw [List.take_succ_eq_append_getElem hlt', List.drop_append_of_le_length (by simp; omega)]
    have hnk : F.order[k] ∉ F.order.take k := by
      have hn := hF.nodup
      rw [← List.take_append_drop k F.order, List.nodup_append] at hn
      have hkd : F.order[k] ∈ F.order.drop k := by
        have e := List.drop_eq_getElem_cons hlt'
        rw [e]
        exact List.mem_cons_self
      intro hm
      exact hn.2.2 _ hm _ hkd rfl
    cases hh : hasB c F.order[k] with
    | false =>
      simp only [Bool.false_and, Bool.false_eq_true, if_false]
      rw [ih (by omega) c, hsplit _ (lastTo_le _ _ _ _), List.foldl_append]
      have hno : c.1.testBit F.order[k] = false ∧ c.2.testBit F.order[k] = false := by
        unfold hasB at hh; rw [Nat.testBit_or, Bool.or_eq_false_iff] at hh; exact hh
      generalize ((F.order.take k).drop (lastTo F.order (kindR F truth) c k)) = L
      show _ = clr _ (L.foldl _ c) F.order[k]
      apply pair_ext
      · intro v
        rw [(clr_bits _ _ _ _).1, (clrs_bits _ _ _ _).1]
        by_cases e : v = F.order[k]
        · subst e; simp [hno.1]
        · simp [e]
      · intro v
        rw [(clr_bits _ _ _ _).2, (clrs_bits _ _ _ _).2]
        by_cases e : v = F.order[k]
        · subst e; simp [hno.2]
        · simp [e]
    | true =>
      cases hb : (kindR F truth).testBit F.order[k] with
      | false =>
        simp only [Bool.not_false, Bool.and_self, if_true]
        rw [List.drop_eq_nil_of_le (by simp; omega)]
        rfl
      | true =>
        simp only [Bool.not_true, Bool.and_false, Bool.false_eq_true, if_false, if_true]
        have hw : without c (F.order[k] : Int) = clr (kindR F truth) c F.order[k] := by
          unfold without clr
          rw [if_pos hb, bitOf_nat _ (by rw [hv]; exact hx.1) (by rw [hv]; exact hx.2)]
        rw [hw, ih (by omega), hsplit _ (lastTo_le _ _ _ _)]
        have hls : lastTo F.order (kindR F truth) (clr (kindR F truth) c F.order[k]) k = lastTo F.order (kindR F truth) c k := by
          apply lastTo_same
          intro i hi
          have hil : i < F.order.length := by omega
          rw [getD_at _ _ _ hil]
          have hne : F.order[i] ≠ F.order[k] := fun e => hnk (by rw [← e]; exact List.mem_take_iff_getElem.2 ⟨i, by omega, rfl⟩)
          unfold hasB
          rw [Nat.testBit_or, Nat.testBit_or, (clr_bits _ _ _ _).1, (clr_bits _ _ _ _).2]
          simp [hne]
        rw [hls]
        generalize ((F.order.take k).drop (lastTo F.order (kindR F truth) c k)) = L
        apply pair_ext
        · intro v
          rw [(clrs_bits _ _ _ _).1, (clrs_bits _ _ _ _).1, (clr_bits _ _ _ _).1, hb]
          by_cases e : v = F.order[k]
          · subst e; simp [hb]
          · simp [e]
        · intro v
          rw [(clrs_bits _ _ _ _).2, (clrs_bits _ _ _ _).2, (clr_bits _ _ _ _).2, hb]
          by_cases e : v = F.order[k]
          · subst e; simp [hb]
          · simp [e]
theorem redQ_eq {F : Form} {q : QS} (h : FQ F q) (hF : FOk F) (truth : Bool) (c : Nat × Nat) : redQ (kd truth) q.vars.reverse c = redR F.order (kindR F truth) c := by
  have h1 := red_eq h hF truth q.vars.length (Nat.le_refl _) c
  have hlen : F.order.length = q.vars.length := by rw [h.order]; simp
  rw [List.take_length] at h1
  rw [h1, ← hlen, List.take_length]
  rfl

end Go.Proofs.YtgipjjhkhfihpaaGreatDoor

namespace Go.Proofs.YtgipjjhkhfihpaaGreatDoor

/-! ### Blocks, by the kinds of the variables -/
def kindAt (vs : List (Nat × Bool)) (i : Nat) : Bool := (vs.getD i (0, false)).2
def newAt (vs : List (Nat × Bool)) (i : Nat) : Bool := decide (0 < i) && (kindAt vs i != kindAt vs (i - 1))
/-- Where blocks end ahead of k. -/
def cutsTo (vs : List (Nat × Bool)) (k : Nat) : List Nat := (List.range k).filter (newAt vs)
theorem cutsTo_succ (vs : List (Nat × Bool)) (k : Nat) : cutsTo vs (k + 1) = cutsTo vs k ++ (if newAt vs k then [k] else []) := by
  unfold cutsTo
  rw [List.range_succ, List.filter_append]
  congr 1
  simp [List.filter_cons]
theorem cutsTo_lt (vs : List (Nat × Bool)) (k : Nat) : ∀ x ∈ cutsTo vs k, 0 < x ∧ x < k := by
  intro x hx
  unfold cutsTo at hx
  rw [List.mem_filter] at hx
  obtain ⟨h1, h2⟩ := hx
  simp [newAt] at h1 h2
  exact ⟨h2.1, h1⟩
/-- What the program has gathered behind k variables: whole blocks, and the one at hand. -/
def gather (vs : List (Nat × Bool)) : Nat → List (List Nat) × List Nat
  | 0 => ([], [])
  | k + 1 => if newAt vs k then ((gather vs k).1 ++ [(gather vs k).2], [(vs.getD k (0, false)).1]) else ((gather vs k).1, (gather vs k).2 ++ [(vs.getD k (0, false)).1])
def progBlocks (vs : List (Nat × Bool)) : List (List Nat) := if 0 < (gather vs vs.length).2.length then (gather vs vs.length).1 ++ [(gather vs vs.length).2] else (gather vs vs.length).1

theorem getD_left {α : Type} (a b : List α) (j : Nat) (d : α) (h : j < a.length) : (a ++ b).getD j d = a.getD j d := by
  simp [List.getD, List.getElem?_append_left h]
/-- A piece of a list. -/
def piece (l : List Nat) (a b : Nat) : List Nat := (l.drop a).take (b - a)
def startOf (es : List Nat) (j : Nat) : Nat := if 0 < j then es.getD (j - 1) 0 else 0
theorem piece_snoc (l : List Nat) (a b : Nat) (hab : a ≤ b) (hb : b < l.length) : piece l a (b + 1) = piece l a b ++ [l[b]] := by
  unfold piece
  rw [show b + 1 - a = (b - a) + 1 from by omega, List.take_succ_eq_append_getElem (by simp; omega)]
  congr 1
  simp
  congr 1
  omega
theorem gather_eq (vs : List (Nat × Bool)) : ∀ k, k ≤ vs.length → 
    (gather vs k).1 = (List.range (cutsTo vs k).length).map (fun j => piece (vs.map (·.1)) (startOf (cutsTo vs k) j) ((cutsTo vs k).getD j 0)) ∧
    (gather vs k).2 = piece (vs.map (·.1)) (startOf (cutsTo vs k) (cutsTo vs k).length) k := by
  intro k
  induction k with
  | zero => intro _; simp [gather, cutsTo, piece, startOf]
  | succ k ih =>
    intro hk
    obtain ⟨h1, h2⟩ := ih (by omega)
    have hlt := cutsTo_lt vs k
    have hst : startOf (cutsTo vs k) (cutsTo vs k).length ≤ k := by
      unfold startOf
      split
      · next hp =>
        have hm : (cutsTo vs k).getD ((cutsTo vs k).length - 1) 0 ∈ cutsTo vs k := by
          rw [List.getD, List.getElem?_eq_getElem (by omega)]
          exact List.getElem_mem _
        have := (hlt _ hm).2; omega
      · omega
    have hv : (vs.getD k (0, false)).1 = (vs.map (·.1))[k]'(by simp; omega) := by
      simp [List.getD, show k < vs.length by omega]
    rw [gather, cutsTo_succ]
    cases hn : newAt vs k with
    | false =>
      rw [if_neg (by decide), if_neg (by decide)]
      simp only [List.append_nil]
      refine ⟨h1, ?_⟩
      rw [h2, hv, ← piece_snoc _ _ _ hst]
    | true =>
      rw [if_pos rfl, if_pos rfl]
      constructor
      · show (gather vs k).1 ++ [(gather vs k).2] = _
        rw [List.length_append, List.length_singleton, List.range_succ, List.map_append, h1, h2]
        congr 1
        · apply List.map_congr_left
          intro j hj
          have hj' : j < (cutsTo vs k).length := by simpa using hj
          have e1 : startOf (cutsTo vs k ++ [k]) j = startOf (cutsTo vs k) j := by
            unfold startOf
            split
            · rw [getD_left _ _ _ _ (by omega)]
            · rfl
          rw [e1, getD_left _ _ _ _ hj']
        · simp only [List.map_cons, List.map_nil]
          have e1 : startOf (cutsTo vs k ++ [k]) (cutsTo vs k).length = startOf (cutsTo vs k) (cutsTo vs k).length := by
            unfold startOf
            split
            · rw [getD_left _ _ _ _ (by omega)]
            · rfl
          rw [e1]
          simp [List.getD]
      · show [(vs.getD k (0, false)).1] = _
        have e1 : startOf (cutsTo vs k ++ [k]) (cutsTo vs k ++ [k]).length = k := by
          unfold startOf
          rw [if_pos (by simp)]
          simp [List.getD]
        rw [e1]
        unfold piece
        rw [show k + 1 - k = 1 from by omega, List.drop_eq_getElem_cons (by simp; omega), hv]
        rfl

/-- Where all blocks end. -/
def endsOf (vs : List (Nat × Bool)) : List Nat := if 0 < vs.length then cutsTo vs vs.length ++ [vs.length] else []
theorem gather_pos (vs : List (Nat × Bool)) (k : Nat) : 0 < (gather vs (k + 1)).2.length := by
  rw [gather]; split <;> simp
theorem progBlocks_eq (vs : List (Nat × Bool)) : progBlocks vs = (List.range (endsOf vs).length).map (fun j => piece (vs.map (·.1)) (startOf (endsOf vs) j) ((endsOf vs).getD j 0)) := by
  obtain ⟨h1, h2⟩ := gather_eq vs vs.length (Nat.le_refl _)
  unfold progBlocks endsOf
  rcases Nat.eq_zero_or_pos vs.length with h0 | h0
  · rw [h0]; simp [gather]
  · have hp : 0 < (gather vs vs.length).2.length := by
      obtain ⟨k, hk⟩ : ∃ k, vs.length = k + 1 := ⟨vs.length - 1, by omega⟩
      rw [hk]; exact gather_pos vs k
    rw [if_pos hp, if_pos h0]
    rw [List.length_append, List.length_singleton, List.range_succ, List.map_append, h1, h2]
    congr 1
    · apply List.map_congr_left
      intro j hj
      have hj' : j < (cutsTo vs vs.length).length := by simpa using hj
      have e1 : startOf (cutsTo vs vs.length ++ [vs.length]) j = startOf (cutsTo vs vs.length) j := by
        unfold startOf
        split
        · rw [getD_left _ _ _ _ (by omega)]
        · rfl
      rw [e1, getD_left _ _ _ _ hj']
    · simp only [List.map_cons, List.map_nil]
      have e1 : startOf (cutsTo vs vs.length ++ [vs.length]) (cutsTo vs vs.length).length = startOf (cutsTo vs vs.length) (cutsTo vs vs.length).length := by
        unfold startOf
        split
        · rw [getD_left _ _ _ _ (by omega)]
        · rfl
      rw [e1]
      simp [List.getD]

/-- Read's ends, where its bits tell the kinds. -/
theorem ends_eq (vs : List (Nat × Bool)) (all : Nat) (hk : ∀ x ∈ vs, all.testBit x.1 = x.2) : endsTo (vs.map (·.1)) all vs.length = endsOf vs := by
  have hka : ∀ i, i < vs.length → all.testBit ((vs.map (·.1)).getD i 0) = kindAt vs i := by
    intro i hi
    unfold kindAt
    have := hk vs[i] (List.getElem_mem hi)
    simpa [List.getD, hi] using this
  have h : ∀ k, k ≤ vs.length → endsTo (vs.map (·.1)) all k = (cutsTo vs (min (k + 1) vs.length)) ++ (if k = vs.length ∧ 0 < vs.length then [vs.length] else []) := by
    intro k
    induction k with
    | zero =>
      intro _
      rcases Nat.eq_zero_or_pos vs.length with h0 | h0
      · rw [h0]; simp [endsTo, cutsTo]
      · rw [show min (0 + 1) vs.length = 1 from by omega, if_neg (by omega)]
        simp [endsTo, cutsTo, newAt]
    | succ k ih =>
      intro hle
      rw [endsTo_succ, ih (by omega)]
      have hne : ¬ (k = vs.length ∧ 0 < vs.length) := by omega
      rw [if_neg hne, List.append_nil, show min (k + 1) vs.length = k + 1 from by omega]
      by_cases hlast : k + 1 = vs.length
      · have e : endAt (vs.map (·.1)) all (k + 1) = true := by
          unfold endAt; simp [hlast]
        rw [e, if_pos rfl, if_pos ⟨hlast, by omega⟩, show min (k + 1 + 1) vs.length = k + 1 from by omega, hlast]
      · have hlt : k + 1 < vs.length := by omega
        have e : endAt (vs.map (·.1)) all (k + 1) = newAt vs (k + 1) := by
          unfold endAt newAt
          rw [hka (k + 1) hlt, hka (k + 1 - 1) (by omega)]
          simp [hlast]
        have hne2 : ¬ (k + 1 = vs.length ∧ 0 < vs.length) := by omega
        rw [e, if_neg hne2, List.append_nil, show min (k + 1 + 1) vs.length = k + 1 + 1 from by omega, cutsTo_succ vs (k + 1)]
  rw [h vs.length (Nat.le_refl _)]
  unfold endsOf
  rw [show min (vs.length + 1) vs.length = vs.length from by omega]
  by_cases h0 : 0 < vs.length
  · rw [if_pos ⟨rfl, h0⟩, if_pos h0]
  · rw [if_neg (by omega), if_neg h0, show vs.length = 0 from by omega]
    rfl
end Go.Proofs.YtgipjjhkhfihpaaGreatDoor

namespace Go.Proofs.YtgipjjhkhfihpaaGreatDoor

/-! ### Both sides' blocks are the same -/
theorem all_fold (l : List (Nat × Bool)) : ∀ (a v : Nat), (l.foldl (fun a x => if x.2 then a ||| 2 ^ x.1 else a) a).testBit v = (a.testBit v || l.any (fun x => x.2 && x.1 == v)) := by
  induction l with
  | nil => intro a v; simp
  | cons x l ih =>
    intro a v
    rw [List.foldl_cons, ih, List.any_cons]
    cases x.2 with
    | false => simp
    | true =>
      rw [if_pos rfl, Nat.testBit_or, testBit_pow, Bool.or_assoc]; simp
theorem zip_map (l : List (Nat × Bool)) : (l.map (·.1)).zip (l.map (·.2)) = l := by
  induction l with
  | nil => rfl
  | cons x l ih => simp [ih]
theorem all_bit {st : RS} {q : QS} (h : Same st q) (v : Nat) : (finish st).all.testBit v = q.vars.any (fun x => x.2 && x.1 == v) := by
  show (allTo st st.told.length).testBit v = _
  unfold allTo
  rw [h.told, h.kinds, zip_map, List.length_map, List.take_length, all_fold]
  simp
theorem any_unique (l : List (Nat × Bool)) (hn : (l.map (·.1)).Nodup) (x : Nat × Bool) (hx : x ∈ l) : l.any (fun y => y.2 && y.1 == x.1) = x.2 := by
  induction l with
  | nil => simp at hx
  | cons y l ih =>
    rw [List.map_cons, List.nodup_cons] at hn
    rw [List.any_cons]
    rcases List.mem_cons.1 hx with e | hx
    · subst e
      have : l.any (fun y => y.2 && y.1 == x.1) = false := by
        rw [List.any_eq_false]
        intro z hz hh
        simp at hh
        exact hn.1 (by rw [← hh.2]; exact List.mem_map_of_mem hz)
      rw [this]; simp
    · rw [ih hn.2 hx]
      have : (y.1 == x.1) = false := by
        rw [beq_eq_false_iff_ne]; intro e; exact hn.1 (by rw [e]; exact List.mem_map_of_mem hx)
      rw [this]; simp
theorem free_eq {st : RS} {q : QS} (h : Same st q) : freeTo st 8 = freeQ q 8 := by
  unfold freeTo freeQ
  apply List.filter_congr
  intro v hv
  rw [List.mem_map] at hv
  obtain ⟨u, hu, rfl⟩ := hv
  have : u < 8 := by simpa using hu
  rw [h.used (u + 1) (by omega) (by omega), h.seen, Bool.and_comm]
theorem order_eq {st : RS} {q : QS} (h : Same st q) : (finish st).order = (qFinish q).vars.map (·.1) := by
  show freeTo st 8 ++ st.told = (exv (freeQ q 8) ++ q.vars).map (·.1)
  rw [free_eq h, h.told, List.map_append]
  congr 1
  simp [exv, Function.comp_def]
theorem kinds_eq {st : RS} {q : QS} (h : Same st q) (hn : QNice q) : ∀ x ∈ (qFinish q).vars, (finish st).all.testBit x.1 = x.2 := by
  intro x hx
  rw [all_bit h]
  rcases List.mem_append.1 (show x ∈ exv (freeQ q 8) ++ q.vars from hx) with hx | hx
  · unfold exv at hx
    rw [List.mem_map] at hx
    obtain ⟨v, hv, rfl⟩ := hx
    unfold freeQ at hv
    rw [List.mem_filter, Bool.and_eq_true, Bool.not_eq_true'] at hv
    have hh := hv.2.1
    dsimp only
    rw [List.any_eq_false]
    intro z hz hzz
    simp at hzz
    have : hasV q.vars v = true := by unfold hasV; rw [List.any_eq_true]; exact ⟨z, hz, by simpa using hzz.2⟩
    rw [hh] at this; cases this
  · exact any_unique _ hn.nodup x hx
theorem finish_ends {st : RS} {q : QS} (h : Same st q) (hn : QNice q) : (finish st).ends = endsOf (qFinish q).vars := by
  have := ends_eq (qFinish q).vars (finish st).all (kinds_eq h hn)
  rw [← this]
  show endsTo (finish st).order (finish st).all (finish st).order.length = _
  rw [order_eq h, List.length_map]
theorem progBlocks_len (vs : List (Nat × Bool)) : (progBlocks vs).length = (endsOf vs).length := by rw [progBlocks_eq]; simp

/-- Names: rising bounds. -/
theorem nodup_lt : ∀ (n : Nat) (l : List Nat), l.Nodup → (∀ x ∈ l, x < n) → l.length ≤ n := by
  intro n
  induction n with
  | zero =>
    intro l _ h
    cases l with
    | nil => simp
    | cons x l => exact absurd (h x (by simp)) (by omega)
  | succ n ih =>
    intro l hn h
    have h1 := ih (l.erase n) (hn.erase n) (by
      intro x hx
      rw [hn.mem_erase_iff] at hx
      have := h x hx.2; omega)
    rw [List.length_erase] at h1
    split at h1 <;> omega
theorem nodup_le (l : List Nat) (hn : l.Nodup) (hb : ∀ x ∈ l, 1 ≤ x ∧ x ≤ 8) : l.length ≤ 8 := by
  have h := nodup_lt 9 (0 :: l) (by
    rw [List.nodup_cons]
    exact ⟨fun h => by have := hb 0 h; omega, hn⟩) (by
    intro x hx
    rcases List.mem_cons.1 hx with rfl | hx
    · omega
    · have := hb x hx; omega)
  simpa using h
theorem names_all {q : QS} (hn : QNice q) : ((qFinish q).vars.map (·.1)).Nodup ∧ ∀ x ∈ (qFinish q).vars, 1 ≤ x.1 ∧ x.1 ≤ 8 := by
  show ((exv (freeQ q 8) ++ q.vars).map (·.1)).Nodup ∧ ∀ x ∈ exv (freeQ q 8) ++ q.vars, 1 ≤ x.1 ∧ x.1 ≤ 8
  have e : (exv (freeQ q 8)).map (·.1) = freeQ q 8 := by simp [exv, Function.comp_def]
  have hmem : ∀ v ∈ freeQ q 8, (1 ≤ v ∧ v ≤ 8) ∧ hasV q.vars v = false := by
    intro v hv
    unfold freeQ at hv
    rw [List.mem_filter, Bool.and_eq_true, Bool.not_eq_true', List.mem_map] at hv
    obtain ⟨⟨u, hu, rfl⟩, hh, _⟩ := hv
    have : u < 8 := by simpa using hu
    exact ⟨by omega, hh⟩
  constructor
  · rw [List.map_append, e, List.nodup_append]
    refine ⟨?_, hn.nodup, ?_⟩
    · unfold freeQ
      refine List.Pairwise.filter _ ?_
      rw [List.pairwise_map]
      exact List.pairwise_lt_range.imp (fun h => by omega)
    · intro a ha b hb e
      subst e
      rw [List.mem_map] at hb
      obtain ⟨x, hx, hxe⟩ := hb
      have : hasV q.vars a = true := by unfold hasV; rw [List.any_eq_true]; exact ⟨x, hx, by simpa using hxe⟩
      rw [(hmem a ha).2] at this; cases this
  · intro x hx
    rcases List.mem_append.1 hx with hx | hx
    · unfold exv at hx
      rw [List.mem_map] at hx
      obtain ⟨v, hv, rfl⟩ := hx
      exact (hmem v hv).1
    · exact hn.names x hx
theorem vars_le {q : QS} (hn : QNice q) : (qFinish q).vars.length ≤ 8 := by
  have h := names_all hn
  have := nodup_le _ h.1 (by
    intro x hx
    rw [List.mem_map] at hx
    obtain ⟨y, hy, rfl⟩ := hx
    exact h.2 y hy)
  simpa using this

/-! ### Where blocks end: rising, within the variables -/
theorem cuts_sorted (vs : List (Nat × Bool)) (k : Nat) : (cutsTo vs k).Pairwise (· < ·) := by
  unfold cutsTo
  exact List.Pairwise.filter _ List.pairwise_lt_range
theorem ends_sorted (vs : List (Nat × Bool)) : (endsOf vs).Pairwise (· < ·) := by
  unfold endsOf
  split
  · rw [List.pairwise_append]
    refine ⟨cuts_sorted _ _, by simp, ?_⟩
    intro a ha b hb
    simp at hb; subst hb
    exact (cutsTo_lt vs _ a ha).2
  · simp
theorem ends_mem (vs : List (Nat × Bool)) : ∀ x ∈ endsOf vs, 0 < x ∧ x ≤ vs.length := by
  unfold endsOf
  split
  · intro x hx
    rcases List.mem_append.1 hx with hx | hx
    · have := cutsTo_lt vs _ x hx; omega
    · simp at hx; omega
  · simp
theorem ends_len (vs : List (Nat × Bool)) : (endsOf vs).length ≤ vs.length := by
  unfold endsOf
  split
  · next h =>
    have hc : (cutsTo vs vs.length).length ≤ vs.length - 1 := by
      obtain ⟨n, hn⟩ : ∃ n, vs.length = n + 1 := ⟨vs.length - 1, by omega⟩
      rw [hn]
      unfold cutsTo
      rw [show List.range (n + 1) = 0 :: (List.range n).map (· + 1) from List.range_succ_eq_map, List.filter_cons, if_neg (by simp [newAt])]
      refine Nat.le_trans (List.length_filter_le _ _) ?_
      simp
    simp; omega
  · simp
theorem start_le (vs : List (Nat × Bool)) (k : Nat) (h : k < (endsOf vs).length) : startOf (endsOf vs) k ≤ (endsOf vs).getD k 0 := by
  unfold startOf
  split
  · have hs := ends_sorted vs
    rw [List.pairwise_iff_getElem] at hs
    have := hs (k - 1) k (by omega) h (by omega)
    simp only [List.getD, List.getElem?_eq_getElem h, List.getElem?_eq_getElem (show k - 1 < (endsOf vs).length by omega), Option.getD_some]
    omega
  · omega
theorem end_le (vs : List (Nat × Bool)) (k : Nat) (h : k < (endsOf vs).length) : (endsOf vs).getD k 0 ≤ vs.length := by
  simp only [List.getD, List.getElem?_eq_getElem h, Option.getD_some]
  exact (ends_mem vs _ (List.getElem_mem h)).2
end Go.Proofs.YtgipjjhkhfihpaaGreatDoor
