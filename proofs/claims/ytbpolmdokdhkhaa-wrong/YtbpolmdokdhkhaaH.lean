import Derived.Test.YtbpolmdokdhkhaaA
import Derived.Test.YtbpolmdokdhkhaaC
import Derived.Test.YtbpolmdokdhkhaaG
import Derived.Test.YtbpolmdokdhkhaaD
namespace Go.Proofs.Ytbpolmdokdhkhaa

/-! ### Truth by all assignments, and why steps prove -/
/-- Variable by variable: one value that makes it so, or (of universal ones) both. -/
def fromL (sat : Nat → Bool) (all : Nat) : List Nat → Nat → Bool
  | [], t => sat t
  | v :: vs, t => if fromL sat all vs (t ||| 2 ^ v) != all.testBit v then fromL sat all vs (t ||| 2 ^ v) else fromL sat all vs t
/-- A set of literals is hit by t: it has one that is true (val: true), or one that is false (val: false). -/
def Hit (val : Bool) (c : Nat × Nat) (t : Nat) : Prop := ∃ v, (c.1.testBit v = true ∧ t.testBit v = val) ∨ (c.2.testBit v = true ∧ t.testBit v = !val)
/-- t comes out of t0 by values of vs, at each of which the outcome stays val. -/
def Plays (sat : Nat → Bool) (all : Nat) (val : Bool) : List Nat → Nat → Nat → Prop
  | [], t0, t => sat t0 = val ∧ t = t0
  | v :: vs, t0, t => fromL sat all (v :: vs) t0 = val ∧ ∃ b : Bool, Plays sat all val vs (if b then t0 ||| 2 ^ v else t0) t

section
variable {sat : Nat → Bool} {all : Nat} {val : Bool}

theorem Plays.from {vs : List Nat} {t0 t : Nat} (h : Plays sat all val vs t0 t) : fromL sat all vs t0 = val := by
  cases vs with
  | nil => exact h.1
  | cons v vs => exact h.1
theorem from_both {v : Nat} {vs : List Nat} {t : Nat} (h : fromL sat all (v :: vs) t = val) (hk : all.testBit v = val) (b : Bool) : fromL sat all vs (if b then t ||| 2 ^ v else t) = val := by
  rw [fromL, hk] at h
  cases ha : fromL sat all vs (t ||| 2 ^ v) <;> cases hv : val <;> cases b <;> simp_all
theorem from_one {v : Nat} {vs : List Nat} {t : Nat} (h : fromL sat all (v :: vs) t = val) : ∃ b : Bool, fromL sat all vs (if b then t ||| 2 ^ v else t) = val := by
  rw [fromL] at h
  split at h
  · exact ⟨true, h⟩
  · exact ⟨false, h⟩
theorem bit_or (t v u : Nat) : (t ||| 2 ^ v).testBit u = (t.testBit u || decide (v = u)) := by rw [Nat.testBit_or, Nat.testBit_two_pow]
theorem pick_bit (b : Bool) (t v u : Nat) (h : u ≠ v) : (if b then t ||| 2 ^ v else t).testBit u = t.testBit u := by
  cases b with
  | false => rfl
  | true => rw [if_pos rfl, bit_or]; simp [Ne.symm h]
theorem pick_at (b : Bool) (t v : Nat) (h : t.testBit v = false) : (if b then t ||| 2 ^ v else t).testBit v = b := by
  cases b with
  | false => exact h
  | true => rw [if_pos rfl, bit_or]; simp
/-- Bits of other variables stay. -/
theorem Plays.stays : ∀ {vs : List Nat} {t0 t : Nat}, Plays sat all val vs t0 t → ∀ u, u ∉ vs → t.testBit u = t0.testBit u := by
  intro vs
  induction vs with
  | nil => intro t0 t h u _; rw [h.2]
  | cons v vs ih =>
    intro t0 t h u hu
    obtain ⟨_, b, h⟩ := h
    rw [List.mem_cons, not_or] at hu
    rw [ih h u hu.2, pick_bit _ _ _ _ hu.1]
/-- Where the outcome is val, some play leads on, whatever values the variables have that are of the kind that val is for. -/
theorem plays_ext (f : Nat → Bool) : ∀ (vs : List Nat) (t0 : Nat), fromL sat all vs t0 = val → vs.Nodup → (∀ v ∈ vs, t0.testBit v = false) → ∃ t, Plays sat all val vs t0 t ∧ ∀ v ∈ vs, all.testBit v = val → t.testBit v = f v := by
  intro vs
  induction vs with
  | nil => intro t0 h _ _; exact ⟨t0, ⟨h, rfl⟩, by simp⟩
  | cons v vs ih =>
    intro t0 h hn h0
    rw [List.nodup_cons] at hn
    have hstep : ∃ b : Bool, fromL sat all vs (if b then t0 ||| 2 ^ v else t0) = val ∧ (all.testBit v = val → b = f v) := by
      by_cases hk : all.testBit v = val
      · exact ⟨f v, from_both h hk _, fun _ => rfl⟩
      · obtain ⟨b, hb⟩ := from_one h
        exact ⟨b, hb, fun e => absurd e hk⟩
    obtain ⟨b, hb, hf⟩ := hstep
    obtain ⟨t, hp, ht⟩ := ih _ hb hn.2 (fun u hu => by
      rw [pick_bit b t0 v u (fun e => hn.1 (by rw [← e]; exact hu))]
      exact h0 u (by simp [hu]))
    refine ⟨t, ⟨h, b, hp⟩, fun u hu hk => ?_⟩
    rcases List.mem_cons.1 hu with rfl | hu
    · rw [hp.stays u hn.1, pick_at _ _ _ (h0 u (by simp))]
      exact hf hk
    · exact ht u hu hk
theorem plays_any_one (vs : List Nat) (t0 : Nat) (h : fromL sat all vs t0 = val) (hn : vs.Nodup) (h0 : ∀ v ∈ vs, t0.testBit v = false) : ∃ t, Plays sat all val vs t0 t := by
  obtain ⟨t, ht, _⟩ := plays_ext (fun _ => false) vs t0 h hn h0
  exact ⟨t, ht⟩
/-- A play cut in two. -/
theorem Plays.cut : ∀ {a b : List Nat} {t0 t : Nat}, Plays sat all val (a ++ b) t0 t → ∃ t1, Plays sat all val b t1 t ∧ (∀ t', Plays sat all val b t1 t' → Plays sat all val (a ++ b) t0 t') ∧ (∀ u, u ∉ a → t1.testBit u = t0.testBit u) := by
  intro a
  induction a with
  | nil => intro b t0 t h; exact ⟨t0, h, fun t' h' => h', fun u _ => rfl⟩
  | cons v a ih =>
    intro b t0 t h
    obtain ⟨h1, c, h2⟩ := h
    obtain ⟨t1, h3, h4, h5⟩ := ih h2
    refine ⟨t1, h3, fun t' h' => ⟨h1, c, h4 t' h'⟩, fun u hu => ?_⟩
    rw [List.mem_cons, not_or] at hu
    rw [h5 u hu.2, pick_bit _ _ _ _ hu.1]
theorem Plays.leaf : ∀ {vs : List Nat} {t0 t : Nat}, Plays sat all val vs t0 t → sat t = val := by
  intro vs
  induction vs with
  | nil => intro t0 t h; rw [h.2]; exact h.1
  | cons v vs ih => intro t0 t h; obtain ⟨_, b, h⟩ := h; exact ih h

/-- What holds of every step of a proof. -/
structure Good (sat : Nat → Bool) (all : Nat) (val : Bool) (order : List Nat) (c : Nat × Nat) : Prop where
  apart : ∀ v, c.1.testBit v = true → c.2.testBit v = true → False
  vars : ∀ v, c.1.testBit v = true ∨ c.2.testBit v = true → v ∈ order
  hits : ∀ t, Plays sat all val order 0 t → Hit val c t

/-- Reduction. -/
theorem good_reduced {pre suf : List Nat} {c c' : Nat × Nat} (hg : Good sat all val (pre ++ suf) c) (hn : (pre ++ suf).Nodup)
    (hlast : ∀ v ∈ suf, c.1.testBit v = true ∨ c.2.testBit v = true → all.testBit v = val)
    (h1 : ∀ v, c'.1.testBit v = (c.1.testBit v && !(decide (v ∈ suf) && (all.testBit v == val)))) (h2 : ∀ v, c'.2.testBit v = (c.2.testBit v && !(decide (v ∈ suf) && (all.testBit v == val)))) : Good sat all val (pre ++ suf) c' := by
  have s1 : ∀ v, c'.1.testBit v = true → c.1.testBit v = true := fun v h => by rw [h1, Bool.and_eq_true] at h; exact h.1
  have s2 : ∀ v, c'.2.testBit v = true → c.2.testBit v = true := fun v h => by rw [h2, Bool.and_eq_true] at h; exact h.1
  refine ⟨fun v a b => hg.apart v (s1 v a) (s2 v b), fun v h => hg.vars v (h.elim (fun h => Or.inl (s1 v h)) (fun h => Or.inr (s2 v h))), fun t ht => ?_⟩
  obtain ⟨t1, h3, h4, h5⟩ := ht.cut
  rw [List.nodup_append] at hn
  obtain ⟨hn1, hn2, hn3⟩ := hn
  have hz : ∀ v ∈ suf, t1.testBit v = false := fun v hv => by
    rw [h5 v (fun hp => hn3 v hp v hv rfl)]; simp
  obtain ⟨t', hp', hf'⟩ := plays_ext (fun v => if c.1.testBit v then !val else val) suf t1 h3.from hn2 hz
  obtain ⟨v, hv⟩ := hg.hits t' (h4 t' hp')
  have hvo : v ∈ pre ++ suf := hg.vars v (hv.elim (fun h => Or.inl h.1) (fun h => Or.inr h.1))
  by_cases hs : v ∈ suf
  · have hk := hlast v hs (hv.elim (fun h => Or.inl h.1) (fun h => Or.inr h.1))
    have hb := hf' v hs hk
    rcases hv with ⟨a, b⟩ | ⟨a, b⟩
    · rw [b, a, if_pos rfl] at hb
      cases val <;> cases hb
    · have hc1 : c.1.testBit v = false := by
        cases h : c.1.testBit v with
        | false => rfl
        | true => exact (hg.apart v h a).elim
      rw [b, hc1, if_neg (by decide)] at hb
      cases val <;> cases hb
  · have e1 : t'.testBit v = t.testBit v := by rw [hp'.stays v hs, h3.stays v hs]
    refine ⟨v, ?_⟩
    rw [h1, h2, ← e1]
    simpa [hs] using hv
/-- Resolution. -/
theorem good_resolved {order : List Nat} {a b c : Nat × Nat} {p : Nat} (ha : Good sat all val order a) (hb : Good sat all val order b) (_hap : a.1.testBit p = true) (_hbp : b.2.testBit p = true)
    (h1 : ∀ v, c.1.testBit v = ((a.1.testBit v && !(decide (v = p))) || b.1.testBit v)) (h2 : ∀ v, c.2.testBit v = (a.2.testBit v || (b.2.testBit v && !(decide (v = p)))))
    (hc : ∀ v, c.1.testBit v = true → c.2.testBit v = true → False) : Good sat all val order c := by
  refine ⟨hc, fun v h => ?_, fun t ht => ?_⟩
  · rw [h1, h2] at h
    simp at h
    rcases h with (h | h) | (h | h)
    · exact ha.vars v (Or.inl h.1)
    · exact hb.vars v (Or.inl h)
    · exact ha.vars v (Or.inr h)
    · exact hb.vars v (Or.inr h.1)
  · obtain ⟨v, hv⟩ := ha.hits t ht
    obtain ⟨u, hu⟩ := hb.hits t ht
    rcases hv with ⟨x, y⟩ | ⟨x, y⟩
    · by_cases hvp : v = p
      · subst hvp
        rcases hu with ⟨x', y'⟩ | ⟨x', y'⟩
        · exact ⟨u, Or.inl ⟨by rw [h1]; simp [x'], y'⟩⟩
        · by_cases hup : u = v
          · subst hup
            rw [y] at y'
            cases val <;> cases y'
          · exact ⟨u, Or.inr ⟨by rw [h2]; simp [x', hup], y'⟩⟩
      · exact ⟨v, Or.inl ⟨by rw [h1]; simp [x, hvp], y⟩⟩
    · exact ⟨v, Or.inr ⟨by rw [h2]; simp [x], y⟩⟩
/-- A step with no literals ends it. -/
theorem good_empty {order : List Nat} {c : Nat × Nat} (hg : Good sat all val order c) (hn : order.Nodup) (h1 : c.1 = 0) (h2 : c.2 = 0) : fromL sat all order 0 = !val := by
  by_cases h : fromL sat all order 0 = val
  · obtain ⟨t, ht⟩ := plays_any_one order 0 h hn (fun v _ => by simp)
    obtain ⟨v, hv⟩ := hg.hits t ht
    rw [h1, h2] at hv
    simp at hv
  · cases val <;> cases hh : fromL sat all order 0 <;> simp_all
end
end Go.Proofs.Ytbpolmdokdhkhaa

namespace Go.Proofs.Ytbpolmdokdhkhaa
open Go.RowKit

/-! ### What a text proves, by the document -/
/-- A number from 1 to most; 0: none. -/
def cnt (w : List UInt8) (most : Nat) : Nat := if w.all isDigit = true ∧ w.length ≤ 6 ∧ w.head? ≠ some 48 ∧ dec w ≤ most then dec w else 0
def big : Nat := 1048576
def hasB (c : Nat × Nat) (v : Nat) : Bool := (c.1 ||| c.2).testBit v
/-- One more than the last place that bars reduction. -/
def lastTo (order : List Nat) (kind : Nat) (c : Nat × Nat) : Nat → Nat
  | 0 => 0
  | k + 1 => if hasB c (order.getD k 0) && !kind.testBit (order.getD k 0) then k + 1 else lastTo order kind c k
def clr (kind : Nat) (c : Nat × Nat) (v : Nat) : Nat × Nat := if kind.testBit v then (less c.1 (2 ^ v), less c.2 (2 ^ v)) else c
def redR (order : List Nat) (kind : Nat) (c : Nat × Nat) : Nat × Nat := (order.drop (lastTo order kind c order.length)).foldl (clr kind) c
def apartO (c : Nat × Nat) : Option (Nat × Nat) := if c.1 &&& c.2 = 0 then some c else none
def axR (F : Form) (k : Nat) : Option (Nat × Nat) := if k < 1 ∨ F.cl.length < k then none else apartO (F.cl.getD (k - 1) (0, 0))
def litVar (w : List UInt8) : Nat := if dig w = 0 then (dig w.tail).toNat else (dig w).toNat
def cubeTo (order : List Nat) : Nat × Nat → Nat → List (List UInt8) → Option (Nat × Nat)
  | c, _, [] => some c
  | c, last, w :: ws => if (litInto c w).2 = true ∧ last < litVar w ∧ litVar w ∈ order then cubeTo order (litInto c w).1 (litVar w) ws else none
def missed (x c : Nat × Nat) : Bool := (x.1 &&& x.2 == 0) && ((x.1 &&& c.1 == 0) && (x.2 &&& c.2 == 0))
def satR (cl : List (Nat × Nat)) (c : Nat × Nat) : Bool := cl.all (fun x => !missed x c)
def cubeR (F : Form) (tl : List (List UInt8)) : Option (Nat × Nat) := (cubeTo F.order (0, 0) 0 tl).bind (fun c => if satR F.cl c then some c else none)
def resolve2 (a b : Nat × Nat) (v : Nat) : Nat × Nat := (less a.1 (2 ^ v) ||| b.1, a.2 ||| less b.2 (2 ^ v))
def resR (F : Form) (truth : Bool) (ss : List (Nat × Nat)) (i j v : Nat) : Option (Nat × Nat) :=
  if i < 1 ∨ ss.length < i ∨ j < 1 ∨ ss.length < j ∨ v < 1 ∨ 8 < v then none else
  if F.all.testBit v ≠ truth ∨ (ss.getD (i - 1) (0, 0)).1.testBit v = false ∨ (ss.getD (j - 1) (0, 0)).2.testBit v = false then none else
  apartO (resolve2 (ss.getD (i - 1) (0, 0)) (ss.getD (j - 1) (0, 0)) v)
def kindR (F : Form) (truth : Bool) : Nat := if truth then less 510 F.all else F.all
def reductR (F : Form) (truth : Bool) (ss : List (Nat × Nat)) (i : Nat) : Option (Nat × Nat) :=
  if i < 1 ∨ ss.length < i then none else some (redR F.order (kindR F truth) (ss.getD (i - 1) (0, 0)))
/-- What a line adds to the steps. -/
def stepR (F : Form) (truth : Bool) (ss : List (Nat × Nat)) (hd : List UInt8) (tl : List (List UInt8)) : Option (Nat × Nat) :=
  if hd = [97] ∧ truth = false ∧ tl.length = 1 then axR F (cnt (tl.getD 0 []) big)
  else if hd = [99] ∧ truth = true then cubeR F tl
  else if hd = [114] ∧ tl.length = 3 then resR F truth ss (cnt (tl.getD 0 []) big) (cnt (tl.getD 1 []) big) (cnt (tl.getD 2 []) big)
  else if hd = [100] ∧ tl.length = 1 then reductR F truth ss (cnt (tl.getD 0 []) big)
  else none
def lineR (F : Form) (truth : Bool) (ss : List (Nat × Nat)) (row : List UInt8) : Option (Nat × Nat) :=
  match cutAt 32 row with
  | [] => none
  | hd :: tl => if ss.length = 9000 then none else stepR F truth ss hd tl
theorem lineR_eq (F : Form) (truth : Bool) (ss : List (Nat × Nat)) (row hd : List UInt8) (tl : List (List UInt8)) (h : cutAt 32 row = hd :: tl) : lineR F truth ss row = if ss.length = 9000 then none else stepR F truth ss hd tl := by
  unfold lineR; rw [h]
/-- Lines from the n-th on: the steps, or the first line that is none. -/
def rowsR (F : Form) (truth : Bool) : List (Nat × Nat) → Nat → List (List UInt8) → List (Nat × Nat) ⊕ Nat
  | ss, _, [] => .inl ss
  | ss, n, r :: rs => match lineR F truth ss r with
    | none => .inr (n + 1)
    | some c => rowsR F truth (ss ++ [c]) (n + 1) rs
def isTwo (row : List UInt8) : Bool := (cutAt 32 row).head? == some [114]
def twoR (rs : List (List UInt8)) : Nat := (rs.filter isTwo).length
def sTrue : List UInt8 := [112, 114, 111, 111, 102, 32, 116, 114, 117, 101]
def sFalse : List UInt8 := [112, 114, 111, 111, 102, 32, 102, 97, 108, 115, 101]
def emptyLast (ss : List (Nat × Nat)) : Bool := match ss.getLast? with
  | none => false
  | some c => c.1 ||| c.2 == 0
def provesR (F : Form) (l : List UInt8) : (Nat × Nat) ⊕ (Bool × Nat) :=
  if 262144 < l.length then .inl (1, 0) else
  match (cutTo 10 l).1 with
  | [] => .inl (5, 1)
  | r0 :: rs => if r0 = sTrue ∨ r0 = sFalse then
      match rowsR F (r0 == sTrue) [] 1 rs with
      | .inr i => .inl (5, i)
      | .inl ss => if (cutTo 10 l).2 = [] ∧ emptyLast ss = true then .inr (r0 == sTrue, twoR rs) else .inl (5, rs.length + 2)
    else .inl (5, 1)

/-! ### Bounds -/
def Bd (c : Nat × Nat) : Prop := c.1 < 512 ∧ c.2 < 512
theorem less_lt (a b : Nat) (h : a < 512) : less a b < 512 := Nat.lt_of_le_of_lt (less_le a b) h
theorem clr_bd (kind : Nat) (c : Nat × Nat) (v : Nat) (h : Bd c) : Bd (clr kind c v) := by
  unfold clr; split
  · exact ⟨less_lt _ _ h.1, less_lt _ _ h.2⟩
  · exact h
theorem clrs_bd (kind : Nat) (l : List Nat) : ∀ c, Bd c → Bd (l.foldl (clr kind) c) := by
  induction l with
  | nil => intro c h; exact h
  | cons v l ih => intro c h; exact ih _ (clr_bd kind c v h)
theorem litInto_bd (c : Nat × Nat) (w : List UInt8) (h : Bd c) : Bd (litInto c w).1 := litInto_lt c w h.1 h.2
theorem cubeTo_bd (order : List Nat) (ws : List (List UInt8)) : ∀ c last c', Bd c → cubeTo order c last ws = some c' → Bd c' := by
  induction ws with
  | nil => intro c last c' h e; simp [cubeTo] at e; subst e; exact h
  | cons w ws ih =>
    intro c last c' h e
    rw [cubeTo] at e
    split at e
    · exact ih _ _ _ (litInto_bd c w h) e
    · cases e
theorem apartO_some {c c' : Nat × Nat} (h : apartO c = some c') : c' = c ∧ c.1 &&& c.2 = 0 := by
  unfold apartO at h
  split at h
  · next hh => simp at h; exact ⟨h.symm, hh⟩
  · cases h
theorem getD_bd (l : List (Nat × Nat)) (k : Nat) (h : ∀ c ∈ l, Bd c) : Bd (l.getD k (0, 0)) := by
  rw [List.getD]
  cases hk : l[k]? with
  | none => exact ⟨by decide, by decide⟩
  | some c => exact h c (List.mem_of_getElem? hk)
theorem stepR_bd (F : Form) (truth : Bool) (ss : List (Nat × Nat)) (hd : List UInt8) (tl : List (List UInt8)) (c : Nat × Nat) (hF : ∀ c ∈ F.cl, Bd c) (hS : ∀ c ∈ ss, Bd c) (h : stepR F truth ss hd tl = some c) : Bd c := by
  unfold stepR at h
  split at h
  · unfold axR at h
    split at h
    · cases h
    · obtain ⟨rfl, _⟩ := apartO_some h; exact getD_bd _ _ hF
  · split at h
    · unfold cubeR at h
      cases hc : cubeTo F.order (0, 0) 0 tl with
      | none => rw [hc] at h; cases h
      | some c' =>
        rw [hc] at h
        simp only [Option.bind_some] at h
        split at h
        · simp at h; subst h; exact cubeTo_bd _ _ _ _ _ ⟨by decide, by decide⟩ hc
        · cases h
    · split at h
      · unfold resR at h
        split at h
        · cases h
        · split at h
          · cases h
          · obtain ⟨rfl, _⟩ := apartO_some h
            have h1 := getD_bd ss (cnt (tl.getD 0 []) big - 1) hS
            have h2 := getD_bd ss (cnt (tl.getD 1 []) big - 1) hS
            exact ⟨or_lt _ _ (less_lt _ _ h1.1) h2.1, or_lt _ _ h1.2 (less_lt _ _ h2.2)⟩
      · split at h
        · unfold reductR at h
          split at h
          · cases h
          · simp at h; subst h
            exact clrs_bd _ _ _ (getD_bd _ _ hS)
        · cases h
end Go.Proofs.Ytbpolmdokdhkhaa

namespace Go.Proofs.Ytbpolmdokdhkhaa
open Go.RowKit

/-! ### readStep -/
def stepQ (q : QS) (kind : Nat) (ss : List (Nat × Nat)) (hd : List UInt8) (tl : List (List UInt8)) : Option (Nat × Nat) :=
  if hd = [97] then axiomQ q kind tl
  else if hd = [99] then cubeStepQ q kind tl
  else if hd = [114] then resQ q kind ss tl
  else if hd = [100] then reductQ q kind ss tl
  else none

/-- A step's result handed on. -/
theorem StPost.chain {res : Option (Nat × Nat)} {w w1 w2 : World} {e : Ending} (h : StPost res w1 e w2) (hb : Below w.heap.size w w1) : StPost res w e w2 :=
  ⟨hb.trans (h.1.mono hb.size), h.2⟩

set_option maxRecDepth 100000 in
set_option maxHeartbeats 3200000 in
theorem readStep_any (b : Nat) (q : QS) (kind : Nat) (ss : List (Nat × Nat)) (vV vC vS : Value) (hd : List UInt8) (tl : List (List UInt8)) (g off cap : Nat) (w : World) (hP : PInv w b q kind ss vV vC vS) (hQ : QB q) (hS : SB ss)
    (hs : StrsAt w (some ⟨g, off, none⟩) (hd :: tl)) (hl : tl.length ≤ 1048575) (hcap : tl.length + 1 ≤ cap) (hws : ∀ x ∈ tl, x.length ≤ 1048576) :
    Calls Try.prog 45 #[.pointer (some ⟨b, 0, none⟩), .slice (some ⟨g, off, none⟩) (tl.length + 1) cap] w fun e w' => StPost (stepQ q kind ss hd tl) w e w' := by
  obtain ⟨g', off', cur, he, hg, hcur⟩ := hs (by simp)
  injection he with he
  injection he with e1 e2 e3
  subst e1 e2
  clear e3
  have hgw := blk_lt hg
  have hc0 : w.cell? ⟨g, off, none⟩ = some (S hd) := by rw [blk_cell hg]; exact hcur 0 (by simp)
  have hA0 : Below w.heap.size w (w.alloc (.cells #[.int .i64 0, .int .i64 0] 96)) := (Below.refl _ _).alloc (Nat.le_refl _) _
  have HST : Hid (∀ ao : Option Addr, (tl ≠ [] → ao = some ⟨g, off + 1, none⟩) → StrsAt (w.alloc (.cells #[.int .i64 0, .int .i64 0] 96)) ao tl) := hide (fun ao ho hne => ⟨g, off + 1, cur, ho hne, (hA0.block _ hgw).trans hg, fun j hj => by
    have h1 := hcur (1 + j) (by simp; omega)
    rw [← Nat.add_assoc] at h1
    rw [h1]
    simp [show 1 + j = j + 1 from by omega]⟩)
  have HWS := hide hws
  have hP0 := hP.later hA0
  have hr0 := heap_alloc_new w (.cells #[.int .i64 0, .int .i64 0] 96)
  have hne0 : (((tl.length + 1 : Nat) : Int) == 0) = false := by rw [beq_eq_false_iff_ne]; omega
  clear hcur hws hs
  by_cases ha : hd = [97]
  · subst ha
    have HR : Hid (stepQ q kind ss [97] tl = axiomQ q kind tl) := hide rfl
    go_enter Try.func45, Try.ntmps45
    go_wp2_with fail
    all_goals
      refine (readAxiom_any b q kind ss vV vC vS tl _ _ _ hP0 hQ (unhide HST _ (fun hne => by first | rfl | (exfalso; apply hne; exact List.eq_nil_of_length_eq_zero (by omega)))) (by omega) (unhide HWS)).mono ?_
      rintro e w1 ⟨hb1, c, ok, rfl, hlt, hok⟩
      obtain ⟨p, n⟩ := c
      have HOK := hide hok
      clear hok
      have hr1 := (hb1.block _ (blk_lt hr0)).trans hr0
      have hB1 : Below w.heap.size w w1 := hA0.trans (hb1.mono hA0.size)
      have r0 : w1.cell? ⟨w.heap.size, 0, none⟩ = some (.int .i64 0) := by rw [blk_cell hr1]; rfl
      have r1 : w1.cell? ⟨w.heap.size, 1, none⟩ = some (.int .i64 0) := by rw [blk_cell hr1]; rfl
      have z0 := blk_free hr1 0
      have z1 := blk_free hr1 1
      have hR := blk_set (blk_set hr1 0 (.int .i64 p)) 1 (.int .i64 n)
      have j0 := blk_cell hR 0
      have j1 := blk_cell hR 1
      go_wp2_with fail
      refine bodyPost_ret (v := .tuple #[SetV (p, n), .bool ok]) (by simp [results, Try.results45, go_sem, j0, j1]) rfl ⟨?_, (p, n), ok, rfl, hlt, by rw [unhide HR]; exact unhide HOK⟩
      exact (hB1.setCell (p := ⟨w.heap.size, 0, none⟩) (Nat.le_refl _) _).setCell (p := ⟨w.heap.size, 1, none⟩) (Nat.le_refl _) _
  · have hab : (hd == [97]) = false := by simp [ha]
    by_cases hc : hd = [99]
    · subst hc
      clear ha hab
      have HR : Hid (stepQ q kind ss [99] tl = cubeStepQ q kind tl) := hide rfl
      go_enter Try.func45, Try.ntmps45
      go_wp2_with fail
      all_goals
        refine (readCube_any b q kind ss vV vC vS tl _ _ _ hP0 hQ (unhide HST _ (fun hne => by first | rfl | (exfalso; apply hne; exact List.eq_nil_of_length_eq_zero (by omega)))) (by omega) (unhide HWS)).mono ?_
        rintro e w1 ⟨hb1, c, ok, rfl, hlt, hok⟩
        obtain ⟨p, n⟩ := c
        have HOK := hide hok
        clear hok
        have hr1 := (hb1.block _ (blk_lt hr0)).trans hr0
        have hB1 : Below w.heap.size w w1 := hA0.trans (hb1.mono hA0.size)
        have r0 : w1.cell? ⟨w.heap.size, 0, none⟩ = some (.int .i64 0) := by rw [blk_cell hr1]; rfl
        have r1 : w1.cell? ⟨w.heap.size, 1, none⟩ = some (.int .i64 0) := by rw [blk_cell hr1]; rfl
        have z0 := blk_free hr1 0
        have z1 := blk_free hr1 1
        have hR := blk_set (blk_set hr1 0 (.int .i64 p)) 1 (.int .i64 n)
        have j0 := blk_cell hR 0
        have j1 := blk_cell hR 1
        go_wp2_with fail
        refine bodyPost_ret (v := .tuple #[SetV (p, n), .bool ok]) (by simp [results, Try.results45, go_sem, j0, j1]) rfl ⟨?_, (p, n), ok, rfl, hlt, by rw [unhide HR]; exact unhide HOK⟩
        exact (hB1.setCell (p := ⟨w.heap.size, 0, none⟩) (Nat.le_refl _) _).setCell (p := ⟨w.heap.size, 1, none⟩) (Nat.le_refl _) _
    · have hcb : (hd == [99]) = false := by simp [hc]
      by_cases hr : hd = [114]
      · subst hr
        clear ha hab hc hcb
        have HR : Hid (stepQ q kind ss [114] tl = resQ q kind ss tl) := hide rfl
        go_enter Try.func45, Try.ntmps45
        go_wp2_with fail
        all_goals
          refine (readResolvent_any b q kind ss vV vC vS tl _ _ _ hP0 hQ hS (unhide HST _ (fun hne => by first | rfl | (exfalso; apply hne; exact List.eq_nil_of_length_eq_zero (by omega)))) (by omega) (unhide HWS)).mono ?_
          rintro e w1 ⟨hb1, c, ok, rfl, hlt, hok⟩
          obtain ⟨p, n⟩ := c
          have HOK := hide hok
          clear hok
          have hr1 := (hb1.block _ (blk_lt hr0)).trans hr0
          have hB1 : Below w.heap.size w w1 := hA0.trans (hb1.mono hA0.size)
          have r0 : w1.cell? ⟨w.heap.size, 0, none⟩ = some (.int .i64 0) := by rw [blk_cell hr1]; rfl
          have r1 : w1.cell? ⟨w.heap.size, 1, none⟩ = some (.int .i64 0) := by rw [blk_cell hr1]; rfl
          have z0 := blk_free hr1 0
          have z1 := blk_free hr1 1
          have hR := blk_set (blk_set hr1 0 (.int .i64 p)) 1 (.int .i64 n)
          have j0 := blk_cell hR 0
          have j1 := blk_cell hR 1
          go_wp2_with fail
          refine bodyPost_ret (v := .tuple #[SetV (p, n), .bool ok]) (by simp [results, Try.results45, go_sem, j0, j1]) rfl ⟨?_, (p, n), ok, rfl, hlt, by rw [unhide HR]; exact unhide HOK⟩
          exact (hB1.setCell (p := ⟨w.heap.size, 0, none⟩) (Nat.le_refl _) _).setCell (p := ⟨w.heap.size, 1, none⟩) (Nat.le_refl _) _
      · have hrb : (hd == [114]) = false := by simp [hr]
        by_cases hdd : hd = [100]
        · subst hdd
          clear ha hab hc hcb hr hrb
          have HR : Hid (stepQ q kind ss [100] tl = reductQ q kind ss tl) := hide rfl
          go_enter Try.func45, Try.ntmps45
          go_wp2_with fail
          all_goals
            refine (readReduct_any b q kind ss vV vC vS tl _ _ _ hP0 hQ hS (unhide HST _ (fun hne => by first | rfl | (exfalso; apply hne; exact List.eq_nil_of_length_eq_zero (by omega)))) (by omega) (unhide HWS)).mono ?_
            rintro e w1 ⟨hb1, c, ok, rfl, hlt, hok⟩
            obtain ⟨p, n⟩ := c
            have HOK := hide hok
            clear hok
            have hr1 := (hb1.block _ (blk_lt hr0)).trans hr0
            have hB1 : Below w.heap.size w w1 := hA0.trans (hb1.mono hA0.size)
            have r0 : w1.cell? ⟨w.heap.size, 0, none⟩ = some (.int .i64 0) := by rw [blk_cell hr1]; rfl
            have r1 : w1.cell? ⟨w.heap.size, 1, none⟩ = some (.int .i64 0) := by rw [blk_cell hr1]; rfl
            have z0 := blk_free hr1 0
            have z1 := blk_free hr1 1
            have hR := blk_set (blk_set hr1 0 (.int .i64 p)) 1 (.int .i64 n)
            have j0 := blk_cell hR 0
            have j1 := blk_cell hR 1
            go_wp2_with fail
            refine bodyPost_ret (v := .tuple #[SetV (p, n), .bool ok]) (by simp [results, Try.results45, go_sem, j0, j1]) rfl ⟨?_, (p, n), ok, rfl, hlt, by rw [unhide HR]; exact unhide HOK⟩
            exact (hB1.setCell (p := ⟨w.heap.size, 0, none⟩) (Nat.le_refl _) _).setCell (p := ⟨w.heap.size, 1, none⟩) (Nat.le_refl _) _
        · have hdb : (hd == [100]) = false := by simp [hdd]
          have HR : Hid (stepQ q kind ss hd tl = none) := hide (by unfold stepQ; rw [if_neg ha, if_neg hc, if_neg hr, if_neg hdd])
          clear ha hc hr hdd
          go_enter Try.func45, Try.ntmps45
          go_wp2_with fail
          all_goals
            refine bodyPost_ret (v := .tuple #[SetV (0, 0), .bool false]) (by simp [results, Try.results45, go_sem]) rfl (StPost.none_ hA0 (unhide HR) (0, 0) zero_lt9 rfl)

/-! ### closed, readKind -/
def closedQ (ss : List (Nat × Nat)) : Bool := match ss.getLast? with
  | none => false
  | some c => c.1 ||| c.2 == 0
set_option maxRecDepth 100000 in
set_option maxHeartbeats 1600000 in
theorem closed_any (b : Nat) (q : QS) (kind : Nat) (ss : List (Nat × Nat)) (vV vC vS : Value) (w : World) (hP : PInv w b q kind ss vV vC vS) (hS : SB ss) :
    Calls Try.prog 24 #[.pointer (some ⟨b, 0, none⟩)] w fun e w' => e = .returned (.bool (closedQ ss)) ∧ Below w.heap.size w w' := by
  obtain ⟨aS, cS, rfl⟩ := own_form hP.oS
  have hbw := blk_lt hP.fb
  have hsl := hS.len
  have k3 : w.cell? ⟨b, 3, none⟩ = some (.slice aS ss.length cS) := by rw [blk_cell hP.fb]; rfl
  by_cases hn : ss = []
  · subst hn
    go_enter Try.func24, Try.ntmps24
    go_wp2_with fail
    go_ret
    exact ⟨rfl, Below.refl _ _⟩
  · have hpos : 0 < ss.length := List.length_pos_iff.2 hn
    obtain ⟨m, hm⟩ : ∃ m, ss.length = m + 1 := ⟨ss.length - 1, by omega⟩
    have hml : m < ss.length := by omega
    have HC : Hid (closedQ ss = (ss[m].1 ||| ss[m].2 == 0)) := hide (by
      unfold closedQ
      have : ss.getLast? = some ss[m] := by rw [List.getLast?_eq_getElem?, show ss.length - 1 = m from by omega, List.getElem?_eq_getElem hml]
      rw [this])
    obtain ⟨g, cap, hVe, hg, hg', _, hcell⟩ := own_pos hP.oS (by omega)
    injection hVe with hVe _ hV2
    subst hVe hV2
    obtain ⟨ha, hb'⟩ := pairs_at ss m hml
    have hx0 : w.cell? ⟨g, m * 2, none⟩ = some (.int .i64 (ss[m].1 : Int)) := hcell _ _ ha
    have hx1 : w.cell? ⟨g, m * 2 + 1, none⟩ = some (.int .i64 (ss[m].2 : Int)) := hcell _ _ hb'
    have hlt := hS.bits _ (List.getElem_mem hml)
    clear hcell ha hb'
    generalize ss[m] = c at *
    obtain ⟨p, n⟩ := c
    dsimp only at *
    rw [hm] at k3
    have hdm : decide ((0 : Int) ≤ (m : Int)) = true := by simp
    clear hn hpos
    go_enter Try.func24, Try.ntmps24
    go_wp2_with fail
    refine (empty_any p n w hlt.1 hlt.2).mono ?_
    rintro e w1 ⟨rfl, hb1⟩
    go_wp2_with fail
    go_ret
    exact ⟨ret_bool (unhide HC).symm, hb1⟩

def KindPost (b : Nat) (l : List UInt8) (w : World) (e : Ending) (w' : World) : Prop :=
  (l = sFalse ∧ e = .returned (.bool true) ∧ w' = w.setCell ⟨b, 2, none⟩ (.int .i64 1)) ∨ (l = sTrue ∧ e = .returned (.bool true) ∧ w' = w.setCell ⟨b, 2, none⟩ (.int .i64 2)) ∨ (l ≠ sTrue ∧ l ≠ sFalse ∧ e = .returned (.bool false) ∧ w' = w)
set_option maxRecDepth 100000 in
set_option maxHeartbeats 1600000 in
theorem readKind_any (b : Nat) (vV vC vS : Value) (kind : Nat) (l : List UInt8) (w : World) (hfb : w.heap[b]? = some (.cells #[vV, vC, .int .i64 kind, vS] 70 (0, 0))) :
    Calls Try.prog 44 #[.pointer (some ⟨b, 0, none⟩), .string ⟨l.toArray⟩] w fun e w' => KindPost b l w e w' := by
  have hbw := blk_lt hfb
  have k2 : w.cell? ⟨b, 2, none⟩ = some (.int .i64 kind) := by rw [blk_cell hfb]; rfl
  have z2 := blk_free hfb 2
  by_cases hf : l = sFalse
  · have HF := hide hf
    unfold sFalse at hf
    subst hf
    go_enter Try.func44, Try.ntmps44
    go_wp2_with fail
    go_ret
    exact Or.inl ⟨unhide HF, rfl, rfl⟩
  · by_cases ht : l = sTrue
    · have HT := hide ht
      clear hf
      unfold sTrue at ht
      subst ht
      go_enter Try.func44, Try.ntmps44
      go_wp2_with fail
      go_ret
      exact Or.inr (Or.inl ⟨unhide HT, rfl, rfl⟩)
    · have hfb1 : (l == [112, 114, 111, 111, 102, 32, 102, 97, 108, 115, 101]) = false := by rw [beq_eq_false_iff_ne]; exact hf
      have htb1 : (l == [112, 114, 111, 111, 102, 32, 116, 114, 117, 101]) = false := by rw [beq_eq_false_iff_ne]; exact ht
      have HT := hide ht
      have HF := hide hf
      clear hf ht
      go_enter Try.func44, Try.ntmps44
      go_wp2_with fail
      go_ret
      exact Or.inr (Or.inr ⟨unhide HT, unhide HF, rfl, rfl⟩)
end Go.Proofs.Ytbpolmdokdhkhaa

namespace Go.Proofs.Ytbpolmdokdhkhaa
open Go.RowKit

/-! ### readLine -/
def lineQ (q : QS) (kind : Nat) (ss : List (Nat × Nat)) (line : List UInt8) : Option (Nat × Nat) :=
  if 9000 ≤ ss.length then none else if splitOk line then (match cutAt 32 line with | [] => none | hd :: tl => stepQ q kind ss hd tl) else none
theorem lineQ_eq (q : QS) (kind : Nat) (ss : List (Nat × Nat)) (line hd : List UInt8) (tl : List (List UInt8)) (hl : ¬ 9000 ≤ ss.length) (hs : splitOk line = true) (h : cutAt 32 line = hd :: tl) : lineQ q kind ss line = stepQ q kind ss hd tl := by
  unfold lineQ; rw [if_neg hl, if_pos hs, h]
theorem PInv.push {wr wp w' : World} {b : Nat} {q : QS} {kind : Nat} {ss : List (Nat × Nat)} {vV vC vS v' : Value} {p n : Nat} (h : PInv wr b q kind ss vV vC vS) (hp : Below wr.heap.size wr wp) (hg : wp.grownBy w' vS.ownBlock)
    (hown : w'.ownsRow (b + 1) 96 2 v' (ss.length + 1) (pairs ss ++ [.int .i64 (p : Int), .int .i64 (n : Int)])) :
    w'.heap[b]? = some (.cells #[vV, vC, .int .i64 kind, vS] 70 (0, 0)) ∧ PInv (w'.setCell ⟨b, 3, none⟩ v') b q kind (ss ++ [(p, n)]) vV vC v' ∧ Below b wr w' := by
  have hlt := h.oS.lt
  have hbf := blk_lt h.fb
  have hpp := h.later hp
  have hbp : b < wp.heap.size := blk_lt hpp.fb
  have hfb : w'.heap[b]? = some (.cells #[vV, vC, .int .i64 kind, vS] 70 (0, 0)) := by
    rw [hg.block b hbp (fun e => by have := hlt b e.symm; omega)]; exact hpp.fb
  have hbg : Below b wp w' := (Below.refl b wp).grown hg (Nat.le_of_lt hbp) (fun k hk => by have := (hlt k hk).1; omega)
  have hset : Below b w' (w'.setCell ⟨b, 3, none⟩ v') := (Below.refl b w').setCell (p := ⟨b, 3, none⟩) (Nat.le_refl _) _
  refine ⟨hfb, ⟨blk_set hfb 3 v', own_under hpp.oV h.lV (hbg.trans hset), own_under hpp.oC h.lC (hbg.trans hset), ?_, h.lV, h.lC⟩, (hp.mono (Nat.le_of_lt hbf)).trans hbg⟩
  have := ownsRow_setCell_below hown (a := ⟨b, 3, none⟩) (Nat.lt_succ_self b) v'
  rw [← pairs_snoc ss (p, n)] at this
  simpa using this
def PLinePost (b : Nat) (q : QS) (kind : Nat) (ss : List (Nat × Nat)) (vV vC : Value) (line : List UInt8) (w : World) (e : Ending) (w' : World) : Prop :=
  Below b w w' ∧ match lineQ q kind ss line with
    | none => e = .returned (.bool false)
    | some c => e = .returned (.bool true) ∧ (c.1 < 512 ∧ c.2 < 512) ∧ ∃ vS', PInv w' b q kind (ss ++ [c]) vV vC vS'

set_option maxRecDepth 100000 in
set_option maxHeartbeats 3200000 in
theorem preadLine_any (b : Nat) (q : QS) (kind : Nat) (ss : List (Nat × Nat)) (vV vC vS : Value) (k : Nat) (line : List UInt8) (w : World) (hP : PInv w b q kind ss vV vC vS) (hQ : QB q) (hS : SB ss) (hk : 1 ≤ k) (hl : line.length ≤ 1048570) :
    Calls Try.prog 23 #[.pointer (some ⟨b, 0, none⟩), .int .i64 k, .string ⟨line.toArray⟩] w fun e w' => PLinePost b q kind ss vV vC line w e w' := by
  have hbw := blk_lt hP.fb
  have hsl := hS.len
  obtain ⟨aS, cS, rfl⟩ := own_form hP.oS
  have k3 : w.cell? ⟨b, 3, none⟩ = some (.slice aS ss.length cS) := by rw [blk_cell hP.fb]; rfl
  have hkb : ((k : Int) == 0) = false := by rw [beq_eq_false_iff_ne]; omega
  by_cases h9 : 9000 ≤ ss.length
  · have hd9 : decide ((9000 : Int) ≤ (ss.length : Int)) = true := by simp; omega
    have HF : Hid (lineQ q kind ss line = none) := hide (by unfold lineQ; rw [if_pos h9])
    clear h9
    go_enter Try.func23, Try.ntmps23
    go_wp2_with fail
    go_ret
    exact ⟨Below.refl _ _, by rw [unhide HF]; rfl⟩
  · have hd9 : decide ((9000 : Int) ≤ (ss.length : Int)) = false := by simp; omega
    have H9 := hide h9
    clear h9
    go_enter Try.func23, Try.ntmps23
    go_wp2_with fail
    refine (split_any line w (by omega)).mono ?_
    rintro e w2 ⟨hb, hsp⟩
    cases hok : splitOk line with
    | false =>
      rw [hok, if_neg (by decide)] at hsp
      subst hsp
      have HF : Hid (lineQ q kind ss line = none) := hide (by unfold lineQ; rw [if_neg (unhide H9), hok]; rfl)
      go_wp2_with fail
      go_ret
      exact ⟨hb.mono (Nat.le_of_lt hbw), by rw [unhide HF]; rfl⟩
    | true =>
      rw [hok, if_pos rfl] at hsp
      obtain ⟨v, rfl, hown⟩ := hsp
      have hwl : (cutAt 32 line).length ≤ 1048571 := by have := cutTo_size 32 line; simp [cutAt]; omega
      have hwl2 : ∀ x ∈ cutAt 32 line, x.length ≤ 1048576 := fun x hx => by have := cutAt_len 32 line x hx; omega
      obtain ⟨hd, tl, hws⟩ : ∃ hd tl, cutAt 32 line = hd :: tl := by
        cases h : cutAt 32 line with
        | nil => simp [cutAt] at h
        | cons a b => exact ⟨a, b, rfl⟩
      have HQ := hide (lineQ_eq q kind ss line hd tl (unhide H9) hok hws)
      rw [hws] at hown hwl hwl2
      clear hws hok
      rcases hown.2 with ⟨_, h0⟩ | ⟨g, cap, cur, rfl, hbg, hg, hnc, hcm, hcs, htake⟩
      · simp at h0
      simp only [List.length_cons] at hwl hnc
      have hST : StrsAt w2 (some ⟨g, 0, none⟩) (hd :: tl) := fun _ => ⟨g, 0, cur, rfl, hg, fun j hj => by
        have h1 := hown.cellAt j (by simpa using hj)
        rw [blk_cell hg] at h1
        rw [Nat.zero_add, h1, List.getElem?_map, List.getElem?_eq_getElem hj]; rfl⟩
      have HWL : Hid (∀ x ∈ tl, x.length ≤ 1048576) := hide (fun x hx => hwl2 x (List.mem_cons_of_mem _ hx))
      have hP2 := hP.later hb
      clear hwl2 htake hcs hcm
      simp only [List.length_cons]
      go_wp2_with fail
      refine (readStep_any b q kind ss vV vC _ hd tl g 0 cap w2 hP2 hQ hS hST (by omega) (by omega) (unhide HWL)).mono ?_
      rintro e w3 ⟨hb3, c, ok, rfl, hlt, hok⟩
      obtain ⟨p, n⟩ := c
      have hb03 : Below w.heap.size w w3 := below_trans hb hb3
      have hP3 := hP2.later hb3
      rcases hok with ⟨rfl, hok⟩ | ⟨rfl, hok⟩
      · have HF : Hid (lineQ q kind ss line = some (p, n)) := hide (by rw [unhide HQ]; exact hok)
        clear hok
        have hA3 : Below w3.heap.size w3 (w3.alloc (.cells #[.int .i64 (p : Int), .int .i64 (n : Int)] 96)) := (Below.refl _ _).alloc (Nat.le_refl _) _
        have hP3a := hP3.later hA3
        have hbw3 : b < w3.heap.size := blk_lt hP3.fb
        have f3 : w3.cell? ⟨b, 3, none⟩ = some (.slice aS ss.length cS) := by rw [blk_cell hP3.fb]; rfl
        have z3 := blk_free hP3.fb 3
        obtain ⟨i1, hi1, hz10, hz11, hz12⟩ := info_parts Try.info96
        have hf3a := heap_alloc_new w3 (.cells #[.int .i64 (p : Int), .int .i64 (n : Int)] 96)
        have hbz0 : Below w.heap.size w (w3.alloc (.cells #[.int .i64 (p : Int), .int .i64 (n : Int)] 96)) := below_trans hb03 hA3
        go_wp2_with fail
        generalize w3.alloc (.cells #[.int .i64 (p : Int), .int .i64 (n : Int)] 96) = wz at *
        have hbwz : b < wz.heap.size := blk_lt hP3a.fb
        have l0 : wz.cell? ⟨w3.heap.size, 0, none⟩ = some (.int .i64 p) := by rw [blk_cell hf3a]; rfl
        have l1 : wz.cell? ⟨w3.heap.size, 1, none⟩ = some (.int .i64 n) := by rw [blk_cell hf3a]; rfl
        have hlz : w3.heap.size < wz.heap.size := blk_lt hf3a
        have g3 : wz.cell? ⟨b, 3, none⟩ = some (.slice aS ss.length cS) := by rw [blk_cell hP3a.fb]; rfl
        have y3 := blk_free hP3a.fb 3
        have hapc : (Value.slice aS ss.length cS).ownBlock ≠ some w3.heap.size := fun e => by have := hP3.oS.lt _ e; omega
        go_region_law (refine step_append_own rfl (.tmp 42) (.tmp 44) 42 rfl (b + 1) 96 i1 (.agg #[.int .i64 0, .int .i64 0]) 2 16 Try.underlying42 hi1 hz10 hz11 hz12 rfl (by decide) (.slice aS ss.length cS) ss.length (pairs ss) (hP3a.oS.alloc _).drew rfl ⟨wz.heap.size, 0, none⟩ 1 1 [.int .i64 p, .int .i64 n] rfl rfl (new_cells wz [.int .i64 p, .int .i64 n] 96) (by simp [Value.oneCell']) (by unfold maxLen; omega) (by omega) (by simp; omega) ?_; intro v' w' hown' hgrow hnn; obtain ⟨hfb', hJ, hbJ⟩ := hP3a.push (((Below.refl _ wz).alloc (Nat.le_refl _) _).drew) hgrow hown'; obtain ⟨g4, cap4, rfl, hg4, hg4', hcap4, hcell4⟩ := own_pos hown' (by omega); have hq3' : w'.cell? ⟨b, 3, none⟩ = some (.slice aS ss.length cS) := (by rw [blk_cell hfb']; rfl); have hqz := blk_free hfb' 3)
        all_goals
          go_wp2_with fail
          go_ret
          refine ⟨((hbz0.mono (Nat.le_of_lt hbw)).trans hbJ).setCell (p := ⟨b, 3, none⟩) (Nat.le_refl _) _, ?_⟩
          rw [unhide HF]
          exact ⟨rfl, hlt, _, hJ⟩
      · have HF : Hid (lineQ q kind ss line = none) := hide (by rw [unhide HQ]; exact hok)
        clear hok
        go_wp2_with fail
        go_ret
        exact ⟨(hb03.mono (Nat.le_of_lt hbw)).alloc (by have := hb03.size; omega) _, by rw [unhide HF]; rfl⟩
end Go.Proofs.Ytbpolmdokdhkhaa

namespace Go.Proofs.Ytbpolmdokdhkhaa
open Go.RowKit

/-! ### Read -/
def rowsQ (q : QS) (kind : Nat) : List (Nat × Nat) → Nat → List (List UInt8) → List (Nat × Nat) ⊕ Nat
  | ss, _, [] => .inl ss
  | ss, n, r :: rs => match lineQ q kind ss r with
    | none => .inr (n + 1)
    | some c => rowsQ q kind (ss ++ [c]) (n + 1) rs
def goQ (q : QS) (ended : Bool) (total : Nat) (kind : Nat) (ss : List (Nat × Nat)) (n : Nat) (rs : List (List UInt8)) : (Nat × Nat) ⊕ (Nat × List (Nat × Nat)) :=
  match rowsQ q kind ss n rs with
  | .inr i => .inl (5, i)
  | .inl ss' => if ended = true ∧ closedQ ss' = true then .inr (kind, ss') else .inl (5, total + 1)
def kindOf (r0 : List UInt8) : Nat := if r0 = sTrue then 2 else 1
def firstQ (q : QS) (ended : Bool) (rows : List (List UInt8)) : (Nat × Nat) ⊕ (Nat × List (Nat × Nat)) :=
  match rows with
  | [] => .inl (5, 1)
  | r0 :: rs => if r0 = sTrue ∨ r0 = sFalse then goQ q ended (rs.length + 1) (kindOf r0) [] 1 rs else .inl (5, 1)
def readQ (q : QS) (l : List UInt8) : (Nat × Nat) ⊕ (Nat × List (Nat × Nat)) :=
  if 262144 < l.length then .inl (1, 0) else firstQ q (decide ((cutTo 10 l).2 = [])) (cutTo 10 l).1
theorem rows_first (q : QS) (ended : Bool) (rows : List (List UInt8)) (h : 0 < rows.length) : firstQ q ended rows = if rows[0] = sTrue ∨ rows[0] = sFalse then goQ q ended rows.length (kindOf rows[0]) [] 1 (rows.drop 1) else .inl (5, 1) := by
  cases rows with
  | nil => simp at h
  | cons r0 rs => rfl
theorem PInv.setKind {w : World} {b : Nat} {q : QS} {kind : Nat} {ss : List (Nat × Nat)} {vV vC vS : Value} (h : PInv w b q kind ss vV vC vS) (kd : Nat) : PInv (w.setCell ⟨b, 2, none⟩ (.int .i64 kd)) b q kd ss vV vC vS := by
  have hb : Below b w (w.setCell ⟨b, 2, none⟩ (.int .i64 kd)) := (Below.refl b w).setCell (p := ⟨b, 2, none⟩) (Nat.le_refl _) _
  exact ⟨blk_set h.fb 2 _, own_under h.oV h.lV hb, own_under h.oC h.lC hb, ownsRow_setCell_below h.oS (a := ⟨b, 2, none⟩) (Nat.lt_succ_self b) _, h.lV, h.lC⟩
def PReadPost (q : QS) (l : List UInt8) (w : World) (e : Ending) (w' : World) : Prop :=
  Below w.heap.size w w' ∧ match readQ q l with
    | .inl (x, i) => e = .returned (.tuple #[.agg #[.int .i64 0, .slice none 0 0], .int .i64 (x : Int), .int .i64 (i : Int)])
    | .inr (kind, ss) => ∃ vS, e = .returned (.tuple #[.agg #[.int .i64 (kind : Int), vS], .int .i64 0, .int .i64 0]) ∧ w'.ownsRow w.heap.size 96 2 vS ss.length (pairs ss)

set_option maxRecDepth 100000 in
set_option maxHeartbeats 1600000 in
theorem preadFirst_any (b : Nat) (vV vC vS : Value) (kind : Nat) (l : List UInt8) (w : World) (hfb : w.heap[b]? = some (.cells #[vV, vC, .int .i64 kind, vS] 70 (0, 0))) :
    Calls Try.prog 23 #[.pointer (some ⟨b, 0, none⟩), .int .i64 0, .string ⟨l.toArray⟩] w fun e w' => KindPost b l w e w' := by
  go_enter Try.func23, Try.ntmps23
  go_wp2_with fail
  refine (readKind_any b vV vC vS kind l w hfb).mono ?_
  intro e w1 hk
  have hr : ∃ o, e = .returned (.bool o) := by
    rcases hk with h | h | h
    · exact ⟨_, h.2.1⟩
    · exact ⟨_, h.2.1⟩
    · exact ⟨_, h.2.2.1⟩
  obtain ⟨o, rfl⟩ := hr
  have HK := hide hk
  clear hk
  go_wp2_with fail
  go_ret
  exact unhide HK

set_option maxRecDepth 100000 in
set_option maxHeartbeats 3200000 in
theorem pread_any (q : QS) (vV vC : Value) (l : List UInt8) (w : World) (hV : w.ownsRow 0 91 2 vV q.vars.length (varCells q.vars)) (hC : w.ownsRow 0 96 2 vC q.cl.length (pairs q.cl)) (hQ : QB q) :
    Calls Try.prog 16 #[.agg #[vV, vC], .string ⟨l.toArray⟩] w fun e w' => PReadPost q l w e w' := by
  by_cases hlong : 262144 < l.length
  · have hd : decide ((262144 : Int) < (l.length : Int)) = true := by simp; omega
    have HF : Hid (readQ q l = .inl (1, 0)) := hide (by unfold readQ; rw [if_pos hlong])
    clear hlong
    obtain ⟨aV, cV, rfl⟩ := own_form hV
    obtain ⟨aC, cC, rfl⟩ := own_form hC
    go_enter Try.func16, Try.ntmps16
    go_wp2_with fail
    refine bodyPost_ret (v := .tuple #[.agg #[.int .i64 0, .slice none 0 0], .int .i64 1, .int .i64 0]) (by simp [results, Try.results16, go_sem]) rfl ⟨((Below.refl _ _).alloc (Nat.le_refl _) _).alloc (by simp) _, ?_⟩
    rw [unhide HF]; rfl
  · have hl : l.length ≤ 262144 := by omega
    have hd : decide ((262144 : Int) < (l.length : Int)) = false := by simp; omega
    have hdr := cutTo_size 10 l
    have HSP : Hid (readQ q l = firstQ q (decide ((cutTo 10 l).2 = [])) (cutTo 10 l).1) := hide (by unfold readQ; rw [if_neg hlong])
    clear hlong
    have HlV : Hid (∀ k, vV.ownBlock = some k → k < w.heap.size) := hide (fun k hk => (hV.lt k hk).2)
    have HlC : Hid (∀ k, vC.ownBlock = some k → k < w.heap.size) := hide (fun k hk => (hC.lt k hk).2)
    obtain ⟨aV, cV, rfl⟩ := own_form hV
    obtain ⟨aC, cC, rfl⟩ := own_form hC
    have hA0 : Below w.heap.size w ((w.alloc (.cells #[.slice aV q.vars.length cV, .slice aC q.cl.length cC] 44)).alloc (.cells #[.int .i64 0, .slice none 0 0] 50)) := ((Below.refl _ _).alloc (Nat.le_refl _) _).alloc (by simp) _
    have hf0 : ((w.alloc (.cells #[.slice aV q.vars.length cV, .slice aC q.cl.length cC] 44)).alloc (.cells #[.int .i64 0, .slice none 0 0] 50)).heap[w.heap.size]? = some (.cells #[.slice aV q.vars.length cV, .slice aC q.cl.length cC] 44 (0, 0)) := by
      rw [heap_alloc_old _ _ (by simp)]; exact heap_alloc_new _ _
    have hr0 : ((w.alloc (.cells #[.slice aV q.vars.length cV, .slice aC q.cl.length cC] 44)).alloc (.cells #[.int .i64 0, .slice none 0 0] 50)).heap[w.heap.size + 1]? = some (.cells #[.int .i64 0, .slice none 0 0] 50 (0, 0)) := alloc_new_at (by simp)
    go_enter Try.func16, Try.ntmps16
    go_wp2_with fail
    refine (lines_any l _ (by omega)).mono ?_
    rintro e w1 ⟨v, rfl, hown, hb1⟩
    have hB1 : Below w.heap.size w w1 := hA0.trans (hb1.mono hA0.size)
    have hf1 := (hb1.block _ (blk_lt hf0)).trans hf0
    have hr1 := (hb1.block _ (blk_lt hr0)).trans hr0
    have hsz1 : w.heap.size + 1 < w1.heap.size := blk_lt hr1
    have f10 : w1.cell? ⟨w.heap.size, 0, none⟩ = some (.slice aV q.vars.length cV) := by rw [blk_cell hf1]; rfl
    have f11 : w1.cell? ⟨w.heap.size, 1, none⟩ = some (.slice aC q.cl.length cC) := by rw [blk_cell hf1]; rfl
    have HRL : Hid (∀ r ∈ (cutTo 10 l).1, r.length ≤ 262144) := hide (fun r hr => by
      have := cutAt_len 10 l r (by unfold cutAt; exact List.mem_append_left _ hr); omega)
    have hoV1 := own_below hV hB1
    have hoC1 := own_below hC hB1
    generalize hrows : (cutTo 10 l).1 = rows at *
    obtain ⟨aL, cL, rfl⟩ := own_form hown
    obtain ⟨ended, hended⟩ : ∃ o, decide ((cutTo 10 l).2 = []) = o := ⟨_, rfl⟩
    rw [hended] at HSP ⊢
    have hown1 := own_lo (lo := 0) hown (Nat.zero_le _)
    clear hown hrows hended
    have hrows2 : rows.length ≤ 262144 := by omega
    clear hdr
    go_wp2_with fail
    go_loopg [25] (rows.length) (fun m i wx => ∃ (k kind : Nat) (ss : List (Nat × Nat)) (vS : Value), i = .int .i64 k ∧ k + m = rows.length ∧ SB ss ∧ PInv wx w1.heap.size q kind ss (.slice aV q.vars.length cV) (.slice aC q.cl.length cC) vS ∧ Below w1.heap.size w1 wx ∧
      ((k = 0 ∧ kind = 0 ∧ ss = []) ∨ (1 ≤ k ∧ readQ q l = goQ q ended rows.length kind ss k (rows.drop k))))
    case atStart =>
      refine ⟨0, 0, [], _, rfl, by omega, ⟨by simp, by simp⟩, ⟨heap_alloc_new _ _, hoV1.alloc _, hoC1.alloc _, World.ownsRow_nil _ _ _ _, fun k hk => Nat.lt_of_lt_of_le (unhide HlV k hk) hB1.size, fun k hk => Nat.lt_of_lt_of_le (unhide HlC k hk) hB1.size⟩, (Below.refl _ _).alloc (Nat.le_refl _) _, Or.inl ⟨rfl, rfl, rfl⟩⟩
    case round =>
      obtain ⟨k, kind, ss, vS, rfl, hk, hSB, hP, hbx, hph⟩ := hrel
      have HPH := hide hph
      clear hph
      have hBx : Below w.heap.size w wr := hB1.trans (hbx.mono hB1.size)
      have hrx := (hbx.block _ hsz1).trans hr1
      have r0 : wr.cell? ⟨w.heap.size + 1, 0, none⟩ = some (.int .i64 0) := by rw [blk_cell hrx]; rfl
      have r1 : wr.cell? ⟨w.heap.size + 1, 1, none⟩ = some (.slice none 0 0) := by rw [blk_cell hrx]; rfl
      by_cases hlt : k < rows.length
      · obtain ⟨g, cap, hVe, hg, hg', _, hcell⟩ := own_pos hown1 (by omega)
        injection hVe with hVe _ hV2
        subst hVe hV2
        have hcj : wr.cell? ⟨g, k, none⟩ = some (S rows[k]) := by
          rw [hbx.cell (p := ⟨g, k, none⟩) hg']; exact hcell k _ (by simp [hlt])
        have hrl := unhide HRL _ (List.getElem_mem hlt)
        clear hcell
        go_wp2_with fail
        rcases unhide HPH with ⟨hk0, hkd, hss⟩ | ⟨hk1, hrq⟩
        · have HK0 := hide hk0
          subst hk0 hkd hss
          have HRQ : Hid (readQ q l = if rows[0] = sTrue ∨ rows[0] = sFalse then goQ q ended rows.length (kindOf rows[0]) [] 1 (rows.drop 1) else .inl (5, 1)) := hide (by
            rw [unhide HSP]
            exact rows_first q ended rows hlt)
          refine (preadFirst_any w1.heap.size _ _ vS 0 rows[0] wr hP.fb).mono ?_
          intro e w2 hkp
          have hkind : ∀ kd : Nat, PInv (wr.setCell ⟨w1.heap.size, 2, none⟩ (.int .i64 kd)) w1.heap.size q kd [] (.slice aV q.vars.length cV) (.slice aC q.cl.length cC) vS ∧ Below w1.heap.size w1 (wr.setCell ⟨w1.heap.size, 2, none⟩ (.int .i64 kd)) := fun kd => ⟨hP.setKind kd, hbx.setCell (p := ⟨w1.heap.size, 2, none⟩) (Nat.le_refl _) _⟩
          rcases hkp with ⟨h1, rfl, rfl⟩ | ⟨h1, rfl, rfl⟩ | ⟨h1, h2, rfl, hw2⟩
          · have HG : Hid (readQ q l = goQ q ended rows.length 1 [] 1 (rows.drop 1)) := hide (by
              rw [unhide HRQ, if_pos (Or.inr h1), h1]; rfl)
            obtain ⟨hPk, hbk⟩ := hkind 1
            have HPk := hide hPk
            have HBk := hide hbk
            clear h1 hPk hbk hkind
            go_wp2_with fail
            go_roundg (gk - 1)
            case measure => omega
            case rel => exact ⟨1, 1, [], vS, by go_num, by omega, hSB, unhide HPk, unhide HBk, Or.inr ⟨by omega, unhide HG⟩⟩
          · have HG : Hid (readQ q l = goQ q ended rows.length 2 [] 1 (rows.drop 1)) := hide (by
              rw [unhide HRQ, if_pos (Or.inl h1), h1]; rfl)
            obtain ⟨hPk, hbk⟩ := hkind 2
            have HPk := hide hPk
            have HBk := hide hbk
            clear h1 hPk hbk hkind
            go_wp2_with fail
            go_roundg (gk - 1)
            case measure => omega
            case rel => exact ⟨1, 2, [], vS, by go_num, by omega, hSB, unhide HPk, unhide HBk, Or.inr ⟨by omega, unhide HG⟩⟩
          · have HG : Hid (readQ q l = .inl (5, 1)) := hide (by rw [unhide HRQ, if_neg (fun h => h.elim h1 h2)])
            subst hw2
            clear h1 h2 hkind
            have hz := hrx
            have r20 : w2.cell? ⟨w.heap.size + 1, 0, none⟩ = some (.int .i64 0) := by rw [blk_cell hz]; rfl
            have r21 : w2.cell? ⟨w.heap.size + 1, 1, none⟩ = some (.slice none 0 0) := by rw [blk_cell hz]; rfl
            have y20 := blk_free hz 0
            have y21 := blk_free hz 1
            have hR := blk_set (blk_set hz 0 (.int .i64 0)) 1 (.slice none 0 0)
            have j0 := blk_cell hR 0
            have j1 := blk_cell hR 1
            go_wp2_with fail
            refine bodyPost_ret (v := .tuple #[.agg #[.int .i64 0, .slice none 0 0], .int .i64 5, .int .i64 1]) (by simp [results, Try.results16, go_sem, j0, j1]) rfl ⟨?_, ?_⟩
            · exact (hBx.setCell (p := ⟨w.heap.size + 1, 0, none⟩) (Nat.le_succ _) _).setCell (p := ⟨w.heap.size + 1, 1, none⟩) (Nat.le_succ _) _
            · rw [unhide HG]; exact congrArg (fun m : Int => Ending.returned (.tuple #[.agg #[.int .i64 0, .slice none 0 0], .int .i64 5, .int .i64 m])) (by omega)
        · have hrq2 : readQ q l = match lineQ q kind ss rows[k] with
              | none => .inl (5, k + 1)
              | some c => goQ q ended rows.length kind (ss ++ [c]) (k + 1) (rows.drop (k + 1)) := by
            rw [hrq]
            unfold goQ
            rw [List.drop_eq_getElem_cons hlt, rowsQ]
            cases lineQ q kind ss rows[k] <;> rfl
          have HRQ := hide hrq2
          clear hrq2 hrq
          refine (preadLine_any w1.heap.size q kind ss _ _ vS k rows[k] wr hP hQ hSB hk1 (by omega)).mono ?_
          rintro e w2 ⟨hb2, hp⟩
          have hb3 : Below w1.heap.size w1 w2 := hbx.trans hb2
          have hB3 : Below w.heap.size w w2 := hB1.trans (hb3.mono hB1.size)
          cases hq : lineQ q kind ss rows[k] with
          | none =>
            rw [hq] at hp
            have hp' : e = .returned (.bool false) := hp
            subst hp'
            have HF : Hid (readQ q l = .inl (5, k + 1)) := hide (by rw [unhide HRQ, hq])
            clear hp hq
            have hz := (hb3.block _ hsz1).trans hr1
            have r20 : w2.cell? ⟨w.heap.size + 1, 0, none⟩ = some (.int .i64 0) := by rw [blk_cell hz]; rfl
            have r21 : w2.cell? ⟨w.heap.size + 1, 1, none⟩ = some (.slice none 0 0) := by rw [blk_cell hz]; rfl
            have y20 := blk_free hz 0
            have y21 := blk_free hz 1
            have hR := blk_set (blk_set hz 0 (.int .i64 0)) 1 (.slice none 0 0)
            have j0 := blk_cell hR 0
            have j1 := blk_cell hR 1
            go_wp2_with fail
            refine bodyPost_ret (v := .tuple #[.agg #[.int .i64 0, .slice none 0 0], .int .i64 5, .int .i64 ((k : Int) + 1)]) (by simp [results, Try.results16, go_sem, j0, j1]) rfl ⟨?_, ?_⟩
            · exact (hB3.setCell (p := ⟨w.heap.size + 1, 0, none⟩) (Nat.le_succ _) _).setCell (p := ⟨w.heap.size + 1, 1, none⟩) (Nat.le_succ _) _
            · rw [unhide HF]; exact congrArg (fun m : Int => Ending.returned (.tuple #[.agg #[.int .i64 0, .slice none 0 0], .int .i64 5, .int .i64 m])) (by omega)
          | some c =>
            rw [hq] at hp
            have hp' : e = .returned (.bool true) ∧ (c.1 < 512 ∧ c.2 < 512) ∧ ∃ vS', PInv w2 w1.heap.size q kind (ss ++ [c]) (.slice aV q.vars.length cV) (.slice aC q.cl.length cC) vS' := hp
            obtain ⟨rfl, hlt2, vS', hP'⟩ := hp'
            have HF : Hid (readQ q l = goQ q ended rows.length kind (ss ++ [c]) (k + 1) (rows.drop (k + 1))) := hide (by rw [unhide HRQ, hq])
            have hSB' : SB (ss ++ [c]) := ⟨by
              have : ¬ 9000 ≤ ss.length := fun h9 => by unfold lineQ at hq; rw [if_pos h9] at hq; cases hq
              simp; omega, fun c' hc' => by
              rcases List.mem_append.1 hc' with hc' | hc'
              · exact hSB.bits c' hc'
              · simp at hc'; subst hc'; exact hlt2⟩
            have HS := hide hSB'
            clear hp hq hSB'
            go_wp2_with fail
            go_roundg (gk - 1)
            case measure => omega
            case rel => exact ⟨k + 1, kind, ss ++ [c], vS', by go_num, by omega, unhide HS, hP', hb3, Or.inr ⟨by omega, unhide HF⟩⟩
      · have hkl : k = rows.length := by omega
        have HRQ : Hid (readQ q l = if ended = true ∧ closedQ ss = true then .inr (kind, ss) else .inl (5, rows.length + 1)) := hide (by
          rcases unhide HPH with ⟨hk0, hkd, hss⟩ | ⟨hk1, hrq⟩
          · have : rows = [] := List.eq_nil_of_length_eq_zero (by omega)
            rw [unhide HSP, this, hss, if_neg (by intro h; cases h.2)]
            rfl
          · rw [hrq, hkl, List.drop_length]; rfl)
        subst hkl
        cases ended with
        | false =>
          have HF : Hid (readQ q l = .inl (5, rows.length + 1)) := hide (by rw [unhide HRQ, if_neg (by intro h; cases h.1)])
          have hz := hrx
          have r20 : wr.cell? ⟨w.heap.size + 1, 0, none⟩ = some (.int .i64 0) := by rw [blk_cell hz]; rfl
          have r21 : wr.cell? ⟨w.heap.size + 1, 1, none⟩ = some (.slice none 0 0) := by rw [blk_cell hz]; rfl
          have y20 := blk_free hz 0
          have y21 := blk_free hz 1
          have hR := blk_set (blk_set hz 0 (.int .i64 0)) 1 (.slice none 0 0)
          have j0 := blk_cell hR 0
          have j1 := blk_cell hR 1
          go_wp2_with fail
          refine bodyPost_ret (v := .tuple #[.agg #[.int .i64 0, .slice none 0 0], .int .i64 5, .int .i64 ((rows.length : Int) + 1)]) (by simp [results, Try.results16, go_sem, j0, j1]) rfl ⟨?_, ?_⟩
          · exact (hBx.setCell (p := ⟨w.heap.size + 1, 0, none⟩) (Nat.le_succ _) _).setCell (p := ⟨w.heap.size + 1, 1, none⟩) (Nat.le_succ _) _
          · rw [unhide HF]; exact congrArg (fun m : Int => Ending.returned (.tuple #[.agg #[.int .i64 0, .slice none 0 0], .int .i64 5, .int .i64 m])) (by omega)
        | true =>
          go_wp2_with fail
          refine (closed_any w1.heap.size q kind ss _ _ vS wr hP hSB).mono ?_
          rintro e w2 ⟨rfl, hb2⟩
          have hP2 := hP.later hb2
          have hb3 : Below w1.heap.size w1 w2 := hbx.trans (hb2.mono hbx.size)
          have hB3 : Below w.heap.size w w2 := hB1.trans (hb3.mono hB1.size)
          cases hcl : closedQ ss with
          | false =>
            have HF : Hid (readQ q l = .inl (5, rows.length + 1)) := hide (by rw [unhide HRQ, if_neg (by rw [hcl]; intro h; cases h.2)])
            clear hcl
            have hz := (hb3.block _ hsz1).trans hr1
            have r20 : w2.cell? ⟨w.heap.size + 1, 0, none⟩ = some (.int .i64 0) := by rw [blk_cell hz]; rfl
            have r21 : w2.cell? ⟨w.heap.size + 1, 1, none⟩ = some (.slice none 0 0) := by rw [blk_cell hz]; rfl
            have y20 := blk_free hz 0
            have y21 := blk_free hz 1
            have hR := blk_set (blk_set hz 0 (.int .i64 0)) 1 (.slice none 0 0)
            have j0 := blk_cell hR 0
            have j1 := blk_cell hR 1
            go_wp2_with fail
            refine bodyPost_ret (v := .tuple #[.agg #[.int .i64 0, .slice none 0 0], .int .i64 5, .int .i64 ((rows.length : Int) + 1)]) (by simp [results, Try.results16, go_sem, j0, j1]) rfl ⟨?_, ?_⟩
            · exact (hB3.setCell (p := ⟨w.heap.size + 1, 0, none⟩) (Nat.le_succ _) _).setCell (p := ⟨w.heap.size + 1, 1, none⟩) (Nat.le_succ _) _
            · rw [unhide HF]; exact congrArg (fun m : Int => Ending.returned (.tuple #[.agg #[.int .i64 0, .slice none 0 0], .int .i64 5, .int .i64 m])) (by omega)
          | true =>
            have HF : Hid (readQ q l = .inr (kind, ss)) := hide (by rw [unhide HRQ, if_pos (by simp [hcl])])
            clear hcl
            have hz := (hb3.block _ hsz1).trans hr1
            have r20 : w2.cell? ⟨w.heap.size + 1, 0, none⟩ = some (.int .i64 0) := by rw [blk_cell hz]; rfl
            have r21 : w2.cell? ⟨w.heap.size + 1, 1, none⟩ = some (.slice none 0 0) := by rw [blk_cell hz]; rfl
            have y20 := blk_free hz 0
            have y21 := blk_free hz 1
            have p2 : w2.cell? ⟨w1.heap.size, 2, none⟩ = some (.int .i64 kind) := by rw [blk_cell hP2.fb]; rfl
            have p3 : w2.cell? ⟨w1.heap.size, 3, none⟩ = some vS := by rw [blk_cell hP2.fb]; rfl
            obtain ⟨aS, cS, rfl⟩ := own_form hP2.oS
            have hO := ownsRow_setCell_below (ownsRow_setCell_below hP2.oS (a := ⟨w.heap.size + 1, 0, none⟩) (show w.heap.size + 1 < w1.heap.size + 1 by omega) (.int .i64 kind)) (a := ⟨w.heap.size + 1, 1, none⟩) (show w.heap.size + 1 < w1.heap.size + 1 by omega) (.slice aS ss.length cS)
            have HO := hide (own_lo (lo := w.heap.size) hO (by omega))
            clear hO
            have hR := blk_set (blk_set hz 0 (.int .i64 kind)) 1 (.slice aS ss.length cS)
            have j0 := blk_cell hR 0
            have j1 := blk_cell hR 1
            go_wp2_with fail
            refine bodyPost_ret (v := .tuple #[.agg #[.int .i64 kind, .slice aS ss.length cS], .int .i64 0, .int .i64 0]) (by simp [results, Try.results16, go_sem, j0, j1]) rfl ⟨?_, ?_⟩
            · exact (hB3.setCell (p := ⟨w.heap.size + 1, 0, none⟩) (Nat.le_succ _) _).setCell (p := ⟨w.heap.size + 1, 1, none⟩) (Nat.le_succ _) _
            · rw [unhide HF]; exact ⟨_, rfl, unhide HO⟩
end Go.Proofs.Ytbpolmdokdhkhaa

namespace Go.Proofs.Ytbpolmdokdhkhaa
open Go.RowKit

/-! ### Check -/
def checkQ (q : QS) (l : List UInt8) : Nat × Nat × Nat := match readQ q l with
  | .inl (x, i) => (0, x, i)
  | .inr (kind, _) => (kind, 0, 0)
def CheckPost (q : QS) (l : List UInt8) (w : World) (e : Ending) (w' : World) : Prop :=
  Below w.heap.size w w' ∧ e = .returned (.tuple #[.int .i64 ((checkQ q l).1 : Int), .int .i64 ((checkQ q l).2.1 : Int), .int .i64 ((checkQ q l).2.2 : Int)])

set_option maxRecDepth 100000 in
set_option maxHeartbeats 1600000 in
theorem check_any (lo b : Nat) (q : QS) (l : List UInt8) (w : World) (hP : ProgAt lo w b q) (hQ : QB q) :
    Calls Try.prog 12 #[.pointer (some ⟨b, 0, none⟩), .string ⟨l.toArray⟩] w fun e w' => CheckPost q l w e w' := by
  obtain ⟨_, vV, vC, hfb, hV, hC⟩ := hP
  have hbw := blk_lt hfb
  have k0 : w.cell? ⟨b, 0, none⟩ = some vV := by rw [blk_cell hfb]; rfl
  have k1 : w.cell? ⟨b, 1, none⟩ = some vC := by rw [blk_cell hfb]; rfl
  obtain ⟨aV, cV, rfl⟩ := own_form hV
  obtain ⟨aC, cC, rfl⟩ := own_form hC
  go_enter Try.func12, Try.ntmps12
  go_wp2_with fail
  have hA : Below w.heap.size w (w.alloc (.cells #[.slice aV q.vars.length cV, .slice aC q.cl.length cC] 44)) := (Below.refl _ _).alloc (Nat.le_refl _) _
  refine (pread_any q _ _ l _ (own_lo (lo := 0) (own_below hV hA) (Nat.zero_le _)) (own_lo (lo := 0) (own_below hC hA) (Nat.zero_le _)) hQ).mono ?_
  rintro e w1 ⟨hb1, hp⟩
  have hB1 : Below w.heap.size w w1 := hA.trans (hb1.mono hA.size)
  cases hq : readQ q l with
  | inl xi =>
    obtain ⟨x, i⟩ := xi
    rw [hq] at hp
    have hp' : e = .returned (.tuple #[.agg #[.int .i64 0, .slice none 0 0], .int .i64 (x : Int), .int .i64 (i : Int)]) := hp
    subst hp'
    have HC : Hid (checkQ q l = (0, x, i)) := hide (by unfold checkQ; rw [hq])
    clear hp hq
    go_wp2_with fail
    go_ret3
    exact ⟨hB1.alloc hB1.size _, by rw [unhide HC]; rfl⟩
  | inr ks =>
    obtain ⟨kind, ss⟩ := ks
    rw [hq] at hp
    obtain ⟨vS, rfl, hS⟩ := hp
    have HC : Hid (checkQ q l = (kind, 0, 0)) := hide (by unfold checkQ; rw [hq])
    clear hq
    obtain ⟨aS, cS, rfl⟩ := own_form hS
    go_wp2_with fail
    go_ret3
    exact ⟨hB1.alloc hB1.size _, by rw [unhide HC]; rfl⟩
end Go.Proofs.Ytbpolmdokdhkhaa
