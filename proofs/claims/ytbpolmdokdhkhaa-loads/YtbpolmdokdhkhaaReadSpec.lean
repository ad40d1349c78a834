import Derived.Test.YtbpolmdokdhkhaaCut
import Derived.Test.YtbpolmdokdhkhaaUniv
namespace Go.Proofs.Ytbpolmdokdhkhaa
open Go.RowKit

/-- What Read gathers, line by line. -/
structure RS where
  cl : List (Nat × Nat)
  told : List Nat
  kinds : List Bool
  seen : Nat
  used : Nat

def litInto (c : (Nat × Nat)) (w : List UInt8) : (Nat × Nat) × Bool :=
  match w with
  | 45 :: r => ((c.1, c.2 ||| 2 ^ (dig r).toNat), decide (0 < dig r))
  | w => ((c.1 ||| 2 ^ (dig w).toNat, c.2), decide (0 < dig w))
def litsTo (ws : List (List UInt8)) : (Nat × Nat) × Bool :=
  ws.foldl (fun st w => ((litInto st.1 w).1, st.2 && (litInto st.1 w).2)) ((0, 0), true)
structure PS where
  told : List Nat
  kinds : List Bool
  seen : Nat
  ok : Bool
def varStep (a : Bool) (st : PS) (w : List UInt8) : PS :=
  { told := st.told ++ [(dig w).toNat], kinds := st.kinds ++ [a], seen := st.seen ||| 2 ^ (dig w).toNat,
    ok := if dig w = 0 ∨ st.seen.testBit (dig w).toNat then false else st.ok }
def varsTo (a : Bool) (st : RS) (ws : List (List UInt8)) : PS := ws.foldl (varStep a) ⟨st.told, st.kinds, st.seen, true⟩
/-- One line, by its words: what is gathered behind it, and whether it is a line. -/
def rowOf (st : RS) (hd : List UInt8) (tl : List (List UInt8)) : RS × Bool :=
  if hd = [99] then
    ({ st with cl := st.cl ++ [(litsTo tl).1], used := st.used ||| (litsTo tl).1.1 ||| (litsTo tl).1.2 }, (litsTo tl).2)
  else if (hd = [101] ∨ hd = [97]) ∧ st.cl = [] ∧ tl ≠ [] then
    ({ st with told := (varsTo (hd == [97]) st tl).told, kinds := (varsTo (hd == [97]) st tl).kinds, seen := (varsTo (hd == [97]) st tl).seen }, (varsTo (hd == [97]) st tl).ok)
  else (st, false)
def rowStep (st : RS) (row : List UInt8) : RS × Bool :=
  match cutAt 32 row with
  | [] => (st, false)
  | hd :: tl => rowOf st hd tl
theorem rowStep_eq (st : RS) (row hd : List UInt8) (tl : List (List UInt8)) (h : cutAt 32 row = hd :: tl) : rowStep st row = rowOf st hd tl := by unfold rowStep; rw [h]
/-- Lines from the i-th on: what is gathered, or the first line that is none. -/
def readRows (st : RS) (i : Nat) : List (List UInt8) → RS ⊕ Nat
  | [] => .inl st
  | r :: rs => if (rowStep st r).2 then readRows (rowStep st r).1 (i + 1) rs else .inr (i + 1)
def rs0 : RS := ⟨[], [], [], 0, 0⟩

theorem litInto_neg (c : Nat × Nat) (r : List UInt8) : litInto c (45 :: r) = ((c.1, c.2 ||| 2 ^ (dig r).toNat), decide (0 < dig r)) := rfl
theorem litInto_pos (c : Nat × Nat) (r : List UInt8) (h : r.head? ≠ some 45) : litInto c r = ((c.1 ||| 2 ^ (dig r).toNat, c.2), decide (0 < dig r)) := by
  unfold litInto; split
  · simp at h
  · rfl
theorem litInto_lt (c : Nat × Nat) (r : List UInt8) (h1 : c.1 < 512) (h2 : c.2 < 512) : (litInto c r).1.1 < 512 ∧ (litInto c r).1.2 < 512 := by
  have d : ∀ r, 2 ^ (dig r).toNat < 512 := fun r => by
    have := dig_bd r; have := pow_bd (dig r).toNat (by omega); omega
  unfold litInto; split
  · exact ⟨h1, or_lt _ _ h2 (d _)⟩
  · exact ⟨or_lt _ _ h1 (d _), h2⟩
theorem litsTo_take (ws : List (List UInt8)) (j : Nat) (h : j < ws.length) : litsTo (ws.take (j + 1)) = ((litInto (litsTo (ws.take j)).1 ws[j]).1, (litsTo (ws.take j)).2 && (litInto (litsTo (ws.take j)).1 ws[j]).2) := by
  unfold litsTo
  rw [List.take_succ_eq_append_getElem h, List.foldl_append]; rfl
theorem litsTo_lt (ws : List (List UInt8)) : (litsTo ws).1.1 < 512 ∧ (litsTo ws).1.2 < 512 := by
  unfold litsTo
  suffices h : ∀ (ws : List (List UInt8)) (st : (Nat × Nat) × Bool), st.1.1 < 512 → st.1.2 < 512 → (ws.foldl (fun st w => ((litInto st.1 w).1, st.2 && (litInto st.1 w).2)) st).1.1 < 512 ∧ (ws.foldl (fun st w => ((litInto st.1 w).1, st.2 && (litInto st.1 w).2)) st).1.2 < 512 from h ws _ (by decide) (by decide)
  intro ws
  induction ws with
  | nil => intro st h1 h2; exact ⟨h1, h2⟩
  | cons w ws ih =>
    intro st h1 h2
    have := litInto_lt st.1 w h1 h2
    exact ih _ this.1 this.2

theorem literal_any (l : List UInt8) (b p n : Nat) (w : World) (hblk : w.heap[b]? = some (.cells #[.int .i64 p, .int .i64 n] 115 (0, 0))) (hp : p < 512) (hn : n < 512) :
    Calls Try.prog 65 #[.pointer (some ⟨b, 0, none⟩), .string ⟨l.toArray⟩] w fun e w' => 
      e = .returned (.bool (litInto (p, n) l).2) ∧ w'.heap[b]? = some (.cells #[.int .i64 ((litInto (p, n) l).1.1 : Int), .int .i64 ((litInto (p, n) l).1.2 : Int)] 115 (0, 0)) ∧ Only (· = b) w w' := by
  by_cases h : l.head? = some 45
  · match l, h with
    | c :: r, h =>
      simp at h; subst h
      exact literal_neg r b p n w hblk hn
  · rw [litInto_pos _ _ h]
    exact literal_pos l h b p n w hblk hp

theorem cutAt_len (c : UInt8) (l : List UInt8) : ∀ r ∈ cutAt c l, r.length ≤ l.length := by
  have h : ∀ (l : List UInt8) (st : List (List UInt8) × List UInt8) (B : Nat), (∀ r ∈ st.1, r.length ≤ B) → st.2.length ≤ B → (∀ r ∈ (l.foldl (cutStep c) st).1, r.length ≤ B + l.length) ∧ (l.foldl (cutStep c) st).2.length ≤ B + l.length := by
    intro l
    induction l with
    | nil => intro st B h1 h2; exact ⟨by simpa using h1, by simpa using h2⟩
    | cons b l ih =>
      intro st B h1 h2
      have := ih (cutStep c st b) (B + 1) (by
        intro r hr
        unfold cutStep at hr
        split at hr
        · simp at hr
          rcases hr with hr | hr
          · have := h1 r hr; omega
          · subst hr; omega
        · have := h1 r hr; omega) (by unfold cutStep; split <;> simp; omega)
      simp only [List.foldl_cons, List.length_cons]
      rw [show B + (l.length + 1) = B + 1 + l.length from by omega]
      exact this
  have := h l ([], []) 0 (by simp) (by simp)
  intro r hr
  simp [cutAt] at hr
  rcases hr with hr | hr
  · have := this.1 r hr; omega
  · have := this.2; subst hr; unfold cutTo; omega

/-! ### What Read answers -/
/-- A formula: variables from the outermost on, the universal ones (bits), where blocks end, clauses. -/
structure Form where
  order : List Nat
  all : Nat
  ends : List Nat
  cl : List (Nat × Nat)
def freeTo (st : RS) (k : Nat) : List Nat := ((List.range k).map (· + 1)).filter (fun v => st.used.testBit v && !st.seen.testBit v)
def allTo (st : RS) (k : Nat) : Nat := ((st.told.zip st.kinds).take k).foldl (fun a x => if x.2 then a ||| 2 ^ x.1 else a) 0
def endAt (order : List Nat) (all : Nat) (i : Nat) : Bool := i == order.length || (all.testBit (order.getD i 0) != all.testBit (order.getD (i - 1) 0))
def endsTo (order : List Nat) (all : Nat) (k : Nat) : List Nat := ((List.range k).map (· + 1)).filter (endAt order all)
def orderOf (st : RS) : List Nat := freeTo st 8 ++ st.told
def finish (st : RS) : Form :=
  { order := orderOf st, all := allTo st st.told.length, ends := endsTo (orderOf st) (allTo st st.told.length) (orderOf st).length, cl := st.cl }
/-- An error and the line, or a formula. -/
def readSpec (l : List UInt8) : (Nat × Nat) ⊕ Form :=
  if 2000 < l.length then .inl (1, 0) else
  match readRows rs0 0 (cutAt 10 l).dropLast with
  | .inr i => .inl (2, i)
  | .inl st => if (cutAt 10 l).getLast? ≠ some [] then .inl (2, (cutAt 10 l).length) else if 24 < st.cl.length then .inl (3, 0) else .inr (finish st)

theorem freeTo_succ (st : RS) (k : Nat) : freeTo st (k + 1) = freeTo st k ++ (if st.used.testBit (k + 1) && !st.seen.testBit (k + 1) then [k + 1] else []) := by
  unfold freeTo
  rw [List.range_succ, List.map_append, List.filter_append]
  congr 1
  simp [List.filter_cons]
theorem endsTo_succ (order : List Nat) (all k : Nat) : endsTo order all (k + 1) = endsTo order all k ++ (if endAt order all (k + 1) then [k + 1] else []) := by
  unfold endsTo
  rw [List.range_succ, List.map_append, List.filter_append]
  congr 1
  simp [List.filter_cons]
theorem allTo_succ (st : RS) (k : Nat) (h1 : k < st.told.length) (h2 : k < st.kinds.length) : allTo st (k + 1) = if st.kinds[k] then allTo st k ||| 2 ^ st.told[k] else allTo st k := by
  unfold allTo
  have hz : k < (st.told.zip st.kinds).length := by simp; omega
  rw [List.take_succ_eq_append_getElem hz, List.foldl_append]
  simp

/-! ### A row -/
theorem rowStep_c (st : RS) (row : List UInt8) (tl : List (List UInt8)) (h : cutAt 32 row = [99] :: tl) :
    rowStep st row = ({ st with cl := st.cl ++ [(litsTo tl).1], used := st.used ||| (litsTo tl).1.1 ||| (litsTo tl).1.2 }, (litsTo tl).2) := by
  rw [rowStep_eq _ _ _ _ h, rowOf, if_pos rfl]
theorem rowStep_p (st : RS) (row hd : List UInt8) (tl : List (List UInt8)) (h : cutAt 32 row = hd :: tl) (hh : hd = [101] ∨ hd = [97]) (hc : st.cl = []) (ht : tl ≠ []) :
    rowStep st row = ({ st with told := (varsTo (hd == [97]) st tl).told, kinds := (varsTo (hd == [97]) st tl).kinds, seen := (varsTo (hd == [97]) st tl).seen }, (varsTo (hd == [97]) st tl).ok) := by
  have h99 : hd ≠ [99] := by rcases hh with rfl | rfl <;> decide
  rw [rowStep_eq _ _ _ _ h, rowOf, if_neg h99, if_pos ⟨hh, hc, ht⟩]
theorem rowStep_n (st : RS) (row hd : List UInt8) (tl : List (List UInt8)) (h : cutAt 32 row = hd :: tl) (h99 : hd ≠ [99]) (hh : ¬ ((hd = [101] ∨ hd = [97]) ∧ st.cl = [] ∧ tl ≠ [])) :
    (rowStep st row).2 = false := by
  rw [rowStep_eq _ _ _ _ h, rowOf, if_neg h99, if_neg hh]
theorem readRows_drop (rows : List (List UInt8)) (k : Nat) (row : List UInt8) (hrow : rows[k]? = some row) (hk : k + 1 < rows.length) : rows.dropLast.drop k = row :: rows.dropLast.drop (k + 1) := by
  have hl : k < rows.dropLast.length := by simp; omega
  rw [List.drop_eq_getElem_cons hl]
  congr 1
  rw [List.getElem_dropLast]
  have := (List.getElem?_eq_some_iff.1 hrow).2
  exact this
theorem varsTo_take (a : Bool) (st : RS) (ws : List (List UInt8)) (j : Nat) (h : j < ws.length) : varsTo a st (ws.take (j + 1)) = varStep a (varsTo a st (ws.take j)) ws[j] := by
  unfold varsTo
  rw [List.take_succ_eq_append_getElem h, List.foldl_append]; rfl
theorem varStep_eq (a : Bool) (p : PS) (w : List UInt8) (dn : Nat) (h : dig w = (dn : Int)) :
    varStep a p w = ⟨p.told ++ [dn], p.kinds ++ [a], p.seen ||| 2 ^ dn, if dn = 0 ∨ p.seen.testBit dn = true then false else p.ok⟩ := by
  unfold varStep
  rw [h]
  simp only [Int.toNat_natCast]
  by_cases h0 : dn = 0
  · subst h0; simp
  · have : ¬ ((dn : Int) = 0) := by omega
    simp [h0]
theorem varsTo_bd (a : Bool) (st : RS) (ws : List (List UInt8)) (hs : st.seen < 512) (hk : st.kinds.length = st.told.length) :
    (varsTo a st ws).seen < 512 ∧ (varsTo a st ws).told.length = st.told.length + ws.length ∧ (varsTo a st ws).kinds.length = st.told.length + ws.length := by
  unfold varsTo
  suffices h : ∀ (ws : List (List UInt8)) (p : PS), p.seen < 512 → p.kinds.length = p.told.length → (ws.foldl (varStep a) p).seen < 512 ∧ (ws.foldl (varStep a) p).told.length = p.told.length + ws.length ∧ (ws.foldl (varStep a) p).kinds.length = p.told.length + ws.length from h ws _ hs hk
  intro ws
  induction ws with
  | nil => intro p h1 h2; exact ⟨h1, rfl, h2⟩
  | cons w ws ih =>
    intro p h1 h2
    have d : 2 ^ (dig w).toNat < 512 := by have := dig_bd w; have := pow_bd (dig w).toNat (by omega); omega
    have := ih (varStep a p w) (or_lt _ _ h1 d) (by simp [varStep, h2])
    simp only [List.foldl_cons, List.length_cons]
    simp only [varStep, List.length_append, List.length_cons, List.length_nil] at this ⊢
    omega

end Go.Proofs.Ytbpolmdokdhkhaa
