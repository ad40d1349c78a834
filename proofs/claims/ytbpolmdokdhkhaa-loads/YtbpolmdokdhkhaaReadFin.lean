import Derived.Test.YtbpolmdokdhkhaaReadInv
namespace Go.Proofs.Ytbpolmdokdhkhaa
open Go.RowKit

def apart (a b : Value) : Prop := ∀ k, a.ownBlock = some k → b.ownBlock ≠ some k
theorem apart.symm {a b : Value} (h : apart a b) : apart b a := fun k hk hk' => h k hk' hk
theorem apart.keep {a b : Value} (h : apart a b) : a.ownBlock = none ∨ a.ownBlock ≠ b.ownBlock := by
  cases ha : a.ownBlock with
  | none => exact Or.inl rfl
  | some k => exact Or.inr (fun e => h k ha e.symm)
theorem apart_nil (a : Value) : apart (.slice none 0 0) a := fun k hk => by simp [Value.ownBlock] at hk
/-- What comes out of an append onto a lies apart from b as a did. -/
theorem apart.grown {a a' b : Value} {w : World} {base : Nat} {e : TypeId} {size n : Nat} {xs : List Value} (h : apart a b) (hb : w.ownsRow base e size b n xs) (hat : a'.ownBlock = a.ownBlock ∨ ∃ k, a'.ownBlock = some k ∧ w.heap.size ≤ k) : apart a' b := by
  intro k hk hk'
  rcases hat with hat | ⟨k', hat, hle⟩
  · exact h k (hat ▸ hk) hk'
  · rw [hk] at hat; injection hat with e; subst e
    have := (hb.lt k hk').2; omega

/-- What lies in memory while Read puts the formula together. -/
structure FInv (w1 : World) (bf : Nat) (st : RS) (order : List Nat) (all : Nat) (ends : List Nat) (vT vK vC vO vE : Value) (wr : World) : Prop where
  below : Below bf w1 wr
  fb : wr.heap[bf]? = some (.cells #[vO, .int .i64 (all : Int), vE, vC] 84 (0, 0))
  oC : wr.ownsRow (bf + 1) 115 2 vC st.cl.length (pairs st.cl)
  oT : wr.ownsRow (bf + 1) 3 1 vT st.told.length (ints st.told)
  oK : wr.ownsRow (bf + 1) 4 1 vK st.kinds.length (bools st.kinds)
  oO : wr.ownsRow (bf + 1) 3 1 vO order.length (ints order)
  oE : wr.ownsRow (bf + 1) 3 1 vE ends.length (ints ends)
  aOT : apart vO vT
  aOE : apart vO vE
  aET : apart vE vT

theorem FInv.of {w1 : World} {bf : Nat} {st : RS} {vT vK vC : Value} {wr : World} (h : RInv w1 bf st vT vK vC wr) : FInv w1 bf st [] 0 [] vT vK vC (.slice none 0 0) (.slice none 0 0) wr :=
  ⟨h.below, h.fb, h.oC, h.oT, h.oK, World.ownsRow_nil _ _ _ _, World.ownsRow_nil _ _ _ _, apart_nil _, apart_nil _, apart_nil _⟩

section
variable {w1 wr wp w' : World} {bf : Nat} {st : RS} {order ends : List Nat} {all : Nat} {vT vK vC vO vE v' : Value}
theorem FInv.isBelow {w : World} (h : FInv w1 bf st order all ends vT vK vC vO vE wr) (hb : Below w.heap.size w w1) (hbf : w1.heap.size = bf) : Below w.heap.size w wr :=
  hb.trans (h.below.mono (hbf ▸ hb.size))
theorem FInv.later (h : FInv w1 bf st order all ends vT vK vC vO vE wr) (hb : Below wr.heap.size wr w') : FInv w1 bf st order all ends vT vK vC vO vE w' :=
  ⟨h.below.trans (hb.mono (Nat.le_of_lt (blk_lt h.fb))), (hb.block bf (blk_lt h.fb)).trans h.fb, own_below h.oC hb, own_below h.oT hb, own_below h.oK hb, own_below h.oO hb, own_below h.oE hb, h.aOT, h.aOE, h.aET⟩

theorem FInv.push_order {x : Nat} (h : FInv w1 bf st order all ends vT vK vC vO vE wr) (hp : Below wr.heap.size wr wp) (hg : wp.grownBy w' vO.ownBlock)
    (hown : w'.ownsRow (bf + 1) 3 1 v' (order.length + 1) (ints order ++ [.int .i64 (x : Int)])) (hat : v'.ownBlock = vO.ownBlock ∨ ∃ k, v'.ownBlock = some k ∧ wp.heap.size ≤ k) :
    w'.heap[bf]? = some (.cells #[vO, .int .i64 (all : Int), vE, vC] 84 (0, 0)) ∧
    w'.ownsRow (bf + 1) 3 1 vT st.told.length (ints st.told) ∧ w'.ownsRow (bf + 1) 4 1 vK st.kinds.length (bools st.kinds) ∧
    FInv w1 bf st (order ++ [x]) all ends vT vK vC v' vE (w'.setCell ⟨bf, 0, none⟩ v') := by
  have hlt := h.oO.lt
  have hbf := blk_lt h.fb
  have hfb : w'.heap[bf]? = some (.cells #[vO, .int .i64 (all : Int), vE, vC] 84 (0, 0)) := by
    rw [hg.block bf (Nat.lt_of_lt_of_le hbf hp.size) (fun e => by have := hlt bf e.symm; omega), hp.block bf hbf]; exact h.fb
  have kT := (own_below h.oT hp).kept hg h.aOT.symm.keep
  have kK := own_kept h.oK hp h.oO hg (by decide)
  have kE := (own_below h.oE hp).kept hg h.aOE.symm.keep
  refine ⟨hfb, kT, kK, ?_, blk_set hfb 0 v', ?_, ?_, ?_, ?_, ?_, h.aOT.grown (own_below h.oT hp) hat, h.aOE.grown (own_below h.oE hp) hat, h.aET⟩
  · exact ((h.below.trans (hp.mono (Nat.le_of_lt hbf))).grown hg (Nat.le_trans (Nat.le_of_lt hbf) hp.size) (fun k hk => by have := (hlt k hk).1; omega)).setCell (p := ⟨bf, 0, none⟩) (Nat.le_refl _) _
  · exact ownsRow_setCell_below (own_kept h.oC hp h.oO hg (by decide)) (a := ⟨bf, 0, none⟩) (Nat.lt_succ_self bf) v'
  · exact ownsRow_setCell_below kT (a := ⟨bf, 0, none⟩) (Nat.lt_succ_self bf) v'
  · exact ownsRow_setCell_below kK (a := ⟨bf, 0, none⟩) (Nat.lt_succ_self bf) v'
  · have := ownsRow_setCell_below hown (a := ⟨bf, 0, none⟩) (Nat.lt_succ_self bf) v'
    simpa [ints] using this
  · exact ownsRow_setCell_below kE (a := ⟨bf, 0, none⟩) (Nat.lt_succ_self bf) v'

theorem FInv.push_end {x : Nat} (h : FInv w1 bf st order all ends vT vK vC vO vE wr) (hp : Below wr.heap.size wr wp) (hg : wp.grownBy w' vE.ownBlock)
    (hown : w'.ownsRow (bf + 1) 3 1 v' (ends.length + 1) (ints ends ++ [.int .i64 (x : Int)])) (hat : v'.ownBlock = vE.ownBlock ∨ ∃ k, v'.ownBlock = some k ∧ wp.heap.size ≤ k) :
    w'.heap[bf]? = some (.cells #[vO, .int .i64 (all : Int), vE, vC] 84 (0, 0)) ∧
    FInv w1 bf st order all (ends ++ [x]) vT vK vC vO v' (w'.setCell ⟨bf, 2, none⟩ v') := by
  have hlt := h.oE.lt
  have hbf := blk_lt h.fb
  have hfb : w'.heap[bf]? = some (.cells #[vO, .int .i64 (all : Int), vE, vC] 84 (0, 0)) := by
    rw [hg.block bf (Nat.lt_of_lt_of_le hbf hp.size) (fun e => by have := hlt bf e.symm; omega), hp.block bf hbf]; exact h.fb
  refine ⟨hfb, ?_, blk_set hfb 2 v', ?_, ?_, ?_, ?_, ?_, h.aOT, (h.aOE.symm.grown (own_below h.oO hp) hat).symm, h.aET.grown (own_below h.oT hp) hat⟩
  · exact ((h.below.trans (hp.mono (Nat.le_of_lt hbf))).grown hg (Nat.le_trans (Nat.le_of_lt hbf) hp.size) (fun k hk => by have := (hlt k hk).1; omega)).setCell (p := ⟨bf, 2, none⟩) (Nat.le_refl _) _
  · exact ownsRow_setCell_below (own_kept h.oC hp h.oE hg (by decide)) (a := ⟨bf, 2, none⟩) (Nat.lt_succ_self bf) v'
  · exact ownsRow_setCell_below ((own_below h.oT hp).kept hg h.aET.symm.keep) (a := ⟨bf, 2, none⟩) (Nat.lt_succ_self bf) v'
  · exact ownsRow_setCell_below (own_kept h.oK hp h.oE hg (by decide)) (a := ⟨bf, 2, none⟩) (Nat.lt_succ_self bf) v'
  · exact ownsRow_setCell_below ((own_below h.oO hp).kept hg h.aOE.keep) (a := ⟨bf, 2, none⟩) (Nat.lt_succ_self bf) v'
  · have := ownsRow_setCell_below hown (a := ⟨bf, 2, none⟩) (Nat.lt_succ_self bf) v'
    simpa [ints] using this

theorem FInv.set_all (h : FInv w1 bf st order all ends vT vK vC vO vE wr) (all' : Nat) : FInv w1 bf st order all' ends vT vK vC vO vE (wr.setCell ⟨bf, 1, none⟩ (.int .i64 (all' : Int))) := by
  refine ⟨h.below.setCell (p := ⟨bf, 1, none⟩) (Nat.le_refl _) _, blk_set h.fb 1 _, ?_, ?_, ?_, ?_, ?_, h.aOT, h.aOE, h.aET⟩
  all_goals first
    | exact ownsRow_setCell_below h.oC (a := ⟨bf, 1, none⟩) (Nat.lt_succ_self bf) _
    | exact ownsRow_setCell_below h.oK (a := ⟨bf, 1, none⟩) (Nat.lt_succ_self bf) _
    | exact ownsRow_setCell_below h.oT (a := ⟨bf, 1, none⟩) (Nat.lt_succ_self bf) _
    | exact ownsRow_setCell_below h.oO (a := ⟨bf, 1, none⟩) (Nat.lt_succ_self bf) _
    | exact ownsRow_setCell_below h.oE (a := ⟨bf, 1, none⟩) (Nat.lt_succ_self bf) _
theorem FInv.drew (h : FInv w1 bf st order all ends vT vK vC vO vE wr) : FInv w1 bf st order all ends vT vK vC vO vE wr.drew := h.later ((Below.refl _ _).drew)
end

theorem rowOf_told (st : RS) (hd : List UInt8) (tl : List (List UInt8)) (h : ∀ v ∈ st.told, v ≤ 8) : ∀ v ∈ (rowOf st hd tl).1.told, v ≤ 8 := by
  unfold rowOf
  split
  · exact h
  · split
    · dsimp only
      unfold varsTo
      suffices hs : ∀ (tl : List (List UInt8)) (p : PS), (∀ v ∈ p.told, v ≤ 8) → ∀ v ∈ (tl.foldl (varStep (hd == [97])) p).told, v ≤ 8 from hs tl _ h
      intro tl
      induction tl with
      | nil => intro p hp; exact hp
      | cons w tl ih =>
        intro p hp
        refine ih _ ?_
        intro v hv
        simp [varStep] at hv
        rcases hv with hv | hv
        · exact hp v hv
        · have := dig_bd w; omega
    · exact h
theorem told_le (rows : List (List UInt8)) : ∀ (st : RS) (i : Nat) (st' : RS), (∀ v ∈ st.told, v ≤ 8) → readRows st i rows = .inl st' → ∀ v ∈ st'.told, v ≤ 8 := by
  induction rows with
  | nil => intro st i st' h e; simp [readRows] at e; subst e; exact h
  | cons r rows ih =>
    intro st i st' h e
    rw [readRows] at e
    split at e
    · refine ih _ _ _ ?_ e
      unfold rowStep
      split
      · exact h
      · exact rowOf_told _ _ _ h
    · cases e
theorem freeTo_le (st : RS) (k : Nat) : ∀ v ∈ freeTo st k, v ≤ k := by
  intro v hv
  unfold freeTo at hv
  rw [List.mem_filter] at hv
  obtain ⟨hv, _⟩ := hv
  simp at hv
  omega
theorem allTo_lt (st : RS) (h : ∀ v ∈ st.told, v ≤ 8) (k : Nat) : allTo st k < 512 := by
  unfold allTo
  suffices hs : ∀ (l : List (Nat × Bool)) (a : Nat), a < 512 → (∀ x ∈ l, x.1 ≤ 8) → l.foldl (fun a x => if x.2 then a ||| 2 ^ x.1 else a) a < 512 by
    refine hs _ 0 (by decide) ?_
    intro x hx
    have h1 := List.mem_of_mem_take hx
    exact h _ (List.of_mem_zip h1).1
  intro l
  induction l with
  | nil => intro a ha _; exact ha
  | cons x l ih =>
    intro a ha hx
    refine ih _ ?_ (fun y hy => hx y (List.mem_cons_of_mem _ hy))
    have := pow_bd x.1 (hx x (List.mem_cons_self ..))
    dsimp only
    split
    · exact or_lt _ _ ha (by omega)
    · exact ha
theorem own_lo {w : World} {base lo : Nat} {e : TypeId} {size : Nat} {v : Value} {n : Nat} {xs : List Value} (h : w.ownsRow base e size v n xs) (hl : lo ≤ base) : w.ownsRow lo e size v n xs := by
  refine ⟨h.1, ?_⟩
  rcases h.2 with h2 | ⟨g, cap, cur, hv, hg, r⟩
  · exact Or.inl h2
  · exact Or.inr ⟨g, cap, cur, hv, Nat.le_trans hl hg, r⟩
theorem freeTo_len (st : RS) (k : Nat) : (freeTo st k).length ≤ k := by
  unfold freeTo
  refine Nat.le_trans (List.length_filter_le _ _) ?_
  simp
theorem endsTo_len (order : List Nat) (all k : Nat) : (endsTo order all k).length ≤ k := by
  unfold endsTo
  refine Nat.le_trans (List.length_filter_le _ _) ?_
  simp
end Go.Proofs.Ytbpolmdokdhkhaa
