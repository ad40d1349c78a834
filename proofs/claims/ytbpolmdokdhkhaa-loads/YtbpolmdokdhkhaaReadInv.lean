import Derived.Test.YtbpolmdokdhkhaaReadSpec
import Derived.Test.YtbpolmdokdhkhaaSteps
namespace Go.Proofs.Ytbpolmdokdhkhaa
open Go.RowKit

def ints (l : List Nat) : List Value := l.map (fun n : Nat => Value.int .i64 (n : Int))
def bools (l : List Bool) : List Value := l.map Value.bool
def pairs (l : List (Nat × Nat)) : List Value := l.flatMap (fun c => [Value.int .i64 (c.1 : Int), Value.int .i64 (c.2 : Int)])
theorem pairs_length (l : List (Nat × Nat)) : (pairs l).length = l.length * 2 := by
  induction l with
  | nil => rfl
  | cons a l ih => simp [pairs] at *; omega
theorem pairs_snoc (l : List (Nat × Nat)) (c : Nat × Nat) : pairs (l ++ [c]) = pairs l ++ [Value.int .i64 (c.1 : Int), Value.int .i64 (c.2 : Int)] := by simp [pairs]

theorem Try.info115 : (Try.prog.info? 115).map (fun i => (i.zero, i.size, i.bytes)) = some (some (.agg #[.int .i64 0, .int .i64 0]), 2, 16) := by kernel_rfl
theorem Try.info3 : (Try.prog.info? 3).map (fun i => (i.zero, i.size, i.bytes)) = some (some (.int .i64 0), 1, 8) := by kernel_rfl
theorem Try.info4 : (Try.prog.info? 4).map (fun i => (i.zero, i.size, i.bytes)) = some (some (.bool false), 1, 1) := by kernel_rfl

/-- What lies in memory behind some lines of Read: the formula at block bf, and three rows. -/
structure RInv (w1 : World) (bf : Nat) (st : RS) (vT vK vC : Value) (wr : World) : Prop where
  below : Below bf w1 wr
  fb : wr.heap[bf]? = some (.cells #[.slice none 0 0, .int .i64 0, .slice none 0 0, vC] 84 (0, 0))
  oC : wr.ownsRow (bf + 1) 115 2 vC st.cl.length (pairs st.cl)
  oT : wr.ownsRow (bf + 1) 3 1 vT st.told.length (ints st.told)
  oK : wr.ownsRow (bf + 1) 4 1 vK st.kinds.length (bools st.kinds)

theorem own_below {w w' : World} {base : Nat} {e : TypeId} {size : Nat} {v : Value} {n : Nat} {xs : List Value} (h : w.ownsRow base e size v n xs) (hb : Below w.heap.size w w') : w'.ownsRow base e size v n xs :=
  h.kept (row := none) ⟨hb.os, hb.tape, hb.output, hb.size, fun k hk _ => hb.block k hk⟩ (by cases hv : v.ownBlock <;> simp)

theorem RInv.later {w1 : World} {bf : Nat} {st : RS} {vT vK vC : Value} {wr w' : World} (h : RInv w1 bf st vT vK vC wr) (hb : Below wr.heap.size wr w') : RInv w1 bf st vT vK vC w' :=
  ⟨h.below.trans (hb.mono (Nat.le_of_lt (blk_lt h.fb))), (hb.block bf (blk_lt h.fb)).trans h.fb, own_below h.oC hb, own_below h.oT hb, own_below h.oK hb⟩

/-- What 'append' to the formula's row of clauses leaves, ahead of the store. -/
theorem clause_grown {w1 wr wp w' : World} {bf bc : Nat} {st : RS} {vT vK vC : Value} {cs : Array Value} (h : RInv w1 bf st vT vK vC wr) (hp : Below wr.heap.size wr wp) (hg : wp.grownBy w' vC.ownBlock)
    (hbc : wr.heap[bc]? = some (.cells cs 115 (0, 0))) (hne : vC.ownBlock ≠ some bc) :
    w'.heap[bf]? = some (.cells #[.slice none 0 0, .int .i64 0, .slice none 0 0, vC] 84 (0, 0)) ∧ w'.heap[bc]? = some (.cells cs 115 (0, 0)) := by
  have hlt := h.oC.lt
  constructor
  · rw [hg.block bf (Nat.lt_of_lt_of_le (blk_lt h.fb) hp.size) (fun e => by have := hlt bf e.symm; omega), hp.block bf (blk_lt h.fb)]; exact h.fb
  · rw [hg.block bc (Nat.lt_of_lt_of_le (blk_lt hbc) hp.size) (fun e => hne e.symm), hp.block bc (blk_lt hbc)]; exact hbc

/-- Two owned rows of different element types lie apart. -/
theorem own_apart {w : World} {b1 b2 : Nat} {e1 e2 : TypeId} {s1 s2 : Nat} {v1 v2 : Value} {n1 n2 : Nat} {x1 x2 : List Value} (h1 : w.ownsRow b1 e1 s1 v1 n1 x1) (h2 : w.ownsRow b2 e2 s2 v2 n2 x2) (he : e1 ≠ e2) :
    v1.ownBlock = none ∨ v1.ownBlock ≠ v2.ownBlock := by
  rcases h1.2 with ⟨rfl, _⟩ | ⟨g1, c1, cur1, rfl, _, hh1, _⟩
  · exact Or.inl rfl
  · right
    rcases h2.2 with ⟨rfl, _⟩ | ⟨g2, c2, cur2, rfl, _, hh2, _⟩
    · simp [Value.ownBlock]
    · simp [Value.ownBlock]
      intro e; subst e
      rw [hh1] at hh2
      simp at hh2
      exact he hh2.2

theorem own_kept {w wp w' : World} {base base2 : Nat} {e e2 : TypeId} {size size2 : Nat} {v v2 : Value} {n n2 : Nat} {xs x2 : List Value} (h : w.ownsRow base e size v n xs) (hp : Below w.heap.size w wp) (h2 : w.ownsRow base2 e2 size2 v2 n2 x2) (hg : wp.grownBy w' v2.ownBlock) (he : e ≠ e2) : w'.ownsRow base e size v n xs :=
  (own_below h hp).kept hg (own_apart h h2 he)

theorem RInv.push_clause {w1 wr wp w' : World} {bf : Nat} {st : RS} {vT vK vC v' : Value} {p n : Nat} (h : RInv w1 bf st vT vK vC wr) (hp : Below wr.heap.size wr wp) (hg : wp.grownBy w' vC.ownBlock)
    (hown : w'.ownsRow (bf + 1) 115 2 v' (st.cl.length + 1) (pairs st.cl ++ [.int .i64 (p : Int), .int .i64 (n : Int)])) (u : Nat) :
    RInv w1 bf { st with cl := st.cl ++ [(p, n)], used := u } vT vK v' (w'.setCell ⟨bf, 3, none⟩ v') := by
  have hlt := h.oC.lt
  have hbf := blk_lt h.fb
  have hfb : w'.heap[bf]? = some (.cells #[.slice none 0 0, .int .i64 0, .slice none 0 0, vC] 84 (0, 0)) := by
    rw [hg.block bf (Nat.lt_of_lt_of_le hbf hp.size) (fun e => by have := hlt bf e.symm; omega), hp.block bf hbf]; exact h.fb
  refine ⟨?_, ?_, ?_, ?_, ?_⟩
  · exact ((h.below.trans (hp.mono (Nat.le_of_lt hbf))).grown hg (Nat.le_trans (Nat.le_of_lt hbf) hp.size) (fun k hk => by have := (hlt k hk).1; omega)).setCell (p := ⟨bf, 3, none⟩) (Nat.le_refl _) _
  · exact blk_set hfb 3 v'
  · have := ownsRow_setCell_below hown (a := ⟨bf, 3, none⟩) (Nat.lt_succ_self bf) v'
    rw [← pairs_snoc st.cl (p, n)] at this
    simpa using this
  · exact ownsRow_setCell_below (own_kept h.oT hp h.oC hg (by decide)) (a := ⟨bf, 3, none⟩) (Nat.lt_succ_self bf) v'
  · exact ownsRow_setCell_below (own_kept h.oK hp h.oC hg (by decide)) (a := ⟨bf, 3, none⟩) (Nat.lt_succ_self bf) v'

theorem RInv.push_told {w1 wr wp w' : World} {bf : Nat} {st : RS} {vT vK vC v' : Value} {x : Nat} (h : RInv w1 bf st vT vK vC wr) (hp : Below wr.heap.size wr wp) (hg : wp.grownBy w' vT.ownBlock)
    (hown : w'.ownsRow (bf + 1) 3 1 v' (st.told.length + 1) (ints st.told ++ [.int .i64 (x : Int)])) (s : Nat) :
    RInv w1 bf { st with told := st.told ++ [x], seen := s } v' vK vC w' := by
  have hlt := h.oT.lt
  have hbf := blk_lt h.fb
  refine ⟨?_, ?_, own_kept h.oC hp h.oT hg (by decide), ?_, own_kept h.oK hp h.oT hg (by decide)⟩
  · exact (h.below.trans (hp.mono (Nat.le_of_lt hbf))).grown hg (Nat.le_trans (Nat.le_of_lt hbf) hp.size) (fun k hk => by have := (hlt k hk).1; omega)
  · rw [hg.block bf (Nat.lt_of_lt_of_le hbf hp.size) (fun e => by have := hlt bf e.symm; omega), hp.block bf hbf]; exact h.fb
  · simpa [ints] using hown

theorem RInv.push_kind {w1 wr wp w' : World} {bf : Nat} {st : RS} {vT vK vC v' : Value} {x : Bool} (h : RInv w1 bf st vT vK vC wr) (hp : Below wr.heap.size wr wp) (hg : wp.grownBy w' vK.ownBlock)
    (hown : w'.ownsRow (bf + 1) 4 1 v' (st.kinds.length + 1) (bools st.kinds ++ [.bool x])) :
    RInv w1 bf { st with kinds := st.kinds ++ [x] } vT v' vC w' := by
  have hlt := h.oK.lt
  have hbf := blk_lt h.fb
  refine ⟨?_, ?_, own_kept h.oC hp h.oK hg (by decide), own_kept h.oT hp h.oK hg (by decide), ?_⟩
  · exact (h.below.trans (hp.mono (Nat.le_of_lt hbf))).grown hg (Nat.le_trans (Nat.le_of_lt hbf) hp.size) (fun k hk => by have := (hlt k hk).1; omega)
  · rw [hg.block bf (Nat.lt_of_lt_of_le hbf hp.size) (fun e => by have := hlt bf e.symm; omega), hp.block bf hbf]; exact h.fb
  · simpa [bools] using hown

end Go.Proofs.Ytbpolmdokdhkhaa
