import Derived.Test.YtgipjjhkhfihpaaGreatDoorProg
import Derived.WalkKit
import Derived.WalkSpells
import Derived.WalkLawsBesides
import Derived.Laws.IdiomStrings
import Derived.Laws.BitsAllLaws
import Derived.Deep.RegionLaw
import Derived.Deep.LoopGhost
import Derived.Deep.DeepMust
namespace Go.Proofs.YtgipjjhkhfihpaaGreatDoor
open Go.RowKit

theorem hide {p : Prop} (h : p) : Hid p := h
theorem unhide {p : Prop} (h : Hid p) : p := h
theorem ret_int {k : IntKind} {a b : Int} (h : a = b) : Ending.returned (.int k a) = .returned (.int k b) := by rw [h]
theorem ret_bool {a b : Bool} (h : a = b) : Ending.returned (.bool a) = .returned (.bool b) := by rw [h]
/-- 'Below' over two calls, the second from its own start on. -/
theorem below_trans {w w1 w2 : World} (h1 : Below w.heap.size w w1) (h2 : Below w1.heap.size w1 w2) : Below w.heap.size w w2 := h1.trans (h2.mono h1.size)

theorem ba_get (l : List UInt8) (k : Nat) (h : k < (ByteArray.mk l.toArray).size) : (ByteArray.mk l.toArray)[k] = l[k]'h := rfl
theorem ba_append (a b : List UInt8) : (ByteArray.mk a.toArray) ++ (ByteArray.mk b.toArray) = ByteArray.mk (a ++ b).toArray := by
  apply ByteArray.ext; simp [ByteArray.data_append]
theorem ba_extract (l : List UInt8) (i j : Nat) : (ByteArray.mk l.toArray).extract i j = ByteArray.mk ((l.drop i).take (j - i)).toArray := by
  apply ByteArray.ext; simp [ByteArray.data_extract, List.take_drop]
theorem take_one_drop {α : Type} (l : List α) (k : Nat) (h : k < l.length) : (l.drop k).take 1 = [l[k]] := by
  rw [List.drop_eq_getElem_cons h]; rfl
theorem u8_beq {a b : UInt8} : ((a.toNat : Int) == (b.toNat : Int)) = (a == b) := by
  rw [Bool.eq_iff_iff, beq_iff_eq, beq_iff_eq, ← UInt8.toNat_inj]; omega

/-- 'append(v, x)': x in a block of its own ahead, v the call's own row. -/
theorem wpList_append_new {P : Program} {ops : Array Oper} {rest : List Oper} {o : Oper} {a : Act} {Q : Exit → Act → World → Prop} {w : World} {news : List Value} {e : TypeId} (hgd : o.guard = none) (s x : Operand) (t : TypeId)
    (ho : o.op = .call { callee := .builtin .append, args := #[s, x], argTypes := #[t, t] })
    (base : Nat) (i : TypeInfo) (z : Value) (size bytes : Nat) (ht : P.underlying t = some (.slice e)) (hi : P.info? e = some i) (hz : i.zero = some z)
    (hsize : i.size = size) (hby : i.bytes = bytes) (hzs : z.cells.size = size) (hsz : 0 < size)
    (v : Value) (n : Nat) (xs : List Value) (hown : w.ownsRow base e size v n xs) (hs : a.eval s = v)
    (hx : a.eval x = .slice (some ⟨w.heap.size, 0, none⟩) 1 1) (hl : news.length = size) (h1 : ∀ u ∈ news, u.oneCell' = true)
    (h63 : n + 1 ≤ maxLen) (hbytes : (n + 1) * bytes ≤ 140737488355328) (hbase : base ≤ w.heap.size)
    (h : ∀ v' w', w'.ownsRow base e size v' (n + 1) (xs ++ news) → w.grownBy w' v.ownBlock → (v' ≠ .slice none 0 0) → wpList P ops Q rest (a.put o.dst v') w') : wpList P ops Q (o :: rest) a (w.alloc (.cells news.toArray e)) := by
  refine wpList_append_own _ hgd s x t ho base e i z size bytes ht hi hz hsize hby hzs hsz v n xs hs (hown.alloc _) ⟨w.heap.size, 0, none⟩ 1 1 news hx (by simpa using hl) ?_ h1 h63 hbytes (by simp; omega) ?_
  · intro j u hj
    have hlt := (List.getElem?_eq_some_iff.1 hj).1
    have hadd : (⟨w.heap.size, 0, none⟩ : Addr).add j = ⟨w.heap.size, j, none⟩ := by unfold Addr.add; split <;> simp_all
    rw [hadd, cell_of_row _ w.heap.size j news.toArray e (0, 0) (heap_alloc_new w _)]
    simpa using hj
  · intro v' w' h2 h3 h4
    refine h v' w' h2 ?_ (fun hv => by have := (h4.1 hv).2; omega)
    exact ⟨h3.os, h3.tape, h3.output, Nat.le_trans (by simp) h3.size, fun k hk hne => (h3.block k (by simp; omega) hne).trans (heap_alloc_old w _ hk)⟩

/-- What 'grownBy' says of an old 'Below'. -/
theorem below_grown {B : Nat} {a w w' : World} {v : Value} {base e size n : Nat} {xs : List Value} (h : Below B a w) (hg : w.grownBy w' v.ownBlock) (hown : w.ownsRow base e size v n xs) (hB : B ≤ base) (hs : B ≤ w.heap.size) : Below B a w' :=
  h.grown hg hs (fun k hk => Nat.le_trans hB (hown.lt k hk).1)

/-- A row of the call's own that is not empty: its form, and its cells. -/
theorem own_pos {w : World} {base : Nat} {e : TypeId} {size : Nat} {v : Value} {n : Nat} {xs : List Value} (h : w.ownsRow base e size v n xs) (hn : 0 < n) :
    ∃ g cap, v = .slice (some ⟨g, 0, none⟩) n cap ∧ base ≤ g ∧ g < w.heap.size ∧ n ≤ cap ∧ (∀ j u, xs[j]? = some u → w.cell? ⟨g, j, none⟩ = some u) := by
  obtain ⟨h1, h2⟩ := h
  rcases h2 with ⟨_, h2⟩ | ⟨g, cap, cur, rfl, hg, hh, hc, _, _, ht⟩
  · omega
  · refine ⟨g, cap, rfl, hg, (Array.getElem?_eq_some_iff.1 hh).1, hc, fun j u hj => ?_⟩
    rw [cell_of_row w g j cur e (0, 0) hh]
    rw [← ht, List.getElem?_take] at hj
    split at hj
    · simpa using hj
    · cases hj
/-- Its form, empty or not. -/
theorem own_form {w : World} {base : Nat} {e : TypeId} {size : Nat} {v : Value} {n : Nat} {xs : List Value} (h : w.ownsRow base e size v n xs) : ∃ ao cap, v = .slice ao n cap := by
  rcases h.2 with ⟨rfl, rfl⟩ | ⟨g, cap, _, rfl, _⟩
  · exact ⟨_, _, rfl⟩
  · exact ⟨_, _, rfl⟩

theorem new_cells (w : World) (c : List Value) (e : TypeId) : ∀ j u, c[j]? = some u → (w.alloc (.cells c.toArray e)).cell? ((⟨w.heap.size, 0, none⟩ : Addr).add j) = some u := by
  intro j u hj
  have hadd : (⟨w.heap.size, 0, none⟩ : Addr).add j = ⟨w.heap.size, j, none⟩ := by unfold Addr.add; split <;> simp_all
  rw [hadd, cell_of_row _ w.heap.size j c.toArray e (0, 0) (heap_alloc_new w _)]
  simpa using hj

/-! ### A block, whole -/
theorem blk_cell {w : World} {b : Nat} {c : Array Value} {t : TypeId} {fr : Nat × Nat} (h : w.heap[b]? = some (.cells c t fr)) (o : Nat) : w.cell? ⟨b, o, none⟩ = c[o]? := by simp [World.cell?, h]
theorem blk_free {w : World} {b : Nat} {c : Array Value} {t : TypeId} (h : w.heap[b]? = some (.cells c t (0, 0))) (o : Nat) : w.frozen? ⟨b, o, none⟩ = false := by simp [World.frozen?, h]
theorem blk_lt {w : World} {b : Nat} {o : Obj} (h : w.heap[b]? = some o) : b < w.heap.size := (Array.getElem?_eq_some_iff.1 h).1
theorem blk_set {w : World} {b : Nat} {c : Array Value} {t : TypeId} {fr : Nat × Nat} (h : w.heap[b]? = some (.cells c t fr)) (o : Nat) (u : Value) : (w.setCell ⟨b, o, none⟩ u).heap[b]? = some (.cells (c.setIfInBounds o u) t fr) := by
  simp [World.setCell, Array.getElem?_modify, h]

/-- Old blocks are as they were, but for those in T. -/
structure Only (T : Nat → Prop) (w w' : World) : Prop where
  os : w'.os = w.os
  tape : w'.tape = w.tape
  output : w'.output = w.output
  size : w.heap.size ≤ w'.heap.size
  block : ∀ k, k < w.heap.size → ¬ T k → w'.heap[k]? = w.heap[k]?
theorem Only.refl (T : Nat → Prop) (w : World) : Only T w w := ⟨rfl, rfl, rfl, Nat.le_refl _, fun _ _ _ => rfl⟩
theorem Only.trans {T : Nat → Prop} {a b c : World} (h : Only T a b) (k : Only T b c) : Only T a c :=
  ⟨k.os.trans h.os, k.tape.trans h.tape, k.output.trans h.output, Nat.le_trans h.size k.size, fun i hi ht => (k.block i (Nat.lt_of_lt_of_le hi h.size) ht).trans (h.block i hi ht)⟩
theorem Only.mono {T T' : Nat → Prop} {a b : World} (h : Only T a b) (hT : ∀ k, k < a.heap.size → T k → T' k) : Only T' a b :=
  ⟨h.os, h.tape, h.output, h.size, fun i hi ht => h.block i hi (fun x => ht (hT i hi x))⟩
theorem Only.of_below {T : Nat → Prop} {a b : World} (h : Below a.heap.size a b) : Only T a b := ⟨h.os, h.tape, h.output, h.size, fun i hi _ => h.block i hi⟩
theorem Only.below {T : Nat → Prop} {a b : World} {B : Nat} (h : Only T a b) (hB : B ≤ a.heap.size) (hT : ∀ k, k < B → ¬ T k) : Below B a b := ⟨h.os, h.tape, h.output, h.size, fun i hi => h.block i (Nat.lt_of_lt_of_le hi hB) (hT i hi)⟩
theorem Only.drew {T : Nat → Prop} {a w : World} (h : Only T a w) : Only T a w.drew := ⟨h.os, h.tape, h.output, h.size, h.block⟩
theorem Only.alloc {T : Nat → Prop} {a w : World} (h : Only T a w) (o : Obj) : Only T a (w.alloc o) :=
  h.trans ⟨rfl, rfl, rfl, by simp, fun _ hk _ => heap_alloc_old w o hk⟩
theorem Only.setCell {T : Nat → Prop} {a w : World} (h : Only T a w) {p : Addr} (hp : T p.block ∨ a.heap.size ≤ p.block) (u : Value) : Only T a (w.setCell p u) :=
  ⟨h.os, h.tape, h.output, by simpa [World.setCell] using h.size, fun k hk ht => by
    rw [Below.heap_setCell _ _ _ _ (fun e => by subst e; exact hp.elim ht (fun hp => by omega))]; exact h.block k hk ht⟩
theorem Only.setAt {b : Nat} {a w : World} (h : Only (· = b) a w) (o : Nat) (u : Value) : Only (· = b) a (w.setCell ⟨b, o, none⟩ u) := h.setCell (p := ⟨b, o, none⟩) (Or.inl rfl) u
theorem Only.grown {T : Nat → Prop} {a w w' : World} {row : Option Nat} (h : Only T a w) (hg : w.grownBy w' row) (hr : ∀ k, row = some k → T k ∨ a.heap.size ≤ k) : Only T a w' :=
  ⟨hg.os.trans h.os, hg.tape.trans h.tape, hg.output.trans h.output, Nat.le_trans h.size hg.size, fun k hk ht => by
    rw [hg.block k (Nat.lt_of_lt_of_le hk h.size) (fun e => (hr k e.symm).elim ht (fun x => by omega))]; exact h.block k hk ht⟩

end Go.Proofs.YtgipjjhkhfihpaaGreatDoor

namespace Go.Proofs.YtgipjjhkhfihpaaGreatDoor
open Go.RowKit

/-- A string's value. -/
abbrev S (l : List UInt8) : Value := .string ⟨l.toArray⟩

def cutStep (c : UInt8) (st : List (List UInt8) × List UInt8) (b : UInt8) : List (List UInt8) × List UInt8 :=
  if b = c then (st.1 ++ [st.2], []) else (st.1, st.2 ++ [b])
def cutTo (c : UInt8) (l : List UInt8) : List (List UInt8) × List UInt8 := l.foldl (cutStep c) ([], [])
/-- A text, cut at a byte. -/
def cutAt (c : UInt8) (l : List UInt8) : List (List UInt8) := (cutTo c l).1 ++ [(cutTo c l).2]

theorem cutTo_take (c : UInt8) (l : List UInt8) (k : Nat) (h : k < l.length) : cutTo c (l.take (k + 1)) = cutStep c (cutTo c (l.take k)) l[k] := by
  unfold cutTo
  rw [List.take_succ_eq_append_getElem h, List.foldl_append]; rfl

theorem cutTo_size (c : UInt8) (l : List UInt8) : (cutTo c l).1.length ≤ l.length ∧ (cutTo c l).2.length ≤ l.length := by
  suffices h : ∀ (l : List UInt8) (st : List (List UInt8) × List UInt8), (l.foldl (cutStep c) st).1.length ≤ st.1.length + l.length ∧ (l.foldl (cutStep c) st).2.length ≤ st.2.length + l.length by
    have := h l ([], []); simpa [cutTo] using this
  intro l
  induction l with
  | nil => intro st; simp
  | cons b l ih =>
    intro st
    have := ih (cutStep c st b)
    simp only [List.foldl_cons, List.length_cons]
    have h2 : (cutStep c st b).1.length ≤ st.1.length + 1 ∧ (cutStep c st b).2.length ≤ st.2.length + 1 := by
      unfold cutStep; split <;> simp
    omega

theorem Tryz.info9 : (Tryz.prog.info? 9).map (fun i => (i.zero, i.size, i.bytes)) = some (some (.string ⟨#[]⟩), 1, 16) := by kernel_rfl

set_option maxRecDepth 100000 in
set_option maxHeartbeats 400000 in
theorem cut_any (l : List UInt8) (c : UInt8) (w : World) (hl : l.length ≤ 1048576) :
    Calls Tryz.prog 79 #[.string ⟨l.toArray⟩, .int .u8 c.toNat] w fun e w' =>
      ∃ v, e = .returned v ∧ w'.ownsRow w.heap.size 9 1 v (cutAt c l).length ((cutAt c l).map S) ∧ Below w.heap.size w w' := by
  obtain ⟨i0, hi, hz0, hz1, hz2⟩ := info_parts Tryz.info9
  go_enter Tryz.func79, Tryz.ntmps79
  go_wp2
  go_loopw [5, 6, 7] (fun v t i wr => ∃ k : Nat, k ≤ l.length ∧ i = .int .i64 k ∧ t = S (cutTo c (l.take k)).2 ∧ wr.ownsRow w.heap.size 9 1 v (cutTo c (l.take k)).1.length ((cutTo c (l.take k)).1.map S) ∧ Below w.heap.size w wr) (fun _ _ i _ => l.length - (intOf i).toNat)
  case atStart => exact ⟨0, by omega, rfl, rfl, World.ownsRow_nil _ _ _ _, Below.refl _ _⟩
  case round =>
    obtain ⟨k, hk, rfl, rfl, hown, hb⟩ := hrel
    have hsz := cutTo_size c (l.take k)
    rw [List.length_take] at hsz
    have hbs := hb.size
    by_cases hlt : k < l.length
    · go_wp2_with (first | (at_builtin; refine wpList_append_new rfl _ _ 100 rfl w.heap.size i0 (.string ⟨#[]⟩) 1 16 Tryz.underlying100 hi hz0 hz1 hz2 rfl (by decide) _ _ _ hown rfl rfl rfl ?_ ?_ ?_ hbs ?_; rotate_right; intro v' w1 hown' hgrow hnn) | go_in)
      · have hne : (l[k] == c) = true := by rw [← u8_beq]; assumption
        go_roundw
        case rel =>
          have e : cutTo c (l.take (k + 1)) = ((cutTo c (l.take k)).1 ++ [(cutTo c (l.take k)).2], []) := by
            rw [cutTo_take c l k hlt]; unfold cutStep; rw [if_pos (by simpa using hne)]
          refine ⟨k + 1, by omega, by go_num, ?_, ?_, below_grown hb hgrow hown (Nat.le_refl _) hbs⟩
          · rw [e]
          · rw [e]; simpa using hown'
        case measure => simp [intOf]; omega
      · intro u hu; simp at hu; subst hu; rfl
      · unfold maxLen; omega
      · omega
      · have hne : (l[k] == c) = false := by rw [← u8_beq]; assumption
        go_roundw
        case rel =>
          have e : cutTo c (l.take (k + 1)) = ((cutTo c (l.take k)).1, (cutTo c (l.take k)).2 ++ [l[k]]) := by
            rw [cutTo_take c l k hlt]; unfold cutStep; rw [if_neg (by simpa using hne)]
          refine ⟨k + 1, by omega, by go_num, ?_, ?_, hb⟩
          · rw [e, ba_extract, ba_append]
            congr 4
            rw [show k + 1 - k = 1 from by omega, take_one_drop l k hlt]
          · rw [e]; exact hown
        case measure => simp [intOf]; omega
    · have hkl : k = l.length := by omega
      subst hkl
      have HT : Hid (l.take l.length = l) := List.take_length
      go_wp2_with (first | (at_builtin; refine wpList_append_new rfl _ _ 100 rfl w.heap.size i0 (.string ⟨#[]⟩) 1 16 Tryz.underlying100 hi hz0 hz1 hz2 rfl (by decide) _ _ _ hown rfl rfl rfl ?_ ?_ ?_ hbs ?_; rotate_right; intro v' w1 hown' hgrow hnn) | go_in)
      · go_ret
        rw [HT.out] at hown'
        exact ⟨_, rfl, by simpa [cutAt] using hown', below_grown hb hgrow hown (Nat.le_refl _) hbs⟩
      · intro u hu; simp at hu; subst hu; rfl
      · unfold maxLen; omega
      · omega
end Go.Proofs.YtgipjjhkhfihpaaGreatDoor

namespace Go.Proofs.YtgipjjhkhfihpaaGreatDoor
open Go.RowKit

/-- The variable that a word writes, or 0. -/
def dig : List UInt8 → Int
  | [c] => if 49 ≤ (c.toNat : Int) ∧ (c.toNat : Int) ≤ 56 then (c.toNat : Int) - 48 else 0
  | _ => 0

theorem dig_hit (k : Nat) (h : k < 8) (l : List UInt8) (e : (l == [48 + (UInt8.ofNat k + 1)]) = true) : dig l = (k : Int) + 1 := by
  rw [beq_iff_eq.1 e]
  have : (48 + (UInt8.ofNat k + 1)).toNat = 49 + k := by
    simp [UInt8.toNat_add, UInt8.toNat_ofNat']; omega
  simp only [dig, this]
  rw [if_pos (by omega)]; omega

theorem dig_miss (l : List UInt8) (h : ∀ j : Nat, j < 8 → (l == [48 + (UInt8.ofNat j + 1)]) = false) : dig l = 0 := by
  match l with
  | [] => rfl
  | _ :: _ :: _ => rfl
  | [c] =>
    simp only [dig]
    split
    · next hc =>
      exfalso
      have := h (c.toNat - 49) (by omega)
      have e : c = 48 + (UInt8.ofNat (c.toNat - 49) + 1) := by
        apply UInt8.toNat_inj.1
        simp [UInt8.toNat_add, UInt8.toNat_ofNat']; omega
      rw [← e] at this
      simp at this
    · rfl

theorem conv_byte (n : Int) (h0 : 0 ≤ n) (h1 : n < 256) (w : World) :
    (convert 114 9 (.slice (some ⟨w.heap.size, 0, none⟩) 1 1)).run Tryz.prog (w.alloc (.cells #[.int .u8 n] 5)) =
      .ok (.string ⟨#[UInt8.ofNat n.toNat]⟩) (w.alloc (.cells #[.int .u8 n] 5)) := by
  have e : ((UInt8.ofNat n.toNat).toNat : Int) = n := by simp [UInt8.toNat_ofNat']; omega
  have h := run_convert_bytes_back (P := Tryz.prog) (w.alloc (.cells #[.int .u8 n] 5)) 114 9 5 ⟨w.heap.size, 0, none⟩ 1 [UInt8.ofNat n.toNat] Tryz.underlying114 Tryz.underlying5 Tryz.underlying9
    (fun j hj => by
      simp at hj; subst hj
      simp only [List.getElem_cons_zero, e]
      simp [Addr.add])
  exact h

set_option maxRecDepth 100000 in
set_option maxHeartbeats 400000 in
theorem digit_any (l : List UInt8) (w : World) :
    Calls Tryz.prog 81 #[.string ⟨l.toArray⟩] w fun e w' => e = .returned (.int .i64 (dig l)) ∧ Below w.heap.size w w' := by
  go_enter Tryz.func81, Tryz.ntmps81
  go_wp2
  go_loopw [3] (fun i wr => ∃ k : Nat, k ≤ 8 ∧ i = .int .i64 (k + 1) ∧ Below w.heap.size w wr ∧ (∀ j : Nat, j < k → (l == [48 + (UInt8.ofNat j + 1)]) = false)) (fun i _ => 10 - (intOf i).toNat)
  case atStart => exact ⟨0, by omega, rfl, Below.refl _ _, fun j h => absurd h (by omega)⟩
  case round =>
    obtain ⟨k, hk, rfl, hb, hno⟩ := hrel
    have HN : Hid (∀ j : Nat, j < k → (l == [48 + (UInt8.ofNat j + 1)]) = false) := hno
    clear hno
    by_cases hlt : k < 8
    · have hcv := conv_byte (48 + ((k : Int) + 1)) (by omega) (by omega) wr
      go_wp2
      · go_ret
        exact ⟨ret_int (dig_hit k hlt l ‹_›).symm, hb.alloc hb.size _⟩
      · go_roundw
        case rel =>
          refine ⟨k + 1, by omega, by go_num, hb.alloc hb.size _, fun j hj => ?_⟩
          rcases Nat.lt_or_ge j k with h | h
          · exact HN.out j h
          · have : j = k := by omega
            subst this; assumption
        case measure => simp [intOf]; omega
    · go_wp2
      go_ret
      have : k = 8 := by omega
      subst this
      exact ⟨ret_int (dig_miss l HN.out).symm, hb⟩
end Go.Proofs.YtgipjjhkhfihpaaGreatDoor

namespace Go.Proofs.YtgipjjhkhfihpaaGreatDoor
open Go.RowKit

theorem ofInt_i64 (a : Nat) (ha : a < 9223372036854775808) : (BitVec.ofInt 64 (a : Int)).toNat = a := by
  rw [BitVec.toNat_ofInt]; omega
theorem wrap_i64_nat (a : Nat) (ha : a < 9223372036854775808) : IntKind.i64.wrap (a : Int) = (a : Int) := by
  have e : (a : Int) % 18446744073709551616 = a := by omega
  show (if (true && decide ((a : Int) % 18446744073709551616 ≥ 9223372036854775808)) = true then (a : Int) % 18446744073709551616 - 18446744073709551616 else (a : Int) % 18446744073709551616) = a
  rw [e, if_neg (by simp; omega)]
theorem i64_or (a b : Nat) (ha : a < 9223372036854775808) (hb : b < 9223372036854775808) : bits .or .i64 (a : Int) (b : Int) = ((a ||| b : Nat) : Int) := by
  have h : a ||| b < 9223372036854775808 := Nat.or_lt_two_pow (n := 63) ha hb
  show IntKind.i64.wrap (((BitVec.ofInt 64 (a : Int) ||| BitVec.ofInt 64 (b : Int)).toNat : Nat) : Int) = _
  rw [BitVec.toNat_or, ofInt_i64 a ha, ofInt_i64 b hb, wrap_i64_nat _ h]
theorem i64_and (a b : Nat) (ha : a < 9223372036854775808) (hb : b < 9223372036854775808) : bits .and .i64 (a : Int) (b : Int) = ((a &&& b : Nat) : Int) := by
  have h : a &&& b < 9223372036854775808 := Nat.lt_of_le_of_lt Nat.and_le_left ha
  show IntKind.i64.wrap (((BitVec.ofInt 64 (a : Int) &&& BitVec.ofInt 64 (b : Int)).toNat : Nat) : Int) = _
  rw [BitVec.toNat_and, ofInt_i64 a ha, ofInt_i64 b hb, wrap_i64_nat _ h]
/-- a without b's bits. -/
def less (a b : Nat) : Nat := a ^^^ (a &&& b)
theorem testBit_less (a b i : Nat) : (less a b).testBit i = (a.testBit i && !b.testBit i) := by
  unfold less; rw [Nat.testBit_xor, Nat.testBit_and]; cases a.testBit i <;> cases b.testBit i <;> rfl
theorem less_le (a b : Nat) : less a b ≤ a := by
  apply Nat.le_of_testBit
  intro i h; rw [testBit_less] at h; simp at h; exact h.1
theorem i64_andNot (a b : Nat) (ha : a < 9223372036854775808) (hb : b < 9223372036854775808) : bits .andNot .i64 (a : Int) (b : Int) = ((less a b : Nat) : Int) := by
  have h : less a b < 9223372036854775808 := Nat.lt_of_le_of_lt (less_le a b) ha
  show IntKind.i64.wrap (((BitVec.ofInt 64 (a : Int) &&& ~~~ BitVec.ofInt 64 (b : Int)).toNat : Nat) : Int) = _
  have e : (BitVec.ofInt 64 (a : Int) &&& ~~~ (BitVec.ofInt 64 (b : Int))).toNat = less a b := by
    apply Nat.eq_of_testBit_eq
    intro i
    rw [testBit_less, BitVec.testBit_toNat, BitVec.getLsbD_and, BitVec.getLsbD_not]
    rw [← BitVec.testBit_toNat, ← BitVec.testBit_toNat, ofInt_i64 a ha, ofInt_i64 b hb]
    by_cases hi : i < 64
    · simp [hi]
    · have : a.testBit i = false := Nat.testBit_lt_two_pow (Nat.lt_of_lt_of_le (show a < 2 ^ 63 from ha) (Nat.pow_le_pow_right (by omega) (by omega)))
      simp [this]
  rw [e, wrap_i64_nat _ h]
end Go.Proofs.YtgipjjhkhfihpaaGreatDoor

namespace Go.Proofs.YtgipjjhkhfihpaaGreatDoor
open Go.RowKit

theorem dig_bd (l : List UInt8) : 0 ≤ dig l ∧ dig l ≤ 8 := by
  unfold dig; split
  · split <;> omega
  · omega

theorem pow_bd (n : Nat) (h : n ≤ 8) : 2 ^ n ≤ 256 := by
  have := Nat.pow_le_pow_right (n := 2) (by omega) h
  simpa using this
theorem shl_one (v : Int) (h0 : 0 ≤ v) (h1 : v ≤ 8) : wrap64 (2 ^ v.toNat) = ((2 ^ v.toNat : Nat) : Int) := by
  have h := pow_bd v.toNat (by omega)
  rw [show (2 : Int) ^ v.toNat = ((2 ^ v.toNat : Nat) : Int) from by simp]
  generalize 2 ^ v.toNat = m at *
  exact IntWalk.wrap64_in _ ⟨by omega, by omega⟩
theorem or_bit (n : Nat) (hn : n < 512) (v : Int) (h0 : 0 ≤ v) (h1 : v ≤ 8) : bits .or .i64 (n : Int) (wrap64 (2 ^ v.toNat)) = ((n ||| 2 ^ v.toNat : Nat) : Int) := by
  have h := pow_bd v.toNat (by omega)
  rw [shl_one v h0 h1]
  generalize 2 ^ v.toNat = m at *
  exact i64_or _ _ (by omega) (by omega)
theorem or_lt (a b : Nat) (ha : a < 512) (hb : b < 512) : a ||| b < 512 := Nat.or_lt_two_pow (n := 9) ha hb

attribute [local go_sem] ba_get

set_option maxRecDepth 100000 in
set_option maxHeartbeats 400000 in
theorem literal_neg (l : List UInt8) (b p n : Nat) (w : World) (hblk : w.heap[b]? = some (.cells #[.int .i64 p, .int .i64 n] 121 (0, 0))) (hn : n < 512) :
    Calls Tryz.prog 80 #[.pointer (some ⟨b, 0, none⟩), .string ⟨(45 :: l).toArray⟩] w fun e w' => 
      e = .returned (.bool (decide (0 < dig l))) ∧ w'.heap[b]? = some (.cells #[.int .i64 p, .int .i64 ((n ||| 2 ^ (dig l).toNat : Nat) : Int)] 121 (0, 0)) ∧ Only (· = b) w w' := by
  obtain ⟨d0, d1⟩ := dig_bd l
  go_enter Tryz.func80, Tryz.ntmps80
  go_wp2_with fail
  rw [ba_extract, show List.take (l.length + 1 - 1) (List.drop 1 (45 :: l)) = l from by simp]
  refine (digit_any l w).mono ?_
  rintro e w1 ⟨rfl, hb⟩
  have hblk1 : w1.heap[b]? = some (.cells #[.int .i64 p, .int .i64 n] 121 (0, 0)) := (hb.block b (blk_lt hblk)).trans hblk
  have hc0 : w1.cell? ⟨b, 0, none⟩ = some (.int .i64 p) := by rw [blk_cell hblk1]; rfl
  have hc1 : w1.cell? ⟨b, 1, none⟩ = some (.int .i64 n) := by rw [blk_cell hblk1]; rfl
  have hf1 := blk_free hblk1 1
  go_wp2_with fail
  go_region
  all_goals go_wp2_with fail
  all_goals go_ret
  all_goals
    refine ⟨rfl, ?_, ((Only.of_below hb).setAt _ _).drew⟩
    rw [or_bit n hn _ d0 d1]
    exact blk_set hblk1 1 _

set_option maxRecDepth 100000 in
set_option maxHeartbeats 400000 in
theorem literal_pos (l : List UInt8) (h45 : l.head? ≠ some 45) (b p n : Nat) (w : World) (hblk : w.heap[b]? = some (.cells #[.int .i64 p, .int .i64 n] 121 (0, 0))) (hp : p < 512) :
    Calls Tryz.prog 80 #[.pointer (some ⟨b, 0, none⟩), .string ⟨l.toArray⟩] w fun e w' => 
      e = .returned (.bool (decide (0 < dig l))) ∧ w'.heap[b]? = some (.cells #[.int .i64 ((p ||| 2 ^ (dig l).toNat : Nat) : Int), .int .i64 n] 121 (0, 0)) ∧ Only (· = b) w w' := by
  obtain ⟨d0, d1⟩ := dig_bd l
  match l with
  | [] =>
    clear h45
    go_enter Tryz.func80, Tryz.ntmps80
    go_wp2_with fail
    refine (digit_any [] w).mono ?_
    rintro e w1 ⟨rfl, hb⟩
    have hblk1 : w1.heap[b]? = some (.cells #[.int .i64 p, .int .i64 n] 121 (0, 0)) := (hb.block b (blk_lt hblk)).trans hblk
    have hc0 : w1.cell? ⟨b, 0, none⟩ = some (.int .i64 p) := by rw [blk_cell hblk1]; rfl
    have hf1 := blk_free hblk1 0
    go_wp2_with fail
    go_region
    all_goals go_wp2_with fail
    all_goals go_ret
    all_goals
      refine ⟨rfl, ?_, ((Only.of_below hb).setAt _ _).drew⟩
      rw [or_bit p hp _ d0 d1]
      exact blk_set hblk1 0 _
  | c :: l =>
    have hc : ((c.toNat : Int) == 45) = false := by
      rw [beq_eq_false_iff_ne]; intro e
      exact h45 (by simp; apply UInt8.toNat_inj.1; show _ = 45; omega)
    clear h45
    go_enter Tryz.func80, Tryz.ntmps80
    go_wp2_with fail
    refine (digit_any (c :: l) w).mono ?_
    rintro e w1 ⟨rfl, hb⟩
    have hblk1 : w1.heap[b]? = some (.cells #[.int .i64 p, .int .i64 n] 121 (0, 0)) := (hb.block b (blk_lt hblk)).trans hblk
    have hc0 : w1.cell? ⟨b, 0, none⟩ = some (.int .i64 p) := by rw [blk_cell hblk1]; rfl
    have hf1 := blk_free hblk1 0
    go_wp2_with fail
    go_region
    all_goals go_wp2_with fail
    all_goals go_ret
    all_goals
      refine ⟨rfl, ?_, ((Only.of_below hb).setAt _ _).drew⟩
      rw [or_bit p hp _ d0 d1]
      exact blk_set hblk1 0 _

end Go.Proofs.YtgipjjhkhfihpaaGreatDoor

namespace Go.Proofs.YtgipjjhkhfihpaaGreatDoor
open Go.RowKit

theorem shr_bit (a v : Nat) (ha : a < 512) (_hv : v ≤ 8) : bits .and .i64 ((a : Int) / 2 ^ v) 1 = if a.testBit v then 1 else 0 := by
  have e : (a : Int) / 2 ^ v = ((a / 2 ^ v : Nat) : Int) := by
    rw [Int.natCast_ediv]; simp
  have hle : a / 2 ^ v ≤ a := Nat.div_le_self _ _
  rw [e, show (1 : Int) = ((1 : Nat) : Int) from rfl, i64_and _ _ (by omega) (by omega)]
  rw [Nat.and_one_is_mod, Nat.testBit_eq_decide_div_mod_eq]
  rcases Nat.mod_two_eq_zero_or_one (a / 2 ^ v) with h | h <;> simp [h]
theorem shr_bit_eq (a v : Nat) (ha : a < 512) (hv : v ≤ 8) : (bits .and .i64 ((a : Int) / 2 ^ v) 1 == 1) = a.testBit v := by
  rw [shr_bit a v ha hv]; cases a.testBit v <;> rfl

set_option maxRecDepth 100000 in
set_option maxHeartbeats 400000 in
theorem universal_any (b a v : Nat) (w : World) (ha : a < 512) (hv : v ≤ 8) (hc : w.cell? ⟨b, 1, none⟩ = some (.int .i64 a)) :
    Calls Tryz.prog 82 #[.pointer (some ⟨b, 0, none⟩), .int .i64 v] w fun e w' => e = .returned (.bool (a.testBit v)) ∧ w' = w := by
  have hb := shr_bit_eq a v ha hv
  go_enter Tryz.func82, Tryz.ntmps82
  go_wp2_with fail
  go_ret
  exact ⟨rfl, rfl⟩
end Go.Proofs.YtgipjjhkhfihpaaGreatDoor

namespace Go.Proofs.YtgipjjhkhfihpaaGreatDoor
open Go.RowKit

/-- What Read gathers, line by line. -/
structure RS where
  cl : List (Nat × Nat)
  told : List Nat
  kinds : List Bool
  seen : Nat
  used : Nat

def litInto (c : (Nat × Nat)) (w : List UInt8) : (Nat × Nat) × Bool :=
  match w with
  | 45 :: r => ((c.1, c.2 ||| 2 ^ (dig r).toNat), decide (0 < dig r))
  | w => ((c.1 ||| 2 ^ (dig w).toNat, c.2), decide (0 < dig w))
def litsTo (ws : List (List UInt8)) : (Nat × Nat) × Bool :=
  ws.foldl (fun st w => ((litInto st.1 w).1, st.2 && (litInto st.1 w).2)) ((0, 0), true)
structure PS where
  told : List Nat
  kinds : List Bool
  seen : Nat
  ok : Bool
def varStep (a : Bool) (st : PS) (w : List UInt8) : PS :=
  { told := st.told ++ [(dig w).toNat], kinds := st.kinds ++ [a], seen := st.seen ||| 2 ^ (dig w).toNat,
    ok := if dig w = 0 ∨ st.seen.testBit (dig w).toNat then false else st.ok }
def varsTo (a : Bool) (st : RS) (ws : List (List UInt8)) : PS := ws.foldl (varStep a) ⟨st.told, st.kinds, st.seen, true⟩
/-- One line, by its words: what is gathered behind it, and whether it is a line. -/
def rowOf (st : RS) (hd : List UInt8) (tl : List (List UInt8)) : RS × Bool :=
  if hd = [99] then
    ({ st with cl := st.cl ++ [(litsTo tl).1], used := st.used ||| (litsTo tl).1.1 ||| (litsTo tl).1.2 }, (litsTo tl).2)
  else if (hd = [101] ∨ hd = [97]) ∧ st.cl = [] ∧ tl ≠ [] then
    ({ st with told := (varsTo (hd == [97]) st tl).told, kinds := (varsTo (hd == [97]) st tl).kinds, seen := (varsTo (hd == [97]) st tl).seen }, (varsTo (hd == [97]) st tl).ok)
  else (st, false)
def rowStep (st : RS) (row : List UInt8) : RS × Bool :=
  match cutAt 32 row with
  | [] => (st, false)
  | hd :: tl => rowOf st hd tl
theorem rowStep_eq (st : RS) (row hd : List UInt8) (tl : List (List UInt8)) (h : cutAt 32 row = hd :: tl) : rowStep st row = rowOf st hd tl := by unfold rowStep; rw [h]
/-- Lines from the i-th on: what is gathered, or the first line that is none. -/
def readRows (st : RS) (i : Nat) : List (List UInt8) → RS ⊕ Nat
  | [] => .inl st
  | r :: rs => if (rowStep st r).2 then readRows (rowStep st r).1 (i + 1) rs else .inr (i + 1)
def rs0 : RS := ⟨[], [], [], 0, 0⟩

theorem litInto_pos (c : Nat × Nat) (r : List UInt8) (h : r.head? ≠ some 45) : litInto c r = ((c.1 ||| 2 ^ (dig r).toNat, c.2), decide (0 < dig r)) := by
  unfold litInto; split
  · simp at h
  · rfl
theorem litInto_lt (c : Nat × Nat) (r : List UInt8) (h1 : c.1 < 512) (h2 : c.2 < 512) : (litInto c r).1.1 < 512 ∧ (litInto c r).1.2 < 512 := by
  have d : ∀ r, 2 ^ (dig r).toNat < 512 := fun r => by
    have := dig_bd r; have := pow_bd (dig r).toNat (by omega); omega
  unfold litInto; split
  · exact ⟨h1, or_lt _ _ h2 (d _)⟩
  · exact ⟨or_lt _ _ h1 (d _), h2⟩
theorem litsTo_take (ws : List (List UInt8)) (j : Nat) (h : j < ws.length) : litsTo (ws.take (j + 1)) = ((litInto (litsTo (ws.take j)).1 ws[j]).1, (litsTo (ws.take j)).2 && (litInto (litsTo (ws.take j)).1 ws[j]).2) := by
  unfold litsTo
  rw [List.take_succ_eq_append_getElem h, List.foldl_append]; rfl
theorem litsTo_lt (ws : List (List UInt8)) : (litsTo ws).1.1 < 512 ∧ (litsTo ws).1.2 < 512 := by
  unfold litsTo
  suffices h : ∀ (ws : List (List UInt8)) (st : (Nat × Nat) × Bool), st.1.1 < 512 → st.1.2 < 512 → (ws.foldl (fun st w => ((litInto st.1 w).1, st.2 && (litInto st.1 w).2)) st).1.1 < 512 ∧ (ws.foldl (fun st w => ((litInto st.1 w).1, st.2 && (litInto st.1 w).2)) st).1.2 < 512 from h ws _ (by decide) (by decide)
  intro ws
  induction ws with
  | nil => intro st h1 h2; exact ⟨h1, h2⟩
  | cons w ws ih =>
    intro st h1 h2
    have := litInto_lt st.1 w h1 h2
    exact ih _ this.1 this.2

theorem literal_any (l : List UInt8) (b p n : Nat) (w : World) (hblk : w.heap[b]? = some (.cells #[.int .i64 p, .int .i64 n] 121 (0, 0))) (hp : p < 512) (hn : n < 512) :
    Calls Tryz.prog 80 #[.pointer (some ⟨b, 0, none⟩), .string ⟨l.toArray⟩] w fun e w' => 
      e = .returned (.bool (litInto (p, n) l).2) ∧ w'.heap[b]? = some (.cells #[.int .i64 ((litInto (p, n) l).1.1 : Int), .int .i64 ((litInto (p, n) l).1.2 : Int)] 121 (0, 0)) ∧ Only (· = b) w w' := by
  by_cases h : l.head? = some 45
  · match l, h with
    | c :: r, h =>
      simp at h; subst h
      exact literal_neg r b p n w hblk hn
  · rw [litInto_pos _ _ h]
    exact literal_pos l h b p n w hblk hp

theorem cutAt_len (c : UInt8) (l : List UInt8) : ∀ r ∈ cutAt c l, r.length ≤ l.length := by
  have h : ∀ (l : List UInt8) (st : List (List UInt8) × List UInt8) (B : Nat), (∀ r ∈ st.1, r.length ≤ B) → st.2.length ≤ B → (∀ r ∈ (l.foldl (cutStep c) st).1, r.length ≤ B + l.length) ∧ (l.foldl (cutStep c) st).2.length ≤ B + l.length := by
    intro l
    induction l with
    | nil => intro st B h1 h2; exact ⟨by simpa using h1, by simpa using h2⟩
    | cons b l ih =>
      intro st B h1 h2
      have := ih (cutStep c st b) (B + 1) (by
        intro r hr
        unfold cutStep at hr
        split at hr
        · simp at hr
          rcases hr with hr | hr
          · have := h1 r hr; omega
          · subst hr; omega
        · have := h1 r hr; omega) (by unfold cutStep; split <;> simp; omega)
      simp only [List.foldl_cons, List.length_cons]
      rw [show B + (l.length + 1) = B + 1 + l.length from by omega]
      exact this
  have := h l ([], []) 0 (by simp) (by simp)
  intro r hr
  simp [cutAt] at hr
  rcases hr with hr | hr
  · have := this.1 r hr; omega
  · have := this.2; subst hr; unfold cutTo; omega

/-! ### What Read answers -/
/-- A formula: variables from the outermost on, the universal ones (bits), where blocks end, clauses. -/
structure Form where
  order : List Nat
  all : Nat
  ends : List Nat
  cl : List (Nat × Nat)
def freeTo (st : RS) (k : Nat) : List Nat := ((List.range k).map (· + 1)).filter (fun v => st.used.testBit v && !st.seen.testBit v)
def allTo (st : RS) (k : Nat) : Nat := ((st.told.zip st.kinds).take k).foldl (fun a x => if x.2 then a ||| 2 ^ x.1 else a) 0
def endAt (order : List Nat) (all : Nat) (i : Nat) : Bool := i == order.length || (all.testBit (order.getD i 0) != all.testBit (order.getD (i - 1) 0))
def endsTo (order : List Nat) (all : Nat) (k : Nat) : List Nat := ((List.range k).map (· + 1)).filter (endAt order all)
def orderOf (st : RS) : List Nat := freeTo st 8 ++ st.told
def finish (st : RS) : Form :=
  { order := orderOf st, all := allTo st st.told.length, ends := endsTo (orderOf st) (allTo st st.told.length) (orderOf st).length, cl := st.cl }
/-- An error and the line, or a formula. -/
def readSpec (l : List UInt8) : (Nat × Nat) ⊕ Form :=
  if 2000 < l.length then .inl (1, 0) else
  match readRows rs0 0 (cutAt 10 l).dropLast with
  | .inr i => .inl (2, i)
  | .inl st => if (cutAt 10 l).getLast? ≠ some [] then .inl (2, (cutAt 10 l).length) else if 24 < st.cl.length then .inl (3, 0) else .inr (finish st)

theorem freeTo_succ (st : RS) (k : Nat) : freeTo st (k + 1) = freeTo st k ++ (if st.used.testBit (k + 1) && !st.seen.testBit (k + 1) then [k + 1] else []) := by
  unfold freeTo
  rw [List.range_succ, List.map_append, List.filter_append]
  congr 1
  simp [List.filter_cons]
theorem endsTo_succ (order : List Nat) (all k : Nat) : endsTo order all (k + 1) = endsTo order all k ++ (if endAt order all (k + 1) then [k + 1] else []) := by
  unfold endsTo
  rw [List.range_succ, List.map_append, List.filter_append]
  congr 1
  simp [List.filter_cons]
theorem allTo_succ (st : RS) (k : Nat) (h1 : k < st.told.length) (h2 : k < st.kinds.length) : allTo st (k + 1) = if st.kinds[k] then allTo st k ||| 2 ^ st.told[k] else allTo st k := by
  unfold allTo
  have hz : k < (st.told.zip st.kinds).length := by simp; omega
  rw [List.take_succ_eq_append_getElem hz, List.foldl_append]
  simp

/-! ### A row -/
theorem rowStep_c (st : RS) (row : List UInt8) (tl : List (List UInt8)) (h : cutAt 32 row = [99] :: tl) :
    rowStep st row = ({ st with cl := st.cl ++ [(litsTo tl).1], used := st.used ||| (litsTo tl).1.1 ||| (litsTo tl).1.2 }, (litsTo tl).2) := by
  rw [rowStep_eq _ _ _ _ h, rowOf, if_pos rfl]
theorem rowStep_p (st : RS) (row hd : List UInt8) (tl : List (List UInt8)) (h : cutAt 32 row = hd :: tl) (hh : hd = [101] ∨ hd = [97]) (hc : st.cl = []) (ht : tl ≠ []) :
    rowStep st row = ({ st with told := (varsTo (hd == [97]) st tl).told, kinds := (varsTo (hd == [97]) st tl).kinds, seen := (varsTo (hd == [97]) st tl).seen }, (varsTo (hd == [97]) st tl).ok) := by
  have h99 : hd ≠ [99] := by rcases hh with rfl | rfl <;> decide
  rw [rowStep_eq _ _ _ _ h, rowOf, if_neg h99, if_pos ⟨hh, hc, ht⟩]
theorem rowStep_n (st : RS) (row hd : List UInt8) (tl : List (List UInt8)) (h : cutAt 32 row = hd :: tl) (h99 : hd ≠ [99]) (hh : ¬ ((hd = [101] ∨ hd = [97]) ∧ st.cl = [] ∧ tl ≠ [])) :
    (rowStep st row).2 = false := by
  rw [rowStep_eq _ _ _ _ h, rowOf, if_neg h99, if_neg hh]
theorem readRows_drop (rows : List (List UInt8)) (k : Nat) (row : List UInt8) (hrow : rows[k]? = some row) (hk : k + 1 < rows.length) : rows.dropLast.drop k = row :: rows.dropLast.drop (k + 1) := by
  have hl : k < rows.dropLast.length := by simp; omega
  rw [List.drop_eq_getElem_cons hl]
  congr 1
  rw [List.getElem_dropLast]
  have := (List.getElem?_eq_some_iff.1 hrow).2
  exact this
theorem varsTo_take (a : Bool) (st : RS) (ws : List (List UInt8)) (j : Nat) (h : j < ws.length) : varsTo a st (ws.take (j + 1)) = varStep a (varsTo a st (ws.take j)) ws[j] := by
  unfold varsTo
  rw [List.take_succ_eq_append_getElem h, List.foldl_append]; rfl
theorem varStep_eq (a : Bool) (p : PS) (w : List UInt8) (dn : Nat) (h : dig w = (dn : Int)) :
    varStep a p w = ⟨p.told ++ [dn], p.kinds ++ [a], p.seen ||| 2 ^ dn, if dn = 0 ∨ p.seen.testBit dn = true then false else p.ok⟩ := by
  unfold varStep
  rw [h]
  simp only [Int.toNat_natCast]
  by_cases h0 : dn = 0
  · subst h0; simp
  · have : ¬ ((dn : Int) = 0) := by omega
    simp [h0]
theorem varsTo_bd (a : Bool) (st : RS) (ws : List (List UInt8)) (hs : st.seen < 512) (hk : st.kinds.length = st.told.length) :
    (varsTo a st ws).seen < 512 ∧ (varsTo a st ws).told.length = st.told.length + ws.length ∧ (varsTo a st ws).kinds.length = st.told.length + ws.length := by
  unfold varsTo
  suffices h : ∀ (ws : List (List UInt8)) (p : PS), p.seen < 512 → p.kinds.length = p.told.length → (ws.foldl (varStep a) p).seen < 512 ∧ (ws.foldl (varStep a) p).told.length = p.told.length + ws.length ∧ (ws.foldl (varStep a) p).kinds.length = p.told.length + ws.length from h ws _ hs hk
  intro ws
  induction ws with
  | nil => intro p h1 h2; exact ⟨h1, rfl, h2⟩
  | cons w ws ih =>
    intro p h1 h2
    have d : 2 ^ (dig w).toNat < 512 := by have := dig_bd w; have := pow_bd (dig w).toNat (by omega); omega
    have := ih (varStep a p w) (or_lt _ _ h1 d) (by simp [varStep, h2])
    simp only [List.foldl_cons, List.length_cons]
    simp only [varStep, List.length_append, List.length_cons, List.length_nil] at this ⊢
    omega

end Go.Proofs.YtgipjjhkhfihpaaGreatDoor

namespace Go.Proofs.YtgipjjhkhfihpaaGreatDoor
open Go.RowKit

/-- 'append(v, x)' in a region that draws its order: v the call's own row, x's cells in whatever block. -/
theorem step_append_own {P : Program} {ops : Array Oper} {o : Oper} {a : Act} {w : World} {K : Act → World → Prop} {Q : Exit → Act → World → Prop} {E : Prop}
    (hg : o.guard = none) (s x : Operand) (t : TypeId) (hop : o.op = Op.call { callee := Callee.builtin Builtin.append, args := #[s, x], argTypes := #[t, t] })
    (base : Nat) (e : TypeId) (i : TypeInfo) (z : Value) (size bytes : Nat) (ht : P.underlying t = some (.slice e)) (hi : P.info? e = some i) (hz : i.zero = some z)
    (hsize : i.size = size) (hby : i.bytes = bytes) (hzs : z.cells.size = size) (hsz : 0 < size)
    (v : Value) (n : Nat) (xs : List Value) (hown : w.ownsRow base e size v n xs) (hs : a.eval s = v)
    (ad : Addr) (m c : Nat) (news : List Value) (hx : a.eval x = .slice (some ad) m c) (hl : news.length = m * size) (hnews : ∀ j u, news[j]? = some u → w.cell? (ad.add j) = some u) (h1 : ∀ u ∈ news, u.oneCell' = true)
    (h63 : n + m ≤ maxLen) (hbytes : (n + m) * bytes ≤ 140737488355328) (hbase : base ≤ w.heap.size)
    (hK : ∀ v' w', w'.ownsRow base e size v' (n + m) (xs ++ news) → w.grownBy w' v.ownBlock → (v' = .slice none 0 0 ↔ v = .slice none 0 0 ∧ m = 0) → K (a.put o.dst v') w') :
    if Region.wanted o (yielded ops a.tmps) = true then Oper.wp P o a w K Q else E := by
  have hw : Region.wanted o (yielded ops a.tmps) = true := by simp [Region.wanted, hg]
  rw [if_pos hw]
  exact wp_append_own w s x t hop base e i z size bytes ht hi hz hsize hby hzs hsz v n xs hs hown ad m c news hx hl hnews h1 h63 hbytes hbase hK

section
variable {P : Program}
/-- 'append' onto a row of one's own, and where what comes out lies: in the same block, or in a new one. -/
theorem run_append_at (w : World) (base : Nat) (t ty e : TypeId) (i : TypeInfo) (z : Value) (size bytes : Nat) (ht : P.underlying t = some (.slice e)) (hi : P.info? e = some i) (hz : i.zero = some z)
    (hsize : i.size = size) (hby : i.bytes = bytes) (hzs : z.cells.size = size) (hsz : 0 < size)
    (v : Value) (n : Nat) (xs : List Value) (hown : w.ownsRow base e size v n xs)
    (a : Addr) (m c : Nat) (news : List Value) (hl : news.length = m * size) (hnews : ∀ j u, news[j]? = some u → w.cell? (a.add j) = some u) (h1 : ∀ u ∈ news, u.oneCell' = true)
    (h0 : 0 < m) (h63 : n + m ≤ maxLen) (hbytes : (n + m) * bytes ≤ 140737488355328) (hbase : base ≤ w.heap.size) :
    ∃ v' w', (Builtin.append_ #[t, t] ty #[v, .slice (some a) m c]).run P w = .ok v' w' ∧ w'.ownsRow base e size v' (n + m) (xs ++ news) ∧ w.grownBy w' v.ownBlock ∧
      (v'.ownBlock = v.ownBlock ∨ ∃ k, v'.ownBlock = some k ∧ w.heap.size ≤ k) := by
  obtain ⟨v', w', hr, h2, h3, _⟩ := run_append_own (P := P) w base t ty e i z size bytes ht hi hz hsize hby hzs hsz v n xs hown a m c news hl hnews h1 h63 hbytes hbase
  refine ⟨v', w', hr, h2, h3, ?_⟩
  have hsmall : n + m ≤ 9223372036854775807 := by simp only [maxLen] at h63; omega
  subst hsize hby
  have hx := hown
  rcases hx.2 with ⟨rfl, rfl⟩ | ⟨g, cap, cur, rfl, hbg, hg, hnc, hcm, hcs, htake⟩
  · have hq := run_append_nil (P := P) w t ty e i z ht hi hz a m c news hl hnews h0 (by omega) (by simp only [Nat.zero_add] at hbytes; omega)
    rw [hq] at hr
    injection hr with e1 e2
    subst e1
    exact Or.inr ⟨_, rfl, Nat.le_refl _⟩
  · by_cases hroom : n + m ≤ cap
    · have hfit : n * i.size + news.length ≤ cur.size := by rw [hl, hcs, ← Nat.add_mul]; exact Nat.mul_le_mul_right _ hroom
      have hq := run_append_room (P := P) w t ty e i ht hi g n cap cur hg a m c news hl hnews h1 hroom hfit
      rw [hq] at hr
      injection hr with e1 e2
      subst e1
      exact Or.inl rfl
    · have hq := run_append_grow (P := P) w t ty e i z ht hi hz ⟨g, 0, none⟩ n cap xs hown.1 (hown.cells (g := g) rfl) a m c news hl hnews (by omega) (by omega) (growslice_fits (by omega) hbytes)
      rw [hq] at hr
      injection hr with e1 e2
      subst e1
      exact Or.inr ⟨_, rfl, Nat.le_refl _⟩

theorem wp_append_at {w : World} {o : Oper} {a : Act} {K : Act → World → Prop} {Q : Exit → Act → World → Prop} (s x : Operand) (t : TypeId)
    (ho : o.op = .call { callee := .builtin .append, args := #[s, x], argTypes := #[t, t] })
    (base : Nat) (e : TypeId) (i : TypeInfo) (z : Value) (size bytes : Nat) (ht : P.underlying t = some (.slice e)) (hi : P.info? e = some i) (hz : i.zero = some z)
    (hsize : i.size = size) (hby : i.bytes = bytes) (hzs : z.cells.size = size) (hsz : 0 < size)
    (v : Value) (n : Nat) (xs : List Value) (hown : w.ownsRow base e size v n xs) (hs : a.eval s = v)
    (ad : Addr) (m c : Nat) (news : List Value) (hx : a.eval x = .slice (some ad) m c) (hl : news.length = m * size) (hnews : ∀ j u, news[j]? = some u → w.cell? (ad.add j) = some u) (h1 : ∀ u ∈ news, u.oneCell' = true)
    (h0 : 0 < m) (h63 : n + m ≤ maxLen) (hbytes : (n + m) * bytes ≤ 140737488355328) (hbase : base ≤ w.heap.size)
    (h : ∀ v' w', w'.ownsRow base e size v' (n + m) (xs ++ news) → w.grownBy w' v.ownBlock → (v'.ownBlock = v.ownBlock ∨ ∃ k, v'.ownBlock = some k ∧ w.heap.size ≤ k) → K (a.put o.dst v') w') : o.wp P a w K Q := by
  obtain ⟨v', w', hr, h2, h3, h4⟩ := run_append_at (P := P) w base t o.type e i z size bytes ht hi hz hsize hby hzs hsz v n xs hown ad m c news hl hnews h1 h0 h63 hbytes hbase
  unfold Oper.wp execOp
  simp only [ho, resolve, invoke, builtin, Sem.run_bind, Sem.run_pure, Result.andThen_ok, List.map_toArray, List.map_cons, List.map_nil, hs, hx, hr]
  exact h v' w' h2 h3 h4

theorem wpList_append_at {ops : Array Oper} {rest : List Oper} {o : Oper} {a : Act} {Q : Exit → Act → World → Prop} {w : World} {news : List Value} {e : TypeId} (hgd : o.guard = none) (s x : Operand) (t : TypeId)
    (ho : o.op = .call { callee := .builtin .append, args := #[s, x], argTypes := #[t, t] })
    (base : Nat) (i : TypeInfo) (z : Value) (size bytes : Nat) (ht : P.underlying t = some (.slice e)) (hi : P.info? e = some i) (hz : i.zero = some z)
    (hsize : i.size = size) (hby : i.bytes = bytes) (hzs : z.cells.size = size) (hsz : 0 < size)
    (v : Value) (n : Nat) (xs : List Value) (hown : w.ownsRow base e size v n xs) (hs : a.eval s = v)
    (hx : a.eval x = .slice (some ⟨w.heap.size, 0, none⟩) 1 1) (hl : news.length = size) (h1 : ∀ u ∈ news, u.oneCell' = true)
    (h63 : n + 1 ≤ maxLen) (hbytes : (n + 1) * bytes ≤ 140737488355328) (hbase : base ≤ w.heap.size)
    (h : ∀ v' w', w'.ownsRow base e size v' (n + 1) (xs ++ news) → w.grownBy w' v.ownBlock → (v'.ownBlock = v.ownBlock ∨ ∃ k, v'.ownBlock = some k ∧ w.heap.size ≤ k) → wpList P ops Q rest (a.put o.dst v') w') : wpList P ops Q (o :: rest) a (w.alloc (.cells news.toArray e)) := by
  refine wpList_plain hgd fun _ hK => wp_append_at s x t ho base e i z size bytes ht hi hz hsize hby hzs hsz v n xs (hown.alloc _) hs ⟨w.heap.size, 0, none⟩ 1 1 news hx (by simpa using hl) (new_cells w news e) h1 (by decide) h63 hbytes (by simp; omega) fun v' w' h2 h3 h4 => hK _ _ (h v' w' h2 ?_ ?_)
  · exact ⟨h3.os, h3.tape, h3.output, Nat.le_trans (by simp) h3.size, fun k hk hne => (h3.block k (by simp; omega) hne).trans (heap_alloc_old w _ hk)⟩
  · rcases h4 with h4 | ⟨k, h4, h5⟩
    · exact Or.inl h4
    · exact Or.inr ⟨k, h4, by simp at h5; omega⟩

theorem step_append_at {ops : Array Oper} {o : Oper} {a : Act} {w : World} {K : Act → World → Prop} {Q : Exit → Act → World → Prop} {E : Prop}
    (hg : o.guard = none) (s x : Operand) (t : TypeId) (hop : o.op = Op.call { callee := Callee.builtin Builtin.append, args := #[s, x], argTypes := #[t, t] })
    (base : Nat) (e : TypeId) (i : TypeInfo) (z : Value) (size bytes : Nat) (ht : P.underlying t = some (.slice e)) (hi : P.info? e = some i) (hz : i.zero = some z)
    (hsize : i.size = size) (hby : i.bytes = bytes) (hzs : z.cells.size = size) (hsz : 0 < size)
    (v : Value) (n : Nat) (xs : List Value) (hown : w.ownsRow base e size v n xs) (hs : a.eval s = v)
    (ad : Addr) (m c : Nat) (news : List Value) (hx : a.eval x = .slice (some ad) m c) (hl : news.length = m * size) (hnews : ∀ j u, news[j]? = some u → w.cell? (ad.add j) = some u) (h1 : ∀ u ∈ news, u.oneCell' = true)
    (h0 : 0 < m) (h63 : n + m ≤ maxLen) (hbytes : (n + m) * bytes ≤ 140737488355328) (hbase : base ≤ w.heap.size)
    (hK : ∀ v' w', w'.ownsRow base e size v' (n + m) (xs ++ news) → w.grownBy w' v.ownBlock → (v'.ownBlock = v.ownBlock ∨ ∃ k, v'.ownBlock = some k ∧ w.heap.size ≤ k) → K (a.put o.dst v') w') :
    if Region.wanted o (yielded ops a.tmps) = true then Oper.wp P o a w K Q else E := by
  have hw : Region.wanted o (yielded ops a.tmps) = true := by simp [Region.wanted, hg]
  rw [if_pos hw]
  exact wp_append_at s x t hop base e i z size bytes ht hi hz hsize hby hzs hsz v n xs hown hs ad m c news hx hl hnews h1 h0 h63 hbytes hbase hK
end

end Go.Proofs.YtgipjjhkhfihpaaGreatDoor

namespace Go.Proofs.YtgipjjhkhfihpaaGreatDoor
open Go.RowKit

theorem cutTo_append (c : UInt8) (a b : List UInt8) : cutTo c (a ++ b) = b.foldl (cutStep c) (cutTo c a) := by
  unfold cutTo; rw [List.foldl_append]
theorem cutTo_suffix (c : UInt8) (l : List UInt8) : ∃ pre, l = pre ++ (cutTo c l).2 := by
  suffices h : ∀ (n : Nat) (l : List UInt8), l.length = n → ∃ pre, l = pre ++ (cutTo c l).2 from h _ l rfl
  intro n
  induction n with
  | zero => intro l hl; exact ⟨[], by rw [List.eq_nil_of_length_eq_zero hl]; rfl⟩
  | succ n ih =>
    intro l hl
    obtain ⟨a, b, rfl⟩ : ∃ a b, l = a ++ [b] := ⟨l.dropLast, l.getLast (by intro e; subst e; simp at hl), (List.dropLast_concat_getLast _).symm⟩
    obtain ⟨pre, hpre⟩ := ih a (by simp at hl; omega)
    rw [cutTo_append]
    simp only [List.foldl_cons, List.foldl_nil]
    unfold cutStep
    split
    · exact ⟨a ++ [b], by simp⟩
    · exact ⟨pre, by simp; rw [← List.append_assoc, ← hpre]⟩
theorem cutTo_tail (c : UInt8) (l : List UInt8) : l.drop (l.length - (cutTo c l).2.length) = (cutTo c l).2 := by
  obtain ⟨pre, h⟩ := cutTo_suffix c l
  generalize (cutTo c l).2 = t at *
  subst h
  simp
/-- The text from where the last piece began to k. -/
theorem cut_piece (c : UInt8) (l : List UInt8) (k s : Nat) (hk : k ≤ l.length) (hs : s + (cutTo c (l.take k)).2.length = k) : (l.drop s).take (k - s) = (cutTo c (l.take k)).2 := by
  have h := cutTo_tail c (l.take k)
  rw [List.length_take, Nat.min_eq_left hk] at h
  rw [show k - (cutTo c (l.take k)).2.length = s from by omega] at h
  rw [← h, List.drop_take]

attribute [local go_sem] ba_get

set_option maxRecDepth 100000 in
set_option maxHeartbeats 400000 in
theorem lines_any (l : List UInt8) (w : World) (hl : l.length ≤ 1048576) :
    Calls Tryz.prog 43 #[.string ⟨l.toArray⟩] w fun e w' =>
      ∃ v, e = .returned (.tuple #[v, .bool (decide ((cutTo 10 l).2 = []))]) ∧ w'.ownsRow w.heap.size 9 1 v (cutTo 10 l).1.length ((cutTo 10 l).1.map S) ∧ Below w.heap.size w w' := by
  obtain ⟨i0, hi, hz0, hz1, hz2⟩ := info_parts Tryz.info9
  go_enter Tryz.func43, Tryz.ntmps43
  go_wp2
  go_loopw [4, 5, 6] (fun v t i wr => ∃ k s : Nat, k ≤ l.length ∧ i = .int .i64 k ∧ t = .int .i64 s ∧ s + (cutTo 10 (l.take k)).2.length = k ∧ wr.ownsRow w.heap.size 9 1 v (cutTo 10 (l.take k)).1.length ((cutTo 10 (l.take k)).1.map S) ∧ Below w.heap.size w wr) (fun _ _ i _ => l.length - (intOf i).toNat)
  case atStart => exact ⟨0, 0, by omega, rfl, rfl, rfl, World.ownsRow_nil _ _ _ _, Below.refl _ _⟩
  case round =>
    obtain ⟨k, s, hk, rfl, rfl, hs, hown, hb⟩ := hrel
    have hsz := cutTo_size 10 (l.take k)
    rw [List.length_take] at hsz
    have hbs := hb.size
    have HP := hide (cut_piece 10 l k s hk hs)
    have hsk : s ≤ k := by omega
    have HS := hide hs; clear hs
    by_cases hlt : k < l.length
    · by_cases hc : l[k] = 10
      · have hcb : ((l[k].toNat : Int) == 10) = true := by rw [hc]; rfl
        go_wp2_with (first | (at_builtin; refine wpList_append_new rfl _ _ 100 rfl w.heap.size i0 (.string ⟨#[]⟩) 1 16 Tryz.underlying100 hi hz0 hz1 hz2 rfl (by decide) _ _ _ hown rfl rfl rfl ?_ ?_ ?_ hbs ?_; rotate_right; intro v' w1 hown' hgrow hnn) | go_in)
        · go_roundw
          case rel =>
            have e : cutTo 10 (l.take (k + 1)) = ((cutTo 10 (l.take k)).1 ++ [(cutTo 10 (l.take k)).2], []) := by
              rw [cutTo_take 10 l k hlt]; unfold cutStep; rw [if_pos hc]
            refine ⟨k + 1, k + 1, by omega, by go_num, by go_num, ?_, ?_, below_grown hb hgrow hown (Nat.le_refl _) hbs⟩
            · rw [e]; rfl
            · rw [ba_extract, unhide HP] at hown'
              rw [e]; simpa using hown'
          case measure => simp [intOf]; omega
        · intro u hu; simp at hu; subst hu; rfl
        · unfold maxLen; omega
        · omega
      · have hcb : ((l[k].toNat : Int) == 10) = false := by
          rw [beq_eq_false_iff_ne]; intro e; exact hc (by apply UInt8.toNat_inj.1; show _ = 10; omega)
        go_wp2_with fail
        go_roundw
        case rel =>
          have e : cutTo 10 (l.take (k + 1)) = ((cutTo 10 (l.take k)).1, (cutTo 10 (l.take k)).2 ++ [l[k]]) := by
            rw [cutTo_take 10 l k hlt]; unfold cutStep; rw [if_neg hc]
          refine ⟨k + 1, s, by omega, by go_num, rfl, ?_, ?_, hb⟩
          · rw [e]; simp; have := unhide HS; omega
          · rw [e]; exact hown
        case measure => simp [intOf]; omega
    · have hkl : k = l.length := by omega
      subst hkl
      have HT : Hid (l.take l.length = l) := hide List.take_length
      rw [unhide HT] at hown HS
      have hsb : ((s : Int) == (l.length : Int)) = decide ((cutTo 10 l).2 = []) := by
        have := unhide HS
        rw [Bool.eq_iff_iff, beq_iff_eq, decide_eq_true_iff, ← List.length_eq_zero_iff]; omega
      go_wp2_with fail
      go_ret2
      exact ⟨_, rfl, hown, hb⟩

/-! ### Split -/
theorem cutTo_prefix (c : UInt8) (l : List UInt8) (k : Nat) : (cutTo c (l.take k)).1 <+: (cutTo c l).1 := by
  have h : ∀ (b : List UInt8) (st : List (List UInt8) × List UInt8), st.1 <+: (b.foldl (cutStep c) st).1 := by
    intro b
    induction b with
    | nil => intro st; exact List.prefix_refl _
    | cons x b ih =>
      intro st
      refine List.IsPrefix.trans ?_ (ih (cutStep c st x))
      unfold cutStep; split
      · exact List.prefix_append _ _
      · exact List.prefix_refl _
  conv => rhs; rw [← List.take_append_drop k l]
  rw [cutTo_append]
  exact h _ _

/-- The words of a line, or that it is none. -/
def splitOk (l : List UInt8) : Bool := !(cutAt 32 l).any (·.isEmpty)
theorem split_bad (l : List UInt8) (k : Nat) (hk : k ≤ l.length) (h : (cutTo 32 (l.take k)).2 = []) (hx : ∀ h : k < l.length, l[k] = 32) : splitOk l = false := by
  unfold splitOk
  rw [Bool.not_eq_false', List.any_eq_true]
  refine ⟨[], ?_, rfl⟩
  unfold cutAt
  by_cases hlt : k < l.length
  · have e : cutTo 32 (l.take (k + 1)) = ((cutTo 32 (l.take k)).1 ++ [[]], []) := by
      rw [cutTo_take 32 l k hlt]; unfold cutStep; rw [if_pos (hx hlt), h]
    have hp := cutTo_prefix 32 l (k + 1)
    rw [e] at hp
    exact List.mem_append_left _ (hp.subset (by simp))
  · have : k = l.length := by omega
    subst this
    rw [List.take_length] at h
    rw [h]; simp

def SplitPost (l : List UInt8) (w : World) (e : Ending) (w' : World) : Prop := Below w.heap.size w w' ∧
  if splitOk l = true then ∃ v, e = .returned (.tuple #[v, .bool true]) ∧ w'.ownsRow w.heap.size 9 1 v (cutAt 32 l).length ((cutAt 32 l).map S)
  else e = .returned (.tuple #[.slice none 0 0, .bool false])

set_option maxRecDepth 100000 in
set_option maxHeartbeats 800000 in
theorem split_any (l : List UInt8) (w : World) (hl : l.length ≤ 1048576) :
    Calls Tryz.prog 65 #[.string ⟨l.toArray⟩] w fun e w' => SplitPost l w e w' := by
  obtain ⟨i0, hi, hz0, hz1, hz2⟩ := info_parts Tryz.info9
  go_enter Tryz.func65, Tryz.ntmps65
  go_wp2
  go_loopg [4, 5, 6] (l.length + 2) (fun q v t i wr => ∃ k s : Nat, i = .int .i64 k ∧ t = .int .i64 s ∧ 1 ≤ q ∧ Below w.heap.size w wr ∧
     ((k ≤ l.length ∧ k + q = l.length + 2 ∧ s + (cutTo 32 (l.take k)).2.length = k ∧ wr.ownsRow w.heap.size 9 1 v (cutTo 32 (l.take k)).1.length ((cutTo 32 (l.take k)).1.map S) ∧ (∀ x ∈ (cutTo 32 (l.take k)).1, x ≠ [])) ∨
      (k = l.length + 1 ∧ splitOk l = true ∧ wr.ownsRow w.heap.size 9 1 v (cutAt 32 l).length ((cutAt 32 l).map S))))
  case atStart => exact ⟨0, 0, rfl, rfl, by omega, Below.refl _ _, Or.inl ⟨by omega, by omega, rfl, World.ownsRow_nil _ _ _ _, by intro x hx; simp [cutTo] at hx⟩⟩
  case round =>
    obtain ⟨k, s, rfl, rfl, hq, hb, hrel⟩ := hrel
    have hbs := hb.size
    rcases hrel with ⟨hk, hkq, hs, hown, hne⟩ | ⟨hk, hok, hown⟩
    · have hsz := cutTo_size 32 (l.take k)
      rw [List.length_take] at hsz
      have HP := hide (cut_piece 32 l k s hk hs)
      have hsk : s ≤ k := by omega
      have HS := hide hs; clear hs
      have HN := hide hne; clear hne
      have hdk : decide ((k : Int) ≤ (l.length : Int)) = true := by simp; omega
      by_cases hcont : ∃ h : k < l.length, l[k] ≠ 32
      · obtain ⟨hlt, hc⟩ := hcont
        have hdl : decide ((k : Int) < (l.length : Int)) = true := by simp; omega
        have hcb : ((l[k].toNat : Int) != 32) = true := by
          rw [bne_iff_ne]; intro e; exact hc (by apply UInt8.toNat_inj.1; show _ = 32; omega)
        go_wp2_with fail
        go_roundg (gk - 1)
        case measure => omega
        case rel =>
          have e : cutTo 32 (l.take (k + 1)) = ((cutTo 32 (l.take k)).1, (cutTo 32 (l.take k)).2 ++ [l[k]]) := by
            rw [cutTo_take 32 l k hlt]; unfold cutStep; rw [if_neg hc]
          refine ⟨k + 1, s, by go_num, rfl, by omega, hb, Or.inl ⟨by omega, by omega, ?_, ?_, ?_⟩⟩
          · rw [e]; simp; have := unhide HS; omega
          · rw [e]; exact hown
          · rw [e]; exact unhide HN
      · have hend : ∀ h : k < l.length, l[k] = 32 := fun h => Classical.byContradiction fun hc => hcont ⟨h, hc⟩
        have HX := hide hend
        clear hcont
        by_cases hse : s = k
        · have hsb : ((k : Int) == (s : Int)) = true := by rw [beq_iff_eq]; omega
          have hbad := split_bad l k hk (by have := unhide HS; exact List.eq_nil_of_length_eq_zero (by omega)) hend
          have HB := hide hbad; clear hbad
          have HSE := hide hse; clear hse
          by_cases hlt : k < l.length
          · have hdl : decide ((k : Int) < (l.length : Int)) = true := by simp; omega
            have hcb : ((l[k].toNat : Int) != 32) = false := by rw [hend hlt]; rfl
            clear hend
            go_wp2_with fail
            go_ret2
            exact ⟨hb, by rw [unhide HB, if_neg (by decide)]; rfl⟩
          · have hdl : decide ((k : Int) < (l.length : Int)) = false := by simp; omega
            clear hend
            go_wp2_with fail
            go_ret2
            exact ⟨hb, by rw [unhide HB, if_neg (by decide)]; rfl⟩
        · have hsb : ((k : Int) == (s : Int)) = false := by rw [beq_eq_false_iff_ne]; omega
          have HNE : Hid ((cutTo 32 (l.take k)).2 ≠ []) := hide (fun e => by have := unhide HS; rw [e] at this; simp at this; omega)
          by_cases hlt : k < l.length
          · have hdl : decide ((k : Int) < (l.length : Int)) = true := by simp; omega
            have hcb : ((l[k].toNat : Int) != 32) = false := by rw [hend hlt]; rfl
            clear hend
            go_wp2_with (first | (at_builtin; refine wpList_append_new rfl _ _ 100 rfl w.heap.size i0 (.string ⟨#[]⟩) 1 16 Tryz.underlying100 hi hz0 hz1 hz2 rfl (by decide) _ _ _ hown rfl rfl rfl (by simp [Value.oneCell']) (by unfold maxLen; omega) (by omega) hbs ?_; intro v' w1 hown' hgrow hnn) | go_in)
            go_roundg (gk - 1)
            case measure => omega
            case rel =>
              have e : cutTo 32 (l.take (k + 1)) = ((cutTo 32 (l.take k)).1 ++ [(cutTo 32 (l.take k)).2], []) := by
                rw [cutTo_take 32 l k hlt]; unfold cutStep; rw [if_pos (unhide HX hlt)]
              refine ⟨k + 1, k + 1, by go_num, by go_num, by omega, below_grown hb hgrow hown (Nat.le_refl _) hbs, Or.inl ⟨by omega, by omega, ?_, ?_, ?_⟩⟩
              · rw [e]; rfl
              · rw [ba_extract, unhide HP] at hown'
                rw [e]; simpa using hown'
              · rw [e]; intro x hx
                simp at hx
                rcases hx with hx | hx
                · exact unhide HN x hx
                · rw [hx]; exact unhide HNE
          · have hdl : decide ((k : Int) < (l.length : Int)) = false := by simp; omega
            clear hend
            go_wp2_with (first | (at_builtin; refine wpList_append_new rfl _ _ 100 rfl w.heap.size i0 (.string ⟨#[]⟩) 1 16 Tryz.underlying100 hi hz0 hz1 hz2 rfl (by decide) _ _ _ hown rfl rfl rfl (by simp [Value.oneCell']) (by unfold maxLen; omega) (by omega) hbs ?_; intro v' w1 hown' hgrow hnn) | go_in)
            go_roundg (gk - 1)
            case measure => omega
            case rel =>
              have HT : Hid (l.take k = l) := hide (by rw [show k = l.length from by omega]; exact List.take_length)
              have hn2 := unhide HN
              have hn3 := unhide HNE
              rw [ba_extract, unhide HP] at hown'
              rw [unhide HT] at hown' hn2 hn3
              refine ⟨k + 1, k + 1, by go_num, by go_num, by omega, below_grown hb hgrow hown (Nat.le_refl _) hbs, Or.inr ⟨by omega, ?_, by simpa [cutAt] using hown'⟩⟩
              unfold splitOk cutAt
              rw [Bool.not_eq_true', List.any_eq_false]
              intro x hx
              simp at hx
              rcases hx with hx | hx
              · have := hn2 x hx; simpa using this
              · rw [hx]; simpa using hn3
    · have hdk : decide ((k : Int) ≤ (l.length : Int)) = false := by simp; omega
      have HOK := hide hok; clear hok
      have hk1 : l.length < k := by omega
      have hk2 : k ≤ l.length + 1 := by omega
      clear hk
      go_wp2_with fail
      go_ret2
      exact ⟨hb, by rw [unhide HOK, if_pos rfl]; exact ⟨_, rfl, hown⟩⟩
end Go.Proofs.YtgipjjhkhfihpaaGreatDoor
