import Derived.Test.YtgipjjhkhfihpaaGreatDoorDL
import Derived.Test.YtgipjjhkhfihpaaGreatDoorDG
import Derived.Test.YtgipjjhkhfihpaaGreatDoorDI
import Derived.Test.YtgipjjhkhfihpaaGreatDoorDC
import Derived.Deep.QuietTactic
import Derived.BigQuiet
namespace Go.Proofs.YtgipjjhkhfihpaaGreatDoor
open Go.RowKit

/-! ### A game, block by block -/
structure GS where
  turn : Nat
  vals : Nat × Nat
abbrev BL := List (List Nat × Bool)
def setW (vals : Nat × Nat) (v : Nat) (b : Bool) : Nat × Nat := withLit vals (litI v b)
def ansBlock (rs : List RuleP) (vs : List Nat) (vals : Nat × Nat) : Nat × Nat := vs.foldl (fun vals v => setW vals v (wantedW rs vals v)) vals
def ansGo (rs : List RuleP) (bl : BL) : Nat → GS → GS
  | 0, g => g
  | m + 1, g => if (bl.getD g.turn ([], false)).2 = true then ansGo rs bl m ⟨g.turn + 1, ansBlock rs (bl.getD g.turn ([], false)).1 g.vals⟩ else g
def ansW (rs : List RuleP) (bl : BL) (g : GS) : GS := ansGo rs bl (bl.length - g.turn) g
def moveBlk : List Nat → Nat → Nat → Nat × Nat → Nat × Nat
  | [], _, _, vals => vals
  | v :: vs, bits, i, vals => moveBlk vs bits (i + 1) (setW vals v (bits.testBit i))
def moveW (rs : List RuleP) (bl : BL) (g : GS) (bits : Nat) : GS := ansW rs bl ⟨g.turn + 1, moveBlk (bl.getD g.turn ([], false)).1 bits 0 g.vals⟩
def uniQ (q : QS) (v : Nat) : Bool := match findV q.vars v with
  | some x => x.2
  | none => false
def winsW (q : QS) (kind : Nat) (vs : List Nat) : Bool := match vs with
  | [] => false
  | v :: _ => uniQ q v == (kind == 1)
def blW (q : QS) (kind : Nat) : BL := (progBlocks q.vars).map (fun b => (b, winsW q kind b))
def openW (q : QS) (kind : Nat) (ss : List Stp) : GS := ansW (rulesW kind ss) (blW q kind) ⟨0, (0, 0)⟩

/-! ### Blocks and places -/
def offs (bs : List (List Nat)) (t : Nat) : Nat := (bs.take t).flatten.length
theorem offs_succ (bs : List (List Nat)) (t : Nat) (h : t < bs.length) : offs bs (t + 1) = offs bs t + bs[t].length := by
  unfold offs; rw [List.take_succ_eq_append_getElem h, List.flatten_append]; simp
theorem flat_at (bs : List (List Nat)) (t i : Nat) (h : t < bs.length) (hi : i < bs[t].length) : bs.flatten.getD (offs bs t + i) 0 = bs[t][i] := by
  unfold offs
  have e : bs.flatten = (bs.take t).flatten ++ (bs[t] ++ (bs.drop (t + 1)).flatten) := by
    conv => lhs; rw [← List.take_append_drop t bs, List.drop_eq_getElem_cons h]
    rw [List.flatten_append, List.flatten_cons]
  rw [e, List.getD, List.getElem?_append_right (by omega), show (bs.take t).flatten.length + i - (bs.take t).flatten.length = i from by omega, List.getElem?_append_left hi, List.getElem?_eq_getElem hi]
  rfl
theorem offs_all (bs : List (List Nat)) : offs bs bs.length = bs.flatten.length := by unfold offs; rw [List.take_length]
theorem offs_le (bs : List (List Nat)) (t : Nat) : offs bs t ≤ bs.flatten.length := by
  unfold offs
  conv => rhs; rw [← List.take_append_drop t bs, List.flatten_append]
  simp
theorem gather_flat (vs : List (Nat × Bool)) : ∀ k, k ≤ vs.length → (gather vs k).1.flatten ++ (gather vs k).2 = (vs.map (·.1)).take k := by
  intro k
  induction k with
  | zero => intro _; simp [gather]
  | succ k ih =>
    intro hk
    have h := ih (by omega)
    have hv : (vs.map (·.1)).take (k + 1) = (vs.map (·.1)).take k ++ [(vs.getD k (0, false)).1] := by
      rw [List.take_succ_eq_append_getElem (by simp; omega)]
      simp [List.getD, show k < vs.length by omega]
    rw [gather, hv, ← h]
    split
    · simp [List.flatten_append]
    · simp [List.append_assoc]
theorem progBlocks_flat (vs : List (Nat × Bool)) : (progBlocks vs).flatten = vs.map (·.1) := by
  have h := gather_flat vs vs.length (Nat.le_refl _)
  rw [show (vs.map (·.1)).take vs.length = vs.map (·.1) from List.take_of_length_le (by simp)] at h
  unfold progBlocks
  split
  · rw [List.flatten_append, ← h]; simp
  · next h0 =>
    have : (gather vs vs.length).2 = [] := List.eq_nil_of_length_eq_zero (by omega)
    rw [← h, this, List.append_nil]
/-- Blocks are not empty, and of one kind. -/
def OneKind (vs : List (Nat × Bool)) (b : List Nat) (u : Bool) : Prop := ∀ v ∈ b, ∃ x ∈ vs, x.1 = v ∧ x.2 = u
theorem gather_kind (vs : List (Nat × Bool)) : ∀ k, k ≤ vs.length → (∀ b ∈ (gather vs k).1, b ≠ [] ∧ ∃ u, OneKind vs b u) ∧ (0 < k → (gather vs k).2 ≠ [] ∧ OneKind vs (gather vs k).2 (kindAt vs (k - 1))) := by
  intro k
  induction k with
  | zero => intro _; exact ⟨fun b hb => by simp [gather] at hb, fun h => by omega⟩
  | succ k ih =>
    intro hk
    obtain ⟨h1, h2⟩ := ih (by omega)
    have hx : vs.getD k (0, false) ∈ vs := by rw [List.getD, List.getElem?_eq_getElem (by omega : k < vs.length)]; exact List.getElem_mem _
    rw [gather]
    split
    · next hn =>
      have hk0 : 0 < k := by unfold newAt at hn; simp at hn; exact hn.1
      refine ⟨fun b hb => ?_, fun _ => ⟨by simp, fun v hv => ?_⟩⟩
      · rcases List.mem_append.1 hb with hb | hb
        · exact h1 b hb
        · simp at hb; subst hb; exact ⟨(h2 hk0).1, _, (h2 hk0).2⟩
      · simp at hv; subst hv
        exact ⟨_, hx, rfl, by simp [kindAt]⟩
    · next hn =>
      refine ⟨h1, fun _ => ⟨by simp, fun v hv => ?_⟩⟩
      rcases List.mem_append.1 hv with hv | hv
      · by_cases hk0 : 0 < k
        · have he : kindAt vs k = kindAt vs (k - 1) := by
            unfold newAt at hn
            simp only [Bool.and_eq_true, decide_eq_true_eq, bne_iff_ne, ne_eq, not_and, Decidable.not_not] at hn
            exact hn hk0
          obtain ⟨x, x1, x2, x3⟩ := (h2 hk0).2 v hv
          exact ⟨x, x1, x2, by rw [Nat.add_sub_cancel, he]; exact x3⟩
        · have : k = 0 := by omega
          subst this
          simp [gather] at hv
      · simp at hv; subst hv
        exact ⟨_, hx, rfl, by simp [kindAt]⟩
theorem progBlocks_kind (vs : List (Nat × Bool)) : ∀ b ∈ progBlocks vs, b ≠ [] ∧ ∃ u, OneKind vs b u := by
  obtain ⟨h1, h2⟩ := gather_kind vs vs.length (Nat.le_refl _)
  intro b hb
  unfold progBlocks at hb
  split at hb
  · next h0 =>
    rcases List.mem_append.1 hb with hb | hb
    · exact h1 b hb
    · simp at hb; subst hb
      have hl : 0 < vs.length := by
        by_cases e : 0 < vs.length
        · exact e
        · have : vs.length = 0 := by omega
          rw [this] at h0; simp [gather] at h0
      exact ⟨(h2 hl).1, _, (h2 hl).2⟩
  · exact h1 b hb
theorem find_uni {q : QS} (hq : QGood q) {x : Nat × Bool} (hx : x ∈ q.vars) : uniQ q x.1 = x.2 := by
  unfold uniQ
  have h := hq.nodup
  revert h hx
  unfold findV
  induction q.vars with
  | nil => intro hx; simp at hx
  | cons y ys ih =>
    intro hx hn
    rw [List.map_cons, List.nodup_cons] at hn
    rw [List.find?_cons]
    by_cases e : y.1 = x.1
    · have : y = x := by
        rcases List.mem_cons.1 hx with e2 | hx
        · exact e2.symm
        · exact absurd (by rw [e]; exact List.mem_map_of_mem hx) hn.1
      subst this
      simp
    · have hx' : x ∈ ys := by
        rcases List.mem_cons.1 hx with e2 | hx
        · exact absurd (by rw [e2]) e
        · exact hx
      have e3 : (y.1 == x.1) = false := by simpa using e
      rw [e3]
      exact ih hx' hn.2
/-- Of a block's variables each is of the side that its flag says. -/
theorem wins_all {q : QS} (hq : QGood q) {kind : Nat} (hk : kind = 1 ∨ kind = 2) {b : List Nat} (hb : b ∈ progBlocks q.vars) {x : Nat × Bool} (hx : x ∈ q.vars) (hxb : x.1 ∈ b) : pivotB kind x.2 = !winsW q kind b := by
  obtain ⟨h0, u, hu⟩ := progBlocks_kind q.vars b hb
  have hsame : ∀ y ∈ q.vars, y.1 ∈ b → y.2 = u := fun y hy hyb => by
    obtain ⟨z, z1, z2, z3⟩ := hu _ hyb
    rw [← z3, ← find_uni hq hy, ← find_uni hq z1, z2]
  match b, h0 with
  | v :: r, _ =>
    obtain ⟨z, z1, z2, z3⟩ := hu v (by simp)
    show pivotB kind x.2 = !(uniQ q v == (kind == 1))
    rw [← z2, find_uni hq z1, z3, hsame x hx hxb]
    unfold pivotB
    rcases hk with rfl | rfl <;> cases u <;> rfl

/-! ### What a game's values are -/
/-- The game has come behind the blocks ahead of its turn, by these answers (the last one first). -/
structure Run (q : QS) (kind : Nat) (rs : List RuleP) (g : GS) (bs : List Bool) : Prop where
  turn : g.turn ≤ (progBlocks q.vars).length
  len : bs.length = offs (progBlocks q.vars) g.turn
  vals : g.vals = valsTo (q.vars.map (·.1)) bs
  keeps : Keeps q kind rs bs
theorem names_at {q : QS} (t i : Nat) (h : t < (progBlocks q.vars).length) (hi : i < (progBlocks q.vars)[t].length) : (q.vars.map (·.1)).getD (offs (progBlocks q.vars) t + i) 0 = (progBlocks q.vars)[t][i] := by
  rw [← progBlocks_flat]; exact flat_at _ t i h hi
theorem offs_lt {q : QS} (t i : Nat) (h : t < (progBlocks q.vars).length) (hi : i < (progBlocks q.vars)[t].length) : offs (progBlocks q.vars) t + i < q.vars.length := by
  have h1 := offs_succ (progBlocks q.vars) t h
  have h2 := offs_le (progBlocks q.vars) (t + 1)
  rw [progBlocks_flat, List.length_map] at h2
  omega
theorem var_at {q : QS} (k : Nat) (hk : k < q.vars.length) : q.vars.getD k (0, false) = q.vars[k] := by simp [List.getD, hk]
theorem name_at {q : QS} (k : Nat) (hk : k < q.vars.length) : (q.vars.map (·.1)).getD k 0 = q.vars[k].1 := by simp [List.getD, hk]
/-- Part of a block. -/
structure Part (q : QS) (kind : Nat) (rs : List RuleP) (t i : Nat) (vals : Nat × Nat) (bs : List Bool) : Prop where
  len : bs.length = offs (progBlocks q.vars) t + i
  vals : vals = valsTo (q.vars.map (·.1)) bs
  keeps : Keeps q kind rs bs
theorem Part.next {q : QS} (hq : QGood q) {kind : Nat} (hk : kind = 1 ∨ kind = 2) {rs : List RuleP} {t i : Nat} {vals : Nat × Nat} {bs : List Bool} (h : Part q kind rs t i vals bs) (ht : t < (progBlocks q.vars).length) (hi : i < (progBlocks q.vars)[t].length)
    (b : Bool) (hb : winsW q kind (progBlocks q.vars)[t] = true → b = wantedW rs vals (progBlocks q.vars)[t][i]) : Part q kind rs t (i + 1) (setW vals (progBlocks q.vars)[t][i] b) (b :: bs) := by
  have hlt := offs_lt t i ht hi
  have hn := names_at t i ht hi
  refine ⟨by simp [h.len]; omega, ?_, h.keeps, ?_⟩
  · show withLit vals (litI (progBlocks q.vars)[t][i] b) = withLit _ (litI ((q.vars.map (·.1)).getD bs.length 0) b)
    rw [h.len, hn, h.vals]
  · intro hp
    rw [h.len, var_at _ hlt] at hp ⊢
    have hx : (q.vars[offs (progBlocks q.vars) t + i]'hlt).1 = (progBlocks q.vars)[t][i] := by rw [← name_at _ hlt]; exact hn
    rw [hx, ← h.vals]
    refine hb ?_
    have hw := wins_all hq hk (List.getElem_mem ht) (List.getElem_mem hlt) (by rw [hx]; exact List.getElem_mem hi)
    rw [hp] at hw
    simpa using hw.symm
theorem Part.done {q : QS} {kind : Nat} {rs : List RuleP} {t : Nat} {vals : Nat × Nat} {bs : List Bool} (ht : t < (progBlocks q.vars).length) (h : Part q kind rs t (progBlocks q.vars)[t].length vals bs) : Run q kind rs ⟨t + 1, vals⟩ bs :=
  ⟨ht, by rw [offs_succ _ _ ht]; exact h.len, h.vals, h.keeps⟩
theorem Run.part {q : QS} {kind : Nat} {rs : List RuleP} {g : GS} {bs : List Bool} (h : Run q kind rs g bs) : Part q kind rs g.turn 0 g.vals bs := ⟨h.len, h.vals, h.keeps⟩
theorem ans_part {q : QS} (hq : QGood q) {kind : Nat} (hk : kind = 1 ∨ kind = 2) {rs : List RuleP} {t : Nat} (ht : t < (progBlocks q.vars).length) : ∀ (m i : Nat) (vals : Nat × Nat) (bs : List Bool), i + m = (progBlocks q.vars)[t].length → Part q kind rs t i vals bs →
    ∃ b2, Part q kind rs t (progBlocks q.vars)[t].length (ansBlock rs ((progBlocks q.vars)[t].drop i) vals) (b2 ++ bs) := by
  intro m
  induction m with
  | zero =>
    intro i vals bs h hp
    have : i = (progBlocks q.vars)[t].length := by omega
    subst this
    rw [List.drop_length]
    exact ⟨[], hp⟩
  | succ m ih =>
    intro i vals bs h hp
    have hi : i < (progBlocks q.vars)[t].length := by omega
    rw [List.drop_eq_getElem_cons hi]
    obtain ⟨b2, h2⟩ := ih (i + 1) _ _ (by omega) (hp.next hq hk ht hi (wantedW rs vals (progBlocks q.vars)[t][i]) (fun _ => rfl))
    exact ⟨b2 ++ [_], by rw [List.append_assoc]; exact h2⟩
theorem move_part {q : QS} (hq : QGood q) {kind : Nat} (hk : kind = 1 ∨ kind = 2) {rs : List RuleP} {t : Nat} (ht : t < (progBlocks q.vars).length) (hw : winsW q kind (progBlocks q.vars)[t] = false) (bits : Nat) : ∀ (m i : Nat) (vals : Nat × Nat) (bs : List Bool), i + m = (progBlocks q.vars)[t].length → Part q kind rs t i vals bs →
    ∃ b2, Part q kind rs t (progBlocks q.vars)[t].length (moveBlk ((progBlocks q.vars)[t].drop i) bits i vals) (b2 ++ bs) ∧ b2.length = m ∧ ∀ j, j < m → b2.reverse.getD j false = bits.testBit (i + j) := by
  intro m
  induction m with
  | zero =>
    intro i vals bs h hp
    have : i = (progBlocks q.vars)[t].length := by omega
    subst this
    rw [List.drop_length]
    exact ⟨[], hp, rfl, fun j hj => by omega⟩
  | succ m ih =>
    intro i vals bs h hp
    have hi : i < (progBlocks q.vars)[t].length := by omega
    rw [List.drop_eq_getElem_cons hi]
    obtain ⟨b2, h2, h3, h4⟩ := ih (i + 1) _ _ (by omega) (hp.next hq hk ht hi (bits.testBit i) (fun e => by rw [hw] at e; cases e))
    refine ⟨b2 ++ [bits.testBit i], by rw [List.append_assoc]; exact h2, by simp [h3], fun j hj => ?_⟩
    rw [List.reverse_append]
    cases j with
    | zero => rfl
    | succ j =>
      have := h4 j (by omega)
      simp only [List.reverse_cons, List.reverse_nil, List.nil_append, List.cons_append, List.getD_cons_succ]
      rw [this]; congr 1; omega
theorem blW_length (q : QS) (kind : Nat) : (blW q kind).length = (progBlocks q.vars).length := by unfold blW; simp
theorem blW_at (q : QS) (kind t : Nat) (h : t < (progBlocks q.vars).length) : (blW q kind).getD t ([], false) = ((progBlocks q.vars)[t], winsW q kind (progBlocks q.vars)[t]) := by
  unfold blW; simp [List.getD, h]
/-- The answers end at the losing side's next block. -/
structure Stands (q : QS) (kind : Nat) (g : GS) : Prop where
  le : g.turn ≤ (progBlocks q.vars).length
  lose : ∀ h : g.turn < (progBlocks q.vars).length, winsW q kind (progBlocks q.vars)[g.turn] = false
theorem ans_run {q : QS} (hq : QGood q) {kind : Nat} (hk : kind = 1 ∨ kind = 2) {rs : List RuleP} : ∀ (m : Nat) (g : GS) (bs : List Bool), g.turn + m = (progBlocks q.vars).length → Run q kind rs g bs →
    ∃ b2, Run q kind rs (ansGo rs (blW q kind) m g) (b2 ++ bs) ∧ Stands q kind (ansGo rs (blW q kind) m g) ∧ g.turn ≤ (ansGo rs (blW q kind) m g).turn ∧ ∀ j (hj : j < (progBlocks q.vars).length), g.turn ≤ j → j < (ansGo rs (blW q kind) m g).turn → winsW q kind (progBlocks q.vars)[j] = true := by
  intro m
  induction m with
  | zero =>
    intro g bs h hr
    exact ⟨[], hr, ⟨hr.turn, fun h' => absurd h' (by show ¬ g.turn < _; omega)⟩, Nat.le_refl _, fun j hj h1 h2 => by simp only [ansGo] at h2; omega⟩
  | succ m ih =>
    intro g bs h hr
    have ht : g.turn < (progBlocks q.vars).length := by omega
    rw [ansGo, blW_at q kind _ ht]
    dsimp only
    by_cases hw : winsW q kind (progBlocks q.vars)[g.turn] = true
    · rw [if_pos hw]
      obtain ⟨b1, h1⟩ := ans_part hq hk ht (progBlocks q.vars)[g.turn].length 0 g.vals bs (by omega) hr.part
      rw [List.drop_zero] at h1
      obtain ⟨b2, h2, h3, h4, h5⟩ := ih ⟨g.turn + 1, _⟩ _ (by show g.turn + 1 + m = _; omega) (h1.done ht)
      refine ⟨b2 ++ b1, by rw [List.append_assoc]; exact h2, h3, by have : g.turn + 1 ≤ _ := h4; omega, fun j hj g1 g2 => ?_⟩
      by_cases e : j = g.turn
      · subst e; exact hw
      · exact h5 j hj (by show g.turn + 1 ≤ j; omega) g2
    · rw [if_neg hw]
      exact ⟨[], hr, ⟨hr.turn, fun _ => by simpa using hw⟩, Nat.le_refl _, fun j hj h1 h2 => by omega⟩
theorem run_zero (q : QS) (kind : Nat) (rs : List RuleP) : Run q kind rs ⟨0, (0, 0)⟩ [] := ⟨Nat.zero_le _, rfl, rfl, trivial⟩
end Go.Proofs.YtgipjjhkhfihpaaGreatDoor

namespace Go.Proofs.YtgipjjhkhfihpaaGreatDoor
open Go.RowKit

theorem minus_lt (a b : Nat × Nat) (h : a.1 < 512 ∧ a.2 < 512) : (minus a b).1 < 512 ∧ (minus a b).2 < 512 := ⟨less_lt9 _ _ h.1, less_lt9 _ _ h.2⟩
set_option maxRecDepth 100000 in
set_option maxHeartbeats 800000 in
theorem lwithout_any (p n p2 n2 : Nat) (w : World) (hp : p < 512) (hn : n < 512) (hp2 : p2 < 512) (hn2 : n2 < 512) :
    Calls Tryz.prog 75 #[SetV (p, n), SetV (p2, n2)] w fun e w' => e = .returned (SetV (minus (p, n) (p2, n2))) ∧ Below w.heap.size w w' := by
  have h1 : bits .andNot .i64 (p : Int) (p2 : Int) = ((less p p2 : Nat) : Int) := i64_andNot _ _ (by omega) (by omega)
  have h2 : bits .andNot .i64 (n : Int) (n2 : Int) = ((less n n2 : Nat) : Int) := i64_andNot _ _ (by omega) (by omega)
  go_enter Tryz.func75, Tryz.ntmps75
  go_wp2_with fail
  refine bodyPost_ret (v := SetV (minus (p, n) (p2, n2))) (by simp [results, Tryz.results75, go_sem, minus]) rfl ⟨rfl, ?_⟩
  exact ((((Below.refl _ _).alloc (Nat.le_refl _) _).alloc (by simp) _)).alloc (by simp; omega) _

set_option maxRecDepth 100000 in
set_option maxHeartbeats 800000 in
theorem turned_any (p n : Nat) (w : World) :
    Calls Tryz.prog 76 #[SetV (p, n)] w fun e w' => e = .returned (SetV (swapL (p, n))) ∧ Below w.heap.size w w' := by
  go_enter Tryz.func76, Tryz.ntmps76
  go_wp2_with fail
  refine bodyPost_ret (v := SetV (swapL (p, n))) (by simp [results, Tryz.results76, go_sem, swapL]) rfl ⟨rfl, ?_⟩
  exact ((Below.refl _ _).alloc (Nat.le_refl _) _).alloc (by simp) _

/-! ### The list of literals -/
def intsI (l : List Int) : List Value := l.map (fun x => .int .i64 x)
theorem listFrom_len (c : Nat × Nat) : ∀ k v, (listFrom c k v).length ≤ 2 * k := by
  intro k
  induction k with
  | zero => intro v; simp [listFrom]
  | succ k ih =>
    intro v
    rw [listFrom]
    have := ih (v + 1)
    simp only [List.length_append]
    split <;> split <;> simp <;> omega
/-- The literals of the variables ahead of v. -/
def listTo (c : Nat × Nat) : Nat → List Int
  | 0 => []
  | k + 1 => listTo c k ++ ((if hasLit c ((k + 1 : Nat) : Int) then [((k + 1 : Nat) : Int)] else []) ++ (if hasLit c (-((k + 1 : Nat) : Int)) then [-((k + 1 : Nat) : Int)] else []))
theorem listTo_from (c : Nat × Nat) : ∀ m k, listTo c k ++ listFrom c m (k + 1) = listTo c (k + m) := by
  intro m
  induction m with
  | zero => intro k; simp [listFrom]
  | succ m ih =>
    intro k
    rw [listFrom, show k + (m + 1) = (k + 1) + m from by omega, ← ih (k + 1), listTo]
    simp only [List.append_assoc]
theorem listTo_all (c : Nat × Nat) : listTo c 8 = listOf c := by
  have := listTo_from c 8 0
  simpa [listTo, listOf] using this.symm
theorem listTo_len (c : Nat × Nat) (k : Nat) : (listTo c k).length ≤ 2 * k := by
  induction k with
  | zero => simp [listTo]
  | succ k ih =>
    rw [listTo]
    simp only [List.length_append]
    split <;> split <;> simp <;> omega
theorem wrap_neg_small' (v : Nat) (h : v ≤ 8) : IntKind.i64.wrap (-(v : Int)) = -(v : Int) := by
  have : ∀ v : Fin 9, IntKind.i64.wrap (-(v.val : Int)) = -(v.val : Int) := by decide
  exact this ⟨v, by omega⟩
def ListPost (c : Nat × Nat) (w : World) (e : Ending) (w' : World) : Prop := ∃ v, e = .returned v ∧ w'.ownsRow w.heap.size 3 1 v (listOf c).length (intsI (listOf c)) ∧ Below w.heap.size w w'

set_option maxRecDepth 100000 in
set_option maxHeartbeats 1600000 in
theorem list_any (p n : Nat) (w : World) (hp : p < 512) (hn : n < 512) :
    Calls Tryz.prog 122 #[SetV (p, n)] w fun e w' => ListPost (p, n) w e w' := by
  obtain ⟨i3, hi3, hz30, hz31, hz32⟩ := info_parts Tryz.info3
  go_enter Tryz.func122, Tryz.ntmps122
  go_wp2_with fail
  go_loopg [3, 4] 8 (fun m vl iv wx => ∃ (k : Nat), iv = .int .i64 ((k : Int) + 1) ∧ k + m = 8 ∧ wx.ownsRow (w.heap.size + 1) 3 1 vl (listTo (p, n) k).length (intsI (listTo (p, n) k)) ∧ Below w.heap.size w wx ∧ wx.heap[w.heap.size]? = some (.cells #[.int .i64 (p : Int), .int .i64 (n : Int)] 74 (0, 0)))
  case atStart => exact ⟨0, rfl, by omega, World.ownsRow_nil _ _ _ _, (Below.refl _ _).alloc (Nat.le_refl _) _, heap_alloc_new _ _⟩
  case round =>
    obtain ⟨k, rfl, hk, hown, hb, hset⟩ := hrel
    have HLN := hide (listTo_len (p, n) k)
    have hln := listTo_len (p, n) k
    have hbs := blk_lt hset
    obtain ⟨aL, cL, rfl⟩ := own_form hown
    have c0 : wr.cell? ⟨w.heap.size, 0, none⟩ = some (.int .i64 (p : Int)) := by rw [blk_cell hset]; rfl
    have c1 : wr.cell? ⟨w.heap.size, 1, none⟩ = some (.int .i64 (n : Int)) := by rw [blk_cell hset]; rfl
    by_cases hlt : k < 8
    · have hd : decide ((k : Int) + 1 ≤ 8) = true := by simp; omega
      have hwn : IntKind.i64.wrap (-((k : Int) + 1)) = -((k : Int) + 1) := wrap_neg_small' (k + 1) (by omega)
      have HT : Hid (listTo (p, n) (k + 1) = listTo (p, n) k ++ ((if hasLit (p, n) ((k : Int) + 1) then [(k : Int) + 1] else []) ++ (if hasLit (p, n) (-((k : Int) + 1)) then [-((k : Int) + 1)] else []))) := hide rfl
      generalize listTo (p, n) k = l at *
      go_wp2_with fail
      refine (has_any p n ((k : Int) + 1) wr hp hn (by omega) (by omega)).mono ?_
      rintro e w1 ⟨rfl, hb1⟩
      have hset1 := (hb1.block _ hbs).trans hset
      have hB1 : Below w.heap.size w w1 := hb.trans (hb1.mono hb.size)
      have hown1 := own_below hown hb1
      have d0 : w1.cell? ⟨w.heap.size, 0, none⟩ = some (.int .i64 (p : Int)) := by rw [blk_cell hset1]; rfl
      have d1 : w1.cell? ⟨w.heap.size, 1, none⟩ = some (.int .i64 (n : Int)) := by rw [blk_cell hset1]; rfl
      have hbs1 := blk_lt hset1
      cases h1 : hasLit (p, n) ((k : Int) + 1) with
      | false =>
        go_wp2_with fail
        refine (has_any p n (-((k : Int) + 1)) w1 hp hn (by omega) (by omega)).mono ?_
        rintro e w3 ⟨rfl, hb3⟩
        have hset3 := (hb3.block _ (blk_lt hset1)).trans hset1
        have hB3 : Below w.heap.size w w3 := hB1.trans (hb3.mono hB1.size)
        have hown3 := own_below hown1 hb3
        have hbs3 := blk_lt hset3
        cases h2 : hasLit (p, n) (-((k : Int) + 1)) with
        | false =>
          have HL : Hid (listTo (p, n) (k + 1) = l) := hide (by rw [unhide HT, h1, h2]; simp)
          go_wp2_with fail
          go_roundg (gk - 1)
          case measure => omega
          case rel => exact ⟨k + 1, by go_num, by omega, by rw [unhide HL]; simpa [intsI] using hown3, hB3, hset3⟩
        | true =>
          have HL : Hid (listTo (p, n) (k + 1) = l ++ [-((k : Int) + 1)]) := hide (by rw [unhide HT, h1, h2]; simp)
          go_wp2_with (at_builtin; refine wpList_append_new rfl _ _ 25 rfl (w.heap.size + 1) i3 (.int .i64 0) 1 8 Tryz.underlying25 hi3 hz30 hz31 hz32 rfl (by decide) _ _ _ hown3 rfl rfl rfl (by simp [Value.oneCell']) (by unfold maxLen; omega) (by omega) hbs3 ?_; intro v4 w4 hown4 hgrow4 hnn4)
          have hB4 : Below w.heap.size w w4 := below_grown hB3 hgrow4 hown3 (Nat.le_succ _) hB3.size
          have hset4 : w4.heap[w.heap.size]? = some (.cells #[.int .i64 (p : Int), .int .i64 (n : Int)] 74 (0, 0)) := (hgrow4.block _ hbs3 (fun e => by have := (hown3.lt _ e.symm).1; omega)).trans hset3
          obtain ⟨a4, c4, rfl⟩ := own_form hown4
          go_wp2_with fail
          go_roundg (gk - 1)
          case measure => omega
          case rel => exact ⟨k + 1, by go_num, by omega, by rw [unhide HL]; simpa [intsI] using hown4, hB4, hset4⟩
      | true =>
        go_wp2_with (at_builtin; refine wpList_append_new rfl _ _ 25 rfl (w.heap.size + 1) i3 (.int .i64 0) 1 8 Tryz.underlying25 hi3 hz30 hz31 hz32 rfl (by decide) _ _ _ hown1 rfl rfl rfl (by simp [Value.oneCell']) (by unfold maxLen; omega) (by omega) hbs1 ?_; intro v2 w2 hown2 hgrow2 hnn2; have hB2 : Below w.heap.size w w2 := below_grown hB1 hgrow2 hown1 (Nat.le_succ _) hB1.size; have hset2 : w2.heap[w.heap.size]? = some (.cells #[.int .i64 (p : Int), .int .i64 (n : Int)] 74 (0, 0)) := (hgrow2.block _ hbs1 (fun e => by have := (hown1.lt _ e.symm).1; omega)).trans hset1; obtain ⟨a2, c2, rfl⟩ := own_form hown2; have hbs2 := blk_lt hset2; have f0 : w2.cell? ⟨w.heap.size, 0, none⟩ = some (.int .i64 (p : Int)) := (by rw [blk_cell hset2]; rfl); have f1 : w2.cell? ⟨w.heap.size, 1, none⟩ = some (.int .i64 (n : Int)) := (by rw [blk_cell hset2]; rfl))
        refine (has_any p n (-((k : Int) + 1)) w2 hp hn (by omega) (by omega)).mono ?_
        rintro e w3 ⟨rfl, hb3⟩
        have hset3 := (hb3.block _ (blk_lt hset2)).trans hset2
        have hB3 : Below w.heap.size w w3 := hB2.trans (hb3.mono hB2.size)
        have hown3 := own_below hown2 hb3
        have hbs3 := blk_lt hset3
        cases h2 : hasLit (p, n) (-((k : Int) + 1)) with
        | false =>
          have HL : Hid (listTo (p, n) (k + 1) = (l ++ [(k : Int) + 1])) := hide (by rw [unhide HT, h1, h2]; simp)
          go_wp2_with fail
          go_roundg (gk - 1)
          case measure => omega
          case rel => exact ⟨k + 1, by go_num, by omega, by rw [unhide HL]; simpa [intsI] using hown3, hB3, hset3⟩
        | true =>
          have HL : Hid (listTo (p, n) (k + 1) = (l ++ [(k : Int) + 1]) ++ [-((k : Int) + 1)]) := hide (by rw [unhide HT, h1, h2]; simp)
          go_wp2_with (at_builtin; refine wpList_append_new rfl _ _ 25 rfl (w.heap.size + 1) i3 (.int .i64 0) 1 8 Tryz.underlying25 hi3 hz30 hz31 hz32 rfl (by decide) _ _ _ hown3 rfl rfl rfl (by simp [Value.oneCell']) (by unfold maxLen; omega) (by omega) hbs3 ?_; intro v4 w4 hown4 hgrow4 hnn4)
          have hB4 : Below w.heap.size w w4 := below_grown hB3 hgrow4 hown3 (Nat.le_succ _) hB3.size
          have hset4 : w4.heap[w.heap.size]? = some (.cells #[.int .i64 (p : Int), .int .i64 (n : Int)] 74 (0, 0)) := (hgrow4.block _ hbs3 (fun e => by have := (hown3.lt _ e.symm).1; omega)).trans hset3
          obtain ⟨a4, c4, rfl⟩ := own_form hown4
          go_wp2_with fail
          go_roundg (gk - 1)
          case measure => omega
          case rel => exact ⟨k + 1, by go_num, by omega, by rw [unhide HL]; simpa [intsI] using hown4, hB4, hset4⟩
    · have hk8 : k = 8 := by omega
      subst hk8
      have HA := hide (listTo_all (p, n))
      go_wp2_with fail
      go_ret
      exact ⟨_, rfl, by rw [← unhide HA]; exact own_lo hown (Nat.le_succ _), hb⟩
end Go.Proofs.YtgipjjhkhfihpaaGreatDoor

namespace Go.Proofs.YtgipjjhkhfihpaaGreatDoor
open Go.RowKit

theorem Tryz.infoInts : (Tryz.prog.info? 25).map (fun i => (i.zero, i.size, i.bytes)) = some (some (.slice none 0 0), 1, 24) := by kernel_rfl

/-- Lists of numbers, each in a row of its own; their headers in a row. -/
structure RowsAt (base : Nat) (w : World) (bs : List (List Nat)) (hdrs : List Value) : Prop where
  len : hdrs.length = bs.length
  row : ∀ j (hj : j < bs.length), w.ownsRow base 3 1 (hdrs[j]'(by omega)) bs[j].length (ints bs[j]) ∧ bs[j] ≠ []
  apart : ∀ i j (hi : i < hdrs.length) (hj : j < hdrs.length), i ≠ j → apart hdrs[i] hdrs[j]
structure BInv (base : Nat) (w : World) (bs : List (List Nat)) (cur : List Nat) (hdrs : List Value) (vB vb : Value) : Prop where
  rows : RowsAt base w bs hdrs
  oB : w.ownsRow base 25 1 vB bs.length hdrs
  ob : w.ownsRow base 3 1 vb cur.length (ints cur)
  ap : ∀ j (hj : j < hdrs.length), apart vb hdrs[j]

theorem RowsAt.later {base : Nat} {w w' : World} {bs : List (List Nat)} {hdrs : List Value} (h : RowsAt base w bs hdrs) (hb : Below w.heap.size w w') : RowsAt base w' bs hdrs :=
  ⟨h.len, fun j hj => ⟨own_below (h.row j hj).1 hb, (h.row j hj).2⟩, h.apart⟩
theorem BInv.later {base : Nat} {w w' : World} {bs : List (List Nat)} {cur : List Nat} {hdrs : List Value} {vB vb : Value} (h : BInv base w bs cur hdrs vB vb) (hb : Below w.heap.size w w') : BInv base w' bs cur hdrs vB vb :=
  ⟨h.rows.later hb, own_below h.oB hb, own_below h.ob hb, h.ap⟩

theorem BInv.push_block {base : Nat} {w w' : World} {bs : List (List Nat)} {cur : List Nat} {hdrs : List Value} {vB vb v' : Value} (h : BInv base w bs cur hdrs vB vb) (hc : cur ≠ []) (hg : w.grownBy w' vB.ownBlock)
    (hown : w'.ownsRow base 25 1 v' (bs.length + 1) (hdrs ++ [vb])) : BInv base w' (bs ++ [cur]) [] (hdrs ++ [vb]) v' (.slice none 0 0) := by
  have hl := h.rows.len
  have kb := own_kept h.ob (Below.refl _ _) h.oB hg (by decide)
  refine ⟨⟨by simp [hl], ?_, ?_⟩, by simpa using hown, World.ownsRow_nil _ _ _ _, fun _ _ => apart_nil _⟩
  · intro j hj
    by_cases hjl : j < bs.length
    · have := h.rows.row j hjl
      simp only [List.getElem_append_left hjl, List.getElem_append_left (show j < hdrs.length by omega)]
      exact ⟨own_kept this.1 (Below.refl _ _) h.oB hg (by decide), this.2⟩
    · have hje : j = bs.length := by simp at hj; omega
      subst hje
      simp only [List.getElem_concat_length]
      rw [show (hdrs ++ [vb])[bs.length]'(by simp; omega) = vb from by simp [← hl]]
      exact ⟨kb, hc⟩
  · intro i j hi hj hij
    by_cases hil : i < hdrs.length
    · by_cases hjl : j < hdrs.length
      · simp only [List.getElem_append_left hil, List.getElem_append_left hjl]
        exact h.rows.apart i j hil hjl hij
      · have hje : j = hdrs.length := by simp at hj; omega
        subst hje
        simp only [List.getElem_append_left hil, List.getElem_concat_length]
        exact (h.ap i hil).symm
    · have hie : i = hdrs.length := by simp at hi; omega
      subst hie
      have hjl : j < hdrs.length := by simp at hj; omega
      simp only [List.getElem_append_left hjl, List.getElem_concat_length]
      exact h.ap j hjl
theorem BInv.push_var {base : Nat} {w w' : World} {bs : List (List Nat)} {cur : List Nat} {hdrs : List Value} {vB vb v' : Value} {x : Nat} (h : BInv base w bs cur hdrs vB vb) (hg : w.grownBy w' vb.ownBlock)
    (hown : w'.ownsRow base 3 1 v' (cur.length + 1) (ints cur ++ [.int .i64 (x : Int)])) (hat : v'.ownBlock = vb.ownBlock ∨ ∃ k, v'.ownBlock = some k ∧ w.heap.size ≤ k) : BInv base w' bs (cur ++ [x]) hdrs vB v' := by
  refine ⟨⟨h.rows.len, fun j hj => ⟨?_, (h.rows.row j hj).2⟩, h.rows.apart⟩, own_kept h.oB (Below.refl _ _) h.ob hg (by decide), by simpa [ints] using hown, fun j hj => ?_⟩
  · have hl := h.rows.len
    exact (h.rows.row j hj).1.kept hg (h.ap j (by omega)).symm.keep
  · have hl := h.rows.len
    exact (h.ap j hj).grown (h.rows.row j (by omega)).1 hat

/-- A block of another kind is as it was behind an append. -/
theorem blk_kept {w w' : World} {v : Value} {base n size g : Nat} {e t : TypeId} {xs : List Value} {cs : Array Value} (hg : w.grownBy w' v.ownBlock) (ho : w.ownsRow base e size v n xs) (hb : w.heap[g]? = some (.cells cs t (0, 0))) (he : t ≠ e) : w'.heap[g]? = some (.cells cs t (0, 0)) := by
  rw [hg.block g (blk_lt hb) (fun eq => by
    rcases ho.2 with ⟨rfl, _⟩ | ⟨g', cap, cur', rfl, _, hh, _⟩
    · simp [Value.ownBlock] at eq
    · simp [Value.ownBlock] at eq
      subst eq
      rw [hb] at hh
      simp at hh
      exact he hh.2)]
  exact hb

theorem gather_len (vs : List (Nat × Bool)) (k : Nat) : (gather vs k).1.length ≤ k ∧ (gather vs k).2.length ≤ k := by
  induction k with
  | zero => simp [gather]
  | succ k ih =>
    rw [gather]
    split <;> simp <;> omega

def QBlocksPost (vs : List (Nat × Bool)) (w : World) (e : Ending) (w' : World) : Prop :=
  ∃ v hdrs, e = .returned v ∧ w'.ownsRow w.heap.size 25 1 v (progBlocks vs).length hdrs ∧ RowsAt w.heap.size w' (progBlocks vs) hdrs ∧ Below w.heap.size w w'

set_option maxRecDepth 100000 in
set_option maxHeartbeats 3200000 in
theorem qblocks_any (base b : Nat) (q : QS) (w : World) (aV : Option Addr) (cV : Nat) (hf : w.cell? ⟨b, 0, none⟩ = some (.slice aV q.vars.length cV)) (hb : b < w.heap.size) (hV : w.ownsRow base 139 2 (.slice aV q.vars.length cV) q.vars.length (varCells q.vars)) (hl : q.vars.length ≤ 1048576) :
    Calls Tryz.prog 49 #[.pointer (some ⟨b, 0, none⟩)] w fun e w' => QBlocksPost q.vars w e w' := by
  obtain ⟨i3, hi3, hz30, hz31, hz32⟩ := info_parts Tryz.info3
  obtain ⟨i5, hi5, hz50, hz51, hz52⟩ := info_parts Tryz.infoInts
  go_enter Tryz.func49, Tryz.ntmps49
  go_wp2_with fail
  go_loopg [3, 4, 12] (q.vars.length) (fun n vB vb i wx => ∃ (k : Nat) (hdrs : List Value), i = .int .i64 k ∧ k + n = q.vars.length ∧ BInv w.heap.size wx (gather q.vars k).1 (gather q.vars k).2 hdrs vB vb ∧ Below w.heap.size w wx)
  case atStart => exact ⟨0, [], rfl, by omega, ⟨⟨rfl, fun j hj => by simp [gather] at hj, fun i j hi => by simp at hi⟩, World.ownsRow_nil _ _ _ _, World.ownsRow_nil _ _ _ _, fun j hj => by simp at hj⟩, Below.refl _ _⟩
  case round =>
    obtain ⟨k, hdrs, rfl, hk, hB, hbx⟩ := hrel
    have hbs := hbx.size
    obtain ⟨gl1, gl2⟩ := gather_len q.vars k
    by_cases hlt : k < q.vars.length
    · obtain ⟨g, cap, hVe, hg, hg', _, hcell⟩ := own_pos hV (by omega)
      injection hVe with hVe _ hV2
      subst hVe hV2
      have hgw : g < wr.heap.size := by omega
      have hbw : b < wr.heap.size := by omega
      obtain ⟨ha, hb'⟩ := varCells_at q.vars k hlt
      have hx0 : wr.cell? ⟨g, k * 2, none⟩ = some (.int .i64 (q.vars[k].1 : Int)) := by rw [hbx.cell (p := ⟨g, k * 2, none⟩) hg']; exact hcell _ _ ha
      have hx1 : wr.cell? ⟨g, k * 2 + 1, none⟩ = some (.bool q.vars[k].2) := by rw [hbx.cell (p := ⟨g, k * 2 + 1, none⟩) hg']; exact hcell _ _ hb'
      have hf1 : wr.cell? ⟨b, 0, none⟩ = some (.slice (some ⟨g, 0, none⟩) q.vars.length cV) := by rw [hbx.cell (p := ⟨b, 0, none⟩) hb]; exact hf
      have hdk : decide ((k : Int) < (q.vars.length : Int)) = true := by simp; omega
      have HG : Hid (gather q.vars (k + 1) = if newAt q.vars k then ((gather q.vars k).1 ++ [(gather q.vars k).2], [q.vars[k].1]) else ((gather q.vars k).1, (gather q.vars k).2 ++ [q.vars[k].1])) := hide (by
        rw [gather]; simp [List.getD, hlt])
      by_cases h0 : 0 < k
      · obtain ⟨ha1, hb1⟩ := varCells_at q.vars (k - 1) (by omega)
        have hy1 : wr.cell? ⟨g, (k - 1) * 2 + 1, none⟩ = some (.bool q.vars[k - 1].2) := by rw [hbx.cell (p := ⟨g, (k - 1) * 2 + 1, none⟩) hg']; exact hcell _ _ hb1
        have hd0 : decide (0 < k) = true := by simpa using h0
        have HN : Hid (newAt q.vars k = (q.vars[k].2 != q.vars[k - 1].2)) := hide (by
          unfold newAt kindAt; simp [List.getD, hlt, show k - 1 < q.vars.length by omega, h0])
        have hcur : (gather q.vars k).2 ≠ [] := by
          intro e
          have := gather_pos q.vars (k - 1)
          rw [show k - 1 + 1 = k from by omega, e] at this
          simp at this
        clear hcell ha hb' ha1 hb1
        generalize gather q.vars k = G at *
        obtain ⟨bs, cur⟩ := G
        dsimp only at hB gl1 gl2 hcur
        generalize q.vars[k - 1] = y at *
        generalize q.vars[k] = x at *
        obtain ⟨x1, x2⟩ := x
        obtain ⟨y1, y2⟩ := y
        dsimp only at hx0 hx1 hy1
        have hbelA : ∀ nq, Below wr.heap.size wr ((wr.alloc (.cells #[.int .i64 (x1 : Int), .bool x2] 139)).drewN nq) := fun nq => below_drewN ((Below.refl _ _).alloc (Nat.le_refl _) _) nq
        have hcvA : ∀ nq, ((wr.alloc (.cells #[.int .i64 (x1 : Int), .bool x2] 139)).drewN nq).heap[wr.heap.size]? = some (.cells #[.int .i64 (x1 : Int), .bool x2] 139 (0, 0)) := fun nq => heap_alloc_new wr _
        have HBA := hide hbelA
        have HCA := hide hcvA
        clear hbelA hcvA
        cases hxy : (x2 != y2) with
        | false =>
          have HN2 : Hid (newAt q.vars k = false) := hide (by rw [unhide HN]; exact hxy)
          have HXY := hide hxy
          clear hxy
          cases x2 <;> cases y2 <;> first | (exfalso; exact absurd (unhide HXY) (by decide)) | skip
          all_goals
            go_wp2_with fail
            go_quiet (fail)
            have hb1 := unhide HBA nq
            have hc1 := unhide HCA nq
            generalize World.drewN _ nq = W at *
            have hBW := hB.later hb1
            have hbW : Below w.heap.size w W := hbx.trans (hb1.mono hbs)
            have hbWs := hbW.size
            have hcv : W.cell? ⟨wr.heap.size, 0, none⟩ = some (.int .i64 (x1 : Int)) := by rw [blk_cell hc1]; rfl
            go_wp2_with (at_builtin; refine wpList_append_at rfl (.tmp 37) (.tmp 40) 25 rfl w.heap.size i3 (.int .i64 0) 1 8 Tryz.underlying25 hi3 hz30 hz31 hz32 rfl (by decide) _ _ _ hBW.ob rfl rfl rfl (by simp [Value.oneCell']) (by unfold maxLen; omega) (by omega) hbWs ?_; intro v5 w5 hown5 hgrow5 hat5)
            go_roundg (gk - 1)
            case measure => omega
            case rel =>
              refine ⟨k + 1, hdrs, by go_num, by omega, ?_, below_grown hbW hgrow5 hBW.ob (Nat.le_refl _) hbWs⟩
              rw [unhide HG, unhide HN2, if_neg (by decide)]
              exact hBW.push_var hgrow5 hown5 hat5
        | true =>
          have HN2 : Hid (newAt q.vars k = true) := hide (by rw [unhide HN]; exact hxy)
          have HXY := hide hxy
          clear hxy
          have hcl : 0 < cur.length := List.length_pos_iff.2 hcur
          cases x2 <;> cases y2 <;> first | (exfalso; exact absurd (unhide HXY) (by decide)) | skip
          all_goals
            go_wp2_with fail
            go_quiet (fail)
            have hb1 := unhide HBA nq
            have hc1 := unhide HCA nq
            generalize World.drewN _ nq = W at *
            have hBW := hB.later hb1
            have hbW : Below w.heap.size w W := hbx.trans (hb1.mono hbs)
            have hbWs := hbW.size
            obtain ⟨gb, capb, rfl, _, _, _, _⟩ := own_pos hBW.ob hcl
            go_wp2_with (first | (at_builtin; refine wpList_append_at rfl (.tmp 33) (.tmp 35) 45 rfl w.heap.size i5 (.slice none 0 0) 1 24 Tryz.underlying45 hi5 hz50 hz51 hz52 rfl (by decide) _ _ _ hBW.oB rfl rfl rfl (by simp [Value.oneCell']) (by unfold maxLen; omega) (by omega) hbWs ?_; intro v4 w4 hown4 hgrow4 hat4; have hB4 := hBW.push_block hcur hgrow4 hown4; have hc4 := blk_kept hgrow4 hBW.oB hc1 (by decide); have hcv : w4.cell? ⟨wr.heap.size, 0, none⟩ = some (.int .i64 (x1 : Int)) := (by rw [blk_cell hc4]; rfl); have hb4 := below_grown hbW hgrow4 hBW.oB (Nat.le_refl _) hbWs; have hb4s := hb4.size) | (at_builtin; refine wpList_append_at rfl (.tmp 37) (.tmp 40) 25 rfl w.heap.size i3 (.int .i64 0) 1 8 Tryz.underlying25 hi3 hz30 hz31 hz32 rfl (by decide) _ _ _ hB4.ob rfl rfl rfl (by simp [Value.oneCell']) (by unfold maxLen; simp) (by simp) hb4s ?_; intro v5 w5 hown5 hgrow5 hat5))
            go_roundg (gk - 1)
            case measure => omega
            case rel =>
              refine ⟨k + 1, hdrs ++ [.slice (some ⟨gb, 0, none⟩) cur.length capb], by go_num, by omega, ?_, below_grown hb4 hgrow5 hB4.ob (Nat.le_refl _) hb4s⟩
              rw [unhide HG, unhide HN2, if_pos rfl]
              exact hB4.push_var hgrow5 hown5 hat5
      · have hd0 : decide (0 < k) = false := by simpa using h0
        have HN2 : Hid (newAt q.vars k = false) := hide (by unfold newAt; rw [hd0]; rfl)
        clear hcell ha hb' h0
        generalize gather q.vars k = G at *
        obtain ⟨bs, cur⟩ := G
        dsimp only at hB gl1 gl2
        generalize q.vars[k] = x at *
        obtain ⟨x1, x2⟩ := x
        dsimp only at hx0 hx1
        have HBA : Hid (∀ nq, Below wr.heap.size wr ((wr.alloc (.cells #[.int .i64 (x1 : Int), .bool x2] 139)).drewN nq)) := hide (fun nq => below_drewN ((Below.refl _ _).alloc (Nat.le_refl _) _) nq)
        have HCA : Hid (∀ nq, ((wr.alloc (.cells #[.int .i64 (x1 : Int), .bool x2] 139)).drewN nq).heap[wr.heap.size]? = some (.cells #[.int .i64 (x1 : Int), .bool x2] 139 (0, 0))) := hide (fun nq => heap_alloc_new wr _)
        go_wp2_with fail
        go_quiet (fail)
        have hb1 := unhide HBA nq
        have hc1 := unhide HCA nq
        generalize World.drewN _ nq = W at *
        have hBW := hB.later hb1
        have hbW : Below w.heap.size w W := hbx.trans (hb1.mono hbs)
        have hbWs := hbW.size
        have hcv : W.cell? ⟨wr.heap.size, 0, none⟩ = some (.int .i64 (x1 : Int)) := by rw [blk_cell hc1]; rfl
        go_wp2_with (at_builtin; refine wpList_append_at rfl (.tmp 37) (.tmp 40) 25 rfl w.heap.size i3 (.int .i64 0) 1 8 Tryz.underlying25 hi3 hz30 hz31 hz32 rfl (by decide) _ _ _ hBW.ob rfl rfl rfl (by simp [Value.oneCell']) (by unfold maxLen; omega) (by omega) hbWs ?_; intro v5 w5 hown5 hgrow5 hat5)
        go_roundg (gk - 1)
        case measure => omega
        case rel =>
          refine ⟨k + 1, hdrs, by go_num, by omega, ?_, below_grown hbW hgrow5 hBW.ob (Nat.le_refl _) hbWs⟩
          rw [unhide HG, unhide HN2, if_neg (by decide)]
          exact hBW.push_var hgrow5 hown5 hat5
    · have hkl : k = q.vars.length := by omega
      subst hkl
      have hdk : decide ((q.vars.length : Int) < (q.vars.length : Int)) = false := by simp
      obtain ⟨pb, hpb⟩ : ∃ pb, progBlocks q.vars = pb := ⟨_, rfl⟩
      have hpb2 := hpb
      unfold progBlocks at hpb2
      have HPB := hide hpb
      have HPB2 := hide hpb2
      clear hpb hpb2
      generalize gather q.vars q.vars.length = G at *
      obtain ⟨bs, cur⟩ := G
      dsimp only at hB gl1 gl2
      by_cases hc : 0 < cur.length
      · have hdc : decide (0 < cur.length) = true := by simpa using hc
        have HP : Hid (progBlocks q.vars = bs ++ [cur]) := hide (by rw [unhide HPB, ← unhide HPB2]; exact if_pos hc)
        obtain ⟨gb, capb, rfl, _, _, _, _⟩ := own_pos hB.ob hc
        have hcur : cur ≠ [] := List.length_pos_iff.1 hc
        go_wp2_with (at_builtin; refine wpList_append_at rfl (.tmp 46) (.tmp 48) 45 rfl w.heap.size i5 (.slice none 0 0) 1 24 Tryz.underlying45 hi5 hz50 hz51 hz52 rfl (by decide) _ _ _ hB.oB rfl rfl rfl (by simp [Value.oneCell']) (by unfold maxLen; omega) (by omega) hbs ?_; intro v4 w4 hown4 hgrow4 hat4)
        go_ret
        have hB4 := hB.push_block hcur hgrow4 hown4
        refine ⟨v4, hdrs ++ [.slice (some ⟨gb, 0, none⟩) cur.length capb], rfl, ?_, ?_, below_grown hbx hgrow4 hB.oB (Nat.le_refl _) hbs⟩
        · rw [unhide HP]; exact hB4.oB
        · rw [unhide HP]; exact hB4.rows
      · have hdc : decide (0 < cur.length) = false := by simpa using hc
        have HP : Hid (progBlocks q.vars = bs) := hide (by rw [unhide HPB, ← unhide HPB2]; exact if_neg hc)
        obtain ⟨ab, cb, rfl⟩ := own_form hB.ob
        go_wp2_with fail
        go_ret
        refine ⟨_, hdrs, rfl, ?_, ?_, hbx⟩
        · rw [unhide HP]; exact hB.oB
        · rw [unhide HP]; exact hB.rows
end Go.Proofs.YtgipjjhkhfihpaaGreatDoor

namespace Go.Proofs.YtgipjjhkhfihpaaGreatDoor
open Go.RowKit

/-! ### What a search holds in memory -/
/-- A row that may begin inside its block. -/
def RowAt (w : World) (e : TypeId) (size : Nat) (v : Value) (n : Nat) (xs : List Value) : Prop :=
  xs.length = n * size ∧ ((n = 0 ∧ ∃ a, v = .slice a 0 0 ∧ ∀ k, v.ownBlock = some k → ∃ c, w.heap[k]? = some (.cells c e (0, 0))) ∨
   ∃ g off cap cur, v = .slice (some ⟨g, off, none⟩) n cap ∧ w.heap[g]? = some (.cells cur e (0, 0)) ∧ n ≤ cap ∧ cap ≤ maxLen ∧ off + cap * size ≤ cur.size ∧ ∀ j u, xs[j]? = some u → cur[off + j]? = some u)
theorem RowAt.blk {w : World} {e : TypeId} {size : Nat} {v : Value} {n : Nat} {xs : List Value} (h : RowAt w e size v n xs) : ∀ k, v.ownBlock = some k → ∃ c, w.heap[k]? = some (.cells c e (0, 0)) := by
  rcases h.2 with ⟨_, a, _, h2⟩ | ⟨g, off, cap, cur, rfl, hg, _⟩
  · exact h2
  · intro k hk
    injection hk with hk
    subst hk
    exact ⟨cur, hg⟩
theorem RowAt.lt {w : World} {e : TypeId} {size : Nat} {v : Value} {n : Nat} {xs : List Value} (h : RowAt w e size v n xs) : ∀ k, v.ownBlock = some k → k < w.heap.size := fun k hk => by
  obtain ⟨c, hc⟩ := h.blk k hk
  exact blk_lt hc
theorem own_bk {w : World} {base : Nat} {e : TypeId} {size : Nat} {v : Value} {n : Nat} {xs : List Value} (h : w.ownsRow base e size v n xs) : ∀ k, v.ownBlock = some k → ∃ c, w.heap[k]? = some (.cells c e (0, 0)) := by
  rcases h.2 with ⟨rfl, _⟩ | ⟨g, cap, cur, rfl, _, hg, _⟩
  · intro k hk; cases hk
  · intro k hk
    injection hk with hk
    subst hk
    exact ⟨cur, hg⟩
theorem blk_type {w : World} {k : Nat} {c c' : Array Value} {e e' : TypeId} {f f' : Nat × Nat} (h : w.heap[k]? = some (.cells c e f)) (h' : w.heap[k]? = some (.cells c' e' f')) : e = e' := by
  rw [h] at h'
  injection h' with h'
  injection h' with _ h' _
theorem RowAt.form {w : World} {e : TypeId} {size : Nat} {v : Value} {n : Nat} {xs : List Value} (h : RowAt w e size v n xs) : ∃ a cap, v = .slice a n cap := by
  rcases h.2 with ⟨rfl, a, rfl, _⟩ | ⟨g, off, cap, cur, rfl, _⟩
  · exact ⟨_, _, rfl⟩
  · exact ⟨_, _, rfl⟩
theorem RowAt.cell {w : World} {e : TypeId} {size : Nat} {v : Value} {n : Nat} {xs : List Value} (h : RowAt w e size v n xs) (hn : 0 < n) : ∃ g off cap, v = .slice (some ⟨g, off, none⟩) n cap ∧ g < w.heap.size ∧ ∀ j u, xs[j]? = some u → w.cell? ⟨g, off + j, none⟩ = some u := by
  rcases h.2 with ⟨h0, _⟩ | ⟨g, off, cap, cur, rfl, hg, _, _, _, hc⟩
  · omega
  · exact ⟨g, off, cap, rfl, blk_lt hg, fun j u hj => by rw [blk_cell hg]; exact hc j u hj⟩
theorem RowAt.keep {T : Nat → Prop} {w w' : World} {e : TypeId} {size : Nat} {v : Value} {n : Nat} {xs : List Value} (h : RowAt w e size v n xs) (ho : Only T w w') (hT : ∀ k, v.ownBlock = some k → ¬ T k) : RowAt w' e size v n xs := by
  obtain ⟨h1, h2⟩ := h
  refine ⟨h1, ?_⟩
  rcases h2 with ⟨h0, a, ha, hl⟩ | ⟨g, off, cap, cur, rfl, hg, hr⟩
  · exact Or.inl ⟨h0, a, ha, fun k hk => by obtain ⟨c, hc⟩ := hl k hk; exact ⟨c, (ho.block k (blk_lt hc) (hT k hk)).trans hc⟩⟩
  · exact Or.inr ⟨g, off, cap, cur, rfl, (ho.block g (blk_lt hg) (hT g rfl)).trans hg, hr⟩
def factCells (l : List (Nat × Nat)) : List Value := pairs l
structure SV where
  v : Value
  c : Value
  r : Value
  a : Value
  k : Value
abbrev sCells (C : SC) (S : SS) (V : SV) : Array Value := #[V.v, V.c, .int .i64 (C.uni.1 : Int), .int .i64 (C.uni.2 : Int), .int .i64 (C.budget : Int), .int .i64 (S.nodes : Int), .int .i64 1, V.r, .int .i64 2, V.a, .int .i64 (C.room : Int), V.k, .int .i64 (S.most : Int)]
structure SAt (w : World) (b : Nat) (C : SC) (S : SS) (V : SV) : Prop where
  fb : w.heap[b]? = some (.cells (sCells C S V) 126 (0, 0))
  oV : w.ownsRow 0 139 2 V.v C.q.vars.length (varCells C.q.vars)
  oC : w.ownsRow 0 74 2 V.c C.q.cl.length (pairs C.q.cl)
  oR : w.ownsRow 0 134 6 V.r S.ref.length (psCells S.ref)
  oA : w.ownsRow 0 134 6 V.a S.aff.length (psCells S.aff)
  oK : RowAt w 129 2 V.k S.kept.length (pairs S.kept)
  ap : ∀ k, V.r.ownBlock = some k → V.a.ownBlock ≠ some k
/-- Bounds that the walks want. -/
structure SBd (C : SC) (S : SS) : Prop where
  qb : QB C.q
  uni : C.uni.1 < 512 ∧ C.uni.2 < 512
  ref : ∀ s ∈ S.ref, s.lits.1 < 512 ∧ s.lits.2 < 512
  aff : ∀ s ∈ S.aff, s.lits.1 < 512 ∧ s.lits.2 < 512
  rl : S.ref.length ≤ 100000
  al : S.aff.length ≤ 100000
  kept : S.kept.length ≤ 64
  kind : ∀ f ∈ S.kept, f.1 ≤ 2 ∧ f.2 ≤ 100000
  budget : C.budget ≤ 1048576
  room : C.room ≤ 64
  most : S.most ≤ 64
  nodes : S.nodes ≤ 1048576
/-- A block that is none of the search's. -/
def Far (b : Nat) (V : SV) (k : Nat) : Prop := k ≠ b ∧ V.v.ownBlock ≠ some k ∧ V.c.ownBlock ≠ some k ∧ V.r.ownBlock ≠ some k ∧ V.a.ownBlock ≠ some k ∧ V.k.ownBlock ≠ some k
/-- Blocks that the search may write. -/
def TS (b : Nat) (V : SV) (k : Nat) : Prop := k = b ∨ V.r.ownBlock = some k ∨ V.a.ownBlock = some k ∨ V.k.ownBlock = some k
theorem Far.ts {b : Nat} {V : SV} {k : Nat} (h : Far b V k) : ¬ TS b V k := by
  rintro (h1 | h1 | h1 | h1)
  · exact h.1 h1
  · exact h.2.2.2.1 h1
  · exact h.2.2.2.2.1 h1
  · exact h.2.2.2.2.2 h1
theorem SAt.fresh {w : World} {b : Nat} {C : SC} {S : SS} {V : SV} (h : SAt w b C S V) {n : Nat} (hn : w.heap.size ≤ n) : Far b V n := by
  refine ⟨fun e => ?_, fun e => ?_, fun e => ?_, fun e => ?_, fun e => ?_, fun e => ?_⟩
  · have := blk_lt h.fb; omega
  · have := (h.oV.lt n e).2; omega
  · have := (h.oC.lt n e).2; omega
  · have := (h.oR.lt n e).2; omega
  · have := (h.oA.lt n e).2; omega
  · have := h.oK.lt n e; omega
/-- A search that is where it was, or has moved on into new blocks. -/
structure SMoved (b : Nat) (w w' : World) (V V' : SV) : Prop where
  only : Only (TS b V) w w'
  v : V'.v = V.v
  c : V'.c = V.c
  r : Moved w V.r V'.r
  a : Moved w V.a V'.a
  k : Moved w V.k V'.k
theorem SMoved.of_below {b : Nat} {w w' : World} {V : SV} (h : Below w.heap.size w w') : SMoved b w w' V V := ⟨Only.of_below h, rfl, rfl, Or.inl rfl, Or.inl rfl, Or.inl rfl⟩
theorem Moved.ne {w : World} {v v' : Value} (h : Moved w v v') {k : Nat} (hk : k < w.heap.size) (hv : v.ownBlock ≠ some k) : v'.ownBlock ≠ some k := by
  rcases h with h | ⟨j, h, hj⟩
  · rw [h]; exact hv
  · rw [h]; intro e; injection e with e; omega
theorem Moved.trans {w w1 : World} {a b c : Value} (h : Moved w a b) (k : Moved w1 b c) (hs : w.heap.size ≤ w1.heap.size) : Moved w a c := by
  rcases k with k | ⟨j, k, hj⟩
  · rcases h with h | ⟨i, h, hi⟩
    · exact Or.inl (k.trans h)
    · exact Or.inr ⟨i, k.trans h, hi⟩
  · exact Or.inr ⟨j, k, by omega⟩
theorem SMoved.far {b : Nat} {w w' : World} {V V' : SV} (h : SMoved b w w' V V') {k : Nat} (hk : k < w.heap.size) (hf : Far b V k) : Far b V' k :=
  ⟨hf.1, by rw [h.v]; exact hf.2.1, by rw [h.c]; exact hf.2.2.1, h.r.ne hk hf.2.2.2.1, h.a.ne hk hf.2.2.2.2.1, h.k.ne hk hf.2.2.2.2.2⟩
theorem SMoved.blk {b : Nat} {w w' : World} {V V' : SV} (h : SMoved b w w' V V') {k : Nat} {o : Obj} (hb : w.heap[k]? = some o) (hf : Far b V k) : w'.heap[k]? = some o := (h.only.block k (blk_lt hb) hf.ts).trans hb
theorem SMoved.trans {b : Nat} {w w1 w2 : World} {V V1 V2 : SV} (h : SMoved b w w1 V V1) (k : SMoved b w1 w2 V1 V2) : SMoved b w w2 V V2 := by
  have hs := h.only.size
  refine ⟨⟨k.only.os.trans h.only.os, k.only.tape.trans h.only.tape, k.only.output.trans h.only.output, Nat.le_trans hs k.only.size, fun i hi ht => ?_⟩, k.v.trans h.v, k.c.trans h.c, h.r.trans k.r hs, h.a.trans k.a hs, h.k.trans k.k hs⟩
  refine (k.only.block i (by omega) ?_).trans (h.only.block i hi ht)
  rintro (h1 | h1 | h1 | h1)
  · exact ht (Or.inl h1)
  · exact h.r.ne hi (fun e => ht (Or.inr (Or.inl e))) h1
  · exact h.a.ne hi (fun e => ht (Or.inr (Or.inr (Or.inl e)))) h1
  · exact h.k.ne hi (fun e => ht (Or.inr (Or.inr (Or.inr e)))) h1
theorem SAt.later {w w' : World} {b : Nat} {C : SC} {S : SS} {V : SV} (h : SAt w b C S V) (hb : Below w.heap.size w w') : SAt w' b C S V :=
  ⟨(hb.block b (blk_lt h.fb)).trans h.fb, own_below h.oV hb, own_below h.oC hb, own_below h.oR hb, own_below h.oA hb, h.oK.keep (Only.of_below (T := fun _ => False) hb) (fun _ _ h => h), h.ap⟩
/-- A store into a block that is none of the search's. -/
theorem SAt.set {w : World} {b : Nat} {C : SC} {S : SS} {V : SV} (h : SAt w b C S V) {k : Nat} (hf : Far b V k) (o : Nat) (u : Value) : SAt (w.setCell ⟨k, o, none⟩ u) b C S V :=
  ⟨by rw [Below.heap_setCell _ _ _ _ (fun e => hf.1 e.symm)]; exact h.fb, own_set_ne h.oV hf.2.1 u, own_set_ne h.oC hf.2.2.1 u, own_set_ne h.oR hf.2.2.2.1 u, own_set_ne h.oA hf.2.2.2.2.1 u,
   h.oK.keep (T := fun j => j = k) ((Only.refl (fun j => j = k) w).setCell (p := ⟨k, o, none⟩) (Or.inl rfl) u) (fun j hj e => hf.2.2.2.2.2 (by rw [hj, e])), h.ap⟩
theorem SMoved.set {b : Nat} {w w' : World} {V V' : SV} (h : SMoved b w w' V V') {k : Nat} (hk : w.heap.size ≤ k) (o : Nat) (u : Value) : SMoved b w (w'.setCell ⟨k, o, none⟩ u) V V' :=
  ⟨h.only.setCell (p := ⟨k, o, none⟩) (Or.inr hk) u, h.v, h.c, h.r, h.a, h.k⟩
/-- What a call leaves of the search. -/
def SPost (b : Nat) (C : SC) (S' : SS) (V : SV) (w w' : World) : Prop := ∃ V', SAt w' b C S' V' ∧ SMoved b w w' V V'
end Go.Proofs.YtgipjjhkhfihpaaGreatDoor
