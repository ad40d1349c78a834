import Derived.Test.YtgipjjhkhfihpabGreatDoorAH
import Derived.ArgAppend
import Derived.Test.YtgipjjhkhfihpabGreatDoorAJ
import Derived.Deep.RegionLaw
import Derived.Deep.DeepCutAuto
import Derived.Test.YtgipjjhkhfihpabGreatDoorAC
namespace Go.Proofs.YtgipjjhkhfihpabGreatDoor
open Go.RowKit

/-! ### append onto a row that may begin inside its block -/
section
variable {P : Program}
theorem rowAt_of_own {w : World} {base : Nat} {e : TypeId} {size : Nat} {v : Value} {n : Nat} {xs : List Value} (h : w.ownsRow base e size v n xs) : RowAt w e size v n xs := by
  obtain ⟨h1, h2⟩ := h
  refine ⟨h1, ?_⟩
  rcases h2 with ⟨rfl, rfl⟩ | ⟨g, cap, cur, rfl, _, hg, hc, hm, hs, ht⟩
  · exact Or.inl ⟨rfl, none, rfl, fun k hk => by cases hk⟩
  · refine Or.inr ⟨g, 0, cap, cur, rfl, hg, hc, hm, by omega, fun j u hj => ?_⟩
    rw [← ht, List.getElem?_take] at hj
    split at hj
    · simpa using hj
    · cases hj
theorem run_append_row2 (w : World) (t ty e : TypeId) (i : TypeInfo) (z : Value) (bytes : Nat) (ht : P.underlying t = some (.slice e)) (hi : P.info? e = some i) (hz : i.zero = some z) (hsize : i.size = 2) (hby : i.bytes = bytes) (hzs : z.cells.size = 2)
    (v : Value) (n : Nat) (xs : List Value) (h : RowAt w e 2 v n xs) (a : Addr) (c : Nat) (x y : Value) (hx : w.cell? a = some x) (hy : w.cell? (a.add 1) = some y) (ox : x.oneCell' = true) (oy : y.oneCell' = true) (h63 : n + 1 ≤ 1048576) (hbytes : bytes ≤ 1024) :
    ∃ v' w', (Builtin.append_ #[t, t] ty #[v, .slice (some a) 1 c]).run P w = .ok v' w' ∧ RowAt w' e 2 v' (n + 1) (xs ++ [x, y]) ∧ Only (fun k => v.ownBlock = some k) w w' ∧ Moved w v v' := by
  have hl : [x, y].length = 1 * 2 := rfl
  have ha0 : a.add 0 = a := by unfold Addr.add; split <;> simp_all
  have hnews : ∀ j u, [x, y][j]? = some u → w.cell? (a.add j) = some u := by
    intro j u hj
    match j, hj with
    | 0, hj => simp at hj; subst hj; rw [ha0]; exact hx
    | 1, hj => simp at hj; subst hj; exact hy
    | j + 2, hj => simp at hj
  have hb1 : (n + 1) * bytes ≤ 140737488355328 := by
    have : (n + 1) * bytes ≤ 1048576 * 1024 := Nat.mul_le_mul h63 hbytes
    omega
  have hmax : n + 1 ≤ maxLen := by unfold maxLen; omega
  obtain ⟨hlen, hh⟩ := h
  have grow : ∀ (b : Addr) (cap : Nat), v = .slice (some b) n cap → cap < n + 1 → (∀ j u, xs[j]? = some u → w.cell? (b.add j) = some u) → ∃ v' w', (Builtin.append_ #[t, t] ty #[v, .slice (some a) 1 c]).run P w = .ok v' w' ∧ RowAt w' e 2 v' (n + 1) (xs ++ [x, y]) ∧ Only (fun k => v.ownBlock = some k) w w' ∧ Moved w v v' := by
    intro b cap hv hcap holds
    subst hv
    obtain ⟨v', w', h1, h2, h3⟩ := run_append_arg_grows (P := P) w t ty e i z 2 bytes ht hi hz hsize hby hzs (by decide) b n cap xs hlen holds a 1 c [x, y] hl hnews hcap hmax hb1
    refine ⟨v', w', h1, rowAt_of_own h2, ⟨h3.os, h3.tape, h3.output, h3.size, fun k hk _ => h3.block k hk (by simp)⟩, ?_⟩
    rcases h2.2 with ⟨_, h0⟩ | ⟨g, cap', cur, rfl, hg, _⟩
    · omega
    · exact Or.inr ⟨g, rfl, hg⟩
  rcases hh with ⟨hn0, a0, hv, hbk⟩ | ⟨g, off, cap, cur, hv, hg, hnc, hcm, hcs, hcells⟩
  · subst hn0
    have hxs : xs = [] := List.eq_nil_of_length_eq_zero (by simpa using hlen)
    cases a0 with
    | none =>
      subst hv hxs
      obtain ⟨v', w', h1, h2, h3, h4⟩ := run_append_at (P := P) w w.heap.size t ty e i z 2 bytes ht hi hz hsize hby hzs (by decide) (.slice none 0 0) 0 [] (World.ownsRow_nil _ _ _ _) a 1 c [x, y] hl hnews (by simp [ox, oy]) (by decide) hmax hb1 (Nat.le_refl _)
      refine ⟨v', w', h1, rowAt_of_own h2, ⟨h3.os, h3.tape, h3.output, h3.size, fun k hk _ => h3.block k hk (fun e => by cases e)⟩, h4⟩
    | some b => exact grow b 0 hv (by omega) (fun j u hj => by rw [hxs] at hj; simp at hj)
  · by_cases hroom : n + 1 ≤ cap
    · subst hv
      have hsz : off + n * 2 + 1 < cur.size := by omega
      have hr := run_append_room_cells (P := P) w t ty e i ht hi g off n cap a 1 c [x, y] (by rw [hsize]; rfl) hnews (by simp [ox, oy]) hroom (by
        intro j hj
        rw [hsize, blk_cell hg]
        have : off + n * 2 + j < cur.size := by simp at hj; omega
        simp [this]) (by intro j hj; exact blk_free hg _)
      rw [hsize] at hr
      have hset : w.setCells g (off + n * 2) [x, y] = (w.setCell ⟨g, off + n * 2, none⟩ x).setCell ⟨g, off + n * 2 + 1, none⟩ y := rfl
      rw [hset] at hr
      have hg2 := blk_set (blk_set hg (off + n * 2) x) (off + n * 2 + 1) y
      refine ⟨_, _, hr, ⟨by simp [hlen]; omega, Or.inr ⟨g, off, cap, _, rfl, hg2, hroom, hcm, by simpa using hcs, ?_⟩⟩, ((Only.refl (fun k => (Value.slice (some ⟨g, off, none⟩) n cap).ownBlock = some k) w).setCell (p := ⟨g, off + n * 2, none⟩) (Or.inl rfl) x).setCell (p := ⟨g, off + n * 2 + 1, none⟩) (Or.inl rfl) y, Or.inl rfl⟩
      intro j u hj
      rw [Array.getElem?_setIfInBounds, Array.getElem?_setIfInBounds]
      rcases Nat.lt_or_ge j (n * 2) with h1 | h1
      · rw [List.getElem?_append_left (by omega)] at hj
        rw [if_neg (by omega), if_neg (by omega)]
        exact hcells j u hj
      · rw [List.getElem?_append_right (by omega), hlen] at hj
        have : j - n * 2 = 0 ∨ j - n * 2 = 1 := by
          rcases Nat.lt_or_ge (j - n * 2) 2 with h2 | h2
          · omega
          · rw [List.getElem?_eq_none (by simpa using h2)] at hj; cases hj
        rcases this with h2 | h2
        · rw [h2] at hj
          simp at hj
          subst hj
          have e1 : j = n * 2 := by omega
          subst e1
          rw [if_neg (by omega), if_pos rfl, if_pos (by omega)]
        · rw [h2] at hj
          simp at hj
          subst hj
          have e1 : j = n * 2 + 1 := by omega
          subst e1
          rw [if_pos (by omega), if_pos (by simp; omega)]
    · exact grow ⟨g, off, none⟩ cap hv (by omega) (fun j u hj => by
        have hadd : (⟨g, off, none⟩ : Addr).add j = ⟨g, off + j, none⟩ := by unfold Addr.add; split <;> simp_all
        rw [hadd, blk_cell hg]; exact hcells j u hj)
theorem step_append_row2 {ops : Array Oper} {o : Oper} {a : Act} {w : World} {K : Act → World → Prop} {Q : Exit → Act → World → Prop} {E : Prop}
    (hg : o.guard = none) (s x : Operand) (t : TypeId) (hop : o.op = Op.call { callee := Callee.builtin Builtin.append, args := #[s, x], argTypes := #[t, t] })
    (e : TypeId) (i : TypeInfo) (z : Value) (bytes : Nat) (ht : P.underlying t = some (.slice e)) (hi : P.info? e = some i) (hz : i.zero = some z) (hsize : i.size = 2) (hby : i.bytes = bytes) (hzs : z.cells.size = 2)
    (v : Value) (n : Nat) (xs : List Value) (hrow : RowAt w e 2 v n xs) (hs : a.eval s = v) (ad : Addr) (c : Nat) (p q : Value) (hx : a.eval x = .slice (some ad) 1 c) (hp : w.cell? ad = some p) (hq : w.cell? (ad.add 1) = some q) (op : p.oneCell' = true) (oq : q.oneCell' = true) (h63 : n + 1 ≤ 1048576) (hbytes : bytes ≤ 1024)
    (hK : ∀ v' w', RowAt w' e 2 v' (n + 1) (xs ++ [p, q]) → Only (fun k => v.ownBlock = some k) w w' → Moved w v v' → K (a.put o.dst v') w') :
    if Region.wanted o (yielded ops a.tmps) = true then Oper.wp P o a w K Q else E := by
  have hw : Region.wanted o (yielded ops a.tmps) = true := by simp [Region.wanted, hg]
  rw [if_pos hw]
  obtain ⟨v', w', hr, h2, h3, h4⟩ := run_append_row2 (P := P) w t o.type e i z bytes ht hi hz hsize hby hzs v n xs hrow ad c p q hp hq op oq h63 hbytes
  unfold Oper.wp execOp
  simp only [hop, resolve, invoke, builtin, Sem.run_bind, Sem.run_pure, Result.andThen_ok, List.map_toArray, List.map_cons, List.map_nil, hs, hx, hr]
  exact hK v' w' h2 h3 h4
end
/-- What is left of a row without its first element. -/
theorem RowAt.tail {w : World} {e : TypeId} {g off cap m : Nat} {l : List (Nat × Nat)} (h : RowAt w e 2 (.slice (some ⟨g, off, none⟩) l.length cap) l.length (pairs l)) (hm : l.length = m + 1) (v : Value) (hv : (cap = 1 ∧ v = .slice (some ⟨g, off, none⟩) m 0) ∨ v = .slice (some ⟨g, off + 2, none⟩) m (cap - 1)) : RowAt w e 2 v (l.drop 1).length (pairs (l.drop 1)) := by
  have hlen : (l.drop 1).length = m := by simp; omega
  have hpl : (pairs (l.drop 1)).length = (l.drop 1).length * 2 := pairs_length _
  obtain ⟨h1, h2⟩ := h
  rcases h2 with ⟨h0, _⟩ | ⟨g', off', cap', cur, he, hg, hc, hcm, hcs, hcells⟩
  · omega
  injection he with he _ e3
  injection he with he
  injection he with e1 e2 _
  subst e1 e2 e3
  refine ⟨hpl, ?_⟩
  rw [hlen]
  rcases hv with ⟨hc1, rfl⟩ | rfl
  · left
    have hm0 : m = 0 := by omega
    subst hm0
    exact ⟨rfl, _, rfl, fun k hk => by injection hk with hk; subst hk; exact ⟨cur, hg⟩⟩
  · right
    refine ⟨g, off + 2, cap - 1, cur, rfl, hg, by omega, by omega, by omega, fun j u hj => ?_⟩
    have := hcells (j + 2) u (by
      cases l with
      | nil => simp at hm
      | cons x l => simp only [pairs, List.flatMap_cons] at hj ⊢; simpa using hj)
    rw [← this]; congr 1; omega
end Go.Proofs.YtgipjjhkhfihpabGreatDoor

namespace Go.Proofs.YtgipjjhkhfihpabGreatDoor
open Go.RowKit

theorem infoFact : (Tryz.prog.info? 85).map (fun i => (i.zero, i.size, i.bytes)) = some (some (.agg #[.int .i64 0, .int .i64 0]), 2, 16) := by kernel_rfl

/-- The kept row is another, in its cell. -/
theorem SAt.setKept {w : World} {b : Nat} {C : SC} {S : SS} {V : SV} (h : SAt w b C S V) {l : List (Nat × Nat)} {v : Value} (hr : RowAt (w.setCell ⟨b, 11, none⟩ v) 85 2 v l.length (pairs l)) : SAt (w.setCell ⟨b, 11, none⟩ v) b C { S with kept := l } { V with k := v } :=
  ⟨blk_set h.fb 11 v, own_set_ne h.oV (own_type_ne h.oV h.fb (by decide)) v, own_set_ne h.oC (own_type_ne h.oC h.fb (by decide)) v, own_set_ne h.oR (own_type_ne h.oR h.fb (by decide)) v, own_set_ne h.oA (own_type_ne h.oA h.fb (by decide)) v, hr, h.ap⟩
theorem SAt.setMost {w : World} {b : Nat} {C : SC} {S : SS} {V : SV} (h : SAt w b C S V) (n : Nat) : SAt (w.setCell ⟨b, 12, none⟩ (.int .i64 (n : Int))) b C { S with most := n } V :=
  ⟨blk_set h.fb 12 _, own_set_ne h.oV (own_type_ne h.oV h.fb (by decide)) _, own_set_ne h.oC (own_type_ne h.oC h.fb (by decide)) _, own_set_ne h.oR (own_type_ne h.oR h.fb (by decide)) _, own_set_ne h.oA (own_type_ne h.oA h.fb (by decide)) _,
   h.oK.keep (T := fun j => j = b) ((Only.refl (fun j => j = b) w).setCell (p := ⟨b, 12, none⟩) (Or.inl rfl) _) (fun j hj e => by subst e; obtain ⟨c, hc⟩ := h.oK.blk j hj; exact absurd (blk_type hc h.fb) (by decide)), h.ap⟩
theorem row_setB {w : World} {b : Nat} {C : SC} {S : SS} {V : SV} (h : SAt w b C S V) {v : Value} {n : Nat} {xs : List Value} (hr : RowAt w 85 2 v n xs) (o : Nat) (u : Value) : RowAt (w.setCell ⟨b, o, none⟩ u) 85 2 v n xs :=
  hr.keep (T := fun j => j = b) ((Only.refl (fun j => j = b) w).setCell (p := ⟨b, o, none⟩) (Or.inl rfl) _) (fun j hj e => by subst e; obtain ⟨c, hc⟩ := hr.blk j hj; exact absurd (blk_type hc h.fb) (by decide))
theorem SMoved.setB {b : Nat} {w w' : World} {V V' : SV} (h : SMoved b w w' V V') (o : Nat) (u : Value) : SMoved b w (w'.setCell ⟨b, o, none⟩ u) V V' :=
  ⟨h.only.setCell (p := ⟨b, o, none⟩) (Or.inl (Or.inl rfl)) u, h.v, h.c, h.r, h.a, h.k⟩

theorem SAt.grownK {ux wz w' : World} {b : Nat} {C : SC} {S : SS} {V : SV} {aX : Option Addr} {nX cX : Nat} (h : SAt ux b C S V) (hV : V.k = .slice aX nX cX) (hn : S.kept.length = nX) (hbz : Below ux.heap.size ux wz) {v' : Value} {f : Nat × Nat} (hrow : RowAt w' 85 2 v' (nX + 1) (pairs S.kept ++ [.int .i64 (f.1 : Int), .int .i64 (f.2 : Int)])) (ho : Only (fun k => (Value.slice aX nX cX).ownBlock = some k) wz w') (hm : Moved wz (.slice aX nX cX) v') :
    w'.heap[b]? = some (.cells (sCells C S V) 82 (0, 0)) ∧ SAt (w'.setCell ⟨b, 11, none⟩ v') b C { S with kept := S.kept ++ [f] } { V with k := v' } ∧ SMoved b ux (w'.setCell ⟨b, 11, none⟩ v') V { V with k := v' } := by
  rw [← hV] at ho hm
  subst hn
  have hz := h.later hbz
  have hne : ∀ {e : TypeId} {k : Nat}, e ≠ 85 → (∃ c, wz.heap[k]? = some (.cells c e (0, 0))) → ¬ V.k.ownBlock = some k := by
    rintro e k h5 ⟨c, hc⟩ e2
    obtain ⟨c', hc'⟩ := hz.oK.blk k e2
    exact h5 (blk_type hc hc')
  have hfb : w'.heap[b]? = some (.cells (sCells C S V) 82 (0, 0)) := (ho.block b (blk_lt hz.fb) (hne (by decide) ⟨_, hz.fb⟩)).trans hz.fb
  have oV := own_keep hz.oV ho (fun k hk => hne (by decide) (own_bk hz.oV k hk))
  have oC := own_keep hz.oC ho (fun k hk => hne (by decide) (own_bk hz.oC k hk))
  have oR := own_keep hz.oR ho (fun k hk => hne (by decide) (own_bk hz.oR k hk))
  have oA := own_keep hz.oA ho (fun k hk => hne (by decide) (own_bk hz.oA k hk))
  have hrow2 : RowAt w' 85 2 v' (S.kept ++ [f]).length (pairs (S.kept ++ [f])) := by rw [pairs_snoc]; simpa using hrow
  refine ⟨hfb, ⟨blk_set hfb 11 v', own_set_ne oV (own_type_ne oV hfb (by decide)) v', own_set_ne oC (own_type_ne oC hfb (by decide)) v', own_set_ne oR (own_type_ne oR hfb (by decide)) v', own_set_ne oA (own_type_ne oA hfb (by decide)) v', ?_, h.ap⟩, ?_⟩
  · exact hrow2.keep (T := fun j => j = b) ((Only.refl (fun j => j = b) w').setCell (p := ⟨b, 11, none⟩) (Or.inl rfl) _) (fun j hj e => by subst e; obtain ⟨c, hc⟩ := hrow2.blk j hj; exact absurd (blk_type hc hfb) (by decide))
  · have h9 : Only (TS b V) wz w' := ho.mono (fun k _ hk => Or.inr (Or.inr (Or.inr hk)))
    refine ⟨((Only.of_below hbz).trans h9).setCell (p := ⟨b, 11, none⟩) (Or.inl (Or.inl rfl)) v', rfl, rfl, Or.inl rfl, Or.inl rfl, ?_⟩
    rcases hm with hm | ⟨k, h1, h2⟩
    · exact Or.inl hm
    · exact Or.inr ⟨k, h1, Nat.le_trans hbz.size h2⟩
/-- The store behind what went. -/
def storeM' (S1 : SS) (f : Nat × Nat) : SS := if S1.most < S1.kept.length + 1 then { ({ S1 with kept := S1.kept ++ [f] } : SS) with most := S1.kept.length + 1 } else { S1 with kept := S1.kept ++ [f] }
theorem store_full (room : Nat) (S : SS) (f : Nat × Nat) (h0 : room ≠ 0) (hf : room ≤ S.kept.length) : S.store room f = storeM' { S with kept := S.kept.drop 1 } f := by
  unfold SS.store storeK storeM storeM' storeK
  simp only [h0, hf, if_true, if_false, List.length_append, List.length_cons, List.length_nil]
  split <;> rfl
theorem store_room (room : Nat) (S : SS) (f : Nat × Nat) (h0 : room ≠ 0) (hf : ¬ room ≤ S.kept.length) : S.store room f = storeM' S f := by
  unfold SS.store storeK storeM storeM' storeK
  simp only [h0, hf, if_false, List.length_append, List.length_cons, List.length_nil]
  split <;> rfl

set_option maxRecDepth 100000 in
set_option maxHeartbeats 3200000 in
theorem store_any (b : Nat) (C : SC) (S : SS) (V : SV) (f : Nat × Nat) (w : World) (hS : SAt w b C S V) (hB : SBd C S) :
    Calls Tryz.prog 99 #[.pointer (some ⟨b, 10, none⟩), FactV f] w fun e w' => e = .returned (.tuple #[]) ∧ SPost b C (S.store C.room f) V w w' := by
  obtain ⟨fk, fs⟩ := f
  obtain ⟨i1, hi1, hz10, hz11, hz12⟩ := info_parts infoFact
  have hbw := blk_lt hS.fb
  obtain ⟨aK, cK, hKf⟩ := hS.oK.form
  have c10 : w.cell? ⟨b, 10, none⟩ = some (.int .i64 (C.room : Int)) := by rw [blk_cell hS.fb]; rfl
  have c11 : w.cell? ⟨b, 11, none⟩ = some (.slice aK S.kept.length cK) := by rw [blk_cell hS.fb]; exact congrArg some hKf
  have c12 : w.cell? ⟨b, 12, none⟩ = some (.int .i64 (S.most : Int)) := by rw [blk_cell hS.fb]; rfl
  have z11 := blk_free hS.fb 11
  have z12 := blk_free hS.fb 12
  have hkl := hB.kept
  have hrm := hB.room
  by_cases hr : C.room = 0
  · have HF : Hid (S.store C.room (fk, fs) = S) := hide (by unfold SS.store storeK storeM; rw [if_pos hr, if_pos hr])
    have hd : decide ((C.room : Int) ≤ 0) = true := by simp; omega
    have hd2 : decide (C.room ≤ 0) = true := by simp; omega
    have hd0 : decide (C.room = 0) = true := by simp [hr]
    clear hr
    go_enter Tryz.func99, Tryz.ntmps99
    go_wp2_with fail
    refine bodyPost_ret (v := .tuple #[]) (by simp [results, Tryz.results99, go_sem]) rfl ⟨rfl, ?_⟩
    rw [unhide HF]
    have hb0 : Below w.heap.size w (w.alloc (.cells #[.int .i64 (fk : Int), .int .i64 (fs : Int)] 85)) := (Below.refl _ _).alloc (Nat.le_refl _) _
    exact ⟨V, hS.later hb0, SMoved.of_below hb0⟩
  · have hd : decide ((C.room : Int) ≤ 0) = false := by simp; omega
    have hd2 : decide (C.room ≤ 0) = false := by simp; omega
    have hd0 : decide (C.room = 0) = false := by simp [hr]
    by_cases hfull : C.room ≤ S.kept.length
    · have hd3 : decide ((C.room : Int) ≤ (S.kept.length : Int)) = true := by simp; omega
      have hd4 : decide (C.room ≤ S.kept.length) = true := by simp; omega
      have hpos : 0 < S.kept.length := by omega
      rcases hS.oK.2 with ⟨h0, _⟩ | ⟨g, off, cap, cur, hv, hg, hnc, hcm, hcs, hcells⟩
      · omega
      have hgw := blk_lt hg
      rw [hKf] at hv
      injection hv with e1 e2 e3
      subst e1 e3
      obtain ⟨m, hm⟩ : ∃ m, S.kept.length = m + 1 := ⟨S.kept.length - 1, by omega⟩
      go_enter Tryz.func99, Tryz.ntmps99
      go_wp2_with fail
      have hb0 : Below w.heap.size w (w.alloc (.cells #[.int .i64 (fk : Int), .int .i64 (fs : Int)] 85)) := (Below.refl _ _).alloc (Nat.le_refl _) _
      have hfa := heap_alloc_new w (.cells #[.int .i64 (fk : Int), .int .i64 (fs : Int)] 85)
      generalize w.alloc (.cells #[.int .i64 (fk : Int), .int .i64 (fs : Int)] 85) = u1 at *
      have d10 : u1.cell? ⟨b, 10, none⟩ = some (.int .i64 (C.room : Int)) := by rw [hb0.cell (p := ⟨b, 10, none⟩) hbw]; exact c10
      have d11 : u1.cell? ⟨b, 11, none⟩ = some (.slice (some ⟨g, off, none⟩) S.kept.length cK) := by rw [hb0.cell (p := ⟨b, 11, none⟩) hbw]; exact c11
      have d12 : u1.cell? ⟨b, 12, none⟩ = some (.int .i64 (S.most : Int)) := by rw [hb0.cell (p := ⟨b, 12, none⟩) hbw]; exact c12
      have lb := Nat.lt_of_lt_of_le hbw hb0.size
      have lf := blk_lt hfa
      go_quiet (fail)
      have hb1 : Below w.heap.size w (u1.drewN nq) := below_drewN hb0 nq
      have hfa1 : (u1.drewN nq).heap[w.heap.size]? = some (.cells #[.int .i64 (fk : Int), .int .i64 (fs : Int)] 85 (0, 0)) := by rw [World.heap_drewN]; exact hfa
      generalize u1.drewN nq = u2 at *
      clear hb0 hfa d10 d11 d12 lb lf
      have hS2 := hS.later hb1
      have d10 : u2.cell? ⟨b, 10, none⟩ = some (.int .i64 (C.room : Int)) := by rw [hb1.cell (p := ⟨b, 10, none⟩) hbw]; exact c10
      have d11 : u2.cell? ⟨b, 11, none⟩ = some (.slice (some ⟨g, off, none⟩) S.kept.length cK) := by rw [hb1.cell (p := ⟨b, 11, none⟩) hbw]; exact c11
      have d12 : u2.cell? ⟨b, 12, none⟩ = some (.int .i64 (S.most : Int)) := by rw [hb1.cell (p := ⟨b, 12, none⟩) hbw]; exact c12
      have y11 := blk_free hS2.fb 11
      have y12 := blk_free hS2.fb 12
      have lb := Nat.lt_of_lt_of_le hbw hb1.size
      have lf := blk_lt hfa1
      have f0 : u2.cell? ⟨w.heap.size, 0, none⟩ = some (.int .i64 (fk : Int)) := by rw [blk_cell hfa1]; rfl
      have f1 : u2.cell? ⟨w.heap.size, 1, none⟩ = some (.int .i64 (fs : Int)) := by rw [blk_cell hfa1]; rfl
      have HST : Hid (S.store C.room (fk, fs) = storeM' { S with kept := S.kept.drop 1 } (fk, fs)) := hide (store_full _ _ _ hr hfull)
      have hrowk : RowAt u2 85 2 (.slice (some ⟨g, off, none⟩) S.kept.length cK) S.kept.length (pairs S.kept) := by rw [← hKf]; exact hS2.oK
      have hmx : SMoved b w u2 V V := SMoved.of_below hb1
      rw [hm] at d11
      by_cases hc1 : cK = 1
      · subst hc1
        go_wp2_with fail
        have hvt : RowAt u2 85 2 (.slice (some ⟨g, off, none⟩) m (0)) (S.kept.drop 1).length (pairs (S.kept.drop 1)) := hrowk.tail hm _ (Or.inl ⟨rfl, rfl⟩)
        have hnX : ({ S with kept := S.kept.drop 1 } : SS).kept.length = m := by simp; omega
        have hSx := hS2.setKept (row_setB hS2 hvt 11 (.slice (some ⟨g, off, none⟩) m (0)))
        have hMx : SMoved b w (u2.setCell ⟨b, 11, none⟩ (.slice (some ⟨g, off, none⟩) m (0))) V { V with k := .slice (some ⟨g, off, none⟩) m (0) } := ⟨hmx.only.setCell (p := ⟨b, 11, none⟩) (Or.inl (Or.inl rfl)) _, rfl, rfl, Or.inl rfl, Or.inl rfl, Or.inl (by rw [hKf]; rfl)⟩
        have hfx : (u2.setCell ⟨b, 11, none⟩ (.slice (some ⟨g, off, none⟩) m (0))).heap[w.heap.size]? = some (.cells #[.int .i64 (fk : Int), .int .i64 (fs : Int)] 85 (0, 0)) := by rw [Below.heap_setCell _ _ _ _ (by intro e; simp at e; omega)]; exact hfa1
        have hVX : ({ V with k := .slice (some ⟨g, off, none⟩) m (0) } : SV).k = .slice (some ⟨g, off, none⟩) m (0) := rfl
        generalize u2.setCell ⟨b, 11, none⟩ (.slice (some ⟨g, off, none⟩) m (0)) = ux at *
        clear hvt d10 d11 d12 y11 y12 f0 f1 hrowk hmx hS2 hfa1 hb1 lb lf
        have lbx := blk_lt hSx.fb
        have e10 : ux.cell? ⟨b, 10, none⟩ = some (.int .i64 (C.room : Int)) := by rw [blk_cell hSx.fb]; rfl
        have e11 : ux.cell? ⟨b, 11, none⟩ = some (.slice (some ⟨g, off, none⟩) (m) (0)) := by rw [blk_cell hSx.fb]; exact congrArg some hVX
        have e12 : ux.cell? ⟨b, 12, none⟩ = some (.int .i64 (S.most : Int)) := by rw [blk_cell hSx.fb]; rfl
        have y11 := blk_free hSx.fb 11
        have g0 : ux.cell? ⟨w.heap.size, 0, none⟩ = some (.int .i64 (fk : Int)) := by rw [blk_cell hfx]; rfl
        have g1 : ux.cell? ⟨w.heap.size, 1, none⟩ = some (.int .i64 (fs : Int)) := by rw [blk_cell hfx]; rfl
        have lfx := blk_lt hfx
        have hrowx : RowAt ux 85 2 (.slice (some ⟨g, off, none⟩) (m) (0)) (m) (pairs ({ S with kept := S.kept.drop 1 } : SS).kept) := by have h := hSx.oK; rw [hVX] at h; rw [hnX] at h; exact h
        have hbz : Below ux.heap.size ux ((ux.alloc (.cells #[.int .i64 (fk : Int), .int .i64 (fs : Int)] 85)).drew) := ((Below.refl _ ux).alloc (Nat.le_refl _) _).drew
        go_region_law (refine step_append_row2 rfl (.tmp 31) (.tmp 33) 78 rfl 85 i1 (.agg #[.int .i64 0, .int .i64 0]) 16 Tryz.underlying78 hi1 hz10 hz11 hz12 rfl (.slice (some ⟨g, off, none⟩) (m) (0)) (m) (pairs ({ S with kept := S.kept.drop 1 } : SS).kept) (hrowx.keep (Only.of_below (T := fun _ => False) hbz) (fun _ _ h => h)) rfl ⟨ux.heap.size, 0, none⟩ 1 (.int .i64 (fk : Int)) (.int .i64 (fs : Int)) rfl (new_cells ux [.int .i64 (fk : Int), .int .i64 (fs : Int)] 85 0 _ rfl) (new_cells ux [.int .i64 (fk : Int), .int .i64 (fs : Int)] 85 1 _ rfl) rfl rfl (by omega) (by omega) ?_; intro v' w' hrow' honly' hmv'; have hS4 := SAt.grownK (f := (fk, fs)) hSx hVX hnX hbz hrow' honly' hmv'; obtain ⟨a4, c4, hv4⟩ := hrow'.form; subst hv4; have j11 : w'.cell? ⟨b, 11, none⟩ = some (.slice (some ⟨g, off, none⟩) (m) (0)) := (by rw [blk_cell hS4.1]; exact congrArg some hVX); have j12 : w'.cell? ⟨b, 12, none⟩ = some (.int .i64 (S.most : Int)) := (by rw [blk_cell hS4.1]; rfl); have x11 := blk_free hS4.1 11; have x12 := blk_free hS4.1 12; have lb4 := blk_lt hS4.1)
        all_goals
          obtain ⟨hfb4, hS5, hM5⟩ := hS4
          have hM6 := hMx.trans hM5
          clear hM5 hmv' honly' hrow'
          have k11 : (w'.setCell ⟨b, 11, none⟩ (.slice a4 (m + 1) c4)).cell? ⟨b, 11, none⟩ = some (.slice a4 (m + 1) c4) := by rw [blk_cell (blk_set hfb4 11 _)]; rfl
          have k12 : (w'.setCell ⟨b, 11, none⟩ (.slice a4 (m + 1) c4)).cell? ⟨b, 12, none⟩ = some (.int .i64 (S.most : Int)) := by rw [blk_cell (blk_set hfb4 11 _)]; rfl
          have r11 := blk_free (blk_set hfb4 11 (.slice a4 (m + 1) c4)) 11
          have r12 := blk_free (blk_set hfb4 11 (.slice a4 (m + 1) c4)) 12
          have lb5 : b < (w'.setCell ⟨b, 11, none⟩ (.slice a4 (m + 1) c4)).heap.size := blk_lt (blk_set hfb4 11 _)
          go_wp2_with fail
          generalize w'.setCell ⟨b, 11, none⟩ (.slice a4 (m + 1) c4) = u5 at *
          go_quiet (fail)
          have hb6 : Below u5.heap.size u5 (u5.drewN nq) := below_drewN (Below.refl _ _) nq
          have hS6 := hS5.later hb6
          have hM7 := hM6.trans (SMoved.of_below hb6)
          have t11 : (u5.drewN nq).cell? ⟨b, 11, none⟩ = some (.slice a4 (m + 1) c4) := by rw [hb6.cell (p := ⟨b, 11, none⟩) lb5]; exact k11
          have t12 : (u5.drewN nq).cell? ⟨b, 12, none⟩ = some (.int .i64 (S.most : Int)) := by rw [hb6.cell (p := ⟨b, 12, none⟩) lb5]; exact k12
          have s12 := blk_free hS6.fb 12
          have lb7 := blk_lt hS6.fb
          generalize u5.drewN nq = u6 at *
          clear k11 k12 r11 r12 lb5 hb6 hM6 hS5
          by_cases hgt : S.most < m + 1
          · have hg1 : decide ((S.most : Int) < (m : Int) + 1) = true := by simp; omega
            have hg2 : decide (S.most < m + 1) = true := by simp; omega
            have HF : Hid (S.store C.room (fk, fs) = { ({ ({ S with kept := S.kept.drop 1 } : SS) with kept := ({ S with kept := S.kept.drop 1 } : SS).kept ++ [(fk, fs)] } : SS) with most := m + 1 }) := hide (by rw [unhide HST]; unfold storeM'; rw [if_pos (by rw [hnX]; exact hgt)]; rw [hnX])
            have hfin := hS6.setMost (m + 1)
            go_wp2_with fail
            go_end0
            refine ⟨rfl, ?_⟩
            rw [unhide HF]
            exact ⟨_, by simpa using hfin, hM7.setB 12 _⟩
          · have hg1 : decide ((S.most : Int) < (m : Int) + 1) = false := by simp; omega
            have hg2 : decide (S.most < m + 1) = false := by simp; omega
            have HF : Hid (S.store C.room (fk, fs) = { ({ S with kept := S.kept.drop 1 } : SS) with kept := ({ S with kept := S.kept.drop 1 } : SS).kept ++ [(fk, fs)] }) := hide (by rw [unhide HST]; unfold storeM'; rw [if_neg (by rw [hnX]; exact hgt)])
            go_wp2_with fail
            go_end0
            refine ⟨rfl, ?_⟩
            rw [unhide HF]
            exact ⟨_, hS6, hM7⟩
      · have hc2 : 1 < cK := by omega
        have hc3 : decide (cK ≤ 1) = false := by simp; omega
        go_wp2_with fail
        all_goals first | (exfalso; omega) | skip
        have hvt : RowAt u2 85 2 (.slice (some ⟨g, off + 2, none⟩) m (cK - 1)) (S.kept.drop 1).length (pairs (S.kept.drop 1)) := hrowk.tail hm _ (Or.inr rfl)
        have hnX : ({ S with kept := S.kept.drop 1 } : SS).kept.length = m := by simp; omega
        have hSx := hS2.setKept (row_setB hS2 hvt 11 (.slice (some ⟨g, off + 2, none⟩) m (cK - 1)))
        have hMx : SMoved b w (u2.setCell ⟨b, 11, none⟩ (.slice (some ⟨g, off + 2, none⟩) m (cK - 1))) V { V with k := .slice (some ⟨g, off + 2, none⟩) m (cK - 1) } := ⟨hmx.only.setCell (p := ⟨b, 11, none⟩) (Or.inl (Or.inl rfl)) _, rfl, rfl, Or.inl rfl, Or.inl rfl, Or.inl (by rw [hKf]; rfl)⟩
        have hfx : (u2.setCell ⟨b, 11, none⟩ (.slice (some ⟨g, off + 2, none⟩) m (cK - 1))).heap[w.heap.size]? = some (.cells #[.int .i64 (fk : Int), .int .i64 (fs : Int)] 85 (0, 0)) := by rw [Below.heap_setCell _ _ _ _ (by intro e; simp at e; omega)]; exact hfa1
        have hVX : ({ V with k := .slice (some ⟨g, off + 2, none⟩) m (cK - 1) } : SV).k = .slice (some ⟨g, off + 2, none⟩) m (cK - 1) := rfl
        generalize u2.setCell ⟨b, 11, none⟩ (.slice (some ⟨g, off + 2, none⟩) m (cK - 1)) = ux at *
        clear hvt d10 d11 d12 y11 y12 f0 f1 hrowk hmx hS2 hfa1 hb1 lb lf
        have lbx := blk_lt hSx.fb
        have e10 : ux.cell? ⟨b, 10, none⟩ = some (.int .i64 (C.room : Int)) := by rw [blk_cell hSx.fb]; rfl
        have e11 : ux.cell? ⟨b, 11, none⟩ = some (.slice (some ⟨g, off + 2, none⟩) (m) (cK - 1)) := by rw [blk_cell hSx.fb]; exact congrArg some hVX
        have e12 : ux.cell? ⟨b, 12, none⟩ = some (.int .i64 (S.most : Int)) := by rw [blk_cell hSx.fb]; rfl
        have y11 := blk_free hSx.fb 11
        have g0 : ux.cell? ⟨w.heap.size, 0, none⟩ = some (.int .i64 (fk : Int)) := by rw [blk_cell hfx]; rfl
        have g1 : ux.cell? ⟨w.heap.size, 1, none⟩ = some (.int .i64 (fs : Int)) := by rw [blk_cell hfx]; rfl
        have lfx := blk_lt hfx
        have hrowx : RowAt ux 85 2 (.slice (some ⟨g, off + 2, none⟩) (m) (cK - 1)) (m) (pairs ({ S with kept := S.kept.drop 1 } : SS).kept) := by have h := hSx.oK; rw [hVX] at h; rw [hnX] at h; exact h
        have hbz : Below ux.heap.size ux ((ux.alloc (.cells #[.int .i64 (fk : Int), .int .i64 (fs : Int)] 85)).drew) := ((Below.refl _ ux).alloc (Nat.le_refl _) _).drew
        go_region_law (refine step_append_row2 rfl (.tmp 31) (.tmp 33) 78 rfl 85 i1 (.agg #[.int .i64 0, .int .i64 0]) 16 Tryz.underlying78 hi1 hz10 hz11 hz12 rfl (.slice (some ⟨g, off + 2, none⟩) (m) (cK - 1)) (m) (pairs ({ S with kept := S.kept.drop 1 } : SS).kept) (hrowx.keep (Only.of_below (T := fun _ => False) hbz) (fun _ _ h => h)) rfl ⟨ux.heap.size, 0, none⟩ 1 (.int .i64 (fk : Int)) (.int .i64 (fs : Int)) rfl (new_cells ux [.int .i64 (fk : Int), .int .i64 (fs : Int)] 85 0 _ rfl) (new_cells ux [.int .i64 (fk : Int), .int .i64 (fs : Int)] 85 1 _ rfl) rfl rfl (by omega) (by omega) ?_; intro v' w' hrow' honly' hmv'; have hS4 := SAt.grownK (f := (fk, fs)) hSx hVX hnX hbz hrow' honly' hmv'; obtain ⟨a4, c4, hv4⟩ := hrow'.form; subst hv4; have j11 : w'.cell? ⟨b, 11, none⟩ = some (.slice (some ⟨g, off + 2, none⟩) (m) (cK - 1)) := (by rw [blk_cell hS4.1]; exact congrArg some hVX); have j12 : w'.cell? ⟨b, 12, none⟩ = some (.int .i64 (S.most : Int)) := (by rw [blk_cell hS4.1]; rfl); have x11 := blk_free hS4.1 11; have x12 := blk_free hS4.1 12; have lb4 := blk_lt hS4.1)
        all_goals
          obtain ⟨hfb4, hS5, hM5⟩ := hS4
          have hM6 := hMx.trans hM5
          clear hM5 hmv' honly' hrow'
          have k11 : (w'.setCell ⟨b, 11, none⟩ (.slice a4 (m + 1) c4)).cell? ⟨b, 11, none⟩ = some (.slice a4 (m + 1) c4) := by rw [blk_cell (blk_set hfb4 11 _)]; rfl
          have k12 : (w'.setCell ⟨b, 11, none⟩ (.slice a4 (m + 1) c4)).cell? ⟨b, 12, none⟩ = some (.int .i64 (S.most : Int)) := by rw [blk_cell (blk_set hfb4 11 _)]; rfl
          have r11 := blk_free (blk_set hfb4 11 (.slice a4 (m + 1) c4)) 11
          have r12 := blk_free (blk_set hfb4 11 (.slice a4 (m + 1) c4)) 12
          have lb5 : b < (w'.setCell ⟨b, 11, none⟩ (.slice a4 (m + 1) c4)).heap.size := blk_lt (blk_set hfb4 11 _)
          go_wp2_with fail
          generalize w'.setCell ⟨b, 11, none⟩ (.slice a4 (m + 1) c4) = u5 at *
          go_quiet (fail)
          have hb6 : Below u5.heap.size u5 (u5.drewN nq) := below_drewN (Below.refl _ _) nq
          have hS6 := hS5.later hb6
          have hM7 := hM6.trans (SMoved.of_below hb6)
          have t11 : (u5.drewN nq).cell? ⟨b, 11, none⟩ = some (.slice a4 (m + 1) c4) := by rw [hb6.cell (p := ⟨b, 11, none⟩) lb5]; exact k11
          have t12 : (u5.drewN nq).cell? ⟨b, 12, none⟩ = some (.int .i64 (S.most : Int)) := by rw [hb6.cell (p := ⟨b, 12, none⟩) lb5]; exact k12
          have s12 := blk_free hS6.fb 12
          have lb7 := blk_lt hS6.fb
          generalize u5.drewN nq = u6 at *
          clear k11 k12 r11 r12 lb5 hb6 hM6 hS5
          by_cases hgt : S.most < m + 1
          · have hg1 : decide ((S.most : Int) < (m : Int) + 1) = true := by simp; omega
            have hg2 : decide (S.most < m + 1) = true := by simp; omega
            have HF : Hid (S.store C.room (fk, fs) = { ({ ({ S with kept := S.kept.drop 1 } : SS) with kept := ({ S with kept := S.kept.drop 1 } : SS).kept ++ [(fk, fs)] } : SS) with most := m + 1 }) := hide (by rw [unhide HST]; unfold storeM'; rw [if_pos (by rw [hnX]; exact hgt)]; rw [hnX])
            have hfin := hS6.setMost (m + 1)
            go_wp2_with fail
            go_end0
            refine ⟨rfl, ?_⟩
            rw [unhide HF]
            exact ⟨_, by simpa using hfin, hM7.setB 12 _⟩
          · have hg1 : decide ((S.most : Int) < (m : Int) + 1) = false := by simp; omega
            have hg2 : decide (S.most < m + 1) = false := by simp; omega
            have HF : Hid (S.store C.room (fk, fs) = { ({ S with kept := S.kept.drop 1 } : SS) with kept := ({ S with kept := S.kept.drop 1 } : SS).kept ++ [(fk, fs)] }) := hide (by rw [unhide HST]; unfold storeM'; rw [if_neg (by rw [hnX]; exact hgt)])
            go_wp2_with fail
            go_end0
            refine ⟨rfl, ?_⟩
            rw [unhide HF]
            exact ⟨_, hS6, hM7⟩
    · have hd3 : decide ((C.room : Int) ≤ (S.kept.length : Int)) = false := by simp; omega
      have hd4 : decide (C.room ≤ S.kept.length) = false := by simp; omega
      go_enter Tryz.func99, Tryz.ntmps99
      go_wp2_with fail
      have hb0 : Below w.heap.size w (w.alloc (.cells #[.int .i64 (fk : Int), .int .i64 (fs : Int)] 85)) := (Below.refl _ _).alloc (Nat.le_refl _) _
      have hfa := heap_alloc_new w (.cells #[.int .i64 (fk : Int), .int .i64 (fs : Int)] 85)
      generalize w.alloc (.cells #[.int .i64 (fk : Int), .int .i64 (fs : Int)] 85) = u1 at *
      have d10 : u1.cell? ⟨b, 10, none⟩ = some (.int .i64 (C.room : Int)) := by rw [hb0.cell (p := ⟨b, 10, none⟩) hbw]; exact c10
      have d11 : u1.cell? ⟨b, 11, none⟩ = some (.slice aK S.kept.length cK) := by rw [hb0.cell (p := ⟨b, 11, none⟩) hbw]; exact c11
      have d12 : u1.cell? ⟨b, 12, none⟩ = some (.int .i64 (S.most : Int)) := by rw [hb0.cell (p := ⟨b, 12, none⟩) hbw]; exact c12
      have lb := Nat.lt_of_lt_of_le hbw hb0.size
      have lf := blk_lt hfa
      go_quiet (fail)
      have hb1 : Below w.heap.size w (u1.drewN nq) := below_drewN hb0 nq
      have hfa1 : (u1.drewN nq).heap[w.heap.size]? = some (.cells #[.int .i64 (fk : Int), .int .i64 (fs : Int)] 85 (0, 0)) := by rw [World.heap_drewN]; exact hfa
      generalize u1.drewN nq = u2 at *
      clear hb0 hfa d10 d11 d12 lb lf
      have hS2 := hS.later hb1
      have d10 : u2.cell? ⟨b, 10, none⟩ = some (.int .i64 (C.room : Int)) := by rw [hb1.cell (p := ⟨b, 10, none⟩) hbw]; exact c10
      have d11 : u2.cell? ⟨b, 11, none⟩ = some (.slice aK S.kept.length cK) := by rw [hb1.cell (p := ⟨b, 11, none⟩) hbw]; exact c11
      have d12 : u2.cell? ⟨b, 12, none⟩ = some (.int .i64 (S.most : Int)) := by rw [hb1.cell (p := ⟨b, 12, none⟩) hbw]; exact c12
      have y11 := blk_free hS2.fb 11
      have y12 := blk_free hS2.fb 12
      have lb := Nat.lt_of_lt_of_le hbw hb1.size
      have lf := blk_lt hfa1
      have f0 : u2.cell? ⟨w.heap.size, 0, none⟩ = some (.int .i64 (fk : Int)) := by rw [blk_cell hfa1]; rfl
      have f1 : u2.cell? ⟨w.heap.size, 1, none⟩ = some (.int .i64 (fs : Int)) := by rw [blk_cell hfa1]; rfl
      go_wp2_with fail
      have HST : Hid (S.store C.room (fk, fs) = storeM' S (fk, fs)) := hide (store_room _ _ _ hr hfull)
      have hMx : SMoved b w u2 V V := SMoved.of_below hb1
      have hSx := hS2
      have hfx := hfa1
      have hVX := hKf
      generalize u2 = ux at *
      clear d10 d11 d12 y11 y12 f0 f1 hS2 hfa1 hb1 lb lf
      have lbx := blk_lt hSx.fb
      have e10 : ux.cell? ⟨b, 10, none⟩ = some (.int .i64 (C.room : Int)) := by rw [blk_cell hSx.fb]; rfl
      have e11 : ux.cell? ⟨b, 11, none⟩ = some (.slice (aK) (S.kept.length) (cK)) := by rw [blk_cell hSx.fb]; exact congrArg some hVX
      have e12 : ux.cell? ⟨b, 12, none⟩ = some (.int .i64 (S.most : Int)) := by rw [blk_cell hSx.fb]; rfl
      have y11 := blk_free hSx.fb 11
      have g0 : ux.cell? ⟨w.heap.size, 0, none⟩ = some (.int .i64 (fk : Int)) := by rw [blk_cell hfx]; rfl
      have g1 : ux.cell? ⟨w.heap.size, 1, none⟩ = some (.int .i64 (fs : Int)) := by rw [blk_cell hfx]; rfl
      have lfx := blk_lt hfx
      have hrowx : RowAt ux 85 2 (.slice (aK) (S.kept.length) (cK)) (S.kept.length) (pairs (S : SS).kept) := by have h := hSx.oK; rw [hVX] at h; exact h
      have hbz : Below ux.heap.size ux ((ux.alloc (.cells #[.int .i64 (fk : Int), .int .i64 (fs : Int)] 85)).drew) := ((Below.refl _ ux).alloc (Nat.le_refl _) _).drew
      go_region_law (refine step_append_row2 rfl (.tmp 31) (.tmp 33) 78 rfl 85 i1 (.agg #[.int .i64 0, .int .i64 0]) 16 Tryz.underlying78 hi1 hz10 hz11 hz12 rfl (.slice (aK) (S.kept.length) (cK)) (S.kept.length) (pairs (S : SS).kept) (hrowx.keep (Only.of_below (T := fun _ => False) hbz) (fun _ _ h => h)) rfl ⟨ux.heap.size, 0, none⟩ 1 (.int .i64 (fk : Int)) (.int .i64 (fs : Int)) rfl (new_cells ux [.int .i64 (fk : Int), .int .i64 (fs : Int)] 85 0 _ rfl) (new_cells ux [.int .i64 (fk : Int), .int .i64 (fs : Int)] 85 1 _ rfl) rfl rfl (by omega) (by omega) ?_; intro v' w' hrow' honly' hmv'; have hS4 := SAt.grownK (f := (fk, fs)) hSx hVX rfl hbz hrow' honly' hmv'; obtain ⟨a4, c4, hv4⟩ := hrow'.form; subst hv4; have j11 : w'.cell? ⟨b, 11, none⟩ = some (.slice (aK) (S.kept.length) (cK)) := (by rw [blk_cell hS4.1]; exact congrArg some hVX); have j12 : w'.cell? ⟨b, 12, none⟩ = some (.int .i64 (S.most : Int)) := (by rw [blk_cell hS4.1]; rfl); have x11 := blk_free hS4.1 11; have x12 := blk_free hS4.1 12; have lb4 := blk_lt hS4.1)
      all_goals
        obtain ⟨hfb4, hS5, hM5⟩ := hS4
        have hM6 := hMx.trans hM5
        clear hM5 hmv' honly' hrow'
        have k11 : (w'.setCell ⟨b, 11, none⟩ (.slice a4 (S.kept.length + 1) c4)).cell? ⟨b, 11, none⟩ = some (.slice a4 (S.kept.length + 1) c4) := by rw [blk_cell (blk_set hfb4 11 _)]; rfl
        have k12 : (w'.setCell ⟨b, 11, none⟩ (.slice a4 (S.kept.length + 1) c4)).cell? ⟨b, 12, none⟩ = some (.int .i64 (S.most : Int)) := by rw [blk_cell (blk_set hfb4 11 _)]; rfl
        have r11 := blk_free (blk_set hfb4 11 (.slice a4 (S.kept.length + 1) c4)) 11
        have r12 := blk_free (blk_set hfb4 11 (.slice a4 (S.kept.length + 1) c4)) 12
        have lb5 : b < (w'.setCell ⟨b, 11, none⟩ (.slice a4 (S.kept.length + 1) c4)).heap.size := blk_lt (blk_set hfb4 11 _)
        go_wp2_with fail
        generalize w'.setCell ⟨b, 11, none⟩ (.slice a4 (S.kept.length + 1) c4) = u5 at *
        go_quiet (fail)
        have hb6 : Below u5.heap.size u5 (u5.drewN nq) := below_drewN (Below.refl _ _) nq
        have hS6 := hS5.later hb6
        have hM7 := hM6.trans (SMoved.of_below hb6)
        have t11 : (u5.drewN nq).cell? ⟨b, 11, none⟩ = some (.slice a4 (S.kept.length + 1) c4) := by rw [hb6.cell (p := ⟨b, 11, none⟩) lb5]; exact k11
        have t12 : (u5.drewN nq).cell? ⟨b, 12, none⟩ = some (.int .i64 (S.most : Int)) := by rw [hb6.cell (p := ⟨b, 12, none⟩) lb5]; exact k12
        have s12 := blk_free hS6.fb 12
        have lb7 := blk_lt hS6.fb
        generalize u5.drewN nq = u6 at *
        clear k11 k12 r11 r12 lb5 hb6 hM6 hS5
        by_cases hgt : S.most < S.kept.length + 1
        · have hg1 : decide ((S.most : Int) < (S.kept.length : Int) + 1) = true := by simp; omega
          have hg2 : decide (S.most < S.kept.length + 1) = true := by simp; omega
          have HF : Hid (S.store C.room (fk, fs) = { ({ (S : SS) with kept := (S : SS).kept ++ [(fk, fs)] } : SS) with most := S.kept.length + 1 }) := hide (by rw [unhide HST]; unfold storeM'; rw [if_pos hgt])
          have hfin := hS6.setMost (S.kept.length + 1)
          go_wp2_with fail
          go_end0
          refine ⟨rfl, ?_⟩
          rw [unhide HF]
          exact ⟨_, by simpa using hfin, hM7.setB 12 _⟩
        · have hg1 : decide ((S.most : Int) < (S.kept.length : Int) + 1) = false := by simp; omega
          have hg2 : decide (S.most < S.kept.length + 1) = false := by simp; omega
          have HF : Hid (S.store C.room (fk, fs) = { (S : SS) with kept := (S : SS).kept ++ [(fk, fs)] }) := hide (by rw [unhide HST]; unfold storeM'; rw [if_neg hgt])
          go_wp2_with fail
          go_end0
          refine ⟨rfl, ?_⟩
          rw [unhide HF]
          exact ⟨_, hS6, hM7⟩
end Go.Proofs.YtgipjjhkhfihpabGreatDoor

namespace Go.Proofs.YtgipjjhkhfihpabGreatDoor
open Go.RowKit

theorem cell_same {w w' : World} {k o : Nat} (h : w'.heap[k]? = w.heap[k]?) : w'.cell? ⟨k, o, none⟩ = w.cell? ⟨k, o, none⟩ := by
  unfold World.cell?
  rw [h]
/-! ### clauses -/
def idxTo (k : Nat) : List Nat := (List.range k).map (· + 1)
theorem idxTo_succ (k : Nat) : idxTo (k + 1) = idxTo k ++ [k + 1] := by unfold idxTo; rw [List.range_succ, List.map_append]; rfl
theorem idxTo_len (k : Nat) : (idxTo k).length = k := by simp [idxTo]
def keptTo (kept : List (Nat × Nat)) (k : Nat) : List Nat := ((kept.take k).filter (fun f => f.1 == 1)).map (·.2)
theorem keptTo_succ (kept : List (Nat × Nat)) (k : Nat) (h : k < kept.length) : keptTo kept (k + 1) = keptTo kept k ++ (if kept[k].1 == 1 then [kept[k].2] else []) := by
  unfold keptTo
  rw [List.take_succ_eq_append_getElem h, List.filter_append, List.map_append]
  congr 1
  cases hh : (kept[k].1 == 1) <;> simp [hh]
theorem keptTo_len (kept : List (Nat × Nat)) (k : Nat) : (keptTo kept k).length ≤ k := by
  unfold keptTo
  rw [List.length_map]
  exact Nat.le_trans (List.length_filter_le _ _) (by simp; omega)
theorem ints_snoc (l : List Nat) (n : Nat) : ints (l ++ [n]) = ints l ++ [.int .i64 (n : Int)] := by simp [ints]
theorem infoIntS : (Tryz.prog.info? 3).map (fun i => (i.zero, i.size, i.bytes)) = some (some (.int .i64 0), 1, 8) := by kernel_rfl
def ClausesPost (C : SC) (S : SS) (w : World) (e : Ending) (w' : World) : Prop := ∃ v, e = .returned v ∧ w'.ownsRow w.heap.size 3 1 v (clausesOf C.q S.kept).length (ints (clausesOf C.q S.kept)) ∧ Below w.heap.size w w'
set_option maxRecDepth 100000 in
set_option maxHeartbeats 3200000 in
theorem clauses_any (b : Nat) (C : SC) (S : SS) (V : SV) (w : World) (hS : SAt w b C S V) (hB : SBd C S) :
    Calls Tryz.prog 71 #[.pointer (some ⟨b, 0, none⟩)] w fun e w' => ClausesPost C S w e w' := by
  obtain ⟨aC, cC, hCf⟩ := own_form hS.oC
  obtain ⟨aK, cK, hKf⟩ := hS.oK.form
  obtain ⟨i1, hi1, hz10, hz11, hz12⟩ := info_parts infoIntS
  have hbw := blk_lt hS.fb
  have c1 : w.cell? ⟨b, 1, none⟩ = some (.slice aC C.q.cl.length cC) := by rw [blk_cell hS.fb]; exact congrArg some hCf
  have hcl := hB.qb.cl
  have hkl := hB.kept
  go_enter Tryz.func71, Tryz.ntmps71
  go_wp2_with fail
  go_loopg [3, 13] (C.q.cl.length) (fun m vl i wx => ∃ (k : Nat), i = .int .i64 k ∧ k + m = C.q.cl.length ∧ wx.ownsRow w.heap.size 3 1 vl (idxTo k).length (ints (idxTo k)) ∧ Below w.heap.size w wx)
  case atStart => exact ⟨0, rfl, by omega, World.ownsRow_nil _ _ _ _, Below.refl _ _⟩
  case round =>
    obtain ⟨k, rfl, hkm, hown, hb⟩ := hrel
    have hlk := idxTo_len k
    have hbs := hb.size
    obtain ⟨aL, cL, rfl⟩ := own_form hown
    by_cases hlt : k < C.q.cl.length
    · have hd1 : decide ((k : Int) < (C.q.cl.length : Int)) = true := decide_eq_true (by omega)
      have hd2 : decide (k < C.q.cl.length) = true := decide_eq_true hlt
      have HSU : Hid (idxTo (k + 1) = idxTo k ++ [k + 1]) := hide (idxTo_succ k)
      have HIS := hide (ints_snoc (idxTo k) (k + 1))
      go_wp2_with (at_builtin; refine wpList_append_new rfl (.tmp 16) (.tmp 19) 59 rfl w.heap.size i1 (.int .i64 0) 1 8 Tryz.underlying59 hi1 hz10 hz11 hz12 rfl (by decide) _ _ _ hown rfl rfl rfl (by simp [Value.oneCell']) (by unfold maxLen; omega) (by omega) hbs ?_; intro v4 w4 hown4 hgrow4 hnn4)
      have hB4 : Below w.heap.size w w4 := below_grown hb hgrow4 hown (Nat.le_refl _) hbs
      obtain ⟨a4, c4, rfl⟩ := own_form hown4
      go_wp2_with fail
      go_roundg (gk - 1)
      case measure => omega
      case rel => exact ⟨k + 1, by go_num, by omega, by rw [unhide HSU, unhide HIS]; simpa using hown4, hB4⟩
    · have hke : k = C.q.cl.length := by omega
      subst hke
      have hd1 : decide ((C.q.cl.length : Int) < (C.q.cl.length : Int)) = false := by simp
      have hSr := hS.later hb
      have c11 : wr.cell? ⟨b, 11, none⟩ = some (.slice aK S.kept.length cK) := by rw [blk_cell hSr.fb]; exact congrArg some hKf
      have lbr := blk_lt hSr.fb
      have hrow := hSr.oK
      rw [hKf] at hrow
      go_wp2_with fail
      have hA2 : Below w.heap.size w wr := hb
      obtain ⟨wo, rfl⟩ : ∃ wo, wo = wr := ⟨_, rfl⟩
      go_loopg [3, 28] (S.kept.length) (fun m vl i wx => ∃ (k : Nat) (L : List Nat), L = idxTo C.q.cl.length ++ keptTo S.kept k ∧ i = .int .i64 k ∧ k + m = S.kept.length ∧ wx.ownsRow w.heap.size 3 1 vl L.length (ints L) ∧ Below w.heap.size w wx)
      case atStart => exact ⟨0, idxTo C.q.cl.length, by simp [keptTo], rfl, by omega, hown, hb⟩
      case round =>
        obtain ⟨k, L, hL, rfl, hkm, hown2, hb2⟩ := hrel
        have hlk2 := keptTo_len S.kept k
        have hlen2 : L.length ≤ 1000 := by rw [hL, List.length_append]; omega
        have HL := hide hL
        clear hL
        have hbs2 := hb2.size
        obtain ⟨aM, cM, rfl⟩ := own_form hown2
        by_cases hlt2 : k < S.kept.length
        · have hd3 : decide ((k : Int) < (S.kept.length : Int)) = true := decide_eq_true (by omega)
          have hd4 : decide (k < S.kept.length) = true := decide_eq_true hlt2
          have hSx := hS.later hb2
          have hrowx := hSx.oK
          rw [hKf] at hrowx
          obtain ⟨g, off, cap, hVe, hg', hcell⟩ := hrowx.cell (by omega)
          injection hVe with hVe _ hV2
          subst hVe hV2
          obtain ⟨e0, e1⟩ := pairs_at S.kept k hlt2
          have hx0 := hcell _ _ e0
          have hx1 := hcell _ _ e1
          have HSU := hide (keptTo_succ S.kept k hlt2)
          clear hcell e0 e1
          generalize S.kept[k] = f at *
          obtain ⟨fk, fs⟩ := f
          dsimp only at *
          have hA : Below wr.heap.size wr (wr.alloc (.cells #[.int .i64 (fk : Int), .int .i64 (fs : Int)] 85)) := (Below.refl _ _).alloc (Nat.le_refl _) _
          have hfa := heap_alloc_new wr (.cells #[.int .i64 (fk : Int), .int .i64 (fs : Int)] 85)
          have hown3 := own_below hown2 hA
          have hb3 := hb2.trans (hA.mono hb2.size)
          rw [← Nat.add_assoc] at hx1
          by_cases hk1 : fk = 1
          · subst hk1
            have HS2 : Hid (L ++ [fs] = idxTo C.q.cl.length ++ keptTo S.kept (k + 1)) := hide (by rw [unhide HSU, unhide HL]; simp)
            have HIS := hide (ints_snoc L fs)
            have hbs3 := hb3.size
            go_wp2_with (at_builtin; refine wpList_append_new' rfl _ _ 59 rfl w.heap.size i1 (.int .i64 0) 1 8 Tryz.underlying59 hi1 hz10 hz11 hz12 rfl (by decide) _ _ _ hown3 rfl _ rfl (by simp) rfl (by simp [Value.oneCell']) (by unfold maxLen; omega) (by omega) hbs3 ?_; intro v4 w4 hown4 hgrow4 hnn4)
            have hB4 : Below w.heap.size w w4 := below_grown hb3 hgrow4 hown3 (Nat.le_refl _) hbs3
            obtain ⟨a4, c4, rfl⟩ := own_form hown4
            go_wp2_with fail
            go_roundg (gk - 1)
            case measure => omega
            case rel => exact ⟨k + 1, L ++ [fs], unhide HS2, by go_num, by omega, by rw [unhide HIS]; simpa using hown4, hB4⟩
          · have HS2 : Hid (L = idxTo C.q.cl.length ++ keptTo S.kept (k + 1)) := hide (by rw [unhide HSU, if_neg (by simpa using hk1), List.append_nil]; exact unhide HL)
            have hq : ((fk : Int) == 1) = false := by rw [beq_eq_false_iff_ne]; omega
            clear hk1
            go_wp2_with fail
            go_roundg (gk - 1)
            case measure => omega
            case rel => exact ⟨k + 1, L, unhide HS2, by go_num, by omega, hown3, hb3⟩
        · have hke : k = S.kept.length := by omega
          subst hke
          have hd3 : decide ((S.kept.length : Int) < (S.kept.length : Int)) = false := by simp
          have HR : Hid (clausesOf C.q S.kept = L) := hide (by rw [unhide HL]; unfold clausesOf idxTo keptTo; rw [List.take_length])
          go_wp2_with fail
          go_ret
          exact ⟨_, rfl, by rw [unhide HR]; exact hown2, hb2⟩
end Go.Proofs.YtgipjjhkhfihpabGreatDoor

namespace Go.Proofs.YtgipjjhkhfihpabGreatDoor
open Go.RowKit

/-! ### findConflict -/
theorem find_drop {α : Type} (l : List α) (p : α → Bool) (k : Nat) (h : k < l.length) : (l.drop k).find? p = if p l[k] then some l[k] else (l.drop (k + 1)).find? p := by
  rw [List.drop_eq_getElem_cons h, List.find?_cons]
  cases p l[k] <;> rfl
set_option maxRecDepth 100000 in
set_option maxHeartbeats 3200000 in
theorem findConflict_any (b : Nat) (C : SC) (S : SS) (V : SV) (cs : List Nat) (aX : Option Addr) (cX base : Nat) (p : Nat × Nat) (w : World) (hS : SAt w b C S V) (hB : SBd C S) (hp : p.1 < 512 ∧ p.2 < 512) (hX : w.ownsRow base 3 1 (.slice aX cs.length cX) cs.length (ints cs)) (hcl : cs.length ≤ 1048576) :
    Calls Tryz.prog 72 #[.pointer (some ⟨b, 0, none⟩), .slice aX cs.length cX, SetV p] w fun e w' => e = .returned (.int .i64 (confOf S.ref C.uni cs p : Nat)) ∧ Below w.heap.size w w' := by
  obtain ⟨p1, p2⟩ := p
  have hbw := blk_lt hS.fb
  have hu := hB.uni
  go_enter Tryz.func72, Tryz.ntmps72
  go_wp2_with fail
  go_loopg [14] (cs.length) (fun m i wx => ∃ (k : Nat), i = .int .i64 k ∧ k + m = cs.length ∧ Below w.heap.size w wx ∧ wx.heap[w.heap.size]? = some (.cells #[.int .i64 (p1 : Int), .int .i64 (p2 : Int)] 77 (0, 0)) ∧ confOf S.ref C.uni cs (p1, p2) = ((cs.drop k).find? (fun s => isConf C.uni (p1, p2) (litsAt S.ref s))).getD 0)
  case atStart => exact ⟨0, rfl, by omega, (Below.refl _ _).alloc (Nat.le_refl _) _, heap_alloc_new _ _, rfl⟩
  case round =>
    obtain ⟨k, rfl, hkm, hBw, hva, hcf⟩ := hrel
    have HCF := hide hcf
    clear hcf
    by_cases hlt : k < cs.length
    · have HFD := hide (find_drop cs (fun s => isConf C.uni (p1, p2) (litsAt S.ref s)) k hlt)
      obtain ⟨g, cap, hVe, _, hg', _, hcell⟩ := own_pos hX (by omega)
      injection hVe with hVe _ hV2
      subst hVe hV2
      have hck : wr.cell? ⟨g, k, none⟩ = some (.int .i64 (cs[k] : Int)) := by rw [hBw.cell (p := ⟨g, k, none⟩) hg']; exact hcell k _ (by simp [ints, hlt])
      have lg := Nat.lt_of_lt_of_le hg' hBw.size
      clear hcell
      have hlt9 := litsAt_lt S.ref hB.ref cs[k]
      generalize cs[k] = n at *
      have cva0 : wr.cell? ⟨w.heap.size, 0, none⟩ = some (.int .i64 (p1 : Int)) := by rw [blk_cell hva]; rfl
      have cva1 : wr.cell? ⟨w.heap.size, 1, none⟩ = some (.int .i64 (p2 : Int)) := by rw [blk_cell hva]; rfl
      have lva := blk_lt hva
      have hSr := hS.later hBw
      go_wp2_with fail
      refine (left_any b C S V n (p1, p2) _ hSr hB hp).mono ?_
      rintro e u1 ⟨rfl, b1⟩
      replace hBw := hBw.trans (b1.mono hBw.size)
      replace hva := (b1.block _ (blk_lt hva)).trans hva
      replace cva0 : u1.cell? ⟨w.heap.size, 0, none⟩ = some (.int .i64 (p1 : Int)) := by rw [blk_cell hva]; rfl
      replace cva1 : u1.cell? ⟨w.heap.size, 1, none⟩ = some (.int .i64 (p2 : Int)) := by rw [blk_cell hva]; rfl
      replace lva := blk_lt hva
      replace hSr := hSr.later b1
      have HIC : Hid (isConf C.uni (p1, p2) (litsAt S.ref n) = (openB (litsAt S.ref n) (p1, p2) && emptyB (minus (leftOf (litsAt S.ref n) (p1, p2)) C.uni))) := hide rfl
      have hl9 := minus_lt (litsAt S.ref n) (swapL (p1, p2)) hlt9
      have HIC2 : Hid (∀ l op, leftOf (litsAt S.ref n) (p1, p2) = l → openB (litsAt S.ref n) (p1, p2) = op → isConf C.uni (p1, p2) (litsAt S.ref n) = (op && emptyB (minus l C.uni))) := hide (fun l op e1 e2 => by rw [unhide HIC, e1, e2])
      have hl9' : (leftOf (litsAt S.ref n) (p1, p2)).1 < 512 ∧ (leftOf (litsAt S.ref n) (p1, p2)).2 < 512 := hl9
      generalize hel : leftOf (litsAt S.ref n) (p1, p2) = l at *
      generalize heo : openB (litsAt S.ref n) (p1, p2) = op at *
      have HIC3 := hide (unhide HIC2 l op rfl rfl)
      clear hel heo HIC HIC2 hl9 hlt9
      obtain ⟨l1, l2⟩ := l
      dsimp only at hl9'
      go_wp2_with fail
      generalize hw0 : u1.alloc (.cells #[.int .i64 (l1 : Int), .int .i64 (l2 : Int)] 77) = u2
      have b2 : Below u1.heap.size u1 u2 := by rw [← hw0]; exact (Below.refl _ _).alloc (Nat.le_refl _) _
      have hle : u2.heap[u1.heap.size]? = some (.cells #[.int .i64 (l1 : Int), .int .i64 (l2 : Int)] 77 (0, 0)) := by rw [← hw0]; exact heap_alloc_new _ _
      clear hw0
      replace hBw := hBw.trans (b2.mono hBw.size)
      replace hva := (b2.block _ (blk_lt hva)).trans hva
      replace cva0 : u2.cell? ⟨w.heap.size, 0, none⟩ = some (.int .i64 (p1 : Int)) := by rw [blk_cell hva]; rfl
      replace cva1 : u2.cell? ⟨w.heap.size, 1, none⟩ = some (.int .i64 (p2 : Int)) := by rw [blk_cell hva]; rfl
      replace lva := blk_lt hva
      replace hSr := hSr.later b2
      have cle0 : u2.cell? ⟨u1.heap.size, 0, none⟩ = some (.int .i64 (l1 : Int)) := by rw [blk_cell hle]; rfl
      have cle1 : u2.cell? ⟨u1.heap.size, 1, none⟩ = some (.int .i64 (l2 : Int)) := by rw [blk_cell hle]; rfl
      have lle := blk_lt hle
      have k2 : u2.cell? ⟨b, 2, none⟩ = some (.int .i64 (C.uni.1 : Int)) := by rw [blk_cell hSr.fb]; rfl
      have k3 : u2.cell? ⟨b, 3, none⟩ = some (.int .i64 (C.uni.2 : Int)) := by rw [blk_cell hSr.fb]; rfl
      have lb := blk_lt hSr.fb
      have hm := minus_lt (l1, l2) C.uni hl9'
      obtain ⟨wo, rfl⟩ : ∃ wo, wo = wr := ⟨_, rfl⟩
      go_cut [11] (fun s11 wx => ∃ lo, s11 = .pointer (some ⟨lo, 0, none⟩) ∧ Below u2.heap.size u2 wx ∧ wx.heap[lo]? = some (.cells #[.int .i64 ((minus (l1, l2) C.uni).1 : Int), .int .i64 ((minus (l1, l2) C.uni).2 : Int)] 77 (0, 0)))
      case first =>
        go_region_with (go_at_call 89; refine (lwithout_any l1 l2 C.uni.1 C.uni.2 _ hl9'.1 hl9'.2 hu.1 hu.2).mono ?_; rintro e v1 ⟨rfl, y1⟩; have x1 : Below u2.heap.size u2 v1 := Below.trans (by first | exact Below.refl _ _ | exact (Below.refl _ _).drew | exact (Below.refl _ _).alloc (Nat.le_refl _) _ | exact ((Below.refl _ _).alloc (Nat.le_refl _) _).drew | exact ((Below.refl _ _).drew).alloc (Nat.le_refl _) _) (y1.mono (by simp)); (try (have hq : v1.heap[u2.heap.size]? = some (.cells #[.int .i64 0, .int .i64 0] 77 (0, 0)) := (by first | exact (y1.block u2.heap.size (by simp)).trans (heap_alloc_new u2 _) | exact (y1.block u2.heap.size (by simp)).trans (heap_alloc_new u2.drew _)); have q0 : v1.cell? ⟨u2.heap.size, 0, none⟩ = some (.int .i64 0) := (by rw [blk_cell hq]; rfl); have q1 : v1.cell? ⟨u2.heap.size, 1, none⟩ = some (.int .i64 0) := (by rw [blk_cell hq]; rfl); have qz0 := blk_free hq 0; have qz1 := blk_free hq 1; have ql := blk_lt hq)))
        all_goals
          go_wp2_with fail
          go_meet
          first
            | exact ⟨_, rfl, x1.alloc x1.size _, heap_alloc_new _ _⟩
            | exact ⟨_, rfl, (x1.setCell (p := ⟨u2.heap.size, 0, none⟩) (Nat.le_refl _) _).setCell (p := ⟨u2.heap.size, 1, none⟩) (Nat.le_refl _) _, blk_set (blk_set hq 0 _) 1 _⟩
      case rest =>
      obtain ⟨lo, rfl, hbc, ho⟩ := hcut
      generalize hem : minus (l1, l2) C.uni = cm at *
      have HEM := hide hem
      clear hem
      obtain ⟨d1, d2⟩ := cm
      dsimp only at hm ho
      have HIC4 : Hid (isConf C.uni (p1, p2) (litsAt S.ref n) = (op && (d1 ||| d2 == 0))) := hide (by rw [unhide HIC3]; rfl)
      have o0 : wc.cell? ⟨lo, 0, none⟩ = some (.int .i64 (d1 : Int)) := by rw [blk_cell ho]; rfl
      have o1 : wc.cell? ⟨lo, 1, none⟩ = some (.int .i64 (d2 : Int)) := by rw [blk_cell ho]; rfl
      have lo' := blk_lt ho
      have hBc := hBw.trans (hbc.mono hBw.size)
      have hvc := (hbc.block _ (blk_lt hva)).trans hva
      clear cva0 cva1 lva cle0 cle1 lle k2 k3 lb hle hva hBw
      cases op with
      | false =>
        have HF : Hid (confOf S.ref C.uni cs (p1, p2) = ((cs.drop (k + 1)).find? (fun s => isConf C.uni (p1, p2) (litsAt S.ref s))).getD 0) := hide (by rw [unhide HCF, unhide HFD, unhide HIC4]; rfl)
        go_wp2_with fail
        go_roundg (gk - 1)
        case measure => omega
        case rel => exact ⟨k + 1, by go_num, by omega, hBc, hvc, unhide HF⟩
      | true =>
        go_wp2_with fail
        refine (empty_any d1 d2 _ hm.1 hm.2).mono ?_
        rintro e w6 ⟨rfl, b6⟩
        have hB6 := hBc.trans (b6.mono hBc.size)
        have hv6 := (b6.block _ (blk_lt hvc)).trans hvc
        cases he : (d1 ||| d2 == 0) with
        | true =>
          have HF : Hid (confOf S.ref C.uni cs (p1, p2) = n) := hide (by rw [unhide HCF, unhide HFD, unhide HIC4, he]; rfl)
          clear he
          go_wp2_with fail
          go_ret
          exact ⟨by rw [unhide HF]; rfl, hB6⟩
        | false =>
          have HF : Hid (confOf S.ref C.uni cs (p1, p2) = ((cs.drop (k + 1)).find? (fun s => isConf C.uni (p1, p2) (litsAt S.ref s))).getD 0) := hide (by rw [unhide HCF, unhide HFD, unhide HIC4, he]; rfl)
          clear he
          go_wp2_with fail
          go_roundg (gk - 1)
          case measure => omega
          case rel => exact ⟨k + 1, by go_num, by omega, hB6, hv6, unhide HF⟩
    · have hke : k = cs.length := by omega
      have HF : Hid (confOf S.ref C.uni cs (p1, p2) = 0) := hide (by rw [unhide HCF, hke, List.drop_length]; rfl)
      subst hke
      go_wp2_with fail
      go_ret
      exact ⟨by rw [unhide HF]; rfl, hBw⟩
end Go.Proofs.YtgipjjhkhfihpabGreatDoor

namespace Go.Proofs.YtgipjjhkhfihpabGreatDoor
open Go.RowKit

/-! ### findUnit -/
def unitSel (ref : List Stp) (vals : Nat × Nat) : Option Nat → Int × Nat
  | none => (0, 0)
  | some s => ((listOf (leftOf (litsAt ref s) vals)).headD 0, s)
theorem unitOf_sel (ref : List Stp) (uni : Nat × Nat) (cs : List Nat) (vals : Nat × Nat) : unitOf ref uni cs vals = unitSel ref vals (cs.find? (fun s => isUnit uni vals (litsAt ref s))) := by
  unfold unitOf
  cases cs.find? (fun s => isUnit uni vals (litsAt ref s)) <;> rfl
def UnitV (u : Int × Nat) : Value := .agg #[.int .i64 u.1, .int .i64 (u.2 : Int)]
/-- What findUnit must answer. -/
def FindUnitSpec : Prop := ∀ (b : Nat) (C : SC) (S : SS) (V : SV) (cs : List Nat) (aX : Option Addr) (cX base : Nat) (p : Nat × Nat) (w : World), SAt w b C S V → SBd C S → (p.1 < 512 ∧ p.2 < 512) → w.ownsRow base 3 1 (.slice aX cs.length cX) cs.length (ints cs) → cs.length ≤ 1048576 →
    Calls Tryz.prog 73 #[.pointer (some ⟨b, 0, none⟩), .slice aX cs.length cX, SetV p] w fun e w' => e = .returned (UnitV (unitOf S.ref C.uni cs p)) ∧ Below w.heap.size w w'
end Go.Proofs.YtgipjjhkhfihpabGreatDoor

namespace Go.Proofs.YtgipjjhkhfihpabGreatDoor
open Go.RowKit

/-! ### findUnits -/
theorem own_ge {w : World} {base : Nat} {e : TypeId} {size : Nat} {v : Value} {n : Nat} {xs : List Value} (h : w.ownsRow base e size v n xs) {k : Nat} (hk : v.ownBlock = some k) : base ≤ k := by
  obtain ⟨h1, h2⟩ := h
  rcases h2 with h2 | ⟨g, cap, cur, rfl, hg, hh, h3⟩
  · obtain ⟨rfl, _⟩ := h2
    simp [Value.ownBlock] at hk
  · simp [Value.ownBlock] at hk
    omega
theorem blk_other {w : World} {b c : Nat} {o : Obj} (h : w.heap[b]? = some o) (hne : c ≠ b) (k : Nat) (u : Value) : (w.setCell ⟨c, k, none⟩ u).heap[b]? = some o := by
  simp [World.setCell, Array.getElem?_modify, h, hne]
def unitCells (l : List (Int × Nat)) : List Value := l.flatMap (fun u => [Value.int .i64 u.1, Value.int .i64 (u.2 : Int)])
theorem unitCells_snoc (l : List (Int × Nat)) (u : Int × Nat) : unitCells (l ++ [u]) = unitCells l ++ [.int .i64 u.1, .int .i64 (u.2 : Int)] := by simp [unitCells]
theorem unitCells_at (l : List (Int × Nat)) (k : Nat) (h : k < l.length) : (unitCells l)[k * 2]? = some (.int .i64 l[k].1) ∧ (unitCells l)[k * 2 + 1]? = some (.int .i64 (l[k].2 : Int)) := by
  induction l generalizing k with
  | nil => simp at h
  | cons a l ih =>
    cases k with
    | zero => simp [unitCells]
    | succ k =>
      have := ih k (by simpa using h)
      simp only [unitCells, List.flatMap_cons] at this ⊢
      rw [show (k + 1) * 2 = k * 2 + 2 from by omega, show k * 2 + 2 + 1 = (k * 2 + 1) + 2 from by omega, List.getElem?_append_right (by simp), List.getElem?_append_right (by simp)]
      simpa using this
theorem infoUnit : (Tryz.prog.info? 139).map (fun i => (i.zero, i.size, i.bytes)) = some (some (.agg #[.int .i64 0, .int .i64 0]), 2, 16) := by kernel_rfl
theorem SAt.only {w w' : World} {b : Nat} {C : SC} {S : SS} {V : SV} (h : SAt w b C S V) {k : Nat} (ho : Only (· = k) w w') (hf : Far b V k) : SAt w' b C S V :=
  ⟨(ho.block b (blk_lt h.fb) (fun e => hf.1 e.symm)).trans h.fb, own_keep h.oV ho (fun j hj e => hf.2.1 (by rw [hj, e])), own_keep h.oC ho (fun j hj e => hf.2.2.1 (by rw [hj, e])), own_keep h.oR ho (fun j hj e => hf.2.2.2.1 (by rw [hj, e])), own_keep h.oA ho (fun j hj e => hf.2.2.2.2.1 (by rw [hj, e])), h.oK.keep ho (fun j hj e => hf.2.2.2.2.2 (by rw [hj, e])), h.ap⟩
theorem listFrom_bd (c : Nat × Nat) : ∀ k v, 1 ≤ v → v + k ≤ 9 → ∀ x ∈ listFrom c k v, -8 ≤ x ∧ x ≤ 8 := by
  intro k
  induction k with
  | zero => intro v _ _ x hx; simp [listFrom] at hx
  | succ k ih =>
    intro v h1 h9 x hx
    rw [listFrom, List.mem_append, List.mem_append] at hx
    rcases hx with hx | hx | hx
    · split at hx
      · simp at hx; subst hx; omega
      · simp at hx
    · split at hx
      · simp at hx; subst hx; omega
      · simp at hx
    · exact ih (v + 1) (by omega) (by omega) x hx
theorem unitOf_bd (ref : List Stp) (uni : Nat × Nat) (cs : List Nat) (vals : Nat × Nat) : -8 ≤ (unitOf ref uni cs vals).1 ∧ (unitOf ref uni cs vals).1 ≤ 8 := by
  rw [unitOf_sel]
  cases cs.find? (fun s => isUnit uni vals (litsAt ref s)) with
  | none => exact ⟨show (-8 : Int) ≤ 0 by decide, show (0 : Int) ≤ 8 by decide⟩
  | some s =>
    show -8 ≤ (listOf (leftOf (litsAt ref s) vals)).headD 0 ∧ (listOf (leftOf (litsAt ref s) vals)).headD 0 ≤ 8
    cases h : listOf (leftOf (litsAt ref s) vals) with
    | nil => exact ⟨by decide, by decide⟩
    | cons x l => exact listFrom_bd (leftOf (litsAt ref s) vals) 8 1 (by decide) (by decide) x (by show x ∈ listOf (leftOf (litsAt ref s) vals); rw [h]; simp)
theorem unitsGo_succ (ref : List Stp) (uni : Nat × Nat) (cs : List Nat) (m : Nat) (vals : Nat × Nat) (trail : List (Int × Nat)) : unitsGo ref uni cs (m + 1) vals trail = if confOf ref uni cs vals ≠ 0 then ⟨vals, trail, confOf ref uni cs vals⟩ else
    if (unitOf ref uni cs vals).2 = 0 then ⟨vals, trail, 0⟩ else unitsGo ref uni cs m (withLit vals (unitOf ref uni cs vals).1) (trail ++ [unitOf ref uni cs vals]) := rfl
def UnitsPost (C : SC) (S : SS) (path : Nat × Nat) (w : World) (e : Ending) (w' : World) : Prop :=
  ∃ vT, e = .returned (.agg #[.int .i64 ((unitsOf C S path).vals.1 : Int), .int .i64 ((unitsOf C S path).vals.2 : Int), vT, .int .i64 ((unitsOf C S path).conf : Int)]) ∧ w'.ownsRow w.heap.size 139 2 vT (unitsOf C S path).trail.length (unitCells (unitsOf C S path).trail) ∧ Below w.heap.size w w'
set_option maxRecDepth 100000 in
set_option maxHeartbeats 6400000 in
theorem findUnits_any (hFU : FindUnitSpec) (b : Nat) (C : SC) (S : SS) (V : SV) (path : Nat × Nat) (w : World) (hS : SAt w b C S V) (hB : SBd C S) (hp : path.1 < 512 ∧ path.2 < 512) :
    Calls Tryz.prog 50 #[.pointer (some ⟨b, 0, none⟩), SetV path] w fun e w' => UnitsPost C S path w e w' := by
  obtain ⟨p1, p2⟩ := path
  have hbw := blk_lt hS.fb
  have hvl := hB.qb.vl
  obtain ⟨aV, cV, hVf⟩ := own_form hS.oV
  obtain ⟨i1, hi1, hz10, hz11, hz12⟩ := info_parts infoUnit
  go_enter Tryz.func50, Tryz.ntmps50
  go_wp2_with fail
  generalize hw0 : (((w.alloc (.cells #[.int .i64 (p1 : Int), .int .i64 (p2 : Int)] 77)).alloc (.cells #[.int .i64 0, .int .i64 0, .slice none 0 0, .int .i64 0] 117)).alloc (.cells #[.int .i64 (p1 : Int), .int .i64 (p2 : Int), .slice none 0 0, .int .i64 0] 117)) = u1
  have hBw : Below w.heap.size w u1 := by rw [← hw0]; exact (((Below.refl _ _).alloc (Nat.le_refl _) _).alloc (by simp; try omega) _).alloc (by simp; try omega) _
  have hpa : u1.heap[w.heap.size]? = some (.cells #[.int .i64 (p1 : Int), .int .i64 (p2 : Int)] 77 (0, 0)) := by rw [← hw0, heap_alloc_old _ _ (by simp; try omega), heap_alloc_old _ _ (by simp; try omega)]; exact alloc_new_at (by simp)
  have hrs : u1.heap[w.heap.size + 1]? = some (.cells #[.int .i64 0, .int .i64 0, .slice none 0 0, .int .i64 0] 117 (0, 0)) := by rw [← hw0, heap_alloc_old _ _ (by simp; try omega)]; exact alloc_new_at (by simp)
  have huu : u1.heap[w.heap.size + 2]? = some (.cells #[.int .i64 (p1 : Int), .int .i64 (p2 : Int), .slice none 0 0, .int .i64 0] 117 (0, 0)) := by rw [← hw0]; exact alloc_new_at (by simp)
  clear hw0
  have cpa0 : u1.cell? ⟨w.heap.size, 0, none⟩ = some (.int .i64 (p1 : Int)) := by rw [blk_cell hpa]; rfl
  have cpa1 : u1.cell? ⟨w.heap.size, 1, none⟩ = some (.int .i64 (p2 : Int)) := by rw [blk_cell hpa]; rfl
  have lpa := blk_lt hpa
  have crs0 : u1.cell? ⟨w.heap.size + 1, 0, none⟩ = some (.int .i64 0) := by rw [blk_cell hrs]; rfl
  have crs1 : u1.cell? ⟨w.heap.size + 1, 1, none⟩ = some (.int .i64 0) := by rw [blk_cell hrs]; rfl
  have crs2 : u1.cell? ⟨w.heap.size + 1, 2, none⟩ = some (.slice none 0 0) := by rw [blk_cell hrs]; rfl
  have crs3 : u1.cell? ⟨w.heap.size + 1, 3, none⟩ = some (.int .i64 0) := by rw [blk_cell hrs]; rfl
  have lrs := blk_lt hrs
  have cuu0 : u1.cell? ⟨w.heap.size + 2, 0, none⟩ = some (.int .i64 (p1 : Int)) := by rw [blk_cell huu]; rfl
  have cuu1 : u1.cell? ⟨w.heap.size + 2, 1, none⟩ = some (.int .i64 (p2 : Int)) := by rw [blk_cell huu]; rfl
  have cuu2 : u1.cell? ⟨w.heap.size + 2, 2, none⟩ = some (.slice none 0 0) := by rw [blk_cell huu]; rfl
  have cuu3 : u1.cell? ⟨w.heap.size + 2, 3, none⟩ = some (.int .i64 0) := by rw [blk_cell huu]; rfl
  have luu := blk_lt huu
  refine (clauses_any b C S V _ (hS.later hBw) hB).mono ?_
  rintro e u2 ⟨vX, rfl, hX, b2⟩
  replace hBw := hBw.trans (b2.mono hBw.size)
  replace hpa := (b2.block _ (blk_lt hpa)).trans hpa
  replace cpa0 : u2.cell? ⟨w.heap.size, 0, none⟩ = some (.int .i64 (p1 : Int)) := by rw [blk_cell hpa]; rfl
  replace cpa1 : u2.cell? ⟨w.heap.size, 1, none⟩ = some (.int .i64 (p2 : Int)) := by rw [blk_cell hpa]; rfl
  replace lpa := blk_lt hpa
  replace hrs := (b2.block _ (blk_lt hrs)).trans hrs
  replace crs0 : u2.cell? ⟨w.heap.size + 1, 0, none⟩ = some (.int .i64 0) := by rw [blk_cell hrs]; rfl
  replace crs1 : u2.cell? ⟨w.heap.size + 1, 1, none⟩ = some (.int .i64 0) := by rw [blk_cell hrs]; rfl
  replace crs2 : u2.cell? ⟨w.heap.size + 1, 2, none⟩ = some (.slice none 0 0) := by rw [blk_cell hrs]; rfl
  replace crs3 : u2.cell? ⟨w.heap.size + 1, 3, none⟩ = some (.int .i64 0) := by rw [blk_cell hrs]; rfl
  replace lrs := blk_lt hrs
  replace huu := (b2.block _ (blk_lt huu)).trans huu
  replace cuu0 : u2.cell? ⟨w.heap.size + 2, 0, none⟩ = some (.int .i64 (p1 : Int)) := by rw [blk_cell huu]; rfl
  replace cuu1 : u2.cell? ⟨w.heap.size + 2, 1, none⟩ = some (.int .i64 (p2 : Int)) := by rw [blk_cell huu]; rfl
  replace cuu2 : u2.cell? ⟨w.heap.size + 2, 2, none⟩ = some (.slice none 0 0) := by rw [blk_cell huu]; rfl
  replace cuu3 : u2.cell? ⟨w.heap.size + 2, 3, none⟩ = some (.int .i64 0) := by rw [blk_cell huu]; rfl
  replace luu := blk_lt huu
  have hcl8 : (clausesOf C.q S.kept).length ≤ 88 := by
    unfold clausesOf
    have h1 := hB.qb.cl
    have h2 := hB.kept
    have h3 : (S.kept.filter (fun f => f.1 == 1)).length ≤ S.kept.length := List.length_filter_le _ _
    simp; omega
  have HU : Hid (unitsOf C S (p1, p2) = unitsGo S.ref C.uni (clausesOf C.q S.kept) (C.q.vars.length + 1) (p1, p2) []) := hide rfl
  generalize clausesOf C.q S.kept = cs at *
  obtain ⟨aX, cX, rfl⟩ := own_form hX
  have hS1 := hS.later hBw
  have nuu : Far b V (w.heap.size + 2) := hS.fresh (by omega)
  clear cpa0 cpa1 lpa hpa cuu0 cuu1 cuu2 cuu3 luu crs0 crs1 crs2 crs3 lrs
  have lrs := blk_lt hrs
  have HCUR : Hid (∀ wx, Only (· = w.heap.size + 2) u2 wx → SAt wx b C S V ∧ wx.ownsRow u1.heap.size 3 1 (.slice aX cs.length cX) cs.length (ints cs) ∧ wx.heap[w.heap.size + 1]? = some (.cells #[.int .i64 0, .int .i64 0, .slice none 0 0, .int .i64 0] 117 (0, 0)) ∧ Below w.heap.size w wx) := hide (fun wx ho => ⟨hS1.only ho nuu, own_keep hX ho (fun j hj e => by
      obtain ⟨c, hc⟩ := own_bk hX j hj
      rw [e] at hc
      exact absurd (blk_type hc huu) (by decide)), (ho.block _ lrs (by omega)).trans hrs, hBw.trans (ho.below hBw.size (fun k hk e => by omega))⟩)
  have huu0 := huu
  clear hS hS1 hX hrs hBw huu b2
  go_wp2_with fail
  go_loopg [] (C.q.vars.length + 1) (fun m wx => ∃ (vals : Nat × Nat) (trail : List (Int × Nat)) (vT : Value), trail.length + m = C.q.vars.length + 1 ∧ (vals.1 < 512 ∧ vals.2 < 512) ∧ unitsOf C S (p1, p2) = unitsGo S.ref C.uni cs m vals trail ∧ Only (· = w.heap.size + 2) u2 wx ∧ wx.heap[w.heap.size + 2]? = some (.cells #[.int .i64 (vals.1 : Int), .int .i64 (vals.2 : Int), vT, .int .i64 0] 117 (0, 0)) ∧ wx.ownsRow u2.heap.size 139 2 vT trail.length (unitCells trail))
  case atStart => exact ⟨(p1, p2), [], _, by simp, hp, unhide HU, Only.refl _ _, huu0, World.ownsRow_nil _ _ _ _⟩
  case round =>
    obtain ⟨⟨v1, v2⟩, trail, vT, htm, hv9, hun, ho, hub, hoT⟩ := hrel
    dsimp only at hv9
    have HUN := hide hun
    clear hun huu0
    obtain ⟨aT, cT, rfl⟩ := own_form hoT
    obtain ⟨hSr, hXr, hrsr, hBr⟩ := unhide HCUR wr ho
    have q0 : wr.cell? ⟨b, 0, none⟩ = some (.slice aV C.q.vars.length cV) := by rw [blk_cell hSr.fb]; exact congrArg some hVf
    have cu2 : wr.cell? ⟨w.heap.size + 1 + 1, 2, none⟩ = some (.slice aT trail.length cT) := by rw [blk_cell hub]; rfl
    have lbr := blk_lt hSr.fb
    have lub := blk_lt hub
    have hlt9 : trail.length ≤ 9 := by omega
    by_cases hlt : trail.length ≤ C.q.vars.length
    · obtain ⟨m, rfl⟩ : ∃ m, gk = m + 1 := ⟨gk - 1, by omega⟩
      have HGO := hide (unitsGo_succ S.ref C.uni cs m (v1, v2) trail)
      have hd1 : decide ((trail.length : Int) ≤ (C.q.vars.length : Int)) = true := decide_eq_true (by omega)
      have hd2 : decide (trail.length ≤ C.q.vars.length) = true := decide_eq_true hlt
      go_wp2_with fail
      go_quiet (fail)
      have b0 : Below wr.heap.size wr (wr.drewN nq) := below_drewN (Below.refl _ _) nq
      have ho3 := ho.trans (Only.of_below (T := (· = w.heap.size + 2)) b0)
      have hub3 := (b0.block _ lub).trans hub
      have hoT3 := own_below hoT b0
      clear hSr hXr hrsr hBr q0 cu2 lbr lub ho hub hoT
      generalize wr.drewN nq = w3 at *
      obtain ⟨hS3, hX3, hrs3, hB3⟩ := unhide HCUR w3 ho3
      have c30 : w3.cell? ⟨w.heap.size + 1 + 1, 0, none⟩ = some (.int .i64 (v1 : Int)) := by rw [blk_cell hub3]; rfl
      have c31 : w3.cell? ⟨w.heap.size + 1 + 1, 1, none⟩ = some (.int .i64 (v2 : Int)) := by rw [blk_cell hub3]; rfl
      have c33 : w3.cell? ⟨w.heap.size + 1 + 1, 3, none⟩ = some (.int .i64 0) := by rw [blk_cell hub3]; rfl
      have z33 := blk_free hub3 3
      have lu3 := blk_lt hub3
      go_wp2_with fail
      refine (findConflict_any b C S V cs aX cX _ (v1, v2) w3 hS3 hB hv9 hX3 (by omega)).mono ?_
      rintro e w4 ⟨rfl, hb4⟩
      have ho4 := ho3.trans (Only.of_below (T := (· = w.heap.size + 2)) hb4)
      have hub4 := (hb4.block _ lu3).trans hub3
      have hoT4 := own_below hoT3 hb4
      clear hS3 hX3 hrs3 hB3 c30 c31 c33 z33 lu3 ho3 hub3 hoT3
      have c43 : w4.cell? ⟨w.heap.size + 1 + 1, 3, none⟩ = some (.int .i64 0) := by rw [blk_cell hub4]; rfl
      have z43 := blk_free hub4 3
      have lu4 := blk_lt hub4
      have hlo : w.heap.size ≤ u2.heap.size := by omega
      have hnT : (Value.slice aT trail.length cT).ownBlock ≠ some (w.heap.size + 2) := own_type_ne hoT4 hub4 (by decide)
      generalize hcf : confOf S.ref C.uni cs (v1, v2) = cf at *
      have HCF := hide hcf
      clear hcf
      have ho5 : Only (· = w.heap.size + 2) u2 (w4.setCell ⟨w.heap.size + 2, 3, none⟩ (.int .i64 (cf : Int))) := ho4.setAt 3 _
      have hub5 : (w4.setCell ⟨w.heap.size + 2, 3, none⟩ (.int .i64 (cf : Int))).heap[w.heap.size + 2]? = some (.cells #[.int .i64 (v1 : Int), .int .i64 (v2 : Int), .slice aT trail.length cT, .int .i64 (cf : Int)] 117 (0, 0)) := blk_set hub4 3 _
      have hoT5 := own_set_ne hoT4 (p := ⟨w.heap.size + 2, 3, none⟩) hnT (.int .i64 (cf : Int))
      by_cases hc0 : cf = 0
      · subst hc0
        have HGZ : Hid (unitsOf C S (p1, p2) = if (unitOf S.ref C.uni cs (v1, v2)).2 = 0 then ⟨(v1, v2), trail, 0⟩ else unitsGo S.ref C.uni cs m (withLit (v1, v2) (unitOf S.ref C.uni cs (v1, v2)).1) (trail ++ [unitOf S.ref C.uni cs (v1, v2)])) := hide (by rw [unhide HUN, unhide HGO, if_neg (fun h => h rfl)])
        have c40 : w4.cell? ⟨w.heap.size + 1 + 1, 0, none⟩ = some (.int .i64 (v1 : Int)) := by rw [blk_cell hub4]; rfl
        have c41 : w4.cell? ⟨w.heap.size + 1 + 1, 1, none⟩ = some (.int .i64 (v2 : Int)) := by rw [blk_cell hub4]; rfl
        clear ho5 hub5 hoT5
        have ho5 : Only (· = w.heap.size + 2) u2 (w4.setCell ⟨w.heap.size + 1 + 1, 3, none⟩ (.int .i64 0)) := ho4.setAt 3 _
        have hub5 : (w4.setCell ⟨w.heap.size + 1 + 1, 3, none⟩ (.int .i64 0)).heap[w.heap.size + 2]? = some (.cells #[.int .i64 (v1 : Int), .int .i64 (v2 : Int), .slice aT trail.length cT, .int .i64 0] 117 (0, 0)) := blk_set hub4 3 _
        have hoT5 := own_set_ne hoT4 (p := ⟨w.heap.size + 1 + 1, 3, none⟩) hnT (.int .i64 0)
        clear HGO HUN HCF hub4 hoT4 ho4
        go_wp2_with fail
        clear c40 c41 c43 z43 lu4
        obtain ⟨hS5, hX5, hrs5, hB5⟩ := unhide HCUR _ ho5
        have lu5 := blk_lt hub5
        have hbd := unitOf_bd S.ref C.uni cs (v1, v2)
        have HFU : Hid (∀ w5, SAt w5 b C S V → w5.ownsRow u1.heap.size 3 1 (.slice aX cs.length cX) cs.length (ints cs) → Calls Tryz.prog 73 #[.pointer (some ⟨b, 0, none⟩), .slice aX cs.length cX, SetV (v1, v2)] w5 fun e w' => e = .returned (UnitV (unitOf S.ref C.uni cs (v1, v2))) ∧ Below w5.heap.size w5 w') := hide (fun w5 h1 h2 => hFU b C S V cs aX cX _ (v1, v2) w5 h1 hB hv9 h2 (by omega))
        generalize unitOf S.ref C.uni cs (v1, v2) = un at *
        obtain ⟨x, n⟩ := un
        dsimp only at hbd HGZ
        generalize w4.setCell ⟨w.heap.size + 1 + 1, 3, none⟩ (.int .i64 0) = w5 at *
        refine (unhide HFU w5 hS5 hX5).mono ?_
        rintro e w6 ⟨rfl, hb6⟩
        have ho6 := ho5.trans (Only.of_below (T := (· = w.heap.size + 2)) hb6)
        have hub6 := (hb6.block _ lu5).trans hub5
        have hoT6 := own_below hoT5 hb6
        unfold UnitV
        dsimp only
        clear hS5 hX5 hrs5 hB5 HFU ho5 hub5 hoT5 lu5
        have hA : Below w6.heap.size w6 (w6.alloc (.cells #[.int .i64 x, .int .i64 (n : Int)] 139)) := (Below.refl _ _).alloc (Nat.le_refl _) _
        have hnx := heap_alloc_new w6 (.cells #[.int .i64 x, .int .i64 (n : Int)] 139)
        have ho7 := ho6.trans (Only.of_below (T := (· = w.heap.size + 2)) hA)
        have hubz := (hA.block _ (blk_lt hub6)).trans hub6
        have hoTz := own_below hoT6 hA
        obtain ⟨hSz, hXz, hrsz, hBz⟩ := unhide HCUR _ ho7
        by_cases hn0 : n = 0
        · have hq0 : ((n : Int) == 0) = true := by rw [beq_iff_eq]; omega
          have HF : Hid (unitsOf C S (p1, p2) = ⟨(v1, v2), trail, 0⟩) := hide (by rw [unhide HGZ, if_pos hn0])
          clear hub6 hoT6 ho6 hn0
          have r0 : (w6.alloc (.cells #[.int .i64 x, .int .i64 (n : Int)] 139)).cell? ⟨w.heap.size + 1, 0, none⟩ = some (.int .i64 0) := by rw [blk_cell hrsz]; rfl
          have r1 : (w6.alloc (.cells #[.int .i64 x, .int .i64 (n : Int)] 139)).cell? ⟨w.heap.size + 1, 1, none⟩ = some (.int .i64 0) := by rw [blk_cell hrsz]; rfl
          have r2 : (w6.alloc (.cells #[.int .i64 x, .int .i64 (n : Int)] 139)).cell? ⟨w.heap.size + 1, 2, none⟩ = some (.slice none 0 0) := by rw [blk_cell hrsz]; rfl
          have r3 : (w6.alloc (.cells #[.int .i64 x, .int .i64 (n : Int)] 139)).cell? ⟨w.heap.size + 1, 3, none⟩ = some (.int .i64 0) := by rw [blk_cell hrsz]; rfl
          have y0 := blk_free hrsz 0
          have y1 := blk_free hrsz 1
          have y2 := blk_free hrsz 2
          have y3 := blk_free hrsz 3
          have lrz := blk_lt hrsz
          have d0 : (w6.alloc (.cells #[.int .i64 x, .int .i64 (n : Int)] 139)).cell? ⟨w.heap.size + 1 + 1, 0, none⟩ = some (.int .i64 (v1 : Int)) := by rw [blk_cell hubz]; rfl
          have d1 : (w6.alloc (.cells #[.int .i64 x, .int .i64 (n : Int)] 139)).cell? ⟨w.heap.size + 1 + 1, 1, none⟩ = some (.int .i64 (v2 : Int)) := by rw [blk_cell hubz]; rfl
          have d2 : (w6.alloc (.cells #[.int .i64 x, .int .i64 (n : Int)] 139)).cell? ⟨w.heap.size + 1 + 1, 2, none⟩ = some (.slice aT trail.length cT) := by rw [blk_cell hubz]; rfl
          have d3 : (w6.alloc (.cells #[.int .i64 x, .int .i64 (n : Int)] 139)).cell? ⟨w.heap.size + 1 + 1, 3, none⟩ = some (.int .i64 0) := by rw [blk_cell hubz]; rfl
          have luz := blk_lt hubz
          have hR := blk_set (blk_set (blk_set (blk_set hrsz 0 (.int .i64 (v1 : Int))) 1 (.int .i64 (v2 : Int))) 2 (.slice aT trail.length cT)) 3 (.int .i64 0)
          have j0 := blk_cell hR 0
          have j1 := blk_cell hR 1
          have j2 := blk_cell hR 2
          have j3 := blk_cell hR 3
          have HOW := hide (own_set_ne (own_set_ne (own_set_ne (own_set_ne hoTz (p := ⟨w.heap.size + 1, 0, none⟩) (own_type_ne hoTz hrsz (by decide)) (.int .i64 (v1 : Int))) (p := ⟨w.heap.size + 1, 1, none⟩) (own_type_ne hoTz hrsz (by decide)) (.int .i64 (v2 : Int))) (p := ⟨w.heap.size + 1, 2, none⟩) (own_type_ne hoTz hrsz (by decide)) (.slice aT trail.length cT)) (p := ⟨w.heap.size + 1, 3, none⟩) (own_type_ne hoTz hrsz (by decide)) (.int .i64 0))
          have HBZ := hide ((((hBz.setCell (p := ⟨w.heap.size + 1, 0, none⟩) (Nat.le_succ _) (.int .i64 (v1 : Int))).setCell (p := ⟨w.heap.size + 1, 1, none⟩) (Nat.le_succ _) (.int .i64 (v2 : Int))).setCell (p := ⟨w.heap.size + 1, 2, none⟩) (Nat.le_succ _) (.slice aT trail.length cT)).setCell (p := ⟨w.heap.size + 1, 3, none⟩) (Nat.le_succ _) (.int .i64 0))
          clear hoTz hSz hXz hBz
          go_wp2_with fail
          refine bodyPost_ret (v := .agg #[.int .i64 (v1 : Int), .int .i64 (v2 : Int), .slice aT trail.length cT, .int .i64 0]) (by simp [results, Tryz.results50, go_sem, j0, j1, j2, j3]) rfl ⟨.slice aT trail.length cT, by rw [unhide HF]; rfl, by rw [unhide HF]; exact own_lo (unhide HOW) hlo, unhide HBZ⟩
        · have HF : Hid (unitsOf C S (p1, p2) = unitsGo S.ref C.uni cs m (withLit (v1, v2) x) (trail ++ [(x, n)])) := hide (by rw [unhide HGZ, if_neg hn0])
          have hq0 : ((n : Int) == 0) = false := by rw [beq_eq_false_iff_ne]; omega
          have c60 : w6.cell? ⟨w.heap.size + 1 + 1, 0, none⟩ = some (.int .i64 (v1 : Int)) := by rw [blk_cell hub6]; rfl
          have c61 : w6.cell? ⟨w.heap.size + 1 + 1, 1, none⟩ = some (.int .i64 (v2 : Int)) := by rw [blk_cell hub6]; rfl
          have lu6 := blk_lt hub6
          go_wp2_with fail
          refine (with_any v1 v2 x _ hv9.1 hv9.2 (by omega) (by omega)).mono ?_
          rintro e w7 ⟨rfl, hb7⟩
          have hlu6 : w.heap.size + 1 + 1 ≠ w6.heap.size := by omega
          have hnB := (hb7.block _ (blk_lt hnx)).trans hnx
          have ho8 := ho7.trans (Only.of_below (T := (· = w.heap.size + 2)) hb7)
          have hub7 := (hb7.block _ (blk_lt hubz)).trans hubz
          have hoT7 := own_below hoTz hb7
          clear c60 c61 lu6 hub6 hoT6 ho6 hSz hXz hrsz hBz hnx ho7 hubz hoTz hA
          have hw9 : (withLit (v1, v2) x).1 < 512 ∧ (withLit (v1, v2) x).2 < 512 := withLit_lt (v1, v2) x hv9.1 hv9.2
          generalize withLit (v1, v2) x = wl at *
          obtain ⟨x1, x2⟩ := wl
          dsimp only at *
          have c70 : w7.cell? ⟨w.heap.size + 1 + 1, 0, none⟩ = some (.int .i64 (v1 : Int)) := by rw [blk_cell hub7]; rfl
          have c71 : w7.cell? ⟨w.heap.size + 1 + 1, 1, none⟩ = some (.int .i64 (v2 : Int)) := by rw [blk_cell hub7]; rfl
          have c72 : w7.cell? ⟨w.heap.size + 1 + 1, 2, none⟩ = some (.slice aT trail.length cT) := by rw [blk_cell hub7]; rfl
          have z70 := blk_free hub7 0
          have z71 := blk_free hub7 1
          have z72 := blk_free hub7 2
          have lu7 := blk_lt hub7
          have hnB8 : ((w7.setCell ⟨w.heap.size + 1 + 1, 0, none⟩ (.int .i64 (x1 : Int))).setCell ⟨w.heap.size + 1 + 1, 1, none⟩ (.int .i64 (x2 : Int))).heap[w6.heap.size]? = some (.cells #[.int .i64 x, .int .i64 (n : Int)] 139 (0, 0)) := blk_other (blk_other hnB hlu6 0 _) hlu6 1 _
          have cn0 := blk_cell hnB8 0
          have cn1 := blk_cell hnB8 1
          clear hlu6
          have hub8 := blk_set (blk_set hub7 0 (.int .i64 (x1 : Int))) 1 (.int .i64 (x2 : Int))
          have hoT8 := own_set_ne (own_set_ne hoT7 (p := ⟨w.heap.size + 1 + 1, 0, none⟩) hnT (.int .i64 (x1 : Int))) (p := ⟨w.heap.size + 1 + 1, 1, none⟩) hnT (.int .i64 (x2 : Int))
          have ho8' : Only (· = w.heap.size + 2) u2 ((w7.setCell ⟨w.heap.size + 1 + 1, 0, none⟩ (.int .i64 (x1 : Int))).setCell ⟨w.heap.size + 1 + 1, 1, none⟩ (.int .i64 (x2 : Int))) := (ho8.setAt 0 _).setAt 1 _
          have lu8 := blk_lt hub8
          have hbs8 := ho8'.size
          have hT8 : ∀ k, (Value.slice aT trail.length cT).ownBlock = some k → u2.heap.size ≤ k := fun k hk => own_ge hoT8 hk
          have HO8 := hide ho8'
          have HU8 := hide hub8
          have HT8 := hide hoT8
          have HNT := hide hnT
          have HK8 := hide hT8
          clear ho8' hub8 hoT8 hnT hT8
          go_wp2_with (at_builtin; refine wpList_append_new' rfl (.tmp 48) (.tmp 50) 115 rfl u2.heap.size i1 (.agg #[.int .i64 0, .int .i64 0]) 2 16 Tryz.underlying115 hi1 hz10 hz11 hz12 rfl (by decide) _ _ _ (unhide HT8) rfl _ rfl (by simp [World.setCell]) rfl (by simp [Value.oneCell']) (by unfold maxLen; omega) (by omega) hbs8 ?_; intro v' w9 hown9 hgrow hat; have hub9 := (hgrow.block (w.heap.size + 2) lu8 (fun e => unhide HNT e.symm)).trans (unhide HU8); have c92 : w9.cell? ⟨w.heap.size + 1 + 1, 2, none⟩ = some (.slice aT trail.length cT) := (by rw [blk_cell hub9]; rfl); have z92 := blk_free hub9 2; have lu9 := blk_lt hub9; have ho9 := (unhide HO8).grown hgrow (fun k hk => Or.inr (unhide HK8 k hk)); clear hgrow; obtain ⟨a9, c9, rfl⟩ := own_form hown9)
          have hn9 : (Value.slice a9 (trail.length + 1) c9).ownBlock ≠ some (w.heap.size + 2) := own_type_ne hown9 hub9 (by decide)
          have hF9 := own_set_ne hown9 (p := ⟨w.heap.size + 1 + 1, 2, none⟩) hn9 (.slice a9 (trail.length + 1) c9)
          have hU9 := blk_set hub9 2 (.slice a9 (trail.length + 1) c9)
          have hO9 := ho9.setAt 2 (.slice a9 (trail.length + 1) c9)
          go_wp2_with fail
          go_roundg m
          case measure => omega
          case rel => exact ⟨(x1, x2), trail ++ [(x, n)], .slice a9 (trail.length + 1) c9, by simp; omega, hw9, unhide HF, hO9, hU9, by rw [List.length_append, unitCells_snoc]; exact hF9⟩
      · have HF : Hid (unitsOf C S (p1, p2) = ⟨(v1, v2), trail, cf⟩) := hide (by rw [unhide HUN, unhide HGO, if_pos hc0])
        have hd3 : decide ((0 : Int) < (cf : Int)) = true := decide_eq_true (by omega)
        have hd4 : decide (0 < cf) = true := decide_eq_true (by omega)
        obtain ⟨hSz, hXz, hrsz, hBz⟩ := unhide HCUR _ ho5
        have hubz := hub5
        have hoTz := hoT5
        clear hub4 hoT4 ho4 hub5 hoT5 ho5
        have r0 : (w4.setCell ⟨w.heap.size + 2, 3, none⟩ (.int .i64 (cf : Int))).cell? ⟨w.heap.size + 1, 0, none⟩ = some (.int .i64 0) := by rw [blk_cell hrsz]; rfl
        have r1 : (w4.setCell ⟨w.heap.size + 2, 3, none⟩ (.int .i64 (cf : Int))).cell? ⟨w.heap.size + 1, 1, none⟩ = some (.int .i64 0) := by rw [blk_cell hrsz]; rfl
        have r2 : (w4.setCell ⟨w.heap.size + 2, 3, none⟩ (.int .i64 (cf : Int))).cell? ⟨w.heap.size + 1, 2, none⟩ = some (.slice none 0 0) := by rw [blk_cell hrsz]; rfl
        have r3 : (w4.setCell ⟨w.heap.size + 2, 3, none⟩ (.int .i64 (cf : Int))).cell? ⟨w.heap.size + 1, 3, none⟩ = some (.int .i64 0) := by rw [blk_cell hrsz]; rfl
        have y0 := blk_free hrsz 0
        have y1 := blk_free hrsz 1
        have y2 := blk_free hrsz 2
        have y3 := blk_free hrsz 3
        have lrz := blk_lt hrsz
        have d0 : (w4.setCell ⟨w.heap.size + 2, 3, none⟩ (.int .i64 (cf : Int))).cell? ⟨w.heap.size + 1 + 1, 0, none⟩ = some (.int .i64 (v1 : Int)) := by rw [blk_cell hubz]; rfl
        have d1 : (w4.setCell ⟨w.heap.size + 2, 3, none⟩ (.int .i64 (cf : Int))).cell? ⟨w.heap.size + 1 + 1, 1, none⟩ = some (.int .i64 (v2 : Int)) := by rw [blk_cell hubz]; rfl
        have d2 : (w4.setCell ⟨w.heap.size + 2, 3, none⟩ (.int .i64 (cf : Int))).cell? ⟨w.heap.size + 1 + 1, 2, none⟩ = some (.slice aT trail.length cT) := by rw [blk_cell hubz]; rfl
        have d3 : (w4.setCell ⟨w.heap.size + 2, 3, none⟩ (.int .i64 (cf : Int))).cell? ⟨w.heap.size + 1 + 1, 3, none⟩ = some (.int .i64 (cf : Int)) := by rw [blk_cell hubz]; rfl
        have luz := blk_lt hubz
        have hR := blk_set (blk_set (blk_set (blk_set hrsz 0 (.int .i64 (v1 : Int))) 1 (.int .i64 (v2 : Int))) 2 (.slice aT trail.length cT)) 3 (.int .i64 (cf : Int))
        have j0 := blk_cell hR 0
        have j1 := blk_cell hR 1
        have j2 := blk_cell hR 2
        have j3 := blk_cell hR 3
        have HOW := hide (own_set_ne (own_set_ne (own_set_ne (own_set_ne hoTz (p := ⟨w.heap.size + 1, 0, none⟩) (own_type_ne hoTz hrsz (by decide)) (.int .i64 (v1 : Int))) (p := ⟨w.heap.size + 1, 1, none⟩) (own_type_ne hoTz hrsz (by decide)) (.int .i64 (v2 : Int))) (p := ⟨w.heap.size + 1, 2, none⟩) (own_type_ne hoTz hrsz (by decide)) (.slice aT trail.length cT)) (p := ⟨w.heap.size + 1, 3, none⟩) (own_type_ne hoTz hrsz (by decide)) (.int .i64 (cf : Int)))
        have HBZ := hide ((((hBz.setCell (p := ⟨w.heap.size + 1, 0, none⟩) (Nat.le_succ _) (.int .i64 (v1 : Int))).setCell (p := ⟨w.heap.size + 1, 1, none⟩) (Nat.le_succ _) (.int .i64 (v2 : Int))).setCell (p := ⟨w.heap.size + 1, 2, none⟩) (Nat.le_succ _) (.slice aT trail.length cT)).setCell (p := ⟨w.heap.size + 1, 3, none⟩) (Nat.le_succ _) (.int .i64 (cf : Int)))
        clear hoTz hSz hXz hBz
        go_wp2_with fail
        refine bodyPost_ret (v := .agg #[.int .i64 (v1 : Int), .int .i64 (v2 : Int), .slice aT trail.length cT, .int .i64 (cf : Int)]) (by simp [results, Tryz.results50, go_sem, j0, j1, j2, j3]) rfl ⟨.slice aT trail.length cT, by rw [unhide HF], by rw [unhide HF]; exact own_lo (unhide HOW) hlo, unhide HBZ⟩
    · have hm0 : gk = 0 := by omega
      subst hm0
      have hd1 : decide ((trail.length : Int) ≤ (C.q.vars.length : Int)) = false := decide_eq_false (by omega)
      have hd2 : decide (trail.length ≤ C.q.vars.length) = false := decide_eq_false hlt
      have HF : Hid (unitsOf C S (p1, p2) = ⟨(v1, v2), trail, 0⟩) := hide (by rw [unhide HUN]; rfl)
      go_wp2_with fail
      go_quiet (fail)
      have b0 : Below wr.heap.size wr (wr.drewN nq) := below_drewN (Below.refl _ _) nq
      have ho3 := ho.trans (Only.of_below (T := (· = w.heap.size + 2)) b0)
      have hubz := (b0.block _ lub).trans hub
      have hoTz := own_below hoT b0
      clear hSr hXr hrsr hBr q0 cu2 lbr lub ho hub hoT
      generalize wr.drewN nq = w3 at *
      have hlo : w.heap.size ≤ u2.heap.size := by omega
      obtain ⟨hSz, hXz, hrsz, hBz⟩ := unhide HCUR w3 ho3
      have r0 : w3.cell? ⟨w.heap.size + 1, 0, none⟩ = some (.int .i64 0) := by rw [blk_cell hrsz]; rfl
      have r1 : w3.cell? ⟨w.heap.size + 1, 1, none⟩ = some (.int .i64 0) := by rw [blk_cell hrsz]; rfl
      have r2 : w3.cell? ⟨w.heap.size + 1, 2, none⟩ = some (.slice none 0 0) := by rw [blk_cell hrsz]; rfl
      have r3 : w3.cell? ⟨w.heap.size + 1, 3, none⟩ = some (.int .i64 0) := by rw [blk_cell hrsz]; rfl
      have y0 := blk_free hrsz 0
      have y1 := blk_free hrsz 1
      have y2 := blk_free hrsz 2
      have y3 := blk_free hrsz 3
      have lrz := blk_lt hrsz
      have d0 : w3.cell? ⟨w.heap.size + 1 + 1, 0, none⟩ = some (.int .i64 (v1 : Int)) := by rw [blk_cell hubz]; rfl
      have d1 : w3.cell? ⟨w.heap.size + 1 + 1, 1, none⟩ = some (.int .i64 (v2 : Int)) := by rw [blk_cell hubz]; rfl
      have d2 : w3.cell? ⟨w.heap.size + 1 + 1, 2, none⟩ = some (.slice aT trail.length cT) := by rw [blk_cell hubz]; rfl
      have d3 : w3.cell? ⟨w.heap.size + 1 + 1, 3, none⟩ = some (.int .i64 0) := by rw [blk_cell hubz]; rfl
      have luz := blk_lt hubz
      have hR := blk_set (blk_set (blk_set (blk_set hrsz 0 (.int .i64 (v1 : Int))) 1 (.int .i64 (v2 : Int))) 2 (.slice aT trail.length cT)) 3 (.int .i64 0)
      have j0 := blk_cell hR 0
      have j1 := blk_cell hR 1
      have j2 := blk_cell hR 2
      have j3 := blk_cell hR 3
      have HOW := hide (own_set_ne (own_set_ne (own_set_ne (own_set_ne hoTz (p := ⟨w.heap.size + 1, 0, none⟩) (own_type_ne hoTz hrsz (by decide)) (.int .i64 (v1 : Int))) (p := ⟨w.heap.size + 1, 1, none⟩) (own_type_ne hoTz hrsz (by decide)) (.int .i64 (v2 : Int))) (p := ⟨w.heap.size + 1, 2, none⟩) (own_type_ne hoTz hrsz (by decide)) (.slice aT trail.length cT)) (p := ⟨w.heap.size + 1, 3, none⟩) (own_type_ne hoTz hrsz (by decide)) (.int .i64 0))
      have HBZ := hide ((((hBz.setCell (p := ⟨w.heap.size + 1, 0, none⟩) (Nat.le_succ _) (.int .i64 (v1 : Int))).setCell (p := ⟨w.heap.size + 1, 1, none⟩) (Nat.le_succ _) (.int .i64 (v2 : Int))).setCell (p := ⟨w.heap.size + 1, 2, none⟩) (Nat.le_succ _) (.slice aT trail.length cT)).setCell (p := ⟨w.heap.size + 1, 3, none⟩) (Nat.le_succ _) (.int .i64 0))
      clear hoTz hSz hXz hBz
      go_wp2_with fail
      refine bodyPost_ret (v := .agg #[.int .i64 (v1 : Int), .int .i64 (v2 : Int), .slice aT trail.length cT, .int .i64 0]) (by simp [results, Tryz.results50, go_sem, j0, j1, j2, j3]) rfl ⟨.slice aT trail.length cT, by rw [unhide HF]; rfl, by rw [unhide HF]; exact own_lo (unhide HOW) hlo, unhide HBZ⟩
end Go.Proofs.YtgipjjhkhfihpabGreatDoor
