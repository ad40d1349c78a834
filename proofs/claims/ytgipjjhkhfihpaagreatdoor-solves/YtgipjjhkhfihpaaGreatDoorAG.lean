import Derived.Test.YtgipjjhkhfihpaaGreatDoorAF
import Derived.ArgAppend
import Derived.Deep.RegionLaw
import Derived.Deep.DeepCutAuto
import Derived.Test.YtgipjjhkhfihpaaGreatDoorAE
import Derived.Test.YtgipjjhkhfihpaaGreatDoorAD
namespace Go.Proofs.YtgipjjhkhfihpaaGreatDoor
open Go.RowKit

set_option maxRecDepth 100000 in
set_option maxHeartbeats 1600000 in
theorem sreduce_any (b : Nat) (C : SC) (S : SS) (V : SV) (f : Nat × Nat) (w : World) (hS : SAt w b C S V) (hB : SBd C S) (hk : f.1 = 1 ∨ f.1 = 2) (hf : f.2 ≤ 1048576) :
    Calls Tryz.prog 114 #[.pointer (some ⟨b, 0, none⟩), FactV f] w fun e w' => e = .returned (FactV (S.reduce C.q f).2) ∧ SPost b C (S.reduce C.q f).1 V w w' := by
  obtain ⟨fk, fs⟩ := f
  obtain ⟨aV, cV, hVf⟩ := own_form hS.oV
  obtain ⟨aC, cC, hCf⟩ := own_form hS.oC
  have HR : Hid (S.reduce C.q (fk, fs) = (S.put fk (redP C.q fk (S.proof fk) fs).1, (fk, (redP C.q fk (S.proof fk) fs).2))) := hide rfl
  go_enter Tryz.func114, Tryz.ntmps114
  go_wp2_with fail
  generalize hw0 : ((w.alloc (.cells #[.int .i64 (fk : Int), .int .i64 (fs : Int)] 129)).alloc (.cells #[.int .i64 0, .int .i64 0] 129)) = u1
  have hb0 : Below w.heap.size w u1 := by rw [← hw0]; exact ((Below.refl _ _).alloc (Nat.le_refl _) _).alloc (by simp; try omega) _
  have hfa : u1.heap[w.heap.size]? = some (.cells #[.int .i64 (fk : Int), .int .i64 (fs : Int)] 129 (0, 0)) := by rw [← hw0, heap_alloc_old _ _ (by simp; try omega)]; exact alloc_new_at (by simp)
  have nfa : Far b V (w.heap.size) := hS.fresh (by omega)
  have hrs : u1.heap[w.heap.size + 1]? = some (.cells #[.int .i64 0, .int .i64 0] 129 (0, 0)) := by rw [← hw0]; exact alloc_new_at (by simp)
  have nrs : Far b V (w.heap.size + 1) := hS.fresh (by omega)
  clear hw0
  have hM : SMoved b w u1 V V := SMoved.of_below hb0
  replace hS := hS.later hb0
  have lb := blk_lt hS.fb
  have cfa0 : u1.cell? ⟨w.heap.size, 0, none⟩ = some (.int .i64 (fk : Int)) := by rw [blk_cell hfa]; rfl
  have cfa1 : u1.cell? ⟨w.heap.size, 1, none⟩ = some (.int .i64 (fs : Int)) := by rw [blk_cell hfa]; rfl
  have lfa := blk_lt hfa
  have crs0 : u1.cell? ⟨w.heap.size + 1, 0, none⟩ = some (.int .i64 0) := by rw [blk_cell hrs]; rfl
  have crs1 : u1.cell? ⟨w.heap.size + 1, 1, none⟩ = some (.int .i64 0) := by rw [blk_cell hrs]; rfl
  have lrs := blk_lt hrs
  refine (sproof_any b fk _ lb).mono ?_
  rintro e w2 ⟨rfl, hw2⟩
  subst hw2
  have q0 : w2.cell? ⟨b, 0, none⟩ = some (.slice aV C.q.vars.length cV) := by rw [blk_cell hS.fb]; exact congrArg some hVf
  have q1 : w2.cell? ⟨b, 1, none⟩ = some (.slice aC C.q.cl.length cC) := by rw [blk_cell hS.fb]; exact congrArg some hCf
  have hoV : w2.ownsRow 0 139 2 (.slice aV C.q.vars.length cV) C.q.vars.length (varCells C.q.vars) := by rw [← hVf]; exact hS.oV
  go_wp2_with fail
  have hb9 : Below w2.heap.size w2 w2.drew := (Below.refl _ w2).drew
  go_region_with (go_at_call 133; refine (preduce_any b (pOff fk) _ _ C.q _ (.slice aC C.q.cl.length cC) _ _ fk fs _ ((hS.later hb9).pat hk) (own_below hoV hb9) ⟨_, _, _, rfl⟩ hB.qb (hB.proof fk).1 (hB.proof fk).2 hf).mono ?_; rintro e w3 ⟨rfl, hgo⟩; obtain ⟨V2, hS2, hM1⟩ := (hS.later hb9).put hk hgo; have hM2 := (SMoved.of_below hb9).trans hM1; clear hgo; have hrs2 := hM2.blk hrs nrs; have nrs2 := hM2.far lrs nrs; have hM3 := hM.trans hM2; have crs20 : w3.cell? ⟨w.heap.size + 1, 0, none⟩ = some (.int .i64 0) := (by rw [blk_cell hrs2]; rfl); have crs21 : w3.cell? ⟨w.heap.size + 1, 1, none⟩ = some (.int .i64 0) := (by rw [blk_cell hrs2]; rfl); have hfa2 := hM2.blk hfa nfa; have cfa20 : w3.cell? ⟨w.heap.size, 0, none⟩ = some (.int .i64 (fk : Int)) := (by rw [blk_cell hfa2]; rfl); have l3 := blk_lt hrs2; have l4 : w.heap.size < w3.heap.size := (by omega); have z0 := blk_free hrs2 0; have z1 := blk_free hrs2 1)
  all_goals
    generalize hrn : (redP C.q fk (S.proof fk) fs).2 = rn at *
    have HF : Hid (S.reduce C.q (fk, fs) = (S.put fk (redP C.q fk (S.proof fk) fs).1, (fk, rn))) := HR
    have hR := blk_set (blk_set hrs2 0 (.int .i64 (fk : Int))) 1 (.int .i64 (rn : Int))
    have j0 := blk_cell hR 0
    have j1 := blk_cell hR 1
    clear hrn HR
    go_wp2_with fail
    refine bodyPost_ret (v := FactV (fk, rn)) (by simp [results, Tryz.results114, go_sem, j0, j1]) rfl ⟨by rw [unhide HF], ?_⟩
    rw [unhide HF]
    exact ⟨V2, (hS2.set nrs2 0 _).set nrs2 1 _, (hM3.set (Nat.le_succ _) 0 _).set (Nat.le_succ _) 1 _⟩
end Go.Proofs.YtgipjjhkhfihpaaGreatDoor

namespace Go.Proofs.YtgipjjhkhfihpaaGreatDoor
open Go.RowKit

/-! ### append onto a row that may begin inside its block -/
section
variable {P : Program}
theorem rowAt_of_own {w : World} {base : Nat} {e : TypeId} {size : Nat} {v : Value} {n : Nat} {xs : List Value} (h : w.ownsRow base e size v n xs) : RowAt w e size v n xs := by
  obtain ⟨h1, h2⟩ := h
  refine ⟨h1, ?_⟩
  rcases h2 with ⟨rfl, rfl⟩ | ⟨g, cap, cur, rfl, _, hg, hc, hm, hs, ht⟩
  · exact Or.inl ⟨rfl, none, rfl, fun k hk => by cases hk⟩
  · refine Or.inr ⟨g, 0, cap, cur, rfl, hg, hc, hm, by omega, fun j u hj => ?_⟩
    rw [← ht, List.getElem?_take] at hj
    split at hj
    · simpa using hj
    · cases hj
theorem run_append_row2 (w : World) (t ty e : TypeId) (i : TypeInfo) (z : Value) (bytes : Nat) (ht : P.underlying t = some (.slice e)) (hi : P.info? e = some i) (hz : i.zero = some z) (hsize : i.size = 2) (hby : i.bytes = bytes) (hzs : z.cells.size = 2)
    (v : Value) (n : Nat) (xs : List Value) (h : RowAt w e 2 v n xs) (a : Addr) (c : Nat) (x y : Value) (hx : w.cell? a = some x) (hy : w.cell? (a.add 1) = some y) (ox : x.oneCell' = true) (oy : y.oneCell' = true) (h63 : n + 1 ≤ 1048576) (hbytes : bytes ≤ 1024) :
    ∃ v' w', (Builtin.append_ #[t, t] ty #[v, .slice (some a) 1 c]).run P w = .ok v' w' ∧ RowAt w' e 2 v' (n + 1) (xs ++ [x, y]) ∧ Only (fun k => v.ownBlock = some k) w w' ∧ Moved w v v' := by
  have hl : [x, y].length = 1 * 2 := rfl
  have ha0 : a.add 0 = a := by unfold Addr.add; split <;> simp_all
  have hnews : ∀ j u, [x, y][j]? = some u → w.cell? (a.add j) = some u := by
    intro j u hj
    match j, hj with
    | 0, hj => simp at hj; subst hj; rw [ha0]; exact hx
    | 1, hj => simp at hj; subst hj; exact hy
    | j + 2, hj => simp at hj
  have hb1 : (n + 1) * bytes ≤ 140737488355328 := by
    have : (n + 1) * bytes ≤ 1048576 * 1024 := Nat.mul_le_mul h63 hbytes
    omega
  have hmax : n + 1 ≤ maxLen := by unfold maxLen; omega
  obtain ⟨hlen, hh⟩ := h
  have grow : ∀ (b : Addr) (cap : Nat), v = .slice (some b) n cap → cap < n + 1 → (∀ j u, xs[j]? = some u → w.cell? (b.add j) = some u) → ∃ v' w', (Builtin.append_ #[t, t] ty #[v, .slice (some a) 1 c]).run P w = .ok v' w' ∧ RowAt w' e 2 v' (n + 1) (xs ++ [x, y]) ∧ Only (fun k => v.ownBlock = some k) w w' ∧ Moved w v v' := by
    intro b cap hv hcap holds
    subst hv
    obtain ⟨v', w', h1, h2, h3⟩ := run_append_arg_grows (P := P) w t ty e i z 2 bytes ht hi hz hsize hby hzs (by decide) b n cap xs hlen holds a 1 c [x, y] hl hnews hcap hmax hb1
    refine ⟨v', w', h1, rowAt_of_own h2, ⟨h3.os, h3.tape, h3.output, h3.size, fun k hk _ => h3.block k hk (by simp)⟩, ?_⟩
    rcases h2.2 with ⟨_, h0⟩ | ⟨g, cap', cur, rfl, hg, _⟩
    · omega
    · exact Or.inr ⟨g, rfl, hg⟩
  rcases hh with ⟨hn0, a0, hv, hbk⟩ | ⟨g, off, cap, cur, hv, hg, hnc, hcm, hcs, hcells⟩
  · subst hn0
    have hxs : xs = [] := List.eq_nil_of_length_eq_zero (by simpa using hlen)
    cases a0 with
    | none =>
      subst hv hxs
      obtain ⟨v', w', h1, h2, h3, h4⟩ := run_append_at (P := P) w w.heap.size t ty e i z 2 bytes ht hi hz hsize hby hzs (by decide) (.slice none 0 0) 0 [] (World.ownsRow_nil _ _ _ _) a 1 c [x, y] hl hnews (by simp [ox, oy]) (by decide) hmax hb1 (Nat.le_refl _)
      refine ⟨v', w', h1, rowAt_of_own h2, ⟨h3.os, h3.tape, h3.output, h3.size, fun k hk _ => h3.block k hk (fun e => by cases e)⟩, h4⟩
    | some b => exact grow b 0 hv (by omega) (fun j u hj => by rw [hxs] at hj; simp at hj)
  · by_cases hroom : n + 1 ≤ cap
    · subst hv
      have hsz : off + n * 2 + 1 < cur.size := by omega
      have hr := run_append_room_cells (P := P) w t ty e i ht hi g off n cap a 1 c [x, y] (by rw [hsize]; rfl) hnews (by simp [ox, oy]) hroom (by
        intro j hj
        rw [hsize, blk_cell hg]
        have : off + n * 2 + j < cur.size := by simp at hj; omega
        simp [this]) (by intro j hj; exact blk_free hg _)
      rw [hsize] at hr
      have hset : w.setCells g (off + n * 2) [x, y] = (w.setCell ⟨g, off + n * 2, none⟩ x).setCell ⟨g, off + n * 2 + 1, none⟩ y := rfl
      rw [hset] at hr
      have hg2 := blk_set (blk_set hg (off + n * 2) x) (off + n * 2 + 1) y
      refine ⟨_, _, hr, ⟨by simp [hlen]; omega, Or.inr ⟨g, off, cap, _, rfl, hg2, hroom, hcm, by simpa using hcs, ?_⟩⟩, ((Only.refl (fun k => (Value.slice (some ⟨g, off, none⟩) n cap).ownBlock = some k) w).setCell (p := ⟨g, off + n * 2, none⟩) (Or.inl rfl) x).setCell (p := ⟨g, off + n * 2 + 1, none⟩) (Or.inl rfl) y, Or.inl rfl⟩
      intro j u hj
      rw [Array.getElem?_setIfInBounds, Array.getElem?_setIfInBounds]
      rcases Nat.lt_or_ge j (n * 2) with h1 | h1
      · rw [List.getElem?_append_left (by omega)] at hj
        rw [if_neg (by omega), if_neg (by omega)]
        exact hcells j u hj
      · rw [List.getElem?_append_right (by omega), hlen] at hj
        have : j - n * 2 = 0 ∨ j - n * 2 = 1 := by
          rcases Nat.lt_or_ge (j - n * 2) 2 with h2 | h2
          · omega
          · rw [List.getElem?_eq_none (by simpa using h2)] at hj; cases hj
        rcases this with h2 | h2
        · rw [h2] at hj
          simp at hj
          subst hj
          have e1 : j = n * 2 := by omega
          subst e1
          rw [if_neg (by omega), if_pos rfl, if_pos (by omega)]
        · rw [h2] at hj
          simp at hj
          subst hj
          have e1 : j = n * 2 + 1 := by omega
          subst e1
          rw [if_pos (by omega), if_pos (by simp; omega)]
    · exact grow ⟨g, off, none⟩ cap hv (by omega) (fun j u hj => by
        have hadd : (⟨g, off, none⟩ : Addr).add j = ⟨g, off + j, none⟩ := by unfold Addr.add; split <;> simp_all
        rw [hadd, blk_cell hg]; exact hcells j u hj)
theorem step_append_row2 {ops : Array Oper} {o : Oper} {a : Act} {w : World} {K : Act → World → Prop} {Q : Exit → Act → World → Prop} {E : Prop}
    (hg : o.guard = none) (s x : Operand) (t : TypeId) (hop : o.op = Op.call { callee := Callee.builtin Builtin.append, args := #[s, x], argTypes := #[t, t] })
    (e : TypeId) (i : TypeInfo) (z : Value) (bytes : Nat) (ht : P.underlying t = some (.slice e)) (hi : P.info? e = some i) (hz : i.zero = some z) (hsize : i.size = 2) (hby : i.bytes = bytes) (hzs : z.cells.size = 2)
    (v : Value) (n : Nat) (xs : List Value) (hrow : RowAt w e 2 v n xs) (hs : a.eval s = v) (ad : Addr) (c : Nat) (p q : Value) (hx : a.eval x = .slice (some ad) 1 c) (hp : w.cell? ad = some p) (hq : w.cell? (ad.add 1) = some q) (op : p.oneCell' = true) (oq : q.oneCell' = true) (h63 : n + 1 ≤ 1048576) (hbytes : bytes ≤ 1024)
    (hK : ∀ v' w', RowAt w' e 2 v' (n + 1) (xs ++ [p, q]) → Only (fun k => v.ownBlock = some k) w w' → Moved w v v' → K (a.put o.dst v') w') :
    if Region.wanted o (yielded ops a.tmps) = true then Oper.wp P o a w K Q else E := by
  have hw : Region.wanted o (yielded ops a.tmps) = true := by simp [Region.wanted, hg]
  rw [if_pos hw]
  obtain ⟨v', w', hr, h2, h3, h4⟩ := run_append_row2 (P := P) w t o.type e i z bytes ht hi hz hsize hby hzs v n xs hrow ad c p q hp hq op oq h63 hbytes
  unfold Oper.wp execOp
  simp only [hop, resolve, invoke, builtin, Sem.run_bind, Sem.run_pure, Result.andThen_ok, List.map_toArray, List.map_cons, List.map_nil, hs, hx, hr]
  exact hK v' w' h2 h3 h4
end
/-- What is left of a row without its first element. -/
theorem RowAt.tail {w : World} {e : TypeId} {g off cap m : Nat} {l : List (Nat × Nat)} (h : RowAt w e 2 (.slice (some ⟨g, off, none⟩) l.length cap) l.length (pairs l)) (hm : l.length = m + 1) (v : Value) (hv : (cap = 1 ∧ v = .slice (some ⟨g, off, none⟩) m 0) ∨ v = .slice (some ⟨g, off + 2, none⟩) m (cap - 1)) : RowAt w e 2 v (l.drop 1).length (pairs (l.drop 1)) := by
  have hlen : (l.drop 1).length = m := by simp; omega
  have hpl : (pairs (l.drop 1)).length = (l.drop 1).length * 2 := pairs_length _
  obtain ⟨h1, h2⟩ := h
  rcases h2 with ⟨h0, _⟩ | ⟨g', off', cap', cur, he, hg, hc, hcm, hcs, hcells⟩
  · omega
  injection he with he _ e3
  injection he with he
  injection he with e1 e2 _
  subst e1 e2 e3
  refine ⟨hpl, ?_⟩
  rw [hlen]
  rcases hv with ⟨hc1, rfl⟩ | rfl
  · left
    have hm0 : m = 0 := by omega
    subst hm0
    exact ⟨rfl, _, rfl, fun k hk => by injection hk with hk; subst hk; exact ⟨cur, hg⟩⟩
  · right
    refine ⟨g, off + 2, cap - 1, cur, rfl, hg, by omega, by omega, by omega, fun j u hj => ?_⟩
    have := hcells (j + 2) u (by
      cases l with
      | nil => simp at hm
      | cons x l => simp only [pairs, List.flatMap_cons] at hj ⊢; simpa using hj)
    rw [← this]; congr 1; omega
end Go.Proofs.YtgipjjhkhfihpaaGreatDoor

namespace Go.Proofs.YtgipjjhkhfihpaaGreatDoor
open Go.RowKit

theorem infoFact : (Tryz.prog.info? 129).map (fun i => (i.zero, i.size, i.bytes)) = some (some (.agg #[.int .i64 0, .int .i64 0]), 2, 16) := by kernel_rfl

/-- The kept row is another, in its cell. -/
theorem SAt.setKept {w : World} {b : Nat} {C : SC} {S : SS} {V : SV} (h : SAt w b C S V) {l : List (Nat × Nat)} {v : Value} (hr : RowAt (w.setCell ⟨b, 11, none⟩ v) 129 2 v l.length (pairs l)) : SAt (w.setCell ⟨b, 11, none⟩ v) b C { S with kept := l } { V with k := v } :=
  ⟨blk_set h.fb 11 v, own_set_ne h.oV (own_type_ne h.oV h.fb (by decide)) v, own_set_ne h.oC (own_type_ne h.oC h.fb (by decide)) v, own_set_ne h.oR (own_type_ne h.oR h.fb (by decide)) v, own_set_ne h.oA (own_type_ne h.oA h.fb (by decide)) v, hr, h.ap⟩
theorem SAt.setMost {w : World} {b : Nat} {C : SC} {S : SS} {V : SV} (h : SAt w b C S V) (n : Nat) : SAt (w.setCell ⟨b, 12, none⟩ (.int .i64 (n : Int))) b C { S with most := n } V :=
  ⟨blk_set h.fb 12 _, own_set_ne h.oV (own_type_ne h.oV h.fb (by decide)) _, own_set_ne h.oC (own_type_ne h.oC h.fb (by decide)) _, own_set_ne h.oR (own_type_ne h.oR h.fb (by decide)) _, own_set_ne h.oA (own_type_ne h.oA h.fb (by decide)) _,
   h.oK.keep (T := fun j => j = b) ((Only.refl (fun j => j = b) w).setCell (p := ⟨b, 12, none⟩) (Or.inl rfl) _) (fun j hj e => by subst e; obtain ⟨c, hc⟩ := h.oK.blk j hj; exact absurd (blk_type hc h.fb) (by decide)), h.ap⟩
theorem row_setB {w : World} {b : Nat} {C : SC} {S : SS} {V : SV} (h : SAt w b C S V) {v : Value} {n : Nat} {xs : List Value} (hr : RowAt w 129 2 v n xs) (o : Nat) (u : Value) : RowAt (w.setCell ⟨b, o, none⟩ u) 129 2 v n xs :=
  hr.keep (T := fun j => j = b) ((Only.refl (fun j => j = b) w).setCell (p := ⟨b, o, none⟩) (Or.inl rfl) _) (fun j hj e => by subst e; obtain ⟨c, hc⟩ := hr.blk j hj; exact absurd (blk_type hc h.fb) (by decide))
theorem SMoved.setB {b : Nat} {w w' : World} {V V' : SV} (h : SMoved b w w' V V') (o : Nat) (u : Value) : SMoved b w (w'.setCell ⟨b, o, none⟩ u) V V' :=
  ⟨h.only.setCell (p := ⟨b, o, none⟩) (Or.inl (Or.inl rfl)) u, h.v, h.c, h.r, h.a, h.k⟩

theorem SAt.grownK {ux wz w' : World} {b : Nat} {C : SC} {S : SS} {V : SV} {aX : Option Addr} {nX cX : Nat} (h : SAt ux b C S V) (hV : V.k = .slice aX nX cX) (hn : S.kept.length = nX) (hbz : Below ux.heap.size ux wz) {v' : Value} {f : Nat × Nat} (hrow : RowAt w' 129 2 v' (nX + 1) (pairs S.kept ++ [.int .i64 (f.1 : Int), .int .i64 (f.2 : Int)])) (ho : Only (fun k => (Value.slice aX nX cX).ownBlock = some k) wz w') (hm : Moved wz (.slice aX nX cX) v') :
    w'.heap[b]? = some (.cells (sCells C S V) 126 (0, 0)) ∧ SAt (w'.setCell ⟨b, 11, none⟩ v') b C { S with kept := S.kept ++ [f] } { V with k := v' } ∧ SMoved b ux (w'.setCell ⟨b, 11, none⟩ v') V { V with k := v' } := by
  rw [← hV] at ho hm
  subst hn
  have hz := h.later hbz
  have hne : ∀ {e : TypeId} {k : Nat}, e ≠ 129 → (∃ c, wz.heap[k]? = some (.cells c e (0, 0))) → ¬ V.k.ownBlock = some k := by
    rintro e k h5 ⟨c, hc⟩ e2
    obtain ⟨c', hc'⟩ := hz.oK.blk k e2
    exact h5 (blk_type hc hc')
  have hfb : w'.heap[b]? = some (.cells (sCells C S V) 126 (0, 0)) := (ho.block b (blk_lt hz.fb) (hne (by decide) ⟨_, hz.fb⟩)).trans hz.fb
  have oV := own_keep hz.oV ho (fun k hk => hne (by decide) (own_bk hz.oV k hk))
  have oC := own_keep hz.oC ho (fun k hk => hne (by decide) (own_bk hz.oC k hk))
  have oR := own_keep hz.oR ho (fun k hk => hne (by decide) (own_bk hz.oR k hk))
  have oA := own_keep hz.oA ho (fun k hk => hne (by decide) (own_bk hz.oA k hk))
  have hrow2 : RowAt w' 129 2 v' (S.kept ++ [f]).length (pairs (S.kept ++ [f])) := by rw [pairs_snoc]; simpa using hrow
  refine ⟨hfb, ⟨blk_set hfb 11 v', own_set_ne oV (own_type_ne oV hfb (by decide)) v', own_set_ne oC (own_type_ne oC hfb (by decide)) v', own_set_ne oR (own_type_ne oR hfb (by decide)) v', own_set_ne oA (own_type_ne oA hfb (by decide)) v', ?_, h.ap⟩, ?_⟩
  · exact hrow2.keep (T := fun j => j = b) ((Only.refl (fun j => j = b) w').setCell (p := ⟨b, 11, none⟩) (Or.inl rfl) _) (fun j hj e => by subst e; obtain ⟨c, hc⟩ := hrow2.blk j hj; exact absurd (blk_type hc hfb) (by decide))
  · have h9 : Only (TS b V) wz w' := ho.mono (fun k _ hk => Or.inr (Or.inr (Or.inr hk)))
    refine ⟨((Only.of_below hbz).trans h9).setCell (p := ⟨b, 11, none⟩) (Or.inl (Or.inl rfl)) v', rfl, rfl, Or.inl rfl, Or.inl rfl, ?_⟩
    rcases hm with hm | ⟨k, h1, h2⟩
    · exact Or.inl hm
    · exact Or.inr ⟨k, h1, Nat.le_trans hbz.size h2⟩
/-- The store behind what went. -/
def storeM' (S1 : SS) (f : Nat × Nat) : SS := if S1.most < S1.kept.length + 1 then { ({ S1 with kept := S1.kept ++ [f] } : SS) with most := S1.kept.length + 1 } else { S1 with kept := S1.kept ++ [f] }
theorem store_full (room : Nat) (S : SS) (f : Nat × Nat) (h0 : room ≠ 0) (hf : room ≤ S.kept.length) : S.store room f = storeM' { S with kept := S.kept.drop 1 } f := by
  unfold SS.store storeK storeM storeM' storeK
  simp only [h0, hf, if_true, if_false, List.length_append, List.length_cons, List.length_nil]
  split <;> rfl
theorem store_room (room : Nat) (S : SS) (f : Nat × Nat) (h0 : room ≠ 0) (hf : ¬ room ≤ S.kept.length) : S.store room f = storeM' S f := by
  unfold SS.store storeK storeM storeM' storeK
  simp only [h0, hf, if_false, List.length_append, List.length_cons, List.length_nil]
  split <;> rfl

set_option maxRecDepth 100000 in
set_option maxHeartbeats 3200000 in
theorem store_any (b : Nat) (C : SC) (S : SS) (V : SV) (f : Nat × Nat) (w : World) (hS : SAt w b C S V) (hB : SBd C S) :
    Calls Tryz.prog 135 #[.pointer (some ⟨b, 10, none⟩), FactV f] w fun e w' => e = .returned (.tuple #[]) ∧ SPost b C (S.store C.room f) V w w' := by
  obtain ⟨fk, fs⟩ := f
  obtain ⟨i1, hi1, hz10, hz11, hz12⟩ := info_parts infoFact
  have hbw := blk_lt hS.fb
  obtain ⟨aK, cK, hKf⟩ := hS.oK.form
  have c10 : w.cell? ⟨b, 10, none⟩ = some (.int .i64 (C.room : Int)) := by rw [blk_cell hS.fb]; rfl
  have c11 : w.cell? ⟨b, 11, none⟩ = some (.slice aK S.kept.length cK) := by rw [blk_cell hS.fb]; exact congrArg some hKf
  have c12 : w.cell? ⟨b, 12, none⟩ = some (.int .i64 (S.most : Int)) := by rw [blk_cell hS.fb]; rfl
  have z11 := blk_free hS.fb 11
  have z12 := blk_free hS.fb 12
  have hkl := hB.kept
  have hrm := hB.room
  by_cases hr : C.room = 0
  · have HF : Hid (S.store C.room (fk, fs) = S) := hide (by unfold SS.store storeK storeM; rw [if_pos hr, if_pos hr])
    have hd : decide ((C.room : Int) ≤ 0) = true := by simp; omega
    have hd2 : decide (C.room ≤ 0) = true := by simp; omega
    have hd0 : decide (C.room = 0) = true := by simp [hr]
    clear hr
    go_enter Tryz.func135, Tryz.ntmps135
    go_wp2_with fail
    refine bodyPost_ret (v := .tuple #[]) (by simp [results, Tryz.results135, go_sem]) rfl ⟨rfl, ?_⟩
    rw [unhide HF]
    have hb0 : Below w.heap.size w (w.alloc (.cells #[.int .i64 (fk : Int), .int .i64 (fs : Int)] 129)) := (Below.refl _ _).alloc (Nat.le_refl _) _
    exact ⟨V, hS.later hb0, SMoved.of_below hb0⟩
  · have hd : decide ((C.room : Int) ≤ 0) = false := by simp; omega
    have hd2 : decide (C.room ≤ 0) = false := by simp; omega
    have hd0 : decide (C.room = 0) = false := by simp [hr]
    by_cases hfull : C.room ≤ S.kept.length
    · have hd3 : decide ((C.room : Int) ≤ (S.kept.length : Int)) = true := by simp; omega
      have hd4 : decide (C.room ≤ S.kept.length) = true := by simp; omega
      have hpos : 0 < S.kept.length := by omega
      rcases hS.oK.2 with ⟨h0, _⟩ | ⟨g, off, cap, cur, hv, hg, hnc, hcm, hcs, hcells⟩
      · omega
      have hgw := blk_lt hg
      rw [hKf] at hv
      injection hv with e1 e2 e3
      subst e1 e3
      obtain ⟨m, hm⟩ : ∃ m, S.kept.length = m + 1 := ⟨S.kept.length - 1, by omega⟩
      go_enter Tryz.func135, Tryz.ntmps135
      go_wp2_with fail
      have hb0 : Below w.heap.size w (w.alloc (.cells #[.int .i64 (fk : Int), .int .i64 (fs : Int)] 129)) := (Below.refl _ _).alloc (Nat.le_refl _) _
      have hfa := heap_alloc_new w (.cells #[.int .i64 (fk : Int), .int .i64 (fs : Int)] 129)
      generalize w.alloc (.cells #[.int .i64 (fk : Int), .int .i64 (fs : Int)] 129) = u1 at *
      have d10 : u1.cell? ⟨b, 10, none⟩ = some (.int .i64 (C.room : Int)) := by rw [hb0.cell (p := ⟨b, 10, none⟩) hbw]; exact c10
      have d11 : u1.cell? ⟨b, 11, none⟩ = some (.slice (some ⟨g, off, none⟩) S.kept.length cK) := by rw [hb0.cell (p := ⟨b, 11, none⟩) hbw]; exact c11
      have d12 : u1.cell? ⟨b, 12, none⟩ = some (.int .i64 (S.most : Int)) := by rw [hb0.cell (p := ⟨b, 12, none⟩) hbw]; exact c12
      have lb := Nat.lt_of_lt_of_le hbw hb0.size
      have lf := blk_lt hfa
      go_quiet (fail)
      have hb1 : Below w.heap.size w (u1.drewN nq) := below_drewN hb0 nq
      have hfa1 : (u1.drewN nq).heap[w.heap.size]? = some (.cells #[.int .i64 (fk : Int), .int .i64 (fs : Int)] 129 (0, 0)) := by rw [World.heap_drewN]; exact hfa
      generalize u1.drewN nq = u2 at *
      clear hb0 hfa d10 d11 d12 lb lf
      have hS2 := hS.later hb1
      have d10 : u2.cell? ⟨b, 10, none⟩ = some (.int .i64 (C.room : Int)) := by rw [hb1.cell (p := ⟨b, 10, none⟩) hbw]; exact c10
      have d11 : u2.cell? ⟨b, 11, none⟩ = some (.slice (some ⟨g, off, none⟩) S.kept.length cK) := by rw [hb1.cell (p := ⟨b, 11, none⟩) hbw]; exact c11
      have d12 : u2.cell? ⟨b, 12, none⟩ = some (.int .i64 (S.most : Int)) := by rw [hb1.cell (p := ⟨b, 12, none⟩) hbw]; exact c12
      have y11 := blk_free hS2.fb 11
      have y12 := blk_free hS2.fb 12
      have lb := Nat.lt_of_lt_of_le hbw hb1.size
      have lf := blk_lt hfa1
      have f0 : u2.cell? ⟨w.heap.size, 0, none⟩ = some (.int .i64 (fk : Int)) := by rw [blk_cell hfa1]; rfl
      have f1 : u2.cell? ⟨w.heap.size, 1, none⟩ = some (.int .i64 (fs : Int)) := by rw [blk_cell hfa1]; rfl
      have HST : Hid (S.store C.room (fk, fs) = storeM' { S with kept := S.kept.drop 1 } (fk, fs)) := hide (store_full _ _ _ hr hfull)
      have hrowk : RowAt u2 129 2 (.slice (some ⟨g, off, none⟩) S.kept.length cK) S.kept.length (pairs S.kept) := by rw [← hKf]; exact hS2.oK
      have hmx : SMoved b w u2 V V := SMoved.of_below hb1
      rw [hm] at d11
      by_cases hc1 : cK = 1
      · subst hc1
        go_wp2_with fail
        have hvt : RowAt u2 129 2 (.slice (some ⟨g, off, none⟩) m (0)) (S.kept.drop 1).length (pairs (S.kept.drop 1)) := hrowk.tail hm _ (Or.inl ⟨rfl, rfl⟩)
        have hnX : ({ S with kept := S.kept.drop 1 } : SS).kept.length = m := by simp; omega
        have hSx := hS2.setKept (row_setB hS2 hvt 11 (.slice (some ⟨g, off, none⟩) m (0)))
        have hMx : SMoved b w (u2.setCell ⟨b, 11, none⟩ (.slice (some ⟨g, off, none⟩) m (0))) V { V with k := .slice (some ⟨g, off, none⟩) m (0) } := ⟨hmx.only.setCell (p := ⟨b, 11, none⟩) (Or.inl (Or.inl rfl)) _, rfl, rfl, Or.inl rfl, Or.inl rfl, Or.inl (by rw [hKf]; rfl)⟩
        have hfx : (u2.setCell ⟨b, 11, none⟩ (.slice (some ⟨g, off, none⟩) m (0))).heap[w.heap.size]? = some (.cells #[.int .i64 (fk : Int), .int .i64 (fs : Int)] 129 (0, 0)) := by rw [Below.heap_setCell _ _ _ _ (by intro e; simp at e; omega)]; exact hfa1
        have hVX : ({ V with k := .slice (some ⟨g, off, none⟩) m (0) } : SV).k = .slice (some ⟨g, off, none⟩) m (0) := rfl
        generalize u2.setCell ⟨b, 11, none⟩ (.slice (some ⟨g, off, none⟩) m (0)) = ux at *
        clear hvt d10 d11 d12 y11 y12 f0 f1 hrowk hmx hS2 hfa1 hb1 lb lf
        have lbx := blk_lt hSx.fb
        have e10 : ux.cell? ⟨b, 10, none⟩ = some (.int .i64 (C.room : Int)) := by rw [blk_cell hSx.fb]; rfl
        have e11 : ux.cell? ⟨b, 11, none⟩ = some (.slice (some ⟨g, off, none⟩) (m) (0)) := by rw [blk_cell hSx.fb]; exact congrArg some hVX
        have e12 : ux.cell? ⟨b, 12, none⟩ = some (.int .i64 (S.most : Int)) := by rw [blk_cell hSx.fb]; rfl
        have y11 := blk_free hSx.fb 11
        have g0 : ux.cell? ⟨w.heap.size, 0, none⟩ = some (.int .i64 (fk : Int)) := by rw [blk_cell hfx]; rfl
        have g1 : ux.cell? ⟨w.heap.size, 1, none⟩ = some (.int .i64 (fs : Int)) := by rw [blk_cell hfx]; rfl
        have lfx := blk_lt hfx
        have hrowx : RowAt ux 129 2 (.slice (some ⟨g, off, none⟩) (m) (0)) (m) (pairs ({ S with kept := S.kept.drop 1 } : SS).kept) := by have h := hSx.oK; rw [hVX] at h; rw [hnX] at h; exact h
        have hbz : Below ux.heap.size ux ((ux.alloc (.cells #[.int .i64 (fk : Int), .int .i64 (fs : Int)] 129)).drew) := ((Below.refl _ ux).alloc (Nat.le_refl _) _).drew
        go_region_law (refine step_append_row2 rfl (.tmp 31) (.tmp 33) 122 rfl 129 i1 (.agg #[.int .i64 0, .int .i64 0]) 16 Tryz.underlying122 hi1 hz10 hz11 hz12 rfl (.slice (some ⟨g, off, none⟩) (m) (0)) (m) (pairs ({ S with kept := S.kept.drop 1 } : SS).kept) (hrowx.keep (Only.of_below (T := fun _ => False) hbz) (fun _ _ h => h)) rfl ⟨ux.heap.size, 0, none⟩ 1 (.int .i64 (fk : Int)) (.int .i64 (fs : Int)) rfl (new_cells ux [.int .i64 (fk : Int), .int .i64 (fs : Int)] 129 0 _ rfl) (new_cells ux [.int .i64 (fk : Int), .int .i64 (fs : Int)] 129 1 _ rfl) rfl rfl (by omega) (by omega) ?_; intro v' w' hrow' honly' hmv'; have hS4 := SAt.grownK (f := (fk, fs)) hSx hVX hnX hbz hrow' honly' hmv'; obtain ⟨a4, c4, hv4⟩ := hrow'.form; subst hv4; have j11 : w'.cell? ⟨b, 11, none⟩ = some (.slice (some ⟨g, off, none⟩) (m) (0)) := (by rw [blk_cell hS4.1]; exact congrArg some hVX); have j12 : w'.cell? ⟨b, 12, none⟩ = some (.int .i64 (S.most : Int)) := (by rw [blk_cell hS4.1]; rfl); have x11 := blk_free hS4.1 11; have x12 := blk_free hS4.1 12; have lb4 := blk_lt hS4.1)
        all_goals
          obtain ⟨hfb4, hS5, hM5⟩ := hS4
          have hM6 := hMx.trans hM5
          clear hM5 hmv' honly' hrow'
          have k11 : (w'.setCell ⟨b, 11, none⟩ (.slice a4 (m + 1) c4)).cell? ⟨b, 11, none⟩ = some (.slice a4 (m + 1) c4) := by rw [blk_cell (blk_set hfb4 11 _)]; rfl
          have k12 : (w'.setCell ⟨b, 11, none⟩ (.slice a4 (m + 1) c4)).cell? ⟨b, 12, none⟩ = some (.int .i64 (S.most : Int)) := by rw [blk_cell (blk_set hfb4 11 _)]; rfl
          have r11 := blk_free (blk_set hfb4 11 (.slice a4 (m + 1) c4)) 11
          have r12 := blk_free (blk_set hfb4 11 (.slice a4 (m + 1) c4)) 12
          have lb5 : b < (w'.setCell ⟨b, 11, none⟩ (.slice a4 (m + 1) c4)).heap.size := blk_lt (blk_set hfb4 11 _)
          go_wp2_with fail
          generalize w'.setCell ⟨b, 11, none⟩ (.slice a4 (m + 1) c4) = u5 at *
          go_quiet (fail)
          have hb6 : Below u5.heap.size u5 (u5.drewN nq) := below_drewN (Below.refl _ _) nq
          have hS6 := hS5.later hb6
          have hM7 := hM6.trans (SMoved.of_below hb6)
          have t11 : (u5.drewN nq).cell? ⟨b, 11, none⟩ = some (.slice a4 (m + 1) c4) := by rw [hb6.cell (p := ⟨b, 11, none⟩) lb5]; exact k11
          have t12 : (u5.drewN nq).cell? ⟨b, 12, none⟩ = some (.int .i64 (S.most : Int)) := by rw [hb6.cell (p := ⟨b, 12, none⟩) lb5]; exact k12
          have s12 := blk_free hS6.fb 12
          have lb7 := blk_lt hS6.fb
          generalize u5.drewN nq = u6 at *
          clear k11 k12 r11 r12 lb5 hb6 hM6 hS5
          by_cases hgt : S.most < m + 1
          · have hg1 : decide ((S.most : Int) < (m : Int) + 1) = true := by simp; omega
            have hg2 : decide (S.most < m + 1) = true := by simp; omega
            have HF : Hid (S.store C.room (fk, fs) = { ({ ({ S with kept := S.kept.drop 1 } : SS) with kept := ({ S with kept := S.kept.drop 1 } : SS).kept ++ [(fk, fs)] } : SS) with most := m + 1 }) := hide (by rw [unhide HST]; unfold storeM'; rw [if_pos (by rw [hnX]; exact hgt)]; rw [hnX])
            have hfin := hS6.setMost (m + 1)
            go_wp2_with fail
            go_end0
            refine ⟨rfl, ?_⟩
            rw [unhide HF]
            exact ⟨_, by simpa using hfin, hM7.setB 12 _⟩
          · have hg1 : decide ((S.most : Int) < (m : Int) + 1) = false := by simp; omega
            have hg2 : decide (S.most < m + 1) = false := by simp; omega
            have HF : Hid (S.store C.room (fk, fs) = { ({ S with kept := S.kept.drop 1 } : SS) with kept := ({ S with kept := S.kept.drop 1 } : SS).kept ++ [(fk, fs)] }) := hide (by rw [unhide HST]; unfold storeM'; rw [if_neg (by rw [hnX]; exact hgt)])
            go_wp2_with fail
            go_end0
            refine ⟨rfl, ?_⟩
            rw [unhide HF]
            exact ⟨_, hS6, hM7⟩
      · have hc2 : 1 < cK := by omega
        have hc3 : decide (cK ≤ 1) = false := by simp; omega
        go_wp2_with fail
        all_goals first | (exfalso; omega) | skip
        have hvt : RowAt u2 129 2 (.slice (some ⟨g, off + 2, none⟩) m (cK - 1)) (S.kept.drop 1).length (pairs (S.kept.drop 1)) := hrowk.tail hm _ (Or.inr rfl)
        have hnX : ({ S with kept := S.kept.drop 1 } : SS).kept.length = m := by simp; omega
        have hSx := hS2.setKept (row_setB hS2 hvt 11 (.slice (some ⟨g, off + 2, none⟩) m (cK - 1)))
        have hMx : SMoved b w (u2.setCell ⟨b, 11, none⟩ (.slice (some ⟨g, off + 2, none⟩) m (cK - 1))) V { V with k := .slice (some ⟨g, off + 2, none⟩) m (cK - 1) } := ⟨hmx.only.setCell (p := ⟨b, 11, none⟩) (Or.inl (Or.inl rfl)) _, rfl, rfl, Or.inl rfl, Or.inl rfl, Or.inl (by rw [hKf]; rfl)⟩
        have hfx : (u2.setCell ⟨b, 11, none⟩ (.slice (some ⟨g, off + 2, none⟩) m (cK - 1))).heap[w.heap.size]? = some (.cells #[.int .i64 (fk : Int), .int .i64 (fs : Int)] 129 (0, 0)) := by rw [Below.heap_setCell _ _ _ _ (by intro e; simp at e; omega)]; exact hfa1
        have hVX : ({ V with k := .slice (some ⟨g, off + 2, none⟩) m (cK - 1) } : SV).k = .slice (some ⟨g, off + 2, none⟩) m (cK - 1) := rfl
        generalize u2.setCell ⟨b, 11, none⟩ (.slice (some ⟨g, off + 2, none⟩) m (cK - 1)) = ux at *
        clear hvt d10 d11 d12 y11 y12 f0 f1 hrowk hmx hS2 hfa1 hb1 lb lf
        have lbx := blk_lt hSx.fb
        have e10 : ux.cell? ⟨b, 10, none⟩ = some (.int .i64 (C.room : Int)) := by rw [blk_cell hSx.fb]; rfl
        have e11 : ux.cell? ⟨b, 11, none⟩ = some (.slice (some ⟨g, off + 2, none⟩) (m) (cK - 1)) := by rw [blk_cell hSx.fb]; exact congrArg some hVX
        have e12 : ux.cell? ⟨b, 12, none⟩ = some (.int .i64 (S.most : Int)) := by rw [blk_cell hSx.fb]; rfl
        have y11 := blk_free hSx.fb 11
        have g0 : ux.cell? ⟨w.heap.size, 0, none⟩ = some (.int .i64 (fk : Int)) := by rw [blk_cell hfx]; rfl
        have g1 : ux.cell? ⟨w.heap.size, 1, none⟩ = some (.int .i64 (fs : Int)) := by rw [blk_cell hfx]; rfl
        have lfx := blk_lt hfx
        have hrowx : RowAt ux 129 2 (.slice (some ⟨g, off + 2, none⟩) (m) (cK - 1)) (m) (pairs ({ S with kept := S.kept.drop 1 } : SS).kept) := by have h := hSx.oK; rw [hVX] at h; rw [hnX] at h; exact h
        have hbz : Below ux.heap.size ux ((ux.alloc (.cells #[.int .i64 (fk : Int), .int .i64 (fs : Int)] 129)).drew) := ((Below.refl _ ux).alloc (Nat.le_refl _) _).drew
        go_region_law (refine step_append_row2 rfl (.tmp 31) (.tmp 33) 122 rfl 129 i1 (.agg #[.int .i64 0, .int .i64 0]) 16 Tryz.underlying122 hi1 hz10 hz11 hz12 rfl (.slice (some ⟨g, off + 2, none⟩) (m) (cK - 1)) (m) (pairs ({ S with kept := S.kept.drop 1 } : SS).kept) (hrowx.keep (Only.of_below (T := fun _ => False) hbz) (fun _ _ h => h)) rfl ⟨ux.heap.size, 0, none⟩ 1 (.int .i64 (fk : Int)) (.int .i64 (fs : Int)) rfl (new_cells ux [.int .i64 (fk : Int), .int .i64 (fs : Int)] 129 0 _ rfl) (new_cells ux [.int .i64 (fk : Int), .int .i64 (fs : Int)] 129 1 _ rfl) rfl rfl (by omega) (by omega) ?_; intro v' w' hrow' honly' hmv'; have hS4 := SAt.grownK (f := (fk, fs)) hSx hVX hnX hbz hrow' honly' hmv'; obtain ⟨a4, c4, hv4⟩ := hrow'.form; subst hv4; have j11 : w'.cell? ⟨b, 11, none⟩ = some (.slice (some ⟨g, off + 2, none⟩) (m) (cK - 1)) := (by rw [blk_cell hS4.1]; exact congrArg some hVX); have j12 : w'.cell? ⟨b, 12, none⟩ = some (.int .i64 (S.most : Int)) := (by rw [blk_cell hS4.1]; rfl); have x11 := blk_free hS4.1 11; have x12 := blk_free hS4.1 12; have lb4 := blk_lt hS4.1)
        all_goals
          obtain ⟨hfb4, hS5, hM5⟩ := hS4
          have hM6 := hMx.trans hM5
          clear hM5 hmv' honly' hrow'
          have k11 : (w'.setCell ⟨b, 11, none⟩ (.slice a4 (m + 1) c4)).cell? ⟨b, 11, none⟩ = some (.slice a4 (m + 1) c4) := by rw [blk_cell (blk_set hfb4 11 _)]; rfl
          have k12 : (w'.setCell ⟨b, 11, none⟩ (.slice a4 (m + 1) c4)).cell? ⟨b, 12, none⟩ = some (.int .i64 (S.most : Int)) := by rw [blk_cell (blk_set hfb4 11 _)]; rfl
          have r11 := blk_free (blk_set hfb4 11 (.slice a4 (m + 1) c4)) 11
          have r12 := blk_free (blk_set hfb4 11 (.slice a4 (m + 1) c4)) 12
          have lb5 : b < (w'.setCell ⟨b, 11, none⟩ (.slice a4 (m + 1) c4)).heap.size := blk_lt (blk_set hfb4 11 _)
          go_wp2_with fail
          generalize w'.setCell ⟨b, 11, none⟩ (.slice a4 (m + 1) c4) = u5 at *
          go_quiet (fail)
          have hb6 : Below u5.heap.size u5 (u5.drewN nq) := below_drewN (Below.refl _ _) nq
          have hS6 := hS5.later hb6
          have hM7 := hM6.trans (SMoved.of_below hb6)
          have t11 : (u5.drewN nq).cell? ⟨b, 11, none⟩ = some (.slice a4 (m + 1) c4) := by rw [hb6.cell (p := ⟨b, 11, none⟩) lb5]; exact k11
          have t12 : (u5.drewN nq).cell? ⟨b, 12, none⟩ = some (.int .i64 (S.most : Int)) := by rw [hb6.cell (p := ⟨b, 12, none⟩) lb5]; exact k12
          have s12 := blk_free hS6.fb 12
          have lb7 := blk_lt hS6.fb
          generalize u5.drewN nq = u6 at *
          clear k11 k12 r11 r12 lb5 hb6 hM6 hS5
          by_cases hgt : S.most < m + 1
          · have hg1 : decide ((S.most : Int) < (m : Int) + 1) = true := by simp; omega
            have hg2 : decide (S.most < m + 1) = true := by simp; omega
            have HF : Hid (S.store C.room (fk, fs) = { ({ ({ S with kept := S.kept.drop 1 } : SS) with kept := ({ S with kept := S.kept.drop 1 } : SS).kept ++ [(fk, fs)] } : SS) with most := m + 1 }) := hide (by rw [unhide HST]; unfold storeM'; rw [if_pos (by rw [hnX]; exact hgt)]; rw [hnX])
            have hfin := hS6.setMost (m + 1)
            go_wp2_with fail
            go_end0
            refine ⟨rfl, ?_⟩
            rw [unhide HF]
            exact ⟨_, by simpa using hfin, hM7.setB 12 _⟩
          · have hg1 : decide ((S.most : Int) < (m : Int) + 1) = false := by simp; omega
            have hg2 : decide (S.most < m + 1) = false := by simp; omega
            have HF : Hid (S.store C.room (fk, fs) = { ({ S with kept := S.kept.drop 1 } : SS) with kept := ({ S with kept := S.kept.drop 1 } : SS).kept ++ [(fk, fs)] }) := hide (by rw [unhide HST]; unfold storeM'; rw [if_neg (by rw [hnX]; exact hgt)])
            go_wp2_with fail
            go_end0
            refine ⟨rfl, ?_⟩
            rw [unhide HF]
            exact ⟨_, hS6, hM7⟩
    · have hd3 : decide ((C.room : Int) ≤ (S.kept.length : Int)) = false := by simp; omega
      have hd4 : decide (C.room ≤ S.kept.length) = false := by simp; omega
      go_enter Tryz.func135, Tryz.ntmps135
      go_wp2_with fail
      have hb0 : Below w.heap.size w (w.alloc (.cells #[.int .i64 (fk : Int), .int .i64 (fs : Int)] 129)) := (Below.refl _ _).alloc (Nat.le_refl _) _
      have hfa := heap_alloc_new w (.cells #[.int .i64 (fk : Int), .int .i64 (fs : Int)] 129)
      generalize w.alloc (.cells #[.int .i64 (fk : Int), .int .i64 (fs : Int)] 129) = u1 at *
      have d10 : u1.cell? ⟨b, 10, none⟩ = some (.int .i64 (C.room : Int)) := by rw [hb0.cell (p := ⟨b, 10, none⟩) hbw]; exact c10
      have d11 : u1.cell? ⟨b, 11, none⟩ = some (.slice aK S.kept.length cK) := by rw [hb0.cell (p := ⟨b, 11, none⟩) hbw]; exact c11
      have d12 : u1.cell? ⟨b, 12, none⟩ = some (.int .i64 (S.most : Int)) := by rw [hb0.cell (p := ⟨b, 12, none⟩) hbw]; exact c12
      have lb := Nat.lt_of_lt_of_le hbw hb0.size
      have lf := blk_lt hfa
      go_quiet (fail)
      have hb1 : Below w.heap.size w (u1.drewN nq) := below_drewN hb0 nq
      have hfa1 : (u1.drewN nq).heap[w.heap.size]? = some (.cells #[.int .i64 (fk : Int), .int .i64 (fs : Int)] 129 (0, 0)) := by rw [World.heap_drewN]; exact hfa
      generalize u1.drewN nq = u2 at *
      clear hb0 hfa d10 d11 d12 lb lf
      have hS2 := hS.later hb1
      have d10 : u2.cell? ⟨b, 10, none⟩ = some (.int .i64 (C.room : Int)) := by rw [hb1.cell (p := ⟨b, 10, none⟩) hbw]; exact c10
      have d11 : u2.cell? ⟨b, 11, none⟩ = some (.slice aK S.kept.length cK) := by rw [hb1.cell (p := ⟨b, 11, none⟩) hbw]; exact c11
      have d12 : u2.cell? ⟨b, 12, none⟩ = some (.int .i64 (S.most : Int)) := by rw [hb1.cell (p := ⟨b, 12, none⟩) hbw]; exact c12
      have y11 := blk_free hS2.fb 11
      have y12 := blk_free hS2.fb 12
      have lb := Nat.lt_of_lt_of_le hbw hb1.size
      have lf := blk_lt hfa1
      have f0 : u2.cell? ⟨w.heap.size, 0, none⟩ = some (.int .i64 (fk : Int)) := by rw [blk_cell hfa1]; rfl
      have f1 : u2.cell? ⟨w.heap.size, 1, none⟩ = some (.int .i64 (fs : Int)) := by rw [blk_cell hfa1]; rfl
      go_wp2_with fail
      have HST : Hid (S.store C.room (fk, fs) = storeM' S (fk, fs)) := hide (store_room _ _ _ hr hfull)
      have hMx : SMoved b w u2 V V := SMoved.of_below hb1
      have hSx := hS2
      have hfx := hfa1
      have hVX := hKf
      generalize u2 = ux at *
      clear d10 d11 d12 y11 y12 f0 f1 hS2 hfa1 hb1 lb lf
      have lbx := blk_lt hSx.fb
      have e10 : ux.cell? ⟨b, 10, none⟩ = some (.int .i64 (C.room : Int)) := by rw [blk_cell hSx.fb]; rfl
      have e11 : ux.cell? ⟨b, 11, none⟩ = some (.slice (aK) (S.kept.length) (cK)) := by rw [blk_cell hSx.fb]; exact congrArg some hVX
      have e12 : ux.cell? ⟨b, 12, none⟩ = some (.int .i64 (S.most : Int)) := by rw [blk_cell hSx.fb]; rfl
      have y11 := blk_free hSx.fb 11
      have g0 : ux.cell? ⟨w.heap.size, 0, none⟩ = some (.int .i64 (fk : Int)) := by rw [blk_cell hfx]; rfl
      have g1 : ux.cell? ⟨w.heap.size, 1, none⟩ = some (.int .i64 (fs : Int)) := by rw [blk_cell hfx]; rfl
      have lfx := blk_lt hfx
      have hrowx : RowAt ux 129 2 (.slice (aK) (S.kept.length) (cK)) (S.kept.length) (pairs (S : SS).kept) := by have h := hSx.oK; rw [hVX] at h; exact h
      have hbz : Below ux.heap.size ux ((ux.alloc (.cells #[.int .i64 (fk : Int), .int .i64 (fs : Int)] 129)).drew) := ((Below.refl _ ux).alloc (Nat.le_refl _) _).drew
      go_region_law (refine step_append_row2 rfl (.tmp 31) (.tmp 33) 122 rfl 129 i1 (.agg #[.int .i64 0, .int .i64 0]) 16 Tryz.underlying122 hi1 hz10 hz11 hz12 rfl (.slice (aK) (S.kept.length) (cK)) (S.kept.length) (pairs (S : SS).kept) (hrowx.keep (Only.of_below (T := fun _ => False) hbz) (fun _ _ h => h)) rfl ⟨ux.heap.size, 0, none⟩ 1 (.int .i64 (fk : Int)) (.int .i64 (fs : Int)) rfl (new_cells ux [.int .i64 (fk : Int), .int .i64 (fs : Int)] 129 0 _ rfl) (new_cells ux [.int .i64 (fk : Int), .int .i64 (fs : Int)] 129 1 _ rfl) rfl rfl (by omega) (by omega) ?_; intro v' w' hrow' honly' hmv'; have hS4 := SAt.grownK (f := (fk, fs)) hSx hVX rfl hbz hrow' honly' hmv'; obtain ⟨a4, c4, hv4⟩ := hrow'.form; subst hv4; have j11 : w'.cell? ⟨b, 11, none⟩ = some (.slice (aK) (S.kept.length) (cK)) := (by rw [blk_cell hS4.1]; exact congrArg some hVX); have j12 : w'.cell? ⟨b, 12, none⟩ = some (.int .i64 (S.most : Int)) := (by rw [blk_cell hS4.1]; rfl); have x11 := blk_free hS4.1 11; have x12 := blk_free hS4.1 12; have lb4 := blk_lt hS4.1)
      all_goals
        obtain ⟨hfb4, hS5, hM5⟩ := hS4
        have hM6 := hMx.trans hM5
        clear hM5 hmv' honly' hrow'
        have k11 : (w'.setCell ⟨b, 11, none⟩ (.slice a4 (S.kept.length + 1) c4)).cell? ⟨b, 11, none⟩ = some (.slice a4 (S.kept.length + 1) c4) := by rw [blk_cell (blk_set hfb4 11 _)]; rfl
        have k12 : (w'.setCell ⟨b, 11, none⟩ (.slice a4 (S.kept.length + 1) c4)).cell? ⟨b, 12, none⟩ = some (.int .i64 (S.most : Int)) := by rw [blk_cell (blk_set hfb4 11 _)]; rfl
        have r11 := blk_free (blk_set hfb4 11 (.slice a4 (S.kept.length + 1) c4)) 11
        have r12 := blk_free (blk_set hfb4 11 (.slice a4 (S.kept.length + 1) c4)) 12
        have lb5 : b < (w'.setCell ⟨b, 11, none⟩ (.slice a4 (S.kept.length + 1) c4)).heap.size := blk_lt (blk_set hfb4 11 _)
        go_wp2_with fail
        generalize w'.setCell ⟨b, 11, none⟩ (.slice a4 (S.kept.length + 1) c4) = u5 at *
        go_quiet (fail)
        have hb6 : Below u5.heap.size u5 (u5.drewN nq) := below_drewN (Below.refl _ _) nq
        have hS6 := hS5.later hb6
        have hM7 := hM6.trans (SMoved.of_below hb6)
        have t11 : (u5.drewN nq).cell? ⟨b, 11, none⟩ = some (.slice a4 (S.kept.length + 1) c4) := by rw [hb6.cell (p := ⟨b, 11, none⟩) lb5]; exact k11
        have t12 : (u5.drewN nq).cell? ⟨b, 12, none⟩ = some (.int .i64 (S.most : Int)) := by rw [hb6.cell (p := ⟨b, 12, none⟩) lb5]; exact k12
        have s12 := blk_free hS6.fb 12
        have lb7 := blk_lt hS6.fb
        generalize u5.drewN nq = u6 at *
        clear k11 k12 r11 r12 lb5 hb6 hM6 hS5
        by_cases hgt : S.most < S.kept.length + 1
        · have hg1 : decide ((S.most : Int) < (S.kept.length : Int) + 1) = true := by simp; omega
          have hg2 : decide (S.most < S.kept.length + 1) = true := by simp; omega
          have HF : Hid (S.store C.room (fk, fs) = { ({ (S : SS) with kept := (S : SS).kept ++ [(fk, fs)] } : SS) with most := S.kept.length + 1 }) := hide (by rw [unhide HST]; unfold storeM'; rw [if_pos hgt])
          have hfin := hS6.setMost (S.kept.length + 1)
          go_wp2_with fail
          go_end0
          refine ⟨rfl, ?_⟩
          rw [unhide HF]
          exact ⟨_, by simpa using hfin, hM7.setB 12 _⟩
        · have hg1 : decide ((S.most : Int) < (S.kept.length : Int) + 1) = false := by simp; omega
          have hg2 : decide (S.most < S.kept.length + 1) = false := by simp; omega
          have HF : Hid (S.store C.room (fk, fs) = { (S : SS) with kept := (S : SS).kept ++ [(fk, fs)] }) := hide (by rw [unhide HST]; unfold storeM'; rw [if_neg hgt])
          go_wp2_with fail
          go_end0
          refine ⟨rfl, ?_⟩
          rw [unhide HF]
          exact ⟨_, hS6, hM7⟩
end Go.Proofs.YtgipjjhkhfihpaaGreatDoor

namespace Go.Proofs.YtgipjjhkhfihpaaGreatDoor
open Go.RowKit

theorem cell_same {w w' : World} {k o : Nat} (h : w'.heap[k]? = w.heap[k]?) : w'.cell? ⟨k, o, none⟩ = w.cell? ⟨k, o, none⟩ := by
  unfold World.cell?
  rw [h]
/-! ### clauses -/
def idxTo (k : Nat) : List Nat := (List.range k).map (· + 1)
theorem idxTo_succ (k : Nat) : idxTo (k + 1) = idxTo k ++ [k + 1] := by unfold idxTo; rw [List.range_succ, List.map_append]; rfl
theorem idxTo_len (k : Nat) : (idxTo k).length = k := by simp [idxTo]
def keptTo (kept : List (Nat × Nat)) (k : Nat) : List Nat := ((kept.take k).filter (fun f => f.1 == 1)).map (·.2)
theorem keptTo_succ (kept : List (Nat × Nat)) (k : Nat) (h : k < kept.length) : keptTo kept (k + 1) = keptTo kept k ++ (if kept[k].1 == 1 then [kept[k].2] else []) := by
  unfold keptTo
  rw [List.take_succ_eq_append_getElem h, List.filter_append, List.map_append]
  congr 1
  cases hh : (kept[k].1 == 1) <;> simp [hh]
theorem keptTo_len (kept : List (Nat × Nat)) (k : Nat) : (keptTo kept k).length ≤ k := by
  unfold keptTo
  rw [List.length_map]
  exact Nat.le_trans (List.length_filter_le _ _) (by simp; omega)
theorem ints_snoc (l : List Nat) (n : Nat) : ints (l ++ [n]) = ints l ++ [.int .i64 (n : Int)] := by simp [ints]
theorem infoIntS : (Tryz.prog.info? 3).map (fun i => (i.zero, i.size, i.bytes)) = some (some (.int .i64 0), 1, 8) := by kernel_rfl
def ClausesPost (C : SC) (S : SS) (w : World) (e : Ending) (w' : World) : Prop := ∃ v, e = .returned v ∧ w'.ownsRow w.heap.size 3 1 v (clausesOf C.q S.kept).length (ints (clausesOf C.q S.kept)) ∧ Below w.heap.size w w'
set_option maxRecDepth 100000 in
set_option maxHeartbeats 3200000 in
theorem clauses_any (b : Nat) (C : SC) (S : SS) (V : SV) (w : World) (hS : SAt w b C S V) (hB : SBd C S) :
    Calls Tryz.prog 109 #[.pointer (some ⟨b, 0, none⟩)] w fun e w' => ClausesPost C S w e w' := by
  obtain ⟨aC, cC, hCf⟩ := own_form hS.oC
  obtain ⟨aK, cK, hKf⟩ := hS.oK.form
  obtain ⟨i1, hi1, hz10, hz11, hz12⟩ := info_parts infoIntS
  have hbw := blk_lt hS.fb
  have c1 : w.cell? ⟨b, 1, none⟩ = some (.slice aC C.q.cl.length cC) := by rw [blk_cell hS.fb]; exact congrArg some hCf
  have hcl := hB.qb.cl
  have hkl := hB.kept
  go_enter Tryz.func109, Tryz.ntmps109
  go_wp2_with fail
  go_loopg [3, 13] (C.q.cl.length) (fun m vl i wx => ∃ (k : Nat), i = .int .i64 k ∧ k + m = C.q.cl.length ∧ wx.ownsRow w.heap.size 3 1 vl (idxTo k).length (ints (idxTo k)) ∧ Below w.heap.size w wx)
  case atStart => exact ⟨0, rfl, by omega, World.ownsRow_nil _ _ _ _, Below.refl _ _⟩
  case round =>
    obtain ⟨k, rfl, hkm, hown, hb⟩ := hrel
    have hlk := idxTo_len k
    have hbs := hb.size
    obtain ⟨aL, cL, rfl⟩ := own_form hown
    by_cases hlt : k < C.q.cl.length
    · have hd1 : decide ((k : Int) < (C.q.cl.length : Int)) = true := decide_eq_true (by omega)
      have hd2 : decide (k < C.q.cl.length) = true := decide_eq_true hlt
      have HSU : Hid (idxTo (k + 1) = idxTo k ++ [k + 1]) := hide (idxTo_succ k)
      have HIS := hide (ints_snoc (idxTo k) (k + 1))
      go_wp2_with (at_builtin; refine wpList_append_new rfl (.tmp 16) (.tmp 19) 25 rfl w.heap.size i1 (.int .i64 0) 1 8 Tryz.underlying25 hi1 hz10 hz11 hz12 rfl (by decide) _ _ _ hown rfl rfl rfl (by simp [Value.oneCell']) (by unfold maxLen; omega) (by omega) hbs ?_; intro v4 w4 hown4 hgrow4 hnn4)
      have hB4 : Below w.heap.size w w4 := below_grown hb hgrow4 hown (Nat.le_refl _) hbs
      obtain ⟨a4, c4, rfl⟩ := own_form hown4
      go_wp2_with fail
      go_roundg (gk - 1)
      case measure => omega
      case rel => exact ⟨k + 1, by go_num, by omega, by rw [unhide HSU, unhide HIS]; simpa using hown4, hB4⟩
    · have hke : k = C.q.cl.length := by omega
      subst hke
      have hd1 : decide ((C.q.cl.length : Int) < (C.q.cl.length : Int)) = false := by simp
      have hSr := hS.later hb
      have c11 : wr.cell? ⟨b, 11, none⟩ = some (.slice aK S.kept.length cK) := by rw [blk_cell hSr.fb]; exact congrArg some hKf
      have lbr := blk_lt hSr.fb
      have hrow := hSr.oK
      rw [hKf] at hrow
      go_wp2_with fail
      have hA2 : Below w.heap.size w wr := hb
      obtain ⟨wo, rfl⟩ : ∃ wo, wo = wr := ⟨_, rfl⟩
      go_loopg [3, 28] (S.kept.length) (fun m vl i wx => ∃ (k : Nat) (L : List Nat), L = idxTo C.q.cl.length ++ keptTo S.kept k ∧ i = .int .i64 k ∧ k + m = S.kept.length ∧ wx.ownsRow w.heap.size 3 1 vl L.length (ints L) ∧ Below w.heap.size w wx)
      case atStart => exact ⟨0, idxTo C.q.cl.length, by simp [keptTo], rfl, by omega, hown, hb⟩
      case round =>
        obtain ⟨k, L, hL, rfl, hkm, hown2, hb2⟩ := hrel
        have hlk2 := keptTo_len S.kept k
        have hlen2 : L.length ≤ 1000 := by rw [hL, List.length_append]; omega
        have HL := hide hL
        clear hL
        have hbs2 := hb2.size
        obtain ⟨aM, cM, rfl⟩ := own_form hown2
        by_cases hlt2 : k < S.kept.length
        · have hd3 : decide ((k : Int) < (S.kept.length : Int)) = true := decide_eq_true (by omega)
          have hd4 : decide (k < S.kept.length) = true := decide_eq_true hlt2
          have hSx := hS.later hb2
          have hrowx := hSx.oK
          rw [hKf] at hrowx
          obtain ⟨g, off, cap, hVe, hg', hcell⟩ := hrowx.cell (by omega)
          injection hVe with hVe _ hV2
          subst hVe hV2
          obtain ⟨e0, e1⟩ := pairs_at S.kept k hlt2
          have hx0 := hcell _ _ e0
          have hx1 := hcell _ _ e1
          have HSU := hide (keptTo_succ S.kept k hlt2)
          clear hcell e0 e1
          generalize S.kept[k] = f at *
          obtain ⟨fk, fs⟩ := f
          dsimp only at *
          have hA : Below wr.heap.size wr (wr.alloc (.cells #[.int .i64 (fk : Int), .int .i64 (fs : Int)] 129)) := (Below.refl _ _).alloc (Nat.le_refl _) _
          have hfa := heap_alloc_new wr (.cells #[.int .i64 (fk : Int), .int .i64 (fs : Int)] 129)
          have hown3 := own_below hown2 hA
          have hb3 := hb2.trans (hA.mono hb2.size)
          rw [← Nat.add_assoc] at hx1
          by_cases hk1 : fk = 1
          · subst hk1
            have HS2 : Hid (L ++ [fs] = idxTo C.q.cl.length ++ keptTo S.kept (k + 1)) := hide (by rw [unhide HSU, unhide HL]; simp)
            have HIS := hide (ints_snoc L fs)
            have hbs3 := hb3.size
            go_wp2_with (at_builtin; refine wpList_append_new' rfl _ _ 25 rfl w.heap.size i1 (.int .i64 0) 1 8 Tryz.underlying25 hi1 hz10 hz11 hz12 rfl (by decide) _ _ _ hown3 rfl _ rfl (by simp) rfl (by simp [Value.oneCell']) (by unfold maxLen; omega) (by omega) hbs3 ?_; intro v4 w4 hown4 hgrow4 hnn4)
            have hB4 : Below w.heap.size w w4 := below_grown hb3 hgrow4 hown3 (Nat.le_refl _) hbs3
            obtain ⟨a4, c4, rfl⟩ := own_form hown4
            go_wp2_with fail
            go_roundg (gk - 1)
            case measure => omega
            case rel => exact ⟨k + 1, L ++ [fs], unhide HS2, by go_num, by omega, by rw [unhide HIS]; simpa using hown4, hB4⟩
          · have HS2 : Hid (L = idxTo C.q.cl.length ++ keptTo S.kept (k + 1)) := hide (by rw [unhide HSU, if_neg (by simpa using hk1), List.append_nil]; exact unhide HL)
            have hq : ((fk : Int) == 1) = false := by rw [beq_eq_false_iff_ne]; omega
            clear hk1
            go_wp2_with fail
            go_roundg (gk - 1)
            case measure => omega
            case rel => exact ⟨k + 1, L, unhide HS2, by go_num, by omega, hown3, hb3⟩
        · have hke : k = S.kept.length := by omega
          subst hke
          have hd3 : decide ((S.kept.length : Int) < (S.kept.length : Int)) = false := by simp
          have HR : Hid (clausesOf C.q S.kept = L) := hide (by rw [unhide HL]; unfold clausesOf idxTo keptTo; rw [List.take_length])
          go_wp2_with fail
          go_ret
          exact ⟨_, rfl, by rw [unhide HR]; exact hown2, hb2⟩
end Go.Proofs.YtgipjjhkhfihpaaGreatDoor

namespace Go.Proofs.YtgipjjhkhfihpaaGreatDoor
open Go.RowKit

/-! ### findConflict -/
theorem find_drop {α : Type} (l : List α) (p : α → Bool) (k : Nat) (h : k < l.length) : (l.drop k).find? p = if p l[k] then some l[k] else (l.drop (k + 1)).find? p := by
  rw [List.drop_eq_getElem_cons h, List.find?_cons]
  cases p l[k] <;> rfl
set_option maxRecDepth 100000 in
set_option maxHeartbeats 3200000 in
theorem findConflict_any (b : Nat) (C : SC) (S : SS) (V : SV) (cs : List Nat) (aX : Option Addr) (cX base : Nat) (p : Nat × Nat) (w : World) (hS : SAt w b C S V) (hB : SBd C S) (hp : p.1 < 512 ∧ p.2 < 512) (hX : w.ownsRow base 3 1 (.slice aX cs.length cX) cs.length (ints cs)) (hcl : cs.length ≤ 1048576) :
    Calls Tryz.prog 110 #[.pointer (some ⟨b, 0, none⟩), .slice aX cs.length cX, SetV p] w fun e w' => e = .returned (.int .i64 (confOf S.ref C.uni cs p : Nat)) ∧ Below w.heap.size w w' := by
  obtain ⟨p1, p2⟩ := p
  have hbw := blk_lt hS.fb
  have hu := hB.uni
  go_enter Tryz.func110, Tryz.ntmps110
  go_wp2_with fail
  go_loopg [14] (cs.length) (fun m i wx => ∃ (k : Nat), i = .int .i64 k ∧ k + m = cs.length ∧ Below w.heap.size w wx ∧ wx.heap[w.heap.size]? = some (.cells #[.int .i64 (p1 : Int), .int .i64 (p2 : Int)] 74 (0, 0)) ∧ confOf S.ref C.uni cs (p1, p2) = ((cs.drop k).find? (fun s => isConf C.uni (p1, p2) (litsAt S.ref s))).getD 0)
  case atStart => exact ⟨0, rfl, by omega, (Below.refl _ _).alloc (Nat.le_refl _) _, heap_alloc_new _ _, rfl⟩
  case round =>
    obtain ⟨k, rfl, hkm, hBw, hva, hcf⟩ := hrel
    have HCF := hide hcf
    clear hcf
    by_cases hlt : k < cs.length
    · have HFD := hide (find_drop cs (fun s => isConf C.uni (p1, p2) (litsAt S.ref s)) k hlt)
      obtain ⟨g, cap, hVe, _, hg', _, hcell⟩ := own_pos hX (by omega)
      injection hVe with hVe _ hV2
      subst hVe hV2
      have hck : wr.cell? ⟨g, k, none⟩ = some (.int .i64 (cs[k] : Int)) := by rw [hBw.cell (p := ⟨g, k, none⟩) hg']; exact hcell k _ (by simp [ints, hlt])
      have lg := Nat.lt_of_lt_of_le hg' hBw.size
      clear hcell
      have hlt9 := litsAt_lt S.ref hB.ref cs[k]
      generalize cs[k] = n at *
      have cva0 : wr.cell? ⟨w.heap.size, 0, none⟩ = some (.int .i64 (p1 : Int)) := by rw [blk_cell hva]; rfl
      have cva1 : wr.cell? ⟨w.heap.size, 1, none⟩ = some (.int .i64 (p2 : Int)) := by rw [blk_cell hva]; rfl
      have lva := blk_lt hva
      have hSr := hS.later hBw
      go_wp2_with fail
      refine (left_any b C S V n (p1, p2) _ hSr hB hp).mono ?_
      rintro e u1 ⟨rfl, b1⟩
      replace hBw := hBw.trans (b1.mono hBw.size)
      replace hva := (b1.block _ (blk_lt hva)).trans hva
      replace cva0 : u1.cell? ⟨w.heap.size, 0, none⟩ = some (.int .i64 (p1 : Int)) := by rw [blk_cell hva]; rfl
      replace cva1 : u1.cell? ⟨w.heap.size, 1, none⟩ = some (.int .i64 (p2 : Int)) := by rw [blk_cell hva]; rfl
      replace lva := blk_lt hva
      replace hSr := hSr.later b1
      have HIC : Hid (isConf C.uni (p1, p2) (litsAt S.ref n) = (openB (litsAt S.ref n) (p1, p2) && emptyB (minus (leftOf (litsAt S.ref n) (p1, p2)) C.uni))) := hide rfl
      have hl9 := minus_lt (litsAt S.ref n) (swapL (p1, p2)) hlt9
      have HIC2 : Hid (∀ l op, leftOf (litsAt S.ref n) (p1, p2) = l → openB (litsAt S.ref n) (p1, p2) = op → isConf C.uni (p1, p2) (litsAt S.ref n) = (op && emptyB (minus l C.uni))) := hide (fun l op e1 e2 => by rw [unhide HIC, e1, e2])
      have hl9' : (leftOf (litsAt S.ref n) (p1, p2)).1 < 512 ∧ (leftOf (litsAt S.ref n) (p1, p2)).2 < 512 := hl9
      generalize hel : leftOf (litsAt S.ref n) (p1, p2) = l at *
      generalize heo : openB (litsAt S.ref n) (p1, p2) = op at *
      have HIC3 := hide (unhide HIC2 l op rfl rfl)
      clear hel heo HIC HIC2 hl9 hlt9
      obtain ⟨l1, l2⟩ := l
      dsimp only at hl9'
      go_wp2_with fail
      generalize hw0 : u1.alloc (.cells #[.int .i64 (l1 : Int), .int .i64 (l2 : Int)] 74) = u2
      have b2 : Below u1.heap.size u1 u2 := by rw [← hw0]; exact (Below.refl _ _).alloc (Nat.le_refl _) _
      have hle : u2.heap[u1.heap.size]? = some (.cells #[.int .i64 (l1 : Int), .int .i64 (l2 : Int)] 74 (0, 0)) := by rw [← hw0]; exact heap_alloc_new _ _
      clear hw0
      replace hBw := hBw.trans (b2.mono hBw.size)
      replace hva := (b2.block _ (blk_lt hva)).trans hva
      replace cva0 : u2.cell? ⟨w.heap.size, 0, none⟩ = some (.int .i64 (p1 : Int)) := by rw [blk_cell hva]; rfl
      replace cva1 : u2.cell? ⟨w.heap.size, 1, none⟩ = some (.int .i64 (p2 : Int)) := by rw [blk_cell hva]; rfl
      replace lva := blk_lt hva
      replace hSr := hSr.later b2
      have cle0 : u2.cell? ⟨u1.heap.size, 0, none⟩ = some (.int .i64 (l1 : Int)) := by rw [blk_cell hle]; rfl
      have cle1 : u2.cell? ⟨u1.heap.size, 1, none⟩ = some (.int .i64 (l2 : Int)) := by rw [blk_cell hle]; rfl
      have lle := blk_lt hle
      have k2 : u2.cell? ⟨b, 2, none⟩ = some (.int .i64 (C.uni.1 : Int)) := by rw [blk_cell hSr.fb]; rfl
      have k3 : u2.cell? ⟨b, 3, none⟩ = some (.int .i64 (C.uni.2 : Int)) := by rw [blk_cell hSr.fb]; rfl
      have lb := blk_lt hSr.fb
      have hm := minus_lt (l1, l2) C.uni hl9'
      obtain ⟨wo, rfl⟩ : ∃ wo, wo = wr := ⟨_, rfl⟩
      go_cut [11] (fun s11 wx => ∃ lo, s11 = .pointer (some ⟨lo, 0, none⟩) ∧ Below u2.heap.size u2 wx ∧ wx.heap[lo]? = some (.cells #[.int .i64 ((minus (l1, l2) C.uni).1 : Int), .int .i64 ((minus (l1, l2) C.uni).2 : Int)] 74 (0, 0)))
      case first =>
        go_region_with (go_at_call 75; refine (lwithout_any l1 l2 C.uni.1 C.uni.2 _ hl9'.1 hl9'.2 hu.1 hu.2).mono ?_; rintro e v1 ⟨rfl, y1⟩; have x1 : Below u2.heap.size u2 v1 := Below.trans (by first | exact Below.refl _ _ | exact (Below.refl _ _).drew | exact (Below.refl _ _).alloc (Nat.le_refl _) _ | exact ((Below.refl _ _).alloc (Nat.le_refl _) _).drew | exact ((Below.refl _ _).drew).alloc (Nat.le_refl _) _) (y1.mono (by simp)); (try (have hq : v1.heap[u2.heap.size]? = some (.cells #[.int .i64 0, .int .i64 0] 74 (0, 0)) := (by first | exact (y1.block u2.heap.size (by simp)).trans (heap_alloc_new u2 _) | exact (y1.block u2.heap.size (by simp)).trans (heap_alloc_new u2.drew _)); have q0 : v1.cell? ⟨u2.heap.size, 0, none⟩ = some (.int .i64 0) := (by rw [blk_cell hq]; rfl); have q1 : v1.cell? ⟨u2.heap.size, 1, none⟩ = some (.int .i64 0) := (by rw [blk_cell hq]; rfl); have qz0 := blk_free hq 0; have qz1 := blk_free hq 1; have ql := blk_lt hq)))
        all_goals
          go_wp2_with fail
          go_meet
          first
            | exact ⟨_, rfl, x1.alloc x1.size _, heap_alloc_new _ _⟩
            | exact ⟨_, rfl, (x1.setCell (p := ⟨u2.heap.size, 0, none⟩) (Nat.le_refl _) _).setCell (p := ⟨u2.heap.size, 1, none⟩) (Nat.le_refl _) _, blk_set (blk_set hq 0 _) 1 _⟩
      case rest =>
      obtain ⟨lo, rfl, hbc, ho⟩ := hcut
      generalize hem : minus (l1, l2) C.uni = cm at *
      have HEM := hide hem
      clear hem
      obtain ⟨d1, d2⟩ := cm
      dsimp only at hm ho
      have HIC4 : Hid (isConf C.uni (p1, p2) (litsAt S.ref n) = (op && (d1 ||| d2 == 0))) := hide (by rw [unhide HIC3]; rfl)
      have o0 : wc.cell? ⟨lo, 0, none⟩ = some (.int .i64 (d1 : Int)) := by rw [blk_cell ho]; rfl
      have o1 : wc.cell? ⟨lo, 1, none⟩ = some (.int .i64 (d2 : Int)) := by rw [blk_cell ho]; rfl
      have lo' := blk_lt ho
      have hBc := hBw.trans (hbc.mono hBw.size)
      have hvc := (hbc.block _ (blk_lt hva)).trans hva
      clear cva0 cva1 lva cle0 cle1 lle k2 k3 lb hle hva hBw
      cases op with
      | false =>
        have HF : Hid (confOf S.ref C.uni cs (p1, p2) = ((cs.drop (k + 1)).find? (fun s => isConf C.uni (p1, p2) (litsAt S.ref s))).getD 0) := hide (by rw [unhide HCF, unhide HFD, unhide HIC4]; rfl)
        go_wp2_with fail
        go_roundg (gk - 1)
        case measure => omega
        case rel => exact ⟨k + 1, by go_num, by omega, hBc, hvc, unhide HF⟩
      | true =>
        go_wp2_with fail
        refine (empty_any d1 d2 _ hm.1 hm.2).mono ?_
        rintro e w6 ⟨rfl, b6⟩
        have hB6 := hBc.trans (b6.mono hBc.size)
        have hv6 := (b6.block _ (blk_lt hvc)).trans hvc
        cases he : (d1 ||| d2 == 0) with
        | true =>
          have HF : Hid (confOf S.ref C.uni cs (p1, p2) = n) := hide (by rw [unhide HCF, unhide HFD, unhide HIC4, he]; rfl)
          clear he
          go_wp2_with fail
          go_ret
          exact ⟨by rw [unhide HF]; rfl, hB6⟩
        | false =>
          have HF : Hid (confOf S.ref C.uni cs (p1, p2) = ((cs.drop (k + 1)).find? (fun s => isConf C.uni (p1, p2) (litsAt S.ref s))).getD 0) := hide (by rw [unhide HCF, unhide HFD, unhide HIC4, he]; rfl)
          clear he
          go_wp2_with fail
          go_roundg (gk - 1)
          case measure => omega
          case rel => exact ⟨k + 1, by go_num, by omega, hB6, hv6, unhide HF⟩
    · have hke : k = cs.length := by omega
      have HF : Hid (confOf S.ref C.uni cs (p1, p2) = 0) := hide (by rw [unhide HCF, hke, List.drop_length]; rfl)
      subst hke
      go_wp2_with fail
      go_ret
      exact ⟨by rw [unhide HF]; rfl, hBw⟩
end Go.Proofs.YtgipjjhkhfihpaaGreatDoor

namespace Go.Proofs.YtgipjjhkhfihpaaGreatDoor
open Go.RowKit

/-! ### findUnit -/
def unitSel (ref : List Stp) (vals : Nat × Nat) : Option Nat → Int × Nat
  | none => (0, 0)
  | some s => ((listOf (leftOf (litsAt ref s) vals)).headD 0, s)
theorem unitOf_sel (ref : List Stp) (uni : Nat × Nat) (cs : List Nat) (vals : Nat × Nat) : unitOf ref uni cs vals = unitSel ref vals (cs.find? (fun s => isUnit uni vals (litsAt ref s))) := by
  unfold unitOf
  cases cs.find? (fun s => isUnit uni vals (litsAt ref s)) <;> rfl
def UnitV (u : Int × Nat) : Value := .agg #[.int .i64 u.1, .int .i64 (u.2 : Int)]
/-- What findUnit must answer. -/
def FindUnitSpec : Prop := ∀ (b : Nat) (C : SC) (S : SS) (V : SV) (cs : List Nat) (aX : Option Addr) (cX base : Nat) (p : Nat × Nat) (w : World), SAt w b C S V → SBd C S → (p.1 < 512 ∧ p.2 < 512) → w.ownsRow base 3 1 (.slice aX cs.length cX) cs.length (ints cs) → cs.length ≤ 1048576 →
    Calls Tryz.prog 111 #[.pointer (some ⟨b, 0, none⟩), .slice aX cs.length cX, SetV p] w fun e w' => e = .returned (UnitV (unitOf S.ref C.uni cs p)) ∧ Below w.heap.size w w'
end Go.Proofs.YtgipjjhkhfihpaaGreatDoor

namespace Go.Proofs.YtgipjjhkhfihpaaGreatDoor
open Go.RowKit

/-! ### Literals of a set -/
def L (c : Nat × Nat) (s : Bool) (v : Nat) : Bool := if s then c.1.testBit v else c.2.testBit v
def litI (v : Nat) (s : Bool) : Int := if s then (v : Int) else -(v : Int)
theorem L_ext {a b : Nat × Nat} (h : ∀ s v, L a s v = L b s v) : a = b := pair_ext (fun v => h true v) (fun v => h false v)
theorem L_zero (s : Bool) (v : Nat) : L (0, 0) s v = false := by cases s <;> simp [L]
theorem L_minus (a b : Nat × Nat) (s : Bool) (v : Nat) : L (minus a b) s v = (L a s v && !L b s v) := by
  cases s <;> simp [L, minus, testBit_less]
theorem L_swap (a : Nat × Nat) (s : Bool) (v : Nat) : L (swapL a) s v = L a (!s) v := by cases s <;> rfl
theorem L_left (c vals : Nat × Nat) (s : Bool) (v : Nat) : L (leftOf c vals) s v = (L c s v && !L vals (!s) v) := by rw [leftOf, L_minus, L_swap]
theorem litI_neg (v : Nat) (s : Bool) : -(litI v s) = litI v (!s) := by cases s <;> simp [litI]
theorem litI_abs (v : Nat) (s : Bool) : (litI v s).natAbs = v := by cases s <;> simp [litI]
theorem litI_inj {v u : Nat} {s t : Bool} (hv : 1 ≤ v) (hu : 1 ≤ u) (h : litI v s = litI u t) : v = u ∧ s = t := by
  cases s <;> cases t <;> simp [litI] at h
  · exact ⟨by omega, rfl⟩
  · omega
  · omega
  · exact ⟨by omega, rfl⟩
theorem L_with (c : Nat × Nat) (v : Nat) (s : Bool) (h1 : 1 ≤ v) (h8 : v ≤ 8) (t : Bool) (u : Nat) : L (withLit c (litI v s)) t u = (L c t u || (t == s && decide (u = v))) := by
  have hb := bitOf_nat v h1 h8
  cases s with
  | true =>
    have e : withLit c (litI v true) = (c.1 ||| 2 ^ v, c.2) := by
      have e0 : litI v true = (v : Int) := rfl
      rw [e0]; unfold withLit; rw [if_neg (by omega), hb]
    rw [e]
    cases t with
    | true => simp only [L, if_true]; rw [bit_or]; simp [eq_comm]
    | false => simp [L]
  | false =>
    have e : withLit c (litI v false) = (c.1, c.2 ||| 2 ^ v) := by
      have e0 : litI v false = -(v : Int) := rfl
      rw [e0]; unfold withLit; rw [if_pos (by omega), Int.neg_neg, hb]
    rw [e]
    cases t with
    | true => simp [L]
    | false => simp only [L, Bool.false_eq_true, if_false]; rw [bit_or]; simp [eq_comm]
theorem hasLit_L (c : Nat × Nat) (v : Nat) (s : Bool) (h1 : 1 ≤ v) (h8 : v ≤ 8) : hasLit c (litI v s) = L c s v := by
  cases s with
  | true => exact hasLit_pos c v h1 h8
  | false => exact hasLit_neg c v h1 h8
theorem hasVar_L (c : Nat × Nat) (v : Nat) (h1 : 1 ≤ v) (h8 : v ≤ 8) : hasVarB c v = (L c true v || L c false v) := by
  rw [has_eq c v h1 h8]; unfold hasB L; rw [Nat.testBit_or]; rfl
theorem L_without (c : Nat × Nat) (v : Nat) (h1 : 1 ≤ v) (h8 : v ≤ 8) (s : Bool) (u : Nat) : L (without c v) s u = (L c s u && !decide (u = v)) := by
  unfold without
  rw [bitOf_nat v h1 h8]
  cases s <;> simp [L, testBit_less, Nat.testBit_two_pow, eq_comm]
theorem L_without2 (a b : Nat × Nat) (v : Nat) (h1 : 1 ≤ v) (h8 : v ≤ 8) (s : Bool) (u : Nat) : L (without2 a b v) s u = ((L a s u || L b s u) && !decide (u = v)) := by
  rw [without2, L_without _ _ h1 h8]
  cases s <;> simp [L]
theorem bits_zero {a : Nat} : a = 0 ↔ ∀ v, a.testBit v = false :=
  ⟨fun h v => by rw [h]; simp, fun h => Nat.eq_of_testBit_eq (fun v => by rw [h v]; simp)⟩
theorem meets_iff (a b : Nat × Nat) : meetsB a b = true ↔ ∃ s v, L a s v = true ∧ L b s v = true := by
  unfold meetsB
  rw [bne_iff_ne]
  constructor
  · intro h
    obtain ⟨v, hv⟩ := some_bit h
    rw [Nat.testBit_or, Nat.testBit_and, Nat.testBit_and, Bool.or_eq_true, Bool.and_eq_true, Bool.and_eq_true] at hv
    rcases hv with hv | hv
    · exact ⟨true, v, hv⟩
    · exact ⟨false, v, hv⟩
  · rintro ⟨s, v, h1, h2⟩ e
    have := bits_zero.1 e v
    rw [Nat.testBit_or, Nat.testBit_and, Nat.testBit_and] at this
    cases s
    · simp only [L, Bool.false_eq_true, if_false] at h1 h2; rw [h1, h2] at this; simp at this
    · simp only [L, if_true] at h1 h2; rw [h1, h2] at this; simp at this
theorem clash_iff (a : Nat × Nat) : clashB a = true ↔ ∃ v, L a true v = true ∧ L a false v = true := by
  unfold clashB
  rw [bne_iff_ne]
  constructor
  · intro h
    obtain ⟨v, hv⟩ := some_bit h
    rw [Nat.testBit_and, Bool.and_eq_true] at hv
    exact ⟨v, hv⟩
  · rintro ⟨v, h1, h2⟩ e
    have := bits_zero.1 e v
    rw [Nat.testBit_and] at this
    simp only [L, Bool.false_eq_true, if_false, if_true] at h1 h2
    rw [h1, h2] at this; simp at this
theorem empty_iff (a : Nat × Nat) : emptyB a = true ↔ ∀ s v, L a s v = false := by
  unfold emptyB
  rw [beq_iff_eq, bits_zero]
  constructor
  · intro h s v
    have := h v
    rw [Nat.testBit_or, Bool.or_eq_false_iff] at this
    cases s
    · exact this.2
    · exact this.1
  · intro h v
    rw [Nat.testBit_or, Bool.or_eq_false_iff]
    exact ⟨h true v, h false v⟩
theorem empty_eq (a : Nat × Nat) : emptyB a = true ↔ a = (0, 0) := by
  rw [empty_iff]
  exact ⟨fun h => L_ext (fun s v => by rw [h s v, L_zero]), fun h s v => by rw [h, L_zero]⟩
/-- No variable's literals are both there. -/
def Free (c : Nat × Nat) : Prop := ∀ v, L c true v = true → L c false v = true → False
theorem free_iff (c : Nat × Nat) : clashB c = false ↔ Free c := by
  rw [← Bool.not_eq_true, clash_iff]
  exact ⟨fun h v a b => h ⟨v, a, b⟩, fun h ⟨v, a, b⟩ => h v a b⟩
theorem Free.not {c : Nat × Nat} (h : Free c) {s : Bool} {v : Nat} (h1 : L c s v = true) : L c (!s) v = false := by
  cases h2 : L c (!s) v with
  | false => rfl
  | true =>
    cases s
    · exact (h v h2 h1).elim
    · exact (h v h1 h2).elim
theorem Free.sub {c d : Nat × Nat} (h : Free c) (hs : ∀ s v, L d s v = true → L c s v = true) : Free d := fun v a b => h v (hs _ _ a) (hs _ _ b)
/-- Of literals that are on a path, or turned on it. -/
theorem Free.flip {c d : Nat × Nat} (h : Free c) (k : Bool) (hs : ∀ s v, L d s v = true → L c (s == k) v = true) : Free d := fun v a b => by
  have h1 := hs _ _ a
  have h2 := hs _ _ b
  cases k
  · exact h v h2 h1
  · exact h v h1 h2
/-! ### The list of literals -/
theorem listFrom_mem (c : Nat × Nat) (x : Int) : ∀ (k v : Nat), 1 ≤ v → v + k ≤ 9 → (x ∈ listFrom c k v ↔ ∃ u s, v ≤ u ∧ u < v + k ∧ x = litI u s ∧ L c s u = true) := by
  intro k
  induction k with
  | zero => intro v _ _; simp [listFrom]; intro u h1 h2; omega
  | succ k ih =>
    intro v h1 h9
    rw [listFrom, List.mem_append, List.mem_append, ih (v + 1) (by omega) (by omega)]
    have hp : hasLit c (v : Int) = L c true v := hasLit_L c v true h1 (by omega)
    have hn : hasLit c (-(v : Int)) = L c false v := hasLit_L c v false h1 (by omega)
    rw [hp, hn]
    constructor
    · rintro (h | h | ⟨u, s, h2, h3, h4, h5⟩)
      · split at h
        · next hh => simp at h; exact ⟨v, true, Nat.le_refl _, by omega, by rw [h]; rfl, hh⟩
        · simp at h
      · split at h
        · next hh => simp at h; exact ⟨v, false, Nat.le_refl _, by omega, by rw [h]; rfl, hh⟩
        · simp at h
      · exact ⟨u, s, by omega, by omega, h4, h5⟩
    · rintro ⟨u, s, h2, h3, h4, h5⟩
      by_cases e : u = v
      · subst e
        cases s with
        | true => left; rw [if_pos h5, h4]; simp [litI]
        | false => right; left; rw [if_pos h5, h4]; simp [litI]
      · right; right; exact ⟨u, s, by omega, by omega, h4, h5⟩
theorem listOf_mem (c : Nat × Nat) (x : Int) : x ∈ listOf c ↔ ∃ u s, 1 ≤ u ∧ u ≤ 8 ∧ x = litI u s ∧ L c s u = true := by
  rw [listOf, listFrom_mem c x 8 1 (by omega) (by omega)]
  constructor
  · rintro ⟨u, s, h1, h2, h3⟩; exact ⟨u, s, h1, by omega, h3⟩
  · rintro ⟨u, s, h1, h2, h3⟩; exact ⟨u, s, h1, by omega, h3⟩
theorem L_le8 {c : Nat × Nat} (h : Bd c) {s : Bool} {v : Nat} (hl : L c s v = true) : v ≤ 8 := by
  rcases Nat.lt_or_ge 8 v with h9 | h9
  · exfalso
    have h2 : 512 ≤ 2 ^ v := by
      have : 2 ^ 9 ≤ 2 ^ v := Nat.pow_le_pow_right (by decide) h9
      simpa using this
    cases s
    · have := Nat.testBit_lt_two_pow (x := c.2) (i := v) (by have := h.2; omega)
      simp only [L, Bool.false_eq_true, if_false] at hl; rw [this] at hl; cases hl
    · have := Nat.testBit_lt_two_pow (x := c.1) (i := v) (by have := h.1; omega)
      simp only [L, if_true] at hl; rw [this] at hl; cases hl
  · exact h9
/-- One literal alone. -/
theorem list_one {c : Nat × Nat} (h : (listOf c).length = 1) : ∃ u s, 1 ≤ u ∧ u ≤ 8 ∧ (listOf c).headD 0 = litI u s ∧ L c s u = true ∧ ∀ t v, 1 ≤ v → v ≤ 8 → L c t v = true → v = u ∧ t = s := by
  obtain ⟨x, hx⟩ := List.length_eq_one_iff.1 h
  have hm := (listOf_mem c x).1 (by rw [hx]; simp)
  obtain ⟨u, s, h1, h2, h3, h4⟩ := hm
  refine ⟨u, s, h1, h2, by rw [hx]; exact h3, h4, fun t v h5 h6 h7 => ?_⟩
  have hy := (listOf_mem c (litI v t)).2 ⟨v, t, h5, h6, rfl, h7⟩
  rw [hx, h3] at hy
  simp at hy
  exact litI_inj h5 h1 hy
end Go.Proofs.YtgipjjhkhfihpaaGreatDoor
