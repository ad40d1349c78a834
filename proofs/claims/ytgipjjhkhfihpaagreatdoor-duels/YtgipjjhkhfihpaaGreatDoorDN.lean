import Derived.Test.YtgipjjhkhfihpaaGreatDoorDM
import Derived.Deep.DeepCutAuto
import Derived.Deep.RegionWith
import Derived.Deep.QuietTactic
import Derived.BigQuiet
import Derived.Test.YtgipjjhkhfihpaaGreatDoorDL
namespace Go.Proofs.YtgipjjhkhfihpaaGreatDoor
open Go.RowKit

/-! ### A game in memory -/
def ruleCells (l : List RuleP) : List Value := l.flatMap (fun r => [Value.int .i64 (r.1.1 : Int), Value.int .i64 (r.1.2 : Int), Value.int .i64 (r.2.1 : Int), Value.int .i64 (r.2.2 : Int)])
theorem ruleCells_at (l : List RuleP) (k j : Nat) (h : k < l.length) (hj : j < 4) : (ruleCells l)[k * 4 + j]? = [Value.int .i64 (l[k].1.1 : Int), Value.int .i64 (l[k].1.2 : Int), Value.int .i64 (l[k].2.1 : Int), Value.int .i64 (l[k].2.2 : Int)][j]? := by
  induction l generalizing k with
  | nil => simp at h
  | cons a l ih =>
    cases k with
    | zero =>
      simp only [ruleCells, List.flatMap_cons, Nat.zero_mul, Nat.zero_add, List.getElem_cons_zero]
      rw [List.getElem?_append_left (by simpa using hj)]
    | succ k =>
      have := ih k (by simpa using h)
      simp only [ruleCells, List.flatMap_cons] at this ⊢
      rw [show (k + 1) * 4 + j = (k * 4 + j) + 4 from by omega, List.getElem?_append_right (by simp)]
      simpa using this
def blCells (l : BL) (hdrs : List Value) : List Value := (l.zip hdrs).flatMap (fun x => [x.2, Value.bool x.1.2])
theorem blCells_at (l : BL) (hdrs : List Value) (k : Nat) (h : k < l.length) (hh : k < hdrs.length) : (blCells l hdrs)[k * 2]? = some hdrs[k] ∧ (blCells l hdrs)[k * 2 + 1]? = some (.bool l[k].2) := by
  induction l generalizing k hdrs with
  | nil => simp at h
  | cons a l ih =>
    match hdrs, hh with
    | b :: hs, hh =>
      cases k with
      | zero => simp [blCells]
      | succ k =>
        have := ih hs k (by simpa using h) (by simpa using hh)
        simp only [blCells, List.zip_cons_cons, List.flatMap_cons] at this ⊢
        rw [show (k + 1) * 2 = k * 2 + 2 from by omega, show k * 2 + 2 + 1 = (k * 2 + 1) + 2 from by omega, List.getElem?_append_right (by simp), List.getElem?_append_right (by simp)]
        simpa using this
structure RBd (rs : List RuleP) : Prop where
  len : rs.length ≤ 9000
  bits : ∀ r ∈ rs, (r.1.1 < 512 ∧ r.1.2 < 512) ∧ r.2.1 < 512 ∧ r.2.2 < 512
structure GV where
  vB : Value
  vR : Value
  hdrs : List Value
/-- The rows of a game, which no one writes. -/
structure GRows (w : World) (bl : BL) (rs : List RuleP) (v : GV) : Prop where
  oB : w.ownsRow 0 111 2 v.vB bl.length (blCells bl v.hdrs)
  oR : w.ownsRow 0 149 4 v.vR rs.length (ruleCells rs)
  len : v.hdrs.length = bl.length
  row : ∀ j (hj : j < bl.length), w.ownsRow 0 3 1 (v.hdrs[j]'(by omega)) bl[j].1.length (ints bl[j].1)
structure GameAt (w : World) (b : Nat) (t : TypeId) (bl : BL) (rs : List RuleP) (g : GS) (v : GV) : Prop where
  fb : w.heap[b]? = some (.cells #[v.vB, v.vR, .int .i64 (g.turn : Int), .int .i64 (g.vals.1 : Int), .int .i64 (g.vals.2 : Int)] t (0, 0))
  tt : t = 76 ∨ t = 79
  rows : GRows w bl rs v
theorem GRows.keep {T : Nat → Prop} {w w' : World} {bl : BL} {rs : List RuleP} {v : GV} (h : GRows w bl rs v) (ho : Only T w w') (hT : ∀ k cs e, w.heap[k]? = some (.cells cs e (0, 0)) → e = 111 ∨ e = 149 ∨ (e = 3 ∧ ∃ j, ∃ hj : j < v.hdrs.length, v.hdrs[j].ownBlock = some k) → ¬ T k) : GRows w' bl rs v := by
  have hl := h.len
  refine ⟨own_keep h.oB ho (fun k hk => ?_), own_keep h.oR ho (fun k hk => ?_), h.len, fun j hj => own_keep (h.row j hj) ho (fun k hk => ?_)⟩
  · obtain ⟨c, hc⟩ := own_bk h.oB k hk; exact hT k _ _ hc (Or.inl rfl)
  · obtain ⟨c, hc⟩ := own_bk h.oR k hk; exact hT k _ _ hc (Or.inr (Or.inl rfl))
  · obtain ⟨c, hc⟩ := own_bk (h.row j hj) k hk; exact hT k _ _ hc (Or.inr (Or.inr ⟨rfl, j, by omega, hk⟩))
theorem GRows.later {w w' : World} {bl : BL} {rs : List RuleP} {v : GV} (h : GRows w bl rs v) (hb : Below w.heap.size w w') : GRows w' bl rs v :=
  h.keep (T := fun _ => False) (Only.of_below hb) (fun _ _ _ _ _ h => h)
theorem GameAt.later {w w' : World} {b : Nat} {t : TypeId} {bl : BL} {rs : List RuleP} {g : GS} {v : GV} (h : GameAt w b t bl rs g v) (hb : Below w.heap.size w w') : GameAt w' b t bl rs g v :=
  ⟨(hb.block b (blk_lt h.fb)).trans h.fb, h.tt, h.rows.later hb⟩
/-- Stores into the game's own block leave its rows. -/
theorem GameAt.rest {w w' : World} {b : Nat} {t : TypeId} {bl : BL} {rs : List RuleP} {g : GS} {v : GV} (h : GameAt w b t bl rs g v) (ho : Only (· = b) w w') : GRows w' bl rs v :=
  h.rows.keep ho (fun k cs e hk ht hkb => by
    subst hkb
    have he := blk_type hk h.fb
    rcases h.tt with h1 | h1 <;> rcases ht with h2 | h2 | ⟨h2, _⟩ <;> (rw [he, h1] at h2; revert h2; decide))
def RuleV (r : RuleP) : Value := .agg #[.int .i64 (r.1.1 : Int), .int .i64 (r.1.2 : Int), .int .i64 (r.2.1 : Int), .int .i64 (r.2.2 : Int)]

/-! ### fits, wanted, set -/
set_option maxRecDepth 100000 in
set_option maxHeartbeats 1600000 in
theorem fits_any (r1 r2 t1 t2 v p n : Nat) (w : World) (hr : (r1 < 512 ∧ r2 < 512) ∧ t1 < 512 ∧ t2 < 512) (hp : p < 512 ∧ n < 512) :
    Calls Tryz.prog 104 #[.agg #[.int .i64 (r1 : Int), .int .i64 (r2 : Int), .int .i64 (t1 : Int), .int .i64 (t2 : Int)], .int .i64 (v : Int), SetV (p, n)] w fun e w' => e = .returned (.bool (fitsW v (p, n) ((r1, r2), (t1, t2)))) ∧ Below w.heap.size w w' := by
  have HF : Hid (fitsW v (p, n) ((r1, r2), (t1, t2)) = (emptyB (minus (r1, r2) (p, n)) && hasVarB (t1, t2) v)) := hide rfl
  go_enter Tryz.func104, Tryz.ntmps104
  go_wp2_with fail
  generalize hw0 : ((w.alloc (.cells #[.int .i64 (r1 : Int), .int .i64 (r2 : Int), .int .i64 (t1 : Int), .int .i64 (t2 : Int)] 149)).alloc (.cells #[.int .i64 (p : Int), .int .i64 (n : Int)] 74)) = u1
  have hB : Below w.heap.size w u1 := by rw [← hw0]; exact ((Below.refl _ _).alloc (Nat.le_refl _) _).alloc (by simp) _
  have hru : u1.heap[w.heap.size]? = some (.cells #[.int .i64 (r1 : Int), .int .i64 (r2 : Int), .int .i64 (t1 : Int), .int .i64 (t2 : Int)] 149 (0, 0)) := by rw [← hw0, heap_alloc_old _ _ (by simp)]; exact alloc_new_at (by simp)
  have hva : u1.heap[w.heap.size + 1]? = some (.cells #[.int .i64 (p : Int), .int .i64 (n : Int)] 74 (0, 0)) := by rw [← hw0]; exact alloc_new_at (by simp)
  clear hw0
  have cru0 : u1.cell? ⟨w.heap.size, 0, none⟩ = some (.int .i64 (r1 : Int)) := by rw [blk_cell hru]; rfl
  have cru1 : u1.cell? ⟨w.heap.size, 1, none⟩ = some (.int .i64 (r2 : Int)) := by rw [blk_cell hru]; rfl
  have cru2 : u1.cell? ⟨w.heap.size, 2, none⟩ = some (.int .i64 (t1 : Int)) := by rw [blk_cell hru]; rfl
  have cru3 : u1.cell? ⟨w.heap.size, 3, none⟩ = some (.int .i64 (t2 : Int)) := by rw [blk_cell hru]; rfl
  have lru := blk_lt hru
  have cva0 : u1.cell? ⟨w.heap.size + 1, 0, none⟩ = some (.int .i64 (p : Int)) := by rw [blk_cell hva]; rfl
  have cva1 : u1.cell? ⟨w.heap.size + 1, 1, none⟩ = some (.int .i64 (n : Int)) := by rw [blk_cell hva]; rfl
  have lva := blk_lt hva
  refine (lwithout_any r1 r2 p n _ hr.1.1 hr.1.2 hp.1 hp.2).mono ?_
  rintro e u2 ⟨rfl, b2⟩
  replace hB := hB.trans (b2.mono hB.size)
  replace hru := (b2.block _ (blk_lt hru)).trans hru
  replace cru0 : u2.cell? ⟨w.heap.size, 0, none⟩ = some (.int .i64 (r1 : Int)) := by rw [blk_cell hru]; rfl
  replace cru1 : u2.cell? ⟨w.heap.size, 1, none⟩ = some (.int .i64 (r2 : Int)) := by rw [blk_cell hru]; rfl
  replace cru2 : u2.cell? ⟨w.heap.size, 2, none⟩ = some (.int .i64 (t1 : Int)) := by rw [blk_cell hru]; rfl
  replace cru3 : u2.cell? ⟨w.heap.size, 3, none⟩ = some (.int .i64 (t2 : Int)) := by rw [blk_cell hru]; rfl
  replace lru := blk_lt hru
  replace hva := (b2.block _ (blk_lt hva)).trans hva
  replace cva0 : u2.cell? ⟨w.heap.size + 1, 0, none⟩ = some (.int .i64 (p : Int)) := by rw [blk_cell hva]; rfl
  replace cva1 : u2.cell? ⟨w.heap.size + 1, 1, none⟩ = some (.int .i64 (n : Int)) := by rw [blk_cell hva]; rfl
  replace lva := blk_lt hva
  have hm := minus_lt (r1, r2) (p, n) hr.1
  generalize hea : minus (r1, r2) (p, n) = c at *
  clear hea
  obtain ⟨d1, d2⟩ := c
  dsimp only at hm
  go_wp2_with fail
  generalize hw0 : u2.alloc (.cells #[.int .i64 (d1 : Int), .int .i64 (d2 : Int)] 74) = u3
  have b3 : Below u2.heap.size u2 u3 := by rw [← hw0]; exact (Below.refl _ _).alloc (Nat.le_refl _) _
  have hop : u3.heap[u2.heap.size]? = some (.cells #[.int .i64 (d1 : Int), .int .i64 (d2 : Int)] 74 (0, 0)) := by rw [← hw0]; exact heap_alloc_new _ _
  clear hw0
  replace hB := hB.trans (b3.mono hB.size)
  replace hru := (b3.block _ (blk_lt hru)).trans hru
  replace cru0 : u3.cell? ⟨w.heap.size, 0, none⟩ = some (.int .i64 (r1 : Int)) := by rw [blk_cell hru]; rfl
  replace cru1 : u3.cell? ⟨w.heap.size, 1, none⟩ = some (.int .i64 (r2 : Int)) := by rw [blk_cell hru]; rfl
  replace cru2 : u3.cell? ⟨w.heap.size, 2, none⟩ = some (.int .i64 (t1 : Int)) := by rw [blk_cell hru]; rfl
  replace cru3 : u3.cell? ⟨w.heap.size, 3, none⟩ = some (.int .i64 (t2 : Int)) := by rw [blk_cell hru]; rfl
  replace lru := blk_lt hru
  replace hva := (b3.block _ (blk_lt hva)).trans hva
  replace cva0 : u3.cell? ⟨w.heap.size + 1, 0, none⟩ = some (.int .i64 (p : Int)) := by rw [blk_cell hva]; rfl
  replace cva1 : u3.cell? ⟨w.heap.size + 1, 1, none⟩ = some (.int .i64 (n : Int)) := by rw [blk_cell hva]; rfl
  replace lva := blk_lt hva
  have cop0 : u3.cell? ⟨u2.heap.size, 0, none⟩ = some (.int .i64 (d1 : Int)) := by rw [blk_cell hop]; rfl
  have cop1 : u3.cell? ⟨u2.heap.size, 1, none⟩ = some (.int .i64 (d2 : Int)) := by rw [blk_cell hop]; rfl
  have lop := blk_lt hop
  refine (empty_any d1 d2 _ hm.1 hm.2).mono ?_
  rintro e u4 ⟨rfl, b4⟩
  replace hB := hB.trans (b4.mono hB.size)
  replace hru := (b4.block _ (blk_lt hru)).trans hru
  replace cru0 : u4.cell? ⟨w.heap.size, 0, none⟩ = some (.int .i64 (r1 : Int)) := by rw [blk_cell hru]; rfl
  replace cru1 : u4.cell? ⟨w.heap.size, 1, none⟩ = some (.int .i64 (r2 : Int)) := by rw [blk_cell hru]; rfl
  replace cru2 : u4.cell? ⟨w.heap.size, 2, none⟩ = some (.int .i64 (t1 : Int)) := by rw [blk_cell hru]; rfl
  replace cru3 : u4.cell? ⟨w.heap.size, 3, none⟩ = some (.int .i64 (t2 : Int)) := by rw [blk_cell hru]; rfl
  replace lru := blk_lt hru
  replace hva := (b4.block _ (blk_lt hva)).trans hva
  replace cva0 : u4.cell? ⟨w.heap.size + 1, 0, none⟩ = some (.int .i64 (p : Int)) := by rw [blk_cell hva]; rfl
  replace cva1 : u4.cell? ⟨w.heap.size + 1, 1, none⟩ = some (.int .i64 (n : Int)) := by rw [blk_cell hva]; rfl
  replace lva := blk_lt hva
  replace hop := (b4.block _ (blk_lt hop)).trans hop
  replace cop0 : u4.cell? ⟨u2.heap.size, 0, none⟩ = some (.int .i64 (d1 : Int)) := by rw [blk_cell hop]; rfl
  replace cop1 : u4.cell? ⟨u2.heap.size, 1, none⟩ = some (.int .i64 (d2 : Int)) := by rw [blk_cell hop]; rfl
  replace lop := blk_lt hop
  cases hem : (d1 ||| d2 == 0) with
  | false =>
    have HF2 : Hid (fitsW v (p, n) ((r1, r2), (t1, t2)) = false) := hide (by rw [unhide HF]; show ((d1 ||| d2 == 0) && _) = _; rw [hem]; rfl)
    go_wp2_with fail
    go_ret
    exact ⟨by rw [unhide HF2]; rfl, hB⟩
  | true =>
    have HF2 : Hid (fitsW v (p, n) ((r1, r2), (t1, t2)) = ((t1 ||| t2) &&& bitOf (v : Int) != 0)) := hide (by rw [unhide HF]; show ((d1 ||| d2 == 0) && _) = _; rw [hem]; rfl)
    go_wp2_with fail
    refine (hasVar_any t1 t2 v _ hr.2.1 hr.2.2).mono ?_
    rintro e u9 ⟨rfl, b9⟩
    go_wp2_with fail
    go_ret
    exact ⟨by rw [unhide HF2]; rfl, hB.trans (b9.mono hB.size)⟩

theorem wanted_step (rs : List RuleP) (vals : Nat × Nat) (v k : Nat) (h : k < rs.length) : wantedW (rs.drop k) vals v = if fitsW v vals rs[k] then hasLit rs[k].2 (v : Int) else wantedW (rs.drop (k + 1)) vals v := by
  unfold wantedW
  rw [List.drop_eq_getElem_cons h, List.find?_cons]
  cases fitsW v vals rs[k] <;> rfl
set_option maxRecDepth 100000 in
set_option maxHeartbeats 1600000 in
theorem wanted_any (b : Nat) (t : TypeId) (bl : BL) (rs : List RuleP) (g : GS) (gv : GV) (v : Nat) (w : World) (hG : GameAt w b t bl rs g gv) (hR : RBd rs) (hp : g.vals.1 < 512 ∧ g.vals.2 < 512) (hv : v ≤ 8) :
    Calls Tryz.prog 77 #[.pointer (some ⟨b, 0, none⟩), .int .i64 (v : Int)] w fun e w' => e = .returned (.bool (wantedW rs g.vals v)) ∧ Below w.heap.size w w' := by
  obtain ⟨turn, p, n⟩ := g
  have hbw := blk_lt hG.fb
  obtain ⟨aR, cR, hRf⟩ := own_form hG.rows.oR
  have hoR := hG.rows.oR
  rw [hRf] at hoR
  have k1 : w.cell? ⟨b, 1, none⟩ = some (.slice aR rs.length cR) := by rw [blk_cell hG.fb]; exact congrArg some hRf
  have hrl := hR.len
  go_enter Tryz.func77, Tryz.ntmps77
  go_wp2_with fail
  go_loopg [12] (rs.length) (fun m i wx => ∃ (k : Nat), i = .int .i64 k ∧ k + m = rs.length ∧ wantedW rs (p, n) v = wantedW (rs.drop k) (p, n) v ∧ Below w.heap.size w wx)
  case atStart => exact ⟨0, rfl, by omega, rfl, Below.refl _ _⟩
  case round =>
    obtain ⟨k, rfl, hk, hwt, hb⟩ := hrel
    have hGr := hG.later hb
    have lb := blk_lt hGr.fb
    have m3 : wr.cell? ⟨b, 3, none⟩ = some (.int .i64 (p : Int)) := by rw [blk_cell hGr.fb]; rfl
    have m4 : wr.cell? ⟨b, 4, none⟩ = some (.int .i64 (n : Int)) := by rw [blk_cell hGr.fb]; rfl
    by_cases hlt : k < rs.length
    · have HW : Hid (wantedW rs (p, n) v = if fitsW v (p, n) rs[k] then hasLit rs[k].2 (v : Int) else wantedW (rs.drop (k + 1)) (p, n) v) := hide (by rw [hwt]; exact wanted_step rs (p, n) v k hlt)
      have hbd := hR.bits _ (List.getElem_mem hlt)
      obtain ⟨g, cap, hVe, hg, hg', _, hcell⟩ := own_pos hoR (by omega)
      injection hVe with hVe _ hV2
      subst hVe hV2
      have hc : ∀ j (hj : j < 4) u, [Value.int .i64 (rs[k].1.1 : Int), Value.int .i64 (rs[k].1.2 : Int), Value.int .i64 (rs[k].2.1 : Int), Value.int .i64 (rs[k].2.2 : Int)][j]? = some u → wr.cell? ⟨g, k * 4 + j, none⟩ = some u := fun j hj u hu => by
        rw [hb.cell (p := ⟨g, k * 4 + j, none⟩) hg']
        exact hcell _ _ (by rw [ruleCells_at rs k j hlt hj]; exact hu)
      have hx0 : wr.cell? ⟨g, k * 4, none⟩ = some (.int .i64 (rs[k].1.1 : Int)) := hc 0 (by omega) _ rfl
      have hx1 : wr.cell? ⟨g, k * 4 + 1, none⟩ = some (.int .i64 (rs[k].1.2 : Int)) := hc 1 (by omega) _ rfl
      have hx2 : wr.cell? ⟨g, k * 4 + 2, none⟩ = some (.int .i64 (rs[k].2.1 : Int)) := hc 2 (by omega) _ rfl
      have hx3 : wr.cell? ⟨g, k * 4 + 3, none⟩ = some (.int .i64 (rs[k].2.2 : Int)) := hc 3 (by omega) _ rfl
      have hgw : g < wr.heap.size := Nat.lt_of_lt_of_le hg' hb.size
      clear hc hcell hwt
      generalize rs[k] = r at *
      obtain ⟨⟨r1, r2⟩, t1, t2⟩ := r
      dsimp only at *
      go_wp2_with fail
      have hA : Below wr.heap.size wr (wr.alloc (.cells #[.int .i64 (r1 : Int), .int .i64 (r2 : Int), .int .i64 (t1 : Int), .int .i64 (t2 : Int)] 149)) := (Below.refl _ _).alloc (Nat.le_refl _) _
      have hru := heap_alloc_new wr (.cells #[.int .i64 (r1 : Int), .int .i64 (r2 : Int), .int .i64 (t1 : Int), .int .i64 (t2 : Int)] 149)
      have hGa := hGr.later hA
      have hBa := hb.trans (hA.mono hb.size)
      generalize wr.alloc (.cells #[.int .i64 (r1 : Int), .int .i64 (r2 : Int), .int .i64 (t1 : Int), .int .i64 (t2 : Int)] 149) = wa at *
      have cru0 : wa.cell? ⟨wr.heap.size, 0, none⟩ = some (.int .i64 (r1 : Int)) := by rw [blk_cell hru]; rfl
      have cru1 : wa.cell? ⟨wr.heap.size, 1, none⟩ = some (.int .i64 (r2 : Int)) := by rw [blk_cell hru]; rfl
      have cru2 : wa.cell? ⟨wr.heap.size, 2, none⟩ = some (.int .i64 (t1 : Int)) := by rw [blk_cell hru]; rfl
      have cru3 : wa.cell? ⟨wr.heap.size, 3, none⟩ = some (.int .i64 (t2 : Int)) := by rw [blk_cell hru]; rfl
      have lru := blk_lt hru
      have lba := blk_lt hGa.fb
      have n3 : wa.cell? ⟨b, 3, none⟩ = some (.int .i64 (p : Int)) := by rw [blk_cell hGa.fb]; rfl
      have n4 : wa.cell? ⟨b, 4, none⟩ = some (.int .i64 (n : Int)) := by rw [blk_cell hGa.fb]; rfl
      obtain ⟨wo, rfl⟩ : ∃ wo, wo = wr := ⟨_, rfl⟩
      go_cut [22] (fun s22 wx => s22 = .bool (fitsW v (p, n) ((r1, r2), (t1, t2))) ∧ Below wa.heap.size wa wx)
      case first =>
        go_region_with (go_at_call 104; refine (fits_any r1 r2 t1 t2 v p n _ hbd hp).mono ?_; rintro e v1 ⟨rfl, y1⟩; have x1 : Below wa.heap.size wa v1 := Below.trans (by first | exact Below.refl _ _ | exact (Below.refl _ _).drew) (y1.mono (by simp)))
        all_goals
          go_wp2_with fail
          go_meet
          exact ⟨rfl, x1⟩
      case rest =>
      obtain ⟨rfl, hbc⟩ := hcut
      have hBc := hBa.trans (hbc.mono hBa.size)
      have hru2 := (hbc.block _ (blk_lt hru)).trans hru
      have d0 : wc.cell? ⟨wo.heap.size, 0, none⟩ = some (.int .i64 (r1 : Int)) := by rw [blk_cell hru2]; rfl
      have d1 : wc.cell? ⟨wo.heap.size, 1, none⟩ = some (.int .i64 (r2 : Int)) := by rw [blk_cell hru2]; rfl
      have d2 : wc.cell? ⟨wo.heap.size, 2, none⟩ = some (.int .i64 (t1 : Int)) := by rw [blk_cell hru2]; rfl
      have d3 : wc.cell? ⟨wo.heap.size, 3, none⟩ = some (.int .i64 (t2 : Int)) := by rw [blk_cell hru2]; rfl
      have lru2 := blk_lt hru2
      cases hft : fitsW v (p, n) ((r1, r2), (t1, t2)) with
      | true =>
        have HW2 : Hid (wantedW rs (p, n) v = hasLit (t1, t2) (v : Int)) := hide (by rw [unhide HW, hft]; rfl)
        go_wp2_with fail
        refine (has_any t1 t2 (v : Int) _ hbd.2.1 hbd.2.2 (by omega) (by omega)).mono ?_
        rintro e w9 ⟨rfl, b9⟩
        go_wp2_with fail
        go_ret
        exact ⟨by rw [unhide HW2]; rfl, hBc.trans (b9.mono hBc.size)⟩
      | false =>
        have HW2 : Hid (wantedW rs (p, n) v = wantedW (rs.drop (k + 1)) (p, n) v) := hide (by rw [unhide HW, hft]; rfl)
        go_wp2_with fail
        go_roundg (gk - 1)
        case measure => omega
        case rel => exact ⟨k + 1, by go_num, by omega, unhide HW2, hBc⟩
    · have hkl : k = rs.length := by omega
      subst hkl
      have HW : Hid (wantedW rs (p, n) v = false) := hide (by rw [hwt, List.drop_length]; rfl)
      clear hwt
      go_wp2_with fail
      go_ret
      exact ⟨by rw [unhide HW]; rfl, hb⟩

set_option maxRecDepth 100000 in
set_option maxHeartbeats 1600000 in
theorem set_any (b : Nat) (t : TypeId) (bl : BL) (rs : List RuleP) (g : GS) (gv : GV) (v : Nat) (x : Bool) (w : World) (hG : GameAt w b t bl rs g gv) (hp : g.vals.1 < 512 ∧ g.vals.2 < 512) (hv : v ≤ 8) :
    Calls Tryz.prog 78 #[.pointer (some ⟨b, 0, none⟩), .int .i64 (v : Int), .bool x] w fun e w' => e = .returned (.tuple #[]) ∧ GameAt w' b t bl rs ⟨g.turn, setW g.vals v x⟩ gv ∧ Only (· = b) w w' := by
  obtain ⟨turn, p, n⟩ := g
  dsimp only at hp
  have lb := blk_lt hG.fb
  have m3 : w.cell? ⟨b, 3, none⟩ = some (.int .i64 (p : Int)) := by rw [blk_cell hG.fb]; rfl
  have m4 : w.cell? ⟨b, 4, none⟩ = some (.int .i64 (n : Int)) := by rw [blk_cell hG.fb]; rfl
  have hwn : IntKind.i64.wrap (-(v : Int)) = -(v : Int) := wrap_neg_small' v hv
  have HS : Hid (setW (p, n) v x = withLit (p, n) (litI v x)) := hide rfl
  go_enter Tryz.func78, Tryz.ntmps78
  cases x with
  | true =>
    have HS2 : Hid (setW (p, n) v true = withLit (p, n) ((v : Int))) := hide rfl
    go_wp2_with fail
    refine (with_any p n ((v : Int)) _ hp.1 hp.2 (by omega) (by omega)).mono ?_
    rintro e w1 ⟨rfl, hb1⟩
    have hG1 := hG.later hb1
    have lb1 := blk_lt hG1.fb
    have k3 : w1.cell? ⟨b, 3, none⟩ = some (.int .i64 (p : Int)) := by rw [blk_cell hG1.fb]; rfl
    have k4 : w1.cell? ⟨b, 4, none⟩ = some (.int .i64 (n : Int)) := by rw [blk_cell hG1.fb]; rfl
    have z3 := blk_free hG1.fb 3
    have z4 := blk_free hG1.fb 4
    generalize withLit (p, n) ((v : Int)) = c at *
    obtain ⟨d1, d2⟩ := c
    go_wp2_with fail
    go_end0
    have ho : Only (· = b) w1 ((w1.setCell ⟨b, 3, none⟩ (.int .i64 (d1 : Int))).setCell ⟨b, 4, none⟩ (.int .i64 (d2 : Int))) := ((Only.refl (· = b) w1).setCell (p := ⟨b, 3, none⟩) (Or.inl rfl) _).setCell (p := ⟨b, 4, none⟩) (Or.inl rfl) _
    refine ⟨rfl, ⟨?_, hG.tt, hG1.rest ho⟩, (Only.of_below hb1).trans ho⟩
    rw [unhide HS2]
    exact blk_set (blk_set hG1.fb 3 _) 4 _
  | false =>
    have HS2 : Hid (setW (p, n) v false = withLit (p, n) (-(v : Int))) := hide rfl
    go_wp2_with fail
    refine (with_any p n (-(v : Int)) _ hp.1 hp.2 (by omega) (by omega)).mono ?_
    rintro e w1 ⟨rfl, hb1⟩
    have hG1 := hG.later hb1
    have lb1 := blk_lt hG1.fb
    have k3 : w1.cell? ⟨b, 3, none⟩ = some (.int .i64 (p : Int)) := by rw [blk_cell hG1.fb]; rfl
    have k4 : w1.cell? ⟨b, 4, none⟩ = some (.int .i64 (n : Int)) := by rw [blk_cell hG1.fb]; rfl
    have z3 := blk_free hG1.fb 3
    have z4 := blk_free hG1.fb 4
    generalize withLit (p, n) (-(v : Int)) = c at *
    obtain ⟨d1, d2⟩ := c
    go_wp2_with fail
    go_end0
    have ho : Only (· = b) w1 ((w1.setCell ⟨b, 3, none⟩ (.int .i64 (d1 : Int))).setCell ⟨b, 4, none⟩ (.int .i64 (d2 : Int))) := ((Only.refl (· = b) w1).setCell (p := ⟨b, 3, none⟩) (Or.inl rfl) _).setCell (p := ⟨b, 4, none⟩) (Or.inl rfl) _
    refine ⟨rfl, ⟨?_, hG.tt, hG1.rest ho⟩, (Only.of_below hb1).trans ho⟩
    rw [unhide HS2]
    exact blk_set (blk_set hG1.fb 3 _) 4 _
end Go.Proofs.YtgipjjhkhfihpaaGreatDoor

namespace Go.Proofs.YtgipjjhkhfihpaaGreatDoor
open Go.RowKit

/-! ### answer -/
structure BBd (bl : BL) : Prop where
  len : bl.length ≤ 8
  row : ∀ x ∈ bl, x.1.length ≤ 8 ∧ ∀ v ∈ x.1, 1 ≤ v ∧ v ≤ 8
set_option maxRecDepth 100000 in
set_option maxHeartbeats 1600000 in
theorem answer_any (b : Nat) (t : TypeId) (bl : BL) (rs : List RuleP) (g : GS) (gv : GV) (w : World) (hG : GameAt w b t bl rs g gv) (hR : RBd rs) (hB : BBd bl) (hp : g.vals.1 < 512 ∧ g.vals.2 < 512) (ht : g.turn ≤ bl.length) :
    Calls Tryz.prog 51 #[.pointer (some ⟨b, 0, none⟩)] w fun e w' => e = .returned (.tuple #[]) ∧ GameAt w' b t bl rs (ansW rs bl g) gv ∧ Only (· = b) w w' := by
  have lb := blk_lt hG.fb
  have hbl := hB.len
  go_enter Tryz.func51, Tryz.ntmps51
  go_wp2_with fail
  have HB := hide hB
  clear hB
  go_loopg [] (bl.length + 1 - g.turn) (fun m wx => ∃ (g' : GS), g'.turn ≤ bl.length ∧ m + g'.turn = bl.length + 1 ∧ (g'.vals.1 < 512 ∧ g'.vals.2 < 512) ∧ ansW rs bl g = ansW rs bl g' ∧ GameAt wx b t bl rs g' gv ∧ Only (· = b) w wx)
  case atStart => exact ⟨g, ht, by omega, hp, rfl, hG, Only.refl _ _⟩
  case round =>
    obtain ⟨⟨turn, p, n⟩, hle, hm, hlt, hans, hGr, ho⟩ := hrel
    dsimp only at hle hm hlt
    have HA := hide hans
    clear hans
    have lbr := blk_lt hGr.fb
    obtain ⟨aB, cB, hBf⟩ := own_form hGr.rows.oB
    have c0 : wr.cell? ⟨b, 0, none⟩ = some (.slice aB bl.length cB) := by rw [blk_cell hGr.fb]; exact congrArg some hBf
    have c2 : wr.cell? ⟨b, 2, none⟩ = some (.int .i64 (turn : Int)) := by rw [blk_cell hGr.fb]; rfl
    by_cases hl : turn < bl.length
    · have hd1 : decide ((turn : Int) < (bl.length : Int)) = true := decide_eq_true (by omega)
      have hd2 : decide (turn < bl.length) = true := decide_eq_true hl
      have hhl : turn < gv.hdrs.length := by rw [hGr.rows.len]; exact hl
      obtain ⟨e0, e1⟩ := blCells_at bl gv.hdrs turn hl hhl
      have hoB := hGr.rows.oB
      rw [hBf] at hoB
      obtain ⟨gB, cap, hVe, hg, hg', _, hcell⟩ := own_pos hoB (by omega)
      injection hVe with hVe _ hV2
      subst hVe hV2
      have hx0 := hcell _ _ e0
      have hx1 := hcell _ _ e1
      have hrow := hGr.rows.row turn hl
      obtain ⟨aX, cX, hXf⟩ := own_form hrow
      rw [hXf] at hx0
      have HAG : Hid (bl[turn].2 = true → ansW rs bl ⟨turn, (p, n)⟩ = ansW rs bl ⟨turn + 1, ansBlock rs bl[turn].1 (p, n)⟩) := hide (fun h => by
        unfold ansW
        rw [show bl.length - (GS.mk turn (p, n)).turn = (bl.length - (turn + 1)) + 1 from by show bl.length - turn = _; omega, ansGo]
        rw [show bl.getD (GS.mk turn (p, n)).turn ([], false) = bl[turn] from by simp [List.getD, hl], if_pos h])
      have HAS : Hid (bl[turn].2 = false → ansW rs bl ⟨turn, (p, n)⟩ = ⟨turn, (p, n)⟩) := hide (fun h => by
        unfold ansW
        rw [show bl.length - (GS.mk turn (p, n)).turn = (bl.length - (turn + 1)) + 1 from by show bl.length - turn = _; omega, ansGo]
        rw [show bl.getD (GS.mk turn (p, n)).turn ([], false) = bl[turn] from by simp [List.getD, hl], if_neg (by rw [h]; decide)])
      have hbd := (unhide HB).row _ (List.getElem_mem hl)
      have HRW := hide hrow
      clear hcell e0 e1 hrow hoB
      cases hw : bl[turn].2 with
      | true =>
        rw [hw] at hx1
        have HF : Hid (ansW rs bl g = ansW rs bl ⟨turn + 1, ansBlock rs bl[turn].1 (p, n)⟩) := hide (by rw [unhide HA]; exact unhide HAG hw)
        go_wp2_with fail
        go_quiet (fail)
        have b1 : Below wr.heap.size wr (wr.drewN nq) := below_drewN (Below.refl _ _) nq
        have hG1 := hGr.later b1
        have ho1 : Only (· = b) w (wr.drewN nq) := ho.trans (Only.of_below b1)
        have hgw : gB < (wr.drewN nq).heap.size := Nat.lt_of_lt_of_le hg' b1.size
        replace hx0 : (wr.drewN nq).cell? ⟨gB, turn * 2, none⟩ = _ := (b1.cell (p := ⟨gB, turn * 2, none⟩) hg').trans hx0
        replace c0 : (wr.drewN nq).cell? ⟨b, 0, none⟩ = _ := (b1.cell (p := ⟨b, 0, none⟩) lbr).trans c0
        replace c2 : (wr.drewN nq).cell? ⟨b, 2, none⟩ = _ := (b1.cell (p := ⟨b, 2, none⟩) lbr).trans c2
        generalize wr.drewN nq = w1 at *
        have lb1 := blk_lt hG1.fb
        clear hx1
        go_wp2_with fail
        go_quiet (fail)
        have b2 : Below w1.heap.size w1 (w1.drewN nq) := below_drewN (Below.refl _ _) nq
        have hG2 := hG1.later b2
        have ho2 : Only (· = b) w (w1.drewN nq) := ho1.trans (Only.of_below b2)
        generalize w1.drewN nq = w2 at *
        clear hG1 ho1 b2 b1 hgw lb1 hx0 c0 c2
        go_wp2_with fail
        obtain ⟨wo, rfl⟩ : ∃ wo, wo = wr := ⟨_, rfl⟩
        obtain ⟨gko, rfl⟩ : ∃ x, x = gk := ⟨_, rfl⟩
        obtain ⟨row, hrow⟩ : ∃ row, bl[turn].1 = row := ⟨_, rfl⟩
        rw [hrow] at hbd HF ⊢
        have HRO := hide hrow
        clear hrow HAG HAS
        go_loopg [40] (row.length) (fun m i wx => ∃ (k : Nat) (vals : Nat × Nat), i = .int .i64 k ∧ k + m = row.length ∧ (vals.1 < 512 ∧ vals.2 < 512) ∧ ansBlock rs row (p, n) = ansBlock rs (row.drop k) vals ∧ GameAt wx b t bl rs ⟨turn, vals⟩ gv ∧ Only (· = b) w wx)
        case atStart => exact ⟨0, (p, n), rfl, by omega, hlt, rfl, hG2, ho2⟩
        case round =>
          obtain ⟨k, vals, rfl, hk, hv9, hab, hG3, ho3⟩ := hrel
          have HAB := hide hab
          clear hab
          have lb3 := blk_lt hG3.fb
          by_cases hkl : k < row.length
          · have hr3 := hG3.rows.row turn hl
            rw [hXf] at hr3
            have hvv := hbd.2 _ (List.getElem_mem hkl)
            have hlen : bl[turn].1.length = row.length := by rw [unhide HRO]
            obtain ⟨gX, cap, hVe, hgx, hgx', _, hcell⟩ := own_pos hr3 (by omega)
            injection hVe with hVe hV1 hV2
            subst hVe hV2
            have hxk : wr.cell? ⟨gX, k, none⟩ = some (.int .i64 (row[k] : Int)) := hcell _ _ (by rw [unhide HRO]; simp [ints, hkl])
            have HST : Hid (ansBlock rs (row.drop k) vals = ansBlock rs (row.drop (k + 1)) (setW vals row[k] (wantedW rs vals row[k]))) := hide (by rw [List.drop_eq_getElem_cons hkl]; rfl)
            clear hcell hr3
            generalize row[k] = v at *
            go_wp2_with fail
            refine (wanted_any b t bl rs ⟨turn, vals⟩ gv v _ hG3 hR hv9 hvv.2).mono ?_
            rintro e w4 ⟨rfl, hb4⟩
            have hG4 := hG3.later hb4
            have ho4 := ho3.trans (Only.of_below hb4)
            dsimp only
            generalize wantedW rs vals v = wx at *
            go_wp2_with fail
            refine (set_any b t bl rs ⟨turn, vals⟩ gv v wx _ hG4 hv9 hvv.2).mono ?_
            rintro e w5 ⟨rfl, hG5, ho5⟩
            have hv5 := withLit_lt vals (litI v wx) hv9.1 hv9.2
            go_wp2_with fail
            go_roundg (gk - 1)
            case measure => omega
            case rel => exact ⟨k + 1, setW vals v wx, by go_num, by omega, hv5, by rw [unhide HAB, unhide HST], hG5, ho4.trans ho5⟩
          · have hke : k = row.length := by omega
            have HE : Hid (ansBlock rs row (p, n) = vals) := hide (by rw [unhide HAB, hke, List.drop_length]; rfl)
            have d2 : wr.cell? ⟨b, 2, none⟩ = some (.int .i64 (turn : Int)) := by rw [blk_cell hG3.fb]; rfl
            have z2 := blk_free hG3.fb 2
            have hdk : decide ((k : Int) < (row.length : Int)) = false := decide_eq_false (by omega)
            have ho6 : Only (· = b) wr (wr.setCell ⟨b, 2, none⟩ (.int .i64 ((turn : Int) + 1))) := (Only.refl (· = b) wr).setCell (p := ⟨b, 2, none⟩) (Or.inl rfl) _
            have hG6 : GameAt (wr.setCell ⟨b, 2, none⟩ (.int .i64 ((turn : Int) + 1))) b t bl rs ⟨turn + 1, vals⟩ gv := ⟨blk_set hG3.fb 2 _, hG3.tt, hG3.rest ho6⟩
            have ho7 := ho3.trans ho6
            have HG6 := hide hG6
            have HO7 := hide ho7
            clear hG6 ho6 ho7
            go_wp2_with fail
            go_roundg (gko - 1)
            case measure => omega
            case rel => exact ⟨⟨turn + 1, vals⟩, by show turn + 1 ≤ _; omega, by show _ + (turn + 1) = _; omega, hv9, by rw [unhide HF, unhide HE], unhide HG6, unhide HO7⟩
      | false =>
        rw [hw] at hx1
        have HF : Hid (ansW rs bl g = ⟨turn, (p, n)⟩) := hide (by rw [unhide HA]; exact unhide HAS hw)
        go_wp2_with fail
        go_quiet (fail)
        have b1 : Below wr.heap.size wr (wr.drewN nq) := below_drewN (Below.refl _ _) nq
        have hG1 := hGr.later b1
        have ho1 : Only (· = b) w (wr.drewN nq) := ho.trans (Only.of_below b1)
        generalize wr.drewN nq = w1 at *
        go_wp2_with fail
        go_end0
        exact ⟨rfl, by rw [unhide HF]; exact hG1, ho1⟩
    · have hd1 : decide ((turn : Int) < (bl.length : Int)) = false := decide_eq_false (by omega)
      have hd2 : decide (turn < bl.length) = false := decide_eq_false hl
      have HF : Hid (ansW rs bl g = ⟨turn, (p, n)⟩) := hide (by
        rw [unhide HA]
        unfold ansW
        rw [show bl.length - (GS.mk turn (p, n)).turn = 0 from by show bl.length - turn = _; omega, ansGo])
      go_wp2_with fail
      go_quiet (fail)
      have b1 : Below wr.heap.size wr (wr.drewN nq) := below_drewN (Below.refl _ _) nq
      have hG1 := hGr.later b1
      have ho1 : Only (· = b) w (wr.drewN nq) := ho.trans (Only.of_below b1)
      generalize wr.drewN nq = w1 at *
      go_wp2_with fail
      go_end0
      exact ⟨rfl, by rw [unhide HF]; exact hG1, ho1⟩
end Go.Proofs.YtgipjjhkhfihpaaGreatDoor

namespace Go.Proofs.YtgipjjhkhfihpaaGreatDoor
open Go.RowKit

/-! ### readLine -/
def lineQ (q : QS) (kind : Nat) (ss : List (Nat × Nat)) (line : List UInt8) : Option (Nat × Nat) :=
  if 9000 ≤ ss.length then none else if splitOk line then (match cutAt 32 line with | [] => none | hd :: tl => stepQ q kind ss hd tl) else none
theorem lineQ_eq (q : QS) (kind : Nat) (ss : List (Nat × Nat)) (line hd : List UInt8) (tl : List (List UInt8)) (hl : ¬ 9000 ≤ ss.length) (hs : splitOk line = true) (h : cutAt 32 line = hd :: tl) : lineQ q kind ss line = stepQ q kind ss hd tl := by
  unfold lineQ; rw [if_neg hl, if_pos hs, h]
theorem litsL_snoc (ss : List Stp) (s : Stp) : litsL (ss ++ [s]) = litsL ss ++ [s.lits] := by simp [litsL]
theorem PInv.push {w w' : World} {b : Nat} {q : QS} {kind : Nat} {ss : List Stp} {vV vC vS : Value} {s : Stp} {e : Ending} (h : PInv w b q kind ss vV vC vS) (ha : AddPost (b + 1) b 2 ss vS s #[vV, vC, .int .i64 kind, vS] 105 w e w') : e = .returned (.int .i64 ((ss.length : Int) + 1)) ∧ (∃ v', PInv w' b q kind (ss ++ [s]) vV vC v') ∧ Below b w w' := by
  obtain ⟨v', h0, h1, h2, h3, h4⟩ := ha
  have hb : Below b w w' := h3.below (Nat.le_of_lt (blk_lt h.fb)) (fun k hk hh => by
    rcases hh with e | e
    · omega
    · have := (h.oS.lt k e).1; omega)
  exact ⟨h0, ⟨v', h2, own_under h.oV h.lV hb, own_under h.oC h.lC hb, by simpa using h1, h.lV, h.lC⟩, hb⟩
def PLinePost (b : Nat) (q : QS) (kind : Nat) (ss : List Stp) (vV vC : Value) (line : List UInt8) (w : World) (e : Ending) (w' : World) : Prop :=
  Below b w w' ∧ match lineQ q kind (litsL ss) line with
    | none => e = .returned (.bool false)
    | some c => e = .returned (.bool true) ∧ (c.1 < 512 ∧ c.2 < 512) ∧ ∃ s vS', s.lits = c ∧ TagM q kind ss (cutAt 32 line) s ∧ PInv w' b q kind (ss ++ [s]) vV vC vS'

set_option maxRecDepth 100000 in
set_option maxHeartbeats 3200000 in
theorem preadLine_any (b : Nat) (q : QS) (kind : Nat) (ss : List Stp) (vV vC vS : Value) (k : Nat) (line : List UInt8) (w : World) (hP : PInv w b q kind ss vV vC vS) (hQ : QB q) (hS : SBs ss) (hk : 1 ≤ k) (hl : line.length ≤ 1048570) :
    Calls Tryz.prog 46 #[.pointer (some ⟨b, 0, none⟩), .int .i64 k, .string ⟨line.toArray⟩] w fun e w' => PLinePost b q kind ss vV vC line w e w' := by
  have hbw := blk_lt hP.fb
  have hsl := hS.len
  obtain ⟨aS, cS, rfl⟩ := own_form hP.oS
  have k3 : w.cell? ⟨b, 3, none⟩ = some (.slice aS ss.length cS) := by rw [blk_cell hP.fb]; rfl
  have hkb : ((k : Int) == 0) = false := by rw [beq_eq_false_iff_ne]; omega
  by_cases h9 : 9000 ≤ ss.length
  · have hd9 : decide ((9000 : Int) ≤ (ss.length : Int)) = true := by simp; omega
    have HF : Hid (lineQ q kind (litsL ss) line = none) := hide (by unfold lineQ; rw [if_pos (by simpa [litsL] using h9)])
    clear h9
    go_enter Tryz.func46, Tryz.ntmps46
    go_wp2_with fail
    go_ret
    exact ⟨Below.refl _ _, by rw [unhide HF]; rfl⟩
  · have hd9 : decide ((9000 : Int) ≤ (ss.length : Int)) = false := by simp; omega
    have H9 := hide h9
    clear h9
    go_enter Tryz.func46, Tryz.ntmps46
    go_wp2_with fail
    refine (split_any line w (by omega)).mono ?_
    rintro e w2 ⟨hb, hsp⟩
    cases hok : splitOk line with
    | false =>
      rw [hok, if_neg (by decide)] at hsp
      subst hsp
      have HF : Hid (lineQ q kind (litsL ss) line = none) := hide (by unfold lineQ; rw [if_neg (by simpa [litsL] using unhide H9), hok]; rfl)
      go_wp2_with fail
      go_ret
      exact ⟨hb.mono (Nat.le_of_lt hbw), by rw [unhide HF]; rfl⟩
    | true =>
      rw [hok, if_pos rfl] at hsp
      obtain ⟨v, rfl, hown⟩ := hsp
      have hwl : (cutAt 32 line).length ≤ 1048571 := by have := cutTo_size 32 line; simp [cutAt]; omega
      have hwl2 : ∀ x ∈ cutAt 32 line, x.length ≤ 1048576 := fun x hx => by have := cutAt_len 32 line x hx; omega
      obtain ⟨hd, tl, hws⟩ : ∃ hd tl, cutAt 32 line = hd :: tl := by
        cases h : cutAt 32 line with
        | nil => simp [cutAt] at h
        | cons a b => exact ⟨a, b, rfl⟩
      have HQ := hide (lineQ_eq q kind (litsL ss) line hd tl (by simpa [litsL] using unhide H9) hok hws)
      have HWE := hide hws
      rw [hws] at hown hwl hwl2
      clear hws hok
      rcases hown.2 with ⟨_, h0⟩ | ⟨g, cap, cur, rfl, hbg, hg, hnc, hcm, hcs, htake⟩
      · simp at h0
      simp only [List.length_cons] at hwl hnc
      have hST : StrsAt w2 (some ⟨g, 0, none⟩) (hd :: tl) := fun _ => ⟨g, 0, cur, rfl, hg, fun j hj => by
        have h1 := hown.cellAt j (by simpa using hj)
        rw [blk_cell hg] at h1
        rw [Nat.zero_add, h1, List.getElem?_map, List.getElem?_eq_getElem hj]; rfl⟩
      have HWL : Hid (∀ x ∈ tl, x.length ≤ 1048576) := hide (fun x hx => hwl2 x (List.mem_cons_of_mem _ hx))
      have hP2 := hP.later hb
      clear hwl2 htake hcs hcm
      simp only [List.length_cons]
      go_wp2_with fail
      refine (readStep_any b q kind ss vV vC _ hd tl g 0 cap w2 hP2 hQ hS hST (by omega) (by omega) (unhide HWL)).mono ?_
      rintro e w3 ⟨hb3, s, ok, rfl, hlt, hok⟩
      obtain ⟨sr, sf, ss2, sv, sl⟩ := s
      obtain ⟨p, n⟩ := sl
      have hb03 : Below w.heap.size w w3 := below_trans hb hb3
      have hP3 := hP2.later hb3
      have hA3 : Below w3.heap.size w3 (w3.alloc (.cells #[.int .i64 (sr : Int), .int .i64 (sf : Int), .int .i64 (ss2 : Int), .int .i64 (sv : Int), .int .i64 (p : Int), .int .i64 (n : Int)] 134)) := (Below.refl _ _).alloc (Nat.le_refl _) _
      have hf3 := heap_alloc_new w3 (.cells #[.int .i64 (sr : Int), .int .i64 (sf : Int), .int .i64 (ss2 : Int), .int .i64 (sv : Int), .int .i64 (p : Int), .int .i64 (n : Int)] 134)
      have hbz : Below w.heap.size w (w3.alloc (.cells #[.int .i64 (sr : Int), .int .i64 (sf : Int), .int .i64 (ss2 : Int), .int .i64 (sv : Int), .int .i64 (p : Int), .int .i64 (n : Int)] 134)) := below_trans hb03 hA3
      have hP4 := hP3.later hA3
      rcases hok with ⟨rfl, hok, htag⟩ | ⟨rfl, hok⟩
      · have HF : Hid (lineQ q kind (litsL ss) line = some (p, n)) := hide (by rw [unhide HQ]; exact hok)
        have HTAG := hide htag
        clear hok htag
        go_wp2_with fail
        generalize w3.alloc (.cells #[.int .i64 (sr : Int), .int .i64 (sf : Int), .int .i64 (ss2 : Int), .int .i64 (sv : Int), .int .i64 (p : Int), .int .i64 (n : Int)] 134) = wz at *
        have q0 : wz.cell? ⟨w3.heap.size, 0, none⟩ = some (.int .i64 (sr : Int)) := by rw [blk_cell hf3]; rfl
        have q1 : wz.cell? ⟨w3.heap.size, 1, none⟩ = some (.int .i64 (sf : Int)) := by rw [blk_cell hf3]; rfl
        have q2 : wz.cell? ⟨w3.heap.size, 2, none⟩ = some (.int .i64 (ss2 : Int)) := by rw [blk_cell hf3]; rfl
        have q3 : wz.cell? ⟨w3.heap.size, 3, none⟩ = some (.int .i64 (sv : Int)) := by rw [blk_cell hf3]; rfl
        have q4 : wz.cell? ⟨w3.heap.size, 4, none⟩ = some (.int .i64 (p : Int)) := by rw [blk_cell hf3]; rfl
        have q5 : wz.cell? ⟨w3.heap.size, 5, none⟩ = some (.int .i64 (n : Int)) := by rw [blk_cell hf3]; rfl
        have lf3 := blk_lt hf3
        have lb4 := blk_lt hP4.fb
        have hd9 : Below wz.heap.size wz wz.drew := (Below.refl _ wz).drew
        go_region_with (go_at_call 72; refine (add_any (b + 1) b 2 ss (.slice aS ss.length cS) ⟨sr, sf, ss2, sv, (p, n)⟩ _ _ _ (hP4.later hd9).fb rfl (by decide) (hP4.later hd9).oS (by omega) (blk_lt (hP4.later hd9).fb)).mono ?_; intro e w4 hadd; obtain ⟨he4, hJ4, hbJ⟩ := (hP4.later hd9).push hadd; subst he4; clear hadd)
        all_goals
          obtain ⟨v', hJ⟩ := hJ4
          go_wp2_with fail
          go_ret
          refine ⟨((hbz.mono (Nat.le_of_lt hbw)).trans (hd9.mono (Nat.le_of_lt lb4))).trans hbJ, ?_⟩
          rw [unhide HF]
          exact ⟨rfl, hlt, ⟨sr, sf, ss2, sv, (p, n)⟩, v', rfl, by rw [unhide HWE]; exact unhide HTAG, hJ⟩
      · have HF : Hid (lineQ q kind (litsL ss) line = none) := hide (by rw [unhide HQ]; exact hok)
        clear hok
        go_wp2_with fail
        go_ret
        exact ⟨hbz.mono (Nat.le_of_lt hbw), by rw [unhide HF]; rfl⟩
end Go.Proofs.YtgipjjhkhfihpaaGreatDoor
