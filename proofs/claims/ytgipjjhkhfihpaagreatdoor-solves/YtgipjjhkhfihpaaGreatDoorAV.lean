import Derived.Test.YtgipjjhkhfihpaaGreatDoorAN
import Derived.Test.YtgipjjhkhfihpaaGreatDoorAU
import Derived.Laws.Tables
import Derived.Laws.Rows
import Derived.Laws.CopyOwn
namespace Go.Proofs.YtgipjjhkhfihpaaGreatDoor
open Go.RowKit

/-! ### begin -/
def BeginPost (q : QS) (vV vC : Value) (budget room : Nat) (w : World) (e : Ending) (w' : World) : Prop :=
  ∃ b V, e = .returned (.agg (sCells (beginC q budget room) (beginS q) V)) ∧ SAt w' b (beginC q budget room) (beginS q) V ∧ V.v = vV ∧ V.c = vC ∧ (∀ k, V.r.ownBlock = some k → w.heap.size ≤ k) ∧ (∀ k, V.a.ownBlock = some k → w.heap.size ≤ k) ∧ (∀ k, V.k.ownBlock = some k → w.heap.size ≤ k) ∧ Below w.heap.size w w'
theorem Moved.fresh {w : World} {v v' : Value} (h : Moved w v v') (hv : v = .slice none 0 0) {k n : Nat} (hk : v'.ownBlock = some k) (hn : n ≤ w.heap.size) : n ≤ k := by
  rcases h with h | ⟨j, h, hj⟩
  · rw [h, hv] at hk; cases hk
  · rw [h] at hk; injection hk with hk; omega
theorem Only.under {T : Nat → Prop} {n : Nat} {w w0 w' : World} (ho : Only T w0 w') (hb : Below n w w0) (hn : n ≤ w.heap.size) (hT : ∀ k, T k → n ≤ k) : Below n w w' :=
  ⟨ho.os.trans hb.os, ho.tape.trans hb.tape, ho.output.trans hb.output, Nat.le_trans hb.size ho.size, fun i hi => (ho.block i (by have := hb.size; omega) (fun h => by have := hT i h; omega)).trans (hb.block i hi)⟩
theorem only_setRow (w : World) (g : Nat) (cs : Array Value) : Only (· = g) w (w.setRow g cs) := ⟨rfl, rfl, rfl, by simp, fun _ _ hne => setRow_other _ _ _ _ hne⟩
theorem SAt.setUni {w : World} {b : Nat} {C : SC} {S : SS} {V : SV} (h : SAt w b C S V) (u : Nat × Nat) : SAt ((w.setCell ⟨b, 2, none⟩ (.int .i64 (u.1 : Int))).setCell ⟨b, 3, none⟩ (.int .i64 (u.2 : Int))) b { C with uni := u } S V := by
  have h1 := blk_set h.fb 2 (.int .i64 (u.1 : Int))
  have ho : Only (fun j => j = b) w ((w.setCell ⟨b, 2, none⟩ (.int .i64 (u.1 : Int))).setCell ⟨b, 3, none⟩ (.int .i64 (u.2 : Int))) := ((Only.refl (fun j => j = b) w).setCell (p := ⟨b, 2, none⟩) (Or.inl rfl) _).setCell (p := ⟨b, 3, none⟩) (Or.inl rfl) _
  refine ⟨blk_set h1 3 _, own_keep h.oV ho ?_, own_keep h.oC ho ?_, own_keep h.oR ho ?_, own_keep h.oA ho ?_, h.oK.keep ho ?_, h.ap⟩
  · intro k hk e; subst e; exact own_type_ne h.oV h.fb (by decide) hk
  · intro k hk e; subst e; exact own_type_ne h.oC h.fb (by decide) hk
  · intro k hk e; subst e; exact own_type_ne h.oR h.fb (by decide) hk
  · intro k hk e; subst e; exact own_type_ne h.oA h.fb (by decide) hk
  · intro k hk e; subst e; obtain ⟨c, hc⟩ := h.oK.blk k hk; exact absurd (blk_type hc h.fb) (by decide)
theorem axioms_take (cl : List (Nat × Nat)) (k : Nat) (h : k < cl.length) : (axioms cl).take (k + 1) = (axioms cl).take k ++ [⟨1, k + 1, 0, 0, cl[k]⟩] := by
  have hl : k < (axioms cl).length := by rw [axioms_len]; exact h
  rw [List.take_succ_eq_append_getElem hl, axioms_at cl k h]
def uniSt (u : Nat × Nat) (v : Nat × Bool) : Nat × Nat := if v.2 then withLit (withLit u v.1) (-(v.1 : Int)) else u
theorem uniTo_take (vs : List (Nat × Bool)) (k : Nat) (h : k < vs.length) : uniTo (vs.take (k + 1)) (0, 0) = uniSt (uniTo (vs.take k) (0, 0)) vs[k] := by
  unfold uniTo uniSt
  rw [List.take_succ_eq_append_getElem h, List.foldl_append]; rfl
set_option maxRecDepth 100000 in
set_option maxHeartbeats 6400000 in
theorem begin_any (q : QS) (aV aC : Option Addr) (cV cC budget room : Nat) (w : World) (hoV : w.ownsRow 0 139 2 (.slice aV q.vars.length cV) q.vars.length (varCells q.vars)) (hoC : w.ownsRow 0 74 2 (.slice aC q.cl.length cC) q.cl.length (pairs q.cl)) (hq : QB q) (_hbu : budget ≤ 1048576) (_hro : room ≤ 64) :
    Calls Tryz.prog 61 #[.agg #[.slice aV q.vars.length cV, .slice aC q.cl.length cC], .int .i64 (budget : Int), .int .i64 (room : Int)] w fun e w' => BeginPost q (.slice aV q.vars.length cV) (.slice aC q.cl.length cC) budget room w e w' := by
  have hvl := hq.vl
  have hcl := hq.cl
  have HAL := hide (axioms_len q.cl)
  go_enter Tryz.func61, Tryz.ntmps61
  go_wp2_with fail
  generalize hw0 : (((w.alloc (.cells #[.slice aV q.vars.length cV, .slice aC q.cl.length cC] 60)).alloc (.cells #[.slice none 0 0, .slice none 0 0, .int .i64 0, .int .i64 0, .int .i64 0, .int .i64 0, .int .i64 0, .slice none 0 0, .int .i64 0, .slice none 0 0, .int .i64 0, .slice none 0 0, .int .i64 0] 126)).alloc (.cells #[.slice aV q.vars.length cV, .slice aC q.cl.length cC, .int .i64 0, .int .i64 0, .int .i64 (budget : Int), .int .i64 0, .int .i64 1, .slice none 0 0, .int .i64 2, .slice none 0 0, .int .i64 (room : Int), .slice none 0 0, .int .i64 0] 126)) = u1
  have hB : Below w.heap.size w u1 := by rw [← hw0]; exact (((Below.refl _ _).alloc (Nat.le_refl _) _).alloc (by simp; try omega) _).alloc (by simp; try omega) _
  have hfo : u1.heap[w.heap.size]? = some (.cells #[.slice aV q.vars.length cV, .slice aC q.cl.length cC] 60 (0, 0)) := by rw [← hw0, heap_alloc_old _ _ (by simp; try omega), heap_alloc_old _ _ (by simp; try omega)]; exact alloc_new_at (by simp)
  have hrs : u1.heap[w.heap.size + 1]? = some (.cells #[.slice none 0 0, .slice none 0 0, .int .i64 0, .int .i64 0, .int .i64 0, .int .i64 0, .int .i64 0, .slice none 0 0, .int .i64 0, .slice none 0 0, .int .i64 0, .slice none 0 0, .int .i64 0] 126 (0, 0)) := by rw [← hw0, heap_alloc_old _ _ (by simp; try omega)]; exact alloc_new_at (by simp)
  have hss : u1.heap[w.heap.size + 2]? = some (.cells #[.slice aV q.vars.length cV, .slice aC q.cl.length cC, .int .i64 0, .int .i64 0, .int .i64 (budget : Int), .int .i64 0, .int .i64 1, .slice none 0 0, .int .i64 2, .slice none 0 0, .int .i64 (room : Int), .slice none 0 0, .int .i64 0] 126 (0, 0)) := by rw [← hw0]; exact alloc_new_at (by simp)
  clear hw0
  have cfo0 : u1.cell? ⟨w.heap.size, 0, none⟩ = some (.slice aV q.vars.length cV) := by rw [blk_cell hfo]; rfl
  have cfo1 : u1.cell? ⟨w.heap.size, 1, none⟩ = some (.slice aC q.cl.length cC) := by rw [blk_cell hfo]; rfl
  have lfo := blk_lt hfo
  have crs0 : u1.cell? ⟨w.heap.size + 1, 0, none⟩ = some (.slice none 0 0) := by rw [blk_cell hrs]; rfl
  have crs1 : u1.cell? ⟨w.heap.size + 1, 1, none⟩ = some (.slice none 0 0) := by rw [blk_cell hrs]; rfl
  have crs2 : u1.cell? ⟨w.heap.size + 1, 2, none⟩ = some (.int .i64 0) := by rw [blk_cell hrs]; rfl
  have crs3 : u1.cell? ⟨w.heap.size + 1, 3, none⟩ = some (.int .i64 0) := by rw [blk_cell hrs]; rfl
  have crs4 : u1.cell? ⟨w.heap.size + 1, 4, none⟩ = some (.int .i64 0) := by rw [blk_cell hrs]; rfl
  have crs5 : u1.cell? ⟨w.heap.size + 1, 5, none⟩ = some (.int .i64 0) := by rw [blk_cell hrs]; rfl
  have crs6 : u1.cell? ⟨w.heap.size + 1, 6, none⟩ = some (.int .i64 0) := by rw [blk_cell hrs]; rfl
  have crs7 : u1.cell? ⟨w.heap.size + 1, 7, none⟩ = some (.slice none 0 0) := by rw [blk_cell hrs]; rfl
  have crs8 : u1.cell? ⟨w.heap.size + 1, 8, none⟩ = some (.int .i64 0) := by rw [blk_cell hrs]; rfl
  have crs9 : u1.cell? ⟨w.heap.size + 1, 9, none⟩ = some (.slice none 0 0) := by rw [blk_cell hrs]; rfl
  have crs10 : u1.cell? ⟨w.heap.size + 1, 10, none⟩ = some (.int .i64 0) := by rw [blk_cell hrs]; rfl
  have crs11 : u1.cell? ⟨w.heap.size + 1, 11, none⟩ = some (.slice none 0 0) := by rw [blk_cell hrs]; rfl
  have crs12 : u1.cell? ⟨w.heap.size + 1, 12, none⟩ = some (.int .i64 0) := by rw [blk_cell hrs]; rfl
  have lrs := blk_lt hrs
  have css0 : u1.cell? ⟨w.heap.size + 2, 0, none⟩ = some (.slice aV q.vars.length cV) := by rw [blk_cell hss]; rfl
  have css1 : u1.cell? ⟨w.heap.size + 2, 1, none⟩ = some (.slice aC q.cl.length cC) := by rw [blk_cell hss]; rfl
  have css2 : u1.cell? ⟨w.heap.size + 2, 2, none⟩ = some (.int .i64 0) := by rw [blk_cell hss]; rfl
  have css3 : u1.cell? ⟨w.heap.size + 2, 3, none⟩ = some (.int .i64 0) := by rw [blk_cell hss]; rfl
  have css4 : u1.cell? ⟨w.heap.size + 2, 4, none⟩ = some (.int .i64 (budget : Int)) := by rw [blk_cell hss]; rfl
  have css5 : u1.cell? ⟨w.heap.size + 2, 5, none⟩ = some (.int .i64 0) := by rw [blk_cell hss]; rfl
  have css6 : u1.cell? ⟨w.heap.size + 2, 6, none⟩ = some (.int .i64 1) := by rw [blk_cell hss]; rfl
  have css7 : u1.cell? ⟨w.heap.size + 2, 7, none⟩ = some (.slice none 0 0) := by rw [blk_cell hss]; rfl
  have css8 : u1.cell? ⟨w.heap.size + 2, 8, none⟩ = some (.int .i64 2) := by rw [blk_cell hss]; rfl
  have css9 : u1.cell? ⟨w.heap.size + 2, 9, none⟩ = some (.slice none 0 0) := by rw [blk_cell hss]; rfl
  have css10 : u1.cell? ⟨w.heap.size + 2, 10, none⟩ = some (.int .i64 (room : Int)) := by rw [blk_cell hss]; rfl
  have css11 : u1.cell? ⟨w.heap.size + 2, 11, none⟩ = some (.slice none 0 0) := by rw [blk_cell hss]; rfl
  have css12 : u1.cell? ⟨w.heap.size + 2, 12, none⟩ = some (.int .i64 0) := by rw [blk_cell hss]; rfl
  have lss := blk_lt hss
  have hS : SAt u1 (w.heap.size + 2) ⟨q, (0, 0), budget, room⟩ ⟨0, [], [], [], 0⟩ ⟨.slice aV q.vars.length cV, .slice aC q.cl.length cC, .slice none 0 0, .slice none 0 0, .slice none 0 0⟩ :=
    ⟨hss, own_below hoV hB, own_below hoC hB, World.ownsRow_nil _ _ _ _, World.ownsRow_nil _ _ _ _, ⟨rfl, Or.inl ⟨rfl, none, rfl, fun k hk => (by cases hk)⟩⟩, fun k hk => (by cases hk)⟩
  have nfo : Far (w.heap.size + 2) ⟨.slice aV q.vars.length cV, .slice aC q.cl.length cC, .slice none 0 0, .slice none 0 0, .slice none 0 0⟩ w.heap.size := ⟨by omega, fun e => (by have := (hoV.lt _ e).2; omega), fun e => (by have := (hoC.lt _ e).2; omega), fun e => (by cases e), fun e => (by cases e), fun e => (by cases e)⟩
  have nrs : Far (w.heap.size + 2) ⟨.slice aV q.vars.length cV, .slice aC q.cl.length cC, .slice none 0 0, .slice none 0 0, .slice none 0 0⟩ (w.heap.size + 1) := ⟨by omega, fun e => (by have := (hoV.lt _ e).2; omega), fun e => (by have := (hoC.lt _ e).2; omega), fun e => (by cases e), fun e => (by cases e), fun e => (by cases e)⟩
  obtain ⟨V0, hV0⟩ : ∃ X : SV, X = ⟨.slice aV q.vars.length cV, .slice aC q.cl.length cC, .slice none 0 0, .slice none 0 0, .slice none 0 0⟩ := ⟨_, rfl⟩
  rw [← hV0] at hS nfo nrs
  have v1 : V0.v = .slice aV q.vars.length cV := by rw [hV0]
  have v2 : V0.c = .slice aC q.cl.length cC := by rw [hV0]
  have v3 : V0.r = .slice none 0 0 := by rw [hV0]
  have v4 : V0.a = .slice none 0 0 := by rw [hV0]
  have v5 : V0.k = .slice none 0 0 := by rw [hV0]
  have HV := hide (And.intro v1 (And.intro v2 (And.intro v3 (And.intro v4 v5))))
  clear v1 v2 v3 v4 v5 hV0
  go_loopg [25] (q.cl.length) (fun m i wx => ∃ (k : Nat) (V : SV), i = .int .i64 k ∧ k + m = q.cl.length ∧ SAt wx (w.heap.size + 2) ⟨q, (0, 0), budget, room⟩ ⟨0, (axioms q.cl).take k, [], [], 0⟩ V ∧ SMoved (w.heap.size + 2) u1 wx V0 V)
  case atStart => exact ⟨0, V0, rfl, by omega, hS, SMoved.of_below (Below.refl _ _)⟩
  case round =>
    obtain ⟨k, V, rfl, hkm, hSr, hMr⟩ := hrel
    have hfor := hMr.blk hfo nfo
    have lfor := blk_lt hfor
    have lbr := blk_lt hSr.fb
    have lrr := blk_lt (hMr.blk hrs nrs)
    by_cases hlt : k < q.cl.length
    · have hd3 : decide ((k : Int) < (q.cl.length : Int)) = true := decide_eq_true (by omega)
      have hd4 : decide (k < q.cl.length) = true := decide_eq_true hlt
      have hoCr := hSr.oC
      rw [hMr.c, (unhide HV).2.1] at hoCr
      obtain ⟨g, cap, hVe, _, hg', _, hcell⟩ := own_pos hoCr (show 0 < q.cl.length by omega)
      injection hVe with hVe _ hV2
      subst hVe hV2
      obtain ⟨e0, e1⟩ := pairs_at q.cl k hlt
      have hx0 := hcell _ _ e0
      have hx1 := hcell _ _ e1
      clear hcell e0 e1
      have HAX := hide (axioms_take q.cl k hlt)
      have hlk : ((axioms q.cl).take k).length = k := by rw [List.length_take, unhide HAL]; omega
      have HLK := hide hlk
      clear hlk
      generalize q.cl[k] = cl at *
      obtain ⟨l1, l2⟩ := cl
      dsimp only at hx0 hx1 HAX
      go_wp2_with fail
      have hA : Below wr.heap.size wr (wr.alloc (.cells #[.int .i64 (l1 : Int), .int .i64 (l2 : Int)] 74)) := (Below.refl _ _).alloc (Nat.le_refl _) _
      have hSd := hSr.later hA
      refine (add_any 0 (w.heap.size + 2) 6 ((axioms q.cl).take k) V.r ⟨1, k + 1, 0, 0, (l1, l2)⟩ (sCells ⟨q, (0, 0), budget, room⟩ ⟨0, (axioms q.cl).take k, [], [], 0⟩ V) 126 _ hSd.fb rfl (by decide) hSd.oR (by rw [unhide HLK]; omega) (Nat.zero_le _)).mono ?_
      rintro e w5 ⟨v5, rfl, ho5, hf5, hn5, hm5⟩
      obtain ⟨V2, hS2, hM2⟩ := hSd.put (kind := 1) (Or.inl rfl) (p := (axioms q.cl).take k ++ [⟨1, k + 1, 0, 0, (l1, l2)⟩]) ⟨v5, (by rw [List.length_append]; exact ho5), hf5, hn5, hm5⟩
      clear ho5 hf5 hn5 hm5
      go_wp2_with fail
      go_roundg (gk - 1)
      case measure => omega
      case rel => exact ⟨k + 1, V2, by go_num, by omega, by rw [unhide HAX]; exact hS2, (hMr.trans (SMoved.of_below hA)).trans hM2⟩
    · have hd3 : decide ((k : Int) < (q.cl.length : Int)) = false := decide_eq_false (by omega)
      have hd4 : decide (k < q.cl.length) = false := decide_eq_false hlt
      have HFU : Hid ((axioms q.cl).take k = axioms q.cl) := hide (List.take_of_length_le (by rw [unhide HAL]; omega))
      have HSF : SAt wr (w.heap.size + 2) ⟨q, (0, 0), budget, room⟩ ⟨0, axioms q.cl, [], [], 0⟩ V := by rw [← unhide HFU]; exact hSr
      have cf0 : wr.cell? ⟨w.heap.size, 0, none⟩ = some (.slice aV q.vars.length cV) := by rw [blk_cell hfor]; rfl
      clear hSr HFU
      go_wp2_with fail
      obtain ⟨wo, rfl⟩ : ∃ wo, wo = wr := ⟨_, rfl⟩
      clear cf0 lfor lbr lrr hd3 hd4 hkm hlt
      go_loopg [40] (q.vars.length) (fun m i wx => ∃ (k : Nat) (V : SV) (u : Nat × Nat), i = .int .i64 k ∧ k + m = q.vars.length ∧ u = uniTo (q.vars.take k) (0, 0) ∧ u.1 < 512 ∧ u.2 < 512 ∧ SAt wx (w.heap.size + 2) ⟨q, u, budget, room⟩ ⟨0, axioms q.cl, [], [], 0⟩ V ∧ SMoved (w.heap.size + 2) u1 wx V0 V)
      case atStart => exact ⟨0, V, (0, 0), rfl, by omega, rfl, by decide, by decide, HSF, hMr⟩
      case round =>
        clear hMr HSF hfor
        obtain ⟨k, V, un, rfl, hkm, hun, hu1, hu2, hSr, hMr⟩ := hrel
        have HUN := hide hun
        clear hun
        obtain ⟨x1, x2⟩ := un
        dsimp only at hu1 hu2
        have lbr := blk_lt hSr.fb
        by_cases hlt : k < q.vars.length
        · have hd3 : decide ((k : Int) < (q.vars.length : Int)) = true := decide_eq_true (by omega)
          have hd4 : decide (k < q.vars.length) = true := decide_eq_true hlt
          have hoVr := hSr.oV
          rw [hMr.v, (unhide HV).1] at hoVr
          obtain ⟨g, cap, hVe, _, hg', _, hcell⟩ := own_pos hoVr (show 0 < q.vars.length by omega)
          injection hVe with hVe _ hV2
          subst hVe hV2
          obtain ⟨e0, e1⟩ := varCells_at q.vars k hlt
          have hx0 := hcell _ _ e0
          have hx1 := hcell _ _ e1
          clear hcell e0 e1
          have HUT := hide (uniTo_take q.vars k hlt)
          have hnm := hq.names _ (List.getElem_mem hlt)
          generalize q.vars[k] = vr at *
          obtain ⟨vn, vu⟩ := vr
          dsimp only at hx0 hx1 HUT hnm
          cases vu with
          | false =>
            have hA : Below wr.heap.size wr (wr.alloc (.cells #[.int .i64 (vn : Int), .bool false] 139)) := (Below.refl _ _).alloc (Nat.le_refl _) _
            have HU2 : Hid ((x1, x2) = uniTo (q.vars.take (k + 1)) (0, 0)) := hide (by rw [unhide HUT, ← unhide HUN]; rfl)
            go_wp2_with fail
            go_roundg (gk - 1)
            case measure => omega
            case rel => exact ⟨k + 1, V, (x1, x2), by go_num, by omega, unhide HU2, hu1, hu2, hSr.later hA, hMr.trans (SMoved.of_below hA)⟩
          | true =>
            have HU2 : Hid (withLit (withLit (x1, x2) vn) (-(vn : Int)) = uniTo (q.vars.take (k + 1)) (0, 0)) := hide (by rw [unhide HUT, ← unhide HUN]; rfl)
            have hA : Below wr.heap.size wr (wr.alloc (.cells #[.int .i64 (vn : Int), .bool true] 139)) := (Below.refl _ _).alloc (Nat.le_refl _) _
            have hva := heap_alloc_new wr (.cells #[.int .i64 (vn : Int), .bool true] 139)
            replace hMr := hMr.trans (SMoved.of_below hA)
            replace hSr := hSr.later hA
            have d2 : (wr.alloc (.cells #[.int .i64 (vn : Int), .bool true] 139)).cell? ⟨w.heap.size + 1 + 1, 2, none⟩ = some (.int .i64 (x1 : Int)) := by rw [blk_cell hSr.fb]; rfl
            have d3 : (wr.alloc (.cells #[.int .i64 (vn : Int), .bool true] 139)).cell? ⟨w.heap.size + 1 + 1, 3, none⟩ = some (.int .i64 (x2 : Int)) := by rw [blk_cell hSr.fb]; rfl
            have lb2 : w.heap.size + 1 + 1 < wr.heap.size + 1 := by omega
            go_wp2_with fail
            generalize (wr.alloc (.cells #[.int .i64 (vn : Int), .bool true] 139)) = u5 at *
            refine (with_any x1 x2 (vn : Int) _ hu1 hu2 (by omega) (by omega)).mono ?_
            rintro e u6 ⟨rfl, b6⟩
            replace hMr := hMr.trans (SMoved.of_below b6)
            replace hSr := hSr.later b6
            replace hva := (b6.block _ (blk_lt hva)).trans hva
            have hw9 : (withLit (x1, x2) vn).1 < 512 ∧ (withLit (x1, x2) vn).2 < 512 := withLit_lt (x1, x2) vn hu1 hu2
            generalize withLit (x1, x2) (vn : Int) = y at *
            obtain ⟨y1, y2⟩ := y
            dsimp only at hw9 ⊢
            have hA7 : Below u6.heap.size u6 (u6.alloc (.cells #[.int .i64 (y1 : Int), .int .i64 (y2 : Int)] 74)) := (Below.refl _ _).alloc (Nat.le_refl _) _
            have hbo := heap_alloc_new u6 (.cells #[.int .i64 (y1 : Int), .int .i64 (y2 : Int)] 74)
            have hva7 := (hA7.block _ (blk_lt hva)).trans hva
            have lva7 := blk_lt hva7
            have v7 : (u6.alloc (.cells #[.int .i64 (y1 : Int), .int .i64 (y2 : Int)] 74)).cell? ⟨wr.heap.size, 0, none⟩ = some (.int .i64 (vn : Int)) := by rw [blk_cell hva7]; rfl
            go_wp2_with fail
            refine (with_any y1 y2 (-(vn : Int)) _ hw9.1 hw9.2 (by omega) (by omega)).mono ?_
            rintro e u8 ⟨rfl, b8⟩
            have hb78 : Below u6.heap.size u6 u8 := hA7.trans (b8.mono hA7.size)
            replace hMr := hMr.trans (SMoved.of_below hb78)
            replace hSr := hSr.later hb78
            have hw8 : (withLit (y1, y2) (-(vn : Int))).1 < 512 ∧ (withLit (y1, y2) (-(vn : Int))).2 < 512 := withLit_lt (y1, y2) (-(vn : Int)) hw9.1 hw9.2
            generalize withLit (y1, y2) (-(vn : Int)) = zz at *
            obtain ⟨z1, z2⟩ := zz
            dsimp only at hw8 ⊢
            have f2 := blk_free hSr.fb 2
            have f3 := blk_free hSr.fb 3
            have d22 : u8.cell? ⟨w.heap.size + 1 + 1, 2, none⟩ = some (.int .i64 (x1 : Int)) := by rw [blk_cell hSr.fb]; rfl
            have d33 : u8.cell? ⟨w.heap.size + 1 + 1, 3, none⟩ = some (.int .i64 (x2 : Int)) := by rw [blk_cell hSr.fb]; rfl
            have lb8 : w.heap.size + 1 + 1 < u8.heap.size := blk_lt hSr.fb
            go_wp2_with fail
            go_roundg (gk - 1)
            case measure => omega
            case rel => exact ⟨k + 1, V, (z1, z2), by go_num, by omega, unhide HU2, hw8.1, hw8.2, hSr.setUni (z1, z2), (hMr.setB 2 _).setB 3 _⟩
        · have hd3 : decide ((k : Int) < (q.vars.length : Int)) = false := decide_eq_false (by omega)
          have hd4 : decide (k < q.vars.length) = false := decide_eq_false hlt
          have HFU : Hid (uniTo q.vars (0, 0) = (x1, x2)) := hide (by rw [unhide HUN, List.take_of_length_le (show q.vars.length ≤ k by omega)])
          have hrr := hMr.blk hrs nrs
          have lrr := blk_lt hrr
          obtain ⟨aR, cR, hVR⟩ := own_form hSr.oR
          obtain ⟨aA, cA, hVA⟩ := own_form hSr.oA
          obtain ⟨aK, cK, hVK⟩ := hSr.oK.form
          have hVv := hMr.v.trans (unhide HV).1
          have hVc := hMr.c.trans (unhide HV).2.1
          have HCS : Hid (sCells ⟨q, (x1, x2), budget, room⟩ ⟨0, axioms q.cl, [], [], 0⟩ V = #[.slice aV q.vars.length cV, .slice aC q.cl.length cC, .int .i64 (x1 : Int), .int .i64 (x2 : Int), .int .i64 (budget : Int), .int .i64 0, .int .i64 1, .slice aR (axioms q.cl).length cR, .int .i64 2, .slice aA 0 cA, .int .i64 (room : Int), .slice aK 0 cK, .int .i64 0]) := hide (by simp only [sCells, hVv, hVc, hVR, hVA, hVK]; rfl)
          have hfb2 : wr.heap[w.heap.size + 2]? = some (.cells #[.slice aV q.vars.length cV, .slice aC q.cl.length cC, .int .i64 (x1 : Int), .int .i64 (x2 : Int), .int .i64 (budget : Int), .int .i64 0, .int .i64 1, .slice aR (axioms q.cl).length cR, .int .i64 2, .slice aA 0 cA, .int .i64 (room : Int), .slice aK 0 cK, .int .i64 0] 126 (0, 0)) := by rw [← unhide HCS]; exact hSr.fb
          have HRW := hide (setRow_heap wr (w.heap.size + 1) _ #[.slice aV q.vars.length cV, .slice aC q.cl.length cC, .int .i64 (x1 : Int), .int .i64 (x2 : Int), .int .i64 (budget : Int), .int .i64 0, .int .i64 1, .slice aR (axioms q.cl).length cR, .int .i64 2, .slice aA 0 cA, .int .i64 (room : Int), .slice aK 0 cK, .int .i64 0] _ _ hrr)
          have HRO := hide (only_setRow wr (w.heap.size + 1) #[.slice aV q.vars.length cV, .slice aC q.cl.length cC, .int .i64 (x1 : Int), .int .i64 (x2 : Int), .int .i64 (budget : Int), .int .i64 0, .int .i64 1, .slice aR (axioms q.cl).length cR, .int .i64 2, .slice aA 0 cA, .int .i64 (room : Int), .slice aK 0 cK, .int .i64 0])
          go_wp2_with (first | (refine wpList_load_row rfl 126 _ rfl (w.heap.size + 2) rfl 126 _ (0, 0) _ hfb2 Tryz.underlying126 rfl (by kernel_rfl) ?_) | (refine wpList_store_row rfl 126 _ _ rfl (w.heap.size + 1) _ rfl rfl 126 _ hrr (by kernel_rfl) rfl (by simp [Value.oneCell']) ?_))
          refine bodyPost_ret (v := .agg #[.slice aV q.vars.length cV, .slice aC q.cl.length cC, .int .i64 (x1 : Int), .int .i64 (x2 : Int), .int .i64 (budget : Int), .int .i64 0, .int .i64 1, .slice aR (axioms q.cl).length cR, .int .i64 2, .slice aA 0 cA, .int .i64 (room : Int), .slice aK 0 cK, .int .i64 0]) (results_cell_row rfl _ _ (w.heap.size + 1) 126 _ (0, 0) _ rfl (unhide HRW) Tryz.underlying126 rfl (by kernel_rfl)) rfl ?_
          have hlu : w.heap.size ≤ u1.heap.size := hB.size
          have hbel := hMr.only.under hB (Nat.le_refl _) (fun k hk => by
            rcases hk with hk | hk | hk | hk
            · omega
            · rw [(unhide HV).2.2.1] at hk; cases hk
            · rw [(unhide HV).2.2.2.1] at hk; cases hk
            · rw [(unhide HV).2.2.2.2] at hk; cases hk)
          refine ⟨w.heap.size + 2, V, ?_, ?_, hVv, hVc, fun k hk => hMr.r.fresh (unhide HV).2.2.1 hk hlu, fun k hk => hMr.a.fresh (unhide HV).2.2.2.1 hk hlu, fun k hk => hMr.k.fresh (unhide HV).2.2.2.2 hk hlu, below_setRow hbel (Nat.le_succ _) _⟩
          · show _ = Ending.returned (.agg (sCells ⟨q, uniTo q.vars (0, 0), budget, room⟩ ⟨0, axioms q.cl, [], [], 0⟩ V))
            rw [unhide HFU, unhide HCS]
          · show SAt _ _ ⟨q, uniTo q.vars (0, 0), budget, room⟩ ⟨0, axioms q.cl, [], [], 0⟩ V
            rw [unhide HFU]
            exact hSr.only (unhide HRO) (hMr.far lrs nrs)
end Go.Proofs.YtgipjjhkhfihpaaGreatDoor
