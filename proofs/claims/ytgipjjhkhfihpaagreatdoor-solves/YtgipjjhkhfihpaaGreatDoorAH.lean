import Derived.Test.YtgipjjhkhfihpaaGreatDoorAG
import Derived.Deep.RegionLaw
import Derived.Test.YtgipjjhkhfihpaaGreatDoorAD
namespace Go.Proofs.YtgipjjhkhfihpaaGreatDoor
open Go.RowKit

theorem infoFact : (Tryz.prog.info? 129).map (fun i => (i.zero, i.size, i.bytes)) = some (some (.agg #[.int .i64 0, .int .i64 0]), 2, 16) := by kernel_rfl

/-- The kept row is another, in its cell. -/
theorem SAt.setKept {w : World} {b : Nat} {C : SC} {S : SS} {V : SV} (h : SAt w b C S V) {l : List (Nat × Nat)} {v : Value} (hr : RowAt (w.setCell ⟨b, 11, none⟩ v) 129 2 v l.length (pairs l)) : SAt (w.setCell ⟨b, 11, none⟩ v) b C { S with kept := l } { V with k := v } :=
  ⟨blk_set h.fb 11 v, own_set_ne h.oV (own_type_ne h.oV h.fb (by decide)) v, own_set_ne h.oC (own_type_ne h.oC h.fb (by decide)) v, own_set_ne h.oR (own_type_ne h.oR h.fb (by decide)) v, own_set_ne h.oA (own_type_ne h.oA h.fb (by decide)) v, hr, h.ap⟩
theorem SAt.setMost {w : World} {b : Nat} {C : SC} {S : SS} {V : SV} (h : SAt w b C S V) (n : Nat) : SAt (w.setCell ⟨b, 12, none⟩ (.int .i64 (n : Int))) b C { S with most := n } V :=
  ⟨blk_set h.fb 12 _, own_set_ne h.oV (own_type_ne h.oV h.fb (by decide)) _, own_set_ne h.oC (own_type_ne h.oC h.fb (by decide)) _, own_set_ne h.oR (own_type_ne h.oR h.fb (by decide)) _, own_set_ne h.oA (own_type_ne h.oA h.fb (by decide)) _,
   h.oK.keep (T := fun j => j = b) ((Only.refl (fun j => j = b) w).setCell (p := ⟨b, 12, none⟩) (Or.inl rfl) _) (fun j hj e => by subst e; obtain ⟨c, hc⟩ := h.oK.blk j hj; exact absurd (blk_type hc h.fb) (by decide)), h.ap⟩
theorem row_setB {w : World} {b : Nat} {C : SC} {S : SS} {V : SV} (h : SAt w b C S V) {v : Value} {n : Nat} {xs : List Value} (hr : RowAt w 129 2 v n xs) (o : Nat) (u : Value) : RowAt (w.setCell ⟨b, o, none⟩ u) 129 2 v n xs :=
  hr.keep (T := fun j => j = b) ((Only.refl (fun j => j = b) w).setCell (p := ⟨b, o, none⟩) (Or.inl rfl) _) (fun j hj e => by subst e; obtain ⟨c, hc⟩ := hr.blk j hj; exact absurd (blk_type hc h.fb) (by decide))
theorem SMoved.setB {b : Nat} {w w' : World} {V V' : SV} (h : SMoved b w w' V V') (o : Nat) (u : Value) : SMoved b w (w'.setCell ⟨b, o, none⟩ u) V V' :=
  ⟨h.only.setCell (p := ⟨b, o, none⟩) (Or.inl (Or.inl rfl)) u, h.v, h.c, h.r, h.a, h.k⟩

theorem SAt.grownK {ux wz w' : World} {b : Nat} {C : SC} {S : SS} {V : SV} {aX : Option Addr} {nX cX : Nat} (h : SAt ux b C S V) (hV : V.k = .slice aX nX cX) (hn : S.kept.length = nX) (hbz : Below ux.heap.size ux wz) {v' : Value} {f : Nat × Nat} (hrow : RowAt w' 129 2 v' (nX + 1) (pairs S.kept ++ [.int .i64 (f.1 : Int), .int .i64 (f.2 : Int)])) (ho : Only (fun k => (Value.slice aX nX cX).ownBlock = some k) wz w') (hm : Moved wz (.slice aX nX cX) v') :
    w'.heap[b]? = some (.cells (sCells C S V) 126 (0, 0)) ∧ SAt (w'.setCell ⟨b, 11, none⟩ v') b C { S with kept := S.kept ++ [f] } { V with k := v' } ∧ SMoved b ux (w'.setCell ⟨b, 11, none⟩ v') V { V with k := v' } := by
  rw [← hV] at ho hm
  subst hn
  have hz := h.later hbz
  have hne : ∀ {e : TypeId} {k : Nat}, e ≠ 129 → (∃ c, wz.heap[k]? = some (.cells c e (0, 0))) → ¬ V.k.ownBlock = some k := by
    rintro e k h5 ⟨c, hc⟩ e2
    obtain ⟨c', hc'⟩ := hz.oK.blk k e2
    exact h5 (blk_type hc hc')
  have hfb : w'.heap[b]? = some (.cells (sCells C S V) 126 (0, 0)) := (ho.block b (blk_lt hz.fb) (hne (by decide) ⟨_, hz.fb⟩)).trans hz.fb
  have oV := own_keep hz.oV ho (fun k hk => hne (by decide) (own_bk hz.oV k hk))
  have oC := own_keep hz.oC ho (fun k hk => hne (by decide) (own_bk hz.oC k hk))
  have oR := own_keep hz.oR ho (fun k hk => hne (by decide) (own_bk hz.oR k hk))
  have oA := own_keep hz.oA ho (fun k hk => hne (by decide) (own_bk hz.oA k hk))
  have hrow2 : RowAt w' 129 2 v' (S.kept ++ [f]).length (pairs (S.kept ++ [f])) := by rw [pairs_snoc]; simpa using hrow
  refine ⟨hfb, ⟨blk_set hfb 11 v', own_set_ne oV (own_type_ne oV hfb (by decide)) v', own_set_ne oC (own_type_ne oC hfb (by decide)) v', own_set_ne oR (own_type_ne oR hfb (by decide)) v', own_set_ne oA (own_type_ne oA hfb (by decide)) v', ?_, h.ap⟩, ?_⟩
  · exact hrow2.keep (T := fun j => j = b) ((Only.refl (fun j => j = b) w').setCell (p := ⟨b, 11, none⟩) (Or.inl rfl) _) (fun j hj e => by subst e; obtain ⟨c, hc⟩ := hrow2.blk j hj; exact absurd (blk_type hc hfb) (by decide))
  · have h9 : Only (TS b V) wz w' := ho.mono (fun k _ hk => Or.inr (Or.inr (Or.inr hk)))
    refine ⟨((Only.of_below hbz).trans h9).setCell (p := ⟨b, 11, none⟩) (Or.inl (Or.inl rfl)) v', rfl, rfl, Or.inl rfl, Or.inl rfl, ?_⟩
    rcases hm with hm | ⟨k, h1, h2⟩
    · exact Or.inl hm
    · exact Or.inr ⟨k, h1, Nat.le_trans hbz.size h2⟩
/-- The store behind what went. -/
def storeM' (S1 : SS) (f : Nat × Nat) : SS := if S1.most < S1.kept.length + 1 then { ({ S1 with kept := S1.kept ++ [f] } : SS) with most := S1.kept.length + 1 } else { S1 with kept := S1.kept ++ [f] }
theorem store_full (room : Nat) (S : SS) (f : Nat × Nat) (h0 : room ≠ 0) (hf : room ≤ S.kept.length) : S.store room f = storeM' { S with kept := S.kept.drop 1 } f := by
  unfold SS.store storeK storeM storeM' storeK
  simp only [h0, hf, if_true, if_false, List.length_append, List.length_cons, List.length_nil]
  split <;> rfl
theorem store_room (room : Nat) (S : SS) (f : Nat × Nat) (h0 : room ≠ 0) (hf : ¬ room ≤ S.kept.length) : S.store room f = storeM' S f := by
  unfold SS.store storeK storeM storeM' storeK
  simp only [h0, hf, if_false, List.length_append, List.length_cons, List.length_nil]
  split <;> rfl

set_option maxRecDepth 100000 in
set_option maxHeartbeats 3200000 in
theorem store_any (b : Nat) (C : SC) (S : SS) (V : SV) (f : Nat × Nat) (w : World) (hS : SAt w b C S V) (hB : SBd C S) :
    Calls Tryz.prog 135 #[.pointer (some ⟨b, 10, none⟩), FactV f] w fun e w' => e = .returned (.tuple #[]) ∧ SPost b C (S.store C.room f) V w w' := by
  obtain ⟨fk, fs⟩ := f
  obtain ⟨i1, hi1, hz10, hz11, hz12⟩ := info_parts infoFact
  have hbw := blk_lt hS.fb
  obtain ⟨aK, cK, hKf⟩ := hS.oK.form
  have c10 : w.cell? ⟨b, 10, none⟩ = some (.int .i64 (C.room : Int)) := by rw [blk_cell hS.fb]; rfl
  have c11 : w.cell? ⟨b, 11, none⟩ = some (.slice aK S.kept.length cK) := by rw [blk_cell hS.fb]; exact congrArg some hKf
  have c12 : w.cell? ⟨b, 12, none⟩ = some (.int .i64 (S.most : Int)) := by rw [blk_cell hS.fb]; rfl
  have z11 := blk_free hS.fb 11
  have z12 := blk_free hS.fb 12
  have hkl := hB.kept
  have hrm := hB.room
  by_cases hr : C.room = 0
  · have HF : Hid (S.store C.room (fk, fs) = S) := hide (by unfold SS.store storeK storeM; rw [if_pos hr, if_pos hr])
    have hd : decide ((C.room : Int) ≤ 0) = true := by simp; omega
    have hd2 : decide (C.room ≤ 0) = true := by simp; omega
    have hd0 : decide (C.room = 0) = true := by simp [hr]
    clear hr
    go_enter Tryz.func135, Tryz.ntmps135
    go_wp2_with fail
    refine bodyPost_ret (v := .tuple #[]) (by simp [results, Tryz.results135, go_sem]) rfl ⟨rfl, ?_⟩
    rw [unhide HF]
    have hb0 : Below w.heap.size w (w.alloc (.cells #[.int .i64 (fk : Int), .int .i64 (fs : Int)] 129)) := (Below.refl _ _).alloc (Nat.le_refl _) _
    exact ⟨V, hS.later hb0, SMoved.of_below hb0⟩
  · have hd : decide ((C.room : Int) ≤ 0) = false := by simp; omega
    have hd2 : decide (C.room ≤ 0) = false := by simp; omega
    have hd0 : decide (C.room = 0) = false := by simp [hr]
    by_cases hfull : C.room ≤ S.kept.length
    · have hd3 : decide ((C.room : Int) ≤ (S.kept.length : Int)) = true := by simp; omega
      have hd4 : decide (C.room ≤ S.kept.length) = true := by simp; omega
      have hpos : 0 < S.kept.length := by omega
      rcases hS.oK.2 with ⟨h0, _⟩ | ⟨g, off, cap, cur, hv, hg, hnc, hcm, hcs, hcells⟩
      · omega
      have hgw := blk_lt hg
      rw [hKf] at hv
      injection hv with e1 e2 e3
      subst e1 e3
      obtain ⟨m, hm⟩ : ∃ m, S.kept.length = m + 1 := ⟨S.kept.length - 1, by omega⟩
      go_enter Tryz.func135, Tryz.ntmps135
      go_wp2_with fail
      have hb0 : Below w.heap.size w (w.alloc (.cells #[.int .i64 (fk : Int), .int .i64 (fs : Int)] 129)) := (Below.refl _ _).alloc (Nat.le_refl _) _
      have hfa := heap_alloc_new w (.cells #[.int .i64 (fk : Int), .int .i64 (fs : Int)] 129)
      generalize w.alloc (.cells #[.int .i64 (fk : Int), .int .i64 (fs : Int)] 129) = u1 at *
      have d10 : u1.cell? ⟨b, 10, none⟩ = some (.int .i64 (C.room : Int)) := by rw [hb0.cell (p := ⟨b, 10, none⟩) hbw]; exact c10
      have d11 : u1.cell? ⟨b, 11, none⟩ = some (.slice (some ⟨g, off, none⟩) S.kept.length cK) := by rw [hb0.cell (p := ⟨b, 11, none⟩) hbw]; exact c11
      have d12 : u1.cell? ⟨b, 12, none⟩ = some (.int .i64 (S.most : Int)) := by rw [hb0.cell (p := ⟨b, 12, none⟩) hbw]; exact c12
      have lb := Nat.lt_of_lt_of_le hbw hb0.size
      have lf := blk_lt hfa
      go_quiet (fail)
      have hb1 : Below w.heap.size w (u1.drewN nq) := below_drewN hb0 nq
      have hfa1 : (u1.drewN nq).heap[w.heap.size]? = some (.cells #[.int .i64 (fk : Int), .int .i64 (fs : Int)] 129 (0, 0)) := by rw [World.heap_drewN]; exact hfa
      generalize u1.drewN nq = u2 at *
      clear hb0 hfa d10 d11 d12 lb lf
      have hS2 := hS.later hb1
      have d10 : u2.cell? ⟨b, 10, none⟩ = some (.int .i64 (C.room : Int)) := by rw [hb1.cell (p := ⟨b, 10, none⟩) hbw]; exact c10
      have d11 : u2.cell? ⟨b, 11, none⟩ = some (.slice (some ⟨g, off, none⟩) S.kept.length cK) := by rw [hb1.cell (p := ⟨b, 11, none⟩) hbw]; exact c11
      have d12 : u2.cell? ⟨b, 12, none⟩ = some (.int .i64 (S.most : Int)) := by rw [hb1.cell (p := ⟨b, 12, none⟩) hbw]; exact c12
      have y11 := blk_free hS2.fb 11
      have y12 := blk_free hS2.fb 12
      have lb := Nat.lt_of_lt_of_le hbw hb1.size
      have lf := blk_lt hfa1
      have f0 : u2.cell? ⟨w.heap.size, 0, none⟩ = some (.int .i64 (fk : Int)) := by rw [blk_cell hfa1]; rfl
      have f1 : u2.cell? ⟨w.heap.size, 1, none⟩ = some (.int .i64 (fs : Int)) := by rw [blk_cell hfa1]; rfl
      have HST : Hid (S.store C.room (fk, fs) = storeM' { S with kept := S.kept.drop 1 } (fk, fs)) := hide (store_full _ _ _ hr hfull)
      have hrowk : RowAt u2 129 2 (.slice (some ⟨g, off, none⟩) S.kept.length cK) S.kept.length (pairs S.kept) := by rw [← hKf]; exact hS2.oK
      have hmx : SMoved b w u2 V V := SMoved.of_below hb1
      rw [hm] at d11
      by_cases hc1 : cK = 1
      · subst hc1
        go_wp2_with fail
        have hvt : RowAt u2 129 2 (.slice (some ⟨g, off, none⟩) m (0)) (S.kept.drop 1).length (pairs (S.kept.drop 1)) := hrowk.tail hm _ (Or.inl ⟨rfl, rfl⟩)
        have hnX : ({ S with kept := S.kept.drop 1 } : SS).kept.length = m := by simp; omega
        have hSx := hS2.setKept (row_setB hS2 hvt 11 (.slice (some ⟨g, off, none⟩) m (0)))
        have hMx : SMoved b w (u2.setCell ⟨b, 11, none⟩ (.slice (some ⟨g, off, none⟩) m (0))) V { V with k := .slice (some ⟨g, off, none⟩) m (0) } := ⟨hmx.only.setCell (p := ⟨b, 11, none⟩) (Or.inl (Or.inl rfl)) _, rfl, rfl, Or.inl rfl, Or.inl rfl, Or.inl (by rw [hKf]; rfl)⟩
        have hfx : (u2.setCell ⟨b, 11, none⟩ (.slice (some ⟨g, off, none⟩) m (0))).heap[w.heap.size]? = some (.cells #[.int .i64 (fk : Int), .int .i64 (fs : Int)] 129 (0, 0)) := by rw [Below.heap_setCell _ _ _ _ (by intro e; simp at e; omega)]; exact hfa1
        have hVX : ({ V with k := .slice (some ⟨g, off, none⟩) m (0) } : SV).k = .slice (some ⟨g, off, none⟩) m (0) := rfl
        generalize u2.setCell ⟨b, 11, none⟩ (.slice (some ⟨g, off, none⟩) m (0)) = ux at *
        clear hvt d10 d11 d12 y11 y12 f0 f1 hrowk hmx hS2 hfa1 hb1 lb lf
        have lbx := blk_lt hSx.fb
        have e10 : ux.cell? ⟨b, 10, none⟩ = some (.int .i64 (C.room : Int)) := by rw [blk_cell hSx.fb]; rfl
        have e11 : ux.cell? ⟨b, 11, none⟩ = some (.slice (some ⟨g, off, none⟩) (m) (0)) := by rw [blk_cell hSx.fb]; exact congrArg some hVX
        have e12 : ux.cell? ⟨b, 12, none⟩ = some (.int .i64 (S.most : Int)) := by rw [blk_cell hSx.fb]; rfl
        have y11 := blk_free hSx.fb 11
        have g0 : ux.cell? ⟨w.heap.size, 0, none⟩ = some (.int .i64 (fk : Int)) := by rw [blk_cell hfx]; rfl
        have g1 : ux.cell? ⟨w.heap.size, 1, none⟩ = some (.int .i64 (fs : Int)) := by rw [blk_cell hfx]; rfl
        have lfx := blk_lt hfx
        have hrowx : RowAt ux 129 2 (.slice (some ⟨g, off, none⟩) (m) (0)) (m) (pairs ({ S with kept := S.kept.drop 1 } : SS).kept) := by have h := hSx.oK; rw [hVX] at h; rw [hnX] at h; exact h
        have hbz : Below ux.heap.size ux ((ux.alloc (.cells #[.int .i64 (fk : Int), .int .i64 (fs : Int)] 129)).drew) := ((Below.refl _ ux).alloc (Nat.le_refl _) _).drew
        go_region_law (refine step_append_row2 rfl (.tmp 31) (.tmp 33) 122 rfl 129 i1 (.agg #[.int .i64 0, .int .i64 0]) 16 Tryz.underlying122 hi1 hz10 hz11 hz12 rfl (.slice (some ⟨g, off, none⟩) (m) (0)) (m) (pairs ({ S with kept := S.kept.drop 1 } : SS).kept) (hrowx.keep (Only.of_below (T := fun _ => False) hbz) (fun _ _ h => h)) rfl ⟨ux.heap.size, 0, none⟩ 1 (.int .i64 (fk : Int)) (.int .i64 (fs : Int)) rfl (new_cells ux [.int .i64 (fk : Int), .int .i64 (fs : Int)] 129 0 _ rfl) (new_cells ux [.int .i64 (fk : Int), .int .i64 (fs : Int)] 129 1 _ rfl) rfl rfl (by omega) (by omega) ?_; intro v' w' hrow' honly' hmv'; have hS4 := SAt.grownK (f := (fk, fs)) hSx hVX hnX hbz hrow' honly' hmv'; obtain ⟨a4, c4, hv4⟩ := hrow'.form; subst hv4; have j11 : w'.cell? ⟨b, 11, none⟩ = some (.slice (some ⟨g, off, none⟩) (m) (0)) := (by rw [blk_cell hS4.1]; exact congrArg some hVX); have j12 : w'.cell? ⟨b, 12, none⟩ = some (.int .i64 (S.most : Int)) := (by rw [blk_cell hS4.1]; rfl); have x11 := blk_free hS4.1 11; have x12 := blk_free hS4.1 12; have lb4 := blk_lt hS4.1)
        all_goals
          obtain ⟨hfb4, hS5, hM5⟩ := hS4
          have hM6 := hMx.trans hM5
          clear hM5 hmv' honly' hrow'
          have k11 : (w'.setCell ⟨b, 11, none⟩ (.slice a4 (m + 1) c4)).cell? ⟨b, 11, none⟩ = some (.slice a4 (m + 1) c4) := by rw [blk_cell (blk_set hfb4 11 _)]; rfl
          have k12 : (w'.setCell ⟨b, 11, none⟩ (.slice a4 (m + 1) c4)).cell? ⟨b, 12, none⟩ = some (.int .i64 (S.most : Int)) := by rw [blk_cell (blk_set hfb4 11 _)]; rfl
          have r11 := blk_free (blk_set hfb4 11 (.slice a4 (m + 1) c4)) 11
          have r12 := blk_free (blk_set hfb4 11 (.slice a4 (m + 1) c4)) 12
          have lb5 : b < (w'.setCell ⟨b, 11, none⟩ (.slice a4 (m + 1) c4)).heap.size := blk_lt (blk_set hfb4 11 _)
          go_wp2_with fail
          generalize w'.setCell ⟨b, 11, none⟩ (.slice a4 (m + 1) c4) = u5 at *
          go_quiet (fail)
          have hb6 : Below u5.heap.size u5 (u5.drewN nq) := below_drewN (Below.refl _ _) nq
          have hS6 := hS5.later hb6
          have hM7 := hM6.trans (SMoved.of_below hb6)
          have t11 : (u5.drewN nq).cell? ⟨b, 11, none⟩ = some (.slice a4 (m + 1) c4) := by rw [hb6.cell (p := ⟨b, 11, none⟩) lb5]; exact k11
          have t12 : (u5.drewN nq).cell? ⟨b, 12, none⟩ = some (.int .i64 (S.most : Int)) := by rw [hb6.cell (p := ⟨b, 12, none⟩) lb5]; exact k12
          have s12 := blk_free hS6.fb 12
          have lb7 := blk_lt hS6.fb
          generalize u5.drewN nq = u6 at *
          clear k11 k12 r11 r12 lb5 hb6 hM6 hS5
          by_cases hgt : S.most < m + 1
          · have hg1 : decide ((S.most : Int) < (m : Int) + 1) = true := by simp; omega
            have hg2 : decide (S.most < m + 1) = true := by simp; omega
            have HF : Hid (S.store C.room (fk, fs) = { ({ ({ S with kept := S.kept.drop 1 } : SS) with kept := ({ S with kept := S.kept.drop 1 } : SS).kept ++ [(fk, fs)] } : SS) with most := m + 1 }) := hide (by rw [unhide HST]; unfold storeM'; rw [if_pos (by rw [hnX]; exact hgt)]; rw [hnX])
            have hfin := hS6.setMost (m + 1)
            go_wp2_with fail
            go_end0
            refine ⟨rfl, ?_⟩
            rw [unhide HF]
            exact ⟨_, by simpa using hfin, hM7.setB 12 _⟩
          · have hg1 : decide ((S.most : Int) < (m : Int) + 1) = false := by simp; omega
            have hg2 : decide (S.most < m + 1) = false := by simp; omega
            have HF : Hid (S.store C.room (fk, fs) = { ({ S with kept := S.kept.drop 1 } : SS) with kept := ({ S with kept := S.kept.drop 1 } : SS).kept ++ [(fk, fs)] }) := hide (by rw [unhide HST]; unfold storeM'; rw [if_neg (by rw [hnX]; exact hgt)])
            go_wp2_with fail
            go_end0
            refine ⟨rfl, ?_⟩
            rw [unhide HF]
            exact ⟨_, hS6, hM7⟩
      · have hc2 : 1 < cK := by omega
        have hc3 : decide (cK ≤ 1) = false := by simp; omega
        go_wp2_with fail
        all_goals first | (exfalso; omega) | skip
        have hvt : RowAt u2 129 2 (.slice (some ⟨g, off + 2, none⟩) m (cK - 1)) (S.kept.drop 1).length (pairs (S.kept.drop 1)) := hrowk.tail hm _ (Or.inr rfl)
        have hnX : ({ S with kept := S.kept.drop 1 } : SS).kept.length = m := by simp; omega
        have hSx := hS2.setKept (row_setB hS2 hvt 11 (.slice (some ⟨g, off + 2, none⟩) m (cK - 1)))
        have hMx : SMoved b w (u2.setCell ⟨b, 11, none⟩ (.slice (some ⟨g, off + 2, none⟩) m (cK - 1))) V { V with k := .slice (some ⟨g, off + 2, none⟩) m (cK - 1) } := ⟨hmx.only.setCell (p := ⟨b, 11, none⟩) (Or.inl (Or.inl rfl)) _, rfl, rfl, Or.inl rfl, Or.inl rfl, Or.inl (by rw [hKf]; rfl)⟩
        have hfx : (u2.setCell ⟨b, 11, none⟩ (.slice (some ⟨g, off + 2, none⟩) m (cK - 1))).heap[w.heap.size]? = some (.cells #[.int .i64 (fk : Int), .int .i64 (fs : Int)] 129 (0, 0)) := by rw [Below.heap_setCell _ _ _ _ (by intro e; simp at e; omega)]; exact hfa1
        have hVX : ({ V with k := .slice (some ⟨g, off + 2, none⟩) m (cK - 1) } : SV).k = .slice (some ⟨g, off + 2, none⟩) m (cK - 1) := rfl
        generalize u2.setCell ⟨b, 11, none⟩ (.slice (some ⟨g, off + 2, none⟩) m (cK - 1)) = ux at *
        clear hvt d10 d11 d12 y11 y12 f0 f1 hrowk hmx hS2 hfa1 hb1 lb lf
        have lbx := blk_lt hSx.fb
        have e10 : ux.cell? ⟨b, 10, none⟩ = some (.int .i64 (C.room : Int)) := by rw [blk_cell hSx.fb]; rfl
        have e11 : ux.cell? ⟨b, 11, none⟩ = some (.slice (some ⟨g, off + 2, none⟩) (m) (cK - 1)) := by rw [blk_cell hSx.fb]; exact congrArg some hVX
        have e12 : ux.cell? ⟨b, 12, none⟩ = some (.int .i64 (S.most : Int)) := by rw [blk_cell hSx.fb]; rfl
        have y11 := blk_free hSx.fb 11
        have g0 : ux.cell? ⟨w.heap.size, 0, none⟩ = some (.int .i64 (fk : Int)) := by rw [blk_cell hfx]; rfl
        have g1 : ux.cell? ⟨w.heap.size, 1, none⟩ = some (.int .i64 (fs : Int)) := by rw [blk_cell hfx]; rfl
        have lfx := blk_lt hfx
        have hrowx : RowAt ux 129 2 (.slice (some ⟨g, off + 2, none⟩) (m) (cK - 1)) (m) (pairs ({ S with kept := S.kept.drop 1 } : SS).kept) := by have h := hSx.oK; rw [hVX] at h; rw [hnX] at h; exact h
        have hbz : Below ux.heap.size ux ((ux.alloc (.cells #[.int .i64 (fk : Int), .int .i64 (fs : Int)] 129)).drew) := ((Below.refl _ ux).alloc (Nat.le_refl _) _).drew
        go_region_law (refine step_append_row2 rfl (.tmp 31) (.tmp 33) 122 rfl 129 i1 (.agg #[.int .i64 0, .int .i64 0]) 16 Tryz.underlying122 hi1 hz10 hz11 hz12 rfl (.slice (some ⟨g, off + 2, none⟩) (m) (cK - 1)) (m) (pairs ({ S with kept := S.kept.drop 1 } : SS).kept) (hrowx.keep (Only.of_below (T := fun _ => False) hbz) (fun _ _ h => h)) rfl ⟨ux.heap.size, 0, none⟩ 1 (.int .i64 (fk : Int)) (.int .i64 (fs : Int)) rfl (new_cells ux [.int .i64 (fk : Int), .int .i64 (fs : Int)] 129 0 _ rfl) (new_cells ux [.int .i64 (fk : Int), .int .i64 (fs : Int)] 129 1 _ rfl) rfl rfl (by omega) (by omega) ?_; intro v' w' hrow' honly' hmv'; have hS4 := SAt.grownK (f := (fk, fs)) hSx hVX hnX hbz hrow' honly' hmv'; obtain ⟨a4, c4, hv4⟩ := hrow'.form; subst hv4; have j11 : w'.cell? ⟨b, 11, none⟩ = some (.slice (some ⟨g, off + 2, none⟩) (m) (cK - 1)) := (by rw [blk_cell hS4.1]; exact congrArg some hVX); have j12 : w'.cell? ⟨b, 12, none⟩ = some (.int .i64 (S.most : Int)) := (by rw [blk_cell hS4.1]; rfl); have x11 := blk_free hS4.1 11; have x12 := blk_free hS4.1 12; have lb4 := blk_lt hS4.1)
        all_goals
          obtain ⟨hfb4, hS5, hM5⟩ := hS4
          have hM6 := hMx.trans hM5
          clear hM5 hmv' honly' hrow'
          have k11 : (w'.setCell ⟨b, 11, none⟩ (.slice a4 (m + 1) c4)).cell? ⟨b, 11, none⟩ = some (.slice a4 (m + 1) c4) := by rw [blk_cell (blk_set hfb4 11 _)]; rfl
          have k12 : (w'.setCell ⟨b, 11, none⟩ (.slice a4 (m + 1) c4)).cell? ⟨b, 12, none⟩ = some (.int .i64 (S.most : Int)) := by rw [blk_cell (blk_set hfb4 11 _)]; rfl
          have r11 := blk_free (blk_set hfb4 11 (.slice a4 (m + 1) c4)) 11
          have r12 := blk_free (blk_set hfb4 11 (.slice a4 (m + 1) c4)) 12
          have lb5 : b < (w'.setCell ⟨b, 11, none⟩ (.slice a4 (m + 1) c4)).heap.size := blk_lt (blk_set hfb4 11 _)
          go_wp2_with fail
          generalize w'.setCell ⟨b, 11, none⟩ (.slice a4 (m + 1) c4) = u5 at *
          go_quiet (fail)
          have hb6 : Below u5.heap.size u5 (u5.drewN nq) := below_drewN (Below.refl _ _) nq
          have hS6 := hS5.later hb6
          have hM7 := hM6.trans (SMoved.of_below hb6)
          have t11 : (u5.drewN nq).cell? ⟨b, 11, none⟩ = some (.slice a4 (m + 1) c4) := by rw [hb6.cell (p := ⟨b, 11, none⟩) lb5]; exact k11
          have t12 : (u5.drewN nq).cell? ⟨b, 12, none⟩ = some (.int .i64 (S.most : Int)) := by rw [hb6.cell (p := ⟨b, 12, none⟩) lb5]; exact k12
          have s12 := blk_free hS6.fb 12
          have lb7 := blk_lt hS6.fb
          generalize u5.drewN nq = u6 at *
          clear k11 k12 r11 r12 lb5 hb6 hM6 hS5
          by_cases hgt : S.most < m + 1
          · have hg1 : decide ((S.most : Int) < (m : Int) + 1) = true := by simp; omega
            have hg2 : decide (S.most < m + 1) = true := by simp; omega
            have HF : Hid (S.store C.room (fk, fs) = { ({ ({ S with kept := S.kept.drop 1 } : SS) with kept := ({ S with kept := S.kept.drop 1 } : SS).kept ++ [(fk, fs)] } : SS) with most := m + 1 }) := hide (by rw [unhide HST]; unfold storeM'; rw [if_pos (by rw [hnX]; exact hgt)]; rw [hnX])
            have hfin := hS6.setMost (m + 1)
            go_wp2_with fail
            go_end0
            refine ⟨rfl, ?_⟩
            rw [unhide HF]
            exact ⟨_, by simpa using hfin, hM7.setB 12 _⟩
          · have hg1 : decide ((S.most : Int) < (m : Int) + 1) = false := by simp; omega
            have hg2 : decide (S.most < m + 1) = false := by simp; omega
            have HF : Hid (S.store C.room (fk, fs) = { ({ S with kept := S.kept.drop 1 } : SS) with kept := ({ S with kept := S.kept.drop 1 } : SS).kept ++ [(fk, fs)] }) := hide (by rw [unhide HST]; unfold storeM'; rw [if_neg (by rw [hnX]; exact hgt)])
            go_wp2_with fail
            go_end0
            refine ⟨rfl, ?_⟩
            rw [unhide HF]
            exact ⟨_, hS6, hM7⟩
    · have hd3 : decide ((C.room : Int) ≤ (S.kept.length : Int)) = false := by simp; omega
      have hd4 : decide (C.room ≤ S.kept.length) = false := by simp; omega
      go_enter Tryz.func135, Tryz.ntmps135
      go_wp2_with fail
      have hb0 : Below w.heap.size w (w.alloc (.cells #[.int .i64 (fk : Int), .int .i64 (fs : Int)] 129)) := (Below.refl _ _).alloc (Nat.le_refl _) _
      have hfa := heap_alloc_new w (.cells #[.int .i64 (fk : Int), .int .i64 (fs : Int)] 129)
      generalize w.alloc (.cells #[.int .i64 (fk : Int), .int .i64 (fs : Int)] 129) = u1 at *
      have d10 : u1.cell? ⟨b, 10, none⟩ = some (.int .i64 (C.room : Int)) := by rw [hb0.cell (p := ⟨b, 10, none⟩) hbw]; exact c10
      have d11 : u1.cell? ⟨b, 11, none⟩ = some (.slice aK S.kept.length cK) := by rw [hb0.cell (p := ⟨b, 11, none⟩) hbw]; exact c11
      have d12 : u1.cell? ⟨b, 12, none⟩ = some (.int .i64 (S.most : Int)) := by rw [hb0.cell (p := ⟨b, 12, none⟩) hbw]; exact c12
      have lb := Nat.lt_of_lt_of_le hbw hb0.size
      have lf := blk_lt hfa
      go_quiet (fail)
      have hb1 : Below w.heap.size w (u1.drewN nq) := below_drewN hb0 nq
      have hfa1 : (u1.drewN nq).heap[w.heap.size]? = some (.cells #[.int .i64 (fk : Int), .int .i64 (fs : Int)] 129 (0, 0)) := by rw [World.heap_drewN]; exact hfa
      generalize u1.drewN nq = u2 at *
      clear hb0 hfa d10 d11 d12 lb lf
      have hS2 := hS.later hb1
      have d10 : u2.cell? ⟨b, 10, none⟩ = some (.int .i64 (C.room : Int)) := by rw [hb1.cell (p := ⟨b, 10, none⟩) hbw]; exact c10
      have d11 : u2.cell? ⟨b, 11, none⟩ = some (.slice aK S.kept.length cK) := by rw [hb1.cell (p := ⟨b, 11, none⟩) hbw]; exact c11
      have d12 : u2.cell? ⟨b, 12, none⟩ = some (.int .i64 (S.most : Int)) := by rw [hb1.cell (p := ⟨b, 12, none⟩) hbw]; exact c12
      have y11 := blk_free hS2.fb 11
      have y12 := blk_free hS2.fb 12
      have lb := Nat.lt_of_lt_of_le hbw hb1.size
      have lf := blk_lt hfa1
      have f0 : u2.cell? ⟨w.heap.size, 0, none⟩ = some (.int .i64 (fk : Int)) := by rw [blk_cell hfa1]; rfl
      have f1 : u2.cell? ⟨w.heap.size, 1, none⟩ = some (.int .i64 (fs : Int)) := by rw [blk_cell hfa1]; rfl
      go_wp2_with fail
      have HST : Hid (S.store C.room (fk, fs) = storeM' S (fk, fs)) := hide (store_room _ _ _ hr hfull)
      have hMx : SMoved b w u2 V V := SMoved.of_below hb1
      have hSx := hS2
      have hfx := hfa1
      have hVX := hKf
      generalize u2 = ux at *
      clear d10 d11 d12 y11 y12 f0 f1 hS2 hfa1 hb1 lb lf
      have lbx := blk_lt hSx.fb
      have e10 : ux.cell? ⟨b, 10, none⟩ = some (.int .i64 (C.room : Int)) := by rw [blk_cell hSx.fb]; rfl
      have e11 : ux.cell? ⟨b, 11, none⟩ = some (.slice (aK) (S.kept.length) (cK)) := by rw [blk_cell hSx.fb]; exact congrArg some hVX
      have e12 : ux.cell? ⟨b, 12, none⟩ = some (.int .i64 (S.most : Int)) := by rw [blk_cell hSx.fb]; rfl
      have y11 := blk_free hSx.fb 11
      have g0 : ux.cell? ⟨w.heap.size, 0, none⟩ = some (.int .i64 (fk : Int)) := by rw [blk_cell hfx]; rfl
      have g1 : ux.cell? ⟨w.heap.size, 1, none⟩ = some (.int .i64 (fs : Int)) := by rw [blk_cell hfx]; rfl
      have lfx := blk_lt hfx
      have hrowx : RowAt ux 129 2 (.slice (aK) (S.kept.length) (cK)) (S.kept.length) (pairs (S : SS).kept) := by have h := hSx.oK; rw [hVX] at h; exact h
      have hbz : Below ux.heap.size ux ((ux.alloc (.cells #[.int .i64 (fk : Int), .int .i64 (fs : Int)] 129)).drew) := ((Below.refl _ ux).alloc (Nat.le_refl _) _).drew
      go_region_law (refine step_append_row2 rfl (.tmp 31) (.tmp 33) 122 rfl 129 i1 (.agg #[.int .i64 0, .int .i64 0]) 16 Tryz.underlying122 hi1 hz10 hz11 hz12 rfl (.slice (aK) (S.kept.length) (cK)) (S.kept.length) (pairs (S : SS).kept) (hrowx.keep (Only.of_below (T := fun _ => False) hbz) (fun _ _ h => h)) rfl ⟨ux.heap.size, 0, none⟩ 1 (.int .i64 (fk : Int)) (.int .i64 (fs : Int)) rfl (new_cells ux [.int .i64 (fk : Int), .int .i64 (fs : Int)] 129 0 _ rfl) (new_cells ux [.int .i64 (fk : Int), .int .i64 (fs : Int)] 129 1 _ rfl) rfl rfl (by omega) (by omega) ?_; intro v' w' hrow' honly' hmv'; have hS4 := SAt.grownK (f := (fk, fs)) hSx hVX rfl hbz hrow' honly' hmv'; obtain ⟨a4, c4, hv4⟩ := hrow'.form; subst hv4; have j11 : w'.cell? ⟨b, 11, none⟩ = some (.slice (aK) (S.kept.length) (cK)) := (by rw [blk_cell hS4.1]; exact congrArg some hVX); have j12 : w'.cell? ⟨b, 12, none⟩ = some (.int .i64 (S.most : Int)) := (by rw [blk_cell hS4.1]; rfl); have x11 := blk_free hS4.1 11; have x12 := blk_free hS4.1 12; have lb4 := blk_lt hS4.1)
      all_goals
        obtain ⟨hfb4, hS5, hM5⟩ := hS4
        have hM6 := hMx.trans hM5
        clear hM5 hmv' honly' hrow'
        have k11 : (w'.setCell ⟨b, 11, none⟩ (.slice a4 (S.kept.length + 1) c4)).cell? ⟨b, 11, none⟩ = some (.slice a4 (S.kept.length + 1) c4) := by rw [blk_cell (blk_set hfb4 11 _)]; rfl
        have k12 : (w'.setCell ⟨b, 11, none⟩ (.slice a4 (S.kept.length + 1) c4)).cell? ⟨b, 12, none⟩ = some (.int .i64 (S.most : Int)) := by rw [blk_cell (blk_set hfb4 11 _)]; rfl
        have r11 := blk_free (blk_set hfb4 11 (.slice a4 (S.kept.length + 1) c4)) 11
        have r12 := blk_free (blk_set hfb4 11 (.slice a4 (S.kept.length + 1) c4)) 12
        have lb5 : b < (w'.setCell ⟨b, 11, none⟩ (.slice a4 (S.kept.length + 1) c4)).heap.size := blk_lt (blk_set hfb4 11 _)
        go_wp2_with fail
        generalize w'.setCell ⟨b, 11, none⟩ (.slice a4 (S.kept.length + 1) c4) = u5 at *
        go_quiet (fail)
        have hb6 : Below u5.heap.size u5 (u5.drewN nq) := below_drewN (Below.refl _ _) nq
        have hS6 := hS5.later hb6
        have hM7 := hM6.trans (SMoved.of_below hb6)
        have t11 : (u5.drewN nq).cell? ⟨b, 11, none⟩ = some (.slice a4 (S.kept.length + 1) c4) := by rw [hb6.cell (p := ⟨b, 11, none⟩) lb5]; exact k11
        have t12 : (u5.drewN nq).cell? ⟨b, 12, none⟩ = some (.int .i64 (S.most : Int)) := by rw [hb6.cell (p := ⟨b, 12, none⟩) lb5]; exact k12
        have s12 := blk_free hS6.fb 12
        have lb7 := blk_lt hS6.fb
        generalize u5.drewN nq = u6 at *
        clear k11 k12 r11 r12 lb5 hb6 hM6 hS5
        by_cases hgt : S.most < S.kept.length + 1
        · have hg1 : decide ((S.most : Int) < (S.kept.length : Int) + 1) = true := by simp; omega
          have hg2 : decide (S.most < S.kept.length + 1) = true := by simp; omega
          have HF : Hid (S.store C.room (fk, fs) = { ({ (S : SS) with kept := (S : SS).kept ++ [(fk, fs)] } : SS) with most := S.kept.length + 1 }) := hide (by rw [unhide HST]; unfold storeM'; rw [if_pos hgt])
          have hfin := hS6.setMost (S.kept.length + 1)
          go_wp2_with fail
          go_end0
          refine ⟨rfl, ?_⟩
          rw [unhide HF]
          exact ⟨_, by simpa using hfin, hM7.setB 12 _⟩
        · have hg1 : decide ((S.most : Int) < (S.kept.length : Int) + 1) = false := by simp; omega
          have hg2 : decide (S.most < S.kept.length + 1) = false := by simp; omega
          have HF : Hid (S.store C.room (fk, fs) = { (S : SS) with kept := (S : SS).kept ++ [(fk, fs)] }) := hide (by rw [unhide HST]; unfold storeM'; rw [if_neg hgt])
          go_wp2_with fail
          go_end0
          refine ⟨rfl, ?_⟩
          rw [unhide HF]
          exact ⟨_, hS6, hM7⟩
end Go.Proofs.YtgipjjhkhfihpaaGreatDoor

namespace Go.Proofs.YtgipjjhkhfihpaaGreatDoor
open Go.RowKit

theorem cell_same {w w' : World} {k o : Nat} (h : w'.heap[k]? = w.heap[k]?) : w'.cell? ⟨k, o, none⟩ = w.cell? ⟨k, o, none⟩ := by
  unfold World.cell?
  rw [h]
/-! ### clauses -/
def idxTo (k : Nat) : List Nat := (List.range k).map (· + 1)
theorem idxTo_succ (k : Nat) : idxTo (k + 1) = idxTo k ++ [k + 1] := by unfold idxTo; rw [List.range_succ, List.map_append]; rfl
theorem idxTo_len (k : Nat) : (idxTo k).length = k := by simp [idxTo]
def keptTo (kept : List (Nat × Nat)) (k : Nat) : List Nat := ((kept.take k).filter (fun f => f.1 == 1)).map (·.2)
theorem keptTo_succ (kept : List (Nat × Nat)) (k : Nat) (h : k < kept.length) : keptTo kept (k + 1) = keptTo kept k ++ (if kept[k].1 == 1 then [kept[k].2] else []) := by
  unfold keptTo
  rw [List.take_succ_eq_append_getElem h, List.filter_append, List.map_append]
  congr 1
  cases hh : (kept[k].1 == 1) <;> simp [hh]
theorem keptTo_len (kept : List (Nat × Nat)) (k : Nat) : (keptTo kept k).length ≤ k := by
  unfold keptTo
  rw [List.length_map]
  exact Nat.le_trans (List.length_filter_le _ _) (by simp; omega)
theorem ints_snoc (l : List Nat) (n : Nat) : ints (l ++ [n]) = ints l ++ [.int .i64 (n : Int)] := by simp [ints]
theorem infoIntS : (Tryz.prog.info? 3).map (fun i => (i.zero, i.size, i.bytes)) = some (some (.int .i64 0), 1, 8) := by kernel_rfl
def ClausesPost (C : SC) (S : SS) (w : World) (e : Ending) (w' : World) : Prop := ∃ v, e = .returned v ∧ w'.ownsRow w.heap.size 3 1 v (clausesOf C.q S.kept).length (ints (clausesOf C.q S.kept)) ∧ Below w.heap.size w w'
set_option maxRecDepth 100000 in
set_option maxHeartbeats 3200000 in
theorem clauses_any (b : Nat) (C : SC) (S : SS) (V : SV) (w : World) (hS : SAt w b C S V) (hB : SBd C S) :
    Calls Tryz.prog 109 #[.pointer (some ⟨b, 0, none⟩)] w fun e w' => ClausesPost C S w e w' := by
  obtain ⟨aC, cC, hCf⟩ := own_form hS.oC
  obtain ⟨aK, cK, hKf⟩ := hS.oK.form
  obtain ⟨i1, hi1, hz10, hz11, hz12⟩ := info_parts infoIntS
  have hbw := blk_lt hS.fb
  have c1 : w.cell? ⟨b, 1, none⟩ = some (.slice aC C.q.cl.length cC) := by rw [blk_cell hS.fb]; exact congrArg some hCf
  have hcl := hB.qb.cl
  have hkl := hB.kept
  go_enter Tryz.func109, Tryz.ntmps109
  go_wp2_with fail
  go_loopg [3, 13] (C.q.cl.length) (fun m vl i wx => ∃ (k : Nat), i = .int .i64 k ∧ k + m = C.q.cl.length ∧ wx.ownsRow w.heap.size 3 1 vl (idxTo k).length (ints (idxTo k)) ∧ Below w.heap.size w wx)
  case atStart => exact ⟨0, rfl, by omega, World.ownsRow_nil _ _ _ _, Below.refl _ _⟩
  case round =>
    obtain ⟨k, rfl, hkm, hown, hb⟩ := hrel
    have hlk := idxTo_len k
    have hbs := hb.size
    obtain ⟨aL, cL, rfl⟩ := own_form hown
    by_cases hlt : k < C.q.cl.length
    · have hd1 : decide ((k : Int) < (C.q.cl.length : Int)) = true := decide_eq_true (by omega)
      have hd2 : decide (k < C.q.cl.length) = true := decide_eq_true hlt
      have HSU : Hid (idxTo (k + 1) = idxTo k ++ [k + 1]) := hide (idxTo_succ k)
      have HIS := hide (ints_snoc (idxTo k) (k + 1))
      go_wp2_with (at_builtin; refine wpList_append_new rfl (.tmp 16) (.tmp 19) 25 rfl w.heap.size i1 (.int .i64 0) 1 8 Tryz.underlying25 hi1 hz10 hz11 hz12 rfl (by decide) _ _ _ hown rfl rfl rfl (by simp [Value.oneCell']) (by unfold maxLen; omega) (by omega) hbs ?_; intro v4 w4 hown4 hgrow4 hnn4)
      have hB4 : Below w.heap.size w w4 := below_grown hb hgrow4 hown (Nat.le_refl _) hbs
      obtain ⟨a4, c4, rfl⟩ := own_form hown4
      go_wp2_with fail
      go_roundg (gk - 1)
      case measure => omega
      case rel => exact ⟨k + 1, by go_num, by omega, by rw [unhide HSU, unhide HIS]; simpa using hown4, hB4⟩
    · have hke : k = C.q.cl.length := by omega
      subst hke
      have hd1 : decide ((C.q.cl.length : Int) < (C.q.cl.length : Int)) = false := by simp
      have hSr := hS.later hb
      have c11 : wr.cell? ⟨b, 11, none⟩ = some (.slice aK S.kept.length cK) := by rw [blk_cell hSr.fb]; exact congrArg some hKf
      have lbr := blk_lt hSr.fb
      have hrow := hSr.oK
      rw [hKf] at hrow
      go_wp2_with fail
      have hA2 : Below w.heap.size w wr := hb
      obtain ⟨wo, rfl⟩ : ∃ wo, wo = wr := ⟨_, rfl⟩
      go_loopg [3, 28] (S.kept.length) (fun m vl i wx => ∃ (k : Nat) (L : List Nat), L = idxTo C.q.cl.length ++ keptTo S.kept k ∧ i = .int .i64 k ∧ k + m = S.kept.length ∧ wx.ownsRow w.heap.size 3 1 vl L.length (ints L) ∧ Below w.heap.size w wx)
      case atStart => exact ⟨0, idxTo C.q.cl.length, by simp [keptTo], rfl, by omega, hown, hb⟩
      case round =>
        obtain ⟨k, L, hL, rfl, hkm, hown2, hb2⟩ := hrel
        have hlk2 := keptTo_len S.kept k
        have hlen2 : L.length ≤ 1000 := by rw [hL, List.length_append]; omega
        have HL := hide hL
        clear hL
        have hbs2 := hb2.size
        obtain ⟨aM, cM, rfl⟩ := own_form hown2
        by_cases hlt2 : k < S.kept.length
        · have hd3 : decide ((k : Int) < (S.kept.length : Int)) = true := decide_eq_true (by omega)
          have hd4 : decide (k < S.kept.length) = true := decide_eq_true hlt2
          have hSx := hS.later hb2
          have hrowx := hSx.oK
          rw [hKf] at hrowx
          obtain ⟨g, off, cap, hVe, hg', hcell⟩ := hrowx.cell (by omega)
          injection hVe with hVe _ hV2
          subst hVe hV2
          obtain ⟨e0, e1⟩ := pairs_at S.kept k hlt2
          have hx0 := hcell _ _ e0
          have hx1 := hcell _ _ e1
          have HSU := hide (keptTo_succ S.kept k hlt2)
          clear hcell e0 e1
          generalize S.kept[k] = f at *
          obtain ⟨fk, fs⟩ := f
          dsimp only at *
          have hA : Below wr.heap.size wr (wr.alloc (.cells #[.int .i64 (fk : Int), .int .i64 (fs : Int)] 129)) := (Below.refl _ _).alloc (Nat.le_refl _) _
          have hfa := heap_alloc_new wr (.cells #[.int .i64 (fk : Int), .int .i64 (fs : Int)] 129)
          have hown3 := own_below hown2 hA
          have hb3 := hb2.trans (hA.mono hb2.size)
          rw [← Nat.add_assoc] at hx1
          by_cases hk1 : fk = 1
          · subst hk1
            have HS2 : Hid (L ++ [fs] = idxTo C.q.cl.length ++ keptTo S.kept (k + 1)) := hide (by rw [unhide HSU, unhide HL]; simp)
            have HIS := hide (ints_snoc L fs)
            have hbs3 := hb3.size
            go_wp2_with (at_builtin; refine wpList_append_new' rfl _ _ 25 rfl w.heap.size i1 (.int .i64 0) 1 8 Tryz.underlying25 hi1 hz10 hz11 hz12 rfl (by decide) _ _ _ hown3 rfl _ rfl (by simp) rfl (by simp [Value.oneCell']) (by unfold maxLen; omega) (by omega) hbs3 ?_; intro v4 w4 hown4 hgrow4 hnn4)
            have hB4 : Below w.heap.size w w4 := below_grown hb3 hgrow4 hown3 (Nat.le_refl _) hbs3
            obtain ⟨a4, c4, rfl⟩ := own_form hown4
            go_wp2_with fail
            go_roundg (gk - 1)
            case measure => omega
            case rel => exact ⟨k + 1, L ++ [fs], unhide HS2, by go_num, by omega, by rw [unhide HIS]; simpa using hown4, hB4⟩
          · have HS2 : Hid (L = idxTo C.q.cl.length ++ keptTo S.kept (k + 1)) := hide (by rw [unhide HSU, if_neg (by simpa using hk1), List.append_nil]; exact unhide HL)
            have hq : ((fk : Int) == 1) = false := by rw [beq_eq_false_iff_ne]; omega
            clear hk1
            go_wp2_with fail
            go_roundg (gk - 1)
            case measure => omega
            case rel => exact ⟨k + 1, L, unhide HS2, by go_num, by omega, hown3, hb3⟩
        · have hke : k = S.kept.length := by omega
          subst hke
          have hd3 : decide ((S.kept.length : Int) < (S.kept.length : Int)) = false := by simp
          have HR : Hid (clausesOf C.q S.kept = L) := hide (by rw [unhide HL]; unfold clausesOf idxTo keptTo; rw [List.take_length])
          go_wp2_with fail
          go_ret
          exact ⟨_, rfl, by rw [unhide HR]; exact hown2, hb2⟩
end Go.Proofs.YtgipjjhkhfihpaaGreatDoor
