import Derived.Test.YtgipjjhkhfihpabDoorAJ
import Derived.Test.YtgipjjhkhfihpabDoorAZ
import Derived.Test.YtgipjjhkhfihpabDoorCards
import Derived.Test.YtgipjjhkhfihpabDoorTie
import Derived.ProofKit
import Derived.LaidMore
import Derived.Stop.Joined
import Derived.Lib.LaidTab
import Derived.OpenShut
import Derived.Deep.DeepHandedRow
import Derived.WalkKit
import Derived.ChangeMaps5
namespace Go.Proofs.YtgipjjhkhfihpabDoor
open Go.RowKit

/-! ### Weaker, Inward: lines of the prefix of the other kind, in other places -/
theorem weaker_aux {l : List UInt8} {A B C : List (List UInt8)} {r : List UInt8} {qs : List (Bool × List Nat)} {cs : List (Nat × Nat)} (h : TextIs l (A ++ r :: B) C qs cs) (k' : Bool) :
    (r.head? = some 97 ∨ r.head? = some 101) ∧ (joinN ((A ++ ((if k' then 97 else 101) :: r.tail) :: B) ++ C)).length ≤ 2000 ∧
    (k' = false → (vkind l).1 = 2 → (vkind (joinN ((A ++ ((if k' then 97 else 101) :: r.tail) :: B) ++ C))).1 = 2) ∧
    (k' = true → (vkind l).1 = 1 → (vkind (joinN ((A ++ ((if k' then 97 else 101) :: r.tail) :: B) ++ C))).1 = 1) := by
  obtain ⟨qa, k, vs, qb, g1, eq0, h'⟩ := text_other h k'
  have hf := pref_first r (k, vs) g1
  have ht : toldP (qa ++ (k', vs) :: qb) = toldP qs := by rw [eq0]; simp [toldP]
  refine ⟨?_, h'.len, ?_, ?_⟩
  · rw [hf]; cases k
    · exact Or.inr rfl
    · exact Or.inl rfl
  · intro hk hv
    rw [vkind_text h] at hv
    rw [vkind_text h', if_pos]
    refine truth_weaker qs _ cs ht ?_ (by by_cases ht : truthN qs cs = true; exact ht; rw [if_neg ht] at hv; cases hv)
    intro v
    rw [allN_bit, allN_bit, eq0, hk, List.any_append, List.any_append, List.any_cons, List.any_cons]
    cases qa.any (fun x => x.1 && x.2.any (· == v)) <;> cases qb.any (fun x => x.1 && x.2.any (· == v)) <;> simp
  · intro hk hv
    rw [vkind_text h] at hv
    rw [vkind_text h', if_neg]
    intro hw
    have := truth_weaker _ qs cs ht.symm (fun v => by
      rw [allN_bit, allN_bit, eq0, hk, List.any_append, List.any_append, List.any_cons, List.any_cons]
      cases qa.any (fun x => x.1 && x.2.any (· == v)) <;> cases qb.any (fun x => x.1 && x.2.any (· == v)) <;> simp) hw
    rw [if_pos this] at hv
    cases hv
theorem rows_split (P : List (List UInt8)) (i : Nat) (hi : i < P.length) : P = P.take i ++ P[i] :: P.drop (i + 1) := by rw [List.getElem_cons_drop, List.take_append_drop]
theorem weaker_law {l : List UInt8} {P C : List (List UInt8)} {qs : List (Bool × List Nat)} {cs : List (Nat × Nat)} (h : TextIs l P C qs cs) (rows : List (List UInt8)) (hr : rows = P ++ C) (i : Nat) (hi : i < P.length) (hi2 : i < rows.length) (k' : Bool) :
    (rows[i].head? = some 97 ∨ rows[i].head? = some 101) ∧ (joinN (rows.set i ((if k' then 97 else 101) :: rows[i].tail))).length ≤ 2000 ∧
    (k' = false → (vkind l).1 = 2 → (vkind (joinN (rows.set i ((if k' then 97 else 101) :: rows[i].tail)))).1 = 2) ∧
    (k' = true → (vkind l).1 = 1 → (vkind (joinN (rows.set i ((if k' then 97 else 101) :: rows[i].tail)))).1 = 1) := by
  subst hr
  have e := rows_split P i hi
  have e2 : (P ++ C)[i] = P[i] := List.getElem_append_left hi
  rw [e2]
  have e3 : ∀ u, (P ++ C).set i u = (P.take i ++ u :: P.drop (i + 1)) ++ C := fun u => by rw [List.set_append_left _ _ hi, List.set_eq_take_append_cons_drop, if_pos hi]
  rw [e3]
  rw [e] at h
  exact weaker_aux h k'
theorem inward_aux {l : List UInt8} {A B C : List (List UInt8)} {r1 r2 : List UInt8} {qs : List (Bool × List Nat)} {cs : List (Nat × Nat)} (h : TextIs l (A ++ r1 :: r2 :: B) C qs cs) (h1 : r1.head? = some 101) (h2 : r2.head? = some 97) :
    (joinN ((A ++ r2 :: r1 :: B) ++ C)).length ≤ 2000 ∧ ((vkind l).1 = 2 → (vkind (joinN ((A ++ r2 :: r1 :: B) ++ C))).1 = 2) := by
  obtain ⟨qa, ⟨k1, xs⟩, ⟨k2, ys⟩, qb, g1, g2, eq0, h'⟩ := text_swap h
  have f1 := pref_first r1 _ g1
  have f2 := pref_first r2 _ g2
  have e1 : k1 = false := by
    rw [h1] at f1; cases k1
    · rfl
    · simp at f1
  have e2 : k2 = true := by
    rw [h2] at f2; cases k2
    · simp at f2
    · rfl
  subst e1 e2
  refine ⟨h'.len, fun hv => ?_⟩
  rw [vkind_text h] at hv
  have hn := h.nodup
  rw [eq0] at hn
  rw [vkind_text h', if_pos]
  refine truth_inward qa qb xs ys cs hn ?_
  rw [← eq0]
  by_cases ht : truthN qs cs = true
  · exact ht
  · rw [if_neg ht] at hv; cases hv
theorem inward_law {l : List UInt8} {P C : List (List UInt8)} {qs : List (Bool × List Nat)} {cs : List (Nat × Nat)} (h : TextIs l P C qs cs) (rows : List (List UInt8)) (hr : rows = P ++ C) (i : Nat) (hi : i + 1 < P.length) (hi2 : i + 1 < rows.length) (h1 : rows[i].head? = some 101) (h2 : rows[i + 1].head? = some 97) :
    (joinN ((rows.set i rows[i + 1]).set (i + 1) rows[i])).length ≤ 2000 ∧ ((vkind l).1 = 2 → (vkind (joinN ((rows.set i rows[i + 1]).set (i + 1) rows[i]))).1 = 2) := by
  subst hr
  have e2 : (P ++ C)[i] = P[i] := List.getElem_append_left (by omega)
  have e3 : (P ++ C)[i + 1] = P[i + 1] := List.getElem_append_left hi
  rw [e2] at h1
  rw [e3] at h2
  rw [e2, e3]
  have e : P = P.take i ++ P[i] :: P[i + 1] :: P.drop (i + 2) := by rw [List.getElem_cons_drop, List.getElem_cons_drop, List.take_append_drop]
  have e4 : (((P ++ C).set i P[i + 1]).set (i + 1) P[i]) = (P.take i ++ P[i + 1] :: P[i] :: P.drop (i + 2)) ++ C := by
    have hl : (P.take i).length = i := by rw [List.length_take]; omega
    generalize P[i] = r1 at e ⊢
    generalize P[i + 1] = r2 at e ⊢
    generalize P.take i = A at e hl ⊢
    generalize P.drop (i + 2) = B at e ⊢
    subst e hl
    simp
  rw [e4]
  rw [e] at h
  exact inward_aux h h1 h2
/-- Which byte a line of the prefix begins with. -/
theorem pref_head {l : List UInt8} {P C : List (List UInt8)} {qs : List (Bool × List Nat)} {cs : List (Nat × Nat)} (h : TextIs l P C qs cs) (rows : List (List UInt8)) (hr : rows = P ++ C) (i : Nat) (hi : i < P.length) (hi2 : i < rows.length) : ∃ xs, rows[i] = 97 :: xs ∨ rows[i] = 101 :: xs := by
  have := (weaker_law h rows hr i hi hi2 true).1
  cases hh : rows[i] with
  | nil => rw [hh] at this; simp at this
  | cons x xs =>
    rw [hh] at this
    refine ⟨xs, ?_⟩
    rcases this with e | e
    · injection e with e; exact Or.inl (by rw [e])
    · injection e with e; exact Or.inr (by rw [e])
end Go.Proofs.YtgipjjhkhfihpabDoor

namespace Go.Proofs.YtgipjjhkhfihpabDoor
open Go.RowKit

/-! ### inward -/
attribute [local go_sem] ba_get
set_option maxRecDepth 100000 in
set_option maxHeartbeats 3200000 in
theorem kinward_any (l : List UInt8) (a : Int) (w : World) (ht : TabAt w) (hll : l.length ≤ 8192) (ha1 : -9223372036854775808 ≤ a) (ha2 : a ≤ 9223372036854775807) :
    Calls Tryd.prog 11 #[.string ⟨l.toArray⟩, .int .i64 a] w fun e w' => e = .returned (.bool true) ∧ Below w.heap.size w w' := by
  obtain ⟨i0, hi, hz0, hz1, hz2⟩ := info_parts infoStr
  go_enter Tryd.func11, Tryd.ntmps11
  go_wp2_with fail
  refine (kkind_any l w ht).mono ?_
  rintro e u1 ⟨rfl, b1⟩
  generalize hvk : vkind l = vk at *
  have HVK := hide hvk
  clear hvk
  obtain ⟨k0, p0⟩ := vk
  dsimp only
  go_wp2_with fail
  refine (klines_any l u1 (by omega)).mono ?_
  rintro e u2 ⟨vl, rfl, hown, b2⟩
  have hB2 := b1.trans (b2.mono b1.size)
  by_cases hv : k0 = 0
  · have hv1 : ((k0 : Int) == 0) = true := by rw [beq_iff_eq]; omega
    have hv2 : (k0 == 0) = true := by rw [beq_iff_eq]; exact hv
    have hv3 : ((k0 : Int) != 0) = false := by rw [bne, hv1]; rfl
    obtain ⟨aL, cL, rfl⟩ := own_form hown
    clear hv
    go_wp2_with fail
    go_ret
    exact ⟨rfl, hB2⟩
  · obtain ⟨P, C, qs, cs, hT⟩ := text_vkind (l := l) (by rw [unhide HVK]; exact hv)
    have HT := hide hT
    have hv1 : ((k0 : Int) == 0) = false := by rw [beq_eq_false_iff_ne]; omega
    have hv2 : (k0 == 0) = false := by rw [beq_eq_false_iff_ne]; exact hv
    have hv3 : ((k0 : Int) != 0) = true := by rw [bne, hv1]; rfl
    obtain ⟨rows, hrows⟩ : ∃ X, X = P ++ C := ⟨_, rfl⟩
    have HR := hide hrows
    rw [lines_text hT, ← hrows] at hown
    obtain ⟨f1, f2⟩ := pref_rows_first hT
    have hjl : (joinN rows).length ≤ 2000 := by rw [hrows, ← hT.text]; exact hT.len
    have hge := joinN_ge rows
    have hpc : P.length ≤ rows.length := by rw [hrows, List.length_append]; omega
    clear hT hv hrows
    obtain ⟨aL, cL, rfl⟩ := own_form hown
    go_wp2_with fail
    refine (kclauses_rows _ rows P C (unhide HR) aL cL u2 hown f1 f2 (by omega)).mono ?_
    rintro e u3 ⟨rfl, b3⟩
    have hB3 := hB2.trans (b3.mono hB2.size)
    have HF1 := hide f1
    have HF2 := hide f2
    clear f1 f2
    by_cases hp0 : P.length < 2
    · have hd3 : decide ((P.length : Int) < 2) = true := decide_eq_true (by omega)
      have hd4 : decide (P.length < 2) = true := decide_eq_true hp0
      clear hp0
      go_wp2_with fail
      go_ret
      exact ⟨rfl, hB3⟩
    · have hd3 : decide ((P.length : Int) < 2) = false := decide_eq_false (by omega)
      have hd4 : decide (P.length < 2) = false := decide_eq_false hp0
      have hcl : ((P.length : Int) - 1) = ((P.length - 1 : Nat) : Int) := by omega
      obtain ⟨g, cap, hVe, hg1, hg2, hg3, hcell⟩ := own_pos (own_below hown b3) (by omega)
      injection hVe with hVe _ hV2
      subst hVe hV2
      have HO := hide (own_below hown b3)
      have HST := hide (strs_at (own_below hown b3))
      clear hcell
      go_wp2_with fail
      refine (kpick_eq a (P.length - 1) _ (by omega) (by omega) ha1 ha2).mono ?_
      rintro e u4 ⟨rfl, rfl⟩
      have hj := pickK_lt a (P.length - 1) (by omega)
      generalize hjj : pickK a (P.length - 1) = j at *
      clear hjj hcl
      have hjr : j + 1 < rows.length := by omega
      have hjr0 : j < rows.length := by omega
      have hnw0 := strs_news (unhide HST) 0 rows.length
      rw [List.drop_zero, List.take_length] at hnw0
      obtain ⟨xs, hxs⟩ := pref_head (unhide HT) rows (unhide HR) j (by omega) hjr0
      obtain ⟨ys, hys⟩ := pref_head (unhide HT) rows (unhide HR) (j + 1) (by omega) hjr
      have hx0 := unhide HST j hjr0
      have hy0 := unhide HST (j + 1) hjr
      have c97 : (((97 : UInt8).toNat : Int) == 97) = true := rfl
      have c971 : (((97 : UInt8).toNat : Int) == 101) = false := rfl
      have c101 : (((101 : UInt8).toNat : Int) == 101) = true := rfl
      have c1017 : (((101 : UInt8).toNat : Int) == 97) = false := rfl
      rcases hxs with hxs | hxs
      · rw [hxs] at hx0
        clear hxs hys hp0
        go_wp2_with fail
        go_ret
        exact ⟨rfl, hB3⟩
      · have hx0' := hx0
        rw [hxs] at hx0'
        rcases hys with hys | hys
        · have hy0' := hy0
          rw [hys] at hy0'
          have hlw := inward_law (unhide HT) rows (unhide HR) j (by omega) hjr (by rw [hxs]; rfl) (by rw [hys]; rfl)
          rw [unhide HVK] at hlw
          have HXS := hide hxs
          have HYS := hide hys
          have HX0 := hide hx0
          obtain ⟨rows2, hr2⟩ : ∃ X, X = (rows.set j rows[j + 1]).set (j + 1) rows[j] := ⟨_, rfl⟩
          rw [← hr2] at hlw
          have HR2 := hide hr2
          have HJ2 := hide hlw.1
          have HKEEP := hide hlw.2
          have HLEN2 : Hid (rows.length = rows2.length) := hide (by rw [hr2, List.length_set, List.length_set])
          clear hxs hys hx0 hy0 hlw hr2 hp0
          go_wp2_with (at_builtin; refine wpList_append_own _ rfl _ _ 31 rfl u4.heap.size 9 i0 (.string ⟨#[]⟩) 1 16 Tryd.underlying31 hi hz0 hz1 hz2 rfl (by decide) (.slice none 0 0) 0 [] rfl (World.ownsRow_nil _ _ _ _) ⟨g, 0, none⟩ rows.length _ (rows.map S) rfl (by simp) hnw0 (one_strs _) (by unfold maxLen; omega) (by omega) (Nat.le_refl _) ?_; intro v4 w4 hown4 hgrow4 hnn4; clear hnn4; have hB4 : Below u4.heap.size u4 w4 := below_grown (Below.refl _ _) hgrow4 (World.ownsRow_nil u4 u4.heap.size 9 1) (Nat.le_refl _) (Nat.le_refl _); clear hgrow4; rw [List.nil_append, Nat.zero_add] at hown4; obtain ⟨g4, c4, rfl, hg41, hg42, hg43, hcell4⟩ := own_pos hown4 (by omega); clear hcell4; have hst4 := strs_at hown4; have hsl4 := strs_at (own_below (unhide HO) hB4); have hm4 := hst4 j hjr0; have hn4 := hst4 (j + 1) hjr; generalize hra : rows[j] = ra at *; generalize hrb : rows[j + 1] = rb at *; clear hsl4 hst4; have hfz4 := hown4.frozenAt j; have hfz5 := hown4.frozenAt (j + 1); have hstd := hown4.stored j (S rb); have hB5 : Below u4.heap.size u4 (w4.setCell ⟨g4, j, none⟩ (S rb)) := below_grown hB4 (show w4.grownBy _ (Value.ownBlock (.slice (some ⟨g4, 0, none⟩) rows.length c4)) from hstd.2) hown4 (Nat.le_refl _) hB4.size; have hstd2 := hstd.1.stored (j + 1) (S ra); have hB5' : Below u4.heap.size u4 ((w4.setCell ⟨g4, j, none⟩ (S rb)).setCell ⟨g4, j + 1, none⟩ (S ra)) := below_grown hB5 (show (w4.setCell ⟨g4, j, none⟩ (S rb)).grownBy _ (Value.ownBlock (.slice (some ⟨g4, 0, none⟩) rows.length c4)) from hstd2.2) hstd.1 (Nat.le_refl _) hB5.size)
          have HOWN : Hid _ := hide hstd2.1
          rw [set_map, set_map, ← unhide HR2] at HOWN
          clear hstd hstd2 hown4 hB5
          generalize (w4.setCell ⟨g4, j, none⟩ (S rb)).setCell ⟨g4, j + 1, none⟩ (S ra) = w5 at *
          refine (kjoined_n u4.heap.size rows.length rows2 (unhide HLEN2) _ _ w5 (unhide HOWN) (by have := unhide HJ2; omega)).mono ?_
          rintro e u6 ⟨rfl, b6⟩
          have hB5 := hB3.trans (hB5'.mono hB3.size)
          have hB6 := hB5.trans (b6.mono hB5.size)
          clear HOWN
          go_wp2_with fail
          refine (kkind_any (joinN rows2) u6 (ht.later hB6)).mono ?_
          rintro e u7 ⟨rfl, b7⟩
          have hB7 := hB6.trans (b7.mono hB6.size)
          generalize vkind (joinN rows2) = vk7 at *
          obtain ⟨k7, p7⟩ := vk7
          dsimp only at HKEEP ⊢
          by_cases h02 : k0 = 2
          · have h72 : k7 = 2 := unhide HKEEP h02
            have hy1 : ((k0 : Int) == 2) = true := by rw [beq_iff_eq]; omega
            have hy2 : (k0 == 2) = true := by rw [beq_iff_eq]; omega
            have hy3 : ((k0 : Int) != 2) = false := by rw [bne, hy1]; rfl
            have hx1 : ((k7 : Int) == 2) = true := by rw [beq_iff_eq]; omega
            have hx2 : (k7 == 2) = true := by rw [beq_iff_eq]; omega
            clear h02 h72 HKEEP
            go_wp2_with fail
            go_ret
            exact ⟨rfl, hB7⟩
          · have hy1 : ((k0 : Int) == 2) = false := by rw [beq_eq_false_iff_ne]; omega
            have hy2 : (k0 == 2) = false := by rw [beq_eq_false_iff_ne]; omega
            have hy3 : ((k0 : Int) != 2) = true := by rw [bne, hy1]; rfl
            clear h02 HKEEP
            go_wp2_with fail
            go_ret
            exact ⟨rfl, hB7⟩
        · rw [hys] at hy0
          clear hxs hys hp0 hx0
          go_wp2_with fail
          go_ret
          exact ⟨rfl, hB3⟩
end Go.Proofs.YtgipjjhkhfihpabDoor

namespace Go.Proofs.YtgipjjhkhfihpabDoor
open Go.ChangeShapes Go.WideShapes Go.ChangeAt Go.ChangeMaps Go.RowKit

theorem i64_wf2 {x : Int} (h : (Lit.int .i64 x).wf = true) : -9223372036854775808 ≤ x ∧ x ≤ 9223372036854775807 := bounds_i64 h
theorem inward_met (os : Os) (args : Array Value) : laidMetH Tryd.prog Rows.inwardRow.laid ((World.doorLaid Tryd.prog 400 os).forCall (fun _ _ => 0) ⟨#[], args, []⟩).memory :=
  laidMetH_of_parts3 (fuel := 8) (laidMet_of_run' 8 (by kernel_rfl) (by kernel_rfl)) (by kernel_rfl) (by kernel_rfl)
theorem inward_tab {W : World} (h : laidMetH Tryd.prog Rows.inwardRow.laid W) : TabAt W := by
  have hf : (Rows.inwardRow.laid.filter fun x => x.2.handleName?.isSome) = [] := by rfl
  unfold laidMetH at h
  rw [hf] at h
  exact tab_of_third2 h
set_option maxRecDepth 100000 in
set_option maxHeartbeats 800000 in
theorem inward_any (l : List UInt8) (a : Int) (w : World) (ht : TabAt w) (ha1 : -9223372036854775808 ≤ a) (ha2 : a ≤ 9223372036854775807) :
    Calls Tryd.prog 5 #[.string ⟨l.toArray⟩, .int .i64 a] w fun e w' => e = .returned (.bool true) ∧ Below w.heap.size w w' := by
  by_cases hl : 8192 < l.length
  · have hd : decide ((8192 : Int) < (l.length : Int)) = true := decide_eq_true (by omega)
    have hd2 : decide (8192 < l.length) = true := decide_eq_true hl
    clear hl
    go_enter Tryd.func5, Tryd.ntmps5
    go_wp2_with fail
    go_ret
    exact ⟨rfl, Below.refl _ _⟩
  · have hd : decide ((8192 : Int) < (l.length : Int)) = false := decide_eq_false (by omega)
    have hd2 : decide (8192 < l.length) = false := decide_eq_false hl
    have HL : Hid (l.length ≤ 8192) := hide (by omega)
    clear hl
    go_enter Tryd.func5, Tryd.ntmps5
    go_wp2_with fail
    refine (anchored_any l w ht).mono ?_
    rintro e u1 ⟨rfl, b1⟩
    go_wp2_with fail
    refine (kinward_any l a u1 (ht.later b1) (unhide HL) ha1 ha2).mono ?_
    rintro e u2 ⟨rfl, b2⟩
    go_wp2_with fail
    go_ret
    exact ⟨rfl, b1.trans (b2.mono b1.size)⟩

set_option maxHeartbeats 1600000 in
set_option maxRecDepth 100000 in
theorem inward_lifted (os : Os) (started : os.Started) (H : Type) (enc : TypeId × Value → H) (F : Stop.Interp) :
    ReturnsInHanded {} Tryd.checked os 5 .any ((OpenSpec.ofChange Rows.inwardSpec).preRow enc Tryd.prog Tryd.f5 Rows.inwardRow.domain false Rows.inwardRow.laid) (((OpenSpec.ofChange Rows.inwardSpec).at F).post enc Tryd.prog Tryd.f5 false true false false) := by
  obtain ⟨places, hx⟩ : ∃ places, DataW.whole enc Tryd.prog ((World.doorLaid Tryd.prog 400 os).forCall (fun _ _ => 0) ⟨#[], #[.string ⟨#[]⟩, .int .i64 0], []⟩).memory Tryd.f5.params.toList Rows.inwardSpec.vars false #[Value.string ⟨#[]⟩, Value.int .i64 0].toList 8 = some ([.lit (.string []), .lit (.int .i64 0)], [], places) := ⟨[], by kernel_rfl⟩
  refine returnsInHanded_of_row (C := Tryd.checked) (s := OpenSpec.ofChange Rows.inwardSpec) (show ownKnob Tryd.prog.godebug = none by kernel_rfl) started (by kernel_rfl) Tryd.func5
    (witness_row_at (enc := enc) (C := Tryd.checked) false (World.doorLaid Tryd.prog 400 os) #[.string ⟨#[]⟩, .int .i64 0] rfl (by kernel_rfl) (by kernel_rfl) (by kernel_rfl)
      (OpenSpec.preRow_of_cond 8 hx (by kernel_rfl) (fun k hk => by cases hk) (by kernel_rfl) (inward_met os _))) ?_
  intro W base args ds gs before hval0 hW _ _ _ hL _ _
  have hval : ∀ (j : Nat) t v, Tryd.f5.params[j]? = some t → args[j]? = some v → Value.okWide Tryd.prog W .any base t v := hval0
  have hW' := hW
  obtain ⟨p, q, hA0, hV, rfl, hfz, hnd⟩ := hW
  have hA : DataW.TrodAll enc Tryd.prog W 0 (fun _ => true) true Tryd.f5.params.toList args.toList ds p := hA0
  rw [Tryd.params5] at hA hval
  obtain ⟨v0, vs0, d0, ds0, p0, q0, hargs0, rfl, rfl, h0, r0⟩ := trodAll_cons hA
  obtain ⟨v1, vs1, d1, ds1, p1, q1, hargs1, rfl, rfl, h1, r1⟩ := trodAll_cons r0
  obtain ⟨rfl, rfl, rfl⟩ := trodAll_nil r1
  obtain rfl : args = #[v0, v1] := by cases args; simp_all
  obtain ⟨rfl, rfl⟩ := trodVars_none hV
  obtain ⟨s0, rfl, rfl, rfl, w0⟩ := open_string Tryd.underlying9 (hval 0 9 v0 rfl rfl) h0
  obtain ⟨i1, rfl, rfl, rfl, w1⟩ := open_int Tryd.underlying3 (hval 1 3 v1 rfl rfl) h1
  have hb1 := i64_wf2 w1
  clear hA0 hval0
  simp only [List.append_nil] at hW'
  obtain ⟨l0, hl0⟩ : ∃ l : List UInt8, s0 = ⟨l.toArray⟩ := ⟨s0.data.toList, by simp⟩
  subst hl0
  refine (inward_any l0 i1 W (inward_tab hL) hb1.1 hb1.2).mono fun e W' ⟨he, bel⟩ => ?_
  subst he
  exact ⟨_, rfl, _, _, _, [], _, [], hW', trodAll_mk1 (shut_bool Tryd.underlying4 _), trodAll_mk2 (shut_string Tryd.underlying9 w0) (shut_int Tryd.underlying3 w1), rfl, bel.frame _, fun h => by cases h⟩

theorem inward_said : Rows.InwardSaid :=
  OpenClaim.holds_of_cond 5 Tryd.f5 rfl rfl rfl rfl rfl rfl rfl ⟨rfl, rfl, rfl, rfl, rfl⟩ rfl rfl rfl rfl rfl (by kernel_rfl) Tryd.func5 (by kernel_rfl)
    (of_decide_eq_true (by kernel_rfl)) (by unfold Func.isWrapper; first | (rw [if_pos (by decide +kernel)]; kernel_rfl) | (rw [if_neg (by decide +kernel)]; exact ⟨rfl, rfl⟩))
    (fun os started H enc _ F => by rw [OpenClaim.pre_eq_preRow]; exact inward_lifted os started H enc F)
/-- No parameter wants a stand-in; the program's own looks are off. -/
theorem inward_plain (f : FuncId) (fn : Func) (hf : Tryd.pinned.checked.prog.funcNamed "duel/duelkeep.Inward" = some f) (hfn : Tryd.pinned.checked.prog.funcs[f]? = some fn) :
    false = Tryd.pinned.checked.prog.looks [] ∧ ∀ (j : Nat) t, fn.params[j]? = some t → Tryd.pinned.checked.prog.wantsStandIn t = false := by
  obtain rfl : f = 5 := Option.some.inj ((show Tryd.prog.funcNamed "duel/duelkeep.Inward" = some 5 by kernel_rfl).symm.trans hf) |>.symm
  obtain rfl : fn = Tryd.f5 := (Option.some.inj (Tryd.func5.symm.trans hfn)).symm
  refine ⟨by kernel_rfl, fun j t ht => ?_⟩
  rw [Tryd.params5] at ht
  have h2 : t = 9 ∨ t = 3 := by
    have := Array.mem_of_getElem? ht
    simp at this
    first
      | exact this
      | omega
      | (rcases this with h | h | h <;> simp [h])
  rcases h2 with rfl | rfl
  · exact (show Tryd.prog.wantsStandIn 9 = false by kernel_rfl)
  · exact (show Tryd.prog.wantsStandIn 3 = false by kernel_rfl)
theorem inward_holds : Rows.InwardCardSaid :=
  Claim7.holds_tied_plain_at .later [] _ _ _ _ inward_said (fun _ h => by cases h) (by kernel_rfl) (fun _ h => by cases h) inward_row_tie rfl ⟨rfl, rfl⟩ (by kernel_rfl) rfl inward_plain (by kernel_rfl)
#print axioms inward_holds
end Go.Proofs.YtgipjjhkhfihpabDoor
