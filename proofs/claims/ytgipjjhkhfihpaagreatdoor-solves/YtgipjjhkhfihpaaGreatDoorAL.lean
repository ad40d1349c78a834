import Derived.Test.YtgipjjhkhfihpaaGreatDoorAB
namespace Go.Proofs.YtgipjjhkhfihpaaGreatDoor
open Go.RowKit

/-- What lies in memory of a formula of duelref's, at block b, its blocks from lo on. -/
structure RefAt (lo : Nat) (w : World) (b : Nat) (F : Form) : Prop where
  lo_le : lo ≤ b
  at_ : ∃ vO vE vC, w.heap[b]? = some (.cells #[vO, .int .i64 (F.all : Int), vE, vC] 92 (0, 0)) ∧
    w.ownsRow lo 3 1 vO F.order.length (ints F.order) ∧ w.ownsRow lo 3 1 vE F.ends.length (ints F.ends) ∧ w.ownsRow lo 121 2 vC F.cl.length (pairs F.cl)

def ReadPost (l : List UInt8) (w : World) (e : Ending) (w' : World) : Prop :=
  Below w.heap.size w w' ∧
  match readSpec l with
  | .inl (x, i) => e = .returned (.tuple #[.pointer none, .int .i64 (x : Int), .int .i64 (i : Int)])
  | .inr F => ∃ b, e = .returned (.tuple #[.pointer (some ⟨b, 0, none⟩), .int .i64 0, .int .i64 0]) ∧ RefAt w.heap.size w' b F

theorem post_row (l : List UInt8) (w w' : World) (e : Ending) (i : Nat) (m : Int) (hm : m = (i : Int)) (hl : l.length ≤ 2000) (hb : Below w.heap.size w w') (h : readRows rs0 0 (cutAt 10 l).dropLast = .inr i)
    (he : e = .returned (.tuple #[.pointer none, .int .i64 2, .int .i64 m])) : ReadPost l w e w' := by
  subst hm
  refine ⟨hb, ?_⟩
  unfold readSpec
  rw [if_neg (by omega), h]
  exact he

theorem RInv.isBelow {w w1 wr : World} {bf : Nat} {st : RS} {vT vK vC : Value} (h : RInv w1 bf st vT vK vC wr) (hb : Below w.heap.size w w1) (hbf : w1.heap.size = bf) : Below w.heap.size w wr :=
  hb.trans (h.below.mono (hbf ▸ hb.size))

set_option maxRecDepth 100000 in
set_option maxHeartbeats 4000000 in
theorem read_any (l : List UInt8) (w : World) (hl : l.length ≤ 2000) :
    Calls Tryz.prog 52 #[.string ⟨l.toArray⟩] w fun e w' => ReadPost l w e w' := by
  go_enter Tryz.func52, Tryz.ntmps52
  go_wp2_with fail
  refine (cut_any l 10 w (by omega)).mono ?_
  rintro e w1 ⟨v, rfl, hown, hb⟩
  obtain ⟨g, cap, rfl, hg, hg', hcap, hcell⟩ := own_pos hown (by simp [cutAt])
  have hne : 0 < (cutAt 10 l).length := by simp [cutAt]
  have hlen : (cutAt 10 l).length ≤ 2001 := by have := cutTo_size 10 l; simp [cutAt]; omega
  have HC := hide hcell; clear hcell
  go_wp2_with fail
  go_loopg [8, 9, 10, 11, 12] ((cutAt 10 l).length) (fun q told kinds seen used i wr => ∃ (k : Nat) (st : RS) (vC : Value), i = .int .i64 k ∧ k + q = (cutAt 10 l).length ∧ 1 ≤ q ∧ seen = .int .i64 st.seen ∧ used = .int .i64 st.used ∧ st.seen < 512 ∧ st.used < 512 ∧ st.told.length ≤ 2001 * k ∧ st.cl.length ≤ k ∧ st.kinds.length = st.told.length ∧ 
      RInv w1 w1.heap.size st told kinds vC wr ∧ readRows rs0 0 (cutAt 10 l).dropLast = readRows st k ((cutAt 10 l).dropLast.drop k))
  case atStart =>
    refine ⟨0, rs0, .slice none 0 0, rfl, by omega, by omega, rfl, rfl, by decide, by decide, by simp [rs0], by simp [rs0], rfl, ?_, by simp⟩
    exact ⟨(Below.refl _ _).alloc (Nat.le_refl _) _, heap_alloc_new _ _, World.ownsRow_nil _ _ _ _, World.ownsRow_nil _ _ _ _, World.ownsRow_nil _ _ _ _⟩
  case round =>
    obtain ⟨k, st, vC, rfl, hkq, hq1, rfl, rfl, hs1, hs2, ht1, hc1, hkt, hI, hrr⟩ := hrel
    obtain ⟨wo, rfl⟩ : ∃ wo, wo = wr := ⟨_, rfl⟩
    obtain ⟨go, rfl⟩ : ∃ go, go = gk := ⟨_, rfl⟩
    by_cases hlt : 1 < go
    · have hkl : k < (cutAt 10 l).length := by omega
      obtain ⟨row, hrow⟩ : ∃ row, (cutAt 10 l)[k]? = some row := ⟨_, List.getElem?_eq_getElem hkl⟩
      have hcr : wo.cell? ⟨g, k, none⟩ = some (S row) := by
        rw [hI.below.cell (p := ⟨g, k, none⟩) hg']
        exact unhide HC k _ (by rw [List.getElem?_map, hrow]; rfl)
      have hrl : row.length ≤ 2000 := by
        have := cutAt_len 10 l row (List.mem_of_getElem? hrow); omega
      rw [readRows_drop _ k row hrow (by omega)] at hrr
      have HF : Hid ((rowStep st row).2 = false → readRows rs0 0 (cutAt 10 l).dropLast = .inr (k + 1)) := hide (fun h => by rw [hrr, readRows, if_neg (by simp [h])])
      have HO : Hid ((rowStep st row).2 = true → readRows rs0 0 (cutAt 10 l).dropLast = readRows (rowStep st row).1 (k + 1) ((cutAt 10 l).dropLast.drop (k + 1))) := hide (fun h => by rw [hrr, readRows, if_pos h])
      clear hrr hrow
      have hdk : decide ((k : Int) < ((cutAt 10 l).length : Int) - 1) = true := by simp; omega
      go_wp2_with fail
      refine (cut_any row 32 wo (by omega)).mono ?_
      rintro e w2 ⟨v2, rfl, hown2, hb2⟩
      have hwl : (cutAt 32 row).length ≤ 2001 := by have := cutTo_size 32 row; simp [cutAt]; omega
      obtain ⟨hd, tl, hws⟩ : ∃ hd tl, cutAt 32 row = hd :: tl := by
        cases h : cutAt 32 row with
        | nil => simp [cutAt] at h
        | cons a b => exact ⟨a, b, rfl⟩
      rw [hws] at hown2 hwl
      have HS := hide hws; clear hws
      obtain ⟨g2, cap2, rfl, hg2, hg2', hcap2, hcell2⟩ := own_pos hown2 (by simp)
      have hc20 : w2.cell? ⟨g2, 0, none⟩ = some (S hd) := hcell2 0 _ rfl
      have hI2 := hI.later hb2
      have hb2s := hb2.size
      have HC2 := hide hcell2; clear hcell2
      simp only [List.length_cons] at hwl hcap2 ⊢
      by_cases hc : hd = [99]
      · subst hc
        clear hown2
        have HRS := hide (rowStep_c st row tl (unhide HS))
        go_wp2_with fail
        go_loopg [14, 16] (tl.length) (fun q ok i wx => ∃ j : Nat, i = .int .i64 (j + 1) ∧ j + q = tl.length ∧ ok = .bool (litsTo (tl.take j)).2 ∧ Below w2.heap.size w2 wx ∧
          wx.heap[w2.heap.size]? = some (.cells #[.int .i64 ((litsTo (tl.take j)).1.1 : Int), .int .i64 ((litsTo (tl.take j)).1.2 : Int)] 121 (0, 0)))
        case atStart =>
          refine ⟨0, rfl, by omega, rfl, (Below.refl _ _).alloc (Nat.le_refl _) _, ?_⟩
          exact heap_alloc_new _ _
        case round =>
          obtain ⟨j, rfl, hjq, rfl, hb3, hbc⟩ := hrel
          have hll := litsTo_lt (tl.take j)
          by_cases hj : j < tl.length
          · have hcj : wr.cell? ⟨g2, j + 1, none⟩ = some (S tl[j]) := by
              rw [hb3.cell (p := ⟨g2, j + 1, none⟩) hg2']
              exact unhide HC2 (j + 1) _ (by simp [hj])
            have HT := hide (litsTo_take tl j hj)
            generalize hLT : litsTo (tl.take j) = LT at *
            obtain ⟨⟨p, n⟩, ok⟩ := LT
            go_wp2_with fail
            refine (literal_any tl[j] w2.heap.size p n wr hbc hll.1 hll.2).mono ?_
            rintro e w3 ⟨rfl, hbc3, ho3⟩
            have hb4 : Below w2.heap.size w2 w3 := hb3.trans (ho3.below hb3.size (fun k hk h => by omega))
            cases ok with
            | true =>
              go_wp2_with fail
              go_roundg (gk - 1)
              case measure => omega
              case rel =>
                refine ⟨j + 1, by go_num, by omega, ?_, hb4, ?_⟩
                · rw [unhide HT]; simp
                · rw [unhide HT]; exact hbc3
            | false =>
              go_wp2_with fail
              go_roundg (gk - 1)
              case measure => omega
              case rel =>
                refine ⟨j + 1, by go_num, by omega, ?_, hb4, ?_⟩
                · rw [unhide HT]; simp
                · rw [unhide HT]; exact hbc3
          · have hjl : j = tl.length := by omega
            subst hjl
            have hI3 := hI2.later hb3
            have hbf : w1.heap.size < w2.heap.size := blk_lt hI2.fb
            have hbw : w2.heap.size < wr.heap.size := blk_lt hbc
            have hbfw : w1.heap.size < wr.heap.size := by omega
            have HTL : Hid (litsTo (tl.take tl.length) = litsTo tl) := hide (by rw [List.take_length])
            generalize hLT : litsTo (tl.take tl.length) = LT at *
            obtain ⟨⟨p, n⟩, ok⟩ := LT
            have hpn : p < 512 := hll.1
            have hnn' : n < 512 := hll.2
            have hf3 : wr.cell? ⟨w1.heap.size, 3, none⟩ = some vC := by rw [blk_cell hI3.fb]; rfl
            have hfz := blk_free hI3.fb 3
            have hp0 : wr.cell? ⟨w2.heap.size, 0, none⟩ = some (.int .i64 p) := by rw [blk_cell hbc]; rfl
            have hp1 : wr.cell? ⟨w2.heap.size, 1, none⟩ = some (.int .i64 n) := by rw [blk_cell hbc]; rfl
            have hapc : vC.ownBlock ≠ some w2.heap.size := fun e => by have := hI2.oC.lt _ e; omega
            have hor1 : bits .or .i64 (st.used : Int) (p : Int) = ((st.used ||| p : Nat) : Int) := i64_or _ _ (by omega) (by omega)
            have hlt1 : st.used ||| p < 512 := or_lt _ _ hs2 hpn
            have hor2 : bits .or .i64 ((st.used ||| p : Nat) : Int) (n : Int) = ((st.used ||| p ||| n : Nat) : Int) := i64_or _ _ (by omega) (by omega)
            have hlt2 : st.used ||| p ||| n < 512 := or_lt _ _ hlt1 hnn'
            obtain ⟨i1, hi1, hz10, hz11, hz12⟩ := info_parts Tryz.info121
            go_wp2_with fail
            go_region_law (refine step_append_own rfl (.tmp 71) (.tmp 73) 90 rfl (w1.heap.size + 1) 121 i1 (.agg #[.int .i64 0, .int .i64 0]) 2 16 Tryz.underlying90 hi1 hz10 hz11 hz12 rfl (by decide) vC st.cl.length (pairs st.cl) (hI3.oC.alloc _).drew rfl ⟨wr.heap.size, 0, none⟩ 1 1 [.int .i64 p, .int .i64 n] rfl rfl (new_cells wr [.int .i64 p, .int .i64 n] 121) (by simp [Value.oneCell']) (by unfold maxLen; omega) (by omega) (by simp; omega) ?_; intro v' w' hown' hgrow hnn; have hJ := hI3.push_clause (((Below.refl _ wr).alloc (Nat.le_refl _) _).drew) hgrow hown' (st.used ||| p ||| n); obtain ⟨g3, cap3, rfl, hg3, hg3', hcap3, hcell3⟩ := own_pos hown' (by omega); obtain ⟨hfb', hbc'⟩ := clause_grown hI3 (((Below.refl _ wr).alloc (Nat.le_refl _) _).drew) hgrow hbc hapc; have hq3 : w'.cell? ⟨w1.heap.size, 3, none⟩ = some vC := (by rw [blk_cell hfb']; rfl); have hqz := blk_free hfb' 3; have hq0 : w'.cell? ⟨w2.heap.size, 0, none⟩ = some (.int .i64 p) := (by rw [blk_cell hbc']; rfl); have hq1 : w'.cell? ⟨w2.heap.size, 1, none⟩ = some (.int .i64 n) := (by rw [blk_cell hbc']; rfl))
            all_goals
              cases ok with
              | false =>
                go_wp2_with fail
                go_ret3
                exact post_row l w _ _ (k + 1) _ (by omega) hl (hJ.isBelow hb rfl) (unhide HF (by rw [unhide HRS, ← unhide HTL])) rfl
              | true =>
                go_wp2_with fail
                go_roundg (go - 1)
                case measure => omega
                case rel =>
                  refine ⟨k + 1, { st with cl := st.cl ++ [(p, n)], used := st.used ||| p ||| n }, _, by go_num, by omega, by omega, rfl, ?_, hs1, hlt2, by simp; omega, by simp; omega, hkt, hJ, ?_⟩
                  · first | rfl | rw [hor1, hor2]
                  · rw [unhide HO (by rw [unhide HRS, ← unhide HTL]), unhide HRS, ← unhide HTL]
      · have hcb : (hd == [99]) = false := by simp [hc]
        have hfC : w2.cell? ⟨w1.heap.size, 3, none⟩ = some vC := by rw [blk_cell hI2.fb]; rfl
        obtain ⟨aC, cC, rfl⟩ := own_form hI2.oC
        by_cases hn : (hd = [101] ∨ hd = [97]) ∧ st.cl = [] ∧ tl ≠ []
        · obtain ⟨hh, hcl, htl⟩ := hn
          have HRS := hide (rowStep_p st row hd tl (unhide HS) hh hcl htl)
          have hcl0 : ((st.cl.length : Int) == 0) = true := by rw [hcl]; rfl
          have htl1 : decide ((1 : Int) < (tl.length : Int) + 1) = true := by
            cases tl with
            | nil => exact absurd rfl htl
            | cons a b => simp; omega
          have HCL := hide hcl; clear hcl htl
          obtain ⟨ua, hua⟩ : ∃ ua, (hd == [97]) = ua := ⟨_, rfl⟩
          have hea : (hd == [101]) = !ua := by rcases hh with rfl | rfl <;> (subst hua; decide)
          rw [hua] at HRS
          clear hh hc
          obtain ⟨i3, hi3, hz30, hz31, hz32⟩ := info_parts Tryz.info3
          obtain ⟨i4, hi4, hz40, hz41, hz42⟩ := info_parts Tryz.info4
          cases ua
          all_goals
            go_wp2_with fail
            go_loopg [8, 9, 10, 14, 18] (tl.length) (fun q told kinds seen ok i wx => ∃ j : Nat, i = .int .i64 (j + 1) ∧ j + q = tl.length ∧ ok = .bool (varsTo (hd == [97]) st (tl.take j)).ok ∧ seen = .int .i64 ((varsTo (hd == [97]) st (tl.take j)).seen : Int) ∧
              wx.ownsRow wo.heap.size 9 1 (.slice (some ⟨g2, 0, none⟩) (tl.length + 1) cap2) (tl.length + 1) ((hd :: tl).map S) ∧ 
              RInv w1 w1.heap.size { st with told := (varsTo (hd == [97]) st (tl.take j)).told, kinds := (varsTo (hd == [97]) st (tl.take j)).kinds, seen := (varsTo (hd == [97]) st (tl.take j)).seen } told kinds (.slice aC st.cl.length cC) wx)
            case atStart => exact ⟨0, rfl, by omega, rfl, rfl, hown2, hI2⟩
            case round =>
              obtain ⟨j, rfl, hjq, rfl, rfl, how, hIx⟩ := hrel
              obtain ⟨hv1, hv2, hv3⟩ := varsTo_bd (hd == [97]) st (tl.take j) hs1 hkt
              rw [List.length_take] at hv2 hv3
              by_cases hj : j < tl.length
              · have hcj : wr.cell? ⟨g2, j + 1, none⟩ = some (S tl[j]) := by
                  rw [how.cellAt (j + 1) (by omega)]; simp [hj]
                have HT := hide (varsTo_take (hd == [97]) st tl j hj)
                rw [hua] at hv1 hv2 hv3 HT hIx ⊢
                generalize hLT : varsTo _ st (tl.take j) = LT at *
                obtain ⟨pt, pk, ps, pok⟩ := LT
                obtain ⟨d0, d1⟩ := dig_bd tl[j]
                obtain ⟨dn, hdn⟩ := Int.eq_ofNat_of_zero_le d0
                have HVS := hide (varStep_eq (hd == [97]) ⟨pt, pk, ps, pok⟩ tl[j] dn hdn)
                rw [hua] at HVS
                dsimp only at hv1 hv2 hv3 HVS hIx
                have hd8 : dn ≤ 8 := by omega
                have hor : bits .or .i64 (ps : Int) (wrap64 (2 ^ dn)) = ((ps ||| 2 ^ dn : Nat) : Int) := by
                  have := or_bit ps hv1 (dn : Int) (by omega) (by omega)
                  rwa [Int.toNat_natCast] at this
                have hpl : pt.length ≤ 2001 * k + 2001 := by omega
                have hkl' : pk.length ≤ 2001 * k + 2001 := by omega
                have hk2001 : k ≤ 2001 := by omega
                go_wp2_with fail
                refine (digit_any tl[j] wr).mono ?_
                rintro e w3 ⟨rfl, hb3⟩
                rw [hdn]
                clear hdn d0 d1
                have hIy := hIx.later hb3
                have howy := own_below how hb3
                have hc30 : w3.cell? ⟨g2, 0, none⟩ = some (S hd) := by rw [howy.cellAt 0 (by omega)]; rfl
                have hbs3 : w1.heap.size + 1 ≤ w3.heap.size := blk_lt hIy.fb
                have hex : ∃ b0 b1 : Bool, ((dn : Int) == 0) = b0 ∧ (bits .and .i64 ((ps : Int) / 2 ^ dn) 1 == 1) = b1 ∧ (decide (dn = 0 ∨ ps.testBit dn = true)) = (b0 || b1) := by
                  refine ⟨_, _, rfl, rfl, ?_⟩
                  rw [shr_bit_eq ps dn hv1 hd8]
                  by_cases h : dn = 0 <;> simp [h]
                obtain ⟨b0, b1, hq0, hq1, hq2⟩ := hex
                have HQ := hide hq2; clear hq2
                cases b0 <;> cases b1
                all_goals
                  go_wp2_with (first | (at_builtin; refine wpList_append_new rfl (.tmp 132) (.tmp 134) 25 rfl (w1.heap.size + 1) i3 (.int .i64 0) 1 8 Tryz.underlying25 hi3 hz30 hz31 hz32 rfl (by decide) _ _ _ hIy.oT rfl rfl rfl (by simp [Value.oneCell']) (by unfold maxLen; simp; omega) (by simp; omega) hbs3 ?_; intro v4 w4 hown4 hgrow4 hnn4; have hI4 := hIy.push_told (Below.refl _ _) hgrow4 hown4 (ps ||| 2 ^ dn); have how4 := own_kept howy (Below.refl _ _) hIy.oT hgrow4 (by decide); have hc40 : w4.cell? ⟨g2, 0, none⟩ = some (S hd) := (by rw [how4.cellAt 0 (by omega)]; rfl); have hbs4 : w1.heap.size + 1 ≤ w4.heap.size := blk_lt hI4.fb) | (at_builtin; refine wpList_append_new rfl (.tmp 136) (.tmp 141) 154 rfl (w1.heap.size + 1) i4 (.bool false) 1 1 Tryz.underlying154 hi4 hz40 hz41 hz42 rfl (by decide) _ _ _ hI4.oK rfl rfl rfl (by simp [Value.oneCell']) (by unfold maxLen; simp; omega) (by simp; omega) hbs4 ?_; intro v5 w5 hown5 hgrow5 hnn5; have hI5 := hI4.push_kind (Below.refl _ _) hgrow5 hown5; have how5 := own_kept how4 (Below.refl _ _) hI4.oK hgrow5 (by decide)))
                  go_roundg (gk - 1)
                  case measure => omega
                  case rel =>
                    refine ⟨j + 1, by go_num, by omega, ?_, ?_, how5, ?_⟩
                    · rw [hua, unhide HT, unhide HVS]
                      first | rw [if_neg (of_decide_eq_false (unhide HQ))] | rw [if_pos (of_decide_eq_true (unhide HQ))]
                    · rw [hua, unhide HT, unhide HVS]
                    · rw [hua, unhide HT, unhide HVS]; exact hI5
              · have hjl : j = tl.length := by omega
                subst hjl
                have HTL : Hid (varsTo (hd == [97]) st (tl.take tl.length) = varsTo (hd == [97]) st tl) := hide (by rw [List.take_length])
                rw [hua] at hv1 hv2 hv3 HTL hIx ⊢
                generalize hLT : varsTo _ st (tl.take tl.length) = LT at *
                obtain ⟨pt, pk, ps, pok⟩ := LT
                dsimp only at hv1 hv2 hv3 hIx
                cases pok with
                | false =>
                  go_wp2_with fail
                  go_ret3
                  exact post_row l w _ _ (k + 1) _ (by omega) hl (hIx.isBelow hb rfl) (unhide HF (by rw [unhide HRS, ← unhide HTL])) rfl
                | true =>
                  go_wp2_with fail
                  go_roundg (go - 1)
                  case measure => omega
                  case rel =>
                    refine ⟨k + 1, { st with told := pt, kinds := pk, seen := ps }, _, by go_num, by omega, by omega, rfl, rfl, hv1, hs2, by dsimp only; omega, by dsimp only; omega, by dsimp only; omega, hIx, ?_⟩
                    rw [unhide HO (by rw [unhide HRS, ← unhide HTL]), unhide HRS, ← unhide HTL]
        · have HN := hide (rowStep_n st row hd tl (unhide HS) hc hn)
          have hex : ∃ b1 b2 b3 b4 : Bool, (hd == [101]) = b1 ∧ (hd == [97]) = b2 ∧ ((st.cl.length : Int) == 0) = b3 ∧ decide ((1 : Int) < (tl.length : Int) + 1) = b4 ∧ ((b1 || b2) && b3 && b4) = false := by
            refine ⟨_, _, _, _, rfl, rfl, rfl, rfl, ?_⟩
            cases hq : ((hd == [101] || hd == [97]) && ((st.cl.length : Int) == 0) && decide ((1 : Int) < (tl.length : Int) + 1)) with
            | false => rfl
            | true =>
              exfalso; apply hn
              simp at hq
              refine ⟨hq.1.1, hq.1.2, ?_⟩
              intro e; subst e; simp at hq
          obtain ⟨b1, b2, b3, b4, h1, h2, h3, h4, h5⟩ := hex
          clear hn hc
          cases b1 <;> cases b2 <;> cases b3 <;> cases b4 <;> first | (exfalso; revert h5; decide) | skip
          all_goals clear h5
          all_goals go_wp2_with fail
          all_goals go_ret3
          all_goals exact post_row l w _ _ (k + 1) _ (by omega) hl (hI2.isBelow hb rfl) (unhide HF (unhide HN)) rfl
    · have hgo : go = 1 := by omega
      subst hgo
      have hk1 : k + 1 = (cutAt 10 l).length := by omega
      obtain ⟨last, hlast⟩ : ∃ last, (cutAt 10 l)[k]? = some last := ⟨_, List.getElem?_eq_getElem (by omega)⟩
      have hcl : wo.cell? ⟨g, (cutAt 10 l).length - 1, none⟩ = some (S last) := by
        rw [hI.below.cell (p := ⟨g, (cutAt 10 l).length - 1, none⟩) hg', show (cutAt 10 l).length - 1 = k from by omega]
        exact unhide HC k _ (by rw [List.getElem?_map, hlast]; rfl)
      have HL : Hid ((cutAt 10 l).getLast? = some last) := hide (by rw [List.getLast?_eq_getElem?, show (cutAt 10 l).length - 1 = k from by omega, hlast])
      have hdrop : (cutAt 10 l).dropLast.drop k = [] := by simp; omega
      rw [hdrop] at hrr
      have HRR : Hid (readRows rs0 0 (cutAt 10 l).dropLast = .inl st) := hide (by rw [hrr]; rfl)
      clear hrr hlast hdrop
      have hdk : decide ((k : Int) < ((cutAt 10 l).length : Int) - 1) = false := by simp; omega
      have hfC : wo.cell? ⟨w1.heap.size, 3, none⟩ = some vC := by rw [blk_cell hI.fb]; rfl
      obtain ⟨aC, cC, rfl⟩ := own_form hI.oC
      cases last with
      | cons c r =>
        go_wp2_with fail
        go_ret3
        refine ⟨hI.isBelow hb rfl, ?_⟩
        unfold readSpec
        rw [if_neg (by omega), unhide HRR]
        simp only [unhide HL]
        rw [if_pos (by simp)]
        exact congrArg (fun m : Int => Ending.returned (.tuple #[.pointer none, .int .i64 2, .int .i64 m])) (by omega)
      | nil =>
        by_cases h24 : 24 < st.cl.length
        · have hd24 : decide ((24 : Int) < (st.cl.length : Int)) = true := by simp; omega
          go_wp2_with fail
          go_ret3
          refine ⟨hI.isBelow hb rfl, ?_⟩
          unfold readSpec
          rw [if_neg (by omega), unhide HRR]
          simp only [unhide HL]
          rw [if_neg (by simp), if_pos h24]
          rfl
        · have hd24 : decide ((24 : Int) < (st.cl.length : Int)) = false := by simp; omega
          have HP : Hid (readSpec l = .inr (finish st)) := hide (by
            unfold readSpec
            rw [if_neg (by omega), unhide HRR]
            simp only [unhide HL]
            rw [if_neg (by simp), if_neg h24])
          have hF0 := FInv.of hI
          have HKT := hide hkt; clear hkt
          obtain ⟨i3, hi3, hz30, hz31, hz32⟩ := info_parts Tryz.info3
          go_wp2_with fail
          go_loopg [20] 9 (fun q i wx => ∃ (j : Nat) (vO : Value), i = .int .i64 (j + 1) ∧ j + q = 9 ∧ 1 ≤ q ∧ FInv w1 w1.heap.size st (freeTo st j) 0 [] u8 u9 (.slice aC st.cl.length cC) vO (.slice none 0 0) wx)
          case atStart => exact ⟨0, _, rfl, by omega, by omega, hF0⟩
          case round =>
            obtain ⟨j, vO, rfl, hjq, hq1', hF⟩ := hrel
            have hfl := freeTo_len st j
            by_cases hj : j < 8
            · have hs0 : wr.cell? ⟨w1.heap.size, 0, none⟩ = some vO := by rw [blk_cell hF.fb]; rfl
              have hbs : w1.heap.size + 1 ≤ wr.heap.size := blk_lt hF.fb
              have hfz := blk_free hF.fb 0
              have hd8 : decide ((j : Int) + 1 ≤ 8) = true := by simp; omega
              have hex : ∃ b0 b1 : Bool, (bits .and .i64 ((st.used : Int) / 2 ^ (j + 1)) 1 == 1) = b0 ∧ (bits .and .i64 ((st.seen : Int) / 2 ^ (j + 1)) 1 == 0) = !b1 ∧ st.used.testBit (j + 1) = b0 ∧ st.seen.testBit (j + 1) = b1 := by
                refine ⟨_, _, shr_bit_eq st.used (j + 1) hs2 (by omega), ?_, rfl, rfl⟩
                rw [shr_bit st.seen (j + 1) hs1 (by omega)]
                cases st.seen.testBit (j + 1) <;> rfl
              obtain ⟨b0, b1, hx0, hx1, hx2, hx3⟩ := hex
              have HX : Hid (freeTo st (j + 1) = freeTo st j ++ (if b0 && !b1 then [j + 1] else [])) := hide (by rw [freeTo_succ, hx2, hx3])
              clear hx2 hx3
              have hj1 : ((j : Int) + 1) = ((j + 1 : Nat) : Int) := by omega
              have HJ := hide hj1; clear hj1
              cases b0 <;> cases b1
              all_goals
                go_wp2_with (at_builtin; refine wpList_append_at rfl (.tmp 180) (.tmp 182) 25 rfl (w1.heap.size + 1) i3 (.int .i64 0) 1 8 Tryz.underlying25 hi3 hz30 hz31 hz32 rfl (by decide) _ _ _ hF.oO rfl rfl rfl (by simp [Value.oneCell']) (by unfold maxLen; omega) (by omega) hbs ?_; intro v' w' hown' hgrow hat; rw [unhide HJ] at hown'; obtain ⟨hfb', hT', hK', hF'⟩ := hF.push_order (Below.refl _ _) hgrow hown' hat; obtain ⟨g3, cap3, rfl, hg3, hg3', hcap3, hcell3⟩ := own_pos hown' (by omega); have hq3 : w'.cell? ⟨w1.heap.size, 0, none⟩ = some vO := (by rw [blk_cell hfb']; rfl); have hqz := blk_free hfb' 0)
                go_roundg (gk - 1)
                case measure => omega
                case rel =>
                  first
                    | exact ⟨j + 1, _, by go_num, by omega, by omega, by rw [unhide HX]; exact hF'⟩
                    | exact ⟨j + 1, _, by go_num, by omega, by omega, by rw [unhide HX]; simpa using hF⟩
            · have hj8 : j = 8 := by omega
              subst hj8
              have HTD := hide (told_le _ _ _ _ (by simp [rs0]) (unhide HRR))
              obtain ⟨aT, cT, rfl⟩ := own_form hF.oT
              obtain ⟨aK, cK, rfl⟩ := own_form hF.oK
              have hs0 : wr.cell? ⟨w1.heap.size, 0, none⟩ = some vO := by rw [blk_cell hF.fb]; rfl
              obtain ⟨w4, rfl⟩ : ∃ w4, w4 = wr := ⟨_, rfl⟩
              go_wp2_with fail
              go_loopg [21] (st.told.length) (fun q i wx => ∃ (j : Nat) (vO : Value), i = .int .i64 j ∧ j + q = st.told.length ∧ FInv w1 w1.heap.size st (freeTo st 8 ++ st.told.take j) (allTo st j) [] (.slice aT st.told.length cT) (.slice aK st.kinds.length cK) (.slice aC st.cl.length cC) vO (.slice none 0 0) wx)
              case atStart => exact ⟨0, vO, rfl, by omega, by simpa [allTo] using hF⟩
              case round =>
                obtain ⟨j, vO, rfl, hjq2, hF⟩ := hrel
                by_cases hj : j < st.told.length
                · have hjk : j < st.kinds.length := by have := unhide HKT; omega
                  have HAL := hide (allTo_succ st j hj hjk)
                  have hal := allTo_lt st (unhide HTD) j
                  have htj : st.told[j] ≤ 8 := unhide HTD _ (List.getElem_mem hj)
                  have HTK : Hid (st.told.take (j + 1) = st.told.take j ++ [st.told[j]]) := hide (List.take_succ_eq_append_getElem hj)
                  obtain ⟨gT, cT', hTe, hgT, hgT', _, hcT⟩ := own_pos hF.oT (by omega)
                  injection hTe with hTe _ hTe2
                  subst hTe hTe2
                  obtain ⟨gK, cK', hKe, hgK, hgK', _, hcK⟩ := own_pos hF.oK (by omega)
                  injection hKe with hKe _ hKe2
                  subst hKe hKe2
                  have hct : wr.cell? ⟨gT, j, none⟩ = some (.int .i64 (st.told[j] : Int)) := hcT j _ (by simp [ints, hj])
                  clear hcT hcK
                  have hs0 : wr.cell? ⟨w1.heap.size, 0, none⟩ = some vO := by rw [blk_cell hF.fb]; rfl
                  have hbs : w1.heap.size + 1 ≤ wr.heap.size := blk_lt hF.fb
                  have hbsl : w1.heap.size < wr.heap.size := blk_lt hF.fb
                  have hfz := blk_free hF.fb 0
                  have hol : (freeTo st 8 ++ st.told.take j).length ≤ 8 + 2001 * 2001 := by
                    have := freeTo_len st 8
                    rw [List.length_append, List.length_take]
                    have : 2001 * k ≤ 2001 * 2001 := Nat.mul_le_mul_left _ (by omega)
                    omega
                  generalize hOrd : freeTo st 8 ++ st.told.take j = ord at *
                  have HOrd := hide hOrd; clear hOrd
                  generalize allTo st j = al at *
                  generalize hTJ : st.told[j] = tj at *
                  have HTJ := hide hTJ; clear hTJ
                  have hor : bits .or .i64 (al : Int) (wrap64 (2 ^ tj)) = ((al ||| 2 ^ tj : Nat) : Int) := by
                    have := or_bit al hal (tj : Int) (by omega) (by omega)
                    rwa [Int.toNat_natCast] at this
                  obtain ⟨kj, hkj⟩ : ∃ kj, st.kinds[j] = kj := ⟨_, rfl⟩
                  have HKJ := hide hkj; clear hkj
                  go_wp2_with fail
                  go_region_law (refine step_append_at rfl (.tmp 196) (.tmp 201) 25 rfl (w1.heap.size + 1) 3 i3 (.int .i64 0) 1 8 Tryz.underlying25 hi3 hz30 hz31 hz32 rfl (by decide) vO ord.length (ints ord) (hF.oO.alloc _).drew rfl ⟨wr.heap.size, 0, none⟩ 1 1 [.int .i64 tj] rfl rfl (new_cells wr [.int .i64 tj] 3) (by simp [Value.oneCell']) (by decide) (by unfold maxLen; omega) (by omega) (by simp; omega) ?_; intro v' w' hown' hgrow hat; obtain ⟨hfb', hT', hK', hF'⟩ := hF.push_order (((Below.refl _ wr).alloc (Nat.le_refl _) _).drew) hgrow hown' hat; obtain ⟨g3, cap3, rfl, hg3, hg3', hcap3, hcell3⟩ := own_pos hown' (by omega); have hq3 : w'.cell? ⟨w1.heap.size, 0, none⟩ = some vO := (by rw [blk_cell hfb']; rfl); have hqz := blk_free hfb' 0)
                  all_goals
                    generalize hw5 : World.setCell _ _ _ = w5 at hF' ⊢
                    clear hw5
                    have hck : w5.cell? ⟨gK, j, none⟩ = some (.bool kj) := by
                      rw [hF'.oK.cellAt j (by omega)]; simp [bools, hjk, unhide HKJ]
                    have hct5 : w5.cell? ⟨gT, j, none⟩ = some (.int .i64 tj) := by
                      rw [hF'.oT.cellAt j (by omega)]; simp [ints, hj, unhide HTJ]
                    have hca : w5.cell? ⟨w1.heap.size, 1, none⟩ = some (.int .i64 al) := by rw [blk_cell hF'.fb]; rfl
                    have hfz1 := blk_free hF'.fb 1
                    have HOK : Hid (freeTo st 8 ++ st.told.take (j + 1) = ord ++ [tj]) := hide (by rw [unhide HTK, ← unhide HOrd]; simp)
                    cases kj with
                    | false =>
                      go_wp2_with fail
                      go_roundg (gk - 1)
                      case measure => omega
                      case rel =>
                        exact ⟨j + 1, _, by go_num, by omega, by rw [unhide HOK, unhide HAL, unhide HKJ, if_neg (by decide)]; exact hF'⟩
                    | true =>
                      have hF6 := (hF'.set_all (al ||| 2 ^ tj)).drew
                      go_wp2_with fail
                      go_region
                      all_goals
                        go_wp2_with fail
                        go_roundg (gk - 1)
                        case measure => omega
                        case rel =>
                          exact ⟨j + 1, _, by go_num, by omega, by rw [unhide HOK, unhide HAL, unhide HKJ, if_pos rfl]; exact hF6⟩
                · have hjl : j = st.told.length := by omega
                  subst hjl
                  rw [List.take_length] at hF
                  have hal := allTo_lt st (unhide HTD) st.told.length
                  have HOL : Hid (∀ v ∈ orderOf st, v ≤ 8) := hide (fun v hv => by
                    unfold orderOf at hv
                    rw [List.mem_append] at hv
                    rcases hv with hv | hv
                    · exact freeTo_le st 8 v hv
                    · exact unhide HTD v hv)
                  have hol : (orderOf st).length ≤ 8 + 2001 * 2001 := by
                    have := freeTo_len st 8
                    unfold orderOf
                    rw [List.length_append]
                    have : 2001 * k ≤ 2001 * 2001 := Nat.mul_le_mul_left _ (by omega)
                    omega
                  have HFN : Hid (finish st = ⟨orderOf st, allTo st st.told.length, endsTo (orderOf st) (allTo st st.told.length) (orderOf st).length, st.cl⟩) := hide rfl
                  have hF7 : FInv w1 w1.heap.size st (orderOf st) (allTo st st.told.length) [] (.slice aT st.told.length cT) (.slice aK st.kinds.length cK) (.slice aC st.cl.length cC) vO (.slice none 0 0) wr := hF
                  clear hF
                  generalize orderOf st = ord at *
                  generalize allTo st st.told.length = al at *
                  obtain ⟨aO, cO, rfl⟩ := own_form hF7.oO
                  have hs0 : wr.cell? ⟨w1.heap.size, 0, none⟩ = some (.slice aO ord.length cO) := by rw [blk_cell hF7.fb]; rfl
                  obtain ⟨w5, rfl⟩ : ∃ w5, w5 = wr := ⟨_, rfl⟩
                  go_wp2_with fail
                  go_loopg [22] (ord.length + 1) (fun q i wx => ∃ (j : Nat) (vE : Value), i = .int .i64 (j + 1) ∧ j + q = ord.length + 1 ∧ 1 ≤ q ∧ FInv w1 w1.heap.size st ord al (endsTo ord al j) (.slice aT st.told.length cT) (.slice aK st.kinds.length cK) (.slice aC st.cl.length cC) (.slice aO ord.length cO) vE wx)
                  case atStart => exact ⟨0, _, rfl, by omega, by omega, hF7⟩
                  case round =>
                    obtain ⟨j, vE, rfl, hjq3, hq3, hF⟩ := hrel
                    have hs0 : wr.cell? ⟨w1.heap.size, 0, none⟩ = some (.slice aO ord.length cO) := by rw [blk_cell hF.fb]; rfl
                    have hs1 : wr.cell? ⟨w1.heap.size, 1, none⟩ = some (.int .i64 al) := by rw [blk_cell hF.fb]; rfl
                    have hs2 : wr.cell? ⟨w1.heap.size, 2, none⟩ = some vE := by rw [blk_cell hF.fb]; rfl
                    by_cases hj : j < ord.length
                    · have hdj : decide ((j : Int) + 1 ≤ (ord.length : Int)) = true := by simp; omega
                      have hel := endsTo_len ord al j
                      have HES := hide (endsTo_succ ord al j)
                      have hbs : w1.heap.size + 1 ≤ wr.heap.size := blk_lt hF.fb
                      have hfz := blk_free hF.fb 2
                      obtain ⟨gO, cO', hOe, hgO, hgO', _, hcO⟩ := own_pos hF.oO (by omega)
                      injection hOe with hOe _ hOe2
                      subst hOe hOe2
                      have hco0 : wr.cell? ⟨gO, j, none⟩ = some (.int .i64 (ord[j] : Int)) := hcO j _ (by simp [ints, hj])
                      have ho0 : ord[j] ≤ 8 := unhide HOL _ (List.getElem_mem hj)
                      by_cases hl1 : j + 1 = ord.length
                      · have hb1 : ((j : Int) + 1 == (ord.length : Int)) = true := by rw [beq_iff_eq]; omega
                        have HEE : Hid (endAt ord al (j + 1) = true) := hide (by unfold endAt; rw [show (j + 1 == ord.length) = true from by simp [hl1]]; rfl)
                        clear hcO
                        have HL1 := hide hl1; clear hl1
                        have HJ1 : Hid ((j : Int) + 1 = ((j + 1 : Nat) : Int)) := hide (by omega)
                        go_wp2_with (at_builtin; refine wpList_append_at rfl (.tmp 267) (.tmp 269) 25 rfl (w1.heap.size + 1) i3 (.int .i64 0) 1 8 Tryz.underlying25 hi3 hz30 hz31 hz32 rfl (by decide) _ _ _ hF.oE rfl rfl rfl (by simp [Value.oneCell']) (by unfold maxLen; omega) (by omega) hbs ?_; intro v' w' hown' hgrow hat; rw [unhide HJ1] at hown'; obtain ⟨hfb', hF'⟩ := hF.push_end (Below.refl _ _) hgrow hown' hat; obtain ⟨g3, cap3, rfl, hg3, hg3', hcap3, hcell3⟩ := own_pos hown' (by omega); have hq3 : w'.cell? ⟨w1.heap.size, 2, none⟩ = some vE := (by rw [blk_cell hfb']; rfl); have hqz := blk_free hfb' 2)
                        go_roundg (gk - 1)
                        case measure => omega
                        case rel =>
                          exact ⟨j + 1, _, by go_num, by omega, by omega, by rw [unhide HES, unhide HEE]; exact hF'⟩
                      · have hb1 : ((j : Int) + 1 == (ord.length : Int)) = false := by rw [beq_eq_false_iff_ne]; omega
                        have hj1 : j + 1 < ord.length := by omega
                        have hco1 : wr.cell? ⟨gO, j + 1, none⟩ = some (.int .i64 (ord[j + 1] : Int)) := hcO (j + 1) _ (by simp [ints, hj1])
                        have ho1 : ord[j + 1] ≤ 8 := unhide HOL _ (List.getElem_mem hj1)
                        have HEE : Hid (endAt ord al (j + 1) = (al.testBit ord[j + 1] != al.testBit ord[j])) := hide (by
                          unfold endAt
                          rw [show (j + 1 == ord.length) = false from by simp; omega]
                          simp [List.getD, hj, hj1])
                        clear hcO hl1
                        generalize hA : ord[j + 1] = oa at *
                        generalize hB : ord[j] = ob at *
                        clear hA hB
                        have HJ1 : Hid ((j : Int) + 1 = ((j + 1 : Nat) : Int)) := hide (by omega)
                        go_wp2_with fail
                        refine (universal_any w1.heap.size al oa wr hal ho1 hs1).mono ?_
                        rintro e wq ⟨rfl, hwq⟩
                        subst hwq
                        go_wp2_with fail
                        refine (universal_any w1.heap.size al ob wq hal ho0 hs1).mono ?_
                        rintro e wq2 ⟨rfl, hwq⟩
                        subst hwq
                        cases hta : al.testBit oa <;> cases htb : al.testBit ob
                        all_goals
                          go_wp2_with (at_builtin; refine wpList_append_at rfl (.tmp 267) (.tmp 269) 25 rfl (w1.heap.size + 1) i3 (.int .i64 0) 1 8 Tryz.underlying25 hi3 hz30 hz31 hz32 rfl (by decide) _ _ _ hF.oE rfl rfl rfl (by simp [Value.oneCell']) (by unfold maxLen; omega) (by omega) hbs ?_; intro v' w' hown' hgrow hat; rw [unhide HJ1] at hown'; obtain ⟨hfb', hF'⟩ := hF.push_end (Below.refl _ _) hgrow hown' hat; obtain ⟨g3, cap3, rfl, hg3, hg3', hcap3, hcell3⟩ := own_pos hown' (by omega); have hq3 : w'.cell? ⟨w1.heap.size, 2, none⟩ = some vE := (by rw [blk_cell hfb']; rfl); have hqz := blk_free hfb' 2)
                          go_roundg (gk - 1)
                          case measure => omega
                          case rel =>
                            first
                              | exact ⟨j + 1, _, by go_num, by omega, by omega, by rw [unhide HES, unhide HEE, hta, htb]; exact hF'⟩
                              | exact ⟨j + 1, _, by go_num, by omega, by omega, by rw [unhide HES, unhide HEE, hta, htb]; simpa using hF⟩
                    · have hjl : j = ord.length := by omega
                      subst hjl
                      have hdj : decide ((ord.length : Int) + 1 ≤ (ord.length : Int)) = false := by simp; omega
                      go_wp2_with fail
                      go_ret3
                      refine ⟨hF.isBelow hb rfl, ?_⟩
                      rw [unhide HP]
                      refine ⟨w1.heap.size, rfl, hb.size, ?_⟩
                      rw [unhide HFN]
                      exact ⟨_, _, _, hF.fb, own_lo hF.oO (by have := hb.size; omega), own_lo hF.oE (by have := hb.size; omega), own_lo hF.oC (by have := hb.size; omega)⟩

set_option maxRecDepth 100000 in
set_option maxHeartbeats 400000 in
theorem read_long (l : List UInt8) (w : World) (hl : 2000 < l.length) :
    Calls Tryz.prog 52 #[.string ⟨l.toArray⟩] w fun e w' => ReadPost l w e w' := by
  have hd : decide ((2000 : Int) < (l.length : Int)) = true := by simp; omega
  go_enter Tryz.func52, Tryz.ntmps52
  go_wp2_with fail
  go_ret3
  refine ⟨Below.refl _ _, ?_⟩
  unfold readSpec
  rw [if_pos hl]
  rfl

theorem read_all (l : List UInt8) (w : World) : Calls Tryz.prog 52 #[.string ⟨l.toArray⟩] w fun e w' => ReadPost l w e w' := by
  by_cases h : l.length ≤ 2000
  · exact read_any l w h
  · exact read_long l w (by omega)
end Go.Proofs.YtgipjjhkhfihpaaGreatDoor
