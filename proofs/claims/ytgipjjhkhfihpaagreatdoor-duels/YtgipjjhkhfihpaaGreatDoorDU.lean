import Derived.Test.YtgipjjhkhfihpaaGreatDoorDT
import Derived.Test.YtgipjjhkhfihpaaGreatDoorDO
namespace Go.Proofs.YtgipjjhkhfihpaaGreatDoor
open Go.RowKit

theorem lists_nil {bw : Nat} {wx w4 : World} {v5 v6 v6' : Value} {h5s h6s : List Value} {text : List UInt8} {px pf : Option Addr} {proof : List UInt8} {c4 : Value} (hL : ListsAt bw wx v5 v6 h5s h6s) (hw : WAt wx bw text px pf proof c4 v5 v6)
    (hg : wx.grownBy w4 v6.ownBlock) (ho6 : w4.ownsRow (bw + 1) 45 1 v6' (h6s.length + 1) (h6s ++ [.slice none 0 0])) :
    WAt (w4.setCell ⟨bw, 6, none⟩ v6') bw text px pf proof c4 v5 v6' ∧ ListsAt bw (w4.setCell ⟨bw, 6, none⟩ v6') v5 v6' h5s (h6s ++ [.slice none 0 0]) ∧ Only (fun j => j = bw ∨ v5.ownBlock = some j ∨ v6.ownBlock = some j) wx (w4.setCell ⟨bw, 6, none⟩ v6') := by
  have hwt := hw
  unfold WAt at hwt
  have ho4 : Only (fun j => v6.ownBlock = some j) wx w4 := ⟨hg.os, hg.tape, hg.output, hg.size, fun k hk ht => hg.block k hk (fun e => ht e.symm)⟩
  have hbw6 : v6.ownBlock ≠ some bw := fun e => by have := (hL.o6.lt _ e).1; omega
  have hw4 : WAt w4 bw text px pf proof c4 v5 v6 := (ho4.block bw (blk_lt hwt) hbw6).trans hwt
  have hoS : Only (fun j => j = bw ∨ v6.ownBlock = some j) wx (w4.setCell ⟨bw, 6, none⟩ v6') := (ho4.mono (T' := fun j => j = bw ∨ v6.ownBlock = some j) (fun k _ h => Or.inr h)).setCell (p := ⟨bw, 6, none⟩) (Or.inl (Or.inl rfl)) _
  have hTS : ∀ ts : List TypeId, 48 ∉ ts → 45 ∉ ts → ∀ b k, k < wx.heap.size → (k = bw ∨ v6.ownBlock = some k) → Foreign b wx ts k := fun ts h1 h2 b k _ ht => by
    rcases ht with rfl | ht
    · exact Or.inr ⟨_, _, _, hwt, h1⟩
    · obtain ⟨c, hc⟩ := own_blk hL.o6 ht
      exact Or.inr ⟨_, _, _, hc, h2⟩
  refine ⟨blk_set hw4 6 _, ⟨own_only (ts := [25]) hL.o5 hoS (by simp) (hTS _ (by decide) (by decide) _), by simpa using ownsRow_setCell_below ho6 (a := ⟨bw, 6, none⟩) (Nat.lt_succ_self bw) _, hL.ls.only hoS (hTS _ (by decide) (by decide) _), ?_, ?_⟩, hoS.mono (fun k _ h => h.elim Or.inl (fun h => Or.inr (Or.inr h)))⟩
  · have hold : LssAt (w4.setCell ⟨bw, 6, none⟩ v6') h6s := lss_keep hL.lss hoS (fun i hi g c h1 h2 ht => by
      rcases hTS [25] (by decide) (by decide) 0 g (blk_lt h2) ht with h | ⟨c', t, fr, h4, h5⟩
      · omega
      · exact h5 (by rw [types_ne h4 h2]; simp)) (hTS _ (by decide) (by decide) _)
    intro i hi
    by_cases hil : i < h6s.length
    · rw [List.getElem_append_left hil]; exact hold i hil
    · have hie : i = h6s.length := by simp at hi; omega
      subst hie
      rw [List.getElem_concat_length rfl]
      exact Or.inl rfl
  · intro i hi
    by_cases hil : i < h6s.length
    · rw [List.getElem_append_left hil]; exact hL.ap i hil
    · have hie : i = h6s.length := by simp at hi; omega
      subst hie
      rw [List.getElem_concat_length rfl]
      exact (apart_nil _).symm

theorem Tryz.infoIntss : (Tryz.prog.info? 45).map (fun i => (i.zero, i.size, i.bytes)) = some (some (.slice none 0 0), 1, 24) := by kernel_rfl

theorem blockOf_eq {st : RS} {q : QS} (h : Same st q) (hn : QNice q) (k : Nat) (hk : k < (progBlocks (qFinish q).vars).length) : blockOf (finish st) k = (progBlocks (qFinish q).vars)[k] := by
  have e := progBlocks_eq (qFinish q).vars
  unfold blockOf fromOf
  rw [finish_ends h hn, order_eq h]
  simp only [e, List.getElem_map, List.getElem_range]
  rfl

theorem own_len {w : World} {base : Nat} {e : TypeId} {size : Nat} {v : Value} {n : Nat} {xs : List Value} (h : w.ownsRow base e size v n xs) : n ≤ maxLen := by
  rcases h.2 with ⟨_, h⟩ | ⟨g, cap, cur, _, _, _, h1, h2, _⟩ <;> omega

structure BlocksPost (bw : Nat) (text : List UInt8) (px pf : Option Addr) (proof : List UInt8) (c4 v5 v6 : Value) (n5 n6 : Nat) (w : World) (e : Ending) (w' : World) : Prop where
  ret : e = .returned (.bool true)
  only : Only (fun j => j = bw ∨ v5.ownBlock = some j ∨ v6.ownBlock = some j) w w'
  at_ : ∃ v5' v6' h5s h6s, WAt w' bw text px pf proof c4 v5' v6' ∧ ListsAt bw w' v5' v6' h5s h6s ∧ h5s.length ≤ n5 + 8 ∧ h6s.length = n6 + 1

def OldOrNew (n : Nat) (v v' : Value) : Prop := v'.ownBlock = v.ownBlock ∨ ∃ j, v'.ownBlock = some j ∧ n ≤ j
structure BlocksPost2 (bw : Nat) (text : List UInt8) (px pf : Option Addr) (proof : List UInt8) (c4 v5 v6 : Value) (h5s h6s : List Value) (w : World) (e : Ending) (w' : World) : Prop where
  ret : e = .returned (.bool true)
  only : Only (fun j => j = bw ∨ v5.ownBlock = some j ∨ v6.ownBlock = some j) w w'
  at_ : ∃ v5' v6' n5 x6, WAt w' bw text px pf proof c4 v5' v6' ∧ ListsAt bw w' v5' v6' (h5s ++ n5) (h6s ++ [x6]) ∧ n5.length ≤ 8 ∧ (∀ v ∈ n5, ∀ k, v.ownBlock = some k → w.heap.size ≤ k) ∧ NewLss w.heap.size w' x6 ∧ OldOrNew w.heap.size v5 v5' ∧ OldOrNew w.heap.size v6 v6'
set_option maxRecDepth 100000 in
set_option maxHeartbeats 3200000 in
theorem blocks_any2 (bw b b' : Nat) (st : RS) (q0 : QS) (text : List UInt8) (proof : List UInt8) (c4 v5 v6 : Value) (h5s h6s : List Value) (w : World)
    (hw : WAt w bw text (some ⟨b, 0, none⟩) (some ⟨b', 0, none⟩) proof c4 v5 v6) (hP : ProgAt (bw + 1) w b (qFinish q0)) (hR : RefAt (bw + 1) w b' (finish st)) (hS : Same st q0) (hN : QNice q0) (hL : ListsAt bw w v5 v6 h5s h6s)
    (hn5 : h5s.length ≤ 1048576000) (hn6 : h6s.length ≤ 1073741823) :
    Calls Tryz.prog 35 #[.pointer (some ⟨bw, 0, none⟩)] w fun e w' => BlocksPost2 bw text (some ⟨b, 0, none⟩) (some ⟨b', 0, none⟩) proof c4 v5 v6 h5s h6s w e w' := by
  have hbw : bw < w.heap.size := blk_lt hw
  have k1 : w.cell? ⟨bw, 1, none⟩ = some (.pointer (some ⟨b, 0, none⟩)) := by rw [blk_cell hw]; rfl
  have hvl := vars_le hN
  have HPB : Hid (∀ k (hk : k < (progBlocks (qFinish q0).vars).length), blockOf (finish st) k = (progBlocks (qFinish q0).vars)[k]) := hide (fun k hk => blockOf_eq hS hN k hk)
  have hel : (finish st).ends.length = (progBlocks (qFinish q0).vars).length := by rw [finish_ends hS hN, progBlocks_len]
  have hel8 : (progBlocks (qFinish q0).vars).length ≤ 8 := by rw [progBlocks_len]; have := ends_len (qFinish q0).vars; omega
  have hol : (finish st).order.length = (qFinish q0).vars.length := by rw [order_eq hS]; simp
  have HFE : Hid (∀ k, k < (progBlocks (qFinish q0).vars).length → fromOf (finish st) k ≤ (finish st).ends.getD k 0 ∧ (finish st).ends.getD k 0 ≤ (finish st).order.length ∧ 0 < (finish st).order.length) := hide (fun k hk => by
    have hk' : k < (endsOf (qFinish q0).vars).length := by rw [← progBlocks_len]; exact hk
    have h1 := start_le _ k hk'
    have h2 := end_le _ k hk'
    have h3 := ends_len (qFinish q0).vars
    unfold fromOf
    rw [finish_ends hS hN, hol]
    exact ⟨h1, h2, by omega⟩)
  obtain ⟨i0, hi, hz0, hz1, hz2⟩ := info_parts Tryz.infoIntss
  go_enter Tryz.func35, Tryz.ntmps35
  go_wp2_with fail
  refine (dblocks_any (bw + 1) b (qFinish q0) w hP (by omega)).mono ?_
  rintro e w1 ⟨v, hdrs, rfl, hown, hrows, hb1⟩
  have hw1 := hw.later hb1
  have hR1 := hR.later hb1
  have hbs1 := hb1.size
  clear hP hS hN
  generalize progBlocks (qFinish q0).vars = pb at *
  generalize finish st = F at *
  obtain ⟨_, vO, vE, vC, hfb, hO, hE, _⟩ := id hR1
  obtain ⟨aE, cE, rfl⟩ := own_form hE
  rw [hel] at hfb
  have k2 : w1.cell? ⟨bw, 2, none⟩ = some (.pointer (some ⟨b', 0, none⟩)) := by rw [blk_cell hw1]; rfl
  have kE : w1.cell? ⟨b', 2, none⟩ = some (.slice aE pb.length cE) := by rw [blk_cell hfb]; rfl
  have hne : ((pb.length : Int) != (pb.length : Int)) = false := by simp
  have hdl := hrows.len
  rcases hown.2 with ⟨rfl, hz⟩ | ⟨h, cap, cur, rfl, hhb, hhr, hnc, hcm, hcs, htk⟩
  · obtain rfl : pb = [] := List.length_eq_zero_iff.1 hz
    have kE' : w1.cell? ⟨b', 2, none⟩ = some (.slice aE 0 cE) := kE
    clear kE hne
    have h6 : w1.cell? ⟨bw, 6, none⟩ = some v6 := by rw [blk_cell hw1]; rfl
    have hL1 := hL.later hb1
    obtain ⟨a6, c6, rfl⟩ := own_form hL1.o6
    have hbs : bw + 1 ≤ w1.heap.size := by omega
    go_wp2_with fail
    refine wp_loop_rounds 1 ?_
    rw [rounds_succ]
    go_wp2_with fail
    refine wp_loop_rounds 1 ?_
    rw [rounds_succ]
    go_wp2_with fail
    refine wp_loop_rounds 1 ?_
    rw [rounds_succ]
    have hbw6 : (Value.slice a6 h6s.length c6).ownBlock ≠ some bw := fun e => by have := (hL1.o6.lt _ e).1; omega
    go_wp2_with (at_builtin; refine wpList_append_at rfl (.tmp 100) (.tmp 102) 46 rfl (bw + 1) i0 (.slice none 0 0) 1 24 Tryz.underlying46 hi hz0 hz1 hz2 rfl (by decide) _ _ _ hL1.o6 rfl rfl rfl (by simp [Value.oneCell']) (by unfold maxLen; omega) (by omega) hbs ?_; intro v' w4 hown4 hgrow hat; have hw4 : WAt w4 bw text (some ⟨b, 0, none⟩) (some ⟨b', 0, none⟩) proof c4 v5 (.slice a6 h6s.length c6) := (hgrow.block bw (blk_lt hw1) (fun e => hbw6 e.symm)).trans hw1; obtain ⟨g3, cap3, rfl, hg3, hg3', hcap3, hcell3⟩ := own_pos hown4 (by omega); have hq6 : w4.cell? ⟨bw, 6, none⟩ = some (.slice a6 h6s.length c6) := (by rw [blk_cell hw4]; rfl); have hqz := blk_free hw4 6)
    go_ret
    obtain ⟨hA, hB, hC⟩ := lists_nil hL1 hw1 hgrow hown4
    exact ⟨rfl, (Only.of_below hb1).trans hC, v5, _, [], .slice none 0 0, hA, by rw [List.append_nil]; exact hB, by simp, by simp, Or.inl rfl, Or.inl rfl, hat.imp id (fun ⟨j, h1, h2⟩ => ⟨j, h1, by omega⟩)⟩
  · have HB1 := hide hb1
    have hw1' := hw1
    unfold WAt at hw1'
    go_wp2_with fail
    go_loopg [4] pb.length (fun q i wx => ∃ k : Nat, i = .int .i64 k ∧ k + q = pb.length ∧ Below w1.heap.size w1 wx)
    case atStart => exact ⟨0, rfl, by omega, Below.refl _ _⟩
    case round =>
      obtain ⟨k, rfl, hk, hbx⟩ := hrel
      obtain ⟨wo, rfl⟩ : ∃ wo, wo = wr := ⟨_, rfl⟩
      obtain ⟨go, rfl⟩ : ∃ go, go = gk := ⟨_, rfl⟩
      have hbsx := hbx.size
      by_cases hlt : k < pb.length
      · have x2 : wo.cell? ⟨bw, 2, none⟩ = some (.pointer (some ⟨b', 0, none⟩)) := by rw [hbx.cell (p := ⟨bw, 2, none⟩) (by show bw < _; omega)]; exact k2
        have hdk : decide ((k : Int) < (pb.length : Int)) = true := by simp; omega
        obtain ⟨hf1, hf2, hf3⟩ := unhide HFE k hlt
        go_wp2_with fail
        refine (block_any (bw + 1) b' k F wo (hR1.later hbx) (by omega) hf1 hf2 (by omega) hf3 (by omega)).mono ?_
        rintro e w2 ⟨vb, rfl, hints, hb2, _⟩
        have hbx2 : Below w1.heap.size w1 w2 := hbx.trans (hb2.mono hbsx)
        rw [unhide HPB k hlt] at hints
        obtain ⟨ab, cb, rfl, hcb⟩ := hints
        obtain ⟨hrk, hrne⟩ := hrows.row k hlt
        obtain ⟨gk', ck', hke, hgk, hgk', _, hcellk⟩ := own_pos hrk (List.length_pos_iff.2 hrne)
        have hhk : w2.cell? ⟨h, k, none⟩ = some (.slice (some ⟨gk', 0, none⟩) pb[k].length ck') := by
          rw [hbx2.cell (p := ⟨h, k, none⟩) (blk_lt hhr), blk_cell hhr]
          have e1 : (cur.toList.take (pb.length * 1))[k]? = some hdrs[k] := by rw [htk]; exact List.getElem?_eq_getElem (by omega)
          rw [List.getElem?_take, if_pos (by omega)] at e1
          rw [hke] at e1
          simpa using e1
        have hne2 : ((pb[k].length : Int) != (pb[k].length : Int)) = false := by simp
        have hbs2 := hbx2.size
        have hpl := own_len hrk
        unfold maxLen at hpl
        go_wp2_with fail
        go_loopg [6] pb[k].length (fun q i wx => ∃ j : Nat, i = .int .i64 j ∧ j + q = pb[k].length ∧ Below w2.heap.size w2 wx)
        case atStart => exact ⟨0, rfl, by omega, Below.refl _ _⟩
        case round =>
          obtain ⟨j, rfl, hj, hby⟩ := hrel
          have hbys := hby.size
          by_cases hjl : j < pb[k].length
          · obtain ⟨gb, ob, rfl, hcj⟩ := hcb j hjl
            have y1 : wr.cell? ⟨gb, ob + j, none⟩ = some (.int .i64 (pb[k][j] : Int)) := by rw [hby.cell (p := ⟨gb, ob + j, none⟩) (cell_lt hcj)]; exact hcj
            have y2 : wr.cell? ⟨gk', j, none⟩ = some (.int .i64 (pb[k][j] : Int)) := by
              rw [hby.cell (p := ⟨gk', j, none⟩) (by show gk' < _; omega), hbx2.cell (p := ⟨gk', j, none⟩) hgk']
              exact hcellk j _ (by simp [ints, hjl])
            have y3 : wr.cell? ⟨h, k, none⟩ = some (.slice (some ⟨gk', 0, none⟩) pb[k].length ck') := by
              rw [hby.cell (p := ⟨h, k, none⟩) (cell_lt hhk)]; exact hhk
            have hdj : decide ((j : Int) < (pb[k].length : Int)) = true := by simp; omega
            have hne3 : ((pb[k][j] : Int) != (pb[k][j] : Int)) = false := by simp
            generalize pb[k][j] = x at *
            go_wp2_with fail
            go_quiet (fail)
            go_wp2_with fail
            go_roundg (gk - 1)
            case measure => omega
            case rel => exact ⟨j + 1, by go_num, by omega, below_drewN hby nq⟩
          · have hdj : decide ((j : Int) < (pb[k].length : Int)) = false := by simp; omega
            have hjk : j ≤ pb[k].length := by omega
            go_wp2_with fail
            go_roundg (go - 1)
            case measure => omega
            case rel => exact ⟨k + 1, by go_num, by omega, hbx2.trans (hby.mono hbs2)⟩
      · have hkl : k = pb.length := by omega
        subst hkl
        have hdk : decide ((pb.length : Int) < (pb.length : Int)) = false := by simp
        have hb0 : Below w.heap.size w wo := hb1.trans (hbx.mono hbs1)
        have hrow0 : wo.heap[h]? = some (.cells cur 25 (0, 0)) := (hbx.block h (blk_lt hhr)).trans hhr
        have hM0 := Marking.start hw hL hb0 rfl hhb hrow0 (hrows.later hbx)
        have hcs' : cur.size = cap := by simpa using hcs
        have HCS := hide hcs'
        have HTK := hide htk
        have HAP := hide hrows.apart
        clear hcs hcs' htk
        go_wp2_with fail
        go_loopg [7] pb.length (fun q i wx => ∃ (k : Nat) (v5x : Value) (h5x : List Value), i = .int .i64 k ∧ k + q = pb.length ∧ (∃ n5, h5x = h5s ++ n5 ∧ n5.length = k ∧ ∀ v ∈ n5, ∀ j, v.ownBlock = some j → w.heap.size ≤ j) ∧ Marking bw h w v5 text (some ⟨b, 0, none⟩) (some ⟨b', 0, none⟩) proof c4 v6 hdrs cur k v5x h5x wx)
        case atStart => exact ⟨0, v5, h5s, rfl, by omega, ⟨[], by simp, rfl, by simp⟩, hM0⟩
        case round =>
          obtain ⟨k, v5x, h5x, rfl, hk2, hn5x, hM⟩ := hrel
          have hl5 : h5x.length = h5s.length + k := by obtain ⟨n5, e1, e2, _⟩ := hn5x; rw [e1, List.length_append, e2]
          have HN5 := hide hn5x
          clear hn5x
          obtain ⟨gm, rfl⟩ : ∃ gm, gm = gk := ⟨_, rfl⟩
          by_cases hlt2 : k < pb.length
          · have hkd : k < hdrs.length := by omega
            obtain ⟨g, n, capg, cu, he, hg0, hgt, hcu, hnc2, hcm2⟩ := hM.fresh k (Nat.le_refl _) hkd
            have hhk : wr.cell? ⟨h, k, none⟩ = some (.slice (some ⟨g, 0, none⟩) n capg) := by
              rw [blk_cell hM.row]
              have e1 : (cur.toList.take (pb.length * 1))[k]? = some hdrs[k] := by rw [unhide HTK]; exact List.getElem?_eq_getElem hkd
              rw [List.getElem?_take, if_pos (by omega)] at e1
              rw [he] at e1
              simpa using e1
            have hdk2 : decide ((k : Int) < (pb.length : Int)) = true := by simp; omega
            have HE := hide he
            clear he
            go_wp2_with fail
            refine (mine_any bw g n capg cu h5x.length h5x v5x text _ _ proof c4 v6 wr hM.at_ hgt hcu hnc2 hcm2 hM.o5 (by omega)).mono ?_
            rintro e w3 hp
            have hpr := hp.ret
            subst hpr
            obtain ⟨v5y, hM3⟩ := hM.mine hhb hkd (unhide HE) hg0 ⟨cu, hgt⟩ hcm2 (unhide HAP) hp
            go_wp2_with fail
            go_roundg (gm - 1)
            case measure => omega
            case rel =>
              obtain ⟨n5, e1, e2, e3⟩ := unhide HN5
              refine ⟨k + 1, v5y, _, by go_num, by omega, ⟨n5 ++ [.slice (some ⟨g, 0, none⟩) capg capg], by rw [e1]; simp, by simp [e2], ?_⟩, hM3⟩
              intro v hv j hj
              rcases List.mem_append.1 hv with hv | hv
              · exact e3 v hv j hj
              · have e4 : v = .slice (some ⟨g, 0, none⟩) capg capg := by simpa using hv
                subst e4
                have e5 : some g = some j := hj
                injection e5 with e5
                omega
          · have hkl2 : k = pb.length := by omega
            subst hkl2
            have hdk2 : decide ((pb.length : Int) < (pb.length : Int)) = false := by simp
            have hH0 : Heading bw h cap h6s.length w v5 text (some ⟨b, 0, none⟩) (some ⟨b', 0, none⟩) proof c4 v6 0 v5x h5x wr := Heading.start hM (unhide HCS)
            have hcm' := hcm
            unfold maxLen at hcm'
            have h6w : wr.cell? ⟨bw, 6, none⟩ = some v6 := by rw [blk_cell hM.at_]; rfl
            obtain ⟨a6, c6, rfl⟩ := own_form hL.o6
            go_wp2_with fail
            go_loopg [9] cap (fun q i wx => ∃ (k : Nat), i = .int .i64 k ∧ k + q = cap ∧ Heading bw h cap h6s.length w v5 text (some ⟨b, 0, none⟩) (some ⟨b', 0, none⟩) proof c4 (.slice a6 h6s.length c6) k v5x h5x wx)
            case atStart => exact ⟨0, rfl, by omega, hH0⟩
            case round =>
              obtain ⟨k, rfl, hk3, hH⟩ := hrel
              have x6 : wr.cell? ⟨bw, 6, none⟩ = some (.slice a6 h6s.length c6) := by rw [blk_cell hH.at_]; rfl
              by_cases hlt3 : k < cap
              · have hdk3 : decide ((k : Int) < (cap : Int)) = true := by simp; omega
                obtain ⟨cs, hr1, hr2, _⟩ := hH.row
                obtain ⟨u, hu⟩ : ∃ u, wr.cell? ⟨h, k, none⟩ = some u := by
                  rw [blk_cell hr1]
                  exact ⟨_, Array.getElem?_eq_getElem (by omega)⟩
                have hz := blk_free hr1 k
                have hhl := blk_lt hr1
                have hH2 := hH.later ((Below.refl wr.heap.size wr).alloc (Nat.le_refl _) (.cells #[.int .i64 (h6s.length : Int), .int .i64 (k : Int)] 3))
                have hH3 := hH2.set hhb hlt3 (heap_alloc_new wr _) (hH.only.size)
                rw [World.setCell_alloc_past _ _ _ _ hhl] at hH3
                clear hH2
                go_wp2_with fail
                go_roundg (gk - 1)
                case measure => omega
                case rel => exact ⟨k + 1, by go_num, by omega, hH3⟩
              · have hkl3 : k = cap := by omega
                subst hkl3
                have hdk3 : decide ((k : Int) < (k : Int)) = false := by simp
                have hw0' := hw
                unfold WAt at hw0'
                have ho6x : wr.ownsRow (bw + 1) 45 1 (.slice a6 h6s.length c6) h6s.length h6s := own_only (ts := [45]) hL.o6 hH.only (by simp) (fun k _ ht => by
                  rcases ht with rfl | ht
                  · exact Or.inr ⟨_, _, _, hw0', by decide⟩
                  · obtain ⟨c, hc⟩ := own_blk hL.o5 ht
                    exact Or.inr ⟨_, _, _, hc, by decide⟩)
                have hwx := hH.at_
                have hbs : bw + 1 ≤ wr.heap.size := by have := blk_lt hwx; omega
                have hbw6 : (Value.slice a6 h6s.length c6).ownBlock ≠ some bw := fun e => by have := (ho6x.lt _ e).1; omega
                go_wp2_with (at_builtin; refine wpList_append_at rfl (.tmp 100) (.tmp 102) 46 rfl (bw + 1) i0 (.slice none 0 0) 1 24 Tryz.underlying46 hi hz0 hz1 hz2 rfl (by decide) _ _ _ ho6x rfl rfl rfl (by simp [Value.oneCell']) (by unfold maxLen; omega) (by omega) hbs ?_; intro v' w4 hown4 hgrow hat; have hw4 : WAt w4 bw text (some ⟨b, 0, none⟩) (some ⟨b', 0, none⟩) proof c4 v5x (.slice a6 h6s.length c6) := (hgrow.block bw (blk_lt hwx) (fun e => hbw6 e.symm)).trans hwx; obtain ⟨g3, cap3, rfl, hg3, hg3', hcap3, hcell3⟩ := own_pos hown4 (by omega); have hq6 : w4.cell? ⟨bw, 6, none⟩ = some (.slice a6 h6s.length c6) := (by rw [blk_cell hw4]; rfl); have hqz := blk_free hw4 6)
                go_ret
                obtain ⟨hA, hB, hC, hD⟩ := Heading.done hL hw hcm hH hgrow hown4 hhb
                obtain ⟨n5, e1, e2, e3⟩ := unhide HN5
                rw [e1] at hB
                have hk9 := hH.only.size
                exact ⟨rfl, hC, _, _, n5, _, hA, hB, by omega, e3, hD, hH.old, hat.imp id (fun ⟨j, h1, h2⟩ => ⟨j, h1, by omega⟩)⟩
theorem blocks_any (bw b b' : Nat) (st : RS) (q0 : QS) (text : List UInt8) (proof : List UInt8) (c4 v5 v6 : Value) (h5s h6s : List Value) (w : World)
    (hw : WAt w bw text (some ⟨b, 0, none⟩) (some ⟨b', 0, none⟩) proof c4 v5 v6) (hP : ProgAt (bw + 1) w b (qFinish q0)) (hR : RefAt (bw + 1) w b' (finish st)) (hS : Same st q0) (hN : QNice q0) (hL : ListsAt bw w v5 v6 h5s h6s)
    (hn5 : h5s.length ≤ 1048576000) (hn6 : h6s.length ≤ 1073741823) :
    Calls Tryz.prog 35 #[.pointer (some ⟨bw, 0, none⟩)] w fun e w' => BlocksPost bw text (some ⟨b, 0, none⟩) (some ⟨b', 0, none⟩) proof c4 v5 v6 h5s.length h6s.length w e w' := by
  refine (blocks_any2 bw b b' st q0 text proof c4 v5 v6 h5s h6s w hw hP hR hS hN hL hn5 hn6).mono ?_
  rintro e w' ⟨h1, h2, v5', v6', n5, x6, h3, h4, h5, _⟩
  exact ⟨h1, h2, v5', v6', _, _, h3, h4, by rw [List.length_append]; omega, by simp⟩
end Go.Proofs.YtgipjjhkhfihpaaGreatDoor

namespace Go.Proofs.YtgipjjhkhfihpaaGreatDoor
open Go.RowKit

/-! ### Blocks of the document's side -/
structure Pair (st : RS) (q0 : QS) : Prop where
  same : Same st q0
  cl : q0.cl.length ≤ 24
  nice : QNice q0
theorem Pair.fq {st : RS} {q0 : QS} (h : Pair st q0) : FQ (finish st) (qFinish q0) := (fq_of h.same h.nice h.cl).1
theorem Pair.fo {st : RS} {q0 : QS} (h : Pair st q0) : FOk (finish st) := (fq_of h.same h.nice h.cl).2.1
theorem Pair.fw {st : RS} {q0 : QS} (h : Pair st q0) : FW (finish st) := (fq_of h.same h.nice h.cl).2.2
theorem Pair.qb {st : RS} {q0 : QS} (h : Pair st q0) : QB (qFinish q0) := qb_of h.nice h.cl
theorem Pair.qg {st : RS} {q0 : QS} (h : Pair st q0) : QGood (qFinish q0) := qgood_of h.fq h.qb
theorem GPure.pair {G : GG} (h : GPure G) : Pair G.st G.q0 := ⟨h.same, h.cl, h.nice⟩
theorem Pair.ends {st : RS} {q0 : QS} (h : Pair st q0) : (finish st).ends.length = (progBlocks (qFinish q0).vars).length := by rw [finish_ends h.same h.nice, progBlocks_len]
theorem ref_ends {lo b : Nat} {w : World} {F : Form} (h : RefAt lo w b F) : ∃ a c, w.cell? ⟨b, 2, none⟩ = some (.slice a F.ends.length c) ∧ b < w.heap.size := by
  obtain ⟨_, vO, vE, vC, h2, h3, h4, h5⟩ := h
  obtain ⟨a, c, rfl⟩ := own_form h4
  exact ⟨a, c, by rw [blk_cell h2]; rfl, blk_lt h2⟩
theorem blockP_any {lo b k : Nat} {st : RS} {q0 : QS} {w : World} (hP : Pair st q0) (hF : RefAt lo w b (finish st)) (hk : k < (progBlocks (qFinish q0).vars).length) :
    Calls Tryz.prog 38 #[.pointer (some ⟨b, 0, none⟩), .int .i64 k] w fun e w' => ∃ v, e = .returned v ∧ IntsAt w' v (progBlocks (qFinish q0).vars)[k] ∧ Below w.heap.size w w' ∧ InOrder w b v := by
  have he := hP.ends
  have hv8 := vars_le hP.nice
  have hol : (finish st).order.length = (qFinish q0).vars.length := by rw [order_eq hP.same, List.length_map]
  have hk' : k < (endsOf (qFinish q0).vars).length := by rw [← progBlocks_len]; exact hk
  have hpos : 0 < (qFinish q0).vars.length := by
    have := ends_len (qFinish q0).vars; omega
  have hel := ends_len (qFinish q0).vars
  rw [← blockOf_eq hP.same hP.nice k hk]
  refine block_any lo b k (finish st) w hF (by omega) ?_ ?_ (by omega) (by omega) (by rw [finish_ends hP.same hP.nice]; omega)
  · unfold fromOf
    rw [finish_ends hP.same hP.nice]
    exact start_le _ k hk'
  · rw [finish_ends hP.same hP.nice, hol]
    exact end_le _ k hk'
theorem order_apart {Z : Nat → Prop} {w : World} {b vb gO n c : Nat} {F : Form} {cs : Array Value} (h : Firm Z (fun w => RefAt 0 w b F) w) (hv : ¬ Z vb) (hvb : w.heap[vb]? = some (.cells cs 3 (0, 0))) (h0 : w.cell? ⟨b, 0, none⟩ = some (.slice (some ⟨gO, 0, none⟩) n c)) (hpos : 0 < F.order.length) : gO ≠ vb := by
  intro e
  subst e
  have hR' := h (· = gO) _ ((Only.refl (· = gO) w).setAt 0 (.bool true)) (fun k hk e => hv (e ▸ hk))
  obtain ⟨_, vO, vE, vC, h2, h3, _⟩ := h.now
  obtain ⟨_, vO', vE', vC', h2', h3', _⟩ := hR'
  have hne : b ≠ gO := fun e => by rw [e] at h2; exact absurd (blk_type h2 hvb) (by decide)
  rw [Below.heap_setCell _ _ _ _ hne, h2] at h2'
  have hvO : vO = .slice (some ⟨gO, 0, none⟩) n c := by
    rw [blk_cell h2] at h0
    injection h0
  have hvO' : vO' = vO := by
    injection h2' with h2'
    injection h2' with h2' _ _
    have := congrArg (fun a => a[0]?) h2'
    simpa using this.symm
  rw [hvO', hvO] at h3'
  rw [hvO] at h3
  obtain ⟨g1, c1, e1, _, _, _, hc1⟩ := own_pos h3 hpos
  obtain ⟨g2, c2, e2, _, _, _, hc2⟩ := own_pos h3' hpos
  injection e1 with e1 _ _
  injection e1 with e1
  injection e1 with e1
  injection e2 with e2 _ _
  injection e2 with e2
  injection e2 with e2
  subst e1 e2
  have a1 := hc1 0 _ (show (ints F.order)[0]? = some (.int .i64 (F.order[0] : Int)) by simp [ints, hpos])
  have a2 := hc2 0 _ (show (ints F.order)[0]? = some (.int .i64 (F.order[0] : Int)) by simp [ints, hpos])
  have hs := blk_set hvb 0 (.bool true)
  rw [blk_cell hvb] at a1
  rw [blk_cell hs] at a2
  have hsz : 0 < cs.size := (Array.getElem?_eq_some_iff.1 a1).1
  rw [Array.getElem?_setIfInBounds_self_of_lt hsz] at a2
  cases a2
theorem uni_first {st : RS} {q0 : QS} (hP : Pair st q0) {b : List Nat} (hb : b ∈ progBlocks (qFinish q0).vars) (kind : Nat) (hk : kind = 1 ∨ kind = 2) (v : Nat) (hv : b.head? = some v) : ((finish st).all.testBit v == (kind == 2)) = !winsW (qFinish q0) kind b := by
  have hvb : v ∈ b := List.mem_of_mem_head? (by rw [hv]; simp)
  have hm : v ∈ (progBlocks (qFinish q0).vars).flatten := List.mem_flatten.2 ⟨b, hb, hvb⟩
  rw [progBlocks_flat] at hm
  obtain ⟨x, hx, rfl⟩ := List.mem_map.1 hm
  have h := wins_all hP.qg hk hb hx hvb
  rw [← h, kinds_eq hP.same hP.nice x hx]
  rfl
set_option maxRecDepth 100000 in
set_option maxHeartbeats 800000 in
theorem universalB_any {lo b k : Nat} {st : RS} {q0 : QS} {w : World} (hP : Pair st q0) (hF : RefAt lo w b (finish st)) (hk : k < (progBlocks (qFinish q0).vars).length) (kind : Nat) (hkd : kind = 1 ∨ kind = 2) :
    Calls Tryz.prog 84 #[.pointer (some ⟨b, 0, none⟩), .int .i64 k] w fun e w' => ∃ u, e = .returned (.bool u) ∧ (u == (kind == 2)) = !winsW (qFinish q0) kind (progBlocks (qFinish q0).vars)[k] ∧ Below w.heap.size w w' := by
  have hb := List.getElem_mem hk
  obtain ⟨hne, _⟩ := progBlocks_kind (qFinish q0).vars _ hb
  have HU : Hid (∀ v, (progBlocks (qFinish q0).vars)[k].head? = some v → ((finish st).all.testBit v == (kind == 2)) = !winsW (qFinish q0) kind (progBlocks (qFinish q0).vars)[k]) := hide (fun v hv => uni_first hP hb kind hkd v hv)
  have h9 : (finish st).all < 512 := hP.fw.all
  have hvr : ∀ v ∈ (progBlocks (qFinish q0).vars)[k], v ≤ 8 := fun v hv => ((bbd_of hP.qb 1).row ((progBlocks (qFinish q0).vars)[k], _) (List.mem_map.2 ⟨_, hb, rfl⟩)).2 v hv |>.2
  go_enter Tryz.func84, Tryz.ntmps84
  go_wp2_with fail
  refine (blockP_any hP hF hk).mono ?_
  rintro e w1 ⟨v, rfl, hI, hb1, _⟩
  have hF1 := hF.later hb1
  have h1 : w1.cell? ⟨b, 1, none⟩ = some (.int .i64 ((finish st).all : Int)) := by
    obtain ⟨_, vO, vE, vC, h2, _⟩ := hF1
    rw [blk_cell h2]; rfl
  have lb := cell_lt h1
  have HW : Hid (∀ u, (u == (kind == 2)) = !winsW (qFinish q0) kind (progBlocks (qFinish q0).vars)[k] → ∀ e w', e = Ending.returned (.bool u) → Below w.heap.size w w' → ∃ u, e = .returned (.bool u) ∧ (u == (kind == 2)) = !winsW (qFinish q0) kind (progBlocks (qFinish q0).vars)[k] ∧ Below w.heap.size w w') := hide (fun u hu e w' he hb => ⟨u, he, hu, hb⟩)
  obtain ⟨row, hrow⟩ : ∃ row, (progBlocks (qFinish q0).vars)[k] = row := ⟨_, rfl⟩
  rw [hrow] at hI hvr hne
  have HRO := hide hrow
  clear hrow
  cases row with
  | nil => exact absurd rfl hne
  | cons v r =>
    obtain ⟨ao, cap, rfl, hI2⟩ := hI
    obtain ⟨g, off, rfl, hc⟩ := hI2 0 (by simp)
    have hc0 : w1.cell? ⟨g, off, none⟩ = some (.int .i64 (v : Int)) := hc
    have lg := cell_lt hc0
    have hv8 := hvr v (by simp)
    clear hI2 hc
    go_wp2_with fail
    refine (universal_any b (finish st).all v _ h9 hv8 h1).mono ?_
    rintro e w2 ⟨rfl, hw2⟩
    subst hw2
    go_wp2_with fail
    go_ret
    exact unhide HW _ (unhide HU v (by rw [unhide HRO]; rfl)) _ _ rfl hb1

/-! ### next -/
/-- The first losing block from k on. -/
def nextTo (q : QS) (kind : Nat) : Nat → Nat → Nat
  | 0, k => k
  | m + 1, k => if winsW q kind ((progBlocks q.vars).getD k []) then nextTo q kind m (k + 1) else k
def nextP (q : QS) (kind k : Nat) : Nat := nextTo q kind ((progBlocks q.vars).length - k) k
theorem nextTo_eq (q : QS) (kind : Nat) : ∀ (m k t : Nat), k + m = (progBlocks q.vars).length → k ≤ t → t ≤ (progBlocks q.vars).length → (∀ j (hj : j < (progBlocks q.vars).length), k ≤ j → j < t → winsW q kind (progBlocks q.vars)[j] = true) → (∀ h : t < (progBlocks q.vars).length, winsW q kind (progBlocks q.vars)[t] = false) → nextTo q kind m k = t := by
  intro m
  induction m with
  | zero => intro k t h1 h2 h3 _ _; show k = t; omega
  | succ m ih =>
    intro k t h1 h2 h3 h4 h5
    have hk : k < (progBlocks q.vars).length := by omega
    have hg : (progBlocks q.vars).getD k [] = (progBlocks q.vars)[k] := by simp [List.getD, hk]
    rw [nextTo, hg]
    by_cases e : k = t
    · subst e; rw [h5 hk]; rfl
    · rw [h4 k hk (Nat.le_refl _) (by omega), if_pos rfl]
      exact ih (k + 1) t (by omega) (by omega) h3 (fun j hj a b => h4 j hj (by omega) b) h5
theorem nextP_eq (q : QS) (kind k t : Nat) (h1 : k ≤ t) (h2 : t ≤ (progBlocks q.vars).length) (h3 : ∀ j (hj : j < (progBlocks q.vars).length), k ≤ j → j < t → winsW q kind (progBlocks q.vars)[j] = true) (h4 : ∀ h : t < (progBlocks q.vars).length, winsW q kind (progBlocks q.vars)[t] = false) : nextP q kind k = t :=
  nextTo_eq q kind _ k t (by omega) h1 h2 h3 h4
set_option maxRecDepth 100000 in
set_option maxHeartbeats 1600000 in
theorem next_any {gb b2 kind k : Nat} {st : RS} {q0 : QS} {w : World} {cells : Array Value} (hP : Pair st q0) (hg : w.heap[gb]? = some (.cells cells 87 (0, 0))) (hg2 : cells[2]? = some (.pointer (some ⟨b2, 0, none⟩))) (hg4 : cells[4]? = some (.int .i64 (kind : Int))) (hF : RefAt 0 w b2 (finish st)) (hkd : kind = 1 ∨ kind = 2) (hk : k ≤ (progBlocks (qFinish q0).vars).length) :
    Calls Tryz.prog 54 #[.pointer (some ⟨gb, 0, none⟩), .int .i64 k] w fun e w' => e = .returned (.int .i64 (nextP (qFinish q0) kind k : Nat)) ∧ Below w.heap.size w w' := by
  have lg := blk_lt hg
  have c2 : w.cell? ⟨gb, 2, none⟩ = some (.pointer (some ⟨b2, 0, none⟩)) := by rw [blk_cell hg]; exact hg2
  obtain ⟨aE, cE, hE, lb⟩ := ref_ends hF
  rw [hP.ends] at hE
  have hn8 := blocks_le (qFinish q0).vars (vars_le hP.nice)
  go_enter Tryz.func54, Tryz.ntmps54
  go_wp2_with fail
  go_loopg [1] ((progBlocks (qFinish q0).vars).length - k) (fun m i wx => ∃ (j : Nat), i = .int .i64 j ∧ j + m = (progBlocks (qFinish q0).vars).length ∧ nextP (qFinish q0) kind k = nextTo (qFinish q0) kind m j ∧ Below w.heap.size w wx)
  case atStart => exact ⟨k, rfl, by omega, rfl, Below.refl _ _⟩
  case round =>
    obtain ⟨j, rfl, hjm, hnx, hb⟩ := hrel
    have HNX := hide hnx
    clear hnx
    have hgr := (hb.block _ lg).trans hg
    have d2 : wr.cell? ⟨gb, 2, none⟩ = some (.pointer (some ⟨b2, 0, none⟩)) := by rw [blk_cell hgr]; exact hg2
    have d4 : wr.cell? ⟨gb, 4, none⟩ = some (.int .i64 (kind : Int)) := by rw [blk_cell hgr]; exact hg4
    have lgr := blk_lt hgr
    by_cases hlt : j < (progBlocks (qFinish q0).vars).length
    · obtain ⟨m, rfl⟩ : ∃ m, gk = m + 1 := ⟨gk - 1, by omega⟩
      have hgd : (progBlocks (qFinish q0).vars).getD j [] = (progBlocks (qFinish q0).vars)[j] := by simp [List.getD, hlt]
      have HST : Hid (nextTo (qFinish q0) kind (m + 1) j = if winsW (qFinish q0) kind (progBlocks (qFinish q0).vars)[j] then nextTo (qFinish q0) kind m (j + 1) else j) := hide (by rw [nextTo, hgd])
      clear hgd
      go_wp2_with fail
      refine (universalB_any hP (hF.later hb) hlt kind hkd).mono ?_
      rintro e w1 ⟨u, rfl, hu, hb1⟩
      have hB1 := hb.trans (hb1.mono hb.size)
      have hg1 := (hb1.block _ lgr).trans hgr
      have e4 : w1.cell? ⟨gb, 4, none⟩ = some (.int .i64 (kind : Int)) := by rw [blk_cell hg1]; exact hg4
      have lg1 := blk_lt hg1
      cases hw : winsW (qFinish q0) kind (progBlocks (qFinish q0).vars)[j] with
      | true =>
        have HF2 : Hid (nextP (qFinish q0) kind k = nextTo (qFinish q0) kind m (j + 1)) := hide (by rw [unhide HNX, unhide HST, hw]; rfl)
        rw [hw] at hu
        rcases hkd with rfl | rfl <;> cases u <;> simp at hu
        all_goals
          go_wp2_with fail
          go_roundg m
          case measure => omega
          case rel => exact ⟨j + 1, by go_num, by omega, unhide HF2, hB1⟩
      | false =>
        have HF2 : Hid (nextP (qFinish q0) kind k = j) := hide (by rw [unhide HNX, unhide HST, hw]; rfl)
        rw [hw] at hu
        rcases hkd with rfl | rfl <;> cases u <;> simp at hu
        all_goals
          go_wp2_with fail
          go_ret
          exact ⟨by rw [unhide HF2]; rfl, hB1⟩
    · have hj : j = (progBlocks (qFinish q0).vars).length := by omega
      have hm0 : gk = 0 := by omega
      have HF2 : Hid (nextP (qFinish q0) kind k = (progBlocks (qFinish q0).vars).length) := hide (by rw [unhide HNX, hm0]; exact hj)
      clear hm0
      subst hj
      go_wp2_with fail
      go_ret
      exact ⟨by rw [unhide HF2]; rfl, hb⟩
end Go.Proofs.YtgipjjhkhfihpaaGreatDoor

namespace Go.Proofs.YtgipjjhkhfihpaaGreatDoor
open Go.RowKit

/-! ### What is told, bit by bit -/
def toldB (l : List Nat) : Nat := l.foldl (fun a v => a ||| 2 ^ v) 0
def trueB (c : Nat × Nat) (l : List Nat) : Nat := l.foldl (fun a v => if valV c v = 1 then a ||| 2 ^ v else a) 0
def valB (c : Nat × Nat) (val : List Int) (l : List Nat) : List Int := l.foldl (fun a v => a.set (v - 1) (valV c v)) val
theorem toldB_snoc (l : List Nat) (v : Nat) : toldB (l ++ [v]) = toldB l ||| 2 ^ v := by unfold toldB; rw [List.foldl_append]; rfl
theorem trueB_snoc (c : Nat × Nat) (l : List Nat) (v : Nat) : trueB c (l ++ [v]) = if valV c v = 1 then trueB c l ||| 2 ^ v else trueB c l := by unfold trueB; rw [List.foldl_append]; rfl
theorem valB_snoc (c : Nat × Nat) (val : List Int) (l : List Nat) (v : Nat) : valB c val (l ++ [v]) = (valB c val l).set (v - 1) (valV c v) := by unfold valB; rw [List.foldl_append]; rfl
theorem toldB_bit (l : List Nat) : ∀ a v, (l.foldl (fun a v => a ||| 2 ^ v) a).testBit v = (a.testBit v || decide (v ∈ l)) := by
  induction l with
  | nil => intro a v; simp
  | cons u l ih =>
    intro a v
    rw [List.foldl_cons, ih, Nat.testBit_or, testBit_pow]
    by_cases e : u = v
    · subst e; simp
    · have : (v ∈ u :: l) ↔ v ∈ l := ⟨fun h => (List.mem_cons.1 h).elim (fun h => (e h.symm).elim) id, List.mem_cons_of_mem _⟩
      have e2 : (u == v) = false := by simpa using e
      simp [e2, this]
theorem toldB_at (l : List Nat) (v : Nat) : (toldB l).testBit v = decide (v ∈ l) := by unfold toldB; rw [toldB_bit]; simp
theorem trueB_bit (c : Nat × Nat) (l : List Nat) : ∀ a v, (l.foldl (fun a v => if valV c v = 1 then a ||| 2 ^ v else a) a).testBit v = (a.testBit v || (decide (v ∈ l) && decide (valV c v = 1))) := by
  induction l with
  | nil => intro a v; simp
  | cons u l ih =>
    intro a v
    rw [List.foldl_cons, ih]
    by_cases e : u = v
    · subst e
      by_cases h : valV c u = 1
      · rw [if_pos h, Nat.testBit_or, testBit_pow]; simp [h]
      · rw [if_neg h]; simp [h]
    · have : (v ∈ u :: l) ↔ v ∈ l := ⟨fun h => (List.mem_cons.1 h).elim (fun h => (e h.symm).elim) id, List.mem_cons_of_mem _⟩
      have e2 : (u == v) = false := by simpa using e
      split
      · rw [Nat.testBit_or, testBit_pow]; simp [e2, this]
      · simp [this]
theorem trueB_at (c : Nat × Nat) (l : List Nat) (v : Nat) : (trueB c l).testBit v = (decide (v ∈ l) && decide (valV c v = 1)) := by unfold trueB; rw [trueB_bit]; simp
theorem or_pow_lt (a v : Nat) (ha : a < 512) (hv : v ≤ 8) : a ||| 2 ^ v < 512 := by
  refine Nat.or_lt_two_pow (n := 9) ha ?_
  exact Nat.pow_lt_pow_right (by decide) (by omega)
theorem toldB_lt (l : List Nat) (h : ∀ v ∈ l, v ≤ 8) : toldB l < 512 := by
  unfold toldB
  suffices hh : ∀ a, a < 512 → l.foldl (fun a v => a ||| 2 ^ v) a < 512 from hh 0 (by decide)
  induction l with
  | nil => intro a ha; exact ha
  | cons u l ih => intro a ha; exact ih (fun v hv => h v (List.mem_cons_of_mem _ hv)) _ (or_pow_lt a u ha (h u (by simp)))
theorem trueB_lt (c : Nat × Nat) (l : List Nat) (h : ∀ v ∈ l, v ≤ 8) : trueB c l < 512 := by
  unfold trueB
  suffices hh : ∀ a, a < 512 → l.foldl (fun a v => if valV c v = 1 then a ||| 2 ^ v else a) a < 512 from hh 0 (by decide)
  induction l with
  | nil => intro a ha; exact ha
  | cons u l ih =>
    intro a ha
    rw [List.foldl_cons]
    refine ih (fun v hv => h v (List.mem_cons_of_mem _ hv)) _ ?_
    split
    · exact or_pow_lt a u ha (h u (by simp))
    · exact ha
theorem valB_len (c : Nat × Nat) (l : List Nat) : ∀ val, (valB c val l).length = val.length := by
  unfold valB
  induction l with
  | nil => intro val; rfl
  | cons u l ih => intro val; rw [List.foldl_cons, ih]; simp
theorem valB_at (c : Nat × Nat) (l : List Nat) (h : ∀ v ∈ l, 1 ≤ v ∧ v ≤ 8) (v : Nat) (h1 : 1 ≤ v) (h8 : v ≤ 8) : ∀ val : List Int, val.length = 8 → (valB c val l).getD (v - 1) 0 = if v ∈ l then valV c v else val.getD (v - 1) 0 := by
  unfold valB
  induction l with
  | nil => intro val _; simp
  | cons u l ih =>
    intro val hl
    rw [List.foldl_cons, ih (fun v hv => h v (List.mem_cons_of_mem _ hv)) _ (by simpa using hl)]
    have hu := h u (by simp)
    by_cases hv : v ∈ l
    · rw [if_pos hv, if_pos (List.mem_cons_of_mem _ hv)]
    · rw [if_neg hv]
      by_cases e : v = u
      · subst e
        rw [if_pos (by simp), List.getD, List.getElem?_set_self (by omega)]; rfl
      · rw [if_neg (by simp [e, hv]), List.getD, List.getElem?_set_ne (by omega)]; rfl
/-- All values, as a list. -/
def valsL (c : Nat × Nat) : List Int := (List.range 8).map (fun i => valV c (i + 1))
theorem valsL_at (c : Nat × Nat) (v : Nat) (h1 : 1 ≤ v) (h8 : v ≤ 8) : (valsL c).getD (v - 1) 0 = valV c v := by
  unfold valsL
  rw [List.getD, List.getElem?_map, List.getElem?_range (by omega)]
  simp [show v - 1 + 1 = v from by omega]
theorem list8_ext {a b : List Int} (ha : a.length = 8) (hb : b.length = 8) (h : ∀ v, 1 ≤ v → v ≤ 8 → a.getD (v - 1) 0 = b.getD (v - 1) 0) : a = b := by
  apply List.ext_getElem (by omega)
  intro i h1 h2
  have := h (i + 1) (by omega) (by omega)
  rw [Nat.add_sub_cancel, List.getD, List.getD, List.getElem?_eq_getElem h1, List.getElem?_eq_getElem h2] at this
  exact this
theorem valB_all {q : QS} (hq : QGood q) {kind : Nat} {rs : List RuleP} {g : GS} {bs : List Bool} (h : Run q kind rs g bs) {val : List Int} (hl : val.length = 8) (hok : ∀ v, 1 ≤ v → v ≤ 8 → val.getD (v - 1) 0 = 0 ∨ val.getD (v - 1) 0 = valV g.vals v) : valB g.vals val ((q.vars.map (·.1)).take bs.length) = valsL g.vals := by
  refine list8_ext (by rw [valB_len]; exact hl) (by simp [valsL]) (fun v h1 h8 => ?_)
  rw [valB_at _ _ (fun v hv => hq.name (List.mem_of_mem_take hv)) v h1 h8 val hl, valsL_at _ v h1 h8]
  split
  · rfl
  · next hn =>
    have h0 : valV g.vals v = 0 := run_none hq h (fun j hj hjb e => hn (by
      rw [List.mem_take_iff_getElem]
      exact ⟨j, by simp; omega, by simpa using e⟩))
    rcases hok v h1 h8 with e | e
    · rw [e, h0]
    · exact e
theorem trueB_all {q : QS} (hq : QGood q) {kind : Nat} {rs : List RuleP} {g : GS} {bs : List Bool} (h : Run q kind rs g bs) (ht : g.turn = (progBlocks q.vars).length) : trueB g.vals (q.vars.map (·.1)) = g.vals.1 := by
  have hl : bs.length = q.vars.length := by rw [h.len, ht, offs_all, progBlocks_flat, List.length_map]
  apply Nat.eq_of_testBit_eq
  intro v
  rw [trueB_at]
  cases hv : g.vals.1.testBit v with
  | true =>
    obtain ⟨j, hj, hb, e1, e2⟩ := (run_L hq h true v).1 hv
    have hval := run_val hq h hj hb
    rw [e2, e1] at hval
    rw [hval, Bool.and_eq_true]
    exact ⟨decide_eq_true (by rw [← e1]; exact List.mem_map_of_mem (List.getElem_mem hj)), by decide⟩
  | false =>
    cases hc : (decide (v ∈ q.vars.map (·.1)) && decide (valV g.vals v = 1)) with
    | false => rfl
    | true =>
      rw [Bool.and_eq_true] at hc
      have h1 : valV g.vals v = 1 := by simpa using hc.2
      unfold valV at h1
      split at h1
      · omega
      · split at h1
        · next hh => rw [show L g.vals true v = g.vals.1.testBit v from rfl, hv] at hh; cases hh
        · omega
end Go.Proofs.YtgipjjhkhfihpaaGreatDoor
