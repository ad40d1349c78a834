import Derived.Test.YtbpolmdokdhkhaaListsInv
import Derived.Test.YtbpolmdokdhkhaaBlockRef
import Derived.Test.YtbpolmdokdhkhaaDBlocks
import Derived.Test.YtbpolmdokdhkhaaAgree
namespace Go.Proofs.Ytbpolmdokdhkhaa
open Go.RowKit

theorem lists_nil {bw : Nat} {wx w4 : World} {v5 v6 v6' : Value} {h5s h6s : List Value} {text : List UInt8} {px pf : Option Addr} {proof : List UInt8} {c4 : Value} (hL : ListsAt bw wx v5 v6 h5s h6s) (hw : WAt wx bw text px pf proof c4 v5 v6)
    (hg : wx.grownBy w4 v6.ownBlock) (ho6 : w4.ownsRow (bw + 1) 56 1 v6' (h6s.length + 1) (h6s ++ [.slice none 0 0])) :
    WAt (w4.setCell ⟨bw, 6, none⟩ v6') bw text px pf proof c4 v5 v6' ∧ ListsAt bw (w4.setCell ⟨bw, 6, none⟩ v6') v5 v6' h5s (h6s ++ [.slice none 0 0]) ∧ Only (fun j => j = bw ∨ v5.ownBlock = some j ∨ v6.ownBlock = some j) wx (w4.setCell ⟨bw, 6, none⟩ v6') := by
  have hwt := hw
  unfold WAt at hwt
  have ho4 : Only (fun j => v6.ownBlock = some j) wx w4 := ⟨hg.os, hg.tape, hg.output, hg.size, fun k hk ht => hg.block k hk (fun e => ht e.symm)⟩
  have hbw6 : v6.ownBlock ≠ some bw := fun e => by have := (hL.o6.lt _ e).1; omega
  have hw4 : WAt w4 bw text px pf proof c4 v5 v6 := (ho4.block bw (blk_lt hwt) hbw6).trans hwt
  have hoS : Only (fun j => j = bw ∨ v6.ownBlock = some j) wx (w4.setCell ⟨bw, 6, none⟩ v6') := (ho4.mono (T' := fun j => j = bw ∨ v6.ownBlock = some j) (fun k _ h => Or.inr h)).setCell (p := ⟨bw, 6, none⟩) (Or.inl (Or.inl rfl)) _
  have hTS : ∀ ts : List TypeId, 59 ∉ ts → 56 ∉ ts → ∀ b k, k < wx.heap.size → (k = bw ∨ v6.ownBlock = some k) → Foreign b wx ts k := fun ts h1 h2 b k _ ht => by
    rcases ht with rfl | ht
    · exact Or.inr ⟨_, _, _, hwt, h1⟩
    · obtain ⟨c, hc⟩ := own_blk hL.o6 ht
      exact Or.inr ⟨_, _, _, hc, h2⟩
  refine ⟨blk_set hw4 6 _, ⟨own_only (ts := [25]) hL.o5 hoS (by simp) (hTS _ (by decide) (by decide) _), by simpa using ownsRow_setCell_below ho6 (a := ⟨bw, 6, none⟩) (Nat.lt_succ_self bw) _, hL.ls.only hoS (hTS _ (by decide) (by decide) _), ?_, ?_⟩, hoS.mono (fun k _ h => h.elim Or.inl (fun h => Or.inr (Or.inr h)))⟩
  · have hold : LssAt (w4.setCell ⟨bw, 6, none⟩ v6') h6s := lss_keep hL.lss hoS (fun i hi g c h1 h2 ht => by
      rcases hTS [25] (by decide) (by decide) 0 g (blk_lt h2) ht with h | ⟨c', t, fr, h4, h5⟩
      · omega
      · exact h5 (by rw [types_ne h4 h2]; simp)) (hTS _ (by decide) (by decide) _)
    intro i hi
    by_cases hil : i < h6s.length
    · rw [List.getElem_append_left hil]; exact hold i hil
    · have hie : i = h6s.length := by simp at hi; omega
      subst hie
      rw [List.getElem_concat_length rfl]
      exact Or.inl rfl
  · intro i hi
    by_cases hil : i < h6s.length
    · rw [List.getElem_append_left hil]; exact hL.ap i hil
    · have hie : i = h6s.length := by simp at hi; omega
      subst hie
      rw [List.getElem_concat_length rfl]
      exact (apart_nil _).symm

theorem Try.infoIntss : (Try.prog.info? 56).map (fun i => (i.zero, i.size, i.bytes)) = some (some (.slice none 0 0), 1, 24) := by kernel_rfl

theorem blockOf_eq {st : RS} {q : QS} (h : Same st q) (hn : QNice q) (k : Nat) (hk : k < (progBlocks (qFinish q).vars).length) : blockOf (finish st) k = (progBlocks (qFinish q).vars)[k] := by
  have e := progBlocks_eq (qFinish q).vars
  unfold blockOf fromOf
  rw [finish_ends h hn, order_eq h]
  simp only [e, List.getElem_map, List.getElem_range]
  rfl

theorem own_len {w : World} {base : Nat} {e : TypeId} {size : Nat} {v : Value} {n : Nat} {xs : List Value} (h : w.ownsRow base e size v n xs) : n ≤ maxLen := by
  rcases h.2 with ⟨_, h⟩ | ⟨g, cap, cur, _, _, _, h1, h2, _⟩ <;> omega

structure BlocksPost (bw : Nat) (text : List UInt8) (px pf : Option Addr) (proof : List UInt8) (c4 v5 v6 : Value) (n5 n6 : Nat) (w : World) (e : Ending) (w' : World) : Prop where
  ret : e = .returned (.bool true)
  only : Only (fun j => j = bw ∨ v5.ownBlock = some j ∨ v6.ownBlock = some j) w w'
  at_ : ∃ v5' v6' h5s h6s, WAt w' bw text px pf proof c4 v5' v6' ∧ ListsAt bw w' v5' v6' h5s h6s ∧ h5s.length ≤ n5 + 8 ∧ h6s.length = n6 + 1

set_option maxRecDepth 100000 in
set_option maxHeartbeats 3200000 in
theorem blocks_any (bw b b' : Nat) (st : RS) (q0 : QS) (text : List UInt8) (proof : List UInt8) (c4 v5 v6 : Value) (h5s h6s : List Value) (w : World)
    (hw : WAt w bw text (some ⟨b, 0, none⟩) (some ⟨b', 0, none⟩) proof c4 v5 v6) (hP : ProgAt (bw + 1) w b (qFinish q0)) (hR : RefAt (bw + 1) w b' (finish st)) (hS : Same st q0) (hN : QNice q0) (hL : ListsAt bw w v5 v6 h5s h6s)
    (hn5 : h5s.length ≤ 1048576000) (hn6 : h6s.length ≤ 1073741823) :
    Calls Try.prog 33 #[.pointer (some ⟨bw, 0, none⟩)] w fun e w' => BlocksPost bw text (some ⟨b, 0, none⟩) (some ⟨b', 0, none⟩) proof c4 v5 v6 h5s.length h6s.length w e w' := by
  have hbw : bw < w.heap.size := blk_lt hw
  have k1 : w.cell? ⟨bw, 1, none⟩ = some (.pointer (some ⟨b, 0, none⟩)) := by rw [blk_cell hw]; rfl
  have hvl := vars_le hN
  have HPB : Hid (∀ k (hk : k < (progBlocks (qFinish q0).vars).length), blockOf (finish st) k = (progBlocks (qFinish q0).vars)[k]) := hide (fun k hk => blockOf_eq hS hN k hk)
  have hel : (finish st).ends.length = (progBlocks (qFinish q0).vars).length := by rw [finish_ends hS hN, progBlocks_len]
  have hel8 : (progBlocks (qFinish q0).vars).length ≤ 8 := by rw [progBlocks_len]; have := ends_len (qFinish q0).vars; omega
  have hol : (finish st).order.length = (qFinish q0).vars.length := by rw [order_eq hS]; simp
  have HFE : Hid (∀ k, k < (progBlocks (qFinish q0).vars).length → fromOf (finish st) k ≤ (finish st).ends.getD k 0 ∧ (finish st).ends.getD k 0 ≤ (finish st).order.length ∧ 0 < (finish st).order.length) := hide (fun k hk => by
    have hk' : k < (endsOf (qFinish q0).vars).length := by rw [← progBlocks_len]; exact hk
    have h1 := start_le _ k hk'
    have h2 := end_le _ k hk'
    have h3 := ends_len (qFinish q0).vars
    unfold fromOf
    rw [finish_ends hS hN, hol]
    exact ⟨h1, h2, by omega⟩)
  obtain ⟨i0, hi, hz0, hz1, hz2⟩ := info_parts Try.infoIntss
  go_enter Try.func33, Try.ntmps33
  go_wp2_with fail
  refine (dblocks_any (bw + 1) b (qFinish q0) w hP (by omega)).mono ?_
  rintro e w1 ⟨v, hdrs, rfl, hown, hrows, hb1⟩
  have hw1 := hw.later hb1
  have hR1 := hR.later hb1
  have hbs1 := hb1.size
  clear hP hS hN
  generalize progBlocks (qFinish q0).vars = pb at *
  generalize finish st = F at *
  obtain ⟨_, vO, vE, vC, hfb, hO, hE, _⟩ := id hR1
  obtain ⟨aE, cE, rfl⟩ := own_form hE
  rw [hel] at hfb
  have k2 : w1.cell? ⟨bw, 2, none⟩ = some (.pointer (some ⟨b', 0, none⟩)) := by rw [blk_cell hw1]; rfl
  have kE : w1.cell? ⟨b', 2, none⟩ = some (.slice aE pb.length cE) := by rw [blk_cell hfb]; rfl
  have hne : ((pb.length : Int) != (pb.length : Int)) = false := by simp
  have hdl := hrows.len
  rcases hown.2 with ⟨rfl, hz⟩ | ⟨h, cap, cur, rfl, hhb, hhr, hnc, hcm, hcs, htk⟩
  · obtain rfl : pb = [] := List.length_eq_zero_iff.1 hz
    have kE' : w1.cell? ⟨b', 2, none⟩ = some (.slice aE 0 cE) := kE
    clear kE hne
    have h6 : w1.cell? ⟨bw, 6, none⟩ = some v6 := by rw [blk_cell hw1]; rfl
    have hL1 := hL.later hb1
    obtain ⟨a6, c6, rfl⟩ := own_form hL1.o6
    have hbs : bw + 1 ≤ w1.heap.size := by omega
    go_wp2_with fail
    refine wp_loop_rounds 1 ?_
    rw [rounds_succ]
    go_wp2_with fail
    refine wp_loop_rounds 1 ?_
    rw [rounds_succ]
    go_wp2_with fail
    refine wp_loop_rounds 1 ?_
    rw [rounds_succ]
    have hbw6 : (Value.slice a6 h6s.length c6).ownBlock ≠ some bw := fun e => by have := (hL1.o6.lt _ e).1; omega
    go_wp2_with (at_builtin; refine wpList_append_at rfl (.tmp 100) (.tmp 102) 57 rfl (bw + 1) i0 (.slice none 0 0) 1 24 Try.underlying57 hi hz0 hz1 hz2 rfl (by decide) _ _ _ hL1.o6 rfl rfl rfl (by simp [Value.oneCell']) (by unfold maxLen; omega) (by omega) hbs ?_; intro v' w4 hown4 hgrow hat; have hw4 : WAt w4 bw text (some ⟨b, 0, none⟩) (some ⟨b', 0, none⟩) proof c4 v5 (.slice a6 h6s.length c6) := (hgrow.block bw (blk_lt hw1) (fun e => hbw6 e.symm)).trans hw1; obtain ⟨g3, cap3, rfl, hg3, hg3', hcap3, hcell3⟩ := own_pos hown4 (by omega); have hq6 : w4.cell? ⟨bw, 6, none⟩ = some (.slice a6 h6s.length c6) := (by rw [blk_cell hw4]; rfl); have hqz := blk_free hw4 6)
    go_ret
    obtain ⟨hA, hB, hC⟩ := lists_nil hL1 hw1 hgrow hown4
    exact ⟨rfl, (Only.of_below hb1).trans hC, _, _, _, _, hA, hB, by omega, by simp⟩
  · have HB1 := hide hb1
    have hw1' := hw1
    unfold WAt at hw1'
    go_wp2_with fail
    go_loopg [4] pb.length (fun q i wx => ∃ k : Nat, i = .int .i64 k ∧ k + q = pb.length ∧ Below w1.heap.size w1 wx)
    case atStart => exact ⟨0, rfl, by omega, Below.refl _ _⟩
    case round =>
      obtain ⟨k, rfl, hk, hbx⟩ := hrel
      obtain ⟨wo, rfl⟩ : ∃ wo, wo = wr := ⟨_, rfl⟩
      obtain ⟨go, rfl⟩ : ∃ go, go = gk := ⟨_, rfl⟩
      have hbsx := hbx.size
      by_cases hlt : k < pb.length
      · have x2 : wo.cell? ⟨bw, 2, none⟩ = some (.pointer (some ⟨b', 0, none⟩)) := by rw [hbx.cell (p := ⟨bw, 2, none⟩) (by show bw < _; omega)]; exact k2
        have hdk : decide ((k : Int) < (pb.length : Int)) = true := by simp; omega
        obtain ⟨hf1, hf2, hf3⟩ := unhide HFE k hlt
        go_wp2_with fail
        refine (block_any (bw + 1) b' k F wo (hR1.later hbx) (by omega) hf1 hf2 (by omega) hf3 (by omega)).mono ?_
        rintro e w2 ⟨vb, rfl, hints, hb2⟩
        have hbx2 : Below w1.heap.size w1 w2 := hbx.trans (hb2.mono hbsx)
        rw [unhide HPB k hlt] at hints
        obtain ⟨ab, cb, rfl, hcb⟩ := hints
        obtain ⟨hrk, hrne⟩ := hrows.row k hlt
        obtain ⟨gk', ck', hke, hgk, hgk', _, hcellk⟩ := own_pos hrk (List.length_pos_iff.2 hrne)
        have hhk : w2.cell? ⟨h, k, none⟩ = some (.slice (some ⟨gk', 0, none⟩) pb[k].length ck') := by
          rw [hbx2.cell (p := ⟨h, k, none⟩) (blk_lt hhr), blk_cell hhr]
          have e1 : (cur.toList.take (pb.length * 1))[k]? = some hdrs[k] := by rw [htk]; exact List.getElem?_eq_getElem (by omega)
          rw [List.getElem?_take, if_pos (by omega)] at e1
          rw [hke] at e1
          simpa using e1
        have hne2 : ((pb[k].length : Int) != (pb[k].length : Int)) = false := by simp
        have hbs2 := hbx2.size
        have hpl := own_len hrk
        unfold maxLen at hpl
        go_wp2_with fail
        go_loopg [6] pb[k].length (fun q i wx => ∃ j : Nat, i = .int .i64 j ∧ j + q = pb[k].length ∧ Below w2.heap.size w2 wx)
        case atStart => exact ⟨0, rfl, by omega, Below.refl _ _⟩
        case round =>
          obtain ⟨j, rfl, hj, hby⟩ := hrel
          have hbys := hby.size
          by_cases hjl : j < pb[k].length
          · obtain ⟨gb, ob, rfl, hcj⟩ := hcb j hjl
            have y1 : wr.cell? ⟨gb, ob + j, none⟩ = some (.int .i64 (pb[k][j] : Int)) := by rw [hby.cell (p := ⟨gb, ob + j, none⟩) (cell_lt hcj)]; exact hcj
            have y2 : wr.cell? ⟨gk', j, none⟩ = some (.int .i64 (pb[k][j] : Int)) := by
              rw [hby.cell (p := ⟨gk', j, none⟩) (by show gk' < _; omega), hbx2.cell (p := ⟨gk', j, none⟩) hgk']
              exact hcellk j _ (by simp [ints, hjl])
            have y3 : wr.cell? ⟨h, k, none⟩ = some (.slice (some ⟨gk', 0, none⟩) pb[k].length ck') := by
              rw [hby.cell (p := ⟨h, k, none⟩) (cell_lt hhk)]; exact hhk
            have hdj : decide ((j : Int) < (pb[k].length : Int)) = true := by simp; omega
            have hne3 : ((pb[k][j] : Int) != (pb[k][j] : Int)) = false := by simp
            generalize pb[k][j] = x at *
            go_wp2_with fail
            go_quiet (fail)
            go_wp2_with fail
            go_roundg (gk - 1)
            case measure => omega
            case rel => exact ⟨j + 1, by go_num, by omega, below_drewN hby nq⟩
          · have hdj : decide ((j : Int) < (pb[k].length : Int)) = false := by simp; omega
            have hjk : j ≤ pb[k].length := by omega
            go_wp2_with fail
            go_roundg (go - 1)
            case measure => omega
            case rel => exact ⟨k + 1, by go_num, by omega, hbx2.trans (hby.mono hbs2)⟩
      · have hkl : k = pb.length := by omega
        subst hkl
        have hdk : decide ((pb.length : Int) < (pb.length : Int)) = false := by simp
        have hb0 : Below w.heap.size w wo := hb1.trans (hbx.mono hbs1)
        have hrow0 : wo.heap[h]? = some (.cells cur 25 (0, 0)) := (hbx.block h (blk_lt hhr)).trans hhr
        have hM0 := Marking.start hw hL hb0 rfl hhb hrow0 (hrows.later hbx)
        have hcs' : cur.size = cap := by simpa using hcs
        have HCS := hide hcs'
        have HTK := hide htk
        have HAP := hide hrows.apart
        clear hcs hcs' htk
        go_wp2_with fail
        go_loopg [7] pb.length (fun q i wx => ∃ (k : Nat) (v5x : Value) (h5x : List Value), i = .int .i64 k ∧ k + q = pb.length ∧ h5x.length = h5s.length + k ∧ Marking bw h w v5 text (some ⟨b, 0, none⟩) (some ⟨b', 0, none⟩) proof c4 v6 hdrs cur k v5x h5x wx)
        case atStart => exact ⟨0, v5, h5s, rfl, by omega, rfl, hM0⟩
        case round =>
          obtain ⟨k, v5x, h5x, rfl, hk2, hl5, hM⟩ := hrel
          obtain ⟨gm, rfl⟩ : ∃ gm, gm = gk := ⟨_, rfl⟩
          by_cases hlt2 : k < pb.length
          · have hkd : k < hdrs.length := by omega
            obtain ⟨g, n, capg, cu, he, hg0, hgt, hcu, hnc2, hcm2⟩ := hM.fresh k (Nat.le_refl _) hkd
            have hhk : wr.cell? ⟨h, k, none⟩ = some (.slice (some ⟨g, 0, none⟩) n capg) := by
              rw [blk_cell hM.row]
              have e1 : (cur.toList.take (pb.length * 1))[k]? = some hdrs[k] := by rw [unhide HTK]; exact List.getElem?_eq_getElem hkd
              rw [List.getElem?_take, if_pos (by omega)] at e1
              rw [he] at e1
              simpa using e1
            have hdk2 : decide ((k : Int) < (pb.length : Int)) = true := by simp; omega
            have HE := hide he
            clear he
            go_wp2_with fail
            refine (mine_any bw g n capg cu h5x.length h5x v5x text _ _ proof c4 v6 wr hM.at_ hgt hcu hnc2 hcm2 hM.o5 (by omega)).mono ?_
            rintro e w3 hp
            have hpr := hp.ret
            subst hpr
            obtain ⟨v5y, hM3⟩ := hM.mine hhb hkd (unhide HE) hg0 ⟨cu, hgt⟩ hcm2 (unhide HAP) hp
            go_wp2_with fail
            go_roundg (gm - 1)
            case measure => omega
            case rel => exact ⟨k + 1, v5y, _, by go_num, by omega, by simp; omega, hM3⟩
          · have hkl2 : k = pb.length := by omega
            subst hkl2
            have hdk2 : decide ((pb.length : Int) < (pb.length : Int)) = false := by simp
            have hH0 : Heading bw h cap h6s.length w v5 text (some ⟨b, 0, none⟩) (some ⟨b', 0, none⟩) proof c4 v6 0 v5x h5x wr := Heading.start hM (unhide HCS)
            have hcm' := hcm
            unfold maxLen at hcm'
            have h6w : wr.cell? ⟨bw, 6, none⟩ = some v6 := by rw [blk_cell hM.at_]; rfl
            obtain ⟨a6, c6, rfl⟩ := own_form hL.o6
            go_wp2_with fail
            go_loopg [9] cap (fun q i wx => ∃ (k : Nat), i = .int .i64 k ∧ k + q = cap ∧ Heading bw h cap h6s.length w v5 text (some ⟨b, 0, none⟩) (some ⟨b', 0, none⟩) proof c4 (.slice a6 h6s.length c6) k v5x h5x wx)
            case atStart => exact ⟨0, rfl, by omega, hH0⟩
            case round =>
              obtain ⟨k, rfl, hk3, hH⟩ := hrel
              have x6 : wr.cell? ⟨bw, 6, none⟩ = some (.slice a6 h6s.length c6) := by rw [blk_cell hH.at_]; rfl
              by_cases hlt3 : k < cap
              · have hdk3 : decide ((k : Int) < (cap : Int)) = true := by simp; omega
                obtain ⟨cs, hr1, hr2, _⟩ := hH.row
                obtain ⟨u, hu⟩ : ∃ u, wr.cell? ⟨h, k, none⟩ = some u := by
                  rw [blk_cell hr1]
                  exact ⟨_, Array.getElem?_eq_getElem (by omega)⟩
                have hz := blk_free hr1 k
                have hhl := blk_lt hr1
                have hH2 := hH.later ((Below.refl wr.heap.size wr).alloc (Nat.le_refl _) (.cells #[.int .i64 (h6s.length : Int), .int .i64 (k : Int)] 3))
                have hH3 := hH2.set hhb hlt3 (heap_alloc_new wr _)
                rw [World.setCell_alloc_past _ _ _ _ hhl] at hH3
                clear hH2
                go_wp2_with fail
                go_roundg (gk - 1)
                case measure => omega
                case rel => exact ⟨k + 1, by go_num, by omega, hH3⟩
              · have hkl3 : k = cap := by omega
                subst hkl3
                have hdk3 : decide ((k : Int) < (k : Int)) = false := by simp
                have hw0' := hw
                unfold WAt at hw0'
                have ho6x : wr.ownsRow (bw + 1) 56 1 (.slice a6 h6s.length c6) h6s.length h6s := own_only (ts := [56]) hL.o6 hH.only (by simp) (fun k _ ht => by
                  rcases ht with rfl | ht
                  · exact Or.inr ⟨_, _, _, hw0', by decide⟩
                  · obtain ⟨c, hc⟩ := own_blk hL.o5 ht
                    exact Or.inr ⟨_, _, _, hc, by decide⟩)
                have hwx := hH.at_
                have hbs : bw + 1 ≤ wr.heap.size := by have := blk_lt hwx; omega
                have hbw6 : (Value.slice a6 h6s.length c6).ownBlock ≠ some bw := fun e => by have := (ho6x.lt _ e).1; omega
                go_wp2_with (at_builtin; refine wpList_append_at rfl (.tmp 100) (.tmp 102) 57 rfl (bw + 1) i0 (.slice none 0 0) 1 24 Try.underlying57 hi hz0 hz1 hz2 rfl (by decide) _ _ _ ho6x rfl rfl rfl (by simp [Value.oneCell']) (by unfold maxLen; omega) (by omega) hbs ?_; intro v' w4 hown4 hgrow hat; have hw4 : WAt w4 bw text (some ⟨b, 0, none⟩) (some ⟨b', 0, none⟩) proof c4 v5x (.slice a6 h6s.length c6) := (hgrow.block bw (blk_lt hwx) (fun e => hbw6 e.symm)).trans hwx; obtain ⟨g3, cap3, rfl, hg3, hg3', hcap3, hcell3⟩ := own_pos hown4 (by omega); have hq6 : w4.cell? ⟨bw, 6, none⟩ = some (.slice a6 h6s.length c6) := (by rw [blk_cell hw4]; rfl); have hqz := blk_free hw4 6)
                go_ret
                obtain ⟨hA, hB, hC⟩ := Heading.done hL hw hcm hH hgrow hown4
                exact ⟨rfl, hC, _, _, _, _, hA, hB, by omega, by simp⟩
end Go.Proofs.Ytbpolmdokdhkhaa
