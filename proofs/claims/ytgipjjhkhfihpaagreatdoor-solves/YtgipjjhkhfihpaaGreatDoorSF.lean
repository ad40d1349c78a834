import Derived.Test.YtgipjjhkhfihpaaGreatDoorSE
import Derived.Test.YtgipjjhkhfihpaaGreatDoorAZ
import Derived.Test.YtgipjjhkhfihpaaGreatDoorSA
namespace Go.Proofs.YtgipjjhkhfihpaaGreatDoor
open Go.RowKit

/-! ### plays, where the place of upTo's world is told -/
set_option maxRecDepth 100000 in
set_option maxHeartbeats 3200000 in
theorem plays_below (ops : List OpV) (ao : Option Addr) (cap : Nat) (ks : List Int) (ko : Option Addr) (kcap : Nat) (w : World) (hs : ScriptAt w ao ops) (hks : KindsAt w ko ks) (hsz : Sized ops) (hln : ops.length ≤ 140737488355328) (hkl : ks.length ≤ 1048576)
    (HU : Hid (∀ (base : Nat) (v : Value) (w' : World), smallB ops = true → w'.ownsRow base 29 6 v (ops.filter (fun o => inB ks o.kind)).length (opCells (ops.filter (fun o => inB ks o.kind))) → Below w.heap.size w w' → Calls Tryz.prog 14 #[v] w' fun e w'' => e = .returned (.int .i64 (-1)) ∧ Below w'.heap.size w' w'')) :
    Calls Tryz.prog 10 #[.slice ao ops.length cap, .slice ko ks.length kcap] w fun e w' => e = .returned (.bool true) ∧ Below w.heap.size w w' := by
  go_enter Tryz.func10, Tryz.ntmps10
  go_wp2_with fail
  refine (small_any ops ao cap w hs hsz hln).mono ?_
  rintro e w1 ⟨rfl, hb1⟩
  cases hsm : smallB ops with
  | false =>
    go_wp2_with fail
    go_ret
    exact ⟨rfl, hb1⟩
  | true =>
    have HSM := hide hsm
    have hlo : ops.length ≤ 524288 := by
      have h1 : totTo ops ops.length ≤ 524288 := of_decide_eq_true hsm
      have h2 := totTo_le ops 0 (by omega)
      rw [totTo_zero] at h2
      omega
    clear hsm
    obtain ⟨i0, hi, hz0, hz1, hz2⟩ := info_parts Tryz.info29
    go_wp2_with fail
    go_loopg [6, 7] (ops.length) (fun q v i wx => ∃ (k : Nat), i = .int .i64 k ∧ k + q = ops.length ∧ wx.ownsRow w.heap.size 29 6 v (selTo ks ops k).length (opCells (selTo ks ops k)) ∧ Below w.heap.size w wx)
    case atStart => exact ⟨0, rfl, by omega, World.ownsRow_nil _ _ _ _, hb1⟩
    case round =>
      obtain ⟨k, rfl, hk, hown, hb⟩ := hrel
      obtain ⟨wo, rfl⟩ : ∃ wo, wo = wr := ⟨_, rfl⟩
      obtain ⟨go, rfl⟩ : ∃ go, go = gk := ⟨_, rfl⟩
      have hbs := hb.size
      have hsl := selTo_len ks ops k
      by_cases hlt : k < ops.length
      · obtain ⟨b, off, rfl, hbl, hcell⟩ := hs (by intro e; subst e; simp at hlt)
        obtain ⟨hc0, hc1, hc2, hc3, hc4, hc5⟩ := ScriptAt.cells hcell hbl hb k hlt
        have HSS := hide (selTo_succ ks ops k hlt)
        have hdk : decide ((k : Int) < (ops.length : Int)) = true := by simp; omega
        clear hcell
        have hbwo : b < wo.heap.size := by omega
        generalize ops[k] = o at *
        have hex : ∃ b1 b2 b4 b5 : Bool, (o.kind == 1) = b1 ∧ (o.kind == 2) = b2 ∧ (o.kind == 4) = b4 ∧ (o.kind == 5) = b5 ∧ base4 o.kind = (b1 || b2 || b4 || b5) ∧ (b1 && b2) = false ∧ (b1 && b4) = false ∧ (b1 && b5) = false ∧ (b2 && b4) = false ∧ (b2 && b5) = false ∧ (b4 && b5) = false := by
          refine ⟨_, _, _, _, rfl, rfl, rfl, rfl, rfl, ?_, ?_, ?_, ?_, ?_, ?_⟩
          all_goals (rw [Bool.and_eq_false_iff, beq_eq_false_iff_ne, beq_eq_false_iff_ne]; omega)
        obtain ⟨b1, b2, b4, b5, e1, e2, e4, e5, eb, x1, x2, x3, x4, x5, x6⟩ := hex
        have HEB := hide eb; clear eb
        cases b1 <;> cases b2 <;> cases b4 <;> cases b5 <;> first | (exfalso; revert x1 x2 x3 x4 x5 x6; decide) | skip
        all_goals clear x1 x2 x3 x4 x5 x6
        all_goals
          go_wp2_with fail
          go_loopg [9, 10] (ks.length) (fun q x i wx => ∃ (j : Nat), i = .int .i64 j ∧ j + q = ks.length ∧ x = .bool (base4 o.kind || (ks.take j).any (· == o.kind)) ∧ wx = wo)
          case atStart => exact ⟨0, rfl, by omega, by rw [unhide HEB]; rfl, rfl⟩
          case round =>
            obtain ⟨j, rfl, hj, rfl, hwx⟩ := hrel
            subst hwx
            by_cases hjl : j < ks.length
            · obtain ⟨bk, offk, rfl, hbk, hck⟩ := hks (by intro e; subst e; simp at hjl)
              have hcj : wr.cell? ⟨bk, offk + j, none⟩ = some (.int .i64 ks[j]) := by
                rw [hb.cell (p := ⟨bk, offk + j, none⟩) hbk]; exact hck j hjl
              have HAT := hide (any_take ks o.kind j hjl)
              have hdj : decide ((j : Int) < (ks.length : Int)) = true := by simp; omega
              obtain ⟨kj, hkj⟩ : ∃ kj, ks[j] = kj := ⟨_, rfl⟩
              rw [hkj] at hcj
              have HKJ := hide hkj
              clear hkj hck
              cases hin : (base4 o.kind || (ks.take j).any (· == o.kind)) with
              | true =>
                go_wp2_with fail
                go_roundg (gk - 1)
                case measure => omega
                case rel => exact ⟨j + 1, by go_num, by omega, by rw [unhide HAT, ← Bool.or_assoc, hin]; rfl, rfl⟩
              | false =>
                cases heq : (o.kind == kj) with
                | true =>
                  go_wp2_with fail
                  go_roundg (gk - 1)
                  case measure => omega
                  case rel => exact ⟨j + 1, by go_num, by omega, by rw [unhide HAT, ← Bool.or_assoc, hin, unhide HKJ, show (kj == o.kind) = true from by rw [beq_iff_eq] at heq ⊢; exact heq.symm]; rfl, rfl⟩
                | false =>
                  go_wp2_with fail
                  go_roundg (gk - 1)
                  case measure => omega
                  case rel => exact ⟨j + 1, by go_num, by omega, by rw [unhide HAT, ← Bool.or_assoc, hin, unhide HKJ, show (kj == o.kind) = false from by rw [beq_eq_false_iff_ne] at heq ⊢; exact fun e => heq e.symm]; rfl, rfl⟩
            · have hjl2 : j = ks.length := by omega
              subst hjl2
              have HIN : Hid ((base4 o.kind || (ks.take ks.length).any (· == o.kind)) = inB ks o.kind) := hide (by rw [List.take_length]; rfl)
              rw [unhide HIN]
              have hdj : decide ((ks.length : Int) < (ks.length : Int)) = false := by simp
              cases hin : inB ks o.kind with
              | true =>
                go_wp2_with (at_builtin; refine wpList_append_new rfl (.tmp 56) (.tmp 61) 22 rfl w.heap.size i0 (.agg #[.int .i64 0, .int .i64 0, .int .i64 0, .int .i64 0, .string ⟨#[]⟩, .string ⟨#[]⟩]) 6 64 Tryz.underlying22 hi hz0 hz1 hz2 rfl (by decide) _ _ _ hown rfl rfl rfl (by simp [Value.oneCell']) (by unfold maxLen; omega) (by omega) hbs ?_; intro v' w4 hown4 hgrow hnn)
                go_roundg (go - 1)
                case measure => omega
                case rel =>
                  refine ⟨k + 1, by go_num, by omega, ?_, below_grown hb hgrow hown (Nat.le_refl _) hbs⟩
                  rw [unhide HSS, hin, if_pos rfl, opCells_snoc]
                  simpa [OpV.cells] using hown4
              | false =>
                go_wp2_with fail
                go_roundg (go - 1)
                case measure => omega
                case rel => exact ⟨k + 1, by go_num, by omega, by rw [unhide HSS, hin, if_neg (by decide), List.append_nil]; exact hown, hb⟩
      · have hkl2 : k = ops.length := by omega
        subst hkl2
        have hown2 := hown
        unfold selTo at hown2
        rw [List.take_length] at hown2
        have hdk : decide ((ops.length : Int) < (ops.length : Int)) = false := by simp
        have HO2 := hide hown2
        clear hown hown2 hsl
        go_wp2_with fail
        refine ((unhide HU) _ _ wo (unhide HSM) (unhide HO2) hb).mono ?_
        rintro e w5 ⟨rfl, hb5⟩
        go_wp2_with fail
        go_ret
        exact ⟨rfl, hb.trans (hb5.mono hbs)⟩
set_option maxRecDepth 100000 in
set_option maxHeartbeats 1600000 in
theorem step_solves (bw : Nat) (text : List UInt8) (px pf : Option Addr) (proof : List UInt8) (o : OpV) (c4 c5 c6 : Value) (w : World) (hw : WAt w bw text px pf proof c4 c5 c6) (hF : FTxt (bw + 1) w text px pf) (hk : o.kind = 3) (ht : TabAt w) :
    Calls Tryz.prog 19 #[.pointer (some ⟨bw, 0, none⟩), .agg #[.int .i64 o.kind, .int .i64 o.a, .int .i64 o.b, .int .i64 o.c, S o.s, S o.t]] w fun e w' => StepPostU bw text proof o c4 c5 c6 w e w' := by
  obtain ⟨kind, a, b, c, s, t⟩ := o
  dsimp only at hk ⊢
  subst hk
  have hbw : bw < w.heap.size := blk_lt hw
  have h1 : w.cell? ⟨bw, 1, none⟩ = some (.pointer px) := by rw [blk_cell hw]; rfl
  have hbel : Below w.heap.size w (w.alloc (.cells #[.int .i64 3, .int .i64 a, .int .i64 b, .int .i64 c, S s, S t] 29)) := (Below.refl _ _).alloc (Nat.le_refl _) _
  have hFo : ∀ w' : World, Only (· = bw) w w' → FTxt (bw + 1) w' text px pf := fun w' hb => hF.only hb here_foreign
  have HFo := hide hFo
  clear hFo
  rcases hF with ⟨rfl, rfl⟩ | ⟨b1, b2, st, q0, rfl, rfl, hP, hR, hS, ⟨h24, hN⟩, hln⟩
  · go_enter Tryz.func19, Tryz.ntmps19
    go_wp2_with fail
    go_ret
    exact ⟨rfl, Only.of_below hbel, text, none, none, proof, hw.later hbel, by simp; omega, by simp; omega, unhide HFo _ (Only.of_below hbel)⟩
  · have hC : Calls Tryz.prog 32 #[.pointer (some ⟨bw, 0, none⟩), .int .i64 a, .int .i64 b] (w.alloc (.cells #[.int .i64 3, .int .i64 a, .int .i64 b, .int .i64 c, S s, S t] 29)) fun e w' => SolvesPost bw text proof (some ⟨b1, 0, none⟩) (some ⟨b2, 0, none⟩) c4 c5 c6 (w.alloc (.cells #[.int .i64 3, .int .i64 a, .int .i64 b, .int .i64 c, S s, S t] 29)) e w' := by
      by_cases hbad : a < 0 ∨ 1048576 < a ∨ b < 0 ∨ 64 < b
      · exact solves_bad bw b1 b2 (bw + 1) (qFinish q0) a b text proof c4 c5 c6 _ (hw.later hbel) hln hbad
      · obtain ⟨bn, rfl⟩ : ∃ n : Nat, a = (n : Int) := ⟨a.toNat, by omega⟩
        obtain ⟨ln, rfl⟩ : ∃ n : Nat, b = (n : Int) := ⟨b.toNat, by omega⟩
        exact solves_ok bw b1 b2 (bw + 1) st q0 bn ln text proof c4 c5 c6 _ (hw.later hbel) (hP.later hbel) (hR.later hbel) hS h24 hN hln (ht.later hbel) (by omega) (by omega)
    have HC := hide hC
    clear hC hP hR hS h24 hN hln ht
    go_enter Tryz.func19, Tryz.ntmps19
    go_wp2_with fail
    refine (unhide HC).mono ?_
    rintro e w2 ⟨rfl, ho2, proof', hw2, hp2⟩
    have ho := (Only.of_below (T := (· = bw)) hbel).trans ho2
    go_wp2_with fail
    go_ret
    exact ⟨rfl, ho, text, _, _, proof', hw2, by simp; omega, by simp; omega, unhide HFo _ ho⟩
theorem stepS_any (bw : Nat) (text : List UInt8) (px pf : Option Addr) (proof : List UInt8) (o : OpV) (c4 c5 c6 : Value) (w : World) (hw : WAt w bw text px pf proof c4 c5 c6) (hF : FTxt (bw + 1) w text px pf) (hk : inB [3] o.kind = true)
    (hok : o.Ok) (hpl : proof.length ≤ 1048576) (htl : text.length ≤ 1048576) (hsl : o.s.length ≤ 1048576) (ht : TabAt w) :
    Calls Tryz.prog 19 #[.pointer (some ⟨bw, 0, none⟩), .agg #[.int .i64 o.kind, .int .i64 o.a, .int .i64 o.b, .int .i64 o.c, S o.s, S o.t]] w fun e w' => StepPostU bw text proof o c4 c5 c6 w e w' := by
  unfold inB at hk
  rw [Bool.or_eq_true] at hk
  rcases hk with hk | hk
  · exact step_baseT bw text px pf proof o c4 c5 c6 w hw hF hk hok hpl htl hsl
  · have : o.kind = 3 := by simp at hk; exact hk.symm
    exact step_solves bw text px pf proof o c4 c5 c6 w hw hF this ht
set_option maxRecDepth 100000 in
set_option maxHeartbeats 3200000 in
theorem upTo_solves (base : Nat) (ops : List OpV) (v : Value) (w : World) (hown : w.ownsRow base 29 6 v ops.length (opCells ops)) (hall : ∀ o ∈ ops, inB [3] o.kind = true ∧ o.Ok) (hsz : sizeTo ops ops.length ≤ 524288) (hln : ops.length ≤ 1048576) (ht : TabAt w) :
    Calls Tryz.prog 14 #[v] w fun e w' => e = .returned (.int .i64 (-1)) ∧ Below w.heap.size w w' := by
  obtain ⟨aS, cS, rfl⟩ := own_form hown
  have HALL := hide hall; clear hall
  go_enter Tryz.func14, Tryz.ntmps14
  go_wp2_with fail
  go_loopg [4] (ops.length) (fun n i wx => ∃ (k : Nat) (text : List UInt8) (px pf : Option Addr) (proof : List UInt8), i = .int .i64 k ∧ k + n = ops.length ∧ WAt wx w.heap.size text px pf proof (.slice none 0 0) (.slice none 0 0) (.slice none 0 0) ∧
    text.length ≤ sizeTo ops k ∧ proof.length ≤ 262144 + sizeTo ops k ∧ Below w.heap.size w wx ∧ FTxt (w.heap.size + 1) wx text px pf)
  case atStart => exact ⟨0, [], none, none, [], rfl, by omega, heap_alloc_new _ _, by simp, by simp, (Below.refl _ _).alloc (Nat.le_refl _) _, Or.inl ⟨rfl, rfl⟩⟩
  case round =>
    obtain ⟨k, text, px, pf, proof, rfl, hk, hw, htl, hpl, hb, hF⟩ := hrel
    by_cases hlt : k < ops.length
    · obtain ⟨g, cap, hV, hg, hg', _, hcell⟩ := own_pos hown (by omega)
      injection hV with hV _ hV2
      subst hV hV2
      have hc : ∀ j (hj : j < 6) u, ops[k].cells[j]? = some u → wr.cell? ⟨g, k * 6 + j, none⟩ = some u := fun j hj u hu => by
        rw [hb.cell (p := ⟨g, k * 6 + j, none⟩) hg']
        exact hcell _ _ (by rw [opCells_at ops k j hlt hj]; exact hu)
      have hc0 : wr.cell? ⟨g, k * 6, none⟩ = some (.int .i64 ops[k].kind) := hc 0 (by omega) _ rfl
      have hc1 : wr.cell? ⟨g, k * 6 + 1, none⟩ = some (.int .i64 ops[k].a) := hc 1 (by omega) _ rfl
      have hc2 : wr.cell? ⟨g, k * 6 + 2, none⟩ = some (.int .i64 ops[k].b) := hc 2 (by omega) _ rfl
      have hc3 : wr.cell? ⟨g, k * 6 + 3, none⟩ = some (.int .i64 ops[k].c) := hc 3 (by omega) _ rfl
      have hc4 : wr.cell? ⟨g, k * 6 + 4, none⟩ = some (S ops[k].s) := hc 4 (by omega) _ rfl
      have hc5 : wr.cell? ⟨g, k * 6 + 5, none⟩ = some (S ops[k].t) := hc 5 (by omega) _ rfl
      obtain ⟨hbase, hok⟩ := unhide HALL _ (List.getElem_mem hlt)
      have hss := sizeTo_succ ops k hlt
      have hsl := sizeTo_le ops (k + 1) (by omega)
      have hl1 : ops[k].s.length ≤ 1048576 := by omega
      have hl2 : text.length ≤ 1048576 := by omega
      have hl3 : proof.length ≤ 1048576 := by omega
      have HSS := hide hss
      have HB := hide hbase
      clear hc hcell hss hbase
      generalize ops[k] = o at *
      go_wp2_with fail
      refine (stepS_any w.heap.size text px pf proof o _ _ _ wr hw hF (unhide HB) hok hl3 hl2 hl1 (ht.later hb)).mono ?_
      rintro e w2 ⟨rfl, ho, text', px', pf', proof', hw2, ht2, hp2, hF2⟩
      have hb2 : Below w.heap.size w w2 := hb.trans (ho.below hb.size (fun k hk h => by omega))
      go_wp2_with fail
      refine (looks_none w.heap.size text' px' pf' proof' _ w2 hw2).mono ?_
      rintro e w3 ⟨rfl, hw3⟩
      subst hw3
      go_wp2_with fail
      go_roundg (gk - 1)
      case measure => omega
      case rel =>
        have := unhide HSS
        exact ⟨k + 1, text', px', pf', proof', by go_num, by omega, hw2, by omega, by omega, hb2, hF2⟩
    · have hkl : k = ops.length := by omega
      subst hkl
      have h4 : wr.cell? ⟨w.heap.size, 4, none⟩ = some (.slice none 0 0) := by rw [blk_cell hw]; rfl
      go_wp2_with fail
      refine wp_loop_rounds 1 ?_
      rw [rounds_succ]
      go_wp2_with fail
      go_ret
      exact ⟨rfl, hb⟩
set_option maxRecDepth 100000 in
set_option maxHeartbeats 800000 in
theorem solves_law (ops : List OpV) (ao : Option Addr) (cap : Nat) (w : World) (hs : ScriptAt w ao ops) (hsz : Sized ops) (hln : ops.length ≤ 140737488355328) (hok : ∀ o ∈ ops, o.Ok) (ht : TabAt w) :
    Calls Tryz.prog 6 #[.slice ao ops.length cap] w fun e w' => e = .returned (.bool true) ∧ Below w.heap.size w w' := by
  have HOK := hide hok; clear hok
  have HU : Hid (∀ (base : Nat) (v : Value) (w' : World), smallB ops = true → w'.ownsRow base 29 6 v (ops.filter (fun o => inB [3] o.kind)).length (opCells (ops.filter (fun o => inB [3] o.kind))) → Below (w.alloc (.cells #[.int .i64 3] 3)).heap.size (w.alloc (.cells #[.int .i64 3] 3)) w' → Calls Tryz.prog 14 #[v] w' fun e w'' => e = .returned (.int .i64 (-1)) ∧ Below w'.heap.size w' w'') := hide (by
    intro base v w' hsm hown hbel
    have ht' : TabAt w' := (ht.later ((Below.refl w.heap.size w).alloc (Nat.le_refl _) (.cells #[.int .i64 3] 3))).later hbel
    have h1 : totTo ops ops.length ≤ 524288 := of_decide_eq_true hsm
    have h2 := filter_sizes (fun o => inB [3] o.kind) ops
    have h3 : (ops.filter (fun o => inB [3] o.kind)).length ≤ ops.length := List.length_filter_le _ _
    have h4 := totTo_le ops 0 (by omega)
    rw [totTo_zero] at h4
    refine upTo_solves base _ v w' hown ?_ (by omega) (by omega) ht'
    intro o ho
    rw [List.mem_filter] at ho
    exact ⟨ho.2, unhide HOK o ho.1⟩)
  go_enter Tryz.func6, Tryz.ntmps6
  go_wp2_with fail
  have hbel : Below w.heap.size w (w.alloc (.cells #[.int .i64 3] 3)) := (Below.refl _ _).alloc (Nat.le_refl _) _
  have hs' : ScriptAt (w.alloc (.cells #[.int .i64 3] 3)) ao ops := by
    intro hne
    obtain ⟨b, off, h1, h2, h3⟩ := hs hne
    exact ⟨b, off, h1, Nat.lt_of_lt_of_le h2 hbel.size, fun k hk j hj u hu => by rw [hbel.cell (p := ⟨b, off + (k * 6 + j), none⟩) h2]; exact h3 k hk j hj u hu⟩
  refine (plays_below ops ao cap [3] (some ⟨w.heap.size, 0, none⟩) 1 _ hs' (fun _ => ⟨w.heap.size, 0, rfl, by simp, fun j hj => by
    have hj0 : j = 0 := by simp at hj; omega
    subst hj0
    rw [blk_cell (heap_alloc_new w _)]; rfl⟩) hsz hln (by simp) HU).mono ?_
  rintro e w1 ⟨rfl, hb⟩
  go_wp2_with fail
  go_ret
  exact ⟨rfl, below_trans hbel hb⟩
end Go.Proofs.YtgipjjhkhfihpaaGreatDoor

namespace Go.Proofs.YtgipjjhkhfihpaaGreatDoor
open Go.RowKit

/-! ### The table, out of the row's condition -/
theorem tabG : Tryz.prog.globalNamed "internal/strconv.uint64pow10" = some ((Tryz.prog.globalNamed "internal/strconv.uint64pow10").getD 0) := by kernel_rfl
theorem tabT : (Tryz.prog.globals[(Tryz.prog.globalNamed "internal/strconv.uint64pow10").getD 0]?).map (·.type) = some 206 := by kernel_rfl
theorem tab_of_third {d1 d2 : DataW Unit} {W : World} (h : laidMet Tryz.prog [("math/bits.deBruijn32tab", d1), ("math/bits.deBruijn64tab", d2), ("internal/strconv.uint64pow10", Lib.tabData .u64 Lib.pow10Tab)] W) : TabAt W := by
  obtain ⟨ps, hv, _⟩ := h
  obtain ⟨_, _, _, _, _, _, _, _, _, _, hv2, _⟩ := hv
  obtain ⟨_, _, _, _, _, _, _, _, _, _, hv3, _⟩ := hv2
  obtain ⟨g', t', cs, fuel, p, q, hg', ht', hvar, hd, _, _⟩ := hv3
  obtain rfl := Option.some.inj (tabG.symm.trans hg')
  obtain rfl := Option.some.inj (tabT.symm.trans ht')
  unfold TabAt Lib.TabIs
  rw [hvar, ← Lib.cells_of_tab (show Tryz.prog.underlying 206 = some (.array 20 200) by kernel_rfl) (show Tryz.prog.underlying 200 = some (.int .u64) by kernel_rfl) (by kernel_rfl) (by kernel_rfl) hd]
theorem tab_of_laid {W : World} (h : laidMetH Tryz.prog Rows.solvesRow.laid W) : TabAt W := by
  have hf : (Rows.solvesRow.laid.filter fun x => x.2.handleName?.isSome) = [] := by rfl
  unfold laidMetH at h
  rw [hf] at h
  exact tab_of_third h
end Go.Proofs.YtgipjjhkhfihpaaGreatDoor

namespace Go.Proofs.YtgipjjhkhfihpaaGreatDoor
open Go.ChangeShapes Go.WideShapes Go.ChangeAt Go.RowKit Go.Deep

set_option maxHeartbeats 1600000 in
set_option maxRecDepth 100000 in
theorem solves_lifted (os : Os) (started : os.Started) (H : Type) (enc : TypeId × Value → H) (F : Stop.Interp) :
    ReturnsInHanded {} Tryz.checked os 6 .any ((OpenSpec.ofChange Rows.solvesSpec).preRow enc Tryz.prog Tryz.f6 Rows.solvesRow.domain false Rows.solvesRow.laid) (((OpenSpec.ofChange Rows.solvesSpec).at F).post enc Tryz.prog Tryz.f6 false true false false) := by
  obtain ⟨places, hx⟩ : ∃ places, DataW.whole enc Tryz.prog ((World.doorLaid Tryz.prog 400 os).forCall (fun _ _ => 0) ⟨#[], #[.slice none 0 0], []⟩).memory Tryz.f6.params.toList Rows.solvesSpec.vars false #[Value.slice none 0 0].toList 8 = some ([.nil], [], places) := ⟨[], by kernel_rfl⟩
  refine returnsInHanded_of_row (C := Tryz.checked) (s := OpenSpec.ofChange Rows.solvesSpec) Tryz.own started (by kernel_rfl) Tryz.func6
    (witness_row_at (enc := enc) (C := Tryz.checked) false (World.doorLaid Tryz.prog 400 os) #[.slice none 0 0] rfl (by kernel_rfl) (by kernel_rfl) (by kernel_rfl)
      (OpenSpec.preRow_of_cond 8 hx (by kernel_rfl) (fun k hk => by cases hk) (by kernel_rfl) (door_met os _))) ?_
  intro W base args ds gs before hval0 hW _ _ hsz0 hL _ _
  have hsz : (DataW.weightsEach Tryz.prog (Tryz.f6.params.toList ++ Rows.solvesSpec.plain.varTypes Tryz.prog) (ds ++ gs)).all (· ≤ reachBytes) = true := hsz0
  clear hsz0
  have hval : ∀ (j : Nat) t v, Tryz.f6.params[j]? = some t → args[j]? = some v → Value.okWide Tryz.prog W .any base t v := hval0
  have hW' := hW
  obtain ⟨p, q, hA0, hV, rfl, hfz, hnd⟩ := hW
  have hA : DataW.TrodAll enc Tryz.prog W 0 (fun _ => true) true Tryz.f6.params.toList args.toList ds p := hA0
  rw [Tryz.params6] at hA hval hsz
  obtain ⟨v0, d0, rfl, rfl, h0⟩ := trodAll_one hA
  obtain ⟨rfl, rfl⟩ := trodVars_none hV
  obtain ⟨a0, len, cap, rfl⟩ := okWide_slice Tryz.underlying22 (hval 0 22 v0 rfl rfl)
  have k0 := h0
  have lt0 : ∀ x ∈ p, x.block < W.heap.size := by obtain ⟨m, hm⟩ := k0; exact DataW.trod_lt m _ _ _ hm
  obtain ⟨fuel, hf⟩ := h0
  clear hA0 hval0 hA
  simp only [List.append_nil] at hW'
  obtain ⟨ops, hlen, hsc, hok, hdat⟩ := open_script (show DataW.trod enc Tryz.prog W 0 (fun _ => true) true fuel 22 [.slice a0 len cap] = some (d0, p) from hf)
  have hsize : Sized ops ∧ ops.length ≤ 140737488355328 := by
    rcases hdat with ⟨rfl, _⟩ | ⟨sp, hx⟩
    · exact ⟨fun o ho => by simp at ho, by simp⟩
    · have hd : d0 = .slice (ops.map OpV.data) sp := hx
      subst hd
      exact sized_script (sp := sp) hsz
  subst hlen
  refine (solves_law ops a0 cap W hsc hsize.1 hsize.2 hok (tab_of_laid hL)).mono fun e W' ⟨he, bel⟩ => ?_
  subst he
  exact ⟨_, rfl, _, _, _, [], _, [], hW', trodAll_mk1 (shut_bool Tryz.underlying4 _), trodAll_mk1 (Below.trod Tryz.laidOut (by kernel_rfl) (of_decide_eq_true (by kernel_rfl)) k0 bel lt0), rfl, bel.frame _, fun h => by cases h⟩

theorem solves_said : Rows.SolvesSaid :=
  OpenClaim.holds_of_cond 6 Tryz.f6 rfl rfl rfl rfl rfl rfl rfl ⟨rfl, rfl, rfl, rfl, rfl⟩ rfl rfl rfl rfl rfl (by kernel_rfl) Tryz.func6 (by kernel_rfl)
    (of_decide_eq_true (by kernel_rfl)) (by unfold Func.isWrapper; first | (rw [if_pos (by decide +kernel)]; kernel_rfl) | (rw [if_neg (by decide +kernel)]; exact ⟨rfl, rfl⟩))
    (fun os started H enc _ F => by rw [OpenClaim.pre_eq_preRow]; exact solves_lifted os started H enc F)
/-- No parameter wants a stand-in; the program's own looks are off. -/
theorem solves_plain (f : FuncId) (fn : Func) (hf : Tryz.pinned.checked.prog.funcNamed "duel/duellaw.Solves" = some f) (hfn : Tryz.pinned.checked.prog.funcs[f]? = some fn) :
    false = Tryz.pinned.checked.prog.looks [] ∧ ∀ (j : Nat) t, fn.params[j]? = some t → Tryz.pinned.checked.prog.wantsStandIn t = false := by
  obtain rfl : f = 6 := Option.some.inj ((show Tryz.prog.funcNamed "duel/duellaw.Solves" = some 6 by kernel_rfl).symm.trans hf) |>.symm
  obtain rfl : fn = Tryz.f6 := (Option.some.inj (Tryz.func6.symm.trans hfn)).symm
  refine ⟨by kernel_rfl, fun j t ht => ?_⟩
  rw [Tryz.params6] at ht
  obtain rfl : t = 22 := by simpa using Array.mem_of_getElem? ht
  exact (show Tryz.prog.wantsStandIn 22 = false by kernel_rfl)
theorem solves_holds : Rows.SolvesCardSaid :=
  Claim7.holds_tied_plain_at .later [] _ _ _ _ solves_said (fun _ h => by cases h) (by kernel_rfl) (fun _ h => by cases h) solves_row_tie rfl ⟨rfl, rfl⟩ (by kernel_rfl) rfl solves_plain (by kernel_rfl)
#print axioms solves_holds
end Go.Proofs.YtgipjjhkhfihpaaGreatDoor
