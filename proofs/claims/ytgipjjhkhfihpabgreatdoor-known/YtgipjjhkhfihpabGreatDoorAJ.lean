import Derived.Test.YtgipjjhkhfihpabGreatDoorAI
import Derived.ArgAppend
import Derived.Deep.QuietTactic
import Derived.BigQuiet
import Derived.Test.YtgipjjhkhfihpabGreatDoorAH
import Derived.Test.YtgipjjhkhfihpabGreatDoorAE
import Derived.Deep.DeepCutAuto
namespace Go.Proofs.YtgipjjhkhfihpabGreatDoor
open Go.RowKit

/-! ### duelkeep: plays -/
theorem infoIntK : (Tryz.prog.info? 3).map (fun i => (i.zero, i.size, i.bytes)) = some (some (.int .i64 0), 1, 8) := by kernel_rfl
theorem kbelow_only {n db : Nat} {w w0 w' : World} (ho : Only (· = db) w0 w') (hb : Below n w w0) (hn : n ≤ w.heap.size) (hd : n ≤ db) : Below n w w' :=
  ⟨ho.os.trans hb.os, ho.tape.trans hb.tape, ho.output.trans hb.output, Nat.le_trans hb.size ho.size, fun i hi => (ho.block i (by have := hb.size; omega) (fun h => by omega)).trans (hb.block i hi)⟩
/-- append onto a row whose room is cut off: a new row. -/
theorem wpList_append_cut {P : Program} {ops : Array Oper} {rest : List Oper} {o : Oper} {a : Act} {Q : Exit → Act → World → Prop} {w : World} {news : List Value} {e : TypeId} (hgd : o.guard = none) (s x : Operand) (t : TypeId)
    (ho : o.op = .call { callee := .builtin .append, args := #[s, x], argTypes := #[t, t] })
    (base : Nat) (i : TypeInfo) (z : Value) (size bytes : Nat) (ht : P.underlying t = some (.slice e)) (hi : P.info? e = some i) (hz : i.zero = some z)
    (hsize : i.size = size) (hby : i.bytes = bytes) (hzs : z.cells.size = size) (hsz : 0 < size)
    (ao : Option Addr) (n c : Nat) (xs : List Value) (hown : w.ownsRow base e size (.slice ao n c) n xs) (hs : a.eval s = .slice ao n n)
    (hx : a.eval x = .slice (some ⟨w.heap.size, 0, none⟩) 1 1) (hl : news.length = size) (h1 : ∀ u ∈ news, u.oneCell' = true)
    (h63 : n + 1 ≤ maxLen) (hbytes : (n + 1) * bytes ≤ 140737488355328)
    (h : ∀ v' w', w'.ownsRow w.heap.size e size v' (n + 1) (xs ++ news) → Below w.heap.size w w' → wpList P ops Q rest (a.put o.dst v') w') : wpList P ops Q (o :: rest) a (w.alloc (.cells news.toArray e)) := by
  have ho2 := hown.alloc (.cells news.toArray e)
  refine wpList_append_grows _ hgd s x t ho e i z size bytes ht hi hz hsize hby hzs hsz ao n n xs hs ?_ hown.1 ?_ ⟨w.heap.size, 0, none⟩ 1 1 news hx (by simpa using hl) ?_ h1 (by omega) h63 hbytes ?_
  · intro hn
    subst hn
    rcases hown.2 with ⟨hv, _⟩ | ⟨g, cap, cur, hv, _⟩
    · injection hv with _ h2 _
      omega
    · cases hv
  · intro b hb j u hj
    subst hb
    rcases ho2.2 with ⟨hv, _⟩ | ⟨g, cap, cur, hv, hbg, hblk, hnc, hcm, hcs, htake⟩
    · cases hv
    · injection hv with hv _ _
      injection hv with hv
      subst hv
      have hadd : (⟨g, 0, none⟩ : Addr).add j = ⟨g, j, none⟩ := by unfold Addr.add; split <;> simp_all
      have hlt : j < n * size := by rw [← hown.1]; exact (List.getElem?_eq_some_iff.1 hj).1
      rw [hadd, cell_of_row _ g j cur e (0, 0) hblk]
      rw [← htake, List.getElem?_take, if_pos hlt] at hj
      simpa using hj
  · intro j u hj
    have hadd : (⟨w.heap.size, 0, none⟩ : Addr).add j = ⟨w.heap.size, j, none⟩ := by unfold Addr.add; split <;> simp_all
    rw [hadd, cell_of_row _ w.heap.size j news.toArray e (0, 0) (heap_alloc_new w _)]
    simpa using hj
  · intro v' w' h2 h3
    refine h v' w' (own_lo h2 (by simp)) ⟨h3.os, h3.tape, h3.output, Nat.le_trans (by simp) h3.size, fun k hk => (h3.block k (by simp; omega) (by simp)).trans (heap_alloc_old w _ hk)⟩
theorem legal_snoc2 {q : QS} {kind : Nat} {ms : List Nat} (h : Legal q kind ms) (t : Nat) (hT : turnTo (winsL q kind) ms.length = t) (ht : t < (progBlocks q.vars).length) (k : Nat) (hk : k < 2 ^ (progBlocks q.vars)[t].length) : Legal q kind (ms ++ [k]) := by
  subst hT
  exact legal_snoc h k ht hk
set_option maxRecDepth 100000 in
set_option maxHeartbeats 6400000 in
theorem kplays_any (l p : List UInt8) (q : QS) (kind : Nat) (hK : KP l p q kind) (tr : Bool) (htr : tr = (kind == 2)) (lo bq : Nat) (hll : l.length ≤ 8192) : ∀ (m : Nat) (ms : List Nat) (aM : Option Addr) (cM : Nat) (w : World), (progBlocks q.vars).length + 1 ≤ turnTo (winsL q kind) ms.length + m → ms.length + m ≤ 16 → Legal q kind ms → ProgAt lo w bq q → w.ownsRow 0 3 1 (.slice aM ms.length cM) ms.length (ints ms) →
    Calls Tryz.prog 10 #[.pointer (some ⟨bq, 0, none⟩), .string ⟨l.toArray⟩, .string ⟨p.toArray⟩, .bool tr, .slice aM ms.length cM] w fun e w' => e = .returned (.bool true) ∧ Below w.heap.size w w' := by
  intro m
  induction m with
  | zero =>
    intro ms aM cM w h1 _ _ _ _
    have := turnTo_le (winsL q kind) ms.length
    rw [winsL_len] at this
    omega
  | succ m ih =>
    intro ms aM cM w hmm hms hL hP hM
    have HIH := hide ih
    have HTR := hide htr
    clear ih htr
    have hcM : ms.length ≤ cM := by
      rcases hM.2 with ⟨hv, _⟩ | ⟨g, cap, cur, hv, _, _, hnc, _⟩
      · injection hv with _ h2 h3
        omega
      · injection hv with _ _ h3
        omega
    obtain ⟨i0, hi, hz0, hz1, hz2⟩ := info_parts infoIntK
    have hq8 := hK.good.qb.vl
    have hbl := blocks_le _ hq8
    obtain ⟨ls, hrd⟩ := hK.read
    have HRD := hide hrd
    clear hrd
    have HL := hide hL
    clear hL
    go_enter Tryz.func10, Tryz.ntmps10
    go_wp2_with fail
    --@
    refine (dopen_any lo bq q p w hP hK.good.qb).mono ?_
    rintro e u1 ⟨b1, hp⟩
    rw [unhide HRD] at hp
    obtain ⟨ss, db, gv, hls, htg, hsb, rfl, hG, hdb, hfr⟩ := hp
    have HA0 := hide (after_open hK.good hK.kind ss)
    have HRB := hide (rbd_of hsb kind)
    have HBB := hide (bbd_of hK.good.qb kind)
    have HWON : Hid (∀ g n, After q kind (rulesW kind ss) g n → g.turn = (progBlocks q.vars).length → satT (fun v => valV g.vals v) l = (kind == 2)) := hide (fun g n ha he => kp_won hK (by rw [unhide HRD, hls]) htg.1 hsb ha he)
    have HTN : Hid (∀ g n, After q kind (rulesW kind ss) g n → turnTo (winsL q kind) n = g.turn) := hide (fun g n ha => ha.turn)
    have HMV : Hid (∀ g n (b : Nat), After q kind (rulesW kind ss) g n → ∀ ht : g.turn < (progBlocks q.vars).length, b < 2 ^ (progBlocks q.vars)[g.turn].length → MoveE (blW q kind) g (b : Int) = 0 ∧ After q kind (rulesW kind ss) (MoveG (rulesW kind ss) (blW q kind) g (b : Int)) (n + 1)) := hide (fun g n b ha ht hb => by
      have h0 := moveE_zero (kind := kind) ht hb
      exact ⟨h0, by rw [moveG_zero h0]; exact after_move hK.good hK.kind ha ht b⟩)
    generalize openW q kind ss = g0 at *
    generalize rulesW kind ss = rs at *
    clear hls htg hsb HRD hfr
    go_wp2_with fail
    --@
    go_loopg [12, 14] (ms.length) (fun j ve vi wx => ∃ (i : Nat) (g : GS), vi = .int .i64 (i : Int) ∧ ve = .int .i64 0 ∧ i + j = ms.length ∧ After q kind rs g i ∧ GameAt wx db 102 (blW q kind) rs g gv ∧ Below w.heap.size w wx)
    case atStart => exact ⟨0, g0, rfl, rfl, by omega, unhide HA0, hG, b1⟩
    case round =>
      obtain ⟨i, g, rfl, rfl, hij, ha, hGx, hb⟩ := hrel
      have HA := hide ha
      have hal := ha.lt
      have hst := ha.stands.le
      clear ha
      have hpx := hP.later hb
      by_cases hlt : i < ms.length
      · have hd3 : decide ((i : Int) < (ms.length : Int)) = true := decide_eq_true (by omega)
        have hd4 : decide (i < ms.length) = true := decide_eq_true hlt
        obtain ⟨gM, cap, hVe, hgl, hg', hg'', hcell⟩ := own_pos (own_below hM hb) (by omega)
        injection hVe with hVe _ hV2
        subst hVe hV2
        have hx := hcell i (.int .i64 (ms[i] : Int)) (by simp [ints, hlt])
        obtain ⟨ht1, ht2⟩ := unhide HL i hlt
        have hgt := unhide HTN g i (unhide HA)
        obtain ⟨hm0, hm1⟩ := unhide HMV g i ms[i] (unhide HA) (by rw [← hgt]; exact ht1) (by simpa [hgt] using ht2)
        have hmi : ms[i] < 1048576 := by
          have h8 : (progBlocks q.vars)[turnTo (winsL q kind) i].length ≤ 8 := block_len _ hq8 _ (List.getElem_mem ht1)
          have : 2 ^ (progBlocks q.vars)[turnTo (winsL q kind) i].length ≤ 2 ^ 8 := Nat.pow_le_pow_right (by decide) h8
          have : (2 : Nat) ^ 8 = 256 := by decide
          omega
        clear hcell hgt ht2
        generalize ms[i] = mi at *
        --@
        go_wp2_with fail
        --@
        refine (dmove_any db 102 (blW q kind) rs g gv (mi : Int) wr hGx (unhide HRB) (unhide HBB) hal (by rw [blW_length]; exact hst) ⟨by omega, by omega⟩).mono ?_
        rintro e u2 ⟨rfl, hG2, ho2⟩
        rw [hm0]
        have hb2 : Below w.heap.size w u2 := kbelow_only ho2 hb (Nat.le_refl _) hdb
        --@
        go_wp2_with fail
        --@
        go_roundg (gk - 1)
        case measure => omega
        case rel => exact ⟨i + 1, _, by go_num, rfl, by omega, hm1, hG2, hb2⟩
      · have hd3 : decide ((i : Int) < (ms.length : Int)) = false := decide_eq_false (by omega)
        have hd4 : decide (i < ms.length) = false := decide_eq_false hlt
        have hie : i = ms.length := by omega
        subst hie
        have hgt := unhide HTN g _ (unhide HA)
        have HGT := hide hgt
        clear hgt
        --@
        go_wp2_with fail
        --@
        refine (dblocks_any lo bq q wr hpx (by omega)).mono ?_
        rintro e u2 ⟨vB, hdrs, rfl, hoB, hRB2, b2⟩
        have hb2 := hb.trans (b2.mono hb.size)
        have hG2 := hGx.later b2
        obtain ⟨aB, cB, rfl⟩ := own_form hoB
        go_wp2_with fail
        --@
        refine (dturn_any db 102 (blW q kind) rs g gv u2 hG2).mono ?_
        rintro e u3 ⟨rfl, rfl⟩
        go_wp2_with fail
        --@
        refine (kturn_any l p q kind hK wr.heap.size hdrs aB cB tr (unhide HTR) ms.length (by omega) u3 hll hoB hRB2).mono ?_
        rintro e u4 ⟨rfl, b4⟩
        rw [unhide HGT]
        have hb4 := hb2.trans (b4.mono hb2.size)
        have hG4 := hG2.later b4
        have hoB4 := own_below hoB b4
        have hR4 := hRB2.later b4
        have hp4 := hP.later hb4
        have hM4 := own_below hM hb4
        clear hGx hG2 hoB hRB2 hpx
        by_cases hend : g.turn = (progBlocks q.vars).length
        · have c1 : ((g.turn : Int) == ((progBlocks q.vars).length : Int)) = true := by rw [beq_iff_eq]; omega
          have c2 : (g.turn == (progBlocks q.vars).length) = true := by rw [beq_iff_eq]; exact hend
          have HSAT := hide (unhide HWON g _ (unhide HA) hend)
          have HM7 := hide (fun b => moveE_over (q := q) (kind := kind) (g := g) hend b)
          have HCB : Hid (∀ r ∈ klinesOf l, (r.head? == some 99) = true → ∀ k (hk : k < r.length), 1 ≤ k → ClB r[k]) := hide (by obtain ⟨_, _, _, _, hT, _⟩ := hK.text; exact text_clb hT)
          clear hend
          --@
          go_wp2_with fail
          --@
          refine (dvalues_any db 102 (blW q kind) rs g gv u4 hG4 hal).mono ?_
          rintro e u5 ⟨kb, rfl, hkb, hvb, b5⟩
          have hb5 := hb4.trans (b5.mono hb4.size)
          have hG5 := hG4.later b5
          go_wp2_with fail
          --@
          refine (ksatisfied_any l g.vals kb u5 hll hvb (unhide HCB)).mono ?_
          rintro e u6 ⟨rfl, b6⟩
          rw [unhide HSAT, ← unhide HTR]
          have hb6 := hb5.trans (b6.mono hb5.size)
          have hG6 := hG5.later b6
          go_wp2_with fail
          --@
          refine (dmove_any db 102 (blW q kind) rs g gv 0 u6 hG6 (unhide HRB) (unhide HBB) hal (by rw [blW_length]; exact hst) ⟨by omega, by omega⟩).mono ?_
          rintro e u7 ⟨rfl, hG7, ho7⟩
          rw [unhide HM7]
          have hb7 : Below w.heap.size w u7 := kbelow_only ho7 hb6 (Nat.le_refl _) hdb
          clear HTR HIH
          cases tr with
          | true =>
            --@
            go_wp2_with fail
            go_ret
            exact ⟨rfl, hb7⟩
          | false =>
            go_wp2_with fail
            go_ret
            exact ⟨rfl, hb7⟩
        · have c1 : ((g.turn : Int) == ((progBlocks q.vars).length : Int)) = false := by rw [beq_eq_false_iff_ne]; omega
          have c2 : (g.turn == (progBlocks q.vars).length) = false := by rw [beq_eq_false_iff_ne]; exact hend
          have htl : g.turn < (progBlocks q.vars).length := by omega
          obtain ⟨gB, cap, hVe, hgl, hg', hg'', hcell⟩ := own_pos hoB4 (by omega)
          injection hVe with hVe _ hV2
          subst hVe hV2
          have hih : g.turn < hdrs.length := by rw [hR4.len]; exact htl
          have hx := hcell g.turn hdrs[g.turn] (List.getElem?_eq_getElem hih)
          obtain ⟨hrow, hne⟩ := hR4.row g.turn htl
          have hrp : 0 < (progBlocks q.vars)[g.turn].length := List.length_pos_iff.2 hne
          have hr8 : (progBlocks q.vars)[g.turn].length ≤ 8 := block_len _ hq8 _ (List.getElem_mem htl)
          obtain ⟨gX, cX, hXe, hX1, hX2, hX3, hcX⟩ := own_pos hrow hrp
          rw [hXe] at hx
          have HBAD := hide (fun b hb => moveE_bad (q := q) (kind := kind) (g := g) htl b hb)
          have HBG := hide (fun b (h : MoveE (blW q kind) g b ≠ 0) => moveG_bad (q := q) (kind := kind) (rs := rs) (g := g) h)
          have HLS := hide (fun k hk => legal_snoc2 (unhide HL) g.turn (unhide HGT) htl k hk)
          have HUP := hide (turnTo_up (winsL q kind) ms.length (by rw [unhide HGT, winsL_len]; exact htl))
          have HPW : Hid (2 ^ (progBlocks q.vars)[g.turn].length ≤ 256) := hide (by
            have : 2 ^ (progBlocks q.vars)[g.turn].length ≤ 2 ^ 8 := Nat.pow_le_pow_right (by decide) hr8
            have h8 : (2 : Nat) ^ 8 = 256 := by decide
            omega)
          clear hcell hcX hrow hne hXe hend
          --@
          go_wp2_with fail
          --@
          have hwp : wrap64 (2 ^ (progBlocks q.vars)[g.turn].length) = ((2 ^ (progBlocks q.vars)[g.turn].length : Nat) : Int) := by rw [wrap_pow8 _ hr8]; simp
          rw [hwp]
          clear hwp
          generalize 2 ^ (progBlocks q.vars)[g.turn].length = pw at *
          have hpw := unhide HPW
          have he1 := unhide HBAD (pw : Int) (Or.inr rfl)
          have he2 := unhide HBAD (-1) (Or.inl (by decide))
          have hg1 := unhide HBG (pw : Int) (by rw [he1]; decide)
          have hg2 := unhide HBG (-1) (by rw [he2]; decide)
          have HE1 := hide he1
          have HE2 := hide he2
          have HG1 := hide hg1
          have HG2 := hide hg2
          clear he1 he2 hg1 hg2 HBAD HBG
          refine (dmove_any db 102 (blW q kind) rs g gv (pw : Int) u4 hG4 (unhide HRB) (unhide HBB) hal (by rw [blW_length]; exact hst) ⟨by omega, by omega⟩).mono ?_
          rintro e u5 ⟨rfl, hG5, ho5⟩
          rw [unhide HE1]
          rw [unhide HG1] at hG5
          have hb5 : Below w.heap.size w u5 := kbelow_only ho5 hb4 (Nat.le_refl _) hdb
          --@
          go_wp2_with fail
          --@
          refine (dmove_any db 102 (blW q kind) rs g gv (-1) u5 hG5 (unhide HRB) (unhide HBB) hal (by rw [blW_length]; exact hst) ⟨by omega, by omega⟩).mono ?_
          rintro e u6 ⟨rfl, hG6, ho6⟩
          rw [unhide HE2]
          have hb6 : Below w.heap.size w u6 := kbelow_only ho6 hb5 (Nat.le_refl _) hdb
          clear hG5 hG6 hG4 hoB4 hR4 hM4 hp4 hx ho5 ho6
          --@
          go_wp2_with fail
          --@
          go_loopg [22] (pw) (fun j vk wx => ∃ (k : Nat), vk = .int .i64 (k : Int) ∧ k + j = pw ∧ Below w.heap.size w wx)
          case atStart => exact ⟨0, rfl, by omega, hb6⟩
          case round =>
            obtain ⟨k, rfl, hkj, hbx⟩ := hrel
            by_cases hlk : k < pw
            · have hd5 : decide ((k : Int) < (pw : Int)) = true := decide_eq_true (by omega)
              have hd6 : decide (k < pw) = true := decide_eq_true hlk
              have hMx := own_below hM hbx
              --@
              go_wp2_with (at_builtin; refine wpList_append_cut rfl _ _ 59 rfl 0 i0 (.int .i64 0) 1 8 Tryz.underlying59 hi hz0 hz1 hz2 rfl (by decide) aM ms.length cM (ints ms) hMx rfl rfl rfl (by simp [Value.oneCell']) (by unfold maxLen; omega) (by omega) ?_; intro v9 w9 hown9 hb9; obtain ⟨a9, c9, rfl⟩ := own_form hown9)
              --@
              have hb9' := hbx.trans (hb9.mono hbx.size)
              have hcall := unhide HIH (ms ++ [k]) a9 c9 w9 (by rw [List.length_append, List.length_singleton]; have := unhide HUP; omega) (by rw [List.length_append, List.length_singleton]; omega) (unhide HLS k hlk) (hP.later hb9') (by
                rw [List.length_append, List.length_singleton]
                have e : ints (ms ++ [k]) = ints ms ++ [.int .i64 (k : Int)] := by simp [ints]
                rw [e]
                exact own_lo (lo := 0) hown9 (Nat.zero_le _))
              rw [List.length_append, List.length_singleton] at hcall
              refine hcall.mono ?_
              rintro e u10 ⟨rfl, b10⟩
              have hb10 := hb9'.trans (b10.mono hb9'.size)
              clear hcall hown9 hMx
              --@
              go_wp2_with fail
              --@
              go_roundg (gk - 1)
              case measure => omega
              case rel => exact ⟨k + 1, by go_num, by omega, hb10⟩
            · have hd5 : decide ((k : Int) < (pw : Int)) = false := decide_eq_false (by omega)
              have hd6 : decide (k < pw) = false := decide_eq_false hlk
              --@
              go_wp2_with fail
              go_ret
              exact ⟨rfl, hbx⟩
end Go.Proofs.YtgipjjhkhfihpabGreatDoor

namespace Go.Proofs.YtgipjjhkhfihpabGreatDoor
open Go.RowKit

abbrev FactV (f : Nat × Nat) : Value := .agg #[.int .i64 (f.1 : Int), .int .i64 (f.2 : Int)]
def pOff (kind : Nat) : Nat := if kind = 2 then 8 else 6
set_option maxRecDepth 100000 in
set_option maxHeartbeats 800000 in
theorem sproof_any (b kind : Nat) (w : World) (_hb : b < w.heap.size) :
    Calls Tryz.prog 96 #[.pointer (some ⟨b, 0, none⟩), .int .i64 (kind : Int)] w fun e w' => e = .returned (.pointer (some ⟨b, pOff kind, none⟩)) ∧ w' = w := by
  by_cases h : kind = 2
  · subst h
    go_enter Tryz.func96, Tryz.ntmps96
    go_wp2_with fail
    go_ret
    exact ⟨rfl, rfl⟩
  · have hd : ((kind : Int) == 2) = false := by rw [beq_eq_false_iff_ne]; omega
    have HO : Hid (pOff kind = 6) := hide (by unfold pOff; rw [if_neg h])
    clear h
    go_enter Tryz.func96, Tryz.ntmps96
    go_wp2_with fail
    go_ret
    exact ⟨by rw [unhide HO]; rfl, rfl⟩
/-- The proof of a kind: where it lies. -/
theorem SAt.proofAt {w : World} {b : Nat} {C : SC} {S : SS} {V : SV} (h : SAt w b C S V) (kind : Nat) : ∃ vS, w.cell? ⟨b, pOff kind + 1, none⟩ = some vS ∧ w.ownsRow 0 91 6 vS (S.proof kind).length (psCells (S.proof kind)) := by
  by_cases e : kind = 2
  · subst e; exact ⟨V.a, by rw [blk_cell h.fb]; rfl, h.oA⟩
  · refine ⟨V.r, ?_, ?_⟩
    · rw [blk_cell h.fb]; unfold pOff; rw [if_neg e]; rfl
    · unfold SS.proof; rw [if_neg e]; exact h.oR
theorem SBd.proof {C : SC} {S : SS} (h : SBd C S) (kind : Nat) : (S.proof kind).length ≤ 100000 ∧ ∀ s ∈ S.proof kind, s.lits.1 < 512 ∧ s.lits.2 < 512 := by
  unfold SS.proof; split
  · exact ⟨h.al, h.aff⟩
  · exact ⟨h.rl, h.ref⟩
theorem SBd.lits {C : SC} {S : SS} (h : SBd C S) (f : Nat × Nat) : (S.lits f).1 < 512 ∧ (S.lits f).2 < 512 := litsAt_lt _ (h.proof f.1).2 _

set_option maxRecDepth 100000 in
set_option maxHeartbeats 800000 in
theorem slits_any (b : Nat) (C : SC) (S : SS) (V : SV) (f : Nat × Nat) (w : World) (hS : SAt w b C S V) (hB : SBd C S) :
    Calls Tryz.prog 98 #[.pointer (some ⟨b, 0, none⟩), FactV f] w fun e w' => e = .returned (SetV (S.lits f)) ∧ Below w.heap.size w w' := by
  obtain ⟨fk, fs⟩ := f
  have hbw := blk_lt hS.fb
  have HL : Hid (S.lits (fk, fs) = litsAt (S.proof fk) fs) := hide rfl
  have hlt := hB.lits (fk, fs)
  go_enter Tryz.func98, Tryz.ntmps98
  go_wp2_with fail
  generalize hw0 : ((w.alloc (.cells #[.int .i64 (fk : Int), .int .i64 (fs : Int)] 85)).alloc (.cells #[.int .i64 0, .int .i64 0] 77)) = u1
  have hBw : Below w.heap.size w u1 := by rw [← hw0]; exact ((Below.refl _ _).alloc (Nat.le_refl _) _).alloc (by simp) _
  have hfa : u1.heap[w.heap.size]? = some (.cells #[.int .i64 (fk : Int), .int .i64 (fs : Int)] 85 (0, 0)) := by rw [← hw0, heap_alloc_old _ _ (by simp)]; exact alloc_new_at (by simp)
  have hrs : u1.heap[w.heap.size + 1]? = some (.cells #[.int .i64 0, .int .i64 0] 77 (0, 0)) := by rw [← hw0]; exact alloc_new_at (by simp)
  clear hw0
  have cfa0 : u1.cell? ⟨w.heap.size, 0, none⟩ = some (.int .i64 (fk : Int)) := by rw [blk_cell hfa]; rfl
  have cfa1 : u1.cell? ⟨w.heap.size, 1, none⟩ = some (.int .i64 (fs : Int)) := by rw [blk_cell hfa]; rfl
  have lfa := blk_lt hfa
  have crs0 : u1.cell? ⟨w.heap.size + 1, 0, none⟩ = some (.int .i64 0) := by rw [blk_cell hrs]; rfl
  have crs1 : u1.cell? ⟨w.heap.size + 1, 1, none⟩ = some (.int .i64 0) := by rw [blk_cell hrs]; rfl
  have lrs := blk_lt hrs
  have hbw2 : b < u1.heap.size := Nat.lt_of_lt_of_le hbw hBw.size
  refine (sproof_any b fk _ hbw2).mono ?_
  rintro e w2 ⟨rfl, hw2⟩
  subst hw2
  obtain ⟨vS, hv1, hv2⟩ := (hS.later hBw).proofAt fk
  go_wp2_with fail
  refine (plits_any 0 b (pOff fk) (S.proof fk) vS fs _ hv1 hv2 (by have := (hB.proof fk).1; omega)).mono ?_
  rintro e w3 ⟨rfl, hb3⟩
  rw [← unhide HL]
  generalize hea : S.lits (fk, fs) = c at *
  have HEC := hide hea
  clear hea
  obtain ⟨c1, c2⟩ := c
  have hrs3 := (hb3.block _ (blk_lt hrs)).trans hrs
  have crs30 : w3.cell? ⟨w.heap.size + 1, 0, none⟩ = some (.int .i64 0) := by rw [blk_cell hrs3]; rfl
  have crs31 : w3.cell? ⟨w.heap.size + 1, 1, none⟩ = some (.int .i64 0) := by rw [blk_cell hrs3]; rfl
  have z0 := blk_free hrs3 0
  have z1 := blk_free hrs3 1
  have l3 := blk_lt hrs3
  have hR := blk_set (blk_set hrs3 0 (.int .i64 (c1 : Int))) 1 (.int .i64 (c2 : Int))
  have j0 := blk_cell hR 0
  have j1 := blk_cell hR 1
  go_wp2_with fail
  refine bodyPost_ret (v := SetV (c1, c2)) (by simp [results, Tryz.results98, go_sem, j0, j1]) rfl ⟨by rw [unhide HEC], ?_⟩
  exact ((hBw.trans (hb3.mono hBw.size)).setCell (p := ⟨w.heap.size + 1, 0, none⟩) (Nat.le_succ _) _).setCell (p := ⟨w.heap.size + 1, 1, none⟩) (Nat.le_succ _) _

set_option maxRecDepth 100000 in
set_option maxHeartbeats 800000 in
theorem shas_any (b : Nat) (C : SC) (S : SS) (V : SV) (f : Nat × Nat) (v : Nat) (w : World) (hS : SAt w b C S V) (hB : SBd C S) :
    Calls Tryz.prog 81 #[.pointer (some ⟨b, 0, none⟩), FactV f, .int .i64 (v : Int)] w fun e w' => e = .returned (.bool (hasVarB (S.lits f) v)) ∧ Below w.heap.size w w' := by
  obtain ⟨fk, fs⟩ := f
  have hbw := blk_lt hS.fb
  have hlt := hB.lits (fk, fs)
  have hA : Below w.heap.size w (w.alloc (.cells #[.int .i64 (fk : Int), .int .i64 (fs : Int)] 85)) := (Below.refl _ _).alloc (Nat.le_refl _) _
  go_enter Tryz.func81, Tryz.ntmps81
  go_wp2_with fail
  refine (slits_any b C S V (fk, fs) _ (hS.later hA) hB).mono ?_
  rintro e w2 ⟨rfl, hb2⟩
  have hB2 := hA.trans (hb2.mono hA.size)
  generalize hea : S.lits (fk, fs) = c at *
  have HEC := hide hea
  clear hea
  obtain ⟨c1, c2⟩ := c
  go_wp2_with fail
  have hA2 : Below w2.heap.size w2 (w2.alloc (.cells #[.int .i64 (c1 : Int), .int .i64 (c2 : Int)] 77)) := (Below.refl _ _).alloc (Nat.le_refl _) _
  have hB3 := hB2.trans (hA2.mono hB2.size)
  refine (hasVar_any c1 c2 v _ hlt.1 hlt.2).mono ?_
  rintro e w3 ⟨rfl, hb3⟩
  go_wp2_with fail
  go_ret
  exact ⟨by rw [unhide HEC]; rfl, hB3.trans (hb3.mono hB3.size)⟩
end Go.Proofs.YtgipjjhkhfihpabGreatDoor

namespace Go.Proofs.YtgipjjhkhfihpabGreatDoor
open Go.RowKit

/-! ### shrink: reading alone -/
theorem shrinkStep_lt (q : QS) (u : Bool) (c : Nat × Nat) (v : Nat × Bool) (h : c.1 < 512 ∧ c.2 < 512) : (shrinkStep q u c v).1 < 512 ∧ (shrinkStep q u c v).2 < 512 := by
  unfold shrinkStep; split
  · exact without_lt _ _ h
  · exact h
theorem shrinkK_lt (q : QS) (u : Bool) (c : Nat × Nat) (h : c.1 < 512 ∧ c.2 < 512) : (shrinkK q u c).1 < 512 ∧ (shrinkK q u c).2 < 512 := by
  unfold shrinkK
  suffices hh : ∀ (vs : List (Nat × Bool)) (c : Nat × Nat), c.1 < 512 ∧ c.2 < 512 → (vs.foldl (shrinkStep q u) c).1 < 512 ∧ (vs.foldl (shrinkStep q u) c).2 < 512 from hh _ c h
  intro vs
  induction vs with
  | nil => intro c h; exact h
  | cons v vs ih => intro c h; exact ih _ (shrinkStep_lt q u c v h)
theorem shrink_step (q : QS) (u : Bool) (k : Nat) (h : k < q.vars.length) (c : Nat × Nat) : (q.vars.take (k + 1)).reverse.foldl (shrinkStep q u) c = (q.vars.take k).reverse.foldl (shrinkStep q u) (shrinkStep q u c q.vars[k]) := by
  rw [List.take_succ_eq_append_getElem h, List.reverse_append]; rfl

set_option maxRecDepth 100000 in
set_option maxHeartbeats 1600000 in
theorem shrinkKind_any (b : Nat) (C : SC) (S : SS) (V : SV) (c : Nat × Nat) (u : Bool) (w : World) (hS : SAt w b C S V) (hB : SBd C S) (hc : c.1 < 512 ∧ c.2 < 512) :
    Calls Tryz.prog 101 #[.pointer (some ⟨b, 0, none⟩), SetV c, .bool u] w fun e w' => e = .returned (SetV (shrinkK C.q u c)) ∧ Below w.heap.size w w' := by
  obtain ⟨aV, cV, hVf⟩ := own_form hS.oV
  have hoV := hS.oV
  rw [hVf] at hoV
  have hbw := blk_lt hS.fb
  have hvl := hB.qb.vl
  obtain ⟨p0, n0⟩ := c
  go_enter Tryz.func101, Tryz.ntmps101
  have k0 : w.cell? ⟨b, 0, none⟩ = some (.slice aV C.q.vars.length cV) := by rw [blk_cell hS.fb]; exact congrArg some hVf
  go_wp2_with fail
  go_loopg [7] (C.q.vars.length + 1) (fun m i wx => ∃ (k p n : Nat), i = .int .i64 ((k : Int) - 1) ∧ k + 1 ≤ m ∧ m ≤ k + 1 ∧ k ≤ C.q.vars.length ∧ p < 512 ∧ n < 512 ∧ shrinkK C.q u (p0, n0) = (C.q.vars.take k).reverse.foldl (shrinkStep C.q u) (p, n) ∧ Below w.heap.size w wx ∧
     wx.heap[w.heap.size]? = some (.cells #[.int .i64 (p : Int), .int .i64 (n : Int)] 77 (0, 0)) ∧ wx.heap[w.heap.size + 1]? = some (.cells #[.int .i64 0, .int .i64 0] 77 (0, 0)))
  case atStart => exact ⟨C.q.vars.length, p0, n0, by go_num, by omega, by omega, by omega, hc.1, hc.2, by rw [List.take_length]; rfl, ((Below.refl _ _).alloc (Nat.le_refl _) _).alloc (by simp) _, by rw [heap_alloc_old _ _ (by simp)]; exact heap_alloc_new _ _, alloc_new_at (by simp)⟩
  case round =>
    obtain ⟨k, p, n, rfl, hkm, hkm2, hkl, hp, hn, hsh, hb, hset, hres⟩ := hrel
    have HR := hide hsh; clear hsh
    have s0 : wr.cell? ⟨w.heap.size, 0, none⟩ = some (.int .i64 (p : Int)) := by rw [blk_cell hset]; rfl
    have s1 : wr.cell? ⟨w.heap.size, 1, none⟩ = some (.int .i64 (n : Int)) := by rw [blk_cell hset]; rfl
    have r0 : wr.cell? ⟨w.heap.size + 1, 0, none⟩ = some (.int .i64 0) := by rw [blk_cell hres]; rfl
    have r1 : wr.cell? ⟨w.heap.size + 1, 1, none⟩ = some (.int .i64 0) := by rw [blk_cell hres]; rfl
    have z0 := blk_free hset 0
    have z1 := blk_free hset 1
    have y0 := blk_free hres 0
    have y1 := blk_free hres 1
    have hbs := blk_lt hres
    have hbs0 : w.heap.size < wr.heap.size := by omega
    have hbw1 : b < wr.heap.size := by omega
    have x0 : wr.cell? ⟨b, 0, none⟩ = some (.slice aV C.q.vars.length cV) := by rw [hb.cell (p := ⟨b, 0, none⟩) hbw]; exact k0
    cases k with
    | zero =>
      have HF : Hid (shrinkK C.q u (p0, n0) = (p, n)) := hide (by rw [unhide HR]; rfl)
      have hR := blk_set (blk_set hres 0 (.int .i64 (p : Int))) 1 (.int .i64 (n : Int))
      have j0 := blk_cell hR 0
      have j1 := blk_cell hR 1
      go_wp2_with fail
      refine bodyPost_ret (v := SetV (p, n)) (by simp [results, Tryz.results101, go_sem, j0, j1]) rfl ⟨by rw [unhide HF], ?_⟩
      exact (hb.setCell (p := ⟨w.heap.size + 1, 0, none⟩) (Nat.le_succ _) _).setCell (p := ⟨w.heap.size + 1, 1, none⟩) (Nat.le_succ _) _
    | succ k =>
      have hlt : k < C.q.vars.length := by omega
      obtain ⟨g, cap, hVe, hg, hg', _, hcell⟩ := own_pos hoV (by omega)
      injection hVe with hVe _ hV2
      subst hVe hV2
      obtain ⟨ha, hb'⟩ := varCells_at C.q.vars k hlt
      have hx0 : wr.cell? ⟨g, k * 2, none⟩ = some (.int .i64 (C.q.vars[k].1 : Int)) := by rw [hb.cell (p := ⟨g, k * 2, none⟩) hg']; exact hcell _ _ ha
      have hx1 : wr.cell? ⟨g, k * 2 + 1, none⟩ = some (.bool C.q.vars[k].2) := by rw [hb.cell (p := ⟨g, k * 2 + 1, none⟩) hg']; exact hcell _ _ hb'
      have hgw : g < wr.heap.size := by omega
      have HST := hide (shrink_step C.q u k hlt (p, n))
      clear hcell ha hb'
      generalize C.q.vars[k] = x at *
      obtain ⟨vn, vu⟩ := x
      dsimp only at *
      go_wp2_with fail
      refine (withoutVar_any p n vn _ hp hn).mono ?_
      rintro e w2 ⟨rfl, hb2⟩
      have hA1 : Below wr.heap.size wr (wr.alloc (.cells #[.int .i64 (vn : Int), .bool vu] 109)) := (Below.refl _ _).alloc (Nat.le_refl _) _
      have hw2 : Below wr.heap.size wr w2 := hA1.trans (hb2.mono hA1.size)
      have hv2 : w2.heap[wr.heap.size]? = some (.cells #[.int .i64 (vn : Int), .bool vu] 109 (0, 0)) := (hb2.block _ (by simp)).trans (heap_alloc_new _ _)
      have hset2 := (hw2.block _ hbs0).trans hset
      have hres2 := (hw2.block _ hbs).trans hres
      have hB2 : Below w.heap.size w w2 := hb.trans (hw2.mono (by omega))
      have hwl := without_lt (p, n) vn ⟨hp, hn⟩
      have HSS : Hid (shrinkStep C.q u (p, n) (vn, vu) = if vu = u ∧ satQ C.q.cl (without (p, n) vn) = true then without (p, n) vn else (p, n)) := hide rfl
      generalize hea : without (p, n) (vn : Int) = cw at *
      have HEW := hide hea
      clear hea
      obtain ⟨d1, d2⟩ := cw
      dsimp only at hwl
      go_wp2_with fail
      have hA2 : Below w2.heap.size w2 (w2.alloc (.cells #[.int .i64 (d1 : Int), .int .i64 (d2 : Int)] 77)) := (Below.refl _ _).alloc (Nat.le_refl _) _
      have hle := heap_alloc_new w2 (.cells #[.int .i64 (d1 : Int), .int .i64 (d2 : Int)] 77)
      have hv3 := (hA2.block _ (blk_lt hv2)).trans hv2
      have hset3 := (hA2.block _ (blk_lt hset2)).trans hset2
      have hres3 := (hA2.block _ (blk_lt hres2)).trans hres2
      have hB3 := hB2.trans (hA2.mono hB2.size)
      generalize w2.alloc (.cells #[.int .i64 (d1 : Int), .int .i64 (d2 : Int)] 77) = w3 at *
      have e1 : w3.cell? ⟨wr.heap.size, 1, none⟩ = some (.bool vu) := by rw [blk_cell hv3]; rfl
      have e2 : w3.cell? ⟨w2.heap.size, 0, none⟩ = some (.int .i64 (d1 : Int)) := by rw [blk_cell hle]; rfl
      have e3 : w3.cell? ⟨w2.heap.size, 1, none⟩ = some (.int .i64 (d2 : Int)) := by rw [blk_cell hle]; rfl
      have l1 := blk_lt hv3
      have l2 := blk_lt hle
      have hS3 := hS.later hB3
      have hu9 : Below w3.heap.size w3 w3.drew := (Below.refl _ w3).drew
      have lb3 := blk_lt hS3.fb
      by_cases hvu : vu = u
      · subst hvu
        cases vu with
        | true =>
          go_region_with (go_at_call 79; refine (qsat_any 0 b C.q V.c d1 d2 _ (by rw [blk_cell (hS3.later hu9).fb]; rfl) (hS3.later hu9).oC hB.qb hwl.1 hwl.2).mono ?_; rintro e w4 ⟨rfl, hb4⟩; have hset4 := (hb4.block _ (blk_lt hset3)).trans hset3; have hres4 := (hb4.block _ (blk_lt hres3)).trans hres3; have hle4 := (hb4.block _ (blk_lt hle)).trans hle; have hB4 : Below w.heap.size w w4 := hB3.drew.trans (hb4.mono hB3.size))
          all_goals
            have t0 : w4.cell? ⟨w.heap.size, 0, none⟩ = some (.int .i64 (p : Int)) := by rw [blk_cell hset4]; rfl
            have t1 : w4.cell? ⟨w.heap.size, 1, none⟩ = some (.int .i64 (n : Int)) := by rw [blk_cell hset4]; rfl
            have t2 : w4.cell? ⟨w2.heap.size, 0, none⟩ = some (.int .i64 (d1 : Int)) := by rw [blk_cell hle4]; rfl
            have t3 : w4.cell? ⟨w2.heap.size, 1, none⟩ = some (.int .i64 (d2 : Int)) := by rw [blk_cell hle4]; rfl
            have y2 := blk_free hset4 0
            have y3 := blk_free hset4 1
            have m1 := blk_lt hset4
            have m2 := blk_lt hle4
            cases hsat : satQ C.q.cl (d1, d2) with
            | true =>
              have HF : Hid (shrinkK C.q true (p0, n0) = (C.q.vars.take k).reverse.foldl (shrinkStep C.q true) (d1, d2)) := hide (by rw [unhide HR, unhide HST, unhide HSS, if_pos (by simp [hsat])])
              clear hsat
              go_wp2_with fail
              go_roundg (gk - 1)
              case measure => omega
              case rel =>
                refine ⟨k, d1, d2, by go_num, by omega, by omega, by omega, hwl.1, hwl.2, unhide HF, (hB4.setCell (p := ⟨w.heap.size, 0, none⟩) (Nat.le_refl _) _).setCell (p := ⟨w.heap.size, 1, none⟩) (Nat.le_refl _) _, blk_set (blk_set hset4 0 _) 1 _, ?_⟩
                rw [Below.heap_setCell _ _ _ _ (by simp), Below.heap_setCell _ _ _ _ (by simp)]; exact hres4
            | false =>
              have HF : Hid (shrinkK C.q true (p0, n0) = (C.q.vars.take k).reverse.foldl (shrinkStep C.q true) (p, n)) := hide (by rw [unhide HR, unhide HST, unhide HSS, if_neg (by rw [hsat]; simp)])
              clear hsat
              go_wp2_with fail
              go_roundg (gk - 1)
              case measure => omega
              case rel => exact ⟨k, p, n, by go_num, by omega, by omega, by omega, hp, hn, unhide HF, hB4, hset4, hres4⟩
        | false =>
          go_region_with (go_at_call 79; refine (qsat_any 0 b C.q V.c d1 d2 _ (by rw [blk_cell (hS3.later hu9).fb]; rfl) (hS3.later hu9).oC hB.qb hwl.1 hwl.2).mono ?_; rintro e w4 ⟨rfl, hb4⟩; have hset4 := (hb4.block _ (blk_lt hset3)).trans hset3; have hres4 := (hb4.block _ (blk_lt hres3)).trans hres3; have hle4 := (hb4.block _ (blk_lt hle)).trans hle; have hB4 : Below w.heap.size w w4 := hB3.drew.trans (hb4.mono hB3.size))
          all_goals
            have t0 : w4.cell? ⟨w.heap.size, 0, none⟩ = some (.int .i64 (p : Int)) := by rw [blk_cell hset4]; rfl
            have t1 : w4.cell? ⟨w.heap.size, 1, none⟩ = some (.int .i64 (n : Int)) := by rw [blk_cell hset4]; rfl
            have t2 : w4.cell? ⟨w2.heap.size, 0, none⟩ = some (.int .i64 (d1 : Int)) := by rw [blk_cell hle4]; rfl
            have t3 : w4.cell? ⟨w2.heap.size, 1, none⟩ = some (.int .i64 (d2 : Int)) := by rw [blk_cell hle4]; rfl
            have y2 := blk_free hset4 0
            have y3 := blk_free hset4 1
            have m1 := blk_lt hset4
            have m2 := blk_lt hle4
            cases hsat : satQ C.q.cl (d1, d2) with
            | true =>
              have HF : Hid (shrinkK C.q false (p0, n0) = (C.q.vars.take k).reverse.foldl (shrinkStep C.q false) (d1, d2)) := hide (by rw [unhide HR, unhide HST, unhide HSS, if_pos (by simp [hsat])])
              clear hsat
              go_wp2_with fail
              go_roundg (gk - 1)
              case measure => omega
              case rel =>
                refine ⟨k, d1, d2, by go_num, by omega, by omega, by omega, hwl.1, hwl.2, unhide HF, (hB4.setCell (p := ⟨w.heap.size, 0, none⟩) (Nat.le_refl _) _).setCell (p := ⟨w.heap.size, 1, none⟩) (Nat.le_refl _) _, blk_set (blk_set hset4 0 _) 1 _, ?_⟩
                rw [Below.heap_setCell _ _ _ _ (by simp), Below.heap_setCell _ _ _ _ (by simp)]; exact hres4
            | false =>
              have HF : Hid (shrinkK C.q false (p0, n0) = (C.q.vars.take k).reverse.foldl (shrinkStep C.q false) (p, n)) := hide (by rw [unhide HR, unhide HST, unhide HSS, if_neg (by rw [hsat]; simp)])
              clear hsat
              go_wp2_with fail
              go_roundg (gk - 1)
              case measure => omega
              case rel => exact ⟨k, p, n, by go_num, by omega, by omega, by omega, hp, hn, unhide HF, hB4, hset4, hres4⟩
      · cases vu with
        | true =>
          have hu0 : u = false := by revert hvu; cases u <;> simp
          subst hu0
          have HF : Hid (shrinkK C.q false (p0, n0) = (C.q.vars.take k).reverse.foldl (shrinkStep C.q false) (p, n)) := hide (by rw [unhide HR, unhide HST, unhide HSS, if_neg (by simp)])
          clear hvu
          go_quiet (fail)
          have hb5 : Below w3.heap.size w3 (w3.drewN nq) := below_drewN (Below.refl _ _) nq
          have hset5 := (hb5.block _ (blk_lt hset3)).trans hset3
          have hres5 := (hb5.block _ (blk_lt hres3)).trans hres3
          have hB5 := hB3.trans (hb5.mono hB3.size)
          generalize w3.drewN nq = w5 at *
          go_wp2_with fail
          go_roundg (gk - 1)
          case measure => omega
          case rel => exact ⟨k, p, n, by go_num, by omega, by omega, by omega, hp, hn, unhide HF, hB5, hset5, hres5⟩
        | false =>
          have hu0 : u = true := by revert hvu; cases u <;> simp
          subst hu0
          have HF : Hid (shrinkK C.q true (p0, n0) = (C.q.vars.take k).reverse.foldl (shrinkStep C.q true) (p, n)) := hide (by rw [unhide HR, unhide HST, unhide HSS, if_neg (by simp)])
          clear hvu
          go_quiet (fail)
          have hb5 : Below w3.heap.size w3 (w3.drewN nq) := below_drewN (Below.refl _ _) nq
          have hset5 := (hb5.block _ (blk_lt hset3)).trans hset3
          have hres5 := (hb5.block _ (blk_lt hres3)).trans hres3
          have hB5 := hB3.trans (hb5.mono hB3.size)
          generalize w3.drewN nq = w5 at *
          go_wp2_with fail
          go_roundg (gk - 1)
          case measure => omega
          case rel => exact ⟨k, p, n, by go_num, by omega, by omega, by omega, hp, hn, unhide HF, hB5, hset5, hres5⟩
end Go.Proofs.YtgipjjhkhfihpabGreatDoor

namespace Go.Proofs.YtgipjjhkhfihpabGreatDoor
open Go.RowKit

/-! ### shrink, left: reading alone -/
set_option maxRecDepth 100000 in
set_option maxHeartbeats 1600000 in
theorem shrink_any (b : Nat) (C : SC) (S : SS) (V : SV) (p : Nat × Nat) (w : World) (hS : SAt w b C S V) (hB : SBd C S) (hp : p.1 < 512 ∧ p.2 < 512) :
    Calls Tryz.prog 80 #[.pointer (some ⟨b, 0, none⟩), SetV p] w fun e w' => e = .returned (SetV (shrinkQ C.q p)) ∧ Below w.heap.size w w' := by
  obtain ⟨p1, p2⟩ := p
  go_enter Tryz.func80, Tryz.ntmps80
  go_wp2_with fail
  generalize hw0 : ((w.alloc (.cells #[.int .i64 (p1 : Int), .int .i64 (p2 : Int)] 77)).alloc (.cells #[.int .i64 0, .int .i64 0] 77)) = u1
  have hBw : Below w.heap.size w u1 := by rw [← hw0]; exact ((Below.refl _ _).alloc (Nat.le_refl _) _).alloc (by simp) _
  have hva : u1.heap[w.heap.size]? = some (.cells #[.int .i64 (p1 : Int), .int .i64 (p2 : Int)] 77 (0, 0)) := by rw [← hw0, heap_alloc_old _ _ (by simp)]; exact alloc_new_at (by simp)
  have hrs : u1.heap[w.heap.size + 1]? = some (.cells #[.int .i64 0, .int .i64 0] 77 (0, 0)) := by rw [← hw0]; exact alloc_new_at (by simp)
  clear hw0
  have cva0 : u1.cell? ⟨w.heap.size, 0, none⟩ = some (.int .i64 (p1 : Int)) := by rw [blk_cell hva]; rfl
  have cva1 : u1.cell? ⟨w.heap.size, 1, none⟩ = some (.int .i64 (p2 : Int)) := by rw [blk_cell hva]; rfl
  have lva := blk_lt hva
  have crs0 : u1.cell? ⟨w.heap.size + 1, 0, none⟩ = some (.int .i64 0) := by rw [blk_cell hrs]; rfl
  have crs1 : u1.cell? ⟨w.heap.size + 1, 1, none⟩ = some (.int .i64 0) := by rw [blk_cell hrs]; rfl
  have lrs := blk_lt hrs
  refine (shrinkKind_any b C S V (p1, p2) true _ (hS.later hBw) hB hp).mono ?_
  rintro e u2 ⟨rfl, b2⟩
  replace hBw := hBw.trans (b2.mono hBw.size)
  replace hva := (b2.block _ (blk_lt hva)).trans hva
  replace cva0 : u2.cell? ⟨w.heap.size, 0, none⟩ = some (.int .i64 (p1 : Int)) := by rw [blk_cell hva]; rfl
  replace cva1 : u2.cell? ⟨w.heap.size, 1, none⟩ = some (.int .i64 (p2 : Int)) := by rw [blk_cell hva]; rfl
  replace lva := blk_lt hva
  replace hrs := (b2.block _ (blk_lt hrs)).trans hrs
  replace crs0 : u2.cell? ⟨w.heap.size + 1, 0, none⟩ = some (.int .i64 0) := by rw [blk_cell hrs]; rfl
  replace crs1 : u2.cell? ⟨w.heap.size + 1, 1, none⟩ = some (.int .i64 0) := by rw [blk_cell hrs]; rfl
  replace lrs := blk_lt hrs
  have hm := shrinkK_lt C.q true (p1, p2) hp
  have HQ : Hid (shrinkQ C.q (p1, p2) = shrinkK C.q false (shrinkK C.q true (p1, p2))) := hide rfl
  generalize hea : shrinkK C.q true (p1, p2) = c at *
  clear hea
  obtain ⟨c1, c2⟩ := c
  go_wp2_with fail
  generalize hw0 : u2.alloc (.cells #[.int .i64 (c1 : Int), .int .i64 (c2 : Int)] 77) = u3
  have b3 : Below u2.heap.size u2 u3 := by rw [← hw0]; exact (Below.refl _ _).alloc (Nat.le_refl _) _
  have hcu : u3.heap[u2.heap.size]? = some (.cells #[.int .i64 (c1 : Int), .int .i64 (c2 : Int)] 77 (0, 0)) := by rw [← hw0]; exact heap_alloc_new _ _
  clear hw0
  replace hBw := hBw.trans (b3.mono hBw.size)
  replace hva := (b3.block _ (blk_lt hva)).trans hva
  replace cva0 : u3.cell? ⟨w.heap.size, 0, none⟩ = some (.int .i64 (p1 : Int)) := by rw [blk_cell hva]; rfl
  replace cva1 : u3.cell? ⟨w.heap.size, 1, none⟩ = some (.int .i64 (p2 : Int)) := by rw [blk_cell hva]; rfl
  replace lva := blk_lt hva
  replace hrs := (b3.block _ (blk_lt hrs)).trans hrs
  replace crs0 : u3.cell? ⟨w.heap.size + 1, 0, none⟩ = some (.int .i64 0) := by rw [blk_cell hrs]; rfl
  replace crs1 : u3.cell? ⟨w.heap.size + 1, 1, none⟩ = some (.int .i64 0) := by rw [blk_cell hrs]; rfl
  replace lrs := blk_lt hrs
  have ccu0 : u3.cell? ⟨u2.heap.size, 0, none⟩ = some (.int .i64 (c1 : Int)) := by rw [blk_cell hcu]; rfl
  have ccu1 : u3.cell? ⟨u2.heap.size, 1, none⟩ = some (.int .i64 (c2 : Int)) := by rw [blk_cell hcu]; rfl
  have lcu := blk_lt hcu
  refine (shrinkKind_any b C S V (c1, c2) false _ (hS.later hBw) hB hm).mono ?_
  rintro e u4 ⟨rfl, b4⟩
  replace hBw := hBw.trans (b4.mono hBw.size)
  replace hva := (b4.block _ (blk_lt hva)).trans hva
  replace cva0 : u4.cell? ⟨w.heap.size, 0, none⟩ = some (.int .i64 (p1 : Int)) := by rw [blk_cell hva]; rfl
  replace cva1 : u4.cell? ⟨w.heap.size, 1, none⟩ = some (.int .i64 (p2 : Int)) := by rw [blk_cell hva]; rfl
  replace lva := blk_lt hva
  replace hrs := (b4.block _ (blk_lt hrs)).trans hrs
  replace crs0 : u4.cell? ⟨w.heap.size + 1, 0, none⟩ = some (.int .i64 0) := by rw [blk_cell hrs]; rfl
  replace crs1 : u4.cell? ⟨w.heap.size + 1, 1, none⟩ = some (.int .i64 0) := by rw [blk_cell hrs]; rfl
  replace lrs := blk_lt hrs
  replace hcu := (b4.block _ (blk_lt hcu)).trans hcu
  replace ccu0 : u4.cell? ⟨u2.heap.size, 0, none⟩ = some (.int .i64 (c1 : Int)) := by rw [blk_cell hcu]; rfl
  replace ccu1 : u4.cell? ⟨u2.heap.size, 1, none⟩ = some (.int .i64 (c2 : Int)) := by rw [blk_cell hcu]; rfl
  replace lcu := blk_lt hcu
  generalize hea : shrinkK C.q false (c1, c2) = c at *
  clear hea
  obtain ⟨d1, d2⟩ := c
  have z0 := blk_free hrs 0
  have z1 := blk_free hrs 1
  have hR := blk_set (blk_set hrs 0 (.int .i64 (d1 : Int))) 1 (.int .i64 (d2 : Int))
  have j0 := blk_cell hR 0
  have j1 := blk_cell hR 1
  go_wp2_with fail
  refine bodyPost_ret (v := SetV (d1, d2)) (by simp [results, Tryz.results80, go_sem, j0, j1]) rfl ⟨by rw [unhide HQ], ?_⟩
  exact (hBw.setCell (p := ⟨w.heap.size + 1, 0, none⟩) (Nat.le_succ _) _).setCell (p := ⟨w.heap.size + 1, 1, none⟩) (Nat.le_succ _) _

/-- What lies behind the first region of left: the literals that are left at some block of the call's own. -/
structure LeftAt (w wx : World) (bc lv : Nat) (p c d : Nat × Nat) : Prop where
  below : Below w.heap.size w wx
  va : wx.heap[w.heap.size]? = some (.cells #[.int .i64 (p.1 : Int), .int .i64 (p.2 : Int)] 77 (0, 0))
  rs : wx.heap[w.heap.size + 1]? = some (.cells #[.int .i64 0, .int .i64 0] 77 (0, 0))
  cl : wx.heap[bc]? = some (.cells #[.int .i64 (c.1 : Int), .int .i64 (c.2 : Int)] 77 (0, 0))
  le : wx.heap[lv]? = some (.cells #[.int .i64 (d.1 : Int), .int .i64 (d.2 : Int)] 77 (0, 0))
theorem LeftAt.ofAlloc {w v : World} {bc : Nat} {p c d : Nat × Nat} (hb : Below w.heap.size w v) (ha : v.heap[w.heap.size]? = some (.cells #[.int .i64 (p.1 : Int), .int .i64 (p.2 : Int)] 77 (0, 0))) (hr : v.heap[w.heap.size + 1]? = some (.cells #[.int .i64 0, .int .i64 0] 77 (0, 0)))
    (hc : v.heap[bc]? = some (.cells #[.int .i64 (c.1 : Int), .int .i64 (c.2 : Int)] 77 (0, 0))) : LeftAt w (v.alloc (.cells #[.int .i64 (d.1 : Int), .int .i64 (d.2 : Int)] 77)) bc v.heap.size p c d :=
  ⟨hb.alloc hb.size _, (heap_alloc_old v _ (blk_lt ha)).trans ha, (heap_alloc_old v _ (blk_lt hr)).trans hr, (heap_alloc_old v _ (blk_lt hc)).trans hc, heap_alloc_new _ _⟩
theorem LeftAt.ofStore {w v : World} {bc lv : Nat} {p c d : Nat × Nat} (hb : Below w.heap.size w v) (ha : v.heap[w.heap.size]? = some (.cells #[.int .i64 (p.1 : Int), .int .i64 (p.2 : Int)] 77 (0, 0))) (hr : v.heap[w.heap.size + 1]? = some (.cells #[.int .i64 0, .int .i64 0] 77 (0, 0)))
    (hc : v.heap[bc]? = some (.cells #[.int .i64 (c.1 : Int), .int .i64 (c.2 : Int)] 77 (0, 0))) (hl : v.heap[lv]? = some (.cells #[.int .i64 0, .int .i64 0] 77 (0, 0))) (h0 : w.heap.size ≤ lv) (h1 : w.heap.size ≠ lv) (h2 : w.heap.size + 1 ≠ lv) (h3 : bc ≠ lv) :
    LeftAt w ((v.setCell ⟨lv, 0, none⟩ (.int .i64 (d.1 : Int))).setCell ⟨lv, 1, none⟩ (.int .i64 (d.2 : Int))) bc lv p c d :=
  ⟨(hb.setCell (p := ⟨lv, 0, none⟩) h0 _).setCell (p := ⟨lv, 1, none⟩) h0 _, (Below.heap_setCell _ _ _ _ h1).trans ((Below.heap_setCell _ _ _ _ h1).trans ha), (Below.heap_setCell _ _ _ _ h2).trans ((Below.heap_setCell _ _ _ _ h2).trans hr), (Below.heap_setCell _ _ _ _ h3).trans ((Below.heap_setCell _ _ _ _ h3).trans hc), blk_set (blk_set hl 0 _) 1 _⟩
set_option maxRecDepth 100000 in
set_option maxHeartbeats 8000000 in
theorem left_any (b : Nat) (C : SC) (S : SS) (V : SV) (n : Nat) (p : Nat × Nat) (w : World) (hS : SAt w b C S V) (hB : SBd C S) (hp : p.1 < 512 ∧ p.2 < 512) :
    Calls Tryz.prog 93 #[.pointer (some ⟨b, 0, none⟩), .int .i64 (n : Int), SetV p] w fun e w' => e = .returned (.tuple #[SetV (leftOf (litsAt S.ref n) p), .bool (openB (litsAt S.ref n) p)]) ∧ Below w.heap.size w w' := by
  obtain ⟨p1, p2⟩ := p
  have hlt := litsAt_lt S.ref hB.ref n
  have hrl := hB.rl
  have k7 : w.cell? ⟨b, 7, none⟩ = some V.r := by rw [blk_cell hS.fb]; rfl
  have hbw := blk_lt hS.fb
  go_enter Tryz.func93, Tryz.ntmps93
  go_wp2_with fail
  generalize hw0 : ((w.alloc (.cells #[.int .i64 (p1 : Int), .int .i64 (p2 : Int)] 77)).alloc (.cells #[.int .i64 0, .int .i64 0] 77)) = u1
  have hBw : Below w.heap.size w u1 := by rw [← hw0]; exact ((Below.refl _ _).alloc (Nat.le_refl _) _).alloc (by simp) _
  have hva : u1.heap[w.heap.size]? = some (.cells #[.int .i64 (p1 : Int), .int .i64 (p2 : Int)] 77 (0, 0)) := by rw [← hw0, heap_alloc_old _ _ (by simp)]; exact alloc_new_at (by simp)
  have hrs : u1.heap[w.heap.size + 1]? = some (.cells #[.int .i64 0, .int .i64 0] 77 (0, 0)) := by rw [← hw0]; exact alloc_new_at (by simp)
  clear hw0
  have cva0 : u1.cell? ⟨w.heap.size, 0, none⟩ = some (.int .i64 (p1 : Int)) := by rw [blk_cell hva]; rfl
  have cva1 : u1.cell? ⟨w.heap.size, 1, none⟩ = some (.int .i64 (p2 : Int)) := by rw [blk_cell hva]; rfl
  have lva := blk_lt hva
  have crs0 : u1.cell? ⟨w.heap.size + 1, 0, none⟩ = some (.int .i64 0) := by rw [blk_cell hrs]; rfl
  have crs1 : u1.cell? ⟨w.heap.size + 1, 1, none⟩ = some (.int .i64 0) := by rw [blk_cell hrs]; rfl
  have lrs := blk_lt hrs
  have hc := (hS.later hBw)
  refine (plits_any 0 b 6 S.ref V.r n _ (by rw [blk_cell hc.fb]; rfl) hc.oR (by omega)).mono ?_
  rintro e u2 ⟨rfl, b2⟩
  replace hBw := hBw.trans (b2.mono hBw.size)
  replace hva := (b2.block _ (blk_lt hva)).trans hva
  replace cva0 : u2.cell? ⟨w.heap.size, 0, none⟩ = some (.int .i64 (p1 : Int)) := by rw [blk_cell hva]; rfl
  replace cva1 : u2.cell? ⟨w.heap.size, 1, none⟩ = some (.int .i64 (p2 : Int)) := by rw [blk_cell hva]; rfl
  replace lva := blk_lt hva
  replace hrs := (b2.block _ (blk_lt hrs)).trans hrs
  replace crs0 : u2.cell? ⟨w.heap.size + 1, 0, none⟩ = some (.int .i64 0) := by rw [blk_cell hrs]; rfl
  replace crs1 : u2.cell? ⟨w.heap.size + 1, 1, none⟩ = some (.int .i64 0) := by rw [blk_cell hrs]; rfl
  replace lrs := blk_lt hrs
  replace hc := hc.later b2
  generalize hea : litsAt S.ref n = c at *
  have HEC := hide hea
  clear hea
  obtain ⟨c1, c2⟩ := c
  have HL : Hid (leftOf (c1, c2) (p1, p2) = minus (c1, c2) (p2, p1)) := hide rfl
  have HO : Hid (openB (c1, c2) (p1, p2) = (!((c1 &&& p1) ||| (c2 &&& p2) != 0) && !(c1 &&& c2 != 0))) := hide rfl
  have hm := minus_lt (c1, c2) (p2, p1) hlt
  go_wp2_with fail
  generalize hw0 : u2.alloc (.cells #[.int .i64 (c1 : Int), .int .i64 (c2 : Int)] 77) = u3
  have b3 : Below u2.heap.size u2 u3 := by rw [← hw0]; exact (Below.refl _ _).alloc (Nat.le_refl _) _
  have hcl : u3.heap[u2.heap.size]? = some (.cells #[.int .i64 (c1 : Int), .int .i64 (c2 : Int)] 77 (0, 0)) := by rw [← hw0]; exact heap_alloc_new _ _
  clear hw0
  replace hBw := hBw.trans (b3.mono hBw.size)
  replace hva := (b3.block _ (blk_lt hva)).trans hva
  replace cva0 : u3.cell? ⟨w.heap.size, 0, none⟩ = some (.int .i64 (p1 : Int)) := by rw [blk_cell hva]; rfl
  replace cva1 : u3.cell? ⟨w.heap.size, 1, none⟩ = some (.int .i64 (p2 : Int)) := by rw [blk_cell hva]; rfl
  replace lva := blk_lt hva
  replace hrs := (b3.block _ (blk_lt hrs)).trans hrs
  replace crs0 : u3.cell? ⟨w.heap.size + 1, 0, none⟩ = some (.int .i64 0) := by rw [blk_cell hrs]; rfl
  replace crs1 : u3.cell? ⟨w.heap.size + 1, 1, none⟩ = some (.int .i64 0) := by rw [blk_cell hrs]; rfl
  replace lrs := blk_lt hrs
  replace hc := hc.later b3
  have ccl0 : u3.cell? ⟨u2.heap.size, 0, none⟩ = some (.int .i64 (c1 : Int)) := by rw [blk_cell hcl]; rfl
  have ccl1 : u3.cell? ⟨u2.heap.size, 1, none⟩ = some (.int .i64 (c2 : Int)) := by rw [blk_cell hcl]; rfl
  have lcl := blk_lt hcl
  clear hc k7 hrl hbw
  have hse : Below w.heap.size w u3 := hBw
  go_cut [9] (fun s9 wx => ∃ lv, s9 = .pointer (some ⟨lv, 0, none⟩) ∧ LeftAt w wx u2.heap.size lv (p1, p2) (c1, c2) (minus (c1, c2) (p2, p1)))
  case first =>
    go_region_with (first | (go_at_call 90; refine (turned_any p1 p2 _).mono ?_; rintro e v1 ⟨rfl, y1⟩; have x1 : Below u3.heap.size u3 v1 := Below.trans (by first | exact Below.refl _ _ | exact (Below.refl _ _).drew | exact (Below.refl _ _).alloc (Nat.le_refl _) _ | exact ((Below.refl _ _).alloc (Nat.le_refl _) _).drew | exact ((Below.refl _ _).drew).alloc (Nat.le_refl _) _) (y1.mono (by simp)); have hcl_v1 := (x1.block _ (blk_lt hcl)).trans hcl; have hva_v1 := (x1.block _ (blk_lt hva)).trans hva; have hrs_v1 := (x1.block _ (blk_lt hrs)).trans hrs; have cl0_v1 : v1.cell? ⟨u2.heap.size, 0, none⟩ = some (.int .i64 (c1 : Int)) := (by rw [blk_cell hcl_v1]; rfl); have cl1_v1 : v1.cell? ⟨u2.heap.size, 1, none⟩ = some (.int .i64 (c2 : Int)) := (by rw [blk_cell hcl_v1]; rfl); have va0_v1 : v1.cell? ⟨w.heap.size, 0, none⟩ = some (.int .i64 (p1 : Int)) := (by rw [blk_cell hva_v1]; rfl); have va1_v1 : v1.cell? ⟨w.heap.size, 1, none⟩ = some (.int .i64 (p2 : Int)) := (by rw [blk_cell hva_v1]; rfl); have rs0_v1 : v1.cell? ⟨w.heap.size + 1, 0, none⟩ = some (.int .i64 0) := (by rw [blk_cell hrs_v1]; rfl); have rs1_v1 : v1.cell? ⟨w.heap.size + 1, 1, none⟩ = some (.int .i64 0) := (by rw [blk_cell hrs_v1]; rfl); have l_v1_cl := blk_lt hcl_v1; have l_v1_va := blk_lt hva_v1; have l_v1_rs := blk_lt hrs_v1; (try (have hq1 : v1.heap[u3.heap.size]? = some (.cells #[.int .i64 0, .int .i64 0] 77 (0, 0)) := (by first | exact (y1.block u3.heap.size (by simp)).trans (heap_alloc_new u3 _) | exact (y1.block u3.heap.size (by simp)).trans (heap_alloc_new u3.drew _)); have ql1 := blk_lt hq1))) | (go_at_call 89; refine (lwithout_any c1 c2 p2 p1 _ hlt.1 hlt.2 hp.2 hp.1).mono ?_; rintro e v2 ⟨rfl, y2⟩; have x2 : Below v1.heap.size v1 v2 := Below.trans (by first | exact Below.refl _ _ | exact (Below.refl _ _).drew | exact (Below.refl _ _).alloc (Nat.le_refl _) _ | exact ((Below.refl _ _).alloc (Nat.le_refl _) _).drew | exact ((Below.refl _ _).drew).alloc (Nat.le_refl _) _) (y2.mono (by simp)); have hcl_v2 := ((x1.trans (x2.mono x1.size)).block _ (blk_lt hcl)).trans hcl; have hva_v2 := ((x1.trans (x2.mono x1.size)).block _ (blk_lt hva)).trans hva; have hrs_v2 := ((x1.trans (x2.mono x1.size)).block _ (blk_lt hrs)).trans hrs; have cl0_v2 : v2.cell? ⟨u2.heap.size, 0, none⟩ = some (.int .i64 (c1 : Int)) := (by rw [blk_cell hcl_v2]; rfl); have cl1_v2 : v2.cell? ⟨u2.heap.size, 1, none⟩ = some (.int .i64 (c2 : Int)) := (by rw [blk_cell hcl_v2]; rfl); have va0_v2 : v2.cell? ⟨w.heap.size, 0, none⟩ = some (.int .i64 (p1 : Int)) := (by rw [blk_cell hva_v2]; rfl); have va1_v2 : v2.cell? ⟨w.heap.size, 1, none⟩ = some (.int .i64 (p2 : Int)) := (by rw [blk_cell hva_v2]; rfl); have rs0_v2 : v2.cell? ⟨w.heap.size + 1, 0, none⟩ = some (.int .i64 0) := (by rw [blk_cell hrs_v2]; rfl); have rs1_v2 : v2.cell? ⟨w.heap.size + 1, 1, none⟩ = some (.int .i64 0) := (by rw [blk_cell hrs_v2]; rfl); have l_v2_cl := blk_lt hcl_v2; have l_v2_va := blk_lt hva_v2; have l_v2_rs := blk_lt hrs_v2; (try (have hq2 : v2.heap[u3.heap.size]? = some (.cells #[.int .i64 0, .int .i64 0] 77 (0, 0)) := (x2.block _ ql1).trans hq1; have q20 : v2.cell? ⟨u3.heap.size, 0, none⟩ = some (.int .i64 0) := (by rw [blk_cell hq2]; rfl); have q21 : v2.cell? ⟨u3.heap.size, 1, none⟩ = some (.int .i64 0) := (by rw [blk_cell hq2]; rfl); have qz20 := blk_free hq2 0; have qz21 := blk_free hq2 1; have ql2 := blk_lt hq2)); (try (have hq3 : v2.heap[v1.heap.size]? = some (.cells #[.int .i64 0, .int .i64 0] 77 (0, 0)) := (by first | exact (y2.block v1.heap.size (by simp)).trans (heap_alloc_new v1 _) | exact (y2.block v1.heap.size (by simp)).trans (heap_alloc_new v1.drew _)); have q30 : v2.cell? ⟨v1.heap.size, 0, none⟩ = some (.int .i64 0) := (by rw [blk_cell hq3]; rfl); have q31 : v2.cell? ⟨v1.heap.size, 1, none⟩ = some (.int .i64 0) := (by rw [blk_cell hq3]; rfl); have qz30 := blk_free hq3 0; have qz31 := blk_free hq3 1; have ql3 := blk_lt hq3))))
    all_goals
      have xx := x1.trans (x2.mono x1.size)
      have hB2 := hse.trans (xx.mono hse.size)
      have sx := x1.size
      have sy := x2.size
      go_wp2_with fail
      go_meet
      refine ⟨_, rfl, ?_⟩
      first
        | exact LeftAt.ofAlloc hB2 hva_v2 hrs_v2 hcl_v2
        | exact LeftAt.ofStore hB2 hva_v2 hrs_v2 hcl_v2 hq3 (by omega) (by omega) (by omega) (by omega)
        | exact LeftAt.ofStore hB2 hva_v2 hrs_v2 hcl_v2 hq2 (by omega) (by omega) (by omega) (by omega)
  case rest =>
  obtain ⟨lv, rfl, hL⟩ := hcut
  generalize hem : minus (c1, c2) (p2, p1) = cm at *
  have HEM := hide hem
  clear hem
  obtain ⟨d1, d2⟩ := cm
  clear hcl hva hrs cva0 cva1 lva crs0 crs1 lrs ccl0 ccl1 lcl hse b3 b2 hBw
  obtain ⟨hBz, hvaz, hrsz, hclz, hlez⟩ := hL
  dsimp only at hvaz hclz hlez hm
  have ccl0 : wc.cell? ⟨u2.heap.size, 0, none⟩ = some (.int .i64 (c1 : Int)) := by rw [blk_cell hclz]; rfl
  have ccl1 : wc.cell? ⟨u2.heap.size, 1, none⟩ = some (.int .i64 (c2 : Int)) := by rw [blk_cell hclz]; rfl
  have lcl := blk_lt hclz
  have cva0 : wc.cell? ⟨w.heap.size, 0, none⟩ = some (.int .i64 (p1 : Int)) := by rw [blk_cell hvaz]; rfl
  have cva1 : wc.cell? ⟨w.heap.size, 1, none⟩ = some (.int .i64 (p2 : Int)) := by rw [blk_cell hvaz]; rfl
  have lva := blk_lt hvaz
  have crs0 : wc.cell? ⟨w.heap.size + 1, 0, none⟩ = some (.int .i64 0) := by rw [blk_cell hrsz]; rfl
  have crs1 : wc.cell? ⟨w.heap.size + 1, 1, none⟩ = some (.int .i64 0) := by rw [blk_cell hrsz]; rfl
  have lrs := blk_lt hrsz
  have cle0 : wc.cell? ⟨lv, 0, none⟩ = some (.int .i64 (d1 : Int)) := by rw [blk_cell hlez]; rfl
  have cle1 : wc.cell? ⟨lv, 1, none⟩ = some (.int .i64 (d2 : Int)) := by rw [blk_cell hlez]; rfl
  have lle := blk_lt hlez
  go_wp2_with fail
  cases hme : ((c1 &&& p1) ||| (c2 &&& p2) != 0) with
  | true =>
    have HO2 : Hid (openB (c1, c2) (p1, p2) = false) := hide (by rw [unhide HO, hme]; rfl)
    go_region_with (go_at_call 94; refine (meets_any c1 c2 p1 p2 _ hlt.1 hlt.2 hp.1 hp.2).mono ?_; rintro e v3 ⟨rfl, y3⟩; rw [hme]; have x3 : Below wc.heap.size wc v3 := Below.trans (by first | exact Below.refl _ _ | exact (Below.refl _ _).drew | exact (Below.refl _ _).alloc (Nat.le_refl _) _ | exact ((Below.refl _ _).alloc (Nat.le_refl _) _).drew | exact ((Below.refl _ _).drew).alloc (Nat.le_refl _) _) (y3.mono (by simp)); have hcl_v3 := (x3.block _ (blk_lt hclz)).trans hclz; have hva_v3 := (x3.block _ (blk_lt hvaz)).trans hvaz; have hrs_v3 := (x3.block _ (blk_lt hrsz)).trans hrsz; have hle_v3 := (x3.block _ (blk_lt hlez)).trans hlez; have cl0_v3 : v3.cell? ⟨u2.heap.size, 0, none⟩ = some (.int .i64 (c1 : Int)) := (by rw [blk_cell hcl_v3]; rfl); have cl1_v3 : v3.cell? ⟨u2.heap.size, 1, none⟩ = some (.int .i64 (c2 : Int)) := (by rw [blk_cell hcl_v3]; rfl); have va0_v3 : v3.cell? ⟨w.heap.size, 0, none⟩ = some (.int .i64 (p1 : Int)) := (by rw [blk_cell hva_v3]; rfl); have va1_v3 : v3.cell? ⟨w.heap.size, 1, none⟩ = some (.int .i64 (p2 : Int)) := (by rw [blk_cell hva_v3]; rfl); have rs0_v3 : v3.cell? ⟨w.heap.size + 1, 0, none⟩ = some (.int .i64 0) := (by rw [blk_cell hrs_v3]; rfl); have rs1_v3 : v3.cell? ⟨w.heap.size + 1, 1, none⟩ = some (.int .i64 0) := (by rw [blk_cell hrs_v3]; rfl); have le0_v3 : v3.cell? ⟨lv, 0, none⟩ = some (.int .i64 (d1 : Int)) := (by rw [blk_cell hle_v3]; rfl); have le1_v3 : v3.cell? ⟨lv, 1, none⟩ = some (.int .i64 (d2 : Int)) := (by rw [blk_cell hle_v3]; rfl); have l_v3_cl := blk_lt hcl_v3; have l_v3_va := blk_lt hva_v3; have l_v3_rs := blk_lt hrs_v3; have l_v3_le := blk_lt hle_v3; have z0_v3 := blk_free hrs_v3 0; have z1_v3 := blk_free hrs_v3 1)
    all_goals go_wp2_with fail
    all_goals
      have hR := blk_set (blk_set hrs_v3 0 (.int .i64 (d1 : Int))) 1 (.int .i64 (d2 : Int))
      have j0 := blk_cell hR 0
      have j1 := blk_cell hR 1
      refine bodyPost_ret (v := .tuple #[SetV (d1, d2), .bool false]) (by simp [results, Tryz.results93, go_sem, j0, j1]) rfl ⟨by rw [unhide HEC, unhide HL, unhide HO2], ?_⟩
      exact ((hBz.trans (x3.mono hBz.size)).setCell (p := ⟨w.heap.size + 1, 0, none⟩) (Nat.le_succ _) _).setCell (p := ⟨w.heap.size + 1, 1, none⟩) (Nat.le_succ _) _
  | false =>
    have HO2 : Hid (openB (c1, c2) (p1, p2) = !(c1 &&& c2 != 0)) := hide (by rw [unhide HO, hme]; rfl)
    go_region_with (first | (go_at_call 94; refine (meets_any c1 c2 p1 p2 _ hlt.1 hlt.2 hp.1 hp.2).mono ?_; rintro e v3 ⟨rfl, y3⟩; rw [hme]; have x3 : Below wc.heap.size wc v3 := Below.trans (by first | exact Below.refl _ _ | exact (Below.refl _ _).drew | exact (Below.refl _ _).alloc (Nat.le_refl _) _ | exact ((Below.refl _ _).alloc (Nat.le_refl _) _).drew | exact ((Below.refl _ _).drew).alloc (Nat.le_refl _) _) (y3.mono (by simp)); have hcl_v3 := (x3.block _ (blk_lt hclz)).trans hclz; have hva_v3 := (x3.block _ (blk_lt hvaz)).trans hvaz; have hrs_v3 := (x3.block _ (blk_lt hrsz)).trans hrsz; have hle_v3 := (x3.block _ (blk_lt hlez)).trans hlez; have cl0_v3 : v3.cell? ⟨u2.heap.size, 0, none⟩ = some (.int .i64 (c1 : Int)) := (by rw [blk_cell hcl_v3]; rfl); have cl1_v3 : v3.cell? ⟨u2.heap.size, 1, none⟩ = some (.int .i64 (c2 : Int)) := (by rw [blk_cell hcl_v3]; rfl); have va0_v3 : v3.cell? ⟨w.heap.size, 0, none⟩ = some (.int .i64 (p1 : Int)) := (by rw [blk_cell hva_v3]; rfl); have va1_v3 : v3.cell? ⟨w.heap.size, 1, none⟩ = some (.int .i64 (p2 : Int)) := (by rw [blk_cell hva_v3]; rfl); have rs0_v3 : v3.cell? ⟨w.heap.size + 1, 0, none⟩ = some (.int .i64 0) := (by rw [blk_cell hrs_v3]; rfl); have rs1_v3 : v3.cell? ⟨w.heap.size + 1, 1, none⟩ = some (.int .i64 0) := (by rw [blk_cell hrs_v3]; rfl); have le0_v3 : v3.cell? ⟨lv, 0, none⟩ = some (.int .i64 (d1 : Int)) := (by rw [blk_cell hle_v3]; rfl); have le1_v3 : v3.cell? ⟨lv, 1, none⟩ = some (.int .i64 (d2 : Int)) := (by rw [blk_cell hle_v3]; rfl); have l_v3_cl := blk_lt hcl_v3; have l_v3_va := blk_lt hva_v3; have l_v3_rs := blk_lt hrs_v3; have l_v3_le := blk_lt hle_v3; have z0_v3 := blk_free hrs_v3 0; have z1_v3 := blk_free hrs_v3 1) | (go_at_call 100; refine (clashes_any c1 c2 _ hlt.1 hlt.2).mono ?_; rintro e v4 ⟨rfl, y4⟩; have x4 : Below wc.heap.size wc v4 := x3.trans (Below.trans (B := wc.heap.size) (by first | exact Below.refl _ _ | exact (Below.refl _ _).drew) (y4.mono (by have := x3.size; simp; omega))); have hcl_v4 := (x4.block _ (blk_lt hclz)).trans hclz; have hva_v4 := (x4.block _ (blk_lt hvaz)).trans hvaz; have hrs_v4 := (x4.block _ (blk_lt hrsz)).trans hrsz; have hle_v4 := (x4.block _ (blk_lt hlez)).trans hlez; have cl0_v4 : v4.cell? ⟨u2.heap.size, 0, none⟩ = some (.int .i64 (c1 : Int)) := (by rw [blk_cell hcl_v4]; rfl); have cl1_v4 : v4.cell? ⟨u2.heap.size, 1, none⟩ = some (.int .i64 (c2 : Int)) := (by rw [blk_cell hcl_v4]; rfl); have va0_v4 : v4.cell? ⟨w.heap.size, 0, none⟩ = some (.int .i64 (p1 : Int)) := (by rw [blk_cell hva_v4]; rfl); have va1_v4 : v4.cell? ⟨w.heap.size, 1, none⟩ = some (.int .i64 (p2 : Int)) := (by rw [blk_cell hva_v4]; rfl); have rs0_v4 : v4.cell? ⟨w.heap.size + 1, 0, none⟩ = some (.int .i64 0) := (by rw [blk_cell hrs_v4]; rfl); have rs1_v4 : v4.cell? ⟨w.heap.size + 1, 1, none⟩ = some (.int .i64 0) := (by rw [blk_cell hrs_v4]; rfl); have le0_v4 : v4.cell? ⟨lv, 0, none⟩ = some (.int .i64 (d1 : Int)) := (by rw [blk_cell hle_v4]; rfl); have le1_v4 : v4.cell? ⟨lv, 1, none⟩ = some (.int .i64 (d2 : Int)) := (by rw [blk_cell hle_v4]; rfl); have l_v4_cl := blk_lt hcl_v4; have l_v4_va := blk_lt hva_v4; have l_v4_rs := blk_lt hrs_v4; have l_v4_le := blk_lt hle_v4; have z0_v4 := blk_free hrs_v4 0; have z1_v4 := blk_free hrs_v4 1))
    all_goals go_wp2_with fail
    all_goals
      have hR := blk_set (blk_set hrs_v4 0 (.int .i64 (d1 : Int))) 1 (.int .i64 (d2 : Int))
      have j0 := blk_cell hR 0
      have j1 := blk_cell hR 1
      refine bodyPost_ret (v := .tuple #[SetV (d1, d2), .bool (!(c1 &&& c2 != 0))]) (by simp [results, Tryz.results93, go_sem, j0, j1]) rfl ⟨by rw [unhide HEC, unhide HL, unhide HO2], ?_⟩
      exact ((hBz.trans (x4.mono hBz.size)).setCell (p := ⟨w.heap.size + 1, 0, none⟩) (Nat.le_succ _) _).setCell (p := ⟨w.heap.size + 1, 1, none⟩) (Nat.le_succ _) _
end Go.Proofs.YtgipjjhkhfihpabGreatDoor

namespace Go.Proofs.YtgipjjhkhfihpabGreatDoor
open Go.RowKit

/-! ### A proof inside a block -/
structure PAt (w : World) (b o : Nat) (cells : Array Value) (t : TypeId) (p : List Stp) (vS : Value) (kind : Nat) : Prop where
  fb : w.heap[b]? = some (.cells cells t (0, 0))
  ck : cells[o]? = some (.int .i64 (kind : Int))
  cs : cells[o + 1]? = some vS
  own : w.ownsRow 0 91 6 vS p.length (psCells p)
  ty : 91 ≠ t
theorem PAt.later {w w' : World} {b o : Nat} {cells : Array Value} {t : TypeId} {p : List Stp} {vS : Value} {kind : Nat} (h : PAt w b o cells t p vS kind) (hb : Below w.heap.size w w') : PAt w' b o cells t p vS kind :=
  ⟨(hb.block _ (blk_lt h.fb)).trans h.fb, h.ck, h.cs, own_below h.own hb, h.ty⟩
def PGo (b o : Nat) (cells : Array Value) (t : TypeId) (p' : List Stp) (vS : Value) (w w' : World) : Prop :=
  ∃ v', w'.ownsRow 0 91 6 v' p'.length (psCells p') ∧ w'.heap[b]? = some (.cells (cells.setIfInBounds (o + 1) v') t (0, 0)) ∧ Only (fun k => k = b ∨ vS.ownBlock = some k) w w' ∧ Moved w vS v'
theorem PGo.before {b o : Nat} {cells : Array Value} {t : TypeId} {p' : List Stp} {vS : Value} {w0 w w' : World} (h : PGo b o cells t p' vS w w') (hb : Below w0.heap.size w0 w) : PGo b o cells t p' vS w0 w' := by
  obtain ⟨v', h1, h2, h3, h4⟩ := h
  refine ⟨v', h1, h2, (Only.of_below hb).trans h3, ?_⟩
  rcases h4 with h4 | ⟨k, h4, h5⟩
  · exact Or.inl h4
  · exact Or.inr ⟨k, h4, Nat.le_trans hb.size h5⟩
theorem PGo.later {b o : Nat} {cells : Array Value} {t : TypeId} {p' : List Stp} {vS : Value} {w w1 w' : World} (h : PGo b o cells t p' vS w w1) (hb : Below w1.heap.size w1 w') : PGo b o cells t p' vS w w' := by
  obtain ⟨v', h1, h2, h3, h4⟩ := h
  exact ⟨v', own_below h1 hb, (hb.block _ (blk_lt h2)).trans h2, h3.trans (Only.of_below hb), h4⟩
theorem PAt.same {w w' : World} {b o : Nat} {cells : Array Value} {t : TypeId} {p : List Stp} {vS : Value} {kind : Nat} (h : PAt w b o cells t p vS kind) (hb : Below w.heap.size w w') : PGo b o cells t p vS w w' := by
  have h' := h.later hb
  have e : cells.setIfInBounds (o + 1) vS = cells := by
    apply Array.ext_getElem?
    intro i
    rw [Array.getElem?_setIfInBounds]
    split
    · next hi => subst hi; rw [h.cs]; simp [(Array.getElem?_eq_some_iff.1 h.cs).1]
    · rfl
  exact ⟨vS, h'.own, by rw [e]; exact h'.fb, Only.of_below hb, Or.inl rfl⟩
theorem PAt.add {w w' : World} {b o : Nat} {cells : Array Value} {t : TypeId} {p : List Stp} {vS : Value} {s : Stp} {e : Ending} (h : AddPost 0 b o p vS s cells t w e w') : e = .returned (.int .i64 ((p.length : Int) + 1)) ∧ PGo b o cells t (p ++ [s]) vS w w' := by
  obtain ⟨v', h0, h1, h2, h3, h4⟩ := h
  exact ⟨h0, v', by simpa using h1, h2, h3, h4⟩

set_option maxRecDepth 100000 in
set_option maxHeartbeats 1600000 in
theorem preduce_any (b o : Nat) (cells : Array Value) (t : TypeId) (q : QS) (vV vC : Value) (p : List Stp) (vS : Value) (kind n : Nat) (w : World) (hP : PAt w b o cells t p vS kind) (hoV : w.ownsRow 0 109 2 vV q.vars.length (varCells q.vars)) (hCf : ∃ aC nC cC, vC = .slice aC nC cC) (hQ : QB q) (hl : p.length ≤ 100000) (hlt : ∀ s ∈ p, s.lits.1 < 512 ∧ s.lits.2 < 512) (_hn : n ≤ 1048576) :
    Calls Tryz.prog 97 #[.pointer (some ⟨b, o, none⟩), .agg #[vV, vC], .int .i64 (n : Int)] w fun e w' => e = .returned (.int .i64 ((redP q kind p n).2 : Nat)) ∧ PGo b o cells t (redP q kind p n).1 vS w w' := by
  obtain ⟨aV, cV, rfl⟩ := own_form hoV
  obtain ⟨aC, nC, cC, rfl⟩ := hCf
  have hbw := blk_lt hP.fb
  have hla := litsAt_lt p hlt n
  have hlr := redQ_lt kind q.vars.reverse _ hla
  go_enter Tryz.func97, Tryz.ntmps97
  go_wp2_with fail
  generalize hw0 : (w.alloc (.cells #[.slice aV q.vars.length cV, .slice aC nC cC] 44)) = u1
  have hB : Below w.heap.size w u1 := by rw [← hw0]; exact (Below.refl _ _).alloc (Nat.le_refl _) _
  have hfo : u1.heap[w.heap.size]? = some (.cells #[.slice aV q.vars.length cV, .slice aC nC cC] 44 (0, 0)) := by rw [← hw0]; exact alloc_new_at (by simp)
  clear hw0
  have cfo0 : u1.cell? ⟨w.heap.size, 0, none⟩ = some (.slice aV q.vars.length cV) := by rw [blk_cell hfo]; rfl
  have cfo1 : u1.cell? ⟨w.heap.size, 1, none⟩ = some (.slice aC nC cC) := by rw [blk_cell hfo]; rfl
  have lfo := blk_lt hfo
  have hP1 := hP.later hB
  refine (plits_any 0 b o p vS n _ (by rw [blk_cell hP1.fb]; exact hP1.cs) hP1.own (by omega)).mono ?_
  rintro e u2 ⟨rfl, b2⟩
  replace hB := hB.trans (b2.mono hB.size)
  replace hfo := (b2.block _ (blk_lt hfo)).trans hfo
  replace cfo0 : u2.cell? ⟨w.heap.size, 0, none⟩ = some (.slice aV q.vars.length cV) := by rw [blk_cell hfo]; rfl
  replace cfo1 : u2.cell? ⟨w.heap.size, 1, none⟩ = some (.slice aC nC cC) := by rw [blk_cell hfo]; rfl
  replace lfo := blk_lt hfo
  replace hP1 := hP1.later b2
  have HR : Hid (redP q kind p n = if redQ kind q.vars.reverse (litsAt p n) = litsAt p n then (p, n) else (p ++ [⟨4, n, 0, 0, redQ kind q.vars.reverse (litsAt p n)⟩], p.length + 1)) := hide rfl
  generalize hea : litsAt p n = c at *
  have HEA := hide hea
  clear hea HR
  obtain ⟨a1, a2⟩ := c
  dsimp only at hla hlr
  go_wp2_with fail
  generalize hw0 : u2.alloc (.cells #[.int .i64 (a1 : Int), .int .i64 (a2 : Int)] 77) = u3
  have b3 : Below u2.heap.size u2 u3 := by rw [← hw0]; exact (Below.refl _ _).alloc (Nat.le_refl _) _
  have hwh : u3.heap[u2.heap.size]? = some (.cells #[.int .i64 (a1 : Int), .int .i64 (a2 : Int)] 77 (0, 0)) := by rw [← hw0]; exact heap_alloc_new _ _
  clear hw0
  replace hB := hB.trans (b3.mono hB.size)
  replace hfo := (b3.block _ (blk_lt hfo)).trans hfo
  replace cfo0 : u3.cell? ⟨w.heap.size, 0, none⟩ = some (.slice aV q.vars.length cV) := by rw [blk_cell hfo]; rfl
  replace cfo1 : u3.cell? ⟨w.heap.size, 1, none⟩ = some (.slice aC nC cC) := by rw [blk_cell hfo]; rfl
  replace lfo := blk_lt hfo
  replace hP1 := hP1.later b3
  have cwh0 : u3.cell? ⟨u2.heap.size, 0, none⟩ = some (.int .i64 (a1 : Int)) := by rw [blk_cell hwh]; rfl
  have cwh1 : u3.cell? ⟨u2.heap.size, 1, none⟩ = some (.int .i64 (a2 : Int)) := by rw [blk_cell hwh]; rfl
  have lwh := blk_lt hwh
  refine (preduced_any 0 b o q kind _ _ (a1, a2) _ (by rw [blk_cell hP1.fb]; exact hP1.ck) (own_below hoV hB) hQ hla ⟨aC, nC, cC, rfl⟩).mono ?_
  rintro e u4 ⟨rfl, b4⟩
  replace hB := hB.trans (b4.mono hB.size)
  replace hfo := (b4.block _ (blk_lt hfo)).trans hfo
  replace cfo0 : u4.cell? ⟨w.heap.size, 0, none⟩ = some (.slice aV q.vars.length cV) := by rw [blk_cell hfo]; rfl
  replace cfo1 : u4.cell? ⟨w.heap.size, 1, none⟩ = some (.slice aC nC cC) := by rw [blk_cell hfo]; rfl
  replace lfo := blk_lt hfo
  replace hwh := (b4.block _ (blk_lt hwh)).trans hwh
  replace cwh0 : u4.cell? ⟨u2.heap.size, 0, none⟩ = some (.int .i64 (a1 : Int)) := by rw [blk_cell hwh]; rfl
  replace cwh1 : u4.cell? ⟨u2.heap.size, 1, none⟩ = some (.int .i64 (a2 : Int)) := by rw [blk_cell hwh]; rfl
  replace lwh := blk_lt hwh
  replace hP1 := hP1.later b4
  generalize hea : redQ kind q.vars.reverse (a1, a2) = c at *
  have HEB : Hid (redQ kind q.vars.reverse (litsAt p n) = c) := hide (by rw [unhide HEA]; exact hea)
  clear hea
  obtain ⟨d1, d2⟩ := c
  dsimp only at hlr
  have HDN : ∀ {x y : Nat}, x ≠ y → ((x : Int) == (y : Int)) = false := fun h => by rw [beq_eq_false_iff_ne]; omega
  have hrr : ∀ r1 r2 : Nat, (r1, r2) ≠ (a1, a2) → Hid (redQ kind q.vars.reverse (litsAt p n) = (r1, r2)) → Hid (redP q kind p n = (p ++ [⟨4, n, 0, 0, (r1, r2)⟩], p.length + 1)) := fun r1 r2 hne he => hide (by unfold redP; rw [unhide he, unhide HEA, if_neg hne])
  by_cases e1 : d1 = a1
  · subst e1
    by_cases e2 : d2 = a2
    · subst e2
      have HF : Hid (redP q kind p n = (p, n)) := hide (by unfold redP; rw [unhide HEB, unhide HEA, if_pos rfl])
      clear HDN hrr
      go_wp2_with fail
      go_ret
      refine ⟨?_, ?_⟩
      · rw [unhide HF]; rfl
      · rw [unhide HF]; exact hP.same (hB.alloc hB.size _)
    · have hne := HDN e2
      have HF := hrr d1 d2 (fun e => e2 (by injection e)) HEB
      clear HDN hrr e2
      go_wp2_with fail
      generalize hw0 : u4.alloc (.cells #[.int .i64 (d1 : Int), .int .i64 (d2 : Int)] 77) = u5
      have b5 : Below u4.heap.size u4 u5 := by rw [← hw0]; exact (Below.refl _ _).alloc (Nat.le_refl _) _
      have hre : u5.heap[u4.heap.size]? = some (.cells #[.int .i64 (d1 : Int), .int .i64 (d2 : Int)] 77 (0, 0)) := by rw [← hw0]; exact heap_alloc_new _ _
      clear hw0
      replace hB := hB.trans (b5.mono hB.size)
      replace hfo := (b5.block _ (blk_lt hfo)).trans hfo
      replace cfo0 : u5.cell? ⟨w.heap.size, 0, none⟩ = some (.slice aV q.vars.length cV) := by rw [blk_cell hfo]; rfl
      replace cfo1 : u5.cell? ⟨w.heap.size, 1, none⟩ = some (.slice aC nC cC) := by rw [blk_cell hfo]; rfl
      replace lfo := blk_lt hfo
      replace hwh := (b5.block _ (blk_lt hwh)).trans hwh
      replace cwh0 : u5.cell? ⟨u2.heap.size, 0, none⟩ = some (.int .i64 (d1 : Int)) := by rw [blk_cell hwh]; rfl
      replace cwh1 : u5.cell? ⟨u2.heap.size, 1, none⟩ = some (.int .i64 (a2 : Int)) := by rw [blk_cell hwh]; rfl
      replace lwh := blk_lt hwh
      replace hP1 := hP1.later b5
      have cre0 : u5.cell? ⟨u4.heap.size, 0, none⟩ = some (.int .i64 (d1 : Int)) := by rw [blk_cell hre]; rfl
      have cre1 : u5.cell? ⟨u4.heap.size, 1, none⟩ = some (.int .i64 (d2 : Int)) := by rw [blk_cell hre]; rfl
      have lre := blk_lt hre
      refine (add_any 0 b o p vS ⟨4, n, 0, 0, (d1, d2)⟩ cells t _ hP1.fb hP1.cs hP1.ty hP1.own (by omega) (Nat.zero_le _)).mono ?_
      intro e uz hadd
      obtain ⟨rfl, hgo⟩ := PAt.add hadd
      have hgo2 := hgo.before hB
      clear hadd hgo
      go_wp2_with fail
      go_ret
      refine ⟨?_, ?_⟩
      · rw [unhide HF]; exact ret_int (by simp)
      · rw [unhide HF]; exact hgo2
  · have hne := HDN e1
    have HF := hrr d1 d2 (fun e => e1 (by injection e)) HEB
    clear HDN hrr e1
    go_wp2_with fail
    generalize hw0 : u4.alloc (.cells #[.int .i64 (d1 : Int), .int .i64 (d2 : Int)] 77) = u5
    have b5 : Below u4.heap.size u4 u5 := by rw [← hw0]; exact (Below.refl _ _).alloc (Nat.le_refl _) _
    have hre : u5.heap[u4.heap.size]? = some (.cells #[.int .i64 (d1 : Int), .int .i64 (d2 : Int)] 77 (0, 0)) := by rw [← hw0]; exact heap_alloc_new _ _
    clear hw0
    replace hB := hB.trans (b5.mono hB.size)
    replace hfo := (b5.block _ (blk_lt hfo)).trans hfo
    replace cfo0 : u5.cell? ⟨w.heap.size, 0, none⟩ = some (.slice aV q.vars.length cV) := by rw [blk_cell hfo]; rfl
    replace cfo1 : u5.cell? ⟨w.heap.size, 1, none⟩ = some (.slice aC nC cC) := by rw [blk_cell hfo]; rfl
    replace lfo := blk_lt hfo
    replace hwh := (b5.block _ (blk_lt hwh)).trans hwh
    replace cwh0 : u5.cell? ⟨u2.heap.size, 0, none⟩ = some (.int .i64 (a1 : Int)) := by rw [blk_cell hwh]; rfl
    replace cwh1 : u5.cell? ⟨u2.heap.size, 1, none⟩ = some (.int .i64 (a2 : Int)) := by rw [blk_cell hwh]; rfl
    replace lwh := blk_lt hwh
    replace hP1 := hP1.later b5
    have cre0 : u5.cell? ⟨u4.heap.size, 0, none⟩ = some (.int .i64 (d1 : Int)) := by rw [blk_cell hre]; rfl
    have cre1 : u5.cell? ⟨u4.heap.size, 1, none⟩ = some (.int .i64 (d2 : Int)) := by rw [blk_cell hre]; rfl
    have lre := blk_lt hre
    refine (add_any 0 b o p vS ⟨4, n, 0, 0, (d1, d2)⟩ cells t _ hP1.fb hP1.cs hP1.ty hP1.own (by omega) (Nat.zero_le _)).mono ?_
    intro e uz hadd
    obtain ⟨rfl, hgo⟩ := PAt.add hadd
    have hgo2 := hgo.before hB
    clear hadd hgo
    go_wp2_with fail
    go_ret
    refine ⟨?_, ?_⟩
    · rw [unhide HF]; exact ret_int (by simp)
    · rw [unhide HF]; exact hgo2
end Go.Proofs.YtgipjjhkhfihpabGreatDoor

namespace Go.Proofs.YtgipjjhkhfihpabGreatDoor
open Go.RowKit

set_option maxRecDepth 100000 in
set_option maxHeartbeats 1600000 in
theorem presolve_any (b o : Nat) (cells : Array Value) (t : TypeId) (p : List Stp) (vS : Value) (kind i j v : Nat) (w : World) (hP : PAt w b o cells t p vS kind) (hl : p.length ≤ 100000) (hlt : ∀ s ∈ p, s.lits.1 < 512 ∧ s.lits.2 < 512) (hv : v ≤ 1048576) :
    Calls Tryz.prog 75 #[.pointer (some ⟨b, o, none⟩), .int .i64 (i : Int), .int .i64 (j : Int), .int .i64 (v : Int)] w fun e w' => e = .returned (.int .i64 ((resP p i j v).2 : Nat)) ∧ PGo b o cells t (resP p i j v).1 vS w w' := by
  have hbw := blk_lt hP.fb
  have hla := litsAt_lt p hlt i
  go_enter Tryz.func75, Tryz.ntmps75
  go_wp2_with fail
  refine (plits_any 0 b o p vS i _ (by rw [blk_cell hP.fb]; exact hP.cs) hP.own (by omega)).mono ?_
  rintro e u1 ⟨rfl, b1⟩
  have hB : Below w.heap.size w u1 := b1
  have hP1 := hP.later hB
  have HR : Hid (resP p i j v = if hasLit (litsAt p i) v then (p ++ [⟨3, i, j, v, without2 (litsAt p i) (litsAt p j) v⟩], p.length + 1) else (p ++ [⟨3, j, i, v, without2 (litsAt p j) (litsAt p i) v⟩], p.length + 1)) := hide rfl
  generalize hea : litsAt p i = c at *
  have HEA := hide hea
  clear hea
  obtain ⟨a1, a2⟩ := c
  dsimp only at hla
  go_wp2_with fail
  generalize hw0 : u1.alloc (.cells #[.int .i64 (a1 : Int), .int .i64 (a2 : Int)] 77) = u2
  have b2 : Below u1.heap.size u1 u2 := by rw [← hw0]; exact (Below.refl _ _).alloc (Nat.le_refl _) _
  have how : u2.heap[u1.heap.size]? = some (.cells #[.int .i64 (a1 : Int), .int .i64 (a2 : Int)] 77 (0, 0)) := by rw [← hw0]; exact heap_alloc_new _ _
  clear hw0
  replace hB := hB.trans (b2.mono hB.size)
  replace hP1 := hP1.later b2
  have cow0 : u2.cell? ⟨u1.heap.size, 0, none⟩ = some (.int .i64 (a1 : Int)) := by rw [blk_cell how]; rfl
  have cow1 : u2.cell? ⟨u1.heap.size, 1, none⟩ = some (.int .i64 (a2 : Int)) := by rw [blk_cell how]; rfl
  have low := blk_lt how
  refine (has_any a1 a2 v _ hla.1 hla.2 (by omega) (by omega)).mono ?_
  rintro e u3 ⟨rfl, b3⟩
  replace hB := hB.trans (b3.mono hB.size)
  replace how := (b3.block _ (blk_lt how)).trans how
  replace cow0 : u3.cell? ⟨u1.heap.size, 0, none⟩ = some (.int .i64 (a1 : Int)) := by rw [blk_cell how]; rfl
  replace cow1 : u3.cell? ⟨u1.heap.size, 1, none⟩ = some (.int .i64 (a2 : Int)) := by rw [blk_cell how]; rfl
  replace low := blk_lt how
  replace hP1 := hP1.later b3
  cases hh : hasLit (a1, a2) (v : Int) with
  | true =>
    have HF : Hid (resP p i j v = (p ++ [⟨3, i, j, v, without2 (litsAt p i) (litsAt p j) v⟩], p.length + 1)) := hide (by rw [unhide HR, hh]; rw [← unhide HEA]; rfl)
    clear hh
    go_wp2_with fail
    have hsl0 := hB.size
    generalize hw0 : u3.alloc (.cells #[.int .i64 3, .int .i64 (i : Int), .int .i64 (j : Int), .int .i64 (v : Int), .int .i64 0, .int .i64 0] 91) = u4
    have b4 : Below u3.heap.size u3 u4 := by rw [← hw0]; exact (Below.refl _ _).alloc (Nat.le_refl _) _
    have hst : u4.heap[u3.heap.size]? = some (.cells #[.int .i64 3, .int .i64 (i : Int), .int .i64 (j : Int), .int .i64 (v : Int), .int .i64 0, .int .i64 0] 91 (0, 0)) := by rw [← hw0]; exact heap_alloc_new _ _
    clear hw0
    replace hB := hB.trans (b4.mono hB.size)
    replace how := (b4.block _ (blk_lt how)).trans how
    replace cow0 : u4.cell? ⟨u1.heap.size, 0, none⟩ = some (.int .i64 (a1 : Int)) := by rw [blk_cell how]; rfl
    replace cow1 : u4.cell? ⟨u1.heap.size, 1, none⟩ = some (.int .i64 (a2 : Int)) := by rw [blk_cell how]; rfl
    replace low := blk_lt how
    replace hP1 := hP1.later b4
    have cst0 : u4.cell? ⟨u3.heap.size, 0, none⟩ = some (.int .i64 3) := by rw [blk_cell hst]; rfl
    have cst1 : u4.cell? ⟨u3.heap.size, 1, none⟩ = some (.int .i64 (i : Int)) := by rw [blk_cell hst]; rfl
    have cst2 : u4.cell? ⟨u3.heap.size, 2, none⟩ = some (.int .i64 (j : Int)) := by rw [blk_cell hst]; rfl
    have cst3 : u4.cell? ⟨u3.heap.size, 3, none⟩ = some (.int .i64 (v : Int)) := by rw [blk_cell hst]; rfl
    have cst4 : u4.cell? ⟨u3.heap.size, 4, none⟩ = some (.int .i64 0) := by rw [blk_cell hst]; rfl
    have cst5 : u4.cell? ⟨u3.heap.size, 5, none⟩ = some (.int .i64 0) := by rw [blk_cell hst]; rfl
    have lst := blk_lt hst
    refine (resolvent_any 0 b o p vS ⟨3, i, j, v, (0, 0)⟩ _ (by rw [blk_cell hP1.fb]; exact hP1.cs) hP1.own (by omega) hlt).mono ?_
    rintro e u5 ⟨rfl, b5⟩
    replace hB := hB.trans (b5.mono hB.size)
    replace how := (b5.block _ (blk_lt how)).trans how
    replace cow0 : u5.cell? ⟨u1.heap.size, 0, none⟩ = some (.int .i64 (a1 : Int)) := by rw [blk_cell how]; rfl
    replace cow1 : u5.cell? ⟨u1.heap.size, 1, none⟩ = some (.int .i64 (a2 : Int)) := by rw [blk_cell how]; rfl
    replace low := blk_lt how
    replace hst := (b5.block _ (blk_lt hst)).trans hst
    replace cst0 : u5.cell? ⟨u3.heap.size, 0, none⟩ = some (.int .i64 3) := by rw [blk_cell hst]; rfl
    replace cst1 : u5.cell? ⟨u3.heap.size, 1, none⟩ = some (.int .i64 (i : Int)) := by rw [blk_cell hst]; rfl
    replace cst2 : u5.cell? ⟨u3.heap.size, 2, none⟩ = some (.int .i64 (j : Int)) := by rw [blk_cell hst]; rfl
    replace cst3 : u5.cell? ⟨u3.heap.size, 3, none⟩ = some (.int .i64 (v : Int)) := by rw [blk_cell hst]; rfl
    replace cst4 : u5.cell? ⟨u3.heap.size, 4, none⟩ = some (.int .i64 0) := by rw [blk_cell hst]; rfl
    replace cst5 : u5.cell? ⟨u3.heap.size, 5, none⟩ = some (.int .i64 0) := by rw [blk_cell hst]; rfl
    replace lst := blk_lt hst
    replace hP1 := hP1.later b5
    dsimp only
    generalize hea : without2 (litsAt p i) (litsAt p j) v = c at *
    obtain ⟨d1, d2⟩ := c
    clear hea
    have hsl : w.heap.size ≤ u3.heap.size := by have h1 := hsl0; omega
    have z4 := blk_free hst 4
    have z5 := blk_free hst 5
    have hx1 : (u5.setCell ⟨u3.heap.size, 4, none⟩ (.int .i64 (d1 : Int))).heap[u3.heap.size]? = some (.cells #[.int .i64 3, .int .i64 (i : Int), .int .i64 (j : Int), .int .i64 (v : Int), .int .i64 (d1 : Int), .int .i64 0] 91 (0, 0)) := blk_set hst 4 _
    have hx2 : ((u5.setCell ⟨u3.heap.size, 4, none⟩ (.int .i64 (d1 : Int))).setCell ⟨u3.heap.size, 5, none⟩ (.int .i64 (d2 : Int))).heap[u3.heap.size]? = some (.cells #[.int .i64 3, .int .i64 (i : Int), .int .i64 (j : Int), .int .i64 (v : Int), .int .i64 (d1 : Int), .int .i64 (d2 : Int)] 91 (0, 0)) := blk_set hx1 5 _
    generalize hwz : ((u5.setCell ⟨u3.heap.size, 4, none⟩ (.int .i64 (d1 : Int))).setCell ⟨u3.heap.size, 5, none⟩ (.int .i64 (d2 : Int))) = wz at *
    have hBz : Below w.heap.size w wz := by
      rw [← hwz]
      exact (hB.setCell (p := ⟨u3.heap.size, 4, none⟩) hsl _).setCell (p := ⟨u3.heap.size, 5, none⟩) hsl _
    have hPz := hP.later hBz
    have q0 : wz.cell? ⟨u3.heap.size, 0, none⟩ = some (.int .i64 3) := by rw [blk_cell hx2]; rfl
    have q1 : wz.cell? ⟨u3.heap.size, 1, none⟩ = some (.int .i64 (i : Int)) := by rw [blk_cell hx2]; rfl
    have q2 : wz.cell? ⟨u3.heap.size, 2, none⟩ = some (.int .i64 (j : Int)) := by rw [blk_cell hx2]; rfl
    have q3 : wz.cell? ⟨u3.heap.size, 3, none⟩ = some (.int .i64 (v : Int)) := by rw [blk_cell hx2]; rfl
    have q4 : wz.cell? ⟨u3.heap.size, 4, none⟩ = some (.int .i64 (d1 : Int)) := by rw [blk_cell hx2]; rfl
    have q5 : wz.cell? ⟨u3.heap.size, 5, none⟩ = some (.int .i64 (d2 : Int)) := by rw [blk_cell hx2]; rfl
    have lz := blk_lt hx2
    have hbz := blk_lt hPz.fb
    clear hx1
    go_wp2_with fail
    refine (add_any 0 b o p vS ⟨3, i, j, v, (d1, d2)⟩ cells t _ hPz.fb hPz.cs hPz.ty hPz.own (by omega) (Nat.zero_le _)).mono ?_
    intro e uz hadd
    obtain ⟨rfl, hgo⟩ := PAt.add hadd
    have hgo2 := hgo.before hBz
    clear hadd hgo
    go_wp2_with fail
    go_ret
    refine ⟨?_, ?_⟩
    · rw [unhide HF]; exact ret_int (by simp)
    · rw [unhide HF]; exact hgo2
  | false =>
    have HF : Hid (resP p i j v = (p ++ [⟨3, j, i, v, without2 (litsAt p j) (litsAt p i) v⟩], p.length + 1)) := hide (by rw [unhide HR, hh]; rw [← unhide HEA]; rfl)
    clear hh
    go_wp2_with fail
    have hsl0 := hB.size
    generalize hw0 : u3.alloc (.cells #[.int .i64 3, .int .i64 (j : Int), .int .i64 (i : Int), .int .i64 (v : Int), .int .i64 0, .int .i64 0] 91) = u4
    have b4 : Below u3.heap.size u3 u4 := by rw [← hw0]; exact (Below.refl _ _).alloc (Nat.le_refl _) _
    have hst : u4.heap[u3.heap.size]? = some (.cells #[.int .i64 3, .int .i64 (j : Int), .int .i64 (i : Int), .int .i64 (v : Int), .int .i64 0, .int .i64 0] 91 (0, 0)) := by rw [← hw0]; exact heap_alloc_new _ _
    clear hw0
    replace hB := hB.trans (b4.mono hB.size)
    replace how := (b4.block _ (blk_lt how)).trans how
    replace cow0 : u4.cell? ⟨u1.heap.size, 0, none⟩ = some (.int .i64 (a1 : Int)) := by rw [blk_cell how]; rfl
    replace cow1 : u4.cell? ⟨u1.heap.size, 1, none⟩ = some (.int .i64 (a2 : Int)) := by rw [blk_cell how]; rfl
    replace low := blk_lt how
    replace hP1 := hP1.later b4
    have cst0 : u4.cell? ⟨u3.heap.size, 0, none⟩ = some (.int .i64 3) := by rw [blk_cell hst]; rfl
    have cst1 : u4.cell? ⟨u3.heap.size, 1, none⟩ = some (.int .i64 (j : Int)) := by rw [blk_cell hst]; rfl
    have cst2 : u4.cell? ⟨u3.heap.size, 2, none⟩ = some (.int .i64 (i : Int)) := by rw [blk_cell hst]; rfl
    have cst3 : u4.cell? ⟨u3.heap.size, 3, none⟩ = some (.int .i64 (v : Int)) := by rw [blk_cell hst]; rfl
    have cst4 : u4.cell? ⟨u3.heap.size, 4, none⟩ = some (.int .i64 0) := by rw [blk_cell hst]; rfl
    have cst5 : u4.cell? ⟨u3.heap.size, 5, none⟩ = some (.int .i64 0) := by rw [blk_cell hst]; rfl
    have lst := blk_lt hst
    refine (resolvent_any 0 b o p vS ⟨3, j, i, v, (0, 0)⟩ _ (by rw [blk_cell hP1.fb]; exact hP1.cs) hP1.own (by omega) hlt).mono ?_
    rintro e u5 ⟨rfl, b5⟩
    replace hB := hB.trans (b5.mono hB.size)
    replace how := (b5.block _ (blk_lt how)).trans how
    replace cow0 : u5.cell? ⟨u1.heap.size, 0, none⟩ = some (.int .i64 (a1 : Int)) := by rw [blk_cell how]; rfl
    replace cow1 : u5.cell? ⟨u1.heap.size, 1, none⟩ = some (.int .i64 (a2 : Int)) := by rw [blk_cell how]; rfl
    replace low := blk_lt how
    replace hst := (b5.block _ (blk_lt hst)).trans hst
    replace cst0 : u5.cell? ⟨u3.heap.size, 0, none⟩ = some (.int .i64 3) := by rw [blk_cell hst]; rfl
    replace cst1 : u5.cell? ⟨u3.heap.size, 1, none⟩ = some (.int .i64 (j : Int)) := by rw [blk_cell hst]; rfl
    replace cst2 : u5.cell? ⟨u3.heap.size, 2, none⟩ = some (.int .i64 (i : Int)) := by rw [blk_cell hst]; rfl
    replace cst3 : u5.cell? ⟨u3.heap.size, 3, none⟩ = some (.int .i64 (v : Int)) := by rw [blk_cell hst]; rfl
    replace cst4 : u5.cell? ⟨u3.heap.size, 4, none⟩ = some (.int .i64 0) := by rw [blk_cell hst]; rfl
    replace cst5 : u5.cell? ⟨u3.heap.size, 5, none⟩ = some (.int .i64 0) := by rw [blk_cell hst]; rfl
    replace lst := blk_lt hst
    replace hP1 := hP1.later b5
    dsimp only
    generalize hea : without2 (litsAt p j) (litsAt p i) v = c at *
    obtain ⟨d1, d2⟩ := c
    clear hea
    have hsl : w.heap.size ≤ u3.heap.size := by have h1 := hsl0; omega
    have z4 := blk_free hst 4
    have z5 := blk_free hst 5
    have hx1 : (u5.setCell ⟨u3.heap.size, 4, none⟩ (.int .i64 (d1 : Int))).heap[u3.heap.size]? = some (.cells #[.int .i64 3, .int .i64 (j : Int), .int .i64 (i : Int), .int .i64 (v : Int), .int .i64 (d1 : Int), .int .i64 0] 91 (0, 0)) := blk_set hst 4 _
    have hx2 : ((u5.setCell ⟨u3.heap.size, 4, none⟩ (.int .i64 (d1 : Int))).setCell ⟨u3.heap.size, 5, none⟩ (.int .i64 (d2 : Int))).heap[u3.heap.size]? = some (.cells #[.int .i64 3, .int .i64 (j : Int), .int .i64 (i : Int), .int .i64 (v : Int), .int .i64 (d1 : Int), .int .i64 (d2 : Int)] 91 (0, 0)) := blk_set hx1 5 _
    generalize hwz : ((u5.setCell ⟨u3.heap.size, 4, none⟩ (.int .i64 (d1 : Int))).setCell ⟨u3.heap.size, 5, none⟩ (.int .i64 (d2 : Int))) = wz at *
    have hBz : Below w.heap.size w wz := by
      rw [← hwz]
      exact (hB.setCell (p := ⟨u3.heap.size, 4, none⟩) hsl _).setCell (p := ⟨u3.heap.size, 5, none⟩) hsl _
    have hPz := hP.later hBz
    have q0 : wz.cell? ⟨u3.heap.size, 0, none⟩ = some (.int .i64 3) := by rw [blk_cell hx2]; rfl
    have q1 : wz.cell? ⟨u3.heap.size, 1, none⟩ = some (.int .i64 (j : Int)) := by rw [blk_cell hx2]; rfl
    have q2 : wz.cell? ⟨u3.heap.size, 2, none⟩ = some (.int .i64 (i : Int)) := by rw [blk_cell hx2]; rfl
    have q3 : wz.cell? ⟨u3.heap.size, 3, none⟩ = some (.int .i64 (v : Int)) := by rw [blk_cell hx2]; rfl
    have q4 : wz.cell? ⟨u3.heap.size, 4, none⟩ = some (.int .i64 (d1 : Int)) := by rw [blk_cell hx2]; rfl
    have q5 : wz.cell? ⟨u3.heap.size, 5, none⟩ = some (.int .i64 (d2 : Int)) := by rw [blk_cell hx2]; rfl
    have lz := blk_lt hx2
    have hbz := blk_lt hPz.fb
    clear hx1
    go_wp2_with fail
    refine (add_any 0 b o p vS ⟨3, j, i, v, (d1, d2)⟩ cells t _ hPz.fb hPz.cs hPz.ty hPz.own (by omega) (Nat.zero_le _)).mono ?_
    intro e uz hadd
    obtain ⟨rfl, hgo⟩ := PAt.add hadd
    have hgo2 := hgo.before hBz
    clear hadd hgo
    go_wp2_with fail
    go_ret
    refine ⟨?_, ?_⟩
    · rw [unhide HF]; exact ret_int (by simp)
    · rw [unhide HF]; exact hgo2
end Go.Proofs.YtgipjjhkhfihpabGreatDoor

namespace Go.Proofs.YtgipjjhkhfihpabGreatDoor
open Go.RowKit

theorem SAt.pat {w : World} {b : Nat} {C : SC} {S : SS} {V : SV} (h : SAt w b C S V) {kind : Nat} (hk : kind = 1 ∨ kind = 2) : PAt w b (pOff kind) (sCells C S V) 82 (S.proof kind) (if kind = 2 then V.a else V.r) kind := by
  rcases hk with rfl | rfl
  · exact ⟨h.fb, rfl, rfl, h.oR, by decide⟩
  · exact ⟨h.fb, rfl, rfl, h.oA, by decide⟩
theorem SAt.put {w w' : World} {b : Nat} {C : SC} {S : SS} {V : SV} (h : SAt w b C S V) {kind : Nat} (hk : kind = 1 ∨ kind = 2) {p : List Stp} (hg : PGo b (pOff kind) (sCells C S V) 82 p (if kind = 2 then V.a else V.r) w w') : SPost b C (S.put kind p) V w w' := by
  obtain ⟨v', h1, h2, h3, h4⟩ := hg
  have hS : ∀ k, (if kind = 2 then V.a else V.r).ownBlock = some k → ∃ c, w.heap[k]? = some (.cells c 91 (0, 0)) := by
    rcases hk with rfl | rfl
    · exact own_bk h.oR
    · exact own_bk h.oA
  have hne : ∀ {e : TypeId} {k : Nat}, e ≠ 82 → e ≠ 91 → (∃ c, w.heap[k]? = some (.cells c e (0, 0))) → ¬ (k = b ∨ (if kind = 2 then V.a else V.r).ownBlock = some k) := by
    rintro e k h5 h6 ⟨c, hc⟩ (e2 | e2)
    · subst e2; exact h5 (blk_type hc h.fb)
    · obtain ⟨c', hc'⟩ := hS k e2; exact h6 (blk_type hc hc')
  have honly : Only (TS b V) w w' := h3.mono (fun k _ hh => by
    rcases hh with hh | hh
    · exact Or.inl hh
    · rcases hk with rfl | rfl
      · exact Or.inr (Or.inl hh)
      · exact Or.inr (Or.inr (Or.inl hh)))
  have oV := own_keep h.oV h3 (fun k hk2 => hne (by decide) (by decide) (own_bk h.oV k hk2))
  have oC := own_keep h.oC h3 (fun k hk2 => hne (by decide) (by decide) (own_bk h.oC k hk2))
  have oK := h.oK.keep h3 (fun k hk2 => hne (by decide) (by decide) (h.oK.blk k hk2))
  rcases hk with rfl | rfl
  · have oA := own_keep h.oA h3 (fun k hk2 hh => by
      rcases hh with e | e
      · subst e; exact own_type_ne h.oA h.fb (by decide) hk2
      · exact h.ap k e hk2)
    refine ⟨{ V with r := v' }, ⟨h2, oV, oC, h1, oA, oK, fun k hk1 hk2 => ?_⟩, honly, rfl, rfl, h4, Or.inl rfl, Or.inl rfl⟩
    have hlt := (h.oA.lt k hk2).2
    exact h4.ne hlt (fun e => h.ap k e hk2) hk1
  · have oR := own_keep h.oR h3 (fun k hk2 hh => by
      rcases hh with e | e
      · subst e; exact own_type_ne h.oR h.fb (by decide) hk2
      · exact h.ap k hk2 e)
    refine ⟨{ V with a := v' }, ⟨h2, oV, oC, oR, h1, oK, fun k hk1 hk2 => ?_⟩, honly, rfl, rfl, Or.inl rfl, h4, Or.inl rfl⟩
    have hlt := (h.oR.lt k hk1).2
    exact h4.ne hlt (fun e => h.ap k hk1 e) hk2
theorem SPost.before {b : Nat} {C : SC} {S' : SS} {V V1 : SV} {w w1 w' : World} (h : SPost b C S' V1 w1 w') (hm : SMoved b w w1 V V1) : SPost b C S' V w w' := by
  obtain ⟨V', h1, h2⟩ := h
  exact ⟨V', h1, hm.trans h2⟩
end Go.Proofs.YtgipjjhkhfihpabGreatDoor

namespace Go.Proofs.YtgipjjhkhfihpabGreatDoor
open Go.RowKit

set_option maxRecDepth 100000 in
set_option maxHeartbeats 1600000 in
theorem sreduce_any (b : Nat) (C : SC) (S : SS) (V : SV) (f : Nat × Nat) (w : World) (hS : SAt w b C S V) (hB : SBd C S) (hk : f.1 = 1 ∨ f.1 = 2) (hf : f.2 ≤ 1048576) :
    Calls Tryz.prog 76 #[.pointer (some ⟨b, 0, none⟩), FactV f] w fun e w' => e = .returned (FactV (S.reduce C.q f).2) ∧ SPost b C (S.reduce C.q f).1 V w w' := by
  obtain ⟨fk, fs⟩ := f
  obtain ⟨aV, cV, hVf⟩ := own_form hS.oV
  obtain ⟨aC, cC, hCf⟩ := own_form hS.oC
  have HR : Hid (S.reduce C.q (fk, fs) = (S.put fk (redP C.q fk (S.proof fk) fs).1, (fk, (redP C.q fk (S.proof fk) fs).2))) := hide rfl
  go_enter Tryz.func76, Tryz.ntmps76
  go_wp2_with fail
  generalize hw0 : ((w.alloc (.cells #[.int .i64 (fk : Int), .int .i64 (fs : Int)] 85)).alloc (.cells #[.int .i64 0, .int .i64 0] 85)) = u1
  have hb0 : Below w.heap.size w u1 := by rw [← hw0]; exact ((Below.refl _ _).alloc (Nat.le_refl _) _).alloc (by simp; try omega) _
  have hfa : u1.heap[w.heap.size]? = some (.cells #[.int .i64 (fk : Int), .int .i64 (fs : Int)] 85 (0, 0)) := by rw [← hw0, heap_alloc_old _ _ (by simp; try omega)]; exact alloc_new_at (by simp)
  have nfa : Far b V (w.heap.size) := hS.fresh (by omega)
  have hrs : u1.heap[w.heap.size + 1]? = some (.cells #[.int .i64 0, .int .i64 0] 85 (0, 0)) := by rw [← hw0]; exact alloc_new_at (by simp)
  have nrs : Far b V (w.heap.size + 1) := hS.fresh (by omega)
  clear hw0
  have hM : SMoved b w u1 V V := SMoved.of_below hb0
  replace hS := hS.later hb0
  have lb := blk_lt hS.fb
  have cfa0 : u1.cell? ⟨w.heap.size, 0, none⟩ = some (.int .i64 (fk : Int)) := by rw [blk_cell hfa]; rfl
  have cfa1 : u1.cell? ⟨w.heap.size, 1, none⟩ = some (.int .i64 (fs : Int)) := by rw [blk_cell hfa]; rfl
  have lfa := blk_lt hfa
  have crs0 : u1.cell? ⟨w.heap.size + 1, 0, none⟩ = some (.int .i64 0) := by rw [blk_cell hrs]; rfl
  have crs1 : u1.cell? ⟨w.heap.size + 1, 1, none⟩ = some (.int .i64 0) := by rw [blk_cell hrs]; rfl
  have lrs := blk_lt hrs
  refine (sproof_any b fk _ lb).mono ?_
  rintro e w2 ⟨rfl, hw2⟩
  subst hw2
  have q0 : w2.cell? ⟨b, 0, none⟩ = some (.slice aV C.q.vars.length cV) := by rw [blk_cell hS.fb]; exact congrArg some hVf
  have q1 : w2.cell? ⟨b, 1, none⟩ = some (.slice aC C.q.cl.length cC) := by rw [blk_cell hS.fb]; exact congrArg some hCf
  have hoV : w2.ownsRow 0 109 2 (.slice aV C.q.vars.length cV) C.q.vars.length (varCells C.q.vars) := by rw [← hVf]; exact hS.oV
  go_wp2_with fail
  have hb9 : Below w2.heap.size w2 w2.drew := (Below.refl _ w2).drew
  go_region_with (go_at_call 97; refine (preduce_any b (pOff fk) _ _ C.q _ (.slice aC C.q.cl.length cC) _ _ fk fs _ ((hS.later hb9).pat hk) (own_below hoV hb9) ⟨_, _, _, rfl⟩ hB.qb (hB.proof fk).1 (hB.proof fk).2 hf).mono ?_; rintro e w3 ⟨rfl, hgo⟩; obtain ⟨V2, hS2, hM1⟩ := (hS.later hb9).put hk hgo; have hM2 := (SMoved.of_below hb9).trans hM1; clear hgo; have hrs2 := hM2.blk hrs nrs; have nrs2 := hM2.far lrs nrs; have hM3 := hM.trans hM2; have crs20 : w3.cell? ⟨w.heap.size + 1, 0, none⟩ = some (.int .i64 0) := (by rw [blk_cell hrs2]; rfl); have crs21 : w3.cell? ⟨w.heap.size + 1, 1, none⟩ = some (.int .i64 0) := (by rw [blk_cell hrs2]; rfl); have hfa2 := hM2.blk hfa nfa; have cfa20 : w3.cell? ⟨w.heap.size, 0, none⟩ = some (.int .i64 (fk : Int)) := (by rw [blk_cell hfa2]; rfl); have l3 := blk_lt hrs2; have l4 : w.heap.size < w3.heap.size := (by omega); have z0 := blk_free hrs2 0; have z1 := blk_free hrs2 1)
  all_goals
    generalize hrn : (redP C.q fk (S.proof fk) fs).2 = rn at *
    have HF : Hid (S.reduce C.q (fk, fs) = (S.put fk (redP C.q fk (S.proof fk) fs).1, (fk, rn))) := HR
    have hR := blk_set (blk_set hrs2 0 (.int .i64 (fk : Int))) 1 (.int .i64 (rn : Int))
    have j0 := blk_cell hR 0
    have j1 := blk_cell hR 1
    clear hrn HR
    go_wp2_with fail
    refine bodyPost_ret (v := FactV (fk, rn)) (by simp [results, Tryz.results76, go_sem, j0, j1]) rfl ⟨by rw [unhide HF], ?_⟩
    rw [unhide HF]
    exact ⟨V2, (hS2.set nrs2 0 _).set nrs2 1 _, (hM3.set (Nat.le_succ _) 0 _).set (Nat.le_succ _) 1 _⟩
end Go.Proofs.YtgipjjhkhfihpabGreatDoor
