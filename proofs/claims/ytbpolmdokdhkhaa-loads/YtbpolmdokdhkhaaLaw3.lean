import Derived.Test.YtbpolmdokdhkhaaLaw2
import Derived.Deep.QuietTactic
import Derived.BigQuiet
namespace Go.Proofs.Ytbpolmdokdhkhaa
open Go.RowKit

/-- A script lies at an address. -/
def ScriptAt (w : World) (ao : Option Addr) (ops : List OpV) : Prop :=
  ops ≠ [] → ∃ b off, ao = some ⟨b, off, none⟩ ∧ b < w.heap.size ∧ ∀ k (hk : k < ops.length) j (_ : j < 6) u, ops[k].cells[j]? = some u → w.cell? ⟨b, off + (k * 6 + j), none⟩ = some u
theorem ScriptAt.cells {w wr : World} {b off : Nat} {ops : List OpV} (h : ∀ k (hk : k < ops.length) j (_ : j < 6) u, ops[k].cells[j]? = some u → w.cell? ⟨b, off + (k * 6 + j), none⟩ = some u) (hlt : b < w.heap.size) (hb : Below w.heap.size w wr) (k : Nat) (hk : k < ops.length) :
    wr.cell? ⟨b, off + k * 6, none⟩ = some (.int .i64 ops[k].kind) ∧ wr.cell? ⟨b, off + k * 6 + 1, none⟩ = some (.int .i64 ops[k].a) ∧ wr.cell? ⟨b, off + k * 6 + 2, none⟩ = some (.int .i64 ops[k].b) ∧
    wr.cell? ⟨b, off + k * 6 + 3, none⟩ = some (.int .i64 ops[k].c) ∧ wr.cell? ⟨b, off + k * 6 + 4, none⟩ = some (S ops[k].s) ∧ wr.cell? ⟨b, off + k * 6 + 5, none⟩ = some (S ops[k].t) := by
  have hc : ∀ j (_ : j < 6) u, ops[k].cells[j]? = some u → wr.cell? ⟨b, off + k * 6 + j, none⟩ = some u := fun j hj u hu => by
    rw [hb.cell (p := ⟨b, off + k * 6 + j, none⟩) hlt, show off + k * 6 + j = off + (k * 6 + j) from by omega]; exact h k hk j hj u hu
  exact ⟨hc 0 (by omega) _ rfl, hc 1 (by omega) _ rfl, hc 2 (by omega) _ rfl, hc 3 (by omega) _ rfl, hc 4 (by omega) _ rfl, hc 5 (by omega) _ rfl⟩

def totTo (ops : List OpV) (k : Nat) : Nat := ops.length + ((ops.take k).map (fun o => o.s.length + o.t.length)).sum
theorem totTo_succ (ops : List OpV) (k : Nat) (h : k < ops.length) : totTo ops (k + 1) = totTo ops k + (ops[k].s.length + ops[k].t.length) := by
  unfold totTo
  rw [List.take_succ_eq_append_getElem h, List.map_append, List.sum_append]
  simp only [List.map_cons, List.map_nil, List.sum_cons, List.sum_nil, Nat.add_zero]
  omega
theorem totTo_le (ops : List OpV) (k : Nat) (_h : k ≤ ops.length) : totTo ops k ≤ totTo ops ops.length := by
  have e : ops.take ops.length = ops.take k ++ ops.drop k := by rw [List.take_length, List.take_append_drop]
  unfold totTo
  rw [e, List.map_append, List.sum_append]
  omega
theorem totTo_zero (ops : List OpV) : totTo ops 0 = ops.length := by simp [totTo]
def smallB (ops : List OpV) : Bool := decide (totTo ops ops.length ≤ 524288)
/-- Each text takes as many bytes as may be. -/
def Sized (ops : List OpV) : Prop := ∀ o ∈ ops, o.s.length ≤ 140737488355328 ∧ o.t.length ≤ 140737488355328

theorem drewN_below (w : World) (n : Nat) : Below w.heap.size w (w.drewN n) := below_drewN (Below.refl _ _) n

set_option maxRecDepth 100000 in
set_option maxHeartbeats 1600000 in
theorem small_any (ops : List OpV) (ao : Option Addr) (cap : Nat) (w : World) (hs : ScriptAt w ao ops) (hsz : Sized ops) (hln : ops.length ≤ 140737488355328) :
    Calls Try.prog 13 #[.slice ao ops.length cap] w fun e w' => e = .returned (.bool (smallB ops)) ∧ Below w.heap.size w w' := by
  by_cases hlong : 524288 < ops.length
  · have hd : decide ((524288 : Int) < (ops.length : Int)) = true := by simp; omega
    have HF : Hid (smallB ops = false) := hide (by
      unfold smallB
      have := totTo_le ops 0 (by omega)
      rw [totTo_zero] at this
      simp; omega)
    go_enter Try.func13, Try.ntmps13
    go_wp2_with fail
    go_ret
    exact ⟨ret_bool (unhide HF).symm, Below.refl _ _⟩
  · have hd : decide ((524288 : Int) < (ops.length : Int)) = false := by simp; omega
    have HSZ := hide hsz; clear hsz
    go_enter Try.func13, Try.ntmps13
    go_wp2_with fail
    go_loopg [3, 4] (ops.length) (fun q n i wx => ∃ (k : Nat), i = .int .i64 k ∧ k + q = ops.length ∧ n = .int .i64 (totTo ops k : Nat) ∧ totTo ops k ≤ 524288 ∧ Below w.heap.size w wx)
    case atStart => exact ⟨0, rfl, by omega, by rw [totTo_zero], by rw [totTo_zero]; omega, Below.refl _ _⟩
    case round =>
      obtain ⟨k, rfl, hk, rfl, hle, hbm⟩ := hrel
      by_cases hlt : k < ops.length
      · obtain ⟨b, off, rfl, hbl, hcell⟩ := hs (by intro e; subst e; simp at hlt)
        obtain ⟨_, _, _, _, hc4, hc5⟩ := ScriptAt.cells hcell hbl hbm k hlt
        obtain ⟨hz1, hz2⟩ := unhide HSZ _ (List.getElem_mem hlt)
        have HTS := hide (totTo_succ ops k hlt)
        have HTL := hide (totTo_le ops (k + 1) (by omega))
        have hdk : decide ((k : Int) < (ops.length : Int)) = true := by simp; omega
        clear hcell
        generalize totTo ops k = tk at *
        generalize ops[k] = o at *
        go_wp2_with fail
        go_quiet (fail)
        by_cases hbig : 524288 < tk + (o.s.length + o.t.length)
        · have hq : decide ((524288 : Int) < (tk : Int) + (o.s.length : Int) + (o.t.length : Int)) = true := by simp; omega
          have HF : Hid (smallB ops = false) := hide (by
            unfold smallB
            have h1 := unhide HTL; have h2 := unhide HTS
            simp; omega)
          go_wp2_with fail
          go_ret
          exact ⟨ret_bool (unhide HF).symm, below_drewN hbm nq⟩
        · have hq : decide ((524288 : Int) < (tk : Int) + (o.s.length : Int) + (o.t.length : Int)) = false := by simp; omega
          go_wp2_with fail
          go_roundg (gk - 1)
          case measure => omega
          case rel =>
            refine ⟨k + 1, by go_num, by omega, ?_, by rw [unhide HTS]; omega, below_drewN hbm nq⟩
            rw [unhide HTS]; exact congrArg (Value.int .i64) (by omega)
      · have hkl : k = ops.length := by omega
        subst hkl
        have HF : Hid (smallB ops = true) := hide (by unfold smallB; simpa using hle)
        go_wp2_with fail
        go_ret
        exact ⟨ret_bool (unhide HF).symm, hbm⟩

/-! ### plays -/
/-- Numbers lie at an address. -/
def KindsAt (w : World) (ko : Option Addr) (ks : List Int) : Prop :=
  ks ≠ [] → ∃ b off, ko = some ⟨b, off, none⟩ ∧ b < w.heap.size ∧ ∀ j (hj : j < ks.length), w.cell? ⟨b, off + j, none⟩ = some (.int .i64 ks[j])
def inB (ks : List Int) (k : Int) : Bool := base4 k || ks.any (· == k)
def selTo (ks : List Int) (ops : List OpV) (k : Nat) : List OpV := (ops.take k).filter (fun o => inB ks o.kind)
theorem selTo_succ (ks : List Int) (ops : List OpV) (k : Nat) (h : k < ops.length) : selTo ks ops (k + 1) = selTo ks ops k ++ (if inB ks ops[k].kind then [ops[k]] else []) := by
  unfold selTo
  rw [List.take_succ_eq_append_getElem h, List.filter_append]
  congr 1
  simp [List.filter_cons]
theorem selTo_len (ks : List Int) (ops : List OpV) (k : Nat) : (selTo ks ops k).length ≤ ops.length := by
  unfold selTo
  refine Nat.le_trans (List.length_filter_le _ _) ?_
  simp; omega
theorem any_take (ks : List Int) (x : Int) (j : Nat) (h : j < ks.length) : (ks.take (j + 1)).any (· == x) = ((ks.take j).any (· == x) || (ks[j] == x)) := by
  rw [List.take_succ_eq_append_getElem h, List.any_append]; simp

theorem Try.info39 : (Try.prog.info? 39).map (fun i => (i.zero, i.size, i.bytes)) = some (some (.agg #[.int .i64 0, .int .i64 0, .int .i64 0, .int .i64 0, .string ⟨#[]⟩, .string ⟨#[]⟩]), 6, 64) := by kernel_rfl

set_option maxRecDepth 100000 in
set_option maxHeartbeats 3200000 in
theorem plays_any (ops : List OpV) (ao : Option Addr) (cap : Nat) (ks : List Int) (ko : Option Addr) (kcap : Nat) (w : World) (hs : ScriptAt w ao ops) (hks : KindsAt w ko ks) (hsz : Sized ops) (hln : ops.length ≤ 140737488355328) (hkl : ks.length ≤ 1048576)
    (HU : Hid (∀ (base : Nat) (v : Value) (w' : World), smallB ops = true → w'.ownsRow base 39 6 v (ops.filter (fun o => inB ks o.kind)).length (opCells (ops.filter (fun o => inB ks o.kind))) → Calls Try.prog 14 #[v] w' fun e w'' => e = .returned (.int .i64 (-1)) ∧ Below w'.heap.size w' w'')) :
    Calls Try.prog 8 #[.slice ao ops.length cap, .slice ko ks.length kcap] w fun e w' => e = .returned (.bool true) ∧ Below w.heap.size w w' := by
  go_enter Try.func8, Try.ntmps8
  go_wp2_with fail
  refine (small_any ops ao cap w hs hsz hln).mono ?_
  rintro e w1 ⟨rfl, hb1⟩
  cases hsm : smallB ops with
  | false =>
    go_wp2_with fail
    go_ret
    exact ⟨rfl, hb1⟩
  | true =>
    have HSM := hide hsm
    have hlo : ops.length ≤ 524288 := by
      have h1 : totTo ops ops.length ≤ 524288 := of_decide_eq_true hsm
      have h2 := totTo_le ops 0 (by omega)
      rw [totTo_zero] at h2
      omega
    clear hsm
    obtain ⟨i0, hi, hz0, hz1, hz2⟩ := info_parts Try.info39
    go_wp2_with fail
    go_loopg [6, 7] (ops.length) (fun q v i wx => ∃ (k : Nat), i = .int .i64 k ∧ k + q = ops.length ∧ wx.ownsRow w.heap.size 39 6 v (selTo ks ops k).length (opCells (selTo ks ops k)) ∧ Below w.heap.size w wx)
    case atStart => exact ⟨0, rfl, by omega, World.ownsRow_nil _ _ _ _, hb1⟩
    case round =>
      obtain ⟨k, rfl, hk, hown, hb⟩ := hrel
      obtain ⟨wo, rfl⟩ : ∃ wo, wo = wr := ⟨_, rfl⟩
      obtain ⟨go, rfl⟩ : ∃ go, go = gk := ⟨_, rfl⟩
      have hbs := hb.size
      have hsl := selTo_len ks ops k
      by_cases hlt : k < ops.length
      · obtain ⟨b, off, rfl, hbl, hcell⟩ := hs (by intro e; subst e; simp at hlt)
        obtain ⟨hc0, hc1, hc2, hc3, hc4, hc5⟩ := ScriptAt.cells hcell hbl hb k hlt
        have HSS := hide (selTo_succ ks ops k hlt)
        have hdk : decide ((k : Int) < (ops.length : Int)) = true := by simp; omega
        clear hcell
        have hbwo : b < wo.heap.size := by omega
        generalize ops[k] = o at *
        have hex : ∃ b1 b2 b4 b5 : Bool, (o.kind == 1) = b1 ∧ (o.kind == 2) = b2 ∧ (o.kind == 4) = b4 ∧ (o.kind == 5) = b5 ∧ base4 o.kind = (b1 || b2 || b4 || b5) ∧ (b1 && b2) = false ∧ (b1 && b4) = false ∧ (b1 && b5) = false ∧ (b2 && b4) = false ∧ (b2 && b5) = false ∧ (b4 && b5) = false := by
          refine ⟨_, _, _, _, rfl, rfl, rfl, rfl, rfl, ?_, ?_, ?_, ?_, ?_, ?_⟩
          all_goals (rw [Bool.and_eq_false_iff, beq_eq_false_iff_ne, beq_eq_false_iff_ne]; omega)
        obtain ⟨b1, b2, b4, b5, e1, e2, e4, e5, eb, x1, x2, x3, x4, x5, x6⟩ := hex
        have HEB := hide eb; clear eb
        cases b1 <;> cases b2 <;> cases b4 <;> cases b5 <;> first | (exfalso; revert x1 x2 x3 x4 x5 x6; decide) | skip
        all_goals clear x1 x2 x3 x4 x5 x6
        all_goals
          go_wp2_with fail
          go_loopg [9, 10] (ks.length) (fun q x i wx => ∃ (j : Nat), i = .int .i64 j ∧ j + q = ks.length ∧ x = .bool (base4 o.kind || (ks.take j).any (· == o.kind)) ∧ wx = wo)
          case atStart => exact ⟨0, rfl, by omega, by rw [unhide HEB]; rfl, rfl⟩
          case round =>
            obtain ⟨j, rfl, hj, rfl, hwx⟩ := hrel
            subst hwx
            by_cases hjl : j < ks.length
            · obtain ⟨bk, offk, rfl, hbk, hck⟩ := hks (by intro e; subst e; simp at hjl)
              have hcj : wr.cell? ⟨bk, offk + j, none⟩ = some (.int .i64 ks[j]) := by
                rw [hb.cell (p := ⟨bk, offk + j, none⟩) hbk]; exact hck j hjl
              have HAT := hide (any_take ks o.kind j hjl)
              have hdj : decide ((j : Int) < (ks.length : Int)) = true := by simp; omega
              obtain ⟨kj, hkj⟩ : ∃ kj, ks[j] = kj := ⟨_, rfl⟩
              rw [hkj] at hcj
              have HKJ := hide hkj
              clear hkj hck
              cases hin : (base4 o.kind || (ks.take j).any (· == o.kind)) with
              | true =>
                go_wp2_with fail
                go_roundg (gk - 1)
                case measure => omega
                case rel => exact ⟨j + 1, by go_num, by omega, by rw [unhide HAT, ← Bool.or_assoc, hin]; rfl, rfl⟩
              | false =>
                cases heq : (o.kind == kj) with
                | true =>
                  go_wp2_with fail
                  go_roundg (gk - 1)
                  case measure => omega
                  case rel => exact ⟨j + 1, by go_num, by omega, by rw [unhide HAT, ← Bool.or_assoc, hin, unhide HKJ, show (kj == o.kind) = true from by rw [beq_iff_eq] at heq ⊢; exact heq.symm]; rfl, rfl⟩
                | false =>
                  go_wp2_with fail
                  go_roundg (gk - 1)
                  case measure => omega
                  case rel => exact ⟨j + 1, by go_num, by omega, by rw [unhide HAT, ← Bool.or_assoc, hin, unhide HKJ, show (kj == o.kind) = false from by rw [beq_eq_false_iff_ne] at heq ⊢; exact fun e => heq e.symm]; rfl, rfl⟩
            · have hjl2 : j = ks.length := by omega
              subst hjl2
              have HIN : Hid ((base4 o.kind || (ks.take ks.length).any (· == o.kind)) = inB ks o.kind) := hide (by rw [List.take_length]; rfl)
              rw [unhide HIN]
              have hdj : decide ((ks.length : Int) < (ks.length : Int)) = false := by simp
              cases hin : inB ks o.kind with
              | true =>
                go_wp2_with (at_builtin; refine wpList_append_new rfl (.tmp 56) (.tmp 61) 22 rfl w.heap.size i0 (.agg #[.int .i64 0, .int .i64 0, .int .i64 0, .int .i64 0, .string ⟨#[]⟩, .string ⟨#[]⟩]) 6 64 Try.underlying22 hi hz0 hz1 hz2 rfl (by decide) _ _ _ hown rfl rfl rfl (by simp [Value.oneCell']) (by unfold maxLen; omega) (by omega) hbs ?_; intro v' w4 hown4 hgrow hnn)
                go_roundg (go - 1)
                case measure => omega
                case rel =>
                  refine ⟨k + 1, by go_num, by omega, ?_, below_grown hb hgrow hown (Nat.le_refl _) hbs⟩
                  rw [unhide HSS, hin, if_pos rfl, opCells_snoc]
                  simpa [OpV.cells] using hown4
              | false =>
                go_wp2_with fail
                go_roundg (go - 1)
                case measure => omega
                case rel => exact ⟨k + 1, by go_num, by omega, by rw [unhide HSS, hin, if_neg (by decide), List.append_nil]; exact hown, hb⟩
      · have hkl2 : k = ops.length := by omega
        subst hkl2
        have hown2 := hown
        unfold selTo at hown2
        rw [List.take_length] at hown2
        have hdk : decide ((ops.length : Int) < (ops.length : Int)) = false := by simp
        have HO2 := hide hown2
        clear hown hown2 hsl
        go_wp2_with fail
        refine ((unhide HU) _ _ wo (unhide HSM) (unhide HO2)).mono ?_
        rintro e w5 ⟨rfl, hb5⟩
        go_wp2_with fail
        go_ret
        exact ⟨rfl, hb.trans (hb5.mono hbs)⟩

theorem filter_sizes (p : OpV → Bool) (ops : List OpV) : sizeTo (ops.filter p) (ops.filter p).length ≤ totTo ops ops.length := by
  unfold sizeTo totTo
  rw [List.take_length, List.take_length]
  induction ops with
  | nil => simp
  | cons o ops ih =>
    rw [List.filter_cons]
    split
    · simp only [List.map_cons, List.sum_cons, List.length_cons]; omega
    · simp only [List.map_cons, List.sum_cons, List.length_cons]; omega

set_option maxRecDepth 100000 in
set_option maxHeartbeats 800000 in
theorem loads_law (ops : List OpV) (ao : Option Addr) (cap : Nat) (w : World) (hs : ScriptAt w ao ops) (hsz : Sized ops) (hln : ops.length ≤ 140737488355328) (hok : ∀ o ∈ ops, o.Ok) :
    Calls Try.prog 3 #[.slice ao ops.length cap] w fun e w' => e = .returned (.bool true) ∧ Below w.heap.size w w' := by
  have HOK := hide hok; clear hok
  have HU : Hid (∀ (base : Nat) (v : Value) (w' : World), smallB ops = true → w'.ownsRow base 39 6 v (ops.filter (fun o => inB [] o.kind)).length (opCells (ops.filter (fun o => inB [] o.kind))) → Calls Try.prog 14 #[v] w' fun e w'' => e = .returned (.int .i64 (-1)) ∧ Below w'.heap.size w' w'') := hide (by
    intro base v w' hsm hown
    have h1 : totTo ops ops.length ≤ 524288 := of_decide_eq_true hsm
    have h2 := filter_sizes (fun o => inB [] o.kind) ops
    have h3 : (ops.filter (fun o => inB [] o.kind)).length ≤ ops.length := List.length_filter_le _ _
    have h4 := totTo_le ops 0 (by omega)
    rw [totTo_zero] at h4
    refine upTo_base base _ v w' hown ?_ (by omega) (by omega)
    intro o ho
    rw [List.mem_filter] at ho
    refine ⟨?_, unhide HOK o ho.1⟩
    have := ho.2
    unfold inB at this
    simpa using this)
  go_enter Try.func3, Try.ntmps3
  go_wp2_with fail
  refine (plays_any ops ao cap [] none 0 w hs (fun h => absurd rfl h) hsz hln (by simp) HU).mono ?_
  rintro e w1 ⟨rfl, hb⟩
  go_wp2_with fail
  go_ret
  exact ⟨rfl, hb⟩
end Go.Proofs.Ytbpolmdokdhkhaa
