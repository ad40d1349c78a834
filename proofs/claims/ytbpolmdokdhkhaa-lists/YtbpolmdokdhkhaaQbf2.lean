import Derived.Test.YtbpolmdokdhkhaaQbf1
import Derived.Laws.AppendOwnNone
namespace Go.Proofs.Ytbpolmdokdhkhaa
open Go.RowKit

theorem Try.info91 : (Try.prog.info? 91).map (fun i => (i.zero, i.size, i.bytes)) = some (some (.agg #[.int .i64 0, .bool false]), 2, 16) := by kernel_rfl
theorem Try.info96 : (Try.prog.info? 96).map (fun i => (i.zero, i.size, i.bytes)) = some (some (.agg #[.int .i64 0, .int .i64 0]), 2, 16) := by kernel_rfl

def freeQ (q : QS) (k : Nat) : List Nat := ((List.range k).map (· + 1)).filter (fun v => !hasV q.vars v && inC q.cl v)
theorem freeQ_succ (q : QS) (k : Nat) : freeQ q (k + 1) = freeQ q k ++ (if !hasV q.vars (k + 1) && inC q.cl ((k + 1 : Nat) : Int) then [k + 1] else []) := by
  unfold freeQ
  rw [List.range_succ, List.map_append, List.filter_append]
  congr 1
  simp [List.filter_cons]
theorem freeQ_len (q : QS) (k : Nat) : (freeQ q k).length ≤ k := by
  unfold freeQ
  refine Nat.le_trans (List.length_filter_le _ _) ?_
  simp
def exv (l : List Nat) : List (Nat × Bool) := l.map (fun v => (v, false))
theorem exv_snoc (l : List Nat) (v : Nat) : exv (l ++ [v]) = exv l ++ [(v, false)] := by simp [exv]
theorem exv_length (l : List Nat) : (exv l).length = l.length := by simp [exv]

set_option maxRecDepth 100000 in
set_option maxHeartbeats 1600000 in
theorem withFree_any (base b : Nat) (q : QS) (vV vC : Value) (w : World) (hq : QInv base w b q vV vC) (hl : q.vars.length ≤ 1073741824) (hl2 : q.cl.length ≤ 1048576) (hcl : ∀ c ∈ q.cl, c.1 < 512 ∧ c.2 < 512) :
    Calls Try.prog 22 #[.pointer (some ⟨b, 0, none⟩)] w fun e w' =>
      ∃ v, e = .returned v ∧ w'.ownsRow w.heap.size 91 2 v (exv (freeQ q 8) ++ q.vars).length (varCells (exv (freeQ q 8) ++ q.vars)) ∧ Below w.heap.size w w' := by
  obtain ⟨i0, hi, hz0, hz1, hz2⟩ := info_parts Try.info91
  have HCL := hide hcl; clear hcl
  go_enter Try.func22, Try.ntmps22
  go_wp2_with fail
  go_loopg [3, 4] 9 (fun n v i wx => ∃ k : Nat, i = .int .i64 (k + 1) ∧ k + n = 9 ∧ 1 ≤ n ∧ wx.ownsRow w.heap.size 91 2 v (exv (freeQ q k)).length (varCells (exv (freeQ q k))) ∧ Below w.heap.size w wx)
  case atStart => exact ⟨0, rfl, by omega, by omega, World.ownsRow_nil _ _ _ _, Below.refl _ _⟩
  case round =>
    obtain ⟨k, rfl, hk, hn, hown, hb⟩ := hrel
    have hbs := hb.size
    have hfl := freeQ_len q k
    have hel := exv_length (freeQ q k)
    have HEL := hide hel; clear hel
    by_cases hlt : k < 8
    · have hd8 : decide ((k : Int) + 1 ≤ 8) = true := by simp; omega
      have hj1 : ((k : Int) + 1) = ((k + 1 : Nat) : Int) := by omega
      have HJ := hide hj1; clear hj1
      have HFS := hide (freeQ_succ q k)
      go_wp2_with fail
      rw [unhide HJ]
      refine (find_any base b q.vars vV (k + 1) wr (by rw [blk_cell (hq.later hb).fb]; rfl) (hq.later hb).oV hl).mono ?_
      rintro e w2 ⟨hb2, rfl⟩
      rw [hasV_find]
      generalize (findV q.vars (k + 1)).getD (0, false) = fx
      have hb2' : Below w.heap.size w (w2.alloc (.cells #[.int .i64 (fx.1 : Nat), .bool fx.2] 91)) := (hb.trans (hb2.mono hbs)).alloc (Nat.le_trans hbs hb2.size) _
      have hown2 := (own_below hown hb2).alloc (.cells #[.int .i64 (fx.1 : Nat), .bool fx.2] 91)
      cases hh : hasV q.vars (k + 1) with
      | true =>
        go_wp2_with fail
        go_roundg (gk - 1)
        case measure => omega
        case rel => exact ⟨k + 1, by go_num, by omega, by omega, by rw [unhide HFS, hh]; simpa using hown2, hb2'⟩
      | false =>
        go_wp2_with fail
        refine (qin_any base b q vV vC ((k + 1 : Nat) : Int) _ (hq.later hb2') hl2 (unhide HCL)).mono ?_
        rintro e w3 ⟨rfl, hb3⟩
        have hb3' : Below w.heap.size w w3 := hb2'.trans (hb3.mono hb2'.size)
        have hown3 := own_below hown2 hb3
        have hbs3 := hb3'.size
        cases hc : inC q.cl ((k + 1 : Nat) : Int) with
        | true =>
          have hbd : (exv (freeQ q k)).length ≤ 8 := by have := unhide HEL; omega
          go_wp2_with (at_builtin; refine wpList_append_new rfl _ _ 41 rfl w.heap.size i0 (.agg #[.int .i64 0, .bool false]) 2 16 Try.underlying41 hi hz0 hz1 hz2 rfl (by decide) _ _ _ hown3 rfl rfl rfl (by simp [Value.oneCell']) (by unfold maxLen; omega) (by omega) hbs3 ?_; intro v' w4 hown4 hgrow hnn)
          go_roundg (gk - 1)
          case measure => omega
          case rel =>
            refine ⟨k + 1, by go_num, by omega, by omega, ?_, below_grown hb3' hgrow hown3 (Nat.le_refl _) hbs3⟩
            rw [unhide HFS, hh, hc, show (if (!false && true) = true then [k + 1] else []) = [k + 1] from rfl, exv_snoc, varCells_snoc]
            simpa using hown4
        | false =>
          go_wp2_with fail
          go_roundg (gk - 1)
          case measure => omega
          case rel => exact ⟨k + 1, by go_num, by omega, by omega, by rw [unhide HFS, hh, hc]; simpa using hown3, hb3'⟩
    · have hk8 : k = 8 := by omega
      subst hk8
      have hq2 := hq.later hb
      have hc0 : wr.cell? ⟨b, 0, none⟩ = some vV := by rw [blk_cell hq2.fb]; rfl
      have hbd : (exv (freeQ q 8)).length ≤ 8 := by have := unhide HEL; omega
      rcases hq2.oV.2 with ⟨rfl, h0⟩ | ⟨g, cap, cur, rfl, hbg, hg, hnc, hcm, hcs, htake⟩
      · have HV : Hid (q.vars = []) := hide (List.eq_nil_of_length_eq_zero h0)
        clear h0
        go_wp2_with (at_builtin; refine wpList_append_own_none rfl _ _ 41 rfl w.heap.size 91 i0 2 Try.underlying41 hi _ _ _ rfl hown rfl ?_)
        go_ret
        exact ⟨_, rfl, by rw [unhide HV]; simpa using hown, hb⟩
      · have hcells : ∀ j u, (varCells q.vars)[j]? = some u → wr.cell? ((⟨g, 0, none⟩ : Addr).add j) = some u := hq2.oV.cells rfl
        have HN : Hid ((varCells q.vars).length = q.vars.length * 2) := hide (varCells_length _)
        have H1 : Hid (∀ u ∈ varCells q.vars, u.oneCell' = true) := hide (by
          intro u hu
          unfold varCells at hu
          rw [List.mem_flatMap] at hu
          obtain ⟨x, _, hx⟩ := hu
          simp at hx
          rcases hx with rfl | rfl <;> rfl)
        have HCE := hide hcells
        clear hcells htake hcs hcm
        go_wp2_with (at_builtin; refine wpList_append_own _ rfl _ _ 41 rfl w.heap.size 91 i0 (.agg #[.int .i64 0, .bool false]) 2 16 Try.underlying41 hi hz0 hz1 hz2 rfl (by decide) _ _ _ rfl hown ⟨g, 0, none⟩ q.vars.length cap (varCells q.vars) rfl (unhide HN) (unhide HCE) (unhide H1) (by unfold maxLen; omega) (by omega) hbs ?_; intro v' w4 hown4 hgrow hnn)
        go_ret
        refine ⟨_, rfl, ?_, below_grown hb hgrow hown (Nat.le_refl _) hbs⟩
        have e : varCells (exv (freeQ q 8) ++ q.vars) = varCells (exv (freeQ q 8)) ++ varCells q.vars := by simp [varCells]
        rw [e, List.length_append]
        exact hown4
end Go.Proofs.Ytbpolmdokdhkhaa
