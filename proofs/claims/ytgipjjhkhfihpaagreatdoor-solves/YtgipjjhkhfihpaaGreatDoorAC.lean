import Derived.Test.YtgipjjhkhfihpaaGreatDoorAB
import Derived.Laws.AppendOwnNone
namespace Go.Proofs.YtgipjjhkhfihpaaGreatDoor
open Go.RowKit

theorem Tryz.info139 : (Tryz.prog.info? 139).map (fun i => (i.zero, i.size, i.bytes)) = some (some (.agg #[.int .i64 0, .bool false]), 2, 16) := by kernel_rfl
theorem Tryz.info74 : (Tryz.prog.info? 74).map (fun i => (i.zero, i.size, i.bytes)) = some (some (.agg #[.int .i64 0, .int .i64 0]), 2, 16) := by kernel_rfl

def freeQ (q : QS) (k : Nat) : List Nat := ((List.range k).map (· + 1)).filter (fun v => !hasV q.vars v && inC q.cl v)
theorem freeQ_succ (q : QS) (k : Nat) : freeQ q (k + 1) = freeQ q k ++ (if !hasV q.vars (k + 1) && inC q.cl ((k + 1 : Nat) : Int) then [k + 1] else []) := by
  unfold freeQ
  rw [List.range_succ, List.map_append, List.filter_append]
  congr 1
  simp [List.filter_cons]
theorem freeQ_len (q : QS) (k : Nat) : (freeQ q k).length ≤ k := by
  unfold freeQ
  refine Nat.le_trans (List.length_filter_le _ _) ?_
  simp
def exv (l : List Nat) : List (Nat × Bool) := l.map (fun v => (v, false))
theorem exv_snoc (l : List Nat) (v : Nat) : exv (l ++ [v]) = exv l ++ [(v, false)] := by simp [exv]
theorem exv_length (l : List Nat) : (exv l).length = l.length := by simp [exv]

set_option maxRecDepth 100000 in
set_option maxHeartbeats 1600000 in
theorem withFree_any (base b : Nat) (q : QS) (vV vC : Value) (w : World) (hq : QInv base w b q vV vC) (hl : q.vars.length ≤ 1073741824) (hl2 : q.cl.length ≤ 1048576) (hcl : ∀ c ∈ q.cl, c.1 < 512 ∧ c.2 < 512) :
    Calls Tryz.prog 45 #[.pointer (some ⟨b, 0, none⟩)] w fun e w' =>
      ∃ v, e = .returned v ∧ w'.ownsRow w.heap.size 139 2 v (exv (freeQ q 8) ++ q.vars).length (varCells (exv (freeQ q 8) ++ q.vars)) ∧ Below w.heap.size w w' := by
  obtain ⟨i0, hi, hz0, hz1, hz2⟩ := info_parts Tryz.info139
  have HCL := hide hcl; clear hcl
  go_enter Tryz.func45, Tryz.ntmps45
  go_wp2_with fail
  go_loopg [3, 4] 9 (fun n v i wx => ∃ k : Nat, i = .int .i64 (k + 1) ∧ k + n = 9 ∧ 1 ≤ n ∧ wx.ownsRow w.heap.size 139 2 v (exv (freeQ q k)).length (varCells (exv (freeQ q k))) ∧ Below w.heap.size w wx)
  case atStart => exact ⟨0, rfl, by omega, by omega, World.ownsRow_nil _ _ _ _, Below.refl _ _⟩
  case round =>
    obtain ⟨k, rfl, hk, hn, hown, hb⟩ := hrel
    have hbs := hb.size
    have hfl := freeQ_len q k
    have hel := exv_length (freeQ q k)
    have HEL := hide hel; clear hel
    by_cases hlt : k < 8
    · have hd8 : decide ((k : Int) + 1 ≤ 8) = true := by simp; omega
      have hj1 : ((k : Int) + 1) = ((k + 1 : Nat) : Int) := by omega
      have HJ := hide hj1; clear hj1
      have HFS := hide (freeQ_succ q k)
      go_wp2_with fail
      rw [unhide HJ]
      refine (find_any base b q.vars vV (k + 1) wr (by rw [blk_cell (hq.later hb).fb]; rfl) (hq.later hb).oV hl).mono ?_
      rintro e w2 ⟨hb2, rfl⟩
      rw [hasV_find]
      generalize (findV q.vars (k + 1)).getD (0, false) = fx
      have hb2' : Below w.heap.size w (w2.alloc (.cells #[.int .i64 (fx.1 : Nat), .bool fx.2] 139)) := (hb.trans (hb2.mono hbs)).alloc (Nat.le_trans hbs hb2.size) _
      have hown2 := (own_below hown hb2).alloc (.cells #[.int .i64 (fx.1 : Nat), .bool fx.2] 139)
      cases hh : hasV q.vars (k + 1) with
      | true =>
        go_wp2_with fail
        go_roundg (gk - 1)
        case measure => omega
        case rel => exact ⟨k + 1, by go_num, by omega, by omega, by rw [unhide HFS, hh]; simpa using hown2, hb2'⟩
      | false =>
        go_wp2_with fail
        refine (qin_any base b q vV vC ((k + 1 : Nat) : Int) _ (hq.later hb2') hl2 (unhide HCL)).mono ?_
        rintro e w3 ⟨rfl, hb3⟩
        have hb3' : Below w.heap.size w w3 := hb2'.trans (hb3.mono hb2'.size)
        have hown3 := own_below hown2 hb3
        have hbs3 := hb3'.size
        cases hc : inC q.cl ((k + 1 : Nat) : Int) with
        | true =>
          have hbd : (exv (freeQ q k)).length ≤ 8 := by have := unhide HEL; omega
          go_wp2_with (at_builtin; refine wpList_append_new rfl _ _ 57 rfl w.heap.size i0 (.agg #[.int .i64 0, .bool false]) 2 16 Tryz.underlying57 hi hz0 hz1 hz2 rfl (by decide) _ _ _ hown3 rfl rfl rfl (by simp [Value.oneCell']) (by unfold maxLen; omega) (by omega) hbs3 ?_; intro v' w4 hown4 hgrow hnn)
          go_roundg (gk - 1)
          case measure => omega
          case rel =>
            refine ⟨k + 1, by go_num, by omega, by omega, ?_, below_grown hb3' hgrow hown3 (Nat.le_refl _) hbs3⟩
            rw [unhide HFS, hh, hc, show (if (!false && true) = true then [k + 1] else []) = [k + 1] from rfl, exv_snoc, varCells_snoc]
            simpa using hown4
        | false =>
          go_wp2_with fail
          go_roundg (gk - 1)
          case measure => omega
          case rel => exact ⟨k + 1, by go_num, by omega, by omega, by rw [unhide HFS, hh, hc]; simpa using hown3, hb3'⟩
    · have hk8 : k = 8 := by omega
      subst hk8
      have hq2 := hq.later hb
      have hc0 : wr.cell? ⟨b, 0, none⟩ = some vV := by rw [blk_cell hq2.fb]; rfl
      have hbd : (exv (freeQ q 8)).length ≤ 8 := by have := unhide HEL; omega
      rcases hq2.oV.2 with ⟨rfl, h0⟩ | ⟨g, cap, cur, rfl, hbg, hg, hnc, hcm, hcs, htake⟩
      · have HV : Hid (q.vars = []) := hide (List.eq_nil_of_length_eq_zero h0)
        clear h0
        go_wp2_with (at_builtin; refine wpList_append_own_none rfl _ _ 57 rfl w.heap.size 139 i0 2 Tryz.underlying57 hi _ _ _ rfl hown rfl ?_)
        go_ret
        exact ⟨_, rfl, by rw [unhide HV]; simpa using hown, hb⟩
      · have hcells : ∀ j u, (varCells q.vars)[j]? = some u → wr.cell? ((⟨g, 0, none⟩ : Addr).add j) = some u := hq2.oV.cells rfl
        have HN : Hid ((varCells q.vars).length = q.vars.length * 2) := hide (varCells_length _)
        have H1 : Hid (∀ u ∈ varCells q.vars, u.oneCell' = true) := hide (by
          intro u hu
          unfold varCells at hu
          rw [List.mem_flatMap] at hu
          obtain ⟨x, _, hx⟩ := hu
          simp at hx
          rcases hx with rfl | rfl <;> rfl)
        have HCE := hide hcells
        clear hcells htake hcs hcm
        go_wp2_with (at_builtin; refine wpList_append_own _ rfl _ _ 57 rfl w.heap.size 139 i0 (.agg #[.int .i64 0, .bool false]) 2 16 Tryz.underlying57 hi hz0 hz1 hz2 rfl (by decide) _ _ _ rfl hown ⟨g, 0, none⟩ q.vars.length cap (varCells q.vars) rfl (unhide HN) (unhide HCE) (unhide H1) (by unfold maxLen; omega) (by omega) hbs ?_; intro v' w4 hown4 hgrow hnn)
        go_ret
        refine ⟨_, rfl, ?_, below_grown hb hgrow hown (Nat.le_refl _) hbs⟩
        have e : varCells (exv (freeQ q 8) ++ q.vars) = varCells (exv (freeQ q 8)) ++ varCells q.vars := by simp [varCells]
        rw [e, List.length_append]
        exact hown4
end Go.Proofs.YtgipjjhkhfihpaaGreatDoor

namespace Go.Proofs.YtgipjjhkhfihpaaGreatDoor
open Go.RowKit

/-- The same, where the walk writes the new block's number in another way. -/
theorem wpList_append_new' {P : Program} {ops : Array Oper} {rest : List Oper} {o : Oper} {a : Act} {Q : Exit → Act → World → Prop} {w : World} {news : List Value} {e : TypeId} (hgd : o.guard = none) (s x : Operand) (t : TypeId)
    (ho : o.op = .call { callee := .builtin .append, args := #[s, x], argTypes := #[t, t] })
    (base : Nat) (i : TypeInfo) (z : Value) (size bytes : Nat) (ht : P.underlying t = some (.slice e)) (hi : P.info? e = some i) (hz : i.zero = some z)
    (hsize : i.size = size) (hby : i.bytes = bytes) (hzs : z.cells.size = size) (hsz : 0 < size)
    (v : Value) (n : Nat) (xs : List Value) (hown : w.ownsRow base e size v n xs) (hs : a.eval s = v)
    (m : Nat) (hx : a.eval x = .slice (some ⟨m, 0, none⟩) 1 1) (hm : m = w.heap.size) (hl : news.length = size) (h1 : ∀ u ∈ news, u.oneCell' = true)
    (h63 : n + 1 ≤ maxLen) (hbytes : (n + 1) * bytes ≤ 140737488355328) (hbase : base ≤ w.heap.size)
    (h : ∀ v' w', w'.ownsRow base e size v' (n + 1) (xs ++ news) → w.grownBy w' v.ownBlock → (v' ≠ .slice none 0 0) → wpList P ops Q rest (a.put o.dst v') w') : wpList P ops Q (o :: rest) a (w.alloc (.cells news.toArray e)) := by
  subst hm
  exact wpList_append_new hgd s x t ho base i z size bytes ht hi hz hsize hby hzs hsz v n xs hown hs hx hl h1 h63 hbytes hbase h

/-- Strings lie at an address. -/
def StrsAt (w : World) (ao : Option Addr) (ws : List (List UInt8)) : Prop :=
  ws ≠ [] → ∃ g off cur, ao = some ⟨g, off, none⟩ ∧ w.heap[g]? = some (.cells cur 9 (0, 0)) ∧ ∀ j (hj : j < ws.length), cur[off + j]? = some (S ws[j])
/-- Blocks of strings are as they were. -/
def KeepsS (w w' : World) : Prop := ∀ (g : Nat) (cur : Array Value), w.heap[g]? = some (.cells cur 9 (0, 0)) → w'.heap[g]? = some (.cells cur 9 (0, 0))
theorem KeepsS.trans {a b c : World} (h : KeepsS a b) (k : KeepsS b c) : KeepsS a c := fun g cur hg => k g cur (h g cur hg)
theorem KeepsS.of_below {a b : World} (h : Below a.heap.size a b) : KeepsS a b := fun g _ hg => (h.block g (blk_lt hg)).trans hg
theorem KeepsS.of_set {w : World} {b o : Nat} {c : Array Value} {t : TypeId} {fr : Nat × Nat} {u : Value} (h : w.heap[b]? = some (.cells c t fr)) (ht : t ≠ 9) : KeepsS w (w.setCell ⟨b, o, none⟩ u) := fun g cur hg => by
  rw [Below.heap_setCell _ _ _ _ (fun e => by subst e; rw [hg] at h; simp at h; exact ht h.2.1.symm)]; exact hg
theorem KeepsS.of_grown {w w' : World} {v : Value} {base n size : Nat} {e : TypeId} {xs : List Value} (hg : w.grownBy w' v.ownBlock) (ho : w.ownsRow base e size v n xs) (he : e ≠ 9) : KeepsS w w' := fun g cur hgc => by
  rw [hg.block g (blk_lt hgc) (fun eq => by
    rcases ho.2 with ⟨rfl, _⟩ | ⟨g', cap, cur', rfl, _, hh, _⟩
    · simp [Value.ownBlock] at eq
    · simp [Value.ownBlock] at eq
      subst eq
      rw [hgc] at hh
      simp at hh
      exact he hh.2.symm)]
  exact hgc
theorem StrsAt.keep {w w' : World} {ao : Option Addr} {ws : List (List UInt8)} (h : StrsAt w ao ws) (k : KeepsS w w') : StrsAt w' ao ws := fun hne => by
  obtain ⟨g, off, cur, h1, h2, h3⟩ := h hne
  exact ⟨g, off, cur, h1, k g cur h2, h3⟩

theorem QInv.push_cl {wr wp w' : World} {bq base : Nat} {q : QS} {vV vC v' : Value} {p n : Nat} (hbq : bq < base) (h : QInv base wr bq q vV vC) (hp : Below wr.heap.size wr wp) (hg : wp.grownBy w' vC.ownBlock)
    (hown : w'.ownsRow base 74 2 v' (q.cl.length + 1) (pairs q.cl ++ [.int .i64 (p : Int), .int .i64 (n : Int)])) :
    w'.heap[bq]? = some (.cells #[vV, vC] 60 (0, 0)) ∧ QInv base (w'.setCell ⟨bq, 1, none⟩ v') bq { q with cl := q.cl ++ [(p, n)] } vV v' := by
  have hlt := h.oC.lt
  have hbf := blk_lt h.fb
  have hfb : w'.heap[bq]? = some (.cells #[vV, vC] 60 (0, 0)) := by
    rw [hg.block bq (Nat.lt_of_lt_of_le hbf hp.size) (fun e => by have := hlt bq e.symm; omega), hp.block bq hbf]; exact h.fb
  refine ⟨hfb, blk_set hfb 1 v', ?_, ?_⟩
  · exact ownsRow_setCell_below (own_kept h.oV hp h.oC hg (by decide)) (a := ⟨bq, 1, none⟩) hbq v'
  · have := ownsRow_setCell_below hown (a := ⟨bq, 1, none⟩) hbq v'
    rw [← pairs_snoc q.cl (p, n)] at this
    simpa using this
theorem QInv.push_var {wr wp w' : World} {bq base : Nat} {q : QS} {vV vC v' : Value} {x : Nat × Bool} (hbq : bq < base) (h : QInv base wr bq q vV vC) (hp : Below wr.heap.size wr wp) (hg : wp.grownBy w' vV.ownBlock)
    (hown : w'.ownsRow base 139 2 v' (q.vars.length + 1) (varCells q.vars ++ [.int .i64 (x.1 : Int), .bool x.2])) :
    w'.heap[bq]? = some (.cells #[vV, vC] 60 (0, 0)) ∧ QInv base (w'.setCell ⟨bq, 0, none⟩ v') bq { q with vars := q.vars ++ [x] } v' vC := by
  have hlt := h.oV.lt
  have hbf := blk_lt h.fb
  have hfb : w'.heap[bq]? = some (.cells #[vV, vC] 60 (0, 0)) := by
    rw [hg.block bq (Nat.lt_of_lt_of_le hbf hp.size) (fun e => by have := hlt bq e.symm; omega), hp.block bq hbf]; exact h.fb
  refine ⟨hfb, blk_set hfb 0 v', ?_, ?_⟩
  · have := ownsRow_setCell_below hown (a := ⟨bq, 0, none⟩) hbq v'
    rw [← varCells_snoc q.vars x] at this
    simpa using this
  · exact ownsRow_setCell_below (own_kept h.oC hp h.oV hg (by decide)) (a := ⟨bq, 0, none⟩) hbq v'

/-! ### readClause -/
def clTo : (Nat × Nat) → List (List UInt8) → Option (Nat × Nat)
  | c, [] => some c
  | c, w :: ws => if litGood w then clTo (withLit c (litNum w)) ws else none
theorem litNum_bd (w : List UInt8) : -8 ≤ litNum w ∧ litNum w ≤ 8 := by
  have h1 := dig_bd w; have h2 := dig_bd w.tail
  unfold litNum; split <;> omega
theorem withLit_lt (c : Nat × Nat) (x : Int) (h1 : c.1 < 512) (h2 : c.2 < 512) : (withLit c x).1 < 512 ∧ (withLit c x).2 < 512 := by
  unfold withLit; split
  · exact ⟨h1, or_lt _ _ h2 (bitOf_lt _)⟩
  · exact ⟨or_lt _ _ h1 (bitOf_lt _), h2⟩
def ClPost (bq : Nat) (q : QS) (vV : Value) (ws : List (List UInt8)) (w : World) (e : Ending) (w' : World) : Prop :=
  Below bq w w' ∧ match clTo (0, 0) ws with
    | none => e = .returned (.bool false)
    | some c => e = .returned (.bool true) ∧ ∃ vC', QInv (bq + 1) w' bq { q with cl := q.cl ++ [c] } vV vC'

set_option maxRecDepth 100000 in
set_option maxHeartbeats 1600000 in
theorem readClause_any (bq : Nat) (q : QS) (vV vC : Value) (ws : List (List UInt8)) (ao : Option Addr) (cap : Nat) (w : World) (hq : QInv (bq + 1) w bq q vV vC) (hs : StrsAt w ao ws)
    (hl : ws.length ≤ 1048576) (hws : ∀ x ∈ ws, x.length ≤ 1048576) (hcl : q.cl.length ≤ 1048576) :
    Calls Tryz.prog 67 #[.pointer (some ⟨bq, 0, none⟩), .slice ao ws.length cap] w fun e w' => ClPost bq q vV ws w e w' := by
  have hbq := blk_lt hq.fb
  have HWS := hide hws; clear hws
  go_enter Tryz.func67, Tryz.ntmps67
  go_wp2_with fail
  go_loopg [13] (ws.length) (fun n i wx => ∃ (j p m : Nat), i = .int .i64 j ∧ j + n = ws.length ∧ p < 512 ∧ m < 512 ∧ clTo (0, 0) ws = clTo (p, m) (ws.drop j) ∧ Below w.heap.size w wx ∧
     wx.heap[w.heap.size]? = some (.cells #[.int .i64 p, .int .i64 m] 74 (0, 0)))
  case atStart => exact ⟨0, 0, 0, rfl, by omega, by omega, by omega, rfl, (Below.refl _ _).alloc (Nat.le_refl _) _, heap_alloc_new _ _⟩
  case round =>
    obtain ⟨j, p, m, rfl, hj, hp, hm, hto, hb, hbc⟩ := hrel
    have hbs : w.heap.size < wr.heap.size := blk_lt hbc
    have hp0 : wr.cell? ⟨w.heap.size, 0, none⟩ = some (.int .i64 p) := by rw [blk_cell hbc]; rfl
    have hp1 : wr.cell? ⟨w.heap.size, 1, none⟩ = some (.int .i64 m) := by rw [blk_cell hbc]; rfl
    by_cases hlt : j < ws.length
    · obtain ⟨g, off, cur, rfl, hg, hcur⟩ := hs (by intro e; subst e; simp at hlt)
      have hcj : wr.cell? ⟨g, off + j, none⟩ = some (S ws[j]) := by
        rw [hb.cell (p := ⟨g, off + j, none⟩) (blk_lt hg), blk_cell hg]; exact hcur j hlt
      have hwl := unhide HWS _ (List.getElem_mem hlt)
      rw [List.drop_eq_getElem_cons hlt, clTo] at hto
      have HTO := hide hto; clear hto hcur
      obtain ⟨n0, n1⟩ := litNum_bd ws[j]
      go_wp2_with fail
      refine (wliteral_any ws[j] wr hwl).mono ?_
      rintro e w2 ⟨hw2, rfl⟩
      subst hw2
      cases hgd : litGood ws[j] with
      | false =>
        have HF : Hid (clTo (0, 0) ws = none) := hide (by rw [unhide HTO, hgd, if_neg (by decide)])
        go_wp2_with fail
        go_ret
        exact ⟨hb.mono (by omega), by rw [unhide HF]; rfl⟩
      | true =>
        have HF : Hid (clTo (0, 0) ws = clTo (withLit (p, m) (litNum ws[j])) (ws.drop (j + 1))) := hide (by rw [unhide HTO, hgd, if_pos rfl])
        have hwl2 := withLit_lt (p, m) (litNum ws[j]) hp hm
        go_wp2_with fail
        refine (with_any p m (litNum ws[j]) w2 hp hm (by omega) (by omega)).mono ?_
        rintro e w3 ⟨rfl, hb3⟩
        have hb4 : Below w.heap.size w w3 := hb.trans (hb3.mono (by omega))
        have hbc3 := (hb3.block _ hbs).trans hbc
        have hq0 : w3.cell? ⟨w.heap.size, 0, none⟩ = some (.int .i64 p) := by rw [blk_cell hbc3]; rfl
        have hq1 : w3.cell? ⟨w.heap.size, 1, none⟩ = some (.int .i64 m) := by rw [blk_cell hbc3]; rfl
        have hz0 := blk_free hbc3 0
        have hz1 := blk_free hbc3 1
        generalize withLit (p, m) (litNum ws[j]) = c at *
        obtain ⟨p', m'⟩ := c
        go_wp2_with fail
        go_roundg (gk - 1)
        case measure => omega
        case rel =>
          refine ⟨j + 1, p', m', by go_num, by omega, hwl2.1, hwl2.2, unhide HF, (hb4.setCell (p := ⟨w.heap.size, 0, none⟩) (Nat.le_refl _) _).setCell (p := ⟨w.heap.size, 1, none⟩) (Nat.le_refl _) _, ?_⟩
          exact blk_set (blk_set hbc3 0 _) 1 _
    · have hjl : j = ws.length := by omega
      subst hjl
      rw [List.drop_length] at hto
      have HF : Hid (clTo (0, 0) ws = some (p, m)) := hide hto
      clear hto
      have hq3 := hq.later hb
      have hf3 : wr.cell? ⟨bq, 1, none⟩ = some vC := by rw [blk_cell hq3.fb]; rfl
      have hfz := blk_free hq3.fb 1
      have hbqw : bq < wr.heap.size := by omega
      have hapc : vC.ownBlock ≠ some w.heap.size := fun e => by have := hq.oC.lt _ e; omega
      obtain ⟨i1, hi1, hz10, hz11, hz12⟩ := info_parts Tryz.info74
      go_wp2_with fail
      go_region_law (refine step_append_own rfl (.tmp 32) (.tmp 34) 58 rfl (bq + 1) 74 i1 (.agg #[.int .i64 0, .int .i64 0]) 2 16 Tryz.underlying58 hi1 hz10 hz11 hz12 rfl (by decide) vC q.cl.length (pairs q.cl) (hq3.oC.alloc _).drew rfl ⟨wr.heap.size, 0, none⟩ 1 1 [.int .i64 p, .int .i64 m] rfl rfl (new_cells wr [.int .i64 p, .int .i64 m] 74) (by simp [Value.oneCell']) (by unfold maxLen; omega) (by omega) (by simp; omega) ?_; intro v' w' hown' hgrow hnn; obtain ⟨hfb', hJ⟩ := hq3.push_cl (Nat.lt_succ_self bq) (((Below.refl _ wr).alloc (Nat.le_refl _) _).drew) hgrow hown'; have hbel : Below bq w w' := ((hb.mono (Nat.le_of_lt hbq)).trans ((((Below.refl wr.heap.size wr).alloc (Nat.le_refl _) _).drew).mono (Nat.le_of_lt hbqw))).grown hgrow (by simp; omega) (fun k hk => (by have := (hq3.oC.lt k hk).1; omega)); obtain ⟨g3, cap3, rfl, hg3, hg3', hcap3, hcell3⟩ := own_pos hown' (by omega); have hq3' : w'.cell? ⟨bq, 1, none⟩ = some vC := (by rw [blk_cell hfb']; rfl); have hqz := blk_free hfb' 1)
      all_goals
        go_wp2_with fail
        go_ret
        refine ⟨hbel.setCell (p := ⟨bq, 1, none⟩) (Nat.le_refl _) _, ?_⟩
        rw [unhide HF]
        exact ⟨rfl, _, hJ⟩

/-! ### readPrefix -/
def badVar (vs : List (Nat × Bool)) (w : List UInt8) : Bool := !decide (0 < dig w) || hasV vs (dig w).toNat
def prefTo (u : Bool) : List (Nat × Bool) → List (List UInt8) → Option (List (Nat × Bool))
  | vs, [] => some vs
  | vs, w :: ws => if badVar vs w then none else prefTo u (vs ++ [((dig w).toNat, u)]) ws
def qPrefix (q : QS) (ws : List (List UInt8)) (u : Bool) : Option (List (Nat × Bool)) := if ws = [] ∨ q.cl ≠ [] then none else prefTo u q.vars ws
def PrefPost (bq : Nat) (q : QS) (vC : Value) (ws : List (List UInt8)) (u : Bool) (w : World) (e : Ending) (w' : World) : Prop :=
  Below bq w w' ∧ match qPrefix q ws u with
    | none => e = .returned (.bool false)
    | some vs => e = .returned (.bool true) ∧ ∃ vV', QInv (bq + 1) w' bq { q with vars := vs } vV' vC

set_option maxRecDepth 100000 in
set_option maxHeartbeats 1600000 in
theorem readPrefix_any (bq : Nat) (q : QS) (vV vC : Value) (ws : List (List UInt8)) (u : Bool) (ao : Option Addr) (cap : Nat) (w : World) (hq : QInv (bq + 1) w bq q vV vC) (hs : StrsAt w ao ws)
    (hl : ws.length ≤ 524288) (hws : ∀ x ∈ ws, x.length ≤ 1048576) (hvl : q.vars.length ≤ 536870912) (_hcl : q.cl.length ≤ 1048576) :
    Calls Tryz.prog 66 #[.pointer (some ⟨bq, 0, none⟩), .slice ao ws.length cap, .bool u] w fun e w' => PrefPost bq q vC ws u w e w' := by
  have hbq := blk_lt hq.fb
  have HWS := hide hws; clear hws
  have hf1 : w.cell? ⟨bq, 1, none⟩ = some vC := by rw [blk_cell hq.fb]; rfl
  obtain ⟨aC, cC, rfl⟩ := own_form hq.oC
  by_cases hnil : ws = []
  · subst hnil
    have HF : Hid (qPrefix q [] u = none) := hide (by unfold qPrefix; rw [if_pos (Or.inl rfl)])
    go_enter Tryz.func66, Tryz.ntmps66
    go_wp2_with fail
    go_ret
    exact ⟨Below.refl _ _, by rw [unhide HF]; rfl⟩
  have hwl0 : 0 < ws.length := List.length_pos_iff.2 hnil
  have hwb : ((ws.length : Int) == 0) = false := by rw [beq_eq_false_iff_ne]; omega
  by_cases hcn : q.cl = []
  · have hcb : decide (0 < q.cl.length) = false := by rw [hcn]; rfl
    have HF : Hid (qPrefix q ws u = prefTo u q.vars ws) := hide (by unfold qPrefix; rw [if_neg (by rintro (h | h); exact hnil h; exact h hcn)])
    obtain ⟨g, off, cur, rfl, hg, hcur⟩ := hs hnil
    have HS := hide hs
    have HCN := hide hcn
    clear hnil hcn
    obtain ⟨i0, hi, hz0, hz1, hz2⟩ := info_parts Tryz.info139
    go_enter Tryz.func66, Tryz.ntmps66
    go_wp2_with fail
    go_loopg [26] (ws.length) (fun n i wx => ∃ (j : Nat) (vs : List (Nat × Bool)) (vV : Value), i = .int .i64 j ∧ j + n = ws.length ∧ vs.length = q.vars.length + j ∧ prefTo u q.vars ws = prefTo u vs (ws.drop j) ∧ Below bq w wx ∧
      QInv (bq + 1) wx bq { q with vars := vs } vV (.slice aC q.cl.length cC) ∧ KeepsS w wx)
    case atStart => exact ⟨0, q.vars, vV, rfl, by omega, rfl, rfl, Below.refl _ _, hq, fun _ _ h => h⟩
    case round =>
      obtain ⟨j, vs, vV, rfl, hj, hvl2, hto, hb, hqx, hk⟩ := hrel
      have HVL := hide hvl2
      have hvl3 : vs.length ≤ 1073741824 := by omega
      clear hvl2
      by_cases hlt : j < ws.length
      · have hcj : wr.cell? ⟨g, off + j, none⟩ = some (S ws[j]) := by
          rw [blk_cell (hk g cur hg)]; exact hcur j hlt
        have hwl := unhide HWS _ (List.getElem_mem hlt)
        rw [List.drop_eq_getElem_cons hlt, prefTo] at hto
        have HTO := hide hto; clear hto
        obtain ⟨d0, d1⟩ := dig_bd ws[j]
        obtain ⟨dn, hdn⟩ := Int.eq_ofNat_of_zero_le d0
        have HBV : Hid (badVar vs ws[j] = (!decide (0 < dn) || hasV vs dn)) := hide (by unfold badVar; rw [hdn]; simp)
        have HDN : Hid ((dig ws[j]).toNat = dn) := hide (by rw [hdn]; simp)
        go_wp2_with fail
        refine (variable_any ws[j] wr hwl).mono ?_
        rintro e w2 ⟨hw2, rfl⟩
        subst hw2
        rw [hdn]
        have hdn8 : dn ≤ 8 := by omega
        clear hdn d0 d1
        by_cases hz : dn = 0
        · have hdz : decide (0 < dn) = false := by simp; omega
          have HN : Hid (prefTo u q.vars ws = none) := hide (by rw [unhide HTO, unhide HBV, hz]; rfl)
          clear hz
          go_wp2_with fail
          go_ret
          exact ⟨hb, by rw [unhide HF, unhide HN]; rfl⟩
        · have hdz : decide (0 < dn) = true := by simp; omega
          have HZ : Hid (decide (0 < dn) = true) := hide (by simp; omega)
          clear hz
          go_wp2_with fail
          refine (find_any (bq + 1) bq vs vV dn w2 (by rw [blk_cell hqx.fb]; rfl) hqx.oV hvl3).mono ?_
          rintro e w3 ⟨hb3, rfl⟩
          rw [hasV_find]
          generalize (findV vs dn).getD (0, false) = fx
          have hb3a : Below w2.heap.size w2 (w3.alloc (.cells #[.int .i64 (fx.1 : Nat), .bool fx.2] 139)) := hb3.alloc hb3.size _
          have hqy := hqx.later hb3a
          have hbq2 : bq < w2.heap.size := blk_lt hqx.fb
          have hbq3 : bq < w3.heap.size := Nat.lt_of_lt_of_le hbq2 hb3.size
          have hby : Below bq w (w3.alloc (.cells #[.int .i64 (fx.1 : Nat), .bool fx.2] 139)) := hb.trans (hb3a.mono (Nat.le_of_lt hbq2))
          have hky := hk.trans (KeepsS.of_below hb3a)
          dsimp only
          cases hh : hasV vs dn with
          | true =>
            have HN : Hid (prefTo u q.vars ws = none) := hide (by rw [unhide HTO, unhide HBV, hh]; simp)
            go_wp2_with fail
            go_ret
            exact ⟨hby, by rw [unhide HF, unhide HN]; rfl⟩
          | false =>
            have HN : Hid (prefTo u q.vars ws = prefTo u (vs ++ [(dn, u)]) (ws.drop (j + 1))) := hide (by rw [unhide HTO, unhide HBV, hh, unhide HZ, unhide HDN]; rfl)
            have hf0 : w3.cell? ⟨bq, 0, none⟩ = some vV := by rw [blk_cell (hqx.later hb3).fb]; rfl
            have hbs : bq + 1 ≤ (w3.alloc (.cells #[.int .i64 (fx.1 : Nat), .bool fx.2] 139)).heap.size := blk_lt hqy.fb
            go_wp2_with (at_builtin; refine wpList_append_new' rfl (.tmp 48) (.tmp 52) 57 rfl (bq + 1) i0 (.agg #[.int .i64 0, .bool false]) 2 16 Tryz.underlying57 hi hz0 hz1 hz2 rfl (by decide) _ _ _ hqy.oV rfl _ rfl (by simp) rfl (by simp [Value.oneCell']) (by unfold maxLen; dsimp only; omega) (by dsimp only; omega) hbs ?_; intro v' w4 hown4 hgrow hnn; obtain ⟨hfb', hJ⟩ := hqy.push_var (x := (dn, u)) (Nat.lt_succ_self bq) (Below.refl _ _) hgrow hown4; have hb5 : Below bq w w4 := hby.grown hgrow (by omega) (fun k hk => (by have := (hqy.oV.lt k hk).1; omega)); have hk5 := hky.trans (KeepsS.of_grown hgrow hqy.oV (by decide)); obtain ⟨g3, cap3, rfl, hg3, hg3', hcap3, hcell3⟩ := own_pos hown4 (by omega); have hq3' : w4.cell? ⟨bq, 0, none⟩ = some vV := (by rw [blk_cell hfb']; rfl); have hqz := blk_free hfb' 0)
            go_roundg (gk - 1)
            case measure => omega
            case rel =>
              exact ⟨j + 1, vs ++ [(dn, u)], _, by go_num, by omega, by have := unhide HVL; simp; omega, unhide HN, hb5.setCell (p := ⟨bq, 0, none⟩) (Nat.le_refl _) _, hJ, hk5.trans (KeepsS.of_set hfb' (by decide))⟩
      · have hjl : j = ws.length := by omega
        subst hjl
        rw [List.drop_length] at hto
        have HN : Hid (prefTo u q.vars ws = some vs) := hide hto
        clear hto
        go_wp2_with fail
        go_ret
        refine ⟨hb, ?_⟩
        rw [unhide HF, unhide HN]
        exact ⟨rfl, _, hqx⟩
  · have hcb : decide (0 < q.cl.length) = true := by
      have : 0 < q.cl.length := List.length_pos_iff.2 hcn
      simp; omega
    have HF : Hid (qPrefix q ws u = none) := hide (by unfold qPrefix; rw [if_pos (Or.inr hcn)])
    clear hnil hcn
    go_enter Tryz.func66, Tryz.ntmps66
    go_wp2_with fail
    go_ret
    exact ⟨Below.refl _ _, by rw [unhide HF]; rfl⟩
end Go.Proofs.YtgipjjhkhfihpaaGreatDoor

namespace Go.Proofs.YtgipjjhkhfihpaaGreatDoor
open Go.RowKit

theorem alloc_new_at {w : World} {o : Obj} {n : Nat} (h : n = w.heap.size) : (w.alloc o).heap[n]? = some o := by subst h; exact heap_alloc_new w o
/-- A row whose block lies below B stays where all blocks below B do. -/
theorem own_under {w w' : World} {B base : Nat} {e : TypeId} {size : Nat} {v : Value} {n : Nat} {xs : List Value} (h : w.ownsRow base e size v n xs) (hl : ∀ k, v.ownBlock = some k → k < B) (hb : Below B w w') : w'.ownsRow base e size v n xs := by
  obtain ⟨h1, h2⟩ := h
  refine ⟨h1, ?_⟩
  rcases h2 with h2 | ⟨g, cap, cur, rfl, hg, hh, h3⟩
  · exact Or.inl h2
  · exact Or.inr ⟨g, cap, cur, rfl, hg, (hb.block g (hl g rfl)).trans hh, h3⟩

set_option maxRecDepth 100000 in
set_option maxHeartbeats 800000 in
theorem isPivot_any (b o : Nat) (kind : Nat) (v : Nat) (u : Bool) (w : World) (hc : w.cell? ⟨b, o, none⟩ = some (.int .i64 kind)) :
    Calls Tryz.prog 138 #[.pointer (some ⟨b, o, none⟩), .agg #[.int .i64 v, .bool u]] w fun e w' => e = .returned (.bool (pivotB kind u)) ∧ Below w.heap.size w w' := by
  have hbw := cell_lt hc
  have HE : Hid (((kind : Int) == 2) = (kind == 2)) := hide (by rw [Bool.eq_iff_iff, beq_iff_eq, beq_iff_eq]; omega)
  go_enter Tryz.func138, Tryz.ntmps138
  go_wp2_with fail
  go_quiet (fail)
  go_wp2_with fail
  go_ret
  exact ⟨ret_bool (by rw [unhide HE]; rfl), below_drewN ((Below.refl _ _).alloc (Nat.le_refl _) _) nq⟩

set_option maxRecDepth 100000 in
set_option maxHeartbeats 800000 in
theorem plits_any (base b o : Nat) (p : List Stp) (vS : Value) (n : Nat) (w : World) (hs : w.cell? ⟨b, o + 1, none⟩ = some vS) (hown : w.ownsRow base 134 6 vS p.length (psCells p)) (hl : p.length ≤ 1048576) :
    Calls Tryz.prog 73 #[.pointer (some ⟨b, o, none⟩), .int .i64 n] w fun e w' => e = .returned (SetV (litsAt p n)) ∧ Below w.heap.size w w' := by
  obtain ⟨aS, cS, rfl⟩ := own_form hown
  have hbw := cell_lt hs
  by_cases h1 : n < 1
  · have HL : Hid (litsAt p n = (0, 0)) := hide (litsAt_out p n (Or.inl h1))
    have e : n = 0 := by omega
    subst e
    clear h1
    go_enter Tryz.func73, Tryz.ntmps73
    go_wp2_with fail
    refine bodyPost_ret (v := SetV (0, 0)) (by simp [results, Tryz.results73, go_sem]) rfl ⟨by rw [unhide HL], ?_⟩
    exact (Below.refl _ _).alloc (Nat.le_refl _) _
  · have hd1 : decide ((n : Int) < 1) = false := by simp; omega
    by_cases h2 : p.length < n
    · have HL : Hid (litsAt p n = (0, 0)) := hide (litsAt_out p n (Or.inr h2))
      have hd2 : decide (p.length < n) = true := by simpa using h2
      clear h1 h2
      go_enter Tryz.func73, Tryz.ntmps73
      go_wp2_with fail
      refine bodyPost_ret (v := SetV (0, 0)) (by simp [results, Tryz.results73, go_sem]) rfl ⟨by rw [unhide HL], ?_⟩
      exact (Below.refl _ _).alloc (Nat.le_refl _) _
    · obtain ⟨m, rfl⟩ : ∃ m, n = m + 1 := ⟨n - 1, by omega⟩
      have hm : m < p.length := by omega
      have hd2 : decide (p.length < m + 1) = false := by simp; omega
      have hd3 : decide ((p.length : Int) < ((m : Int) + 1)) = false := by simp; omega
      have hd4 : decide ((m : Int) + 1 < 1) = false := by simp; omega
      have HL : Hid (litsAt p (m + 1) = p[m].lits) := hide (litsAt_in p m hm)
      obtain ⟨g, cap, hVe, hg, hg', _, hcell⟩ := own_pos hown (by omega)
      injection hVe with hVe _ hV2
      subst hVe hV2
      have hx0 : w.cell? ⟨g, m * 6 + 4, none⟩ = some (.int .i64 (p[m].lits.1 : Int)) := hcell _ _ (psCells_at p m 4 hm (by omega))
      have hx1 : w.cell? ⟨g, m * 6 + 5, none⟩ = some (.int .i64 (p[m].lits.2 : Int)) := hcell _ _ (psCells_at p m 5 hm (by omega))
      clear hcell h1 h2
      generalize p[m].lits = c at *
      obtain ⟨c1, c2⟩ := c
      dsimp only at *
      go_enter Tryz.func73, Tryz.ntmps73
      go_wp2_with fail
      refine bodyPost_ret (v := SetV (c1, c2)) (by simp [results, Tryz.results73, go_sem]) rfl ⟨by rw [unhide HL], ?_⟩
      exact (Below.refl _ _).alloc (Nat.le_refl _) _

abbrev StpV (s : Stp) : Value := .agg #[.int .i64 (s.rule : Int), .int .i64 (s.first : Int), .int .i64 (s.second : Int), .int .i64 (s.var : Int), .int .i64 (s.lits.1 : Int), .int .i64 (s.lits.2 : Int)]

set_option maxRecDepth 100000 in
set_option maxHeartbeats 800000 in
theorem resolvent_any (base b o : Nat) (p : List Stp) (vS : Value) (s : Stp) (w : World) (hs : w.cell? ⟨b, o + 1, none⟩ = some vS) (hown : w.ownsRow base 134 6 vS p.length (psCells p)) (hl : p.length ≤ 1048576) (hb : ∀ s ∈ p, s.lits.1 < 512 ∧ s.lits.2 < 512) :
    Calls Tryz.prog 127 #[.pointer (some ⟨b, o, none⟩), StpV s] w fun e w' => e = .returned (SetV (without2 (litsAt p s.first) (litsAt p s.second) s.var)) ∧ Below w.heap.size w w' := by
  have hbw := cell_lt hs
  have hl1 := litsAt_lt p hb s.first
  have hl2 := litsAt_lt p hb s.second
  have HW : Hid (without2 (litsAt p s.first) (litsAt p s.second) s.var = without ((litsAt p s.first).1 ||| (litsAt p s.second).1, (litsAt p s.first).2 ||| (litsAt p s.second).2) s.var) := hide rfl
  obtain ⟨sr, sf, ss, sv, sl⟩ := s
  obtain ⟨sl1, sl2⟩ := sl
  dsimp only at *
  go_enter Tryz.func127, Tryz.ntmps127
  go_wp2_with fail
  generalize hw0 : ((w.alloc (.cells #[.int .i64 (sr : Int), .int .i64 (sf : Int), .int .i64 (ss : Int), .int .i64 (sv : Int), .int .i64 (sl1 : Int), .int .i64 (sl2 : Int)] 134)).alloc (.cells #[.int .i64 0, .int .i64 0] 74)) = u1
  have hB : Below w.heap.size w u1 := by rw [← hw0]; exact ((Below.refl _ _).alloc (Nat.le_refl _) _).alloc (by simp) _
  have hst : u1.heap[w.heap.size]? = some (.cells #[.int .i64 (sr : Int), .int .i64 (sf : Int), .int .i64 (ss : Int), .int .i64 (sv : Int), .int .i64 (sl1 : Int), .int .i64 (sl2 : Int)] 134 (0, 0)) := by rw [← hw0, heap_alloc_old _ _ (by simp)]; exact alloc_new_at (by simp)
  have hrs : u1.heap[w.heap.size + 1]? = some (.cells #[.int .i64 0, .int .i64 0] 74 (0, 0)) := by rw [← hw0]; exact alloc_new_at (by simp)
  clear hw0
  have cst0 : u1.cell? ⟨w.heap.size, 0, none⟩ = some (.int .i64 (sr : Int)) := by rw [blk_cell hst]; rfl
  have cst1 : u1.cell? ⟨w.heap.size, 1, none⟩ = some (.int .i64 (sf : Int)) := by rw [blk_cell hst]; rfl
  have cst2 : u1.cell? ⟨w.heap.size, 2, none⟩ = some (.int .i64 (ss : Int)) := by rw [blk_cell hst]; rfl
  have cst3 : u1.cell? ⟨w.heap.size, 3, none⟩ = some (.int .i64 (sv : Int)) := by rw [blk_cell hst]; rfl
  have cst4 : u1.cell? ⟨w.heap.size, 4, none⟩ = some (.int .i64 (sl1 : Int)) := by rw [blk_cell hst]; rfl
  have cst5 : u1.cell? ⟨w.heap.size, 5, none⟩ = some (.int .i64 (sl2 : Int)) := by rw [blk_cell hst]; rfl
  have lst := blk_lt hst
  have crs0 : u1.cell? ⟨w.heap.size + 1, 0, none⟩ = some (.int .i64 0) := by rw [blk_cell hrs]; rfl
  have crs1 : u1.cell? ⟨w.heap.size + 1, 1, none⟩ = some (.int .i64 0) := by rw [blk_cell hrs]; rfl
  have lrs := blk_lt hrs
  have hc : u1.cell? ⟨b, o + 1, none⟩ = some vS := by rw [hB.cell (p := ⟨b, o + 1, none⟩) hbw]; exact hs
  have hbw2 : b < u1.heap.size := Nat.lt_of_lt_of_le hbw hB.size
  refine (plits_any base b o p vS sf _ hc (own_below hown hB) hl).mono ?_
  rintro e u2 ⟨rfl, b2⟩
  replace hB := hB.trans (b2.mono hB.size)
  replace hst := (b2.block _ (blk_lt hst)).trans hst
  replace cst0 : u2.cell? ⟨w.heap.size, 0, none⟩ = some (.int .i64 (sr : Int)) := by rw [blk_cell hst]; rfl
  replace cst1 : u2.cell? ⟨w.heap.size, 1, none⟩ = some (.int .i64 (sf : Int)) := by rw [blk_cell hst]; rfl
  replace cst2 : u2.cell? ⟨w.heap.size, 2, none⟩ = some (.int .i64 (ss : Int)) := by rw [blk_cell hst]; rfl
  replace cst3 : u2.cell? ⟨w.heap.size, 3, none⟩ = some (.int .i64 (sv : Int)) := by rw [blk_cell hst]; rfl
  replace cst4 : u2.cell? ⟨w.heap.size, 4, none⟩ = some (.int .i64 (sl1 : Int)) := by rw [blk_cell hst]; rfl
  replace cst5 : u2.cell? ⟨w.heap.size, 5, none⟩ = some (.int .i64 (sl2 : Int)) := by rw [blk_cell hst]; rfl
  replace lst := blk_lt hst
  replace hrs := (b2.block _ (blk_lt hrs)).trans hrs
  replace crs0 : u2.cell? ⟨w.heap.size + 1, 0, none⟩ = some (.int .i64 0) := by rw [blk_cell hrs]; rfl
  replace crs1 : u2.cell? ⟨w.heap.size + 1, 1, none⟩ = some (.int .i64 0) := by rw [blk_cell hrs]; rfl
  replace lrs := blk_lt hrs
  replace hc : u2.cell? ⟨b, o + 1, none⟩ = some vS := by rw [hB.cell (p := ⟨b, o + 1, none⟩) hbw]; exact hs
  replace hbw2 : b < u2.heap.size := Nat.lt_of_lt_of_le hbw hB.size
  generalize hea : litsAt p sf = a at *
  have HEA := hide hea
  clear hea
  obtain ⟨a1, a2⟩ := a
  dsimp only at *
  go_wp2_with fail
  generalize hw0 : u2.alloc (.cells #[.int .i64 (a1 : Int), .int .i64 (a2 : Int)] 74) = u3
  have b3 : Below u2.heap.size u2 u3 := by rw [← hw0]; exact (Below.refl _ _).alloc (Nat.le_refl _) _
  have hfi : u3.heap[u2.heap.size]? = some (.cells #[.int .i64 (a1 : Int), .int .i64 (a2 : Int)] 74 (0, 0)) := by rw [← hw0]; exact heap_alloc_new _ _
  clear hw0
  replace hB := hB.trans (b3.mono hB.size)
  replace hst := (b3.block _ (blk_lt hst)).trans hst
  replace cst0 : u3.cell? ⟨w.heap.size, 0, none⟩ = some (.int .i64 (sr : Int)) := by rw [blk_cell hst]; rfl
  replace cst1 : u3.cell? ⟨w.heap.size, 1, none⟩ = some (.int .i64 (sf : Int)) := by rw [blk_cell hst]; rfl
  replace cst2 : u3.cell? ⟨w.heap.size, 2, none⟩ = some (.int .i64 (ss : Int)) := by rw [blk_cell hst]; rfl
  replace cst3 : u3.cell? ⟨w.heap.size, 3, none⟩ = some (.int .i64 (sv : Int)) := by rw [blk_cell hst]; rfl
  replace cst4 : u3.cell? ⟨w.heap.size, 4, none⟩ = some (.int .i64 (sl1 : Int)) := by rw [blk_cell hst]; rfl
  replace cst5 : u3.cell? ⟨w.heap.size, 5, none⟩ = some (.int .i64 (sl2 : Int)) := by rw [blk_cell hst]; rfl
  replace lst := blk_lt hst
  replace hrs := (b3.block _ (blk_lt hrs)).trans hrs
  replace crs0 : u3.cell? ⟨w.heap.size + 1, 0, none⟩ = some (.int .i64 0) := by rw [blk_cell hrs]; rfl
  replace crs1 : u3.cell? ⟨w.heap.size + 1, 1, none⟩ = some (.int .i64 0) := by rw [blk_cell hrs]; rfl
  replace lrs := blk_lt hrs
  replace hc : u3.cell? ⟨b, o + 1, none⟩ = some vS := by rw [hB.cell (p := ⟨b, o + 1, none⟩) hbw]; exact hs
  replace hbw2 : b < u3.heap.size := Nat.lt_of_lt_of_le hbw hB.size
  have cfi0 : u3.cell? ⟨u2.heap.size, 0, none⟩ = some (.int .i64 (a1 : Int)) := by rw [blk_cell hfi]; rfl
  have cfi1 : u3.cell? ⟨u2.heap.size, 1, none⟩ = some (.int .i64 (a2 : Int)) := by rw [blk_cell hfi]; rfl
  have lfi := blk_lt hfi
  refine (plits_any base b o p vS ss _ hc (own_below hown hB) hl).mono ?_
  rintro e u4 ⟨rfl, b4⟩
  replace hB := hB.trans (b4.mono hB.size)
  replace hst := (b4.block _ (blk_lt hst)).trans hst
  replace cst0 : u4.cell? ⟨w.heap.size, 0, none⟩ = some (.int .i64 (sr : Int)) := by rw [blk_cell hst]; rfl
  replace cst1 : u4.cell? ⟨w.heap.size, 1, none⟩ = some (.int .i64 (sf : Int)) := by rw [blk_cell hst]; rfl
  replace cst2 : u4.cell? ⟨w.heap.size, 2, none⟩ = some (.int .i64 (ss : Int)) := by rw [blk_cell hst]; rfl
  replace cst3 : u4.cell? ⟨w.heap.size, 3, none⟩ = some (.int .i64 (sv : Int)) := by rw [blk_cell hst]; rfl
  replace cst4 : u4.cell? ⟨w.heap.size, 4, none⟩ = some (.int .i64 (sl1 : Int)) := by rw [blk_cell hst]; rfl
  replace cst5 : u4.cell? ⟨w.heap.size, 5, none⟩ = some (.int .i64 (sl2 : Int)) := by rw [blk_cell hst]; rfl
  replace lst := blk_lt hst
  replace hrs := (b4.block _ (blk_lt hrs)).trans hrs
  replace crs0 : u4.cell? ⟨w.heap.size + 1, 0, none⟩ = some (.int .i64 0) := by rw [blk_cell hrs]; rfl
  replace crs1 : u4.cell? ⟨w.heap.size + 1, 1, none⟩ = some (.int .i64 0) := by rw [blk_cell hrs]; rfl
  replace lrs := blk_lt hrs
  replace hfi := (b4.block _ (blk_lt hfi)).trans hfi
  replace cfi0 : u4.cell? ⟨u2.heap.size, 0, none⟩ = some (.int .i64 (a1 : Int)) := by rw [blk_cell hfi]; rfl
  replace cfi1 : u4.cell? ⟨u2.heap.size, 1, none⟩ = some (.int .i64 (a2 : Int)) := by rw [blk_cell hfi]; rfl
  replace lfi := blk_lt hfi
  replace hc : u4.cell? ⟨b, o + 1, none⟩ = some vS := by rw [hB.cell (p := ⟨b, o + 1, none⟩) hbw]; exact hs
  replace hbw2 : b < u4.heap.size := Nat.lt_of_lt_of_le hbw hB.size
  generalize hea : litsAt p ss = a at *
  have HEB := hide hea
  clear hea
  obtain ⟨d1, d2⟩ := a
  dsimp only at *
  go_wp2_with fail
  generalize hw0 : u4.alloc (.cells #[.int .i64 (d1 : Int), .int .i64 (d2 : Int)] 74) = u5
  have b5 : Below u4.heap.size u4 u5 := by rw [← hw0]; exact (Below.refl _ _).alloc (Nat.le_refl _) _
  have hse : u5.heap[u4.heap.size]? = some (.cells #[.int .i64 (d1 : Int), .int .i64 (d2 : Int)] 74 (0, 0)) := by rw [← hw0]; exact heap_alloc_new _ _
  clear hw0
  replace hB := hB.trans (b5.mono hB.size)
  replace hst := (b5.block _ (blk_lt hst)).trans hst
  replace cst0 : u5.cell? ⟨w.heap.size, 0, none⟩ = some (.int .i64 (sr : Int)) := by rw [blk_cell hst]; rfl
  replace cst1 : u5.cell? ⟨w.heap.size, 1, none⟩ = some (.int .i64 (sf : Int)) := by rw [blk_cell hst]; rfl
  replace cst2 : u5.cell? ⟨w.heap.size, 2, none⟩ = some (.int .i64 (ss : Int)) := by rw [blk_cell hst]; rfl
  replace cst3 : u5.cell? ⟨w.heap.size, 3, none⟩ = some (.int .i64 (sv : Int)) := by rw [blk_cell hst]; rfl
  replace cst4 : u5.cell? ⟨w.heap.size, 4, none⟩ = some (.int .i64 (sl1 : Int)) := by rw [blk_cell hst]; rfl
  replace cst5 : u5.cell? ⟨w.heap.size, 5, none⟩ = some (.int .i64 (sl2 : Int)) := by rw [blk_cell hst]; rfl
  replace lst := blk_lt hst
  replace hrs := (b5.block _ (blk_lt hrs)).trans hrs
  replace crs0 : u5.cell? ⟨w.heap.size + 1, 0, none⟩ = some (.int .i64 0) := by rw [blk_cell hrs]; rfl
  replace crs1 : u5.cell? ⟨w.heap.size + 1, 1, none⟩ = some (.int .i64 0) := by rw [blk_cell hrs]; rfl
  replace lrs := blk_lt hrs
  replace hfi := (b5.block _ (blk_lt hfi)).trans hfi
  replace cfi0 : u5.cell? ⟨u2.heap.size, 0, none⟩ = some (.int .i64 (a1 : Int)) := by rw [blk_cell hfi]; rfl
  replace cfi1 : u5.cell? ⟨u2.heap.size, 1, none⟩ = some (.int .i64 (a2 : Int)) := by rw [blk_cell hfi]; rfl
  replace lfi := blk_lt hfi
  replace hc : u5.cell? ⟨b, o + 1, none⟩ = some vS := by rw [hB.cell (p := ⟨b, o + 1, none⟩) hbw]; exact hs
  replace hbw2 : b < u5.heap.size := Nat.lt_of_lt_of_le hbw hB.size
  have cse0 : u5.cell? ⟨u4.heap.size, 0, none⟩ = some (.int .i64 (d1 : Int)) := by rw [blk_cell hse]; rfl
  have cse1 : u5.cell? ⟨u4.heap.size, 1, none⟩ = some (.int .i64 (d2 : Int)) := by rw [blk_cell hse]; rfl
  have lse := blk_lt hse
  refine (union_any a1 a2 d1 d2 _ hl1.1 hl1.2 hl2.1 hl2.2).mono ?_
  rintro e u6 ⟨rfl, b6⟩
  replace hB := hB.trans (b6.mono hB.size)
  replace hst := (b6.block _ (blk_lt hst)).trans hst
  replace cst0 : u6.cell? ⟨w.heap.size, 0, none⟩ = some (.int .i64 (sr : Int)) := by rw [blk_cell hst]; rfl
  replace cst1 : u6.cell? ⟨w.heap.size, 1, none⟩ = some (.int .i64 (sf : Int)) := by rw [blk_cell hst]; rfl
  replace cst2 : u6.cell? ⟨w.heap.size, 2, none⟩ = some (.int .i64 (ss : Int)) := by rw [blk_cell hst]; rfl
  replace cst3 : u6.cell? ⟨w.heap.size, 3, none⟩ = some (.int .i64 (sv : Int)) := by rw [blk_cell hst]; rfl
  replace cst4 : u6.cell? ⟨w.heap.size, 4, none⟩ = some (.int .i64 (sl1 : Int)) := by rw [blk_cell hst]; rfl
  replace cst5 : u6.cell? ⟨w.heap.size, 5, none⟩ = some (.int .i64 (sl2 : Int)) := by rw [blk_cell hst]; rfl
  replace lst := blk_lt hst
  replace hrs := (b6.block _ (blk_lt hrs)).trans hrs
  replace crs0 : u6.cell? ⟨w.heap.size + 1, 0, none⟩ = some (.int .i64 0) := by rw [blk_cell hrs]; rfl
  replace crs1 : u6.cell? ⟨w.heap.size + 1, 1, none⟩ = some (.int .i64 0) := by rw [blk_cell hrs]; rfl
  replace lrs := blk_lt hrs
  replace hfi := (b6.block _ (blk_lt hfi)).trans hfi
  replace cfi0 : u6.cell? ⟨u2.heap.size, 0, none⟩ = some (.int .i64 (a1 : Int)) := by rw [blk_cell hfi]; rfl
  replace cfi1 : u6.cell? ⟨u2.heap.size, 1, none⟩ = some (.int .i64 (a2 : Int)) := by rw [blk_cell hfi]; rfl
  replace lfi := blk_lt hfi
  replace hse := (b6.block _ (blk_lt hse)).trans hse
  replace cse0 : u6.cell? ⟨u4.heap.size, 0, none⟩ = some (.int .i64 (d1 : Int)) := by rw [blk_cell hse]; rfl
  replace cse1 : u6.cell? ⟨u4.heap.size, 1, none⟩ = some (.int .i64 (d2 : Int)) := by rw [blk_cell hse]; rfl
  replace lse := blk_lt hse
  replace hc : u6.cell? ⟨b, o + 1, none⟩ = some vS := by rw [hB.cell (p := ⟨b, o + 1, none⟩) hbw]; exact hs
  replace hbw2 : b < u6.heap.size := Nat.lt_of_lt_of_le hbw hB.size
  have hu1 := or_lt a1 d1 hl1.1 hl2.1
  have hu2 := or_lt a2 d2 hl1.2 hl2.2
  generalize a1 ||| d1 = pu at *
  generalize a2 ||| d2 = nu at *
  go_wp2_with fail
  generalize hw0 : u6.alloc (.cells #[.int .i64 (pu : Int), .int .i64 (nu : Int)] 74) = u7
  have b7 : Below u6.heap.size u6 u7 := by rw [← hw0]; exact (Below.refl _ _).alloc (Nat.le_refl _) _
  have hbo : u7.heap[u6.heap.size]? = some (.cells #[.int .i64 (pu : Int), .int .i64 (nu : Int)] 74 (0, 0)) := by rw [← hw0]; exact heap_alloc_new _ _
  clear hw0
  replace hB := hB.trans (b7.mono hB.size)
  replace hst := (b7.block _ (blk_lt hst)).trans hst
  replace cst0 : u7.cell? ⟨w.heap.size, 0, none⟩ = some (.int .i64 (sr : Int)) := by rw [blk_cell hst]; rfl
  replace cst1 : u7.cell? ⟨w.heap.size, 1, none⟩ = some (.int .i64 (sf : Int)) := by rw [blk_cell hst]; rfl
  replace cst2 : u7.cell? ⟨w.heap.size, 2, none⟩ = some (.int .i64 (ss : Int)) := by rw [blk_cell hst]; rfl
  replace cst3 : u7.cell? ⟨w.heap.size, 3, none⟩ = some (.int .i64 (sv : Int)) := by rw [blk_cell hst]; rfl
  replace cst4 : u7.cell? ⟨w.heap.size, 4, none⟩ = some (.int .i64 (sl1 : Int)) := by rw [blk_cell hst]; rfl
  replace cst5 : u7.cell? ⟨w.heap.size, 5, none⟩ = some (.int .i64 (sl2 : Int)) := by rw [blk_cell hst]; rfl
  replace lst := blk_lt hst
  replace hrs := (b7.block _ (blk_lt hrs)).trans hrs
  replace crs0 : u7.cell? ⟨w.heap.size + 1, 0, none⟩ = some (.int .i64 0) := by rw [blk_cell hrs]; rfl
  replace crs1 : u7.cell? ⟨w.heap.size + 1, 1, none⟩ = some (.int .i64 0) := by rw [blk_cell hrs]; rfl
  replace lrs := blk_lt hrs
  replace hfi := (b7.block _ (blk_lt hfi)).trans hfi
  replace cfi0 : u7.cell? ⟨u2.heap.size, 0, none⟩ = some (.int .i64 (a1 : Int)) := by rw [blk_cell hfi]; rfl
  replace cfi1 : u7.cell? ⟨u2.heap.size, 1, none⟩ = some (.int .i64 (a2 : Int)) := by rw [blk_cell hfi]; rfl
  replace lfi := blk_lt hfi
  replace hse := (b7.block _ (blk_lt hse)).trans hse
  replace cse0 : u7.cell? ⟨u4.heap.size, 0, none⟩ = some (.int .i64 (d1 : Int)) := by rw [blk_cell hse]; rfl
  replace cse1 : u7.cell? ⟨u4.heap.size, 1, none⟩ = some (.int .i64 (d2 : Int)) := by rw [blk_cell hse]; rfl
  replace lse := blk_lt hse
  replace hc : u7.cell? ⟨b, o + 1, none⟩ = some vS := by rw [hB.cell (p := ⟨b, o + 1, none⟩) hbw]; exact hs
  replace hbw2 : b < u7.heap.size := Nat.lt_of_lt_of_le hbw hB.size
  have cbo0 : u7.cell? ⟨u6.heap.size, 0, none⟩ = some (.int .i64 (pu : Int)) := by rw [blk_cell hbo]; rfl
  have cbo1 : u7.cell? ⟨u6.heap.size, 1, none⟩ = some (.int .i64 (nu : Int)) := by rw [blk_cell hbo]; rfl
  have lbo := blk_lt hbo
  refine (withoutVar_any pu nu sv _ hu1 hu2).mono ?_
  rintro e u8 ⟨rfl, b8⟩
  replace hB := hB.trans (b8.mono hB.size)
  replace hst := (b8.block _ (blk_lt hst)).trans hst
  replace cst0 : u8.cell? ⟨w.heap.size, 0, none⟩ = some (.int .i64 (sr : Int)) := by rw [blk_cell hst]; rfl
  replace cst1 : u8.cell? ⟨w.heap.size, 1, none⟩ = some (.int .i64 (sf : Int)) := by rw [blk_cell hst]; rfl
  replace cst2 : u8.cell? ⟨w.heap.size, 2, none⟩ = some (.int .i64 (ss : Int)) := by rw [blk_cell hst]; rfl
  replace cst3 : u8.cell? ⟨w.heap.size, 3, none⟩ = some (.int .i64 (sv : Int)) := by rw [blk_cell hst]; rfl
  replace cst4 : u8.cell? ⟨w.heap.size, 4, none⟩ = some (.int .i64 (sl1 : Int)) := by rw [blk_cell hst]; rfl
  replace cst5 : u8.cell? ⟨w.heap.size, 5, none⟩ = some (.int .i64 (sl2 : Int)) := by rw [blk_cell hst]; rfl
  replace lst := blk_lt hst
  replace hrs := (b8.block _ (blk_lt hrs)).trans hrs
  replace crs0 : u8.cell? ⟨w.heap.size + 1, 0, none⟩ = some (.int .i64 0) := by rw [blk_cell hrs]; rfl
  replace crs1 : u8.cell? ⟨w.heap.size + 1, 1, none⟩ = some (.int .i64 0) := by rw [blk_cell hrs]; rfl
  replace lrs := blk_lt hrs
  replace hfi := (b8.block _ (blk_lt hfi)).trans hfi
  replace cfi0 : u8.cell? ⟨u2.heap.size, 0, none⟩ = some (.int .i64 (a1 : Int)) := by rw [blk_cell hfi]; rfl
  replace cfi1 : u8.cell? ⟨u2.heap.size, 1, none⟩ = some (.int .i64 (a2 : Int)) := by rw [blk_cell hfi]; rfl
  replace lfi := blk_lt hfi
  replace hse := (b8.block _ (blk_lt hse)).trans hse
  replace cse0 : u8.cell? ⟨u4.heap.size, 0, none⟩ = some (.int .i64 (d1 : Int)) := by rw [blk_cell hse]; rfl
  replace cse1 : u8.cell? ⟨u4.heap.size, 1, none⟩ = some (.int .i64 (d2 : Int)) := by rw [blk_cell hse]; rfl
  replace lse := blk_lt hse
  replace hbo := (b8.block _ (blk_lt hbo)).trans hbo
  replace cbo0 : u8.cell? ⟨u6.heap.size, 0, none⟩ = some (.int .i64 (pu : Int)) := by rw [blk_cell hbo]; rfl
  replace cbo1 : u8.cell? ⟨u6.heap.size, 1, none⟩ = some (.int .i64 (nu : Int)) := by rw [blk_cell hbo]; rfl
  replace lbo := blk_lt hbo
  replace hc : u8.cell? ⟨b, o + 1, none⟩ = some vS := by rw [hB.cell (p := ⟨b, o + 1, none⟩) hbw]; exact hs
  replace hbw2 : b < u8.heap.size := Nat.lt_of_lt_of_le hbw hB.size
  have hlt := without_lt (pu, nu) sv ⟨hu1, hu2⟩
  generalize without (pu, nu) sv = cw at *
  obtain ⟨p', n'⟩ := cw
  dsimp only at *
  have z0 := blk_free hrs 0
  have z1 := blk_free hrs 1
  have hR := blk_set (blk_set hrs 0 (.int .i64 (p' : Int))) 1 (.int .i64 (n' : Int))
  have j0 := blk_cell hR 0
  have j1 := blk_cell hR 1
  go_wp2_with fail
  refine bodyPost_ret (v := SetV (p', n')) (by simp [results, Tryz.results127, go_sem, j0, j1]) rfl ⟨by rw [unhide HEA, unhide HEB, unhide HW], ?_⟩
  exact (hB.setCell (p := ⟨w.heap.size + 1, 0, none⟩) (Nat.le_succ _) _).setCell (p := ⟨w.heap.size + 1, 1, none⟩) (Nat.le_succ _) _
end Go.Proofs.YtgipjjhkhfihpaaGreatDoor

namespace Go.Proofs.YtgipjjhkhfihpaaGreatDoor
open Go.RowKit

/-! ### reduced -/
set_option maxRecDepth 100000 in
set_option maxHeartbeats 1600000 in
theorem preduced_any (base b o : Nat) (q : QS) (kind : Nat) (vV vC : Value) (c : Nat × Nat) (w : World) (hk : w.cell? ⟨b, o, none⟩ = some (.int .i64 kind)) (hoV : w.ownsRow base 139 2 vV q.vars.length (varCells q.vars)) (hQ : QB q) (hc : c.1 < 512 ∧ c.2 < 512) (hCf : ∃ aC nC cC, vC = .slice aC nC cC) :
    Calls Tryz.prog 128 #[.pointer (some ⟨b, o, none⟩), .agg #[vV, vC], SetV c] w fun e w' => e = .returned (SetV (redQ kind q.vars.reverse c)) ∧ Below w.heap.size w w' := by
  obtain ⟨aV, cV, rfl⟩ := own_form hoV
  obtain ⟨aC, nC, cC, rfl⟩ := hCf
  have hbw := cell_lt hk
  have hvl := hQ.vl
  go_enter Tryz.func128, Tryz.ntmps128
  obtain ⟨p0, n0⟩ := c
  go_wp2_with fail
  go_loopg [7] (q.vars.length + 1) (fun m i wx => ∃ (k p n : Nat), i = .int .i64 ((k : Int) - 1) ∧ k + 1 ≤ m ∧ m ≤ k + 1 ∧ k ≤ q.vars.length ∧ p < 512 ∧ n < 512 ∧ redQ kind q.vars.reverse (p0, n0) = redQ kind (q.vars.take k).reverse (p, n) ∧ Below w.heap.size w wx ∧
     wx.heap[w.heap.size]? = some (.cells #[.slice aV q.vars.length cV, .slice aC nC cC] 60 (0, 0)) ∧ wx.heap[w.heap.size + 1]? = some (.cells #[.int .i64 p, .int .i64 n] 74 (0, 0)) ∧ wx.heap[w.heap.size + 2]? = some (.cells #[.int .i64 0, .int .i64 0] 74 (0, 0)))
  case atStart => exact ⟨q.vars.length, p0, n0, by go_num, by omega, by omega, by omega, hc.1, hc.2, by rw [List.take_length], (((Below.refl _ _).alloc (Nat.le_refl _) _).alloc (by simp) _).alloc (by simp; omega) _, by rw [heap_alloc_old _ _ (by simp; omega), heap_alloc_old _ _ (by simp)]; exact heap_alloc_new _ _, by rw [heap_alloc_old _ _ (by simp)]; exact alloc_new_at (by simp), alloc_new_at (by simp)⟩
  case round =>
    obtain ⟨k, p, n, rfl, hkm, hkm2, hkl, hp, hn, hred, hb, hfo, hset, hres⟩ := hrel
    have HR := hide hred; clear hred
    have hv0 : wr.cell? ⟨w.heap.size, 0, none⟩ = some (.slice aV q.vars.length cV) := by rw [blk_cell hfo]; rfl
    have hs0 : wr.cell? ⟨w.heap.size + 1, 0, none⟩ = some (.int .i64 p) := by rw [blk_cell hset]; rfl
    have hs1 : wr.cell? ⟨w.heap.size + 1, 1, none⟩ = some (.int .i64 n) := by rw [blk_cell hset]; rfl
    have hr0 : wr.cell? ⟨w.heap.size + 2, 0, none⟩ = some (.int .i64 0) := by rw [blk_cell hres]; rfl
    have hr1 : wr.cell? ⟨w.heap.size + 2, 1, none⟩ = some (.int .i64 0) := by rw [blk_cell hres]; rfl
    have hz0 := blk_free hset 0
    have hz1 := blk_free hset 1
    have hy0 := blk_free hres 0
    have hy1 := blk_free hres 1
    have hbs := blk_lt hres
    have hbs0 : w.heap.size < wr.heap.size := by omega
    have hbs1 : w.heap.size + 1 < wr.heap.size := by omega
    have hbw1 : b < wr.heap.size := by omega
    cases k with
    | zero =>
      have HF : Hid (redQ kind q.vars.reverse (p0, n0) = (p, n)) := hide (by rw [unhide HR]; rfl)
      have hR := blk_set (blk_set hres 0 (.int .i64 p)) 1 (.int .i64 n)
      have j0 := blk_cell hR 0
      have j1 := blk_cell hR 1
      go_wp2_with fail
      refine bodyPost_ret (v := SetV (p, n)) (by simp [results, Tryz.results128, go_sem, j0, j1]) rfl ⟨by rw [unhide HF], ?_⟩
      exact (hb.setCell (p := ⟨w.heap.size + 2, 0, none⟩) (by simp) _).setCell (p := ⟨w.heap.size + 2, 1, none⟩) (by simp) _
    | succ k =>
      have hlt : k < q.vars.length := by omega
      obtain ⟨g, cap, hVe, hg, hg', _, hcell⟩ := own_pos hoV (by omega)
      injection hVe with hVe _ hV2
      subst hVe hV2
      obtain ⟨ha, hb'⟩ := varCells_at q.vars k hlt
      have hx0 : wr.cell? ⟨g, k * 2, none⟩ = some (.int .i64 (q.vars[k].1 : Int)) := by rw [hb.cell (p := ⟨g, k * 2, none⟩) hg']; exact hcell _ _ ha
      have hx1 : wr.cell? ⟨g, k * 2 + 1, none⟩ = some (.bool q.vars[k].2) := by rw [hb.cell (p := ⟨g, k * 2 + 1, none⟩) hg']; exact hcell _ _ hb'
      have hgw : g < wr.heap.size := by omega
      have HST := hide (redQ_step kind q.vars k hlt (p, n))
      clear hcell ha hb'
      generalize q.vars[k] = x at *
      obtain ⟨vn, vu⟩ := x
      dsimp only at *
      go_wp2_with fail
      refine (hasVar_any p n vn _ hp hn).mono ?_
      rintro e w2 ⟨rfl, hb2⟩
      have hw2 : Below wr.heap.size wr w2 := ((Below.refl _ wr).alloc (Nat.le_refl _) _).trans (hb2.mono (by simp))
      have hsz2 := hw2.size
      have hv2 : w2.heap[wr.heap.size]? = some (.cells #[.int .i64 vn, .bool vu] 139 (0, 0)) := (hb2.block _ (by simp)).trans (heap_alloc_new _ _)
      have hfo2 := (hw2.block _ hbs0).trans hfo
      have hset2 := (hw2.block _ hbs1).trans hset
      have hres2 := (hw2.block _ hbs).trans hres
      have hbw2 : Below w.heap.size w w2 := hb.trans (hw2.mono (by omega))
      rw [show ((p ||| n) &&& bitOf vn != 0) = hasVarB (p, n) vn from rfl]
      cases hh : hasVarB (p, n) vn with
      | false =>
        have HF : Hid (redQ kind q.vars.reverse (p0, n0) = redQ kind (q.vars.take k).reverse (p, n)) := hide (by rw [unhide HR, unhide HST, hh]; rfl)
        go_wp2_with fail
        go_roundg (gk - 1)
        case measure => omega
        case rel => exact ⟨k, p, n, by go_num, by omega, by omega, by omega, hp, hn, unhide HF, hbw2, hfo2, hset2, hres2⟩
      | true =>
        have y2 : w2.cell? ⟨b, o, none⟩ = some (.int .i64 kind) := by rw [hbw2.cell (p := ⟨b, o, none⟩) hbw]; exact hk
        have hc0 : w2.cell? ⟨wr.heap.size, 0, none⟩ = some (.int .i64 vn) := by rw [blk_cell hv2]; rfl
        have hc1 : w2.cell? ⟨wr.heap.size, 1, none⟩ = some (.bool vu) := by rw [blk_cell hv2]; rfl
        go_wp2_with fail
        refine (isPivot_any b o kind vn vu w2 y2).mono ?_
        rintro e w3 ⟨rfl, hb3⟩
        have hv3 := (hb3.block _ (blk_lt hv2)).trans hv2
        have hfo3 := (hb3.block _ (blk_lt hfo2)).trans hfo2
        have hset3 := (hb3.block _ (blk_lt hset2)).trans hset2
        have hres3 := (hb3.block _ (blk_lt hres2)).trans hres2
        have hbw3 : Below w.heap.size w w3 := hbw2.trans (hb3.mono hbw2.size)
        have e0 : w3.cell? ⟨w.heap.size + 1, 0, none⟩ = some (.int .i64 p) := by rw [blk_cell hset3]; rfl
        have e1 : w3.cell? ⟨w.heap.size + 1, 1, none⟩ = some (.int .i64 n) := by rw [blk_cell hset3]; rfl
        have f0 : w3.cell? ⟨w.heap.size + 2, 0, none⟩ = some (.int .i64 0) := by rw [blk_cell hres3]; rfl
        have f1 : w3.cell? ⟨w.heap.size + 2, 1, none⟩ = some (.int .i64 0) := by rw [blk_cell hres3]; rfl
        have g0 : w3.cell? ⟨wr.heap.size, 0, none⟩ = some (.int .i64 vn) := by rw [blk_cell hv3]; rfl
        have z0 := blk_free hset3 0
        have z1 := blk_free hset3 1
        have y0 := blk_free hres3 0
        have y1 := blk_free hres3 1
        cases hpv : pivotB kind vu with
        | true =>
          have HF : Hid (redQ kind q.vars.reverse (p0, n0) = (p, n)) := hide (by rw [unhide HR, unhide HST, hh, hpv]; rfl)
          have hR := blk_set (blk_set hres3 0 (.int .i64 p)) 1 (.int .i64 n)
          have j0 := blk_cell hR 0
          have j1 := blk_cell hR 1
          go_wp2_with fail
          refine bodyPost_ret (v := SetV (p, n)) (by simp [results, Tryz.results128, go_sem, j0, j1]) rfl ⟨by rw [unhide HF], ?_⟩
          exact (hbw3.setCell (p := ⟨w.heap.size + 2, 0, none⟩) (by simp) _).setCell (p := ⟨w.heap.size + 2, 1, none⟩) (by simp) _
        | false =>
          have HF : Hid (redQ kind q.vars.reverse (p0, n0) = redQ kind (q.vars.take k).reverse (without (p, n) vn)) := hide (by rw [unhide HR, unhide HST, hh, hpv]; rfl)
          have hwl := without_lt (p, n) vn ⟨hp, hn⟩
          go_wp2_with fail
          refine (withoutVar_any p n vn w3 hp hn).mono ?_
          rintro e w4 ⟨rfl, hb4⟩
          have hfo4 := (hb4.block _ (blk_lt hfo3)).trans hfo3
          have hset4 := (hb4.block _ (blk_lt hset3)).trans hset3
          have hres4 := (hb4.block _ (blk_lt hres3)).trans hres3
          have hbw4 : Below w.heap.size w w4 := hbw3.trans (hb4.mono hbw3.size)
          have i0 : w4.cell? ⟨w.heap.size + 1, 0, none⟩ = some (.int .i64 p) := by rw [blk_cell hset4]; rfl
          have i1 : w4.cell? ⟨w.heap.size + 1, 1, none⟩ = some (.int .i64 n) := by rw [blk_cell hset4]; rfl
          have u0 := blk_free hset4 0
          have u1 := blk_free hset4 1
          generalize without (p, n) vn = cw at *
          obtain ⟨p', n'⟩ := cw
          go_wp2_with fail
          go_roundg (gk - 1)
          case measure => omega
          case rel =>
            refine ⟨k, p', n', by go_num, by omega, by omega, by omega, hwl.1, hwl.2, unhide HF, (hbw4.setCell (p := ⟨w.heap.size + 1, 0, none⟩) (by simp) _).setCell (p := ⟨w.heap.size + 1, 1, none⟩) (by simp) _, ?_, blk_set (blk_set hset4 0 _) 1 _, ?_⟩
            · rw [Below.heap_setCell _ _ _ _ (by simp), Below.heap_setCell _ _ _ _ (by simp)]; exact hfo4
            · rw [Below.heap_setCell _ _ _ _ (by simp), Below.heap_setCell _ _ _ _ (by simp)]; exact hres4
end Go.Proofs.YtgipjjhkhfihpaaGreatDoor
