import Derived.Test.YtgipjjhkhfihpabGreatDoorAB
import Derived.Laws.AppendOwnNone
namespace Go.Proofs.YtgipjjhkhfihpabGreatDoor
open Go.RowKit

theorem Tryz.info109 : (Tryz.prog.info? 109).map (fun i => (i.zero, i.size, i.bytes)) = some (some (.agg #[.int .i64 0, .bool false]), 2, 16) := by kernel_rfl
theorem Tryz.info77 : (Tryz.prog.info? 77).map (fun i => (i.zero, i.size, i.bytes)) = some (some (.agg #[.int .i64 0, .int .i64 0]), 2, 16) := by kernel_rfl

def freeQ (q : QS) (k : Nat) : List Nat := ((List.range k).map (· + 1)).filter (fun v => !hasV q.vars v && inC q.cl v)
theorem freeQ_succ (q : QS) (k : Nat) : freeQ q (k + 1) = freeQ q k ++ (if !hasV q.vars (k + 1) && inC q.cl ((k + 1 : Nat) : Int) then [k + 1] else []) := by
  unfold freeQ
  rw [List.range_succ, List.map_append, List.filter_append]
  congr 1
  simp [List.filter_cons]
theorem freeQ_len (q : QS) (k : Nat) : (freeQ q k).length ≤ k := by
  unfold freeQ
  refine Nat.le_trans (List.length_filter_le _ _) ?_
  simp
def exv (l : List Nat) : List (Nat × Bool) := l.map (fun v => (v, false))
theorem exv_snoc (l : List Nat) (v : Nat) : exv (l ++ [v]) = exv l ++ [(v, false)] := by simp [exv]
theorem exv_length (l : List Nat) : (exv l).length = l.length := by simp [exv]

set_option maxRecDepth 100000 in
set_option maxHeartbeats 1600000 in
theorem withFree_any (base b : Nat) (q : QS) (vV vC : Value) (w : World) (hq : QInv base w b q vV vC) (hl : q.vars.length ≤ 1073741824) (hl2 : q.cl.length ≤ 1048576) (hcl : ∀ c ∈ q.cl, c.1 < 512 ∧ c.2 < 512) :
    Calls Tryz.prog 28 #[.pointer (some ⟨b, 0, none⟩)] w fun e w' =>
      ∃ v, e = .returned v ∧ w'.ownsRow w.heap.size 109 2 v (exv (freeQ q 8) ++ q.vars).length (varCells (exv (freeQ q 8) ++ q.vars)) ∧ Below w.heap.size w w' := by
  obtain ⟨i0, hi, hz0, hz1, hz2⟩ := info_parts Tryz.info109
  have HCL := hide hcl; clear hcl
  go_enter Tryz.func28, Tryz.ntmps28
  go_wp2_with fail
  go_loopg [3, 4] 9 (fun n v i wx => ∃ k : Nat, i = .int .i64 (k + 1) ∧ k + n = 9 ∧ 1 ≤ n ∧ wx.ownsRow w.heap.size 109 2 v (exv (freeQ q k)).length (varCells (exv (freeQ q k))) ∧ Below w.heap.size w wx)
  case atStart => exact ⟨0, rfl, by omega, by omega, World.ownsRow_nil _ _ _ _, Below.refl _ _⟩
  case round =>
    obtain ⟨k, rfl, hk, hn, hown, hb⟩ := hrel
    have hbs := hb.size
    have hfl := freeQ_len q k
    have hel := exv_length (freeQ q k)
    have HEL := hide hel; clear hel
    by_cases hlt : k < 8
    · have hd8 : decide ((k : Int) + 1 ≤ 8) = true := by simp; omega
      have hj1 : ((k : Int) + 1) = ((k + 1 : Nat) : Int) := by omega
      have HJ := hide hj1; clear hj1
      have HFS := hide (freeQ_succ q k)
      go_wp2_with fail
      rw [unhide HJ]
      refine (find_any base b q.vars vV (k + 1) wr (by rw [blk_cell (hq.later hb).fb]; rfl) (hq.later hb).oV hl).mono ?_
      rintro e w2 ⟨hb2, rfl⟩
      rw [hasV_find]
      generalize (findV q.vars (k + 1)).getD (0, false) = fx
      have hb2' : Below w.heap.size w (w2.alloc (.cells #[.int .i64 (fx.1 : Nat), .bool fx.2] 109)) := (hb.trans (hb2.mono hbs)).alloc (Nat.le_trans hbs hb2.size) _
      have hown2 := (own_below hown hb2).alloc (.cells #[.int .i64 (fx.1 : Nat), .bool fx.2] 109)
      cases hh : hasV q.vars (k + 1) with
      | true =>
        go_wp2_with fail
        go_roundg (gk - 1)
        case measure => omega
        case rel => exact ⟨k + 1, by go_num, by omega, by omega, by rw [unhide HFS, hh]; simpa using hown2, hb2'⟩
      | false =>
        go_wp2_with fail
        refine (qin_any base b q vV vC ((k + 1 : Nat) : Int) _ (hq.later hb2') hl2 (unhide HCL)).mono ?_
        rintro e w3 ⟨rfl, hb3⟩
        have hb3' : Below w.heap.size w w3 := hb2'.trans (hb3.mono hb2'.size)
        have hown3 := own_below hown2 hb3
        have hbs3 := hb3'.size
        cases hc : inC q.cl ((k + 1 : Nat) : Int) with
        | true =>
          have hbd : (exv (freeQ q k)).length ≤ 8 := by have := unhide HEL; omega
          go_wp2_with (at_builtin; refine wpList_append_new rfl _ _ 41 rfl w.heap.size i0 (.agg #[.int .i64 0, .bool false]) 2 16 Tryz.underlying41 hi hz0 hz1 hz2 rfl (by decide) _ _ _ hown3 rfl rfl rfl (by simp [Value.oneCell']) (by unfold maxLen; omega) (by omega) hbs3 ?_; intro v' w4 hown4 hgrow hnn)
          go_roundg (gk - 1)
          case measure => omega
          case rel =>
            refine ⟨k + 1, by go_num, by omega, by omega, ?_, below_grown hb3' hgrow hown3 (Nat.le_refl _) hbs3⟩
            rw [unhide HFS, hh, hc, show (if (!false && true) = true then [k + 1] else []) = [k + 1] from rfl, exv_snoc, varCells_snoc]
            simpa using hown4
        | false =>
          go_wp2_with fail
          go_roundg (gk - 1)
          case measure => omega
          case rel => exact ⟨k + 1, by go_num, by omega, by omega, by rw [unhide HFS, hh, hc]; simpa using hown3, hb3'⟩
    · have hk8 : k = 8 := by omega
      subst hk8
      have hq2 := hq.later hb
      have hc0 : wr.cell? ⟨b, 0, none⟩ = some vV := by rw [blk_cell hq2.fb]; rfl
      have hbd : (exv (freeQ q 8)).length ≤ 8 := by have := unhide HEL; omega
      rcases hq2.oV.2 with ⟨rfl, h0⟩ | ⟨g, cap, cur, rfl, hbg, hg, hnc, hcm, hcs, htake⟩
      · have HV : Hid (q.vars = []) := hide (List.eq_nil_of_length_eq_zero h0)
        clear h0
        go_wp2_with (at_builtin; refine wpList_append_own_none rfl _ _ 41 rfl w.heap.size 109 i0 2 Tryz.underlying41 hi _ _ _ rfl hown rfl ?_)
        go_ret
        exact ⟨_, rfl, by rw [unhide HV]; simpa using hown, hb⟩
      · have hcells : ∀ j u, (varCells q.vars)[j]? = some u → wr.cell? ((⟨g, 0, none⟩ : Addr).add j) = some u := hq2.oV.cells rfl
        have HN : Hid ((varCells q.vars).length = q.vars.length * 2) := hide (varCells_length _)
        have H1 : Hid (∀ u ∈ varCells q.vars, u.oneCell' = true) := hide (by
          intro u hu
          unfold varCells at hu
          rw [List.mem_flatMap] at hu
          obtain ⟨x, _, hx⟩ := hu
          simp at hx
          rcases hx with rfl | rfl <;> rfl)
        have HCE := hide hcells
        clear hcells htake hcs hcm
        go_wp2_with (at_builtin; refine wpList_append_own _ rfl _ _ 41 rfl w.heap.size 109 i0 (.agg #[.int .i64 0, .bool false]) 2 16 Tryz.underlying41 hi hz0 hz1 hz2 rfl (by decide) _ _ _ rfl hown ⟨g, 0, none⟩ q.vars.length cap (varCells q.vars) rfl (unhide HN) (unhide HCE) (unhide H1) (by unfold maxLen; omega) (by omega) hbs ?_; intro v' w4 hown4 hgrow hnn)
        go_ret
        refine ⟨_, rfl, ?_, below_grown hb hgrow hown (Nat.le_refl _) hbs⟩
        have e : varCells (exv (freeQ q 8) ++ q.vars) = varCells (exv (freeQ q 8)) ++ varCells q.vars := by simp [varCells]
        rw [e, List.length_append]
        exact hown4
end Go.Proofs.YtgipjjhkhfihpabGreatDoor

namespace Go.Proofs.YtgipjjhkhfihpabGreatDoor
open Go.RowKit

/-- The same, where the walk writes the new block's number in another way. -/
theorem wpList_append_new' {P : Program} {ops : Array Oper} {rest : List Oper} {o : Oper} {a : Act} {Q : Exit → Act → World → Prop} {w : World} {news : List Value} {e : TypeId} (hgd : o.guard = none) (s x : Operand) (t : TypeId)
    (ho : o.op = .call { callee := .builtin .append, args := #[s, x], argTypes := #[t, t] })
    (base : Nat) (i : TypeInfo) (z : Value) (size bytes : Nat) (ht : P.underlying t = some (.slice e)) (hi : P.info? e = some i) (hz : i.zero = some z)
    (hsize : i.size = size) (hby : i.bytes = bytes) (hzs : z.cells.size = size) (hsz : 0 < size)
    (v : Value) (n : Nat) (xs : List Value) (hown : w.ownsRow base e size v n xs) (hs : a.eval s = v)
    (m : Nat) (hx : a.eval x = .slice (some ⟨m, 0, none⟩) 1 1) (hm : m = w.heap.size) (hl : news.length = size) (h1 : ∀ u ∈ news, u.oneCell' = true)
    (h63 : n + 1 ≤ maxLen) (hbytes : (n + 1) * bytes ≤ 140737488355328) (hbase : base ≤ w.heap.size)
    (h : ∀ v' w', w'.ownsRow base e size v' (n + 1) (xs ++ news) → w.grownBy w' v.ownBlock → (v' ≠ .slice none 0 0) → wpList P ops Q rest (a.put o.dst v') w') : wpList P ops Q (o :: rest) a (w.alloc (.cells news.toArray e)) := by
  subst hm
  exact wpList_append_new hgd s x t ho base i z size bytes ht hi hz hsize hby hzs hsz v n xs hown hs hx hl h1 h63 hbytes hbase h

/-- Strings lie at an address. -/
def StrsAt (w : World) (ao : Option Addr) (ws : List (List UInt8)) : Prop :=
  ws ≠ [] → ∃ g off cur, ao = some ⟨g, off, none⟩ ∧ w.heap[g]? = some (.cells cur 9 (0, 0)) ∧ ∀ j (hj : j < ws.length), cur[off + j]? = some (S ws[j])
/-- Blocks of strings are as they were. -/
def KeepsS (w w' : World) : Prop := ∀ (g : Nat) (cur : Array Value), w.heap[g]? = some (.cells cur 9 (0, 0)) → w'.heap[g]? = some (.cells cur 9 (0, 0))
theorem KeepsS.trans {a b c : World} (h : KeepsS a b) (k : KeepsS b c) : KeepsS a c := fun g cur hg => k g cur (h g cur hg)
theorem KeepsS.of_below {a b : World} (h : Below a.heap.size a b) : KeepsS a b := fun g _ hg => (h.block g (blk_lt hg)).trans hg
theorem KeepsS.of_set {w : World} {b o : Nat} {c : Array Value} {t : TypeId} {fr : Nat × Nat} {u : Value} (h : w.heap[b]? = some (.cells c t fr)) (ht : t ≠ 9) : KeepsS w (w.setCell ⟨b, o, none⟩ u) := fun g cur hg => by
  rw [Below.heap_setCell _ _ _ _ (fun e => by subst e; rw [hg] at h; simp at h; exact ht h.2.1.symm)]; exact hg
theorem KeepsS.of_grown {w w' : World} {v : Value} {base n size : Nat} {e : TypeId} {xs : List Value} (hg : w.grownBy w' v.ownBlock) (ho : w.ownsRow base e size v n xs) (he : e ≠ 9) : KeepsS w w' := fun g cur hgc => by
  rw [hg.block g (blk_lt hgc) (fun eq => by
    rcases ho.2 with ⟨rfl, _⟩ | ⟨g', cap, cur', rfl, _, hh, _⟩
    · simp [Value.ownBlock] at eq
    · simp [Value.ownBlock] at eq
      subst eq
      rw [hgc] at hh
      simp at hh
      exact he hh.2.symm)]
  exact hgc
theorem StrsAt.keep {w w' : World} {ao : Option Addr} {ws : List (List UInt8)} (h : StrsAt w ao ws) (k : KeepsS w w') : StrsAt w' ao ws := fun hne => by
  obtain ⟨g, off, cur, h1, h2, h3⟩ := h hne
  exact ⟨g, off, cur, h1, k g cur h2, h3⟩

theorem QInv.push_cl {wr wp w' : World} {bq base : Nat} {q : QS} {vV vC v' : Value} {p n : Nat} (hbq : bq < base) (h : QInv base wr bq q vV vC) (hp : Below wr.heap.size wr wp) (hg : wp.grownBy w' vC.ownBlock)
    (hown : w'.ownsRow base 77 2 v' (q.cl.length + 1) (pairs q.cl ++ [.int .i64 (p : Int), .int .i64 (n : Int)])) :
    w'.heap[bq]? = some (.cells #[vV, vC] 44 (0, 0)) ∧ QInv base (w'.setCell ⟨bq, 1, none⟩ v') bq { q with cl := q.cl ++ [(p, n)] } vV v' := by
  have hlt := h.oC.lt
  have hbf := blk_lt h.fb
  have hfb : w'.heap[bq]? = some (.cells #[vV, vC] 44 (0, 0)) := by
    rw [hg.block bq (Nat.lt_of_lt_of_le hbf hp.size) (fun e => by have := hlt bq e.symm; omega), hp.block bq hbf]; exact h.fb
  refine ⟨hfb, blk_set hfb 1 v', ?_, ?_⟩
  · exact ownsRow_setCell_below (own_kept h.oV hp h.oC hg (by decide)) (a := ⟨bq, 1, none⟩) hbq v'
  · have := ownsRow_setCell_below hown (a := ⟨bq, 1, none⟩) hbq v'
    rw [← pairs_snoc q.cl (p, n)] at this
    simpa using this
theorem QInv.push_var {wr wp w' : World} {bq base : Nat} {q : QS} {vV vC v' : Value} {x : Nat × Bool} (hbq : bq < base) (h : QInv base wr bq q vV vC) (hp : Below wr.heap.size wr wp) (hg : wp.grownBy w' vV.ownBlock)
    (hown : w'.ownsRow base 109 2 v' (q.vars.length + 1) (varCells q.vars ++ [.int .i64 (x.1 : Int), .bool x.2])) :
    w'.heap[bq]? = some (.cells #[vV, vC] 44 (0, 0)) ∧ QInv base (w'.setCell ⟨bq, 0, none⟩ v') bq { q with vars := q.vars ++ [x] } v' vC := by
  have hlt := h.oV.lt
  have hbf := blk_lt h.fb
  have hfb : w'.heap[bq]? = some (.cells #[vV, vC] 44 (0, 0)) := by
    rw [hg.block bq (Nat.lt_of_lt_of_le hbf hp.size) (fun e => by have := hlt bq e.symm; omega), hp.block bq hbf]; exact h.fb
  refine ⟨hfb, blk_set hfb 0 v', ?_, ?_⟩
  · have := ownsRow_setCell_below hown (a := ⟨bq, 0, none⟩) hbq v'
    rw [← varCells_snoc q.vars x] at this
    simpa using this
  · exact ownsRow_setCell_below (own_kept h.oC hp h.oV hg (by decide)) (a := ⟨bq, 0, none⟩) hbq v'

/-! ### readClause -/
def clTo : (Nat × Nat) → List (List UInt8) → Option (Nat × Nat)
  | c, [] => some c
  | c, w :: ws => if litGood w then clTo (withLit c (litNum w)) ws else none
theorem litNum_bd (w : List UInt8) : -8 ≤ litNum w ∧ litNum w ≤ 8 := by
  have h1 := dig_bd w; have h2 := dig_bd w.tail
  unfold litNum; split <;> omega
theorem withLit_lt (c : Nat × Nat) (x : Int) (h1 : c.1 < 512) (h2 : c.2 < 512) : (withLit c x).1 < 512 ∧ (withLit c x).2 < 512 := by
  unfold withLit; split
  · exact ⟨h1, or_lt _ _ h2 (bitOf_lt _)⟩
  · exact ⟨or_lt _ _ h1 (bitOf_lt _), h2⟩
def ClPost (bq : Nat) (q : QS) (vV : Value) (ws : List (List UInt8)) (w : World) (e : Ending) (w' : World) : Prop :=
  Below bq w w' ∧ match clTo (0, 0) ws with
    | none => e = .returned (.bool false)
    | some c => e = .returned (.bool true) ∧ ∃ vC', QInv (bq + 1) w' bq { q with cl := q.cl ++ [c] } vV vC'

set_option maxRecDepth 100000 in
set_option maxHeartbeats 1600000 in
theorem readClause_any (bq : Nat) (q : QS) (vV vC : Value) (ws : List (List UInt8)) (ao : Option Addr) (cap : Nat) (w : World) (hq : QInv (bq + 1) w bq q vV vC) (hs : StrsAt w ao ws)
    (hl : ws.length ≤ 1048576) (hws : ∀ x ∈ ws, x.length ≤ 1048576) (hcl : q.cl.length ≤ 1048576) :
    Calls Tryz.prog 45 #[.pointer (some ⟨bq, 0, none⟩), .slice ao ws.length cap] w fun e w' => ClPost bq q vV ws w e w' := by
  have hbq := blk_lt hq.fb
  have HWS := hide hws; clear hws
  go_enter Tryz.func45, Tryz.ntmps45
  go_wp2_with fail
  go_loopg [13] (ws.length) (fun n i wx => ∃ (j p m : Nat), i = .int .i64 j ∧ j + n = ws.length ∧ p < 512 ∧ m < 512 ∧ clTo (0, 0) ws = clTo (p, m) (ws.drop j) ∧ Below w.heap.size w wx ∧
     wx.heap[w.heap.size]? = some (.cells #[.int .i64 p, .int .i64 m] 77 (0, 0)))
  case atStart => exact ⟨0, 0, 0, rfl, by omega, by omega, by omega, rfl, (Below.refl _ _).alloc (Nat.le_refl _) _, heap_alloc_new _ _⟩
  case round =>
    obtain ⟨j, p, m, rfl, hj, hp, hm, hto, hb, hbc⟩ := hrel
    have hbs : w.heap.size < wr.heap.size := blk_lt hbc
    have hp0 : wr.cell? ⟨w.heap.size, 0, none⟩ = some (.int .i64 p) := by rw [blk_cell hbc]; rfl
    have hp1 : wr.cell? ⟨w.heap.size, 1, none⟩ = some (.int .i64 m) := by rw [blk_cell hbc]; rfl
    by_cases hlt : j < ws.length
    · obtain ⟨g, off, cur, rfl, hg, hcur⟩ := hs (by intro e; subst e; simp at hlt)
      have hcj : wr.cell? ⟨g, off + j, none⟩ = some (S ws[j]) := by
        rw [hb.cell (p := ⟨g, off + j, none⟩) (blk_lt hg), blk_cell hg]; exact hcur j hlt
      have hwl := unhide HWS _ (List.getElem_mem hlt)
      rw [List.drop_eq_getElem_cons hlt, clTo] at hto
      have HTO := hide hto; clear hto hcur
      obtain ⟨n0, n1⟩ := litNum_bd ws[j]
      go_wp2_with fail
      refine (wliteral_any ws[j] wr hwl).mono ?_
      rintro e w2 ⟨hw2, rfl⟩
      subst hw2
      cases hgd : litGood ws[j] with
      | false =>
        have HF : Hid (clTo (0, 0) ws = none) := hide (by rw [unhide HTO, hgd, if_neg (by decide)])
        go_wp2_with fail
        go_ret
        exact ⟨hb.mono (by omega), by rw [unhide HF]; rfl⟩
      | true =>
        have HF : Hid (clTo (0, 0) ws = clTo (withLit (p, m) (litNum ws[j])) (ws.drop (j + 1))) := hide (by rw [unhide HTO, hgd, if_pos rfl])
        have hwl2 := withLit_lt (p, m) (litNum ws[j]) hp hm
        go_wp2_with fail
        refine (with_any p m (litNum ws[j]) w2 hp hm (by omega) (by omega)).mono ?_
        rintro e w3 ⟨rfl, hb3⟩
        have hb4 : Below w.heap.size w w3 := hb.trans (hb3.mono (by omega))
        have hbc3 := (hb3.block _ hbs).trans hbc
        have hq0 : w3.cell? ⟨w.heap.size, 0, none⟩ = some (.int .i64 p) := by rw [blk_cell hbc3]; rfl
        have hq1 : w3.cell? ⟨w.heap.size, 1, none⟩ = some (.int .i64 m) := by rw [blk_cell hbc3]; rfl
        have hz0 := blk_free hbc3 0
        have hz1 := blk_free hbc3 1
        generalize withLit (p, m) (litNum ws[j]) = c at *
        obtain ⟨p', m'⟩ := c
        go_wp2_with fail
        go_roundg (gk - 1)
        case measure => omega
        case rel =>
          refine ⟨j + 1, p', m', by go_num, by omega, hwl2.1, hwl2.2, unhide HF, (hb4.setCell (p := ⟨w.heap.size, 0, none⟩) (Nat.le_refl _) _).setCell (p := ⟨w.heap.size, 1, none⟩) (Nat.le_refl _) _, ?_⟩
          exact blk_set (blk_set hbc3 0 _) 1 _
    · have hjl : j = ws.length := by omega
      subst hjl
      rw [List.drop_length] at hto
      have HF : Hid (clTo (0, 0) ws = some (p, m)) := hide hto
      clear hto
      have hq3 := hq.later hb
      have hf3 : wr.cell? ⟨bq, 1, none⟩ = some vC := by rw [blk_cell hq3.fb]; rfl
      have hfz := blk_free hq3.fb 1
      have hbqw : bq < wr.heap.size := by omega
      have hapc : vC.ownBlock ≠ some w.heap.size := fun e => by have := hq.oC.lt _ e; omega
      obtain ⟨i1, hi1, hz10, hz11, hz12⟩ := info_parts Tryz.info77
      go_wp2_with fail
      go_region_law (refine step_append_own rfl (.tmp 32) (.tmp 34) 42 rfl (bq + 1) 77 i1 (.agg #[.int .i64 0, .int .i64 0]) 2 16 Tryz.underlying42 hi1 hz10 hz11 hz12 rfl (by decide) vC q.cl.length (pairs q.cl) (hq3.oC.alloc _).drew rfl ⟨wr.heap.size, 0, none⟩ 1 1 [.int .i64 p, .int .i64 m] rfl rfl (new_cells wr [.int .i64 p, .int .i64 m] 77) (by simp [Value.oneCell']) (by unfold maxLen; omega) (by omega) (by simp; omega) ?_; intro v' w' hown' hgrow hnn; obtain ⟨hfb', hJ⟩ := hq3.push_cl (Nat.lt_succ_self bq) (((Below.refl _ wr).alloc (Nat.le_refl _) _).drew) hgrow hown'; have hbel : Below bq w w' := ((hb.mono (Nat.le_of_lt hbq)).trans ((((Below.refl wr.heap.size wr).alloc (Nat.le_refl _) _).drew).mono (Nat.le_of_lt hbqw))).grown hgrow (by simp; omega) (fun k hk => (by have := (hq3.oC.lt k hk).1; omega)); obtain ⟨g3, cap3, rfl, hg3, hg3', hcap3, hcell3⟩ := own_pos hown' (by omega); have hq3' : w'.cell? ⟨bq, 1, none⟩ = some vC := (by rw [blk_cell hfb']; rfl); have hqz := blk_free hfb' 1)
      all_goals
        go_wp2_with fail
        go_ret
        refine ⟨hbel.setCell (p := ⟨bq, 1, none⟩) (Nat.le_refl _) _, ?_⟩
        rw [unhide HF]
        exact ⟨rfl, _, hJ⟩

/-! ### readPrefix -/
def badVar (vs : List (Nat × Bool)) (w : List UInt8) : Bool := !decide (0 < dig w) || hasV vs (dig w).toNat
def prefTo (u : Bool) : List (Nat × Bool) → List (List UInt8) → Option (List (Nat × Bool))
  | vs, [] => some vs
  | vs, w :: ws => if badVar vs w then none else prefTo u (vs ++ [((dig w).toNat, u)]) ws
def qPrefix (q : QS) (ws : List (List UInt8)) (u : Bool) : Option (List (Nat × Bool)) := if ws = [] ∨ q.cl ≠ [] then none else prefTo u q.vars ws
def PrefPost (bq : Nat) (q : QS) (vC : Value) (ws : List (List UInt8)) (u : Bool) (w : World) (e : Ending) (w' : World) : Prop :=
  Below bq w w' ∧ match qPrefix q ws u with
    | none => e = .returned (.bool false)
    | some vs => e = .returned (.bool true) ∧ ∃ vV', QInv (bq + 1) w' bq { q with vars := vs } vV' vC

set_option maxRecDepth 100000 in
set_option maxHeartbeats 1600000 in
theorem readPrefix_any (bq : Nat) (q : QS) (vV vC : Value) (ws : List (List UInt8)) (u : Bool) (ao : Option Addr) (cap : Nat) (w : World) (hq : QInv (bq + 1) w bq q vV vC) (hs : StrsAt w ao ws)
    (hl : ws.length ≤ 524288) (hws : ∀ x ∈ ws, x.length ≤ 1048576) (hvl : q.vars.length ≤ 536870912) (_hcl : q.cl.length ≤ 1048576) :
    Calls Tryz.prog 44 #[.pointer (some ⟨bq, 0, none⟩), .slice ao ws.length cap, .bool u] w fun e w' => PrefPost bq q vC ws u w e w' := by
  have hbq := blk_lt hq.fb
  have HWS := hide hws; clear hws
  have hf1 : w.cell? ⟨bq, 1, none⟩ = some vC := by rw [blk_cell hq.fb]; rfl
  obtain ⟨aC, cC, rfl⟩ := own_form hq.oC
  by_cases hnil : ws = []
  · subst hnil
    have HF : Hid (qPrefix q [] u = none) := hide (by unfold qPrefix; rw [if_pos (Or.inl rfl)])
    go_enter Tryz.func44, Tryz.ntmps44
    go_wp2_with fail
    go_ret
    exact ⟨Below.refl _ _, by rw [unhide HF]; rfl⟩
  have hwl0 : 0 < ws.length := List.length_pos_iff.2 hnil
  have hwb : ((ws.length : Int) == 0) = false := by rw [beq_eq_false_iff_ne]; omega
  by_cases hcn : q.cl = []
  · have hcb : decide (0 < q.cl.length) = false := by rw [hcn]; rfl
    have HF : Hid (qPrefix q ws u = prefTo u q.vars ws) := hide (by unfold qPrefix; rw [if_neg (by rintro (h | h); exact hnil h; exact h hcn)])
    obtain ⟨g, off, cur, rfl, hg, hcur⟩ := hs hnil
    have HS := hide hs
    have HCN := hide hcn
    clear hnil hcn
    obtain ⟨i0, hi, hz0, hz1, hz2⟩ := info_parts Tryz.info109
    go_enter Tryz.func44, Tryz.ntmps44
    go_wp2_with fail
    go_loopg [26] (ws.length) (fun n i wx => ∃ (j : Nat) (vs : List (Nat × Bool)) (vV : Value), i = .int .i64 j ∧ j + n = ws.length ∧ vs.length = q.vars.length + j ∧ prefTo u q.vars ws = prefTo u vs (ws.drop j) ∧ Below bq w wx ∧
      QInv (bq + 1) wx bq { q with vars := vs } vV (.slice aC q.cl.length cC) ∧ KeepsS w wx)
    case atStart => exact ⟨0, q.vars, vV, rfl, by omega, rfl, rfl, Below.refl _ _, hq, fun _ _ h => h⟩
    case round =>
      obtain ⟨j, vs, vV, rfl, hj, hvl2, hto, hb, hqx, hk⟩ := hrel
      have HVL := hide hvl2
      have hvl3 : vs.length ≤ 1073741824 := by omega
      clear hvl2
      by_cases hlt : j < ws.length
      · have hcj : wr.cell? ⟨g, off + j, none⟩ = some (S ws[j]) := by
          rw [blk_cell (hk g cur hg)]; exact hcur j hlt
        have hwl := unhide HWS _ (List.getElem_mem hlt)
        rw [List.drop_eq_getElem_cons hlt, prefTo] at hto
        have HTO := hide hto; clear hto
        obtain ⟨d0, d1⟩ := dig_bd ws[j]
        obtain ⟨dn, hdn⟩ := Int.eq_ofNat_of_zero_le d0
        have HBV : Hid (badVar vs ws[j] = (!decide (0 < dn) || hasV vs dn)) := hide (by unfold badVar; rw [hdn]; simp)
        have HDN : Hid ((dig ws[j]).toNat = dn) := hide (by rw [hdn]; simp)
        go_wp2_with fail
        refine (variable_any ws[j] wr hwl).mono ?_
        rintro e w2 ⟨hw2, rfl⟩
        subst hw2
        rw [hdn]
        have hdn8 : dn ≤ 8 := by omega
        clear hdn d0 d1
        by_cases hz : dn = 0
        · have hdz : decide (0 < dn) = false := by simp; omega
          have HN : Hid (prefTo u q.vars ws = none) := hide (by rw [unhide HTO, unhide HBV, hz]; rfl)
          clear hz
          go_wp2_with fail
          go_ret
          exact ⟨hb, by rw [unhide HF, unhide HN]; rfl⟩
        · have hdz : decide (0 < dn) = true := by simp; omega
          have HZ : Hid (decide (0 < dn) = true) := hide (by simp; omega)
          clear hz
          go_wp2_with fail
          refine (find_any (bq + 1) bq vs vV dn w2 (by rw [blk_cell hqx.fb]; rfl) hqx.oV hvl3).mono ?_
          rintro e w3 ⟨hb3, rfl⟩
          rw [hasV_find]
          generalize (findV vs dn).getD (0, false) = fx
          have hb3a : Below w2.heap.size w2 (w3.alloc (.cells #[.int .i64 (fx.1 : Nat), .bool fx.2] 109)) := hb3.alloc hb3.size _
          have hqy := hqx.later hb3a
          have hbq2 : bq < w2.heap.size := blk_lt hqx.fb
          have hbq3 : bq < w3.heap.size := Nat.lt_of_lt_of_le hbq2 hb3.size
          have hby : Below bq w (w3.alloc (.cells #[.int .i64 (fx.1 : Nat), .bool fx.2] 109)) := hb.trans (hb3a.mono (Nat.le_of_lt hbq2))
          have hky := hk.trans (KeepsS.of_below hb3a)
          dsimp only
          cases hh : hasV vs dn with
          | true =>
            have HN : Hid (prefTo u q.vars ws = none) := hide (by rw [unhide HTO, unhide HBV, hh]; simp)
            go_wp2_with fail
            go_ret
            exact ⟨hby, by rw [unhide HF, unhide HN]; rfl⟩
          | false =>
            have HN : Hid (prefTo u q.vars ws = prefTo u (vs ++ [(dn, u)]) (ws.drop (j + 1))) := hide (by rw [unhide HTO, unhide HBV, hh, unhide HZ, unhide HDN]; rfl)
            have hf0 : w3.cell? ⟨bq, 0, none⟩ = some vV := by rw [blk_cell (hqx.later hb3).fb]; rfl
            have hbs : bq + 1 ≤ (w3.alloc (.cells #[.int .i64 (fx.1 : Nat), .bool fx.2] 109)).heap.size := blk_lt hqy.fb
            go_wp2_with (at_builtin; refine wpList_append_new' rfl (.tmp 48) (.tmp 52) 41 rfl (bq + 1) i0 (.agg #[.int .i64 0, .bool false]) 2 16 Tryz.underlying41 hi hz0 hz1 hz2 rfl (by decide) _ _ _ hqy.oV rfl _ rfl (by simp) rfl (by simp [Value.oneCell']) (by unfold maxLen; dsimp only; omega) (by dsimp only; omega) hbs ?_; intro v' w4 hown4 hgrow hnn; obtain ⟨hfb', hJ⟩ := hqy.push_var (x := (dn, u)) (Nat.lt_succ_self bq) (Below.refl _ _) hgrow hown4; have hb5 : Below bq w w4 := hby.grown hgrow (by omega) (fun k hk => (by have := (hqy.oV.lt k hk).1; omega)); have hk5 := hky.trans (KeepsS.of_grown hgrow hqy.oV (by decide)); obtain ⟨g3, cap3, rfl, hg3, hg3', hcap3, hcell3⟩ := own_pos hown4 (by omega); have hq3' : w4.cell? ⟨bq, 0, none⟩ = some vV := (by rw [blk_cell hfb']; rfl); have hqz := blk_free hfb' 0)
            go_roundg (gk - 1)
            case measure => omega
            case rel =>
              exact ⟨j + 1, vs ++ [(dn, u)], _, by go_num, by omega, by have := unhide HVL; simp; omega, unhide HN, hb5.setCell (p := ⟨bq, 0, none⟩) (Nat.le_refl _) _, hJ, hk5.trans (KeepsS.of_set hfb' (by decide))⟩
      · have hjl : j = ws.length := by omega
        subst hjl
        rw [List.drop_length] at hto
        have HN : Hid (prefTo u q.vars ws = some vs) := hide hto
        clear hto
        go_wp2_with fail
        go_ret
        refine ⟨hb, ?_⟩
        rw [unhide HF, unhide HN]
        exact ⟨rfl, _, hqx⟩
  · have hcb : decide (0 < q.cl.length) = true := by
      have : 0 < q.cl.length := List.length_pos_iff.2 hcn
      simp; omega
    have HF : Hid (qPrefix q ws u = none) := hide (by unfold qPrefix; rw [if_pos (Or.inr hcn)])
    clear hnil hcn
    go_enter Tryz.func44, Tryz.ntmps44
    go_wp2_with fail
    go_ret
    exact ⟨Below.refl _ _, by rw [unhide HF]; rfl⟩
end Go.Proofs.YtgipjjhkhfihpabGreatDoor

namespace Go.Proofs.YtgipjjhkhfihpabGreatDoor
open Go.RowKit

def qOf (q : QS) (hd : List UInt8) (tl : List (List UInt8)) : Option QS :=
  if hd = [101] then (qPrefix q tl false).map (fun vs => { q with vars := vs })
  else if hd = [97] then (qPrefix q tl true).map (fun vs => { q with vars := vs })
  else if hd = [99] then (clTo (0, 0) tl).map (fun c => { q with cl := q.cl ++ [c] })
  else none
def qLine (q : QS) (line : List UInt8) : Option QS :=
  if splitOk line then (match cutAt 32 line with | [] => none | hd :: tl => qOf q hd tl) else none
theorem qLine_eq (q : QS) (line hd : List UInt8) (tl : List (List UInt8)) (h : cutAt 32 line = hd :: tl) (hs : splitOk line = true) : qLine q line = qOf q hd tl := by
  unfold qLine; rw [if_pos hs, h]
def LinePost (bq : Nat) (q : QS) (line : List UInt8) (w : World) (e : Ending) (w' : World) : Prop :=
  Below bq w w' ∧ match qLine q line with
    | none => e = .returned (.bool false)
    | some q' => e = .returned (.bool true) ∧ ∃ vV vC, QInv (bq + 1) w' bq q' vV vC

theorem line_of_pref {bq : Nat} {q : QS} {vC : Value} {tl : List (List UInt8)} {u : Bool} {line : List UInt8} {w w2 w3 : World} {e : Ending} (hb : Below w.heap.size w w2) (hbq : bq < w.heap.size) (hp : PrefPost bq q vC tl u w2 e w3)
    (hq : qLine q line = (qPrefix q tl u).map (fun vs => { q with vars := vs })) : LinePost bq q line w e w3 := by
  obtain ⟨h1, h2⟩ := hp
  refine ⟨(hb.mono (Nat.le_of_lt hbq)).trans h1, ?_⟩
  rw [hq]
  cases h : qPrefix q tl u with
  | none => rw [h] at h2; exact h2
  | some vs => rw [h] at h2; obtain ⟨h3, vV, h4⟩ := h2; exact ⟨h3, vV, vC, h4⟩
theorem line_of_cl {bq : Nat} {q : QS} {vV : Value} {tl : List (List UInt8)} {line : List UInt8} {w w2 w3 : World} {e : Ending} (hb : Below w.heap.size w w2) (hbq : bq < w.heap.size) (hp : ClPost bq q vV tl w2 e w3)
    (hq : qLine q line = (clTo (0, 0) tl).map (fun c => { q with cl := q.cl ++ [c] })) : LinePost bq q line w e w3 := by
  obtain ⟨h1, h2⟩ := hp
  refine ⟨(hb.mono (Nat.le_of_lt hbq)).trans h1, ?_⟩
  rw [hq]
  cases h : clTo (0, 0) tl with
  | none => rw [h] at h2; exact h2
  | some c => rw [h] at h2; obtain ⟨h3, vC, h4⟩ := h2; exact ⟨h3, vV, vC, h4⟩

theorem line_ret {bq : Nat} {q : QS} {line : List UInt8} {w w' : World} {e : Ending} (h : LinePost bq q line w e w') : ∃ b, e = .returned (.bool b) := by
  obtain ⟨_, h2⟩ := h
  cases hq : qLine q line with
  | none => rw [hq] at h2; exact ⟨_, h2⟩
  | some q' => rw [hq] at h2; exact ⟨_, h2.1⟩

set_option maxRecDepth 100000 in
set_option maxHeartbeats 1600000 in
theorem readLine_any (bq : Nat) (q : QS) (vV vC : Value) (line : List UInt8) (w : World) (hq : QInv (bq + 1) w bq q vV vC) (hl : line.length ≤ 2000) (hvl : q.vars.length ≤ 536870912) (hcl : q.cl.length ≤ 1048576) :
    Calls Tryz.prog 27 #[.pointer (some ⟨bq, 0, none⟩), .string ⟨line.toArray⟩] w fun e w' => LinePost bq q line w e w' := by
  have hbq := blk_lt hq.fb
  go_enter Tryz.func27, Tryz.ntmps27
  go_wp2_with fail
  refine (split_any line w (by omega)).mono ?_
  rintro e w2 ⟨hb, hsp⟩
  cases hok : splitOk line with
  | false =>
    rw [hok, if_neg (by decide)] at hsp
    subst hsp
    have HF : Hid (qLine q line = none) := hide (by unfold qLine; rw [hok]; rfl)
    go_wp2_with fail
    go_ret
    exact ⟨hb.mono (Nat.le_of_lt hbq), by rw [unhide HF]; rfl⟩
  | true =>
    rw [hok, if_pos rfl] at hsp
    obtain ⟨v, rfl, hown⟩ := hsp
    have hwl : (cutAt 32 line).length ≤ 2001 := by have := cutTo_size 32 line; simp [cutAt]; omega
    have hwl2 : ∀ x ∈ cutAt 32 line, x.length ≤ 1048576 := fun x hx => by have := cutAt_len 32 line x hx; omega
    obtain ⟨hd, tl, hws⟩ : ∃ hd tl, cutAt 32 line = hd :: tl := by
      cases h : cutAt 32 line with
      | nil => simp [cutAt] at h
      | cons a b => exact ⟨a, b, rfl⟩
    have HQ := hide (qLine_eq q line hd tl hws hok)
    rw [hws] at hown hwl hwl2
    clear hws hok
    rcases hown.2 with ⟨_, h0⟩ | ⟨g, cap, cur, rfl, hbg, hg, hnc, hcm, hcs, htake⟩
    · simp at h0
    simp only [List.length_cons] at hwl hnc
    have hc0 : w2.cell? ⟨g, 0, none⟩ = some (S hd) := by
      rw [hown.cellAt 0 (by simp)]; rfl
    have HST : Hid (∀ ao : Option Addr, (tl ≠ [] → ao = some ⟨g, 1, none⟩) → StrsAt w2 ao tl) := hide (fun ao ho hne => ⟨g, 1, cur, ho hne, hg, fun j hj => by
      have h1 := hown.cellAt (1 + j) (by simp; omega)
      rw [blk_cell hg] at h1
      rw [h1]
      simp [show 1 + j = j + 1 from by omega, hj]⟩)
    have HWL : Hid (∀ x ∈ tl, x.length ≤ 1048576) := hide (fun x hx => hwl2 x (List.mem_cons_of_mem _ hx))
    have hq2 := hq.later hb
    clear hwl2 htake hcs hcm hg
    simp only [List.length_cons]
    have hne0 : (((tl.length + 1 : Nat) : Int) == 0) = false := by rw [beq_eq_false_iff_ne]; omega
    by_cases he : hd = [101]
    · subst he
      have HR : Hid (qLine q line = (qPrefix q tl false).map (fun vs => { q with vars := vs })) := hide (by rw [unhide HQ]; rfl)
      go_wp2_with fail
      all_goals
        refine (readPrefix_any bq q vV vC tl false _ _ w2 hq2 (unhide HST _ (fun hne => by first | rfl | (exfalso; apply hne; exact List.eq_nil_of_length_eq_zero (by omega)))) (by omega) (unhide HWL) hvl hcl).mono ?_
        intro e w3 hp
        have hL := line_of_pref (line := line) hb hbq hp (unhide HR)
        obtain ⟨b, rfl⟩ := line_ret hL
        have HL := hide hL
        clear hp hL
        go_wp2_with fail
        go_ret
        exact unhide HL
    · have heb : (hd == [101]) = false := by simp [he]
      by_cases ha : hd = [97]
      · subst ha
        have HR : Hid (qLine q line = (qPrefix q tl true).map (fun vs => { q with vars := vs })) := hide (by rw [unhide HQ]; rfl)
        go_wp2_with fail
        all_goals
          refine (readPrefix_any bq q vV vC tl true _ _ w2 hq2 (unhide HST _ (fun hne => by first | rfl | (exfalso; apply hne; exact List.eq_nil_of_length_eq_zero (by omega)))) (by omega) (unhide HWL) hvl hcl).mono ?_
          intro e w3 hp
          have hL := line_of_pref (line := line) hb hbq hp (unhide HR)
          obtain ⟨b, rfl⟩ := line_ret hL
          have HL := hide hL
          clear hp hL
          go_wp2_with fail
          go_ret
          exact unhide HL
      · have hab : (hd == [97]) = false := by simp [ha]
        by_cases hc : hd = [99]
        · subst hc
          have HR : Hid (qLine q line = (clTo (0, 0) tl).map (fun c => { q with cl := q.cl ++ [c] })) := hide (by rw [unhide HQ]; rfl)
          go_wp2_with fail
          all_goals
            refine (readClause_any bq q vV vC tl _ _ w2 hq2 (unhide HST _ (fun hne => by first | rfl | (exfalso; apply hne; exact List.eq_nil_of_length_eq_zero (by omega)))) (by omega) (unhide HWL) hcl).mono ?_
            intro e w3 hp
            have hL := line_of_cl (line := line) hb hbq hp (unhide HR)
            obtain ⟨b, rfl⟩ := line_ret hL
            have HL := hide hL
            clear hp hL
            go_wp2_with fail
            go_ret
            exact unhide HL
        · have hcb : (hd == [99]) = false := by simp [hc]
          have HR : Hid (qLine q line = none) := hide (by rw [unhide HQ, qOf, if_neg he, if_neg ha, if_neg hc])
          clear he ha hc
          go_wp2_with fail
          all_goals
            go_ret
            exact ⟨hb.mono (Nat.le_of_lt hbq), by rw [unhide HR]; rfl⟩
end Go.Proofs.YtgipjjhkhfihpabGreatDoor

namespace Go.Proofs.YtgipjjhkhfihpabGreatDoor
open Go.RowKit

/-- Lines from the i-th on: what the program holds behind them, or the first line that is none. -/
def qRows : QS → Nat → List (List UInt8) → QS ⊕ Nat
  | q, _, [] => .inl q
  | q, i, r :: rs => match qLine q r with
    | none => .inr (i + 1)
    | some q' => qRows q' (i + 1) rs
def qFinish (q : QS) : QS := { q with vars := exv (freeQ q 8) ++ q.vars }
def loadSpec (l : List UInt8) : (Nat × Nat) ⊕ QS :=
  if 2000 < l.length then .inl (1, 0) else
  match qRows ⟨[], []⟩ 0 (cutTo 10 l).1 with
  | .inr i => .inl (2, i)
  | .inl q => if (cutTo 10 l).2 ≠ [] then .inl (2, (cutTo 10 l).1.length + 1) else if 24 < q.cl.length then .inl (3, 0) else .inr (qFinish q)

/-- What holds of the program's formula behind k lines. -/
structure QOk (q : QS) (k : Nat) : Prop where
  vl : q.vars.length ≤ 2001 * k
  ll : q.cl.length ≤ k
  cl : ∀ c ∈ q.cl, c.1 < 512 ∧ c.2 < 512
theorem prefTo_len (u : Bool) (ws : List (List UInt8)) : ∀ (vs vs' : List (Nat × Bool)), prefTo u vs ws = some vs' → vs'.length = vs.length + ws.length := by
  induction ws with
  | nil => intro vs vs' h; simp [prefTo] at h; subst h; rfl
  | cons w ws ih =>
    intro vs vs' h
    rw [prefTo] at h
    split at h
    · cases h
    · have := ih _ _ h
      simp at this ⊢; omega
theorem clTo_lt (ws : List (List UInt8)) : ∀ (c c' : Nat × Nat), c.1 < 512 → c.2 < 512 → clTo c ws = some c' → c'.1 < 512 ∧ c'.2 < 512 := by
  induction ws with
  | nil => intro c c' h1 h2 h; simp [clTo] at h; subst h; exact ⟨h1, h2⟩
  | cons w ws ih =>
    intro c c' h1 h2 h
    rw [clTo] at h
    split at h
    · have := withLit_lt c (litNum w) h1 h2
      exact ih _ _ this.1 this.2 h
    · cases h
theorem qLine_ok {q q' : QS} {k : Nat} {r : List UInt8} (hr : r.length ≤ 2000) (hq : QOk q k) (h : qLine q r = some q') : QOk q' (k + 1) := by
  unfold qLine at h
  split at h
  · split at h
    · cases h
    · next hd tl hws =>
      have hwl : (cutAt 32 r).length ≤ 2001 := by have := cutTo_size 32 r; simp [cutAt]; omega
      rw [hws] at hwl
      simp at hwl
      have hpre : ∀ u vs, qPrefix q tl u = some vs → vs.length ≤ 2001 * (k + 1) := by
        intro u vs hv
        unfold qPrefix at hv
        split at hv
        · cases hv
        · have := prefTo_len u tl _ _ hv
          have := hq.vl
          omega
      unfold qOf at h
      split at h
      · cases hp : qPrefix q tl false with
        | none => rw [hp] at h; cases h
        | some vs =>
          rw [hp] at h; simp at h; subst h
          exact ⟨hpre _ _ hp, Nat.le_succ_of_le hq.ll, hq.cl⟩
      · split at h
        · cases hp : qPrefix q tl true with
          | none => rw [hp] at h; cases h
          | some vs =>
            rw [hp] at h; simp at h; subst h
            exact ⟨hpre _ _ hp, Nat.le_succ_of_le hq.ll, hq.cl⟩
        · split at h
          · cases hp : clTo (0, 0) tl with
            | none => rw [hp] at h; cases h
            | some c =>
              rw [hp] at h; simp at h; subst h
              refine ⟨by have := hq.vl; dsimp only; omega, by have := hq.ll; simp; omega, ?_⟩
              intro c' hc'
              simp at hc'
              rcases hc' with hc' | hc'
              · exact hq.cl c' hc'
              · subst hc'; exact clTo_lt tl _ _ (by decide) (by decide) hp
          · cases h
  · cases h

def LoadPost (l : List UInt8) (w : World) (e : Ending) (w' : World) : Prop :=
  Below w.heap.size w w' ∧ match loadSpec l with
    | .inl (x, i) => e = .returned (.tuple #[.agg #[.slice none 0 0, .slice none 0 0], .int .i64 (x : Int), .int .i64 (i : Int)])
    | .inr q => ∃ vV vC, e = .returned (.tuple #[.agg #[vV, vC], .int .i64 0, .int .i64 0]) ∧ w'.ownsRow w.heap.size 109 2 vV q.vars.length (varCells q.vars) ∧ w'.ownsRow w.heap.size 77 2 vC q.cl.length (pairs q.cl)

set_option maxRecDepth 100000 in
set_option maxHeartbeats 1600000 in
theorem qload_any (l : List UInt8) (w : World) : Calls Tryz.prog 13 #[.string ⟨l.toArray⟩] w fun e w' => LoadPost l w e w' := by
  by_cases hlong : 2000 < l.length
  · have hd : decide ((2000 : Int) < (l.length : Int)) = true := by simp; omega
    have HF : Hid (loadSpec l = .inl (1, 0)) := hide (by unfold loadSpec; rw [if_pos hlong])
    clear hlong
    go_enter Tryz.func13, Tryz.ntmps13
    go_wp2_with fail
    refine bodyPost_ret (v := .tuple #[.agg #[.slice none 0 0, .slice none 0 0], .int .i64 1, .int .i64 0]) (by simp [results, Tryz.results13, go_sem]) rfl ⟨(Below.refl _ _).alloc (Nat.le_refl _) _, ?_⟩
    rw [unhide HF]; rfl
  · have hl : l.length ≤ 2000 := by omega
    have hd : decide ((2000 : Int) < (l.length : Int)) = false := by simp; omega
    have hdr := cutTo_size 10 l
    have HSP : Hid (loadSpec l = match qRows ⟨[], []⟩ 0 (cutTo 10 l).1 with
      | .inr i => .inl (2, i)
      | .inl q => if (cutTo 10 l).2 ≠ [] then .inl (2, (cutTo 10 l).1.length + 1) else if 24 < q.cl.length then .inl (3, 0) else .inr (qFinish q)) := hide (by unfold loadSpec; rw [if_neg hlong])
    clear hlong
    go_enter Tryz.func13, Tryz.ntmps13
    go_wp2_with fail
    refine (lines_any l _ (by omega)).mono ?_
    rintro e w1 ⟨v, rfl, hown, hb1⟩
    have hsz1 : w.heap.size < w1.heap.size := by have := hb1.size; simp at this; omega
    have hb0 : Below w.heap.size w w1 := ((Below.refl _ _).alloc (Nat.le_refl _) _).trans (hb1.mono (by simp))
    have hbr : w1.heap[w.heap.size]? = some (.cells #[.slice none 0 0, .slice none 0 0] 44 (0, 0)) := by
      rw [hb1.block _ (by simp)]; exact heap_alloc_new _ _
    have HRL : Hid (∀ r ∈ (cutTo 10 l).1, r.length ≤ 2000) := hide (fun r hr => by
      have := cutAt_len 10 l r (by unfold cutAt; exact List.mem_append_left _ hr); omega)
    generalize hrows : (cutTo 10 l).1 = rows at *
    obtain ⟨aL, cL, rfl⟩ := own_form hown
    obtain ⟨ended, hended⟩ : ∃ b, decide ((cutTo 10 l).2 = []) = b := ⟨_, rfl⟩
    rw [hended]
    have HE := hide hended
    clear hended hrows
    have hown1 := own_lo (lo := 0) hown (Nat.zero_le _)
    clear hown
    have hrows2 : rows.length ≤ 2000 := by omega
    clear hdr
    go_wp2_with fail
    go_loopg [22] (rows.length) (fun n i wx => ∃ (k : Nat) (q : QS) (vV vC : Value), i = .int .i64 k ∧ k + n = rows.length ∧ QOk q k ∧ QInv (w1.heap.size + 1) wx w1.heap.size q vV vC ∧ Below w1.heap.size w1 wx ∧ qRows ⟨[], []⟩ 0 rows = qRows q k (rows.drop k))
    case atStart =>
      exact ⟨0, ⟨[], []⟩, _, _, rfl, by omega, ⟨by simp, by simp, by simp⟩, ⟨heap_alloc_new _ _, World.ownsRow_nil _ _ _ _, World.ownsRow_nil _ _ _ _⟩, (Below.refl _ _).alloc (Nat.le_refl _) _, rfl⟩
    case round =>
      obtain ⟨k, q, vV, vC, rfl, hk, hqo, hqi, hbx, hrr⟩ := hrel
      have hvl := hqo.vl
      have hll := hqo.ll
      have hbrx : wr.heap[w.heap.size]? = some (.cells #[.slice none 0 0, .slice none 0 0] 44 (0, 0)) := (hbx.block _ hsz1).trans hbr
      have hr0 : wr.cell? ⟨w.heap.size, 0, none⟩ = some (.slice none 0 0) := by rw [blk_cell hbrx]; rfl
      have hr1 : wr.cell? ⟨w.heap.size, 1, none⟩ = some (.slice none 0 0) := by rw [blk_cell hbrx]; rfl
      by_cases hlt : k < rows.length
      · obtain ⟨g, cap, hV, hg, hg', _, hcell⟩ := own_pos hown1 (by omega)
        injection hV with hV _ hV2
        subst hV hV2
        have hcj : wr.cell? ⟨g, k, none⟩ = some (S rows[k]) := by
          rw [hbx.cell (p := ⟨g, k, none⟩) hg']; exact hcell k _ (by simp [hlt])
        have hrl := unhide HRL _ (List.getElem_mem hlt)
        rw [List.drop_eq_getElem_cons hlt, qRows] at hrr
        have HRR := hide hrr; clear hrr hcell
        go_wp2_with fail
        refine (readLine_any w1.heap.size q vV vC rows[k] wr hqi hrl (by omega) (by omega)).mono ?_
        rintro e w2 ⟨hb2, hp⟩
        have hb3 : Below w1.heap.size w1 w2 := hbx.trans hb2
        cases hq : qLine q rows[k] with
        | none =>
          rw [hq] at hp
          have hp' : e = .returned (.bool false) := hp
          subst hp'
          have HF : Hid (loadSpec l = .inl (2, k + 1)) := hide (by rw [unhide HSP, unhide HRR, hq])
          have hbr2 : w2.heap[w.heap.size]? = some (.cells #[.slice none 0 0, .slice none 0 0] 44 (0, 0)) := (hb3.block _ hsz1).trans hbr
          have hs0 : w2.cell? ⟨w.heap.size, 0, none⟩ = some (.slice none 0 0) := by rw [blk_cell hbr2]; rfl
          have hs1 : w2.cell? ⟨w.heap.size, 1, none⟩ = some (.slice none 0 0) := by rw [blk_cell hbr2]; rfl
          have hz0 := blk_free hbr2 0
          have hz1 := blk_free hbr2 1
          clear hp
          go_wp2_with fail
          refine bodyPost_ret (v := .tuple #[.agg #[.slice none 0 0, .slice none 0 0], .int .i64 2, .int .i64 ((k : Int) + 1)]) (by simp [results, Tryz.results13, go_sem, hs0, hs1]) rfl ⟨?_, ?_⟩
          · exact ((hb0.trans (hb3.mono (by omega))).setCell (p := ⟨w.heap.size, 0, none⟩) (Nat.le_refl _) _).setCell (p := ⟨w.heap.size, 1, none⟩) (Nat.le_refl _) _
          · rw [unhide HF]; exact congrArg (fun m : Int => Ending.returned (.tuple #[.agg #[.slice none 0 0, .slice none 0 0], .int .i64 2, .int .i64 m])) (by omega)
        | some q' =>
          rw [hq] at hp
          have hp' : e = .returned (.bool true) ∧ ∃ vV vC, QInv (w1.heap.size + 1) w2 w1.heap.size q' vV vC := hp
          obtain ⟨rfl, vV', vC', hqi'⟩ := hp'
          have HF : Hid (qRows ⟨[], []⟩ 0 rows = qRows q' (k + 1) (rows.drop (k + 1))) := hide (by rw [unhide HRR, hq])
          have HQO := hide (qLine_ok hrl hqo hq)
          clear hp hq
          go_wp2_with fail
          go_roundg (gk - 1)
          case measure => omega
          case rel => exact ⟨k + 1, q', vV', vC', by go_num, by omega, unhide HQO, hqi', hb3, unhide HF⟩
      · have hkl : k = rows.length := by omega
        subst hkl
        rw [List.drop_length] at hrr
        have HRR : Hid (qRows ⟨[], []⟩ 0 rows = .inl q) := hide hrr
        clear hrr
        have hz0 := blk_free hbrx 0
        have hz1 := blk_free hbrx 1
        cases ended with
        | false =>
          have HF : Hid (loadSpec l = .inl (2, rows.length + 1)) := hide (by
            rw [unhide HSP, unhide HRR]; dsimp only; rw [if_pos (of_decide_eq_false (unhide HE))])
          go_wp2_with fail
          refine bodyPost_ret (v := .tuple #[.agg #[.slice none 0 0, .slice none 0 0], .int .i64 2, .int .i64 ((rows.length : Int) + 1)]) (by simp [results, Tryz.results13, go_sem, hr0, hr1]) rfl ⟨?_, ?_⟩
          · exact ((hb0.trans (hbx.mono (by omega))).setCell (p := ⟨w.heap.size, 0, none⟩) (Nat.le_refl _) _).setCell (p := ⟨w.heap.size, 1, none⟩) (Nat.le_refl _) _
          · rw [unhide HF]; exact congrArg (fun m : Int => Ending.returned (.tuple #[.agg #[.slice none 0 0, .slice none 0 0], .int .i64 2, .int .i64 m])) (by omega)
        | true =>
          have hf1 : wr.cell? ⟨w1.heap.size, 1, none⟩ = some vC := by rw [blk_cell hqi.fb]; rfl
          obtain ⟨aC, cC, rfl⟩ := own_form hqi.oC
          by_cases h24 : 24 < q.cl.length
          · have hd24 : decide ((24 : Int) < (q.cl.length : Int)) = true := by simp; omega
            have HF : Hid (loadSpec l = .inl (3, 0)) := hide (by
              rw [unhide HSP, unhide HRR]; dsimp only; rw [if_neg (fun h => h (of_decide_eq_true (unhide HE))), if_pos h24])
            go_wp2_with fail
            refine bodyPost_ret (v := .tuple #[.agg #[.slice none 0 0, .slice none 0 0], .int .i64 3, .int .i64 0]) (by simp [results, Tryz.results13, go_sem, hr0, hr1]) rfl ⟨?_, ?_⟩
            · exact ((hb0.trans (hbx.mono (by omega))).setCell (p := ⟨w.heap.size, 0, none⟩) (Nat.le_refl _) _).setCell (p := ⟨w.heap.size, 1, none⟩) (Nat.le_refl _) _
            · rw [unhide HF]; rfl
          · have hd24 : decide ((24 : Int) < (q.cl.length : Int)) = false := by simp; omega
            have HF : Hid (loadSpec l = .inr (qFinish q)) := hide (by
              rw [unhide HSP, unhide HRR]; dsimp only; rw [if_neg (fun h => h (of_decide_eq_true (unhide HE))), if_neg h24])
            go_wp2_with fail
            refine (withFree_any (w1.heap.size + 1) w1.heap.size q vV _ wr hqi (by omega) (by omega) hqo.cl).mono ?_
            rintro e w2 ⟨v2, rfl, hown2, hb2⟩
            have hqi2 := hqi.later hb2
            have hbq : w1.heap.size < wr.heap.size := blk_lt hqi.fb
            have hbr2 : w2.heap[w.heap.size]? = some (.cells #[.slice none 0 0, .slice none 0 0] 44 (0, 0)) := (hb2.block _ (by omega)).trans hbrx
            have hs0 : w2.cell? ⟨w.heap.size, 0, none⟩ = some (.slice none 0 0) := by rw [blk_cell hbr2]; rfl
            have hs1 : w2.cell? ⟨w.heap.size, 1, none⟩ = some (.slice none 0 0) := by rw [blk_cell hbr2]; rfl
            have hy0 := blk_free hbr2 0
            have hy1 := blk_free hbr2 1
            have hg0 : w2.cell? ⟨w1.heap.size, 0, none⟩ = some vV := by rw [blk_cell hqi2.fb]; rfl
            have hg1 : w2.cell? ⟨w1.heap.size, 1, none⟩ = some (.slice aC q.cl.length cC) := by rw [blk_cell hqi2.fb]; rfl
            have hx0 := blk_free hqi2.fb 0
            have hne1 : w.heap.size ≠ w1.heap.size := by omega
            have hne2 : w1.heap.size ≠ w.heap.size := by omega
            obtain ⟨a2, c2, rfl⟩ := own_form hown2
            have hbel : Below w.heap.size w w2 := hb0.trans ((hbx.trans (hb2.mono (by omega))).mono (by omega))
            have hO1 := ownsRow_setCell_below (ownsRow_setCell_below (ownsRow_setCell_below hown2 (a := ⟨w1.heap.size, 0, none⟩) (by exact hbq) (.slice a2 (exv (freeQ q 8) ++ q.vars).length c2)) (a := ⟨w.heap.size, 0, none⟩) (show w.heap.size < wr.heap.size by omega) (.slice a2 (exv (freeQ q 8) ++ q.vars).length c2)) (a := ⟨w.heap.size, 1, none⟩) (show w.heap.size < wr.heap.size by omega) (.slice aC q.cl.length cC)
            have hO2 := ownsRow_setCell_below (ownsRow_setCell_below (ownsRow_setCell_below hqi2.oC (a := ⟨w1.heap.size, 0, none⟩) (Nat.lt_succ_self _) (.slice a2 (exv (freeQ q 8) ++ q.vars).length c2)) (a := ⟨w.heap.size, 0, none⟩) (show w.heap.size < w1.heap.size + 1 by omega) (.slice a2 (exv (freeQ q 8) ++ q.vars).length c2)) (a := ⟨w.heap.size, 1, none⟩) (show w.heap.size < w1.heap.size + 1 by omega) (.slice aC q.cl.length cC)
            have HO1 := hide hO1
            have HO2 := hide hO2
            clear hO1 hO2
            generalize hnn : (exv (freeQ q 8) ++ q.vars).length = nn at *
            go_wp2_with fail
            refine bodyPost_ret (v := .tuple #[.agg #[.slice a2 nn c2, .slice aC q.cl.length cC], .int .i64 0, .int .i64 0]) (by simp [results, Tryz.results13, go_sem, hs0, hs1]) rfl ⟨?_, ?_⟩
            · exact ((hbel.setCell (p := ⟨w1.heap.size, 0, none⟩) (by exact Nat.le_of_lt hsz1) _).setCell (p := ⟨w.heap.size, 0, none⟩) (Nat.le_refl _) _).setCell (p := ⟨w.heap.size, 1, none⟩) (Nat.le_refl _) _
            · rw [unhide HF]
              refine ⟨_, _, rfl, ?_, ?_⟩
              · have := own_lo (lo := w.heap.size) (unhide HO1) (by omega)
                show World.ownsRow _ w.heap.size _ 2 _ (exv (freeQ q 8) ++ q.vars).length (varCells (exv (freeQ q 8) ++ q.vars))
                rw [hnn]; exact this
              · exact own_lo (lo := w.heap.size) (unhide HO2) (by omega)
end Go.Proofs.YtgipjjhkhfihpabGreatDoor

namespace Go.Proofs.YtgipjjhkhfihpabGreatDoor
open Go.RowKit

theorem alloc_new_at' {w : World} {o : Obj} {n : Nat} (h : n = w.heap.size) : (w.alloc o).heap[n]? = some o := by subst h; exact heap_alloc_new w o
/-- The program's formula, as Load hands it out, at block b, its blocks from lo on. -/
structure ProgAt (lo : Nat) (w : World) (b : Nat) (q : QS) : Prop where
  lo_le : lo ≤ b
  at_ : ∃ vV vC, w.heap[b]? = some (.cells #[vV, vC] 48 (0, 0)) ∧ w.ownsRow lo 109 2 vV q.vars.length (varCells q.vars) ∧ w.ownsRow lo 77 2 vC q.cl.length (pairs q.cl)
def DLoadPost (l : List UInt8) (w : World) (e : Ending) (w' : World) : Prop :=
  Below w.heap.size w w' ∧ match loadSpec l with
    | .inl (x, i) => e = .returned (.tuple #[.pointer none, .int .i64 (x : Int), .int .i64 (i : Int)])
    | .inr q => ∃ b, e = .returned (.tuple #[.pointer (some ⟨b, 0, none⟩), .int .i64 0, .int .i64 0]) ∧ ProgAt w.heap.size w' b q
theorem loadSpec_pos (l : List UInt8) (x i : Nat) (h : loadSpec l = .inl (x, i)) : 0 < x := by
  unfold loadSpec at h
  split at h
  · simp at h; omega
  · split at h
    · simp at h; omega
    · split at h
      · simp at h; omega
      · split at h
        · simp at h; omega
        · cases h

set_option maxRecDepth 100000 in
set_option maxHeartbeats 800000 in
theorem load_any (l : List UInt8) (w : World) : Calls Tryz.prog 7 #[.string ⟨l.toArray⟩] w fun e w' => DLoadPost l w e w' := by
  go_enter Tryz.func7, Tryz.ntmps7
  go_wp2_with fail
  refine (qload_any l w).mono ?_
  rintro e w1 ⟨hb, hp⟩
  cases hq : loadSpec l with
  | inl xi =>
    obtain ⟨x, i⟩ := xi
    rw [hq] at hp
    have hp' : e = .returned (.tuple #[.agg #[.slice none 0 0, .slice none 0 0], .int .i64 (x : Int), .int .i64 (i : Int)]) := hp
    subst hp'
    have hx := loadSpec_pos l x i hq
    have hxb : ((x : Int) != 0) = true := by rw [bne_iff_ne]; omega
    have HQ := hide hq
    clear hp hq
    go_wp2_with fail
    go_ret3
    exact ⟨hb.alloc hb.size _, by rw [unhide HQ]; rfl⟩
  | inr q =>
    rw [hq] at hp
    have hp' : ∃ vV vC, e = .returned (.tuple #[.agg #[vV, vC], .int .i64 0, .int .i64 0]) ∧ w1.ownsRow w.heap.size 109 2 vV q.vars.length (varCells q.vars) ∧ w1.ownsRow w.heap.size 77 2 vC q.cl.length (pairs q.cl) := hp
    obtain ⟨vV, vC, rfl, hV, hC⟩ := hp'
    have HQ := hide hq
    clear hp hq
    obtain ⟨a1, c1, rfl⟩ := own_form hV
    obtain ⟨a2, c2, rfl⟩ := own_form hC
    go_wp2_with fail
    go_ret3
    refine ⟨(hb.alloc hb.size _).alloc (by simp; have := hb.size; omega) _, ?_⟩
    rw [unhide HQ]
    refine ⟨_, rfl, by have := hb.size; simp; omega, _, _, alloc_new_at' (by simp), (hV.alloc _).alloc _, (hC.alloc _).alloc _⟩
end Go.Proofs.YtgipjjhkhfihpabGreatDoor
