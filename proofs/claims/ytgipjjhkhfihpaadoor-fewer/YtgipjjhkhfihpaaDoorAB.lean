import Derived.Test.YtgipjjhkhfihpaaDoorAA
import Derived.Deep.LoopGhost
namespace Go.Proofs.YtgipjjhkhfihpaaDoor
open Go.RowKit

/-- The same, where the walk writes the new block's number in another way. -/
theorem wpList_append_new' {P : Program} {ops : Array Oper} {rest : List Oper} {o : Oper} {a : Act} {Q : Exit → Act → World → Prop} {w : World} {news : List Value} {e : TypeId} (hgd : o.guard = none) (s x : Operand) (t : TypeId)
    (ho : o.op = .call { callee := .builtin .append, args := #[s, x], argTypes := #[t, t] })
    (base : Nat) (i : TypeInfo) (z : Value) (size bytes : Nat) (ht : P.underlying t = some (.slice e)) (hi : P.info? e = some i) (hz : i.zero = some z)
    (hsize : i.size = size) (hby : i.bytes = bytes) (hzs : z.cells.size = size) (hsz : 0 < size)
    (v : Value) (n : Nat) (xs : List Value) (hown : w.ownsRow base e size v n xs) (hs : a.eval s = v)
    (m : Nat) (hx : a.eval x = .slice (some ⟨m, 0, none⟩) 1 1) (hm : m = w.heap.size) (hl : news.length = size) (h1 : ∀ u ∈ news, u.oneCell' = true)
    (h63 : n + 1 ≤ maxLen) (hbytes : (n + 1) * bytes ≤ 140737488355328) (hbase : base ≤ w.heap.size)
    (h : ∀ v' w', w'.ownsRow base e size v' (n + 1) (xs ++ news) → w.grownBy w' v.ownBlock → (v' ≠ .slice none 0 0) → wpList P ops Q rest (a.put o.dst v') w') : wpList P ops Q (o :: rest) a (w.alloc (.cells news.toArray e)) := by
  subst hm
  exact wpList_append_new hgd s x t ho base i z size bytes ht hi hz hsize hby hzs hsz v n xs hown hs hx hl h1 h63 hbytes hbase h

/-- Strings lie at an address. -/
def StrsAt (w : World) (ao : Option Addr) (ws : List (List UInt8)) : Prop :=
  ws ≠ [] → ∃ g off cur, ao = some ⟨g, off, none⟩ ∧ w.heap[g]? = some (.cells cur 9 (0, 0)) ∧ ∀ j (hj : j < ws.length), cur[off + j]? = some (S ws[j])
/-- Blocks of strings are as they were. -/
def KeepsS (w w' : World) : Prop := ∀ (g : Nat) (cur : Array Value), w.heap[g]? = some (.cells cur 9 (0, 0)) → w'.heap[g]? = some (.cells cur 9 (0, 0))
theorem KeepsS.trans {a b c : World} (h : KeepsS a b) (k : KeepsS b c) : KeepsS a c := fun g cur hg => k g cur (h g cur hg)
theorem KeepsS.of_below {a b : World} (h : Below a.heap.size a b) : KeepsS a b := fun g _ hg => (h.block g (blk_lt hg)).trans hg
theorem KeepsS.of_set {w : World} {b o : Nat} {c : Array Value} {t : TypeId} {fr : Nat × Nat} {u : Value} (h : w.heap[b]? = some (.cells c t fr)) (ht : t ≠ 9) : KeepsS w (w.setCell ⟨b, o, none⟩ u) := fun g cur hg => by
  rw [Below.heap_setCell _ _ _ _ (fun e => by subst e; rw [hg] at h; simp at h; exact ht h.2.1.symm)]; exact hg
theorem KeepsS.of_grown {w w' : World} {v : Value} {base n size : Nat} {e : TypeId} {xs : List Value} (hg : w.grownBy w' v.ownBlock) (ho : w.ownsRow base e size v n xs) (he : e ≠ 9) : KeepsS w w' := fun g cur hgc => by
  rw [hg.block g (blk_lt hgc) (fun eq => by
    rcases ho.2 with ⟨rfl, _⟩ | ⟨g', cap, cur', rfl, _, hh, _⟩
    · simp [Value.ownBlock] at eq
    · simp [Value.ownBlock] at eq
      subst eq
      rw [hgc] at hh
      simp at hh
      exact he hh.2.symm)]
  exact hgc
theorem StrsAt.keep {w w' : World} {ao : Option Addr} {ws : List (List UInt8)} (h : StrsAt w ao ws) (k : KeepsS w w') : StrsAt w' ao ws := fun hne => by
  obtain ⟨g, off, cur, h1, h2, h3⟩ := h hne
  exact ⟨g, off, cur, h1, k g cur h2, h3⟩

theorem QInv.push_cl {wr wp w' : World} {bq base : Nat} {q : QS} {vV vC v' : Value} {p n : Nat} (hbq : bq < base) (h : QInv base wr bq q vV vC) (hp : Below wr.heap.size wr wp) (hg : wp.grownBy w' vC.ownBlock)
    (hown : w'.ownsRow base 63 2 v' (q.cl.length + 1) (pairs q.cl ++ [.int .i64 (p : Int), .int .i64 (n : Int)])) :
    w'.heap[bq]? = some (.cells #[vV, vC] 44 (0, 0)) ∧ QInv base (w'.setCell ⟨bq, 1, none⟩ v') bq { q with cl := q.cl ++ [(p, n)] } vV v' := by
  have hlt := h.oC.lt
  have hbf := blk_lt h.fb
  have hfb : w'.heap[bq]? = some (.cells #[vV, vC] 44 (0, 0)) := by
    rw [hg.block bq (Nat.lt_of_lt_of_le hbf hp.size) (fun e => by have := hlt bq e.symm; omega), hp.block bq hbf]; exact h.fb
  refine ⟨hfb, blk_set hfb 1 v', ?_, ?_⟩
  · exact ownsRow_setCell_below (own_kept h.oV hp h.oC hg (by decide)) (a := ⟨bq, 1, none⟩) hbq v'
  · have := ownsRow_setCell_below hown (a := ⟨bq, 1, none⟩) hbq v'
    rw [← pairs_snoc q.cl (p, n)] at this
    simpa using this
theorem QInv.push_var {wr wp w' : World} {bq base : Nat} {q : QS} {vV vC v' : Value} {x : Nat × Bool} (hbq : bq < base) (h : QInv base wr bq q vV vC) (hp : Below wr.heap.size wr wp) (hg : wp.grownBy w' vV.ownBlock)
    (hown : w'.ownsRow base 81 2 v' (q.vars.length + 1) (varCells q.vars ++ [.int .i64 (x.1 : Int), .bool x.2])) :
    w'.heap[bq]? = some (.cells #[vV, vC] 44 (0, 0)) ∧ QInv base (w'.setCell ⟨bq, 0, none⟩ v') bq { q with vars := q.vars ++ [x] } v' vC := by
  have hlt := h.oV.lt
  have hbf := blk_lt h.fb
  have hfb : w'.heap[bq]? = some (.cells #[vV, vC] 44 (0, 0)) := by
    rw [hg.block bq (Nat.lt_of_lt_of_le hbf hp.size) (fun e => by have := hlt bq e.symm; omega), hp.block bq hbf]; exact h.fb
  refine ⟨hfb, blk_set hfb 0 v', ?_, ?_⟩
  · have := ownsRow_setCell_below hown (a := ⟨bq, 0, none⟩) hbq v'
    rw [← varCells_snoc q.vars x] at this
    simpa using this
  · exact ownsRow_setCell_below (own_kept h.oC hp h.oV hg (by decide)) (a := ⟨bq, 0, none⟩) hbq v'

/-! ### readClause -/
def clTo : (Nat × Nat) → List (List UInt8) → Option (Nat × Nat)
  | c, [] => some c
  | c, w :: ws => if litGood w then clTo (withLit c (litNum w)) ws else none
theorem litNum_bd (w : List UInt8) : -8 ≤ litNum w ∧ litNum w ≤ 8 := by
  have h1 := dig_bd w; have h2 := dig_bd w.tail
  unfold litNum; split <;> omega
theorem withLit_lt (c : Nat × Nat) (x : Int) (h1 : c.1 < 512) (h2 : c.2 < 512) : (withLit c x).1 < 512 ∧ (withLit c x).2 < 512 := by
  unfold withLit; split
  · exact ⟨h1, or_lt _ _ h2 (bitOf_lt _)⟩
  · exact ⟨or_lt _ _ h1 (bitOf_lt _), h2⟩
def ClPost (bq : Nat) (q : QS) (vV : Value) (ws : List (List UInt8)) (w : World) (e : Ending) (w' : World) : Prop :=
  Below bq w w' ∧ match clTo (0, 0) ws with
    | none => e = .returned (.bool false)
    | some c => e = .returned (.bool true) ∧ ∃ vC', QInv (bq + 1) w' bq { q with cl := q.cl ++ [c] } vV vC'

set_option maxRecDepth 100000 in
set_option maxHeartbeats 1600000 in
theorem readClause_any (bq : Nat) (q : QS) (vV vC : Value) (ws : List (List UInt8)) (ao : Option Addr) (cap : Nat) (w : World) (hq : QInv (bq + 1) w bq q vV vC) (hs : StrsAt w ao ws)
    (hl : ws.length ≤ 1048576) (hws : ∀ x ∈ ws, x.length ≤ 1048576) (hcl : q.cl.length ≤ 1048576) :
    Calls Tryd.prog 30 #[.pointer (some ⟨bq, 0, none⟩), .slice ao ws.length cap] w fun e w' => ClPost bq q vV ws w e w' := by
  have hbq := blk_lt hq.fb
  have HWS := hide hws; clear hws
  go_enter Tryd.func30, Tryd.ntmps30
  go_wp2_with fail
  go_loopg [13] (ws.length) (fun n i wx => ∃ (j p m : Nat), i = .int .i64 j ∧ j + n = ws.length ∧ p < 512 ∧ m < 512 ∧ clTo (0, 0) ws = clTo (p, m) (ws.drop j) ∧ Below w.heap.size w wx ∧
     wx.heap[w.heap.size]? = some (.cells #[.int .i64 p, .int .i64 m] 63 (0, 0)))
  case atStart => exact ⟨0, 0, 0, rfl, by omega, by omega, by omega, rfl, (Below.refl _ _).alloc (Nat.le_refl _) _, heap_alloc_new _ _⟩
  case round =>
    obtain ⟨j, p, m, rfl, hj, hp, hm, hto, hb, hbc⟩ := hrel
    have hbs : w.heap.size < wr.heap.size := blk_lt hbc
    have hp0 : wr.cell? ⟨w.heap.size, 0, none⟩ = some (.int .i64 p) := by rw [blk_cell hbc]; rfl
    have hp1 : wr.cell? ⟨w.heap.size, 1, none⟩ = some (.int .i64 m) := by rw [blk_cell hbc]; rfl
    by_cases hlt : j < ws.length
    · obtain ⟨g, off, cur, rfl, hg, hcur⟩ := hs (by intro e; subst e; simp at hlt)
      have hcj : wr.cell? ⟨g, off + j, none⟩ = some (S ws[j]) := by
        rw [hb.cell (p := ⟨g, off + j, none⟩) (blk_lt hg), blk_cell hg]; exact hcur j hlt
      have hwl := unhide HWS _ (List.getElem_mem hlt)
      rw [List.drop_eq_getElem_cons hlt, clTo] at hto
      have HTO := hide hto; clear hto hcur
      obtain ⟨n0, n1⟩ := litNum_bd ws[j]
      go_wp2_with fail
      refine (wliteral_any ws[j] wr hwl).mono ?_
      rintro e w2 ⟨hw2, rfl⟩
      subst hw2
      cases hgd : litGood ws[j] with
      | false =>
        have HF : Hid (clTo (0, 0) ws = none) := hide (by rw [unhide HTO, hgd, if_neg (by decide)])
        go_wp2_with fail
        go_ret
        exact ⟨hb.mono (by omega), by rw [unhide HF]; rfl⟩
      | true =>
        have HF : Hid (clTo (0, 0) ws = clTo (withLit (p, m) (litNum ws[j])) (ws.drop (j + 1))) := hide (by rw [unhide HTO, hgd, if_pos rfl])
        have hwl2 := withLit_lt (p, m) (litNum ws[j]) hp hm
        go_wp2_with fail
        refine (with_any p m (litNum ws[j]) w2 hp hm (by omega) (by omega)).mono ?_
        rintro e w3 ⟨rfl, hb3⟩
        have hb4 : Below w.heap.size w w3 := hb.trans (hb3.mono (by omega))
        have hbc3 := (hb3.block _ hbs).trans hbc
        have hq0 : w3.cell? ⟨w.heap.size, 0, none⟩ = some (.int .i64 p) := by rw [blk_cell hbc3]; rfl
        have hq1 : w3.cell? ⟨w.heap.size, 1, none⟩ = some (.int .i64 m) := by rw [blk_cell hbc3]; rfl
        have hz0 := blk_free hbc3 0
        have hz1 := blk_free hbc3 1
        generalize withLit (p, m) (litNum ws[j]) = c at *
        obtain ⟨p', m'⟩ := c
        go_wp2_with fail
        go_roundg (gk - 1)
        case measure => omega
        case rel =>
          refine ⟨j + 1, p', m', by go_num, by omega, hwl2.1, hwl2.2, unhide HF, (hb4.setCell (p := ⟨w.heap.size, 0, none⟩) (Nat.le_refl _) _).setCell (p := ⟨w.heap.size, 1, none⟩) (Nat.le_refl _) _, ?_⟩
          exact blk_set (blk_set hbc3 0 _) 1 _
    · have hjl : j = ws.length := by omega
      subst hjl
      rw [List.drop_length] at hto
      have HF : Hid (clTo (0, 0) ws = some (p, m)) := hide hto
      clear hto
      have hq3 := hq.later hb
      have hf3 : wr.cell? ⟨bq, 1, none⟩ = some vC := by rw [blk_cell hq3.fb]; rfl
      have hfz := blk_free hq3.fb 1
      have hbqw : bq < wr.heap.size := by omega
      have hapc : vC.ownBlock ≠ some w.heap.size := fun e => by have := hq.oC.lt _ e; omega
      obtain ⟨i1, hi1, hz10, hz11, hz12⟩ := info_parts Tryd.info63
      go_wp2_with fail
      go_region_law (refine step_append_own rfl (.tmp 32) (.tmp 34) 42 rfl (bq + 1) 63 i1 (.agg #[.int .i64 0, .int .i64 0]) 2 16 Tryd.underlying42 hi1 hz10 hz11 hz12 rfl (by decide) vC q.cl.length (pairs q.cl) (hq3.oC.alloc _).drew rfl ⟨wr.heap.size, 0, none⟩ 1 1 [.int .i64 p, .int .i64 m] rfl rfl (new_cells wr [.int .i64 p, .int .i64 m] 63) (by simp [Value.oneCell']) (by unfold maxLen; omega) (by omega) (by simp; omega) ?_; intro v' w' hown' hgrow hnn; obtain ⟨hfb', hJ⟩ := hq3.push_cl (Nat.lt_succ_self bq) (((Below.refl _ wr).alloc (Nat.le_refl _) _).drew) hgrow hown'; have hbel : Below bq w w' := ((hb.mono (Nat.le_of_lt hbq)).trans ((((Below.refl wr.heap.size wr).alloc (Nat.le_refl _) _).drew).mono (Nat.le_of_lt hbqw))).grown hgrow (by simp; omega) (fun k hk => (by have := (hq3.oC.lt k hk).1; omega)); obtain ⟨g3, cap3, rfl, hg3, hg3', hcap3, hcell3⟩ := own_pos hown' (by omega); have hq3' : w'.cell? ⟨bq, 1, none⟩ = some vC := (by rw [blk_cell hfb']; rfl); have hqz := blk_free hfb' 1)
      all_goals
        go_wp2_with fail
        go_ret
        refine ⟨hbel.setCell (p := ⟨bq, 1, none⟩) (Nat.le_refl _) _, ?_⟩
        rw [unhide HF]
        exact ⟨rfl, _, hJ⟩

/-! ### readPrefix -/
def badVar (vs : List (Nat × Bool)) (w : List UInt8) : Bool := !decide (0 < dig w) || hasV vs (dig w).toNat
def prefTo (u : Bool) : List (Nat × Bool) → List (List UInt8) → Option (List (Nat × Bool))
  | vs, [] => some vs
  | vs, w :: ws => if badVar vs w then none else prefTo u (vs ++ [((dig w).toNat, u)]) ws
def qPrefix (q : QS) (ws : List (List UInt8)) (u : Bool) : Option (List (Nat × Bool)) := if ws = [] ∨ q.cl ≠ [] then none else prefTo u q.vars ws
def PrefPost (bq : Nat) (q : QS) (vC : Value) (ws : List (List UInt8)) (u : Bool) (w : World) (e : Ending) (w' : World) : Prop :=
  Below bq w w' ∧ match qPrefix q ws u with
    | none => e = .returned (.bool false)
    | some vs => e = .returned (.bool true) ∧ ∃ vV', QInv (bq + 1) w' bq { q with vars := vs } vV' vC

set_option maxRecDepth 100000 in
set_option maxHeartbeats 1600000 in
theorem readPrefix_any (bq : Nat) (q : QS) (vV vC : Value) (ws : List (List UInt8)) (u : Bool) (ao : Option Addr) (cap : Nat) (w : World) (hq : QInv (bq + 1) w bq q vV vC) (hs : StrsAt w ao ws)
    (hl : ws.length ≤ 524288) (hws : ∀ x ∈ ws, x.length ≤ 1048576) (hvl : q.vars.length ≤ 536870912) (_hcl : q.cl.length ≤ 1048576) :
    Calls Tryd.prog 29 #[.pointer (some ⟨bq, 0, none⟩), .slice ao ws.length cap, .bool u] w fun e w' => PrefPost bq q vC ws u w e w' := by
  have hbq := blk_lt hq.fb
  have HWS := hide hws; clear hws
  have hf1 : w.cell? ⟨bq, 1, none⟩ = some vC := by rw [blk_cell hq.fb]; rfl
  obtain ⟨aC, cC, rfl⟩ := own_form hq.oC
  by_cases hnil : ws = []
  · subst hnil
    have HF : Hid (qPrefix q [] u = none) := hide (by unfold qPrefix; rw [if_pos (Or.inl rfl)])
    go_enter Tryd.func29, Tryd.ntmps29
    go_wp2_with fail
    go_ret
    exact ⟨Below.refl _ _, by rw [unhide HF]; rfl⟩
  have hwl0 : 0 < ws.length := List.length_pos_iff.2 hnil
  have hwb : ((ws.length : Int) == 0) = false := by rw [beq_eq_false_iff_ne]; omega
  by_cases hcn : q.cl = []
  · have hcb : decide (0 < q.cl.length) = false := by rw [hcn]; rfl
    have HF : Hid (qPrefix q ws u = prefTo u q.vars ws) := hide (by unfold qPrefix; rw [if_neg (by rintro (h | h); exact hnil h; exact h hcn)])
    obtain ⟨g, off, cur, rfl, hg, hcur⟩ := hs hnil
    have HS := hide hs
    have HCN := hide hcn
    clear hnil hcn
    obtain ⟨i0, hi, hz0, hz1, hz2⟩ := info_parts Tryd.info81
    go_enter Tryd.func29, Tryd.ntmps29
    go_wp2_with fail
    go_loopg [26] (ws.length) (fun n i wx => ∃ (j : Nat) (vs : List (Nat × Bool)) (vV : Value), i = .int .i64 j ∧ j + n = ws.length ∧ vs.length = q.vars.length + j ∧ prefTo u q.vars ws = prefTo u vs (ws.drop j) ∧ Below bq w wx ∧
      QInv (bq + 1) wx bq { q with vars := vs } vV (.slice aC q.cl.length cC) ∧ KeepsS w wx)
    case atStart => exact ⟨0, q.vars, vV, rfl, by omega, rfl, rfl, Below.refl _ _, hq, fun _ _ h => h⟩
    case round =>
      obtain ⟨j, vs, vV, rfl, hj, hvl2, hto, hb, hqx, hk⟩ := hrel
      have HVL := hide hvl2
      have hvl3 : vs.length ≤ 1073741824 := by omega
      clear hvl2
      by_cases hlt : j < ws.length
      · have hcj : wr.cell? ⟨g, off + j, none⟩ = some (S ws[j]) := by
          rw [blk_cell (hk g cur hg)]; exact hcur j hlt
        have hwl := unhide HWS _ (List.getElem_mem hlt)
        rw [List.drop_eq_getElem_cons hlt, prefTo] at hto
        have HTO := hide hto; clear hto
        obtain ⟨d0, d1⟩ := dig_bd ws[j]
        obtain ⟨dn, hdn⟩ := Int.eq_ofNat_of_zero_le d0
        have HBV : Hid (badVar vs ws[j] = (!decide (0 < dn) || hasV vs dn)) := hide (by unfold badVar; rw [hdn]; simp)
        have HDN : Hid ((dig ws[j]).toNat = dn) := hide (by rw [hdn]; simp)
        go_wp2_with fail
        refine (variable_any ws[j] wr hwl).mono ?_
        rintro e w2 ⟨hw2, rfl⟩
        subst hw2
        rw [hdn]
        have hdn8 : dn ≤ 8 := by omega
        clear hdn d0 d1
        by_cases hz : dn = 0
        · have hdz : decide (0 < dn) = false := by simp; omega
          have HN : Hid (prefTo u q.vars ws = none) := hide (by rw [unhide HTO, unhide HBV, hz]; rfl)
          clear hz
          go_wp2_with fail
          go_ret
          exact ⟨hb, by rw [unhide HF, unhide HN]; rfl⟩
        · have hdz : decide (0 < dn) = true := by simp; omega
          have HZ : Hid (decide (0 < dn) = true) := hide (by simp; omega)
          clear hz
          go_wp2_with fail
          refine (find_any (bq + 1) bq vs vV dn w2 (by rw [blk_cell hqx.fb]; rfl) hqx.oV hvl3).mono ?_
          rintro e w3 ⟨hb3, rfl⟩
          rw [hasV_find]
          generalize (findV vs dn).getD (0, false) = fx
          have hb3a : Below w2.heap.size w2 (w3.alloc (.cells #[.int .i64 (fx.1 : Nat), .bool fx.2] 81)) := hb3.alloc hb3.size _
          have hqy := hqx.later hb3a
          have hbq2 : bq < w2.heap.size := blk_lt hqx.fb
          have hbq3 : bq < w3.heap.size := Nat.lt_of_lt_of_le hbq2 hb3.size
          have hby : Below bq w (w3.alloc (.cells #[.int .i64 (fx.1 : Nat), .bool fx.2] 81)) := hb.trans (hb3a.mono (Nat.le_of_lt hbq2))
          have hky := hk.trans (KeepsS.of_below hb3a)
          dsimp only
          cases hh : hasV vs dn with
          | true =>
            have HN : Hid (prefTo u q.vars ws = none) := hide (by rw [unhide HTO, unhide HBV, hh]; simp)
            go_wp2_with fail
            go_ret
            exact ⟨hby, by rw [unhide HF, unhide HN]; rfl⟩
          | false =>
            have HN : Hid (prefTo u q.vars ws = prefTo u (vs ++ [(dn, u)]) (ws.drop (j + 1))) := hide (by rw [unhide HTO, unhide HBV, hh, unhide HZ, unhide HDN]; rfl)
            have hf0 : w3.cell? ⟨bq, 0, none⟩ = some vV := by rw [blk_cell (hqx.later hb3).fb]; rfl
            have hbs : bq + 1 ≤ (w3.alloc (.cells #[.int .i64 (fx.1 : Nat), .bool fx.2] 81)).heap.size := blk_lt hqy.fb
            go_wp2_with (at_builtin; refine wpList_append_new' rfl (.tmp 48) (.tmp 52) 41 rfl (bq + 1) i0 (.agg #[.int .i64 0, .bool false]) 2 16 Tryd.underlying41 hi hz0 hz1 hz2 rfl (by decide) _ _ _ hqy.oV rfl _ rfl (by simp) rfl (by simp [Value.oneCell']) (by unfold maxLen; dsimp only; omega) (by dsimp only; omega) hbs ?_; intro v' w4 hown4 hgrow hnn; obtain ⟨hfb', hJ⟩ := hqy.push_var (x := (dn, u)) (Nat.lt_succ_self bq) (Below.refl _ _) hgrow hown4; have hb5 : Below bq w w4 := hby.grown hgrow (by omega) (fun k hk => (by have := (hqy.oV.lt k hk).1; omega)); have hk5 := hky.trans (KeepsS.of_grown hgrow hqy.oV (by decide)); obtain ⟨g3, cap3, rfl, hg3, hg3', hcap3, hcell3⟩ := own_pos hown4 (by omega); have hq3' : w4.cell? ⟨bq, 0, none⟩ = some vV := (by rw [blk_cell hfb']; rfl); have hqz := blk_free hfb' 0)
            go_roundg (gk - 1)
            case measure => omega
            case rel =>
              exact ⟨j + 1, vs ++ [(dn, u)], _, by go_num, by omega, by have := unhide HVL; simp; omega, unhide HN, hb5.setCell (p := ⟨bq, 0, none⟩) (Nat.le_refl _) _, hJ, hk5.trans (KeepsS.of_set hfb' (by decide))⟩
      · have hjl : j = ws.length := by omega
        subst hjl
        rw [List.drop_length] at hto
        have HN : Hid (prefTo u q.vars ws = some vs) := hide hto
        clear hto
        go_wp2_with fail
        go_ret
        refine ⟨hb, ?_⟩
        rw [unhide HF, unhide HN]
        exact ⟨rfl, _, hqx⟩
  · have hcb : decide (0 < q.cl.length) = true := by
      have : 0 < q.cl.length := List.length_pos_iff.2 hcn
      simp; omega
    have HF : Hid (qPrefix q ws u = none) := hide (by unfold qPrefix; rw [if_pos (Or.inr hcn)])
    clear hnil hcn
    go_enter Tryd.func29, Tryd.ntmps29
    go_wp2_with fail
    go_ret
    exact ⟨Below.refl _ _, by rw [unhide HF]; rfl⟩
end Go.Proofs.YtgipjjhkhfihpaaDoor

namespace Go.Proofs.YtgipjjhkhfihpaaDoor
open Go.RowKit

/-! ### duelkeep: lines -/
def klinesOf (l : List UInt8) : List (List UInt8) := (cutTo 10 l).1
theorem infoStr : (Tryd.prog.info? 9).map (fun i => (i.zero, i.size, i.bytes)) = some (some (.string ⟨#[]⟩), 1, 16) := by kernel_rfl
theorem cutTo_nl (l : List UInt8) (k : Nat) (h : k < l.length) (rows : List (List UInt8)) (cur : List UInt8) (hc : cutTo 10 (l.take k) = (rows, cur)) : cutTo 10 (l.take (k + 1)) = if l[k] = 10 then (rows ++ [cur], []) else (rows, cur ++ [l[k]]) := by
  rw [cutTo_take 10 l k h, hc]
  unfold cutStep
  rfl
theorem cur_next (l : List UInt8) (k fr : Nat) (h : k < l.length) (hf : fr ≤ k) (cur : List UInt8) (hc : (l.drop fr).take (k - fr) = cur) : (l.drop fr).take (k + 1 - fr) = cur ++ [l[k]] := by
  have h1 : k - fr < (l.drop fr).length := by rw [List.length_drop]; omega
  rw [show k + 1 - fr = (k - fr) + 1 from by omega, List.take_succ_eq_append_getElem h1, hc]
  congr 2
  rw [List.getElem_drop]
  congr 1
  omega
attribute [local go_sem] ba_get
set_option maxRecDepth 100000 in
set_option maxHeartbeats 1600000 in
theorem klines_any (l : List UInt8) (w : World) (hl : l.length ≤ 1048576) :
    Calls Tryd.prog 11 #[.string ⟨l.toArray⟩] w fun e w' => ∃ v, e = .returned v ∧ w'.ownsRow w.heap.size 9 1 v (klinesOf l).length ((klinesOf l).map S) ∧ Below w.heap.size w w' := by
  obtain ⟨i0, hi, hz0, hz1, hz2⟩ := info_parts infoStr
  go_enter Tryd.func11, Tryd.ntmps11
  go_wp2_with fail
  go_loopg [3, 4, 5] (l.length) (fun m vo vf vi wx => ∃ (k fr : Nat) (rows : List (List UInt8)) (cur : List UInt8), vi = .int .i64 (k : Int) ∧ vf = .int .i64 (fr : Int) ∧ k + m = l.length ∧ cutTo 10 (l.take k) = (rows, cur) ∧ fr ≤ k ∧ (l.drop fr).take (k - fr) = cur ∧ rows.length ≤ k ∧ wx.ownsRow w.heap.size 9 1 vo rows.length (rows.map S) ∧ Below w.heap.size w wx)
  case atStart => exact ⟨0, 0, [], [], rfl, rfl, by omega, rfl, by omega, by simp, by simp, World.ownsRow_nil _ _ _ _, Below.refl _ _⟩
  case round =>
    obtain ⟨k, fr, rows, cur, rfl, rfl, hkm, hct, hfk, hcu, hrl, hown, hb⟩ := hrel
    have HCT := hide hct
    have HCU := hide hcu
    have hbs := hb.size
    obtain ⟨aO, cO, rfl⟩ := own_form hown
    by_cases hlt : k < l.length
    · have hd3 : decide ((k : Int) < (l.length : Int)) = true := decide_eq_true (by omega)
      have hd4 : decide (k < l.length) = true := decide_eq_true hlt
      have HN := hide (cutTo_nl l k hlt rows cur hct)
      have HC := hide (cur_next l k fr hlt hfk cur hcu)
      clear hct hcu
      by_cases h10 : l[k] = 10
      · have HN2 : Hid (cutTo 10 (l.take (k + 1)) = (rows ++ [cur], [])) := hide (by rw [unhide HN, if_pos h10])
        have hex : ByteArray.extract ⟨l.toArray⟩ fr k = ⟨cur.toArray⟩ := by rw [ba_extract, unhide HCU]
        have HE := hide hex
        clear hex
        clear HN HC
        go_wp2_with (at_builtin; refine wpList_append_new rfl _ _ 34 rfl w.heap.size i0 (.string ⟨#[]⟩) 1 16 Tryd.underlying34 hi hz0 hz1 hz2 rfl (by decide) _ _ _ hown rfl rfl rfl (by simp [Value.oneCell']) (by unfold maxLen; omega) (by omega) hbs ?_; intro v4 w4 hown4 hgrow4 hnn4)
        have hB4 : Below w.heap.size w w4 := below_grown hb hgrow4 hown (Nat.le_refl _) hbs
        rw [unhide HE] at hown4
        obtain ⟨a4, c4, rfl⟩ := own_form hown4
        go_wp2_with fail
        go_roundg (gk - 1)
        case measure => omega
        case rel => exact ⟨k + 1, k + 1, rows ++ [cur], [], by go_num, by go_num, by omega, unhide HN2, by omega, by simp, by simp; omega, by simpa using hown4, hB4⟩
      · have HN2 : Hid (cutTo 10 (l.take (k + 1)) = (rows, cur ++ [l[k]])) := hide (by rw [unhide HN, if_neg h10])
        have hne : ((l[k].toNat : Int) == 10) = false := by
          rw [beq_eq_false_iff_ne]
          intro e
          apply h10
          rw [← UInt8.toNat_inj]
          have : (10 : UInt8).toNat = 10 := rfl
          omega
        have hne2 : (l[k].toNat == 10) = false := by rw [beq_eq_false_iff_ne]; intro e; rw [beq_eq_false_iff_ne] at hne; apply hne; omega
        clear HN h10
        go_wp2_with fail
        go_roundg (gk - 1)
        case measure => omega
        case rel => exact ⟨k + 1, fr, rows, cur ++ [l[k]], by go_num, rfl, by omega, unhide HN2, by omega, unhide HC, by omega, hown, hb⟩
    · have hd3 : decide ((k : Int) < (l.length : Int)) = false := decide_eq_false (by omega)
      have hd4 : decide (k < l.length) = false := decide_eq_false hlt
      have HF : Hid (klinesOf l = rows) := hide (by unfold klinesOf; have := unhide HCT; rw [List.take_of_length_le (by omega)] at this; rw [this])
      clear hct hcu
      go_wp2_with fail
      go_ret
      exact ⟨_, rfl, by rw [unhide HF]; exact hown, hb⟩
end Go.Proofs.YtgipjjhkhfihpaaDoor

namespace Go.Proofs.YtgipjjhkhfihpaaDoor
open Go.RowKit

/-! ### Lines joined to a text, and cut again -/
def joinN (m : List (List UInt8)) : List UInt8 := m.flatMap (· ++ [10])
theorem cut_line (c : UInt8) (r : List UInt8) (h : c ∉ r) : ∀ (st : List (List UInt8) × List UInt8), r.foldl (cutStep c) st = (st.1, st.2 ++ r) := by
  induction r with
  | nil => intro st; simp
  | cons b r ih =>
    intro st
    rw [List.mem_cons, not_or] at h
    rw [List.foldl_cons, ih h.2]
    unfold cutStep
    rw [if_neg (Ne.symm h.1)]
    simp
theorem cut_join (m : List (List UInt8)) (h : ∀ r ∈ m, (10 : UInt8) ∉ r) : ∀ (st : List (List UInt8)), (joinN m).foldl (cutStep 10) (st, []) = (st ++ m, []) := by
  induction m with
  | nil => intro st; simp [joinN]
  | cons r m ih =>
    intro st
    have e : joinN (r :: m) = r ++ (10 :: joinN m) := by simp [joinN]
    rw [e, List.foldl_append, cut_line 10 r (h r (by simp)), List.foldl_cons]
    have e2 : cutStep 10 (st, [] ++ r) 10 = (st ++ [r], []) := by unfold cutStep; simp
    rw [e2, ih (fun x hx => h x (by simp [hx]))]
    simp
end Go.Proofs.YtgipjjhkhfihpaaDoor

namespace Go.Proofs.YtgipjjhkhfihpaaDoor
open Go.RowKit

/-! ### duelkeep: joined, starts, clauses -/
theorem joinN_snoc (m : List (List UInt8)) (r : List UInt8) : joinN (m ++ [r]) = joinN m ++ r ++ [10] := by simp [joinN]
theorem joinN_take_le (m : List (List UInt8)) (k : Nat) : (joinN (m.take k)).length ≤ (joinN m).length := by
  have e : joinN m = joinN (m.take k) ++ joinN (m.drop k) := by unfold joinN; rw [← List.flatMap_append, List.take_append_drop]
  rw [e, List.length_append]; omega
theorem joinN_ge (m : List (List UInt8)) : m.length ≤ (joinN m).length := by
  induction m with
  | nil => simp
  | cons r m ih =>
    have e : joinN (r :: m) = r ++ (10 :: joinN m) := by simp [joinN]
    rw [e, List.length_append, List.length_cons, List.length_cons]; omega
theorem mapS_at (rows : List (List UInt8)) (k : Nat) (h : k < rows.length) : (rows.map S)[k]? = some (S rows[k]) := by simp [h]
attribute [local go_sem] ba_get
set_option maxRecDepth 100000 in
set_option maxHeartbeats 1600000 in
theorem kjoined_any (base : Nat) (rows : List (List UInt8)) (a : Option Addr) (c : Nat) (w : World) (hown : w.ownsRow base 9 1 (.slice a rows.length c) rows.length (rows.map S)) (hl : (joinN rows).length ≤ 1048576) :
    Calls Tryd.prog 20 #[.slice a rows.length c] w fun e w' => e = .returned (S (joinN rows)) ∧ Below w.heap.size w w' := by
  have hge := joinN_ge rows
  go_enter Tryd.func20, Tryd.ntmps20
  go_wp2_with fail
  go_loopg [3, 4] (rows.length) (fun m vt vi wx => ∃ (k : Nat) (acc : List UInt8), vi = .int .i64 (k : Int) ∧ vt = .string ⟨acc.toArray⟩ ∧ k + m = rows.length ∧ acc = joinN (rows.take k) ∧ Below w.heap.size w wx)
  case atStart => exact ⟨0, [], rfl, rfl, by omega, rfl, Below.refl _ _⟩
  case round =>
    obtain ⟨k, acc, rfl, rfl, hkm, hac, hb⟩ := hrel
    have HAC := hide hac
    clear hac
    by_cases hlt : k < rows.length
    · have hd3 : decide ((k : Int) < (rows.length : Int)) = true := decide_eq_true (by omega)
      have hd4 : decide (k < rows.length) = true := decide_eq_true hlt
      obtain ⟨g, cap, hVe, _, hg', _, hcell⟩ := own_pos (own_below hown hb) (by omega)
      injection hVe with hVe _ hV2
      subst hVe hV2
      have hx := hcell _ _ (mapS_at rows k hlt)
      have HTK := hide (List.take_succ_eq_append_getElem hlt)
      have hle := joinN_take_le rows (k + 1)
      rw [unhide HTK, joinN_snoc, ← unhide HAC, List.length_append, List.length_append, List.length_singleton] at hle
      clear hcell
      generalize rows[k] = r at *
      have HE : Hid (ByteArray.mk acc.toArray ++ ByteArray.mk r.toArray ++ ⟨#[10]⟩ = ⟨(acc ++ r ++ [10]).toArray⟩) := hide (by rw [ba_append acc r]; exact ba_append (acc ++ r) [10])
      have HN : Hid (acc ++ r ++ [10] = joinN (rows.take (k + 1))) := hide (by rw [unhide HTK, joinN_snoc, unhide HAC])
      have hl1 : acc.length ≤ 1048576 := by omega
      have hl2 : r.length ≤ 1048576 := by omega
      clear HAC
      go_wp2_with fail
      go_roundg (gk - 1)
      case measure => omega
      case rel => exact ⟨k + 1, acc ++ r ++ [10], by go_num, by rw [unhide HE], by omega, unhide HN, hb⟩
    · have hd3 : decide ((k : Int) < (rows.length : Int)) = false := decide_eq_false (by omega)
      have hd4 : decide (k < rows.length) = false := decide_eq_false hlt
      have HF : Hid (joinN rows = acc) := hide (by rw [unhide HAC, List.take_of_length_le (by omega)])
      go_wp2_with fail
      go_ret
      exact ⟨by rw [unhide HF]; rfl, hb⟩
set_option maxRecDepth 100000 in
set_option maxHeartbeats 400000 in
theorem kstarts_any (l : List UInt8) (c : UInt8) (w : World) (hl : l.length ≤ 1048576) :
    Calls Tryd.prog 12 #[.string ⟨l.toArray⟩, .int .u8 c.toNat] w fun e w' => e = .returned (.bool (l.head? == some c)) ∧ Below w.heap.size w w' := by
  cases l with
  | nil =>
    go_enter Tryd.func12, Tryd.ntmps12
    go_wp2_with fail
    go_ret
    exact ⟨rfl, Below.refl _ _⟩
  | cons x l =>
    have HB := hide (u8_beq (a := x) (b := c))
    go_enter Tryd.func12, Tryd.ntmps12
    go_wp2_with fail
    go_ret
    exact ⟨by rw [show ((x :: l).head? == some c) = (x == c) from rfl, ← unhide HB]; rfl, Below.refl _ _⟩
end Go.Proofs.YtgipjjhkhfihpaaDoor

namespace Go.Proofs.YtgipjjhkhfihpaaDoor
open Go.RowKit

abbrev SetV (c : Nat × Nat) : Value := .agg #[.int .i64 (c.1 : Int), .int .i64 (c.2 : Int)]
theorem int_ne_zero (a : Nat) : ((a : Int) != 0) = (a != 0) := by
  rw [Bool.eq_iff_iff, bne_iff_ne, bne_iff_ne]; omega
theorem int_eq_zero (a : Nat) : ((a : Int) == 0) = (a == 0) := by
  rw [Bool.eq_iff_iff, beq_iff_eq, beq_iff_eq]; omega
theorem and_lt9 (a b : Nat) (ha : a < 512) : a &&& b < 512 := Nat.lt_of_le_of_lt Nat.and_le_left ha
theorem less_lt9 (a b : Nat) (ha : a < 512) : less a b < 512 := Nat.lt_of_le_of_lt (less_le a b) ha

set_option maxRecDepth 100000 in
set_option maxHeartbeats 800000 in
theorem varOf_any (x : Int) (w : World) (hx : -9223372036854775807 ≤ x) (hx2 : x ≤ 9223372036854775807) :
    Calls Tryd.prog 52 #[.int .i64 x] w fun e w' => e = .returned (.int .i64 (x.natAbs : Nat)) ∧ w' = w := by
  by_cases h : x < 0
  · have hd : decide (x < 0) = true := by simpa using h
    have hwx : IntKind.i64.wrap (-x) = -x := by
      obtain ⟨m, hm⟩ := Int.eq_ofNat_of_zero_le (show 0 ≤ -x by omega)
      rw [hm]; exact wrap_i64_nat m (by omega)
    go_enter Tryd.func52, Tryd.ntmps52
    go_wp2_with fail
    go_ret
    exact ⟨ret_int (by omega), rfl⟩
  · have hd : decide (x < 0) = false := by simpa using h
    go_enter Tryd.func52, Tryd.ntmps52
    go_wp2_with fail
    go_ret
    exact ⟨ret_int (by omega), rfl⟩

set_option maxRecDepth 100000 in
set_option maxHeartbeats 800000 in
theorem empty_any (p n : Nat) (w : World) (hp : p < 512) (hn : n < 512) :
    Calls Tryd.prog 66 #[SetV (p, n)] w fun e w' => e = .returned (.bool (p ||| n == 0)) ∧ Below w.heap.size w w' := by
  have hor : bits .or .i64 (p : Int) (n : Int) = ((p ||| n : Nat) : Int) := i64_or _ _ (by omega) (by omega)
  have HE := hide (int_eq_zero (p ||| n))
  go_enter Tryd.func66, Tryd.ntmps66
  go_wp2_with fail
  go_ret
  exact ⟨ret_bool (unhide HE), (Below.refl _ _).alloc (Nat.le_refl _) _⟩

set_option maxRecDepth 100000 in
set_option maxHeartbeats 800000 in
theorem clashes_any (p n : Nat) (w : World) (hp : p < 512) (hn : n < 512) :
    Calls Tryd.prog 73 #[SetV (p, n)] w fun e w' => e = .returned (.bool (p &&& n != 0)) ∧ Below w.heap.size w w' := by
  have hand : bits .and .i64 (p : Int) (n : Int) = ((p &&& n : Nat) : Int) := i64_and _ _ (by omega) (by omega)
  have HE := hide (int_ne_zero (p &&& n))
  go_enter Tryd.func73, Tryd.ntmps73
  go_wp2_with fail
  go_ret
  exact ⟨ret_bool (unhide HE), (Below.refl _ _).alloc (Nat.le_refl _) _⟩

set_option maxRecDepth 100000 in
set_option maxHeartbeats 800000 in
theorem meets_any (p n p2 n2 : Nat) (w : World) (hp : p < 512) (hn : n < 512) (hp2 : p2 < 512) (hn2 : n2 < 512) :
    Calls Tryd.prog 67 #[SetV (p, n), SetV (p2, n2)] w fun e w' => e = .returned (.bool ((p &&& p2) ||| (n &&& n2) != 0)) ∧ Below w.heap.size w w' := by
  have h1 : bits .and .i64 (p : Int) (p2 : Int) = ((p &&& p2 : Nat) : Int) := i64_and _ _ (by omega) (by omega)
  have h2 : bits .and .i64 (n : Int) (n2 : Int) = ((n &&& n2 : Nat) : Int) := i64_and _ _ (by omega) (by omega)
  have h3 : bits .or .i64 ((p &&& p2 : Nat) : Int) ((n &&& n2 : Nat) : Int) = (((p &&& p2) ||| (n &&& n2) : Nat) : Int) := i64_or _ _ (by have := and_lt9 p p2 hp; omega) (by have := and_lt9 n n2 hn; omega)
  have HE := hide (int_ne_zero ((p &&& p2) ||| (n &&& n2)))
  go_enter Tryd.func67, Tryd.ntmps67
  go_wp2_with fail
  go_ret
  exact ⟨ret_bool (unhide HE), ((Below.refl _ _).alloc (Nat.le_refl _) _).alloc (by simp) _⟩

/-- A set has a literal. -/
def hasLit (c : Nat × Nat) (x : Int) : Bool := if x < 0 then c.2 &&& bitOf (-x) != 0 else c.1 &&& bitOf x != 0
set_option maxRecDepth 100000 in
set_option maxHeartbeats 800000 in
theorem has_any (p n : Nat) (x : Int) (w : World) (hp : p < 512) (hn : n < 512) (hx : -9223372036854775807 ≤ x) (hx2 : x ≤ 9223372036854775807) :
    Calls Tryd.prog 51 #[SetV (p, n), .int .i64 x] w fun e w' => e = .returned (.bool (hasLit (p, n) x)) ∧ Below w.heap.size w w' := by
  by_cases h : x < 0
  · have HW : Hid (hasLit (p, n) x = (n &&& bitOf (-x) != 0)) := hide (by unfold hasLit; rw [if_pos h])
    have hd : decide (x < 0) = true := by simpa using h
    have hwx : IntKind.i64.wrap (-x) = -x := by
      obtain ⟨m, hm⟩ := Int.eq_ofNat_of_zero_le (show 0 ≤ -x by omega)
      rw [hm]; exact wrap_i64_nat m (by omega)
    have hand : bits .and .i64 (n : Int) (bitOf (-x) : Nat) = ((n &&& bitOf (-x) : Nat) : Int) := i64_and _ _ (by omega) (by have := bitOf_lt (-x); omega)
    have HE := hide (int_ne_zero (n &&& bitOf (-x)))
    go_enter Tryd.func51, Tryd.ntmps51
    go_wp2_with fail
    go_quiet ((go_at_call 46; exact Calls.quiet_of_same (bit_any _ _)))
    go_wp2_with fail
    go_ret
    exact ⟨ret_bool (by rw [unhide HW]; exact unhide HE), below_drewN ((Below.refl _ _).alloc (Nat.le_refl _) _) nq⟩
  · have HW : Hid (hasLit (p, n) x = (p &&& bitOf x != 0)) := hide (by unfold hasLit; rw [if_neg h])
    have hd : decide (x < 0) = false := by simpa using h
    have hand : bits .and .i64 (p : Int) (bitOf x : Nat) = ((p &&& bitOf x : Nat) : Int) := i64_and _ _ (by omega) (by have := bitOf_lt x; omega)
    have HE := hide (int_ne_zero (p &&& bitOf x))
    go_enter Tryd.func51, Tryd.ntmps51
    go_wp2_with fail
    go_quiet ((go_at_call 46; exact Calls.quiet_of_same (bit_any _ _)))
    go_wp2_with fail
    go_ret
    exact ⟨ret_bool (by rw [unhide HW]; exact unhide HE), below_drewN ((Below.refl _ _).alloc (Nat.le_refl _) _) nq⟩

set_option maxRecDepth 100000 in
set_option maxHeartbeats 800000 in
theorem union_any (p n p2 n2 : Nat) (w : World) (hp : p < 512) (hn : n < 512) (hp2 : p2 < 512) (hn2 : n2 < 512) :
    Calls Tryd.prog 77 #[SetV (p, n), SetV (p2, n2)] w fun e w' => e = .returned (SetV (p ||| p2, n ||| n2)) ∧ Below w.heap.size w w' := by
  have h1 : bits .or .i64 (p : Int) (p2 : Int) = ((p ||| p2 : Nat) : Int) := i64_or _ _ (by omega) (by omega)
  have h2 : bits .or .i64 (n : Int) (n2 : Int) = ((n ||| n2 : Nat) : Int) := i64_or _ _ (by omega) (by omega)
  go_enter Tryd.func77, Tryd.ntmps77
  go_wp2_with fail
  refine bodyPost_ret (v := SetV (p ||| p2, n ||| n2)) (by simp [results, Tryd.results77, go_sem]) rfl ⟨rfl, ?_⟩
  exact ((((Below.refl _ _).alloc (Nat.le_refl _) _).alloc (by simp) _)).alloc (by simp; omega) _

/-- A set without a variable's literals. -/
def without (c : Nat × Nat) (v : Int) : Nat × Nat := (less c.1 (bitOf v), less c.2 (bitOf v))
set_option maxRecDepth 100000 in
set_option maxHeartbeats 800000 in
theorem withoutVar_any (p n : Nat) (v : Int) (w : World) (hp : p < 512) (hn : n < 512) :
    Calls Tryd.prog 78 #[SetV (p, n), .int .i64 v] w fun e w' => e = .returned (SetV (without (p, n) v)) ∧ Below w.heap.size w w' := by
  have hb := bitOf_lt v
  have h1 : bits .andNot .i64 (p : Int) (bitOf v : Nat) = ((less p (bitOf v) : Nat) : Int) := i64_andNot _ _ (by omega) (by omega)
  have h2 : bits .andNot .i64 (n : Int) (bitOf v : Nat) = ((less n (bitOf v) : Nat) : Int) := i64_andNot _ _ (by omega) (by omega)
  go_enter Tryd.func78, Tryd.ntmps78
  go_wp2_with fail
  refine (bit_any _ _).mono ?_
  rintro e w1 ⟨rfl, rfl⟩
  go_wp2_with fail
  refine bodyPost_ret (v := SetV (without (p, n) v)) (by simp [results, Tryd.results78, go_sem, without]) rfl ⟨rfl, ?_⟩
  exact (((Below.refl _ _).alloc (Nat.le_refl _) _).alloc (by simp) _)
end Go.Proofs.YtgipjjhkhfihpaaDoor

namespace Go.Proofs.YtgipjjhkhfihpaaDoor
open Go.RowKit

/-- What holds of the formula and the steps. -/
structure QB (q : QS) : Prop where
  vl : q.vars.length ≤ 8
  cl : q.cl.length ≤ 24
  bits : ∀ c ∈ q.cl, c.1 < 512 ∧ c.2 < 512
  names : ∀ x ∈ q.vars, 1 ≤ x.1 ∧ x.1 ≤ 8
structure SB (ss : List (Nat × Nat)) : Prop where
  len : ss.length ≤ 9000
  bits : ∀ c ∈ ss, c.1 < 512 ∧ c.2 < 512
def pivotB (kind : Nat) (u : Bool) : Bool := u == (kind == 2)
def hasVarB (c : Nat × Nat) (v : Nat) : Bool := (c.1 ||| c.2) &&& bitOf v != 0
/-- From the innermost variable outwards. -/
def redQ (kind : Nat) : List (Nat × Bool) → Nat × Nat → Nat × Nat
  | [], c => c
  | v :: vs, c => if hasVarB c v.1 then (if pivotB kind v.2 then c else redQ kind vs (without c v.1)) else redQ kind vs c
theorem without_lt (c : Nat × Nat) (v : Int) (h : c.1 < 512 ∧ c.2 < 512) : (without c v).1 < 512 ∧ (without c v).2 < 512 := ⟨less_lt9 _ _ h.1, less_lt9 _ _ h.2⟩
theorem redQ_lt (kind : Nat) (vs : List (Nat × Bool)) : ∀ (c : Nat × Nat), c.1 < 512 ∧ c.2 < 512 → (redQ kind vs c).1 < 512 ∧ (redQ kind vs c).2 < 512 := by
  induction vs with
  | nil => intro c h; exact h
  | cons v vs ih =>
    intro c h
    rw [redQ]
    split
    · split
      · exact h
      · exact ih _ (without_lt _ _ h)
    · exact ih _ h
theorem redQ_step (kind : Nat) (vs : List (Nat × Bool)) (k : Nat) (h : k < vs.length) (c : Nat × Nat) :
    redQ kind (vs.take (k + 1)).reverse c = if hasVarB c vs[k].1 then (if pivotB kind vs[k].2 then c else redQ kind (vs.take k).reverse (without c vs[k].1)) else redQ kind (vs.take k).reverse c := by
  rw [List.take_succ_eq_append_getElem h, List.reverse_append]
  rfl
def without2 (a b : Nat × Nat) (v : Nat) : Nat × Nat := without (a.1 ||| b.1, a.2 ||| b.2) v
def okC (x c : Nat × Nat) : Bool := ((x.1 &&& c.1) ||| (x.2 &&& c.2) != 0) || (x.1 &&& x.2 != 0)
def satQ (cl : List (Nat × Nat)) (c : Nat × Nat) : Bool := cl.all (okC · c)
theorem satQ_take (cl : List (Nat × Nat)) (c : Nat × Nat) (k : Nat) (h : k < cl.length) : satQ (cl.take (k + 1)) c = (satQ (cl.take k) c && okC cl[k] c) := by
  unfold satQ; rw [List.take_succ_eq_append_getElem h, List.all_append]; simp
theorem satQ_of (cl : List (Nat × Nat)) (c : Nat × Nat) (k : Nat) (h : k < cl.length) (hc : okC cl[k] c = false) : satQ cl c = false := by
  unfold satQ; rw [List.all_eq_false]; exact ⟨cl[k], List.getElem_mem h, by rw [hc]; decide⟩

/-! ### Steps as the program holds them -/
structure Stp where
  rule : Nat
  first : Nat
  second : Nat
  var : Nat
  lits : Nat × Nat
def litsAt (p : List Stp) (n : Nat) : Nat × Nat := if n = 0 then (0, 0) else match p[n - 1]? with
  | some s => s.lits
  | none => (0, 0)
def psCells (l : List Stp) : List Value := l.flatMap (fun s => [Value.int .i64 (s.rule : Int), Value.int .i64 (s.first : Int), Value.int .i64 (s.second : Int), Value.int .i64 (s.var : Int), Value.int .i64 (s.lits.1 : Int), Value.int .i64 (s.lits.2 : Int)])
theorem psCells_length (l : List Stp) : (psCells l).length = l.length * 6 := by
  induction l with
  | nil => rfl
  | cons a l ih => simp [psCells] at *; omega
theorem psCells_snoc (l : List Stp) (s : Stp) : psCells (l ++ [s]) = psCells l ++ [Value.int .i64 (s.rule : Int), Value.int .i64 (s.first : Int), Value.int .i64 (s.second : Int), Value.int .i64 (s.var : Int), Value.int .i64 (s.lits.1 : Int), Value.int .i64 (s.lits.2 : Int)] := by simp [psCells]
theorem psCells_at (l : List Stp) (k j : Nat) (h : k < l.length) (hj : j < 6) : (psCells l)[k * 6 + j]? = [Value.int .i64 (l[k].rule : Int), Value.int .i64 (l[k].first : Int), Value.int .i64 (l[k].second : Int), Value.int .i64 (l[k].var : Int), Value.int .i64 (l[k].lits.1 : Int), Value.int .i64 (l[k].lits.2 : Int)][j]? := by
  induction l generalizing k with
  | nil => simp at h
  | cons a l ih =>
    cases k with
    | zero =>
      simp only [psCells, List.flatMap_cons, Nat.zero_mul, Nat.zero_add, List.getElem_cons_zero]
      rw [List.getElem?_append_left (by simpa using hj)]
    | succ k =>
      have := ih k (by simpa using h)
      simp only [psCells, List.flatMap_cons] at this ⊢
      rw [show (k + 1) * 6 + j = (k * 6 + j) + 6 from by omega, List.getElem?_append_right (by simp)]
      simpa using this
theorem litsAt_in (p : List Stp) (m : Nat) (h : m < p.length) : litsAt p (m + 1) = p[m].lits := by
  unfold litsAt; rw [if_neg (by omega), Nat.add_sub_cancel, List.getElem?_eq_getElem h]
theorem litsAt_out (p : List Stp) (n : Nat) (h : n < 1 ∨ p.length < n) : litsAt p n = (0, 0) := by
  unfold litsAt
  split
  · rfl
  · rw [List.getElem?_eq_none (by omega)]
theorem litsAt_lt (p : List Stp) (h : ∀ s ∈ p, s.lits.1 < 512 ∧ s.lits.2 < 512) (n : Nat) : (litsAt p n).1 < 512 ∧ (litsAt p n).2 < 512 := by
  unfold litsAt
  split
  · exact ⟨by decide, by decide⟩
  · split
    · next s hs => exact h s (List.mem_of_getElem? hs)
    · exact ⟨by decide, by decide⟩
end Go.Proofs.YtgipjjhkhfihpaaDoor

namespace Go.Proofs.YtgipjjhkhfihpaaDoor
open Go.RowKit

/-! ### The search, as a function -/
def meetsB (a b : Nat × Nat) : Bool := (a.1 &&& b.1) ||| (a.2 &&& b.2) != 0
def clashB (a : Nat × Nat) : Bool := a.1 &&& a.2 != 0
def emptyB (a : Nat × Nat) : Bool := a.1 ||| a.2 == 0
def minus (a b : Nat × Nat) : Nat × Nat := (less a.1 b.1, less a.2 b.2)
def swapL (a : Nat × Nat) : Nat × Nat := (a.2, a.1)
/-- The resolvent of two steps, added. -/
def resP (p : List Stp) (a b v : Nat) : List Stp × Nat :=
  if hasLit (litsAt p a) v then (p ++ [⟨3, a, b, v, without2 (litsAt p a) (litsAt p b) v⟩], p.length + 1)
  else (p ++ [⟨3, b, a, v, without2 (litsAt p b) (litsAt p a) v⟩], p.length + 1)
def redP (q : QS) (kind : Nat) (p : List Stp) (n : Nat) : List Stp × Nat :=
  if redQ kind q.vars.reverse (litsAt p n) = litsAt p n then (p, n) else (p ++ [⟨4, n, 0, 0, redQ kind q.vars.reverse (litsAt p n)⟩], p.length + 1)
/-- What changes while nodes are looked at. -/
structure SS where
  nodes : Nat
  ref : List Stp
  aff : List Stp
  kept : List (Nat × Nat)
  most : Nat
/-- What doesn't. -/
structure SC where
  q : QS
  uni : Nat × Nat
  budget : Nat
  room : Nat
def SS.proof (s : SS) (kind : Nat) : List Stp := if kind = 2 then s.aff else s.ref
def SS.lits (s : SS) (f : Nat × Nat) : Nat × Nat := litsAt (s.proof f.1) f.2
def SS.put (s : SS) (kind : Nat) (p : List Stp) : SS := if kind = 2 then { s with aff := p } else { s with ref := p }
def storeK (room : Nat) (kept : List (Nat × Nat)) (f : Nat × Nat) : List (Nat × Nat) := if room = 0 then kept else if room ≤ kept.length then kept.drop 1 ++ [f] else kept ++ [f]
def storeM (room : Nat) (kept : List (Nat × Nat)) (f : Nat × Nat) (most : Nat) : Nat := if room = 0 then most else if most < (storeK room kept f).length then (storeK room kept f).length else most
def SS.store (room : Nat) (s : SS) (f : Nat × Nat) : SS := { s with kept := storeK room s.kept f, most := storeM room s.kept f s.most }
def SS.keep (room : Nat) (s : SS) (f : Nat × Nat) : SS := if emptyB (s.lits f) then s else s.store room f
def SS.reduce (q : QS) (s : SS) (f : Nat × Nat) : SS × (Nat × Nat) := (s.put f.1 (redP q f.1 (s.proof f.1) f.2).1, (f.1, (redP q f.1 (s.proof f.1) f.2).2))

def clausesOf (q : QS) (kept : List (Nat × Nat)) : List Nat := (List.range q.cl.length).map (· + 1) ++ (kept.filter (fun f => f.1 == 1)).map (·.2)
def leftOf (c vals : Nat × Nat) : Nat × Nat := minus c (swapL vals)
def openB (c vals : Nat × Nat) : Bool := !meetsB c vals && !clashB c
def isConf (uni vals c : Nat × Nat) : Bool := openB c vals && emptyB (minus (leftOf c vals) uni)
def confOf (ref : List Stp) (uni : Nat × Nat) (cs : List Nat) (vals : Nat × Nat) : Nat := (cs.find? (fun s => isConf uni vals (litsAt ref s))).getD 0
def listFrom (c : Nat × Nat) : Nat → Nat → List Int
  | 0, _ => []
  | k + 1, v => (if hasLit c v then [(v : Int)] else []) ++ ((if hasLit c (-(v : Int)) then [-(v : Int)] else []) ++ listFrom c k (v + 1))
/-- The literals, rising. -/
def listOf (c : Nat × Nat) : List Int := listFrom c 8 1
def isUnit (uni vals c : Nat × Nat) : Bool := openB c vals && ((listOf (leftOf c vals)).length == 1 && !meetsB (leftOf c vals) uni)
def unitOf (ref : List Stp) (uni : Nat × Nat) (cs : List Nat) (vals : Nat × Nat) : Int × Nat := match cs.find? (fun s => isUnit uni vals (litsAt ref s)) with
  | none => (0, 0)
  | some s => ((listOf (leftOf (litsAt ref s) vals)).headD 0, s)
structure US where
  vals : Nat × Nat
  trail : List (Int × Nat)
  conf : Nat
def unitsGo (ref : List Stp) (uni : Nat × Nat) (cs : List Nat) : Nat → Nat × Nat → List (Int × Nat) → US
  | 0, vals, trail => ⟨vals, trail, 0⟩
  | m + 1, vals, trail => if confOf ref uni cs vals ≠ 0 then ⟨vals, trail, confOf ref uni cs vals⟩ else
    if (unitOf ref uni cs vals).2 = 0 then ⟨vals, trail, 0⟩ else unitsGo ref uni cs m (withLit vals (unitOf ref uni cs vals).1) (trail ++ [unitOf ref uni cs vals])
def unitsOf (C : SC) (s : SS) (path : Nat × Nat) : US := unitsGo s.ref C.uni (clausesOf C.q s.kept) (C.q.vars.length + 1) path []
/-- From the last unit to the first. -/
def expl : List (Int × Nat) → List Stp → Nat → List Stp × Nat
  | [], p, n => (p, n)
  | m :: ms, p, n => if hasLit (litsAt p n) (-m.1) then expl ms (resP p m.2 n m.1.natAbs).1 (resP p m.2 n m.1.natAbs).2 else expl ms p n
def explain (C : SC) (s : SS) (u : US) : SS × (Nat × Nat) :=
  let r := expl u.trail.reverse s.ref u.conf
  let d := redP C.q 1 r.1 r.2
  let s2 : SS := { s with ref := d.1 }
  (if r.2 ≠ u.conf then s2.keep C.room (1, d.2) else s2, (1, d.2))
def holdsB (c path : Nat × Nat) : Bool := emptyB (minus c path)
def shrinkStep (q : QS) (u : Bool) (c : Nat × Nat) (v : Nat × Bool) : Nat × Nat := if v.2 = u ∧ satQ q.cl (without c v.1) = true then without c v.1 else c
def shrinkK (q : QS) (u : Bool) (c : Nat × Nat) : Nat × Nat := q.vars.reverse.foldl (shrinkStep q u) c
def shrinkQ (q : QS) (c : Nat × Nat) : Nat × Nat := shrinkK q false (shrinkK q true c)
def cubeOf (C : SC) (s : SS) (path vals : Nat × Nat) : SS × (Nat × Nat) :=
  match s.kept.find? (fun f => f.1 == 2 && holdsB (s.lits f) path) with
  | some f => (s, f)
  | none => if satQ C.q.cl vals then
      let p := s.aff ++ [⟨2, 0, 0, 0, shrinkQ C.q vals⟩]
      let d := redP C.q 2 p p.length
      let s2 : SS := { s with aff := d.1 }
      (s2.keep C.room (2, d.2), (2, d.2))
    else (s, (0, 0))
/-- A node ahead of its branches: what was found, or the values. -/
def nodeOf (C : SC) (s : SS) (path : Nat × Nat) : (SS × (Nat × Nat)) ⊕ (SS × (Nat × Nat)) :=
  if 0 < C.budget ∧ C.budget ≤ s.nodes then .inl (s, (0, 0)) else
  let s1 : SS := { s with nodes := s.nodes + 1 }
  let u := unitsOf C s1 path
  if u.conf ≠ 0 then .inl (explain C s1 u) else
  let r := cubeOf C s1 path u.vals
  if r.2.1 ≠ 0 then .inl r else .inr (r.1, u.vals)
def joinOf (C : SC) (s : SS) (a b : Nat × Nat) (v : Nat) : SS × (Nat × Nat) :=
  let r := resP (s.proof a.1) a.2 b.2 v
  let d := redP C.q a.1 r.1 r.2
  let s2 := s.put a.1 d.1
  (s2.keep C.room (a.1, d.2), (a.1, d.2))
def lookM (C : SC) : Nat → Nat × Nat → Nat → SS → SS × (Nat × Nat)
  | 0, path, _, s => match nodeOf C s path with
    | .inl r => r
    | .inr r => (r.1, (0, 0))
  | m + 1, path, depth, s => match nodeOf C s path with
    | .inl r => r
    | .inr (s1, vals) =>
      let v := (C.q.vars.getD depth (0, false)).1
      let side : Int := if hasLit vals (-(v : Int)) then -(v : Int) else v
      let a := lookM C m (withLit path side) (depth + 1) s1
      if hasVarB (a.1.lits a.2) v then
        let b := lookM C m (withLit path (-side)) (depth + 1) a.1
        if hasVarB (b.1.lits b.2) v then joinOf C b.1 a.2 b.2 v else b
      else a
/-! ### What is needed of a proof, and its text -/
def markOne (b : Bool) (i n : Nat) (m : List Bool) : List Bool := if b = true ∧ 0 < n ∧ n < i then m.set n true else m
def markStep (p : List Stp) (last i : Nat) (m : List Bool) : List Bool :=
  let m1 := if i = last then m.set i true else m
  let b := m1.getD i false && decide ((p.getD (i - 1) ⟨0, 0, 0, 0, (0, 0)⟩).rule ≠ 1)
  markOne b i (p.getD (i - 1) ⟨0, 0, 0, 0, (0, 0)⟩).second (markOne b i (p.getD (i - 1) ⟨0, 0, 0, 0, (0, 0)⟩).first m1)
def markTo (p : List Stp) (last : Nat) : Nat → List Bool → List Bool
  | 0, m => m
  | i + 1, m => markTo p last i (markStep p last (i + 1) m)
def needs (p : List Stp) (last : Nat) : List Bool := markTo p last p.length (List.replicate (p.length + 1) false)
/-- A step with the new numbers of those that it is made of. -/
def renum (nums : List Nat) (i : Nat) (s : Stp) : Stp := { s with first := if s.rule ≠ 1 ∧ s.first ≤ i then nums.getD s.first 0 else s.first, second := if s.second ≤ i then nums.getD s.second 0 else s.second }
def shortTo (p : List Stp) (mk : List Bool) : Nat → List Stp → List Nat → List Stp × List Nat
  | 0, sh, nums => (sh, nums)
  | m + 1, sh, nums =>
    let i := p.length - (m + 1)
    if mk.getD (i + 1) false then shortTo p mk m (sh ++ [renum nums i (p.getD i ⟨0, 0, 0, 0, (0, 0)⟩)]) (nums.set (i + 1) (sh.length + 1)) else shortTo p mk m sh nums
def shortOf (p : List Stp) (last : Nat) : List Stp := (shortTo p (needs p last) p.length [] (List.replicate (p.length + 1) 0)).1

def uniTo (vs : List (Nat × Bool)) (u : Nat × Nat) : Nat × Nat := vs.foldl (fun u v => if v.2 then withLit (withLit u v.1) (-(v.1 : Int)) else u) u
def axioms (cl : List (Nat × Nat)) : List Stp := cl.zipIdx.map (fun c => ⟨1, c.2 + 1, 0, 0, c.1⟩)
def beginC (q : QS) (budget room : Nat) : SC := ⟨q, uniTo q.vars (0, 0), budget, room⟩
def beginS (q : QS) : SS := ⟨0, axioms q.cl, [], [], 0⟩
def solveM (q : QS) (budget room : Nat) : SS × (Nat × Nat) := lookM (beginC q budget room) q.vars.length (0, 0) 0 (beginS q)
end Go.Proofs.YtgipjjhkhfihpaaDoor

namespace Go.Proofs.YtgipjjhkhfihpaaDoor

/-! ### Truth by all assignments, and why steps prove -/
/-- Variable by variable: one value that makes it so, or (of universal ones) both. -/
def fromL (sat : Nat → Bool) (all : Nat) : List Nat → Nat → Bool
  | [], t => sat t
  | v :: vs, t => if fromL sat all vs (t ||| 2 ^ v) != all.testBit v then fromL sat all vs (t ||| 2 ^ v) else fromL sat all vs t
/-- A set of literals is hit by t: it has one that is true (val: true), or one that is false (val: false). -/
def Hit (val : Bool) (c : Nat × Nat) (t : Nat) : Prop := ∃ v, (c.1.testBit v = true ∧ t.testBit v = val) ∨ (c.2.testBit v = true ∧ t.testBit v = !val)
/-- t comes out of t0 by values of vs, at each of which the outcome stays val. -/
def Plays (sat : Nat → Bool) (all : Nat) (val : Bool) : List Nat → Nat → Nat → Prop
  | [], t0, t => sat t0 = val ∧ t = t0
  | v :: vs, t0, t => fromL sat all (v :: vs) t0 = val ∧ ∃ b : Bool, Plays sat all val vs (if b then t0 ||| 2 ^ v else t0) t

section
variable {sat : Nat → Bool} {all : Nat} {val : Bool}

theorem Plays.from {vs : List Nat} {t0 t : Nat} (h : Plays sat all val vs t0 t) : fromL sat all vs t0 = val := by
  cases vs with
  | nil => exact h.1
  | cons v vs => exact h.1
theorem from_both {v : Nat} {vs : List Nat} {t : Nat} (h : fromL sat all (v :: vs) t = val) (hk : all.testBit v = val) (b : Bool) : fromL sat all vs (if b then t ||| 2 ^ v else t) = val := by
  rw [fromL, hk] at h
  cases ha : fromL sat all vs (t ||| 2 ^ v) <;> cases hv : val <;> cases b <;> simp_all
theorem from_one {v : Nat} {vs : List Nat} {t : Nat} (h : fromL sat all (v :: vs) t = val) : ∃ b : Bool, fromL sat all vs (if b then t ||| 2 ^ v else t) = val := by
  rw [fromL] at h
  split at h
  · exact ⟨true, h⟩
  · exact ⟨false, h⟩
theorem bit_or (t v u : Nat) : (t ||| 2 ^ v).testBit u = (t.testBit u || decide (v = u)) := by rw [Nat.testBit_or, Nat.testBit_two_pow]
theorem pick_bit (b : Bool) (t v u : Nat) (h : u ≠ v) : (if b then t ||| 2 ^ v else t).testBit u = t.testBit u := by
  cases b with
  | false => rfl
  | true => rw [if_pos rfl, bit_or]; simp [Ne.symm h]
theorem pick_at (b : Bool) (t v : Nat) (h : t.testBit v = false) : (if b then t ||| 2 ^ v else t).testBit v = b := by
  cases b with
  | false => exact h
  | true => rw [if_pos rfl, bit_or]; simp
/-- Bits of other variables stay. -/
theorem Plays.stays : ∀ {vs : List Nat} {t0 t : Nat}, Plays sat all val vs t0 t → ∀ u, u ∉ vs → t.testBit u = t0.testBit u := by
  intro vs
  induction vs with
  | nil => intro t0 t h u _; rw [h.2]
  | cons v vs ih =>
    intro t0 t h u hu
    obtain ⟨_, b, h⟩ := h
    rw [List.mem_cons, not_or] at hu
    rw [ih h u hu.2, pick_bit _ _ _ _ hu.1]
/-- Where the outcome is val, some play leads on, whatever values the variables have that are of the kind that val is for. -/
theorem plays_ext (f : Nat → Bool) : ∀ (vs : List Nat) (t0 : Nat), fromL sat all vs t0 = val → vs.Nodup → (∀ v ∈ vs, t0.testBit v = false) → ∃ t, Plays sat all val vs t0 t ∧ ∀ v ∈ vs, all.testBit v = val → t.testBit v = f v := by
  intro vs
  induction vs with
  | nil => intro t0 h _ _; exact ⟨t0, ⟨h, rfl⟩, by simp⟩
  | cons v vs ih =>
    intro t0 h hn h0
    rw [List.nodup_cons] at hn
    have hstep : ∃ b : Bool, fromL sat all vs (if b then t0 ||| 2 ^ v else t0) = val ∧ (all.testBit v = val → b = f v) := by
      by_cases hk : all.testBit v = val
      · exact ⟨f v, from_both h hk _, fun _ => rfl⟩
      · obtain ⟨b, hb⟩ := from_one h
        exact ⟨b, hb, fun e => absurd e hk⟩
    obtain ⟨b, hb, hf⟩ := hstep
    obtain ⟨t, hp, ht⟩ := ih _ hb hn.2 (fun u hu => by
      rw [pick_bit b t0 v u (fun e => hn.1 (by rw [← e]; exact hu))]
      exact h0 u (by simp [hu]))
    refine ⟨t, ⟨h, b, hp⟩, fun u hu hk => ?_⟩
    rcases List.mem_cons.1 hu with rfl | hu
    · rw [hp.stays u hn.1, pick_at _ _ _ (h0 u (by simp))]
      exact hf hk
    · exact ht u hu hk
theorem plays_any_one (vs : List Nat) (t0 : Nat) (h : fromL sat all vs t0 = val) (hn : vs.Nodup) (h0 : ∀ v ∈ vs, t0.testBit v = false) : ∃ t, Plays sat all val vs t0 t := by
  obtain ⟨t, ht, _⟩ := plays_ext (fun _ => false) vs t0 h hn h0
  exact ⟨t, ht⟩
/-- A play cut in two. -/
theorem Plays.cut : ∀ {a b : List Nat} {t0 t : Nat}, Plays sat all val (a ++ b) t0 t → ∃ t1, Plays sat all val b t1 t ∧ (∀ t', Plays sat all val b t1 t' → Plays sat all val (a ++ b) t0 t') ∧ (∀ u, u ∉ a → t1.testBit u = t0.testBit u) := by
  intro a
  induction a with
  | nil => intro b t0 t h; exact ⟨t0, h, fun t' h' => h', fun u _ => rfl⟩
  | cons v a ih =>
    intro b t0 t h
    obtain ⟨h1, c, h2⟩ := h
    obtain ⟨t1, h3, h4, h5⟩ := ih h2
    refine ⟨t1, h3, fun t' h' => ⟨h1, c, h4 t' h'⟩, fun u hu => ?_⟩
    rw [List.mem_cons, not_or] at hu
    rw [h5 u hu.2, pick_bit _ _ _ _ hu.1]
theorem Plays.leaf : ∀ {vs : List Nat} {t0 t : Nat}, Plays sat all val vs t0 t → sat t = val := by
  intro vs
  induction vs with
  | nil => intro t0 t h; rw [h.2]; exact h.1
  | cons v vs ih => intro t0 t h; obtain ⟨_, b, h⟩ := h; exact ih h

/-- What holds of every step of a proof. -/
structure Good (sat : Nat → Bool) (all : Nat) (val : Bool) (order : List Nat) (c : Nat × Nat) : Prop where
  apart : ∀ v, c.1.testBit v = true → c.2.testBit v = true → False
  vars : ∀ v, c.1.testBit v = true ∨ c.2.testBit v = true → v ∈ order
  hits : ∀ t, Plays sat all val order 0 t → Hit val c t

/-- Reduction. -/
theorem good_reduced {pre suf : List Nat} {c c' : Nat × Nat} (hg : Good sat all val (pre ++ suf) c) (hn : (pre ++ suf).Nodup)
    (hlast : ∀ v ∈ suf, c.1.testBit v = true ∨ c.2.testBit v = true → all.testBit v = val)
    (h1 : ∀ v, c'.1.testBit v = (c.1.testBit v && !(decide (v ∈ suf) && (all.testBit v == val)))) (h2 : ∀ v, c'.2.testBit v = (c.2.testBit v && !(decide (v ∈ suf) && (all.testBit v == val)))) : Good sat all val (pre ++ suf) c' := by
  have s1 : ∀ v, c'.1.testBit v = true → c.1.testBit v = true := fun v h => by rw [h1, Bool.and_eq_true] at h; exact h.1
  have s2 : ∀ v, c'.2.testBit v = true → c.2.testBit v = true := fun v h => by rw [h2, Bool.and_eq_true] at h; exact h.1
  refine ⟨fun v a b => hg.apart v (s1 v a) (s2 v b), fun v h => hg.vars v (h.elim (fun h => Or.inl (s1 v h)) (fun h => Or.inr (s2 v h))), fun t ht => ?_⟩
  obtain ⟨t1, h3, h4, h5⟩ := ht.cut
  rw [List.nodup_append] at hn
  obtain ⟨hn1, hn2, hn3⟩ := hn
  have hz : ∀ v ∈ suf, t1.testBit v = false := fun v hv => by
    rw [h5 v (fun hp => hn3 v hp v hv rfl)]; simp
  obtain ⟨t', hp', hf'⟩ := plays_ext (fun v => if c.1.testBit v then !val else val) suf t1 h3.from hn2 hz
  obtain ⟨v, hv⟩ := hg.hits t' (h4 t' hp')
  have hvo : v ∈ pre ++ suf := hg.vars v (hv.elim (fun h => Or.inl h.1) (fun h => Or.inr h.1))
  by_cases hs : v ∈ suf
  · have hk := hlast v hs (hv.elim (fun h => Or.inl h.1) (fun h => Or.inr h.1))
    have hb := hf' v hs hk
    rcases hv with ⟨a, b⟩ | ⟨a, b⟩
    · rw [b, a, if_pos rfl] at hb
      cases val <;> cases hb
    · have hc1 : c.1.testBit v = false := by
        cases h : c.1.testBit v with
        | false => rfl
        | true => exact (hg.apart v h a).elim
      rw [b, hc1, if_neg (by decide)] at hb
      cases val <;> cases hb
  · have e1 : t'.testBit v = t.testBit v := by rw [hp'.stays v hs, h3.stays v hs]
    refine ⟨v, ?_⟩
    rw [h1, h2, ← e1]
    simpa [hs] using hv
/-- Resolution. -/
theorem good_resolved {order : List Nat} {a b c : Nat × Nat} {p : Nat} (ha : Good sat all val order a) (hb : Good sat all val order b) (_hap : a.1.testBit p = true) (_hbp : b.2.testBit p = true)
    (h1 : ∀ v, c.1.testBit v = ((a.1.testBit v && !(decide (v = p))) || b.1.testBit v)) (h2 : ∀ v, c.2.testBit v = (a.2.testBit v || (b.2.testBit v && !(decide (v = p)))))
    (hc : ∀ v, c.1.testBit v = true → c.2.testBit v = true → False) : Good sat all val order c := by
  refine ⟨hc, fun v h => ?_, fun t ht => ?_⟩
  · rw [h1, h2] at h
    simp at h
    rcases h with (h | h) | (h | h)
    · exact ha.vars v (Or.inl h.1)
    · exact hb.vars v (Or.inl h)
    · exact ha.vars v (Or.inr h)
    · exact hb.vars v (Or.inr h.1)
  · obtain ⟨v, hv⟩ := ha.hits t ht
    obtain ⟨u, hu⟩ := hb.hits t ht
    rcases hv with ⟨x, y⟩ | ⟨x, y⟩
    · by_cases hvp : v = p
      · subst hvp
        rcases hu with ⟨x', y'⟩ | ⟨x', y'⟩
        · exact ⟨u, Or.inl ⟨by rw [h1]; simp [x'], y'⟩⟩
        · by_cases hup : u = v
          · subst hup
            rw [y] at y'
            cases val <;> cases y'
          · exact ⟨u, Or.inr ⟨by rw [h2]; simp [x', hup], y'⟩⟩
      · exact ⟨v, Or.inl ⟨by rw [h1]; simp [x, hvp], y⟩⟩
    · exact ⟨v, Or.inr ⟨by rw [h2]; simp [x], y⟩⟩
/-- A step with no literals ends it. -/
theorem good_empty {order : List Nat} {c : Nat × Nat} (hg : Good sat all val order c) (hn : order.Nodup) (h1 : c.1 = 0) (h2 : c.2 = 0) : fromL sat all order 0 = !val := by
  by_cases h : fromL sat all order 0 = val
  · obtain ⟨t, ht⟩ := plays_any_one order 0 h hn (fun v _ => by simp)
    obtain ⟨v, hv⟩ := hg.hits t ht
    rw [h1, h2] at hv
    simp at hv
  · cases val <;> cases hh : fromL sat all order 0 <;> simp_all
end
end Go.Proofs.YtgipjjhkhfihpaaDoor

namespace Go.Proofs.YtgipjjhkhfihpaaDoor
open Go.RowKit

/-! ### What a text proves, by the document -/
/-- A number from 1 to most; 0: none. -/
def cnt (w : List UInt8) (most : Nat) : Nat := if w.all isDigit = true ∧ w.length ≤ 6 ∧ w.head? ≠ some 48 ∧ dec w ≤ most then dec w else 0
def big : Nat := 1048576
def hasB (c : Nat × Nat) (v : Nat) : Bool := (c.1 ||| c.2).testBit v
/-- One more than the last place that bars reduction. -/
def lastTo (order : List Nat) (kind : Nat) (c : Nat × Nat) : Nat → Nat
  | 0 => 0
  | k + 1 => if hasB c (order.getD k 0) && !kind.testBit (order.getD k 0) then k + 1 else lastTo order kind c k
def clr (kind : Nat) (c : Nat × Nat) (v : Nat) : Nat × Nat := if kind.testBit v then (less c.1 (2 ^ v), less c.2 (2 ^ v)) else c
def redR (order : List Nat) (kind : Nat) (c : Nat × Nat) : Nat × Nat := (order.drop (lastTo order kind c order.length)).foldl (clr kind) c
def apartO (c : Nat × Nat) : Option (Nat × Nat) := if c.1 &&& c.2 = 0 then some c else none
def axR (F : Form) (k : Nat) : Option (Nat × Nat) := if k < 1 ∨ F.cl.length < k then none else apartO (F.cl.getD (k - 1) (0, 0))
def litVar (w : List UInt8) : Nat := if dig w = 0 then (dig w.tail).toNat else (dig w).toNat
def cubeTo (order : List Nat) : Nat × Nat → Nat → List (List UInt8) → Option (Nat × Nat)
  | c, _, [] => some c
  | c, last, w :: ws => if (litInto c w).2 = true ∧ last < litVar w ∧ litVar w ∈ order then cubeTo order (litInto c w).1 (litVar w) ws else none
def missed (x c : Nat × Nat) : Bool := (x.1 &&& x.2 == 0) && ((x.1 &&& c.1 == 0) && (x.2 &&& c.2 == 0))
def satR (cl : List (Nat × Nat)) (c : Nat × Nat) : Bool := cl.all (fun x => !missed x c)
def cubeR (F : Form) (tl : List (List UInt8)) : Option (Nat × Nat) := (cubeTo F.order (0, 0) 0 tl).bind (fun c => if satR F.cl c then some c else none)
def resolve2 (a b : Nat × Nat) (v : Nat) : Nat × Nat := (less a.1 (2 ^ v) ||| b.1, a.2 ||| less b.2 (2 ^ v))
def resR (F : Form) (truth : Bool) (ss : List (Nat × Nat)) (i j v : Nat) : Option (Nat × Nat) :=
  if i < 1 ∨ ss.length < i ∨ j < 1 ∨ ss.length < j ∨ v < 1 ∨ 8 < v then none else
  if F.all.testBit v ≠ truth ∨ (ss.getD (i - 1) (0, 0)).1.testBit v = false ∨ (ss.getD (j - 1) (0, 0)).2.testBit v = false then none else
  apartO (resolve2 (ss.getD (i - 1) (0, 0)) (ss.getD (j - 1) (0, 0)) v)
def kindR (F : Form) (truth : Bool) : Nat := if truth then less 510 F.all else F.all
def reductR (F : Form) (truth : Bool) (ss : List (Nat × Nat)) (i : Nat) : Option (Nat × Nat) :=
  if i < 1 ∨ ss.length < i then none else some (redR F.order (kindR F truth) (ss.getD (i - 1) (0, 0)))
/-- What a line adds to the steps. -/
def stepR (F : Form) (truth : Bool) (ss : List (Nat × Nat)) (hd : List UInt8) (tl : List (List UInt8)) : Option (Nat × Nat) :=
  if hd = [97] ∧ truth = false ∧ tl.length = 1 then axR F (cnt (tl.getD 0 []) big)
  else if hd = [99] ∧ truth = true then cubeR F tl
  else if hd = [114] ∧ tl.length = 3 then resR F truth ss (cnt (tl.getD 0 []) big) (cnt (tl.getD 1 []) big) (cnt (tl.getD 2 []) big)
  else if hd = [100] ∧ tl.length = 1 then reductR F truth ss (cnt (tl.getD 0 []) big)
  else none
def lineR (F : Form) (truth : Bool) (ss : List (Nat × Nat)) (row : List UInt8) : Option (Nat × Nat) :=
  match cutAt 32 row with
  | [] => none
  | hd :: tl => if ss.length = 9000 then none else stepR F truth ss hd tl
theorem lineR_eq (F : Form) (truth : Bool) (ss : List (Nat × Nat)) (row hd : List UInt8) (tl : List (List UInt8)) (h : cutAt 32 row = hd :: tl) : lineR F truth ss row = if ss.length = 9000 then none else stepR F truth ss hd tl := by
  unfold lineR; rw [h]
/-- Lines from the n-th on: the steps, or the first line that is none. -/
def rowsR (F : Form) (truth : Bool) : List (Nat × Nat) → Nat → List (List UInt8) → List (Nat × Nat) ⊕ Nat
  | ss, _, [] => .inl ss
  | ss, n, r :: rs => match lineR F truth ss r with
    | none => .inr (n + 1)
    | some c => rowsR F truth (ss ++ [c]) (n + 1) rs
def isTwo (row : List UInt8) : Bool := (cutAt 32 row).head? == some [114]
def twoR (rs : List (List UInt8)) : Nat := (rs.filter isTwo).length
def sTrue : List UInt8 := [112, 114, 111, 111, 102, 32, 116, 114, 117, 101]
def sFalse : List UInt8 := [112, 114, 111, 111, 102, 32, 102, 97, 108, 115, 101]
def emptyLast (ss : List (Nat × Nat)) : Bool := match ss.getLast? with
  | none => false
  | some c => c.1 ||| c.2 == 0
def provesR (F : Form) (l : List UInt8) : (Nat × Nat) ⊕ (Bool × Nat) :=
  if 262144 < l.length then .inl (1, 0) else
  match (cutTo 10 l).1 with
  | [] => .inl (5, 1)
  | r0 :: rs => if r0 = sTrue ∨ r0 = sFalse then
      match rowsR F (r0 == sTrue) [] 1 rs with
      | .inr i => .inl (5, i)
      | .inl ss => if (cutTo 10 l).2 = [] ∧ emptyLast ss = true then .inr (r0 == sTrue, twoR rs) else .inl (5, rs.length + 2)
    else .inl (5, 1)

/-! ### Bounds -/
def Bd (c : Nat × Nat) : Prop := c.1 < 512 ∧ c.2 < 512
theorem less_lt (a b : Nat) (h : a < 512) : less a b < 512 := Nat.lt_of_le_of_lt (less_le a b) h
theorem clr_bd (kind : Nat) (c : Nat × Nat) (v : Nat) (h : Bd c) : Bd (clr kind c v) := by
  unfold clr; split
  · exact ⟨less_lt _ _ h.1, less_lt _ _ h.2⟩
  · exact h
theorem clrs_bd (kind : Nat) (l : List Nat) : ∀ c, Bd c → Bd (l.foldl (clr kind) c) := by
  induction l with
  | nil => intro c h; exact h
  | cons v l ih => intro c h; exact ih _ (clr_bd kind c v h)
theorem litInto_bd (c : Nat × Nat) (w : List UInt8) (h : Bd c) : Bd (litInto c w).1 := litInto_lt c w h.1 h.2
theorem cubeTo_bd (order : List Nat) (ws : List (List UInt8)) : ∀ c last c', Bd c → cubeTo order c last ws = some c' → Bd c' := by
  induction ws with
  | nil => intro c last c' h e; simp [cubeTo] at e; subst e; exact h
  | cons w ws ih =>
    intro c last c' h e
    rw [cubeTo] at e
    split at e
    · exact ih _ _ _ (litInto_bd c w h) e
    · cases e
theorem apartO_some {c c' : Nat × Nat} (h : apartO c = some c') : c' = c ∧ c.1 &&& c.2 = 0 := by
  unfold apartO at h
  split at h
  · next hh => simp at h; exact ⟨h.symm, hh⟩
  · cases h
theorem getD_bd (l : List (Nat × Nat)) (k : Nat) (h : ∀ c ∈ l, Bd c) : Bd (l.getD k (0, 0)) := by
  rw [List.getD]
  cases hk : l[k]? with
  | none => exact ⟨by decide, by decide⟩
  | some c => exact h c (List.mem_of_getElem? hk)
theorem stepR_bd (F : Form) (truth : Bool) (ss : List (Nat × Nat)) (hd : List UInt8) (tl : List (List UInt8)) (c : Nat × Nat) (hF : ∀ c ∈ F.cl, Bd c) (hS : ∀ c ∈ ss, Bd c) (h : stepR F truth ss hd tl = some c) : Bd c := by
  unfold stepR at h
  split at h
  · unfold axR at h
    split at h
    · cases h
    · obtain ⟨rfl, _⟩ := apartO_some h; exact getD_bd _ _ hF
  · split at h
    · unfold cubeR at h
      cases hc : cubeTo F.order (0, 0) 0 tl with
      | none => rw [hc] at h; cases h
      | some c' =>
        rw [hc] at h
        simp only [Option.bind_some] at h
        split at h
        · simp at h; subst h; exact cubeTo_bd _ _ _ _ _ ⟨by decide, by decide⟩ hc
        · cases h
    · split at h
      · unfold resR at h
        split at h
        · cases h
        · split at h
          · cases h
          · obtain ⟨rfl, _⟩ := apartO_some h
            have h1 := getD_bd ss (cnt (tl.getD 0 []) big - 1) hS
            have h2 := getD_bd ss (cnt (tl.getD 1 []) big - 1) hS
            exact ⟨or_lt _ _ (less_lt _ _ h1.1) h2.1, or_lt _ _ h1.2 (less_lt _ _ h2.2)⟩
      · split at h
        · unfold reductR at h
          split at h
          · cases h
          · simp at h; subst h
            exact clrs_bd _ _ _ (getD_bd _ _ hS)
        · cases h
end Go.Proofs.YtgipjjhkhfihpaaDoor

namespace Go.Proofs.YtgipjjhkhfihpaaDoor
open Go.RowKit

def qOf (q : QS) (hd : List UInt8) (tl : List (List UInt8)) : Option QS :=
  if hd = [101] then (qPrefix q tl false).map (fun vs => { q with vars := vs })
  else if hd = [97] then (qPrefix q tl true).map (fun vs => { q with vars := vs })
  else if hd = [99] then (clTo (0, 0) tl).map (fun c => { q with cl := q.cl ++ [c] })
  else none
def qLine (q : QS) (line : List UInt8) : Option QS :=
  if splitOk line then (match cutAt 32 line with | [] => none | hd :: tl => qOf q hd tl) else none
theorem qLine_eq (q : QS) (line hd : List UInt8) (tl : List (List UInt8)) (h : cutAt 32 line = hd :: tl) (hs : splitOk line = true) : qLine q line = qOf q hd tl := by
  unfold qLine; rw [if_pos hs, h]
def LinePost (bq : Nat) (q : QS) (line : List UInt8) (w : World) (e : Ending) (w' : World) : Prop :=
  Below bq w w' ∧ match qLine q line with
    | none => e = .returned (.bool false)
    | some q' => e = .returned (.bool true) ∧ ∃ vV vC, QInv (bq + 1) w' bq q' vV vC

theorem line_of_pref {bq : Nat} {q : QS} {vC : Value} {tl : List (List UInt8)} {u : Bool} {line : List UInt8} {w w2 w3 : World} {e : Ending} (hb : Below w.heap.size w w2) (hbq : bq < w.heap.size) (hp : PrefPost bq q vC tl u w2 e w3)
    (hq : qLine q line = (qPrefix q tl u).map (fun vs => { q with vars := vs })) : LinePost bq q line w e w3 := by
  obtain ⟨h1, h2⟩ := hp
  refine ⟨(hb.mono (Nat.le_of_lt hbq)).trans h1, ?_⟩
  rw [hq]
  cases h : qPrefix q tl u with
  | none => rw [h] at h2; exact h2
  | some vs => rw [h] at h2; obtain ⟨h3, vV, h4⟩ := h2; exact ⟨h3, vV, vC, h4⟩
theorem line_of_cl {bq : Nat} {q : QS} {vV : Value} {tl : List (List UInt8)} {line : List UInt8} {w w2 w3 : World} {e : Ending} (hb : Below w.heap.size w w2) (hbq : bq < w.heap.size) (hp : ClPost bq q vV tl w2 e w3)
    (hq : qLine q line = (clTo (0, 0) tl).map (fun c => { q with cl := q.cl ++ [c] })) : LinePost bq q line w e w3 := by
  obtain ⟨h1, h2⟩ := hp
  refine ⟨(hb.mono (Nat.le_of_lt hbq)).trans h1, ?_⟩
  rw [hq]
  cases h : clTo (0, 0) tl with
  | none => rw [h] at h2; exact h2
  | some c => rw [h] at h2; obtain ⟨h3, vC, h4⟩ := h2; exact ⟨h3, vV, vC, h4⟩

theorem line_ret {bq : Nat} {q : QS} {line : List UInt8} {w w' : World} {e : Ending} (h : LinePost bq q line w e w') : ∃ b, e = .returned (.bool b) := by
  obtain ⟨_, h2⟩ := h
  cases hq : qLine q line with
  | none => rw [hq] at h2; exact ⟨_, h2⟩
  | some q' => rw [hq] at h2; exact ⟨_, h2.1⟩

set_option maxRecDepth 100000 in
set_option maxHeartbeats 1600000 in
theorem readLine_any (bq : Nat) (q : QS) (vV vC : Value) (line : List UInt8) (w : World) (hq : QInv (bq + 1) w bq q vV vC) (hl : line.length ≤ 2000) (hvl : q.vars.length ≤ 536870912) (hcl : q.cl.length ≤ 1048576) :
    Calls Tryd.prog 22 #[.pointer (some ⟨bq, 0, none⟩), .string ⟨line.toArray⟩] w fun e w' => LinePost bq q line w e w' := by
  have hbq := blk_lt hq.fb
  go_enter Tryd.func22, Tryd.ntmps22
  go_wp2_with fail
  refine (split_any line w (by omega)).mono ?_
  rintro e w2 ⟨hb, hsp⟩
  cases hok : splitOk line with
  | false =>
    rw [hok, if_neg (by decide)] at hsp
    subst hsp
    have HF : Hid (qLine q line = none) := hide (by unfold qLine; rw [hok]; rfl)
    go_wp2_with fail
    go_ret
    exact ⟨hb.mono (Nat.le_of_lt hbq), by rw [unhide HF]; rfl⟩
  | true =>
    rw [hok, if_pos rfl] at hsp
    obtain ⟨v, rfl, hown⟩ := hsp
    have hwl : (cutAt 32 line).length ≤ 2001 := by have := cutTo_size 32 line; simp [cutAt]; omega
    have hwl2 : ∀ x ∈ cutAt 32 line, x.length ≤ 1048576 := fun x hx => by have := cutAt_len 32 line x hx; omega
    obtain ⟨hd, tl, hws⟩ : ∃ hd tl, cutAt 32 line = hd :: tl := by
      cases h : cutAt 32 line with
      | nil => simp [cutAt] at h
      | cons a b => exact ⟨a, b, rfl⟩
    have HQ := hide (qLine_eq q line hd tl hws hok)
    rw [hws] at hown hwl hwl2
    clear hws hok
    rcases hown.2 with ⟨_, h0⟩ | ⟨g, cap, cur, rfl, hbg, hg, hnc, hcm, hcs, htake⟩
    · simp at h0
    simp only [List.length_cons] at hwl hnc
    have hc0 : w2.cell? ⟨g, 0, none⟩ = some (S hd) := by
      rw [hown.cellAt 0 (by simp)]; rfl
    have HST : Hid (∀ ao : Option Addr, (tl ≠ [] → ao = some ⟨g, 1, none⟩) → StrsAt w2 ao tl) := hide (fun ao ho hne => ⟨g, 1, cur, ho hne, hg, fun j hj => by
      have h1 := hown.cellAt (1 + j) (by simp; omega)
      rw [blk_cell hg] at h1
      rw [h1]
      simp [show 1 + j = j + 1 from by omega, hj]⟩)
    have HWL : Hid (∀ x ∈ tl, x.length ≤ 1048576) := hide (fun x hx => hwl2 x (List.mem_cons_of_mem _ hx))
    have hq2 := hq.later hb
    clear hwl2 htake hcs hcm hg
    simp only [List.length_cons]
    have hne0 : (((tl.length + 1 : Nat) : Int) == 0) = false := by rw [beq_eq_false_iff_ne]; omega
    by_cases he : hd = [101]
    · subst he
      have HR : Hid (qLine q line = (qPrefix q tl false).map (fun vs => { q with vars := vs })) := hide (by rw [unhide HQ]; rfl)
      go_wp2_with fail
      all_goals
        refine (readPrefix_any bq q vV vC tl false _ _ w2 hq2 (unhide HST _ (fun hne => by first | rfl | (exfalso; apply hne; exact List.eq_nil_of_length_eq_zero (by omega)))) (by omega) (unhide HWL) hvl hcl).mono ?_
        intro e w3 hp
        have hL := line_of_pref (line := line) hb hbq hp (unhide HR)
        obtain ⟨b, rfl⟩ := line_ret hL
        have HL := hide hL
        clear hp hL
        go_wp2_with fail
        go_ret
        exact unhide HL
    · have heb : (hd == [101]) = false := by simp [he]
      by_cases ha : hd = [97]
      · subst ha
        have HR : Hid (qLine q line = (qPrefix q tl true).map (fun vs => { q with vars := vs })) := hide (by rw [unhide HQ]; rfl)
        go_wp2_with fail
        all_goals
          refine (readPrefix_any bq q vV vC tl true _ _ w2 hq2 (unhide HST _ (fun hne => by first | rfl | (exfalso; apply hne; exact List.eq_nil_of_length_eq_zero (by omega)))) (by omega) (unhide HWL) hvl hcl).mono ?_
          intro e w3 hp
          have hL := line_of_pref (line := line) hb hbq hp (unhide HR)
          obtain ⟨b, rfl⟩ := line_ret hL
          have HL := hide hL
          clear hp hL
          go_wp2_with fail
          go_ret
          exact unhide HL
      · have hab : (hd == [97]) = false := by simp [ha]
        by_cases hc : hd = [99]
        · subst hc
          have HR : Hid (qLine q line = (clTo (0, 0) tl).map (fun c => { q with cl := q.cl ++ [c] })) := hide (by rw [unhide HQ]; rfl)
          go_wp2_with fail
          all_goals
            refine (readClause_any bq q vV vC tl _ _ w2 hq2 (unhide HST _ (fun hne => by first | rfl | (exfalso; apply hne; exact List.eq_nil_of_length_eq_zero (by omega)))) (by omega) (unhide HWL) hcl).mono ?_
            intro e w3 hp
            have hL := line_of_cl (line := line) hb hbq hp (unhide HR)
            obtain ⟨b, rfl⟩ := line_ret hL
            have HL := hide hL
            clear hp hL
            go_wp2_with fail
            go_ret
            exact unhide HL
        · have hcb : (hd == [99]) = false := by simp [hc]
          have HR : Hid (qLine q line = none) := hide (by rw [unhide HQ, qOf, if_neg he, if_neg ha, if_neg hc])
          clear he ha hc
          go_wp2_with fail
          all_goals
            go_ret
            exact ⟨hb.mono (Nat.le_of_lt hbq), by rw [unhide HR]; rfl⟩
end Go.Proofs.YtgipjjhkhfihpaaDoor

namespace Go.Proofs.YtgipjjhkhfihpaaDoor
open Go.RowKit

/-- Lines from the i-th on: what the program holds behind them, or the first line that is none. -/
def qRows : QS → Nat → List (List UInt8) → QS ⊕ Nat
  | q, _, [] => .inl q
  | q, i, r :: rs => match qLine q r with
    | none => .inr (i + 1)
    | some q' => qRows q' (i + 1) rs
def qFinish (q : QS) : QS := { q with vars := exv (freeQ q 8) ++ q.vars }
def loadSpec (l : List UInt8) : (Nat × Nat) ⊕ QS :=
  if 2000 < l.length then .inl (1, 0) else
  match qRows ⟨[], []⟩ 0 (cutTo 10 l).1 with
  | .inr i => .inl (2, i)
  | .inl q => if (cutTo 10 l).2 ≠ [] then .inl (2, (cutTo 10 l).1.length + 1) else if 24 < q.cl.length then .inl (3, 0) else .inr (qFinish q)

/-- What holds of the program's formula behind k lines. -/
structure QOk (q : QS) (k : Nat) : Prop where
  vl : q.vars.length ≤ 2001 * k
  ll : q.cl.length ≤ k
  cl : ∀ c ∈ q.cl, c.1 < 512 ∧ c.2 < 512
theorem prefTo_len (u : Bool) (ws : List (List UInt8)) : ∀ (vs vs' : List (Nat × Bool)), prefTo u vs ws = some vs' → vs'.length = vs.length + ws.length := by
  induction ws with
  | nil => intro vs vs' h; simp [prefTo] at h; subst h; rfl
  | cons w ws ih =>
    intro vs vs' h
    rw [prefTo] at h
    split at h
    · cases h
    · have := ih _ _ h
      simp at this ⊢; omega
theorem clTo_lt (ws : List (List UInt8)) : ∀ (c c' : Nat × Nat), c.1 < 512 → c.2 < 512 → clTo c ws = some c' → c'.1 < 512 ∧ c'.2 < 512 := by
  induction ws with
  | nil => intro c c' h1 h2 h; simp [clTo] at h; subst h; exact ⟨h1, h2⟩
  | cons w ws ih =>
    intro c c' h1 h2 h
    rw [clTo] at h
    split at h
    · have := withLit_lt c (litNum w) h1 h2
      exact ih _ _ this.1 this.2 h
    · cases h
theorem qLine_ok {q q' : QS} {k : Nat} {r : List UInt8} (hr : r.length ≤ 2000) (hq : QOk q k) (h : qLine q r = some q') : QOk q' (k + 1) := by
  unfold qLine at h
  split at h
  · split at h
    · cases h
    · next hd tl hws =>
      have hwl : (cutAt 32 r).length ≤ 2001 := by have := cutTo_size 32 r; simp [cutAt]; omega
      rw [hws] at hwl
      simp at hwl
      have hpre : ∀ u vs, qPrefix q tl u = some vs → vs.length ≤ 2001 * (k + 1) := by
        intro u vs hv
        unfold qPrefix at hv
        split at hv
        · cases hv
        · have := prefTo_len u tl _ _ hv
          have := hq.vl
          omega
      unfold qOf at h
      split at h
      · cases hp : qPrefix q tl false with
        | none => rw [hp] at h; cases h
        | some vs =>
          rw [hp] at h; simp at h; subst h
          exact ⟨hpre _ _ hp, Nat.le_succ_of_le hq.ll, hq.cl⟩
      · split at h
        · cases hp : qPrefix q tl true with
          | none => rw [hp] at h; cases h
          | some vs =>
            rw [hp] at h; simp at h; subst h
            exact ⟨hpre _ _ hp, Nat.le_succ_of_le hq.ll, hq.cl⟩
        · split at h
          · cases hp : clTo (0, 0) tl with
            | none => rw [hp] at h; cases h
            | some c =>
              rw [hp] at h; simp at h; subst h
              refine ⟨by have := hq.vl; dsimp only; omega, by have := hq.ll; simp; omega, ?_⟩
              intro c' hc'
              simp at hc'
              rcases hc' with hc' | hc'
              · exact hq.cl c' hc'
              · subst hc'; exact clTo_lt tl _ _ (by decide) (by decide) hp
          · cases h
  · cases h

def LoadPost (l : List UInt8) (w : World) (e : Ending) (w' : World) : Prop :=
  Below w.heap.size w w' ∧ match loadSpec l with
    | .inl (x, i) => e = .returned (.tuple #[.agg #[.slice none 0 0, .slice none 0 0], .int .i64 (x : Int), .int .i64 (i : Int)])
    | .inr q => ∃ vV vC, e = .returned (.tuple #[.agg #[vV, vC], .int .i64 0, .int .i64 0]) ∧ w'.ownsRow w.heap.size 81 2 vV q.vars.length (varCells q.vars) ∧ w'.ownsRow w.heap.size 63 2 vC q.cl.length (pairs q.cl)

set_option maxRecDepth 100000 in
set_option maxHeartbeats 1600000 in
theorem qload_any (l : List UInt8) (w : World) : Calls Tryd.prog 15 #[.string ⟨l.toArray⟩] w fun e w' => LoadPost l w e w' := by
  by_cases hlong : 2000 < l.length
  · have hd : decide ((2000 : Int) < (l.length : Int)) = true := by simp; omega
    have HF : Hid (loadSpec l = .inl (1, 0)) := hide (by unfold loadSpec; rw [if_pos hlong])
    clear hlong
    go_enter Tryd.func15, Tryd.ntmps15
    go_wp2_with fail
    refine bodyPost_ret (v := .tuple #[.agg #[.slice none 0 0, .slice none 0 0], .int .i64 1, .int .i64 0]) (by simp [results, Tryd.results15, go_sem]) rfl ⟨(Below.refl _ _).alloc (Nat.le_refl _) _, ?_⟩
    rw [unhide HF]; rfl
  · have hl : l.length ≤ 2000 := by omega
    have hd : decide ((2000 : Int) < (l.length : Int)) = false := by simp; omega
    have hdr := cutTo_size 10 l
    have HSP : Hid (loadSpec l = match qRows ⟨[], []⟩ 0 (cutTo 10 l).1 with
      | .inr i => .inl (2, i)
      | .inl q => if (cutTo 10 l).2 ≠ [] then .inl (2, (cutTo 10 l).1.length + 1) else if 24 < q.cl.length then .inl (3, 0) else .inr (qFinish q)) := hide (by unfold loadSpec; rw [if_neg hlong])
    clear hlong
    go_enter Tryd.func15, Tryd.ntmps15
    go_wp2_with fail
    refine (lines_any l _ (by omega)).mono ?_
    rintro e w1 ⟨v, rfl, hown, hb1⟩
    have hsz1 : w.heap.size < w1.heap.size := by have := hb1.size; simp at this; omega
    have hb0 : Below w.heap.size w w1 := ((Below.refl _ _).alloc (Nat.le_refl _) _).trans (hb1.mono (by simp))
    have hbr : w1.heap[w.heap.size]? = some (.cells #[.slice none 0 0, .slice none 0 0] 44 (0, 0)) := by
      rw [hb1.block _ (by simp)]; exact heap_alloc_new _ _
    have HRL : Hid (∀ r ∈ (cutTo 10 l).1, r.length ≤ 2000) := hide (fun r hr => by
      have := cutAt_len 10 l r (by unfold cutAt; exact List.mem_append_left _ hr); omega)
    generalize hrows : (cutTo 10 l).1 = rows at *
    obtain ⟨aL, cL, rfl⟩ := own_form hown
    obtain ⟨ended, hended⟩ : ∃ b, decide ((cutTo 10 l).2 = []) = b := ⟨_, rfl⟩
    rw [hended]
    have HE := hide hended
    clear hended hrows
    have hown1 := own_lo (lo := 0) hown (Nat.zero_le _)
    clear hown
    have hrows2 : rows.length ≤ 2000 := by omega
    clear hdr
    go_wp2_with fail
    go_loopg [22] (rows.length) (fun n i wx => ∃ (k : Nat) (q : QS) (vV vC : Value), i = .int .i64 k ∧ k + n = rows.length ∧ QOk q k ∧ QInv (w1.heap.size + 1) wx w1.heap.size q vV vC ∧ Below w1.heap.size w1 wx ∧ qRows ⟨[], []⟩ 0 rows = qRows q k (rows.drop k))
    case atStart =>
      exact ⟨0, ⟨[], []⟩, _, _, rfl, by omega, ⟨by simp, by simp, by simp⟩, ⟨heap_alloc_new _ _, World.ownsRow_nil _ _ _ _, World.ownsRow_nil _ _ _ _⟩, (Below.refl _ _).alloc (Nat.le_refl _) _, rfl⟩
    case round =>
      obtain ⟨k, q, vV, vC, rfl, hk, hqo, hqi, hbx, hrr⟩ := hrel
      have hvl := hqo.vl
      have hll := hqo.ll
      have hbrx : wr.heap[w.heap.size]? = some (.cells #[.slice none 0 0, .slice none 0 0] 44 (0, 0)) := (hbx.block _ hsz1).trans hbr
      have hr0 : wr.cell? ⟨w.heap.size, 0, none⟩ = some (.slice none 0 0) := by rw [blk_cell hbrx]; rfl
      have hr1 : wr.cell? ⟨w.heap.size, 1, none⟩ = some (.slice none 0 0) := by rw [blk_cell hbrx]; rfl
      by_cases hlt : k < rows.length
      · obtain ⟨g, cap, hV, hg, hg', _, hcell⟩ := own_pos hown1 (by omega)
        injection hV with hV _ hV2
        subst hV hV2
        have hcj : wr.cell? ⟨g, k, none⟩ = some (S rows[k]) := by
          rw [hbx.cell (p := ⟨g, k, none⟩) hg']; exact hcell k _ (by simp [hlt])
        have hrl := unhide HRL _ (List.getElem_mem hlt)
        rw [List.drop_eq_getElem_cons hlt, qRows] at hrr
        have HRR := hide hrr; clear hrr hcell
        go_wp2_with fail
        refine (readLine_any w1.heap.size q vV vC rows[k] wr hqi hrl (by omega) (by omega)).mono ?_
        rintro e w2 ⟨hb2, hp⟩
        have hb3 : Below w1.heap.size w1 w2 := hbx.trans hb2
        cases hq : qLine q rows[k] with
        | none =>
          rw [hq] at hp
          have hp' : e = .returned (.bool false) := hp
          subst hp'
          have HF : Hid (loadSpec l = .inl (2, k + 1)) := hide (by rw [unhide HSP, unhide HRR, hq])
          have hbr2 : w2.heap[w.heap.size]? = some (.cells #[.slice none 0 0, .slice none 0 0] 44 (0, 0)) := (hb3.block _ hsz1).trans hbr
          have hs0 : w2.cell? ⟨w.heap.size, 0, none⟩ = some (.slice none 0 0) := by rw [blk_cell hbr2]; rfl
          have hs1 : w2.cell? ⟨w.heap.size, 1, none⟩ = some (.slice none 0 0) := by rw [blk_cell hbr2]; rfl
          have hz0 := blk_free hbr2 0
          have hz1 := blk_free hbr2 1
          clear hp
          go_wp2_with fail
          refine bodyPost_ret (v := .tuple #[.agg #[.slice none 0 0, .slice none 0 0], .int .i64 2, .int .i64 ((k : Int) + 1)]) (by simp [results, Tryd.results15, go_sem, hs0, hs1]) rfl ⟨?_, ?_⟩
          · exact ((hb0.trans (hb3.mono (by omega))).setCell (p := ⟨w.heap.size, 0, none⟩) (Nat.le_refl _) _).setCell (p := ⟨w.heap.size, 1, none⟩) (Nat.le_refl _) _
          · rw [unhide HF]; exact congrArg (fun m : Int => Ending.returned (.tuple #[.agg #[.slice none 0 0, .slice none 0 0], .int .i64 2, .int .i64 m])) (by omega)
        | some q' =>
          rw [hq] at hp
          have hp' : e = .returned (.bool true) ∧ ∃ vV vC, QInv (w1.heap.size + 1) w2 w1.heap.size q' vV vC := hp
          obtain ⟨rfl, vV', vC', hqi'⟩ := hp'
          have HF : Hid (qRows ⟨[], []⟩ 0 rows = qRows q' (k + 1) (rows.drop (k + 1))) := hide (by rw [unhide HRR, hq])
          have HQO := hide (qLine_ok hrl hqo hq)
          clear hp hq
          go_wp2_with fail
          go_roundg (gk - 1)
          case measure => omega
          case rel => exact ⟨k + 1, q', vV', vC', by go_num, by omega, unhide HQO, hqi', hb3, unhide HF⟩
      · have hkl : k = rows.length := by omega
        subst hkl
        rw [List.drop_length] at hrr
        have HRR : Hid (qRows ⟨[], []⟩ 0 rows = .inl q) := hide hrr
        clear hrr
        have hz0 := blk_free hbrx 0
        have hz1 := blk_free hbrx 1
        cases ended with
        | false =>
          have HF : Hid (loadSpec l = .inl (2, rows.length + 1)) := hide (by
            rw [unhide HSP, unhide HRR]; dsimp only; rw [if_pos (of_decide_eq_false (unhide HE))])
          go_wp2_with fail
          refine bodyPost_ret (v := .tuple #[.agg #[.slice none 0 0, .slice none 0 0], .int .i64 2, .int .i64 ((rows.length : Int) + 1)]) (by simp [results, Tryd.results15, go_sem, hr0, hr1]) rfl ⟨?_, ?_⟩
          · exact ((hb0.trans (hbx.mono (by omega))).setCell (p := ⟨w.heap.size, 0, none⟩) (Nat.le_refl _) _).setCell (p := ⟨w.heap.size, 1, none⟩) (Nat.le_refl _) _
          · rw [unhide HF]; exact congrArg (fun m : Int => Ending.returned (.tuple #[.agg #[.slice none 0 0, .slice none 0 0], .int .i64 2, .int .i64 m])) (by omega)
        | true =>
          have hf1 : wr.cell? ⟨w1.heap.size, 1, none⟩ = some vC := by rw [blk_cell hqi.fb]; rfl
          obtain ⟨aC, cC, rfl⟩ := own_form hqi.oC
          by_cases h24 : 24 < q.cl.length
          · have hd24 : decide ((24 : Int) < (q.cl.length : Int)) = true := by simp; omega
            have HF : Hid (loadSpec l = .inl (3, 0)) := hide (by
              rw [unhide HSP, unhide HRR]; dsimp only; rw [if_neg (fun h => h (of_decide_eq_true (unhide HE))), if_pos h24])
            go_wp2_with fail
            refine bodyPost_ret (v := .tuple #[.agg #[.slice none 0 0, .slice none 0 0], .int .i64 3, .int .i64 0]) (by simp [results, Tryd.results15, go_sem, hr0, hr1]) rfl ⟨?_, ?_⟩
            · exact ((hb0.trans (hbx.mono (by omega))).setCell (p := ⟨w.heap.size, 0, none⟩) (Nat.le_refl _) _).setCell (p := ⟨w.heap.size, 1, none⟩) (Nat.le_refl _) _
            · rw [unhide HF]; rfl
          · have hd24 : decide ((24 : Int) < (q.cl.length : Int)) = false := by simp; omega
            have HF : Hid (loadSpec l = .inr (qFinish q)) := hide (by
              rw [unhide HSP, unhide HRR]; dsimp only; rw [if_neg (fun h => h (of_decide_eq_true (unhide HE))), if_neg h24])
            go_wp2_with fail
            refine (withFree_any (w1.heap.size + 1) w1.heap.size q vV _ wr hqi (by omega) (by omega) hqo.cl).mono ?_
            rintro e w2 ⟨v2, rfl, hown2, hb2⟩
            have hqi2 := hqi.later hb2
            have hbq : w1.heap.size < wr.heap.size := blk_lt hqi.fb
            have hbr2 : w2.heap[w.heap.size]? = some (.cells #[.slice none 0 0, .slice none 0 0] 44 (0, 0)) := (hb2.block _ (by omega)).trans hbrx
            have hs0 : w2.cell? ⟨w.heap.size, 0, none⟩ = some (.slice none 0 0) := by rw [blk_cell hbr2]; rfl
            have hs1 : w2.cell? ⟨w.heap.size, 1, none⟩ = some (.slice none 0 0) := by rw [blk_cell hbr2]; rfl
            have hy0 := blk_free hbr2 0
            have hy1 := blk_free hbr2 1
            have hg0 : w2.cell? ⟨w1.heap.size, 0, none⟩ = some vV := by rw [blk_cell hqi2.fb]; rfl
            have hg1 : w2.cell? ⟨w1.heap.size, 1, none⟩ = some (.slice aC q.cl.length cC) := by rw [blk_cell hqi2.fb]; rfl
            have hx0 := blk_free hqi2.fb 0
            have hne1 : w.heap.size ≠ w1.heap.size := by omega
            have hne2 : w1.heap.size ≠ w.heap.size := by omega
            obtain ⟨a2, c2, rfl⟩ := own_form hown2
            have hbel : Below w.heap.size w w2 := hb0.trans ((hbx.trans (hb2.mono (by omega))).mono (by omega))
            have hO1 := ownsRow_setCell_below (ownsRow_setCell_below (ownsRow_setCell_below hown2 (a := ⟨w1.heap.size, 0, none⟩) (by exact hbq) (.slice a2 (exv (freeQ q 8) ++ q.vars).length c2)) (a := ⟨w.heap.size, 0, none⟩) (show w.heap.size < wr.heap.size by omega) (.slice a2 (exv (freeQ q 8) ++ q.vars).length c2)) (a := ⟨w.heap.size, 1, none⟩) (show w.heap.size < wr.heap.size by omega) (.slice aC q.cl.length cC)
            have hO2 := ownsRow_setCell_below (ownsRow_setCell_below (ownsRow_setCell_below hqi2.oC (a := ⟨w1.heap.size, 0, none⟩) (Nat.lt_succ_self _) (.slice a2 (exv (freeQ q 8) ++ q.vars).length c2)) (a := ⟨w.heap.size, 0, none⟩) (show w.heap.size < w1.heap.size + 1 by omega) (.slice a2 (exv (freeQ q 8) ++ q.vars).length c2)) (a := ⟨w.heap.size, 1, none⟩) (show w.heap.size < w1.heap.size + 1 by omega) (.slice aC q.cl.length cC)
            have HO1 := hide hO1
            have HO2 := hide hO2
            clear hO1 hO2
            generalize hnn : (exv (freeQ q 8) ++ q.vars).length = nn at *
            go_wp2_with fail
            refine bodyPost_ret (v := .tuple #[.agg #[.slice a2 nn c2, .slice aC q.cl.length cC], .int .i64 0, .int .i64 0]) (by simp [results, Tryd.results15, go_sem, hs0, hs1]) rfl ⟨?_, ?_⟩
            · exact ((hbel.setCell (p := ⟨w1.heap.size, 0, none⟩) (by exact Nat.le_of_lt hsz1) _).setCell (p := ⟨w.heap.size, 0, none⟩) (Nat.le_refl _) _).setCell (p := ⟨w.heap.size, 1, none⟩) (Nat.le_refl _) _
            · rw [unhide HF]
              refine ⟨_, _, rfl, ?_, ?_⟩
              · have := own_lo (lo := w.heap.size) (unhide HO1) (by omega)
                show World.ownsRow _ w.heap.size _ 2 _ (exv (freeQ q 8) ++ q.vars).length (varCells (exv (freeQ q 8) ++ q.vars))
                rw [hnn]; exact this
              · exact own_lo (lo := w.heap.size) (unhide HO2) (by omega)
end Go.Proofs.YtgipjjhkhfihpaaDoor

namespace Go.Proofs.YtgipjjhkhfihpaaDoor
open Go.RowKit

theorem alloc_new_at' {w : World} {o : Obj} {n : Nat} (h : n = w.heap.size) : (w.alloc o).heap[n]? = some o := by subst h; exact heap_alloc_new w o
/-- The program's formula, as Load hands it out, at block b, its blocks from lo on. -/
structure ProgAt (lo : Nat) (w : World) (b : Nat) (q : QS) : Prop where
  lo_le : lo ≤ b
  at_ : ∃ vV vC, w.heap[b]? = some (.cells #[vV, vC] 48 (0, 0)) ∧ w.ownsRow lo 81 2 vV q.vars.length (varCells q.vars) ∧ w.ownsRow lo 63 2 vC q.cl.length (pairs q.cl)
def DLoadPost (l : List UInt8) (w : World) (e : Ending) (w' : World) : Prop :=
  Below w.heap.size w w' ∧ match loadSpec l with
    | .inl (x, i) => e = .returned (.tuple #[.pointer none, .int .i64 (x : Int), .int .i64 (i : Int)])
    | .inr q => ∃ b, e = .returned (.tuple #[.pointer (some ⟨b, 0, none⟩), .int .i64 0, .int .i64 0]) ∧ ProgAt w.heap.size w' b q
theorem loadSpec_pos (l : List UInt8) (x i : Nat) (h : loadSpec l = .inl (x, i)) : 0 < x := by
  unfold loadSpec at h
  split at h
  · simp at h; omega
  · split at h
    · simp at h; omega
    · split at h
      · simp at h; omega
      · split at h
        · simp at h; omega
        · cases h

set_option maxRecDepth 100000 in
set_option maxHeartbeats 800000 in
theorem load_any (l : List UInt8) (w : World) : Calls Tryd.prog 9 #[.string ⟨l.toArray⟩] w fun e w' => DLoadPost l w e w' := by
  go_enter Tryd.func9, Tryd.ntmps9
  go_wp2_with fail
  refine (qload_any l w).mono ?_
  rintro e w1 ⟨hb, hp⟩
  cases hq : loadSpec l with
  | inl xi =>
    obtain ⟨x, i⟩ := xi
    rw [hq] at hp
    have hp' : e = .returned (.tuple #[.agg #[.slice none 0 0, .slice none 0 0], .int .i64 (x : Int), .int .i64 (i : Int)]) := hp
    subst hp'
    have hx := loadSpec_pos l x i hq
    have hxb : ((x : Int) != 0) = true := by rw [bne_iff_ne]; omega
    have HQ := hide hq
    clear hp hq
    go_wp2_with fail
    go_ret3
    exact ⟨hb.alloc hb.size _, by rw [unhide HQ]; rfl⟩
  | inr q =>
    rw [hq] at hp
    have hp' : ∃ vV vC, e = .returned (.tuple #[.agg #[vV, vC], .int .i64 0, .int .i64 0]) ∧ w1.ownsRow w.heap.size 81 2 vV q.vars.length (varCells q.vars) ∧ w1.ownsRow w.heap.size 63 2 vC q.cl.length (pairs q.cl) := hp
    obtain ⟨vV, vC, rfl, hV, hC⟩ := hp'
    have HQ := hide hq
    clear hp hq
    obtain ⟨a1, c1, rfl⟩ := own_form hV
    obtain ⟨a2, c2, rfl⟩ := own_form hC
    go_wp2_with fail
    go_ret3
    refine ⟨(hb.alloc hb.size _).alloc (by simp; have := hb.size; omega) _, ?_⟩
    rw [unhide HQ]
    refine ⟨_, rfl, by have := hb.size; simp; omega, _, _, alloc_new_at' (by simp), (hV.alloc _).alloc _, (hC.alloc _).alloc _⟩
end Go.Proofs.YtgipjjhkhfihpaaDoor
