import Derived.Test.YtgipjjhkhfihpaaDoorAB
import Derived.Test.YtgipjjhkhfihpaaDoorAA
import Derived.Deep.LoopGhost
namespace Go.Proofs.YtgipjjhkhfihpaaDoor
open Go.RowKit

/-- The same, where the walk writes the new block's number in another way. -/
theorem wpList_append_new' {P : Program} {ops : Array Oper} {rest : List Oper} {o : Oper} {a : Act} {Q : Exit → Act → World → Prop} {w : World} {news : List Value} {e : TypeId} (hgd : o.guard = none) (s x : Operand) (t : TypeId)
    (ho : o.op = .call { callee := .builtin .append, args := #[s, x], argTypes := #[t, t] })
    (base : Nat) (i : TypeInfo) (z : Value) (size bytes : Nat) (ht : P.underlying t = some (.slice e)) (hi : P.info? e = some i) (hz : i.zero = some z)
    (hsize : i.size = size) (hby : i.bytes = bytes) (hzs : z.cells.size = size) (hsz : 0 < size)
    (v : Value) (n : Nat) (xs : List Value) (hown : w.ownsRow base e size v n xs) (hs : a.eval s = v)
    (m : Nat) (hx : a.eval x = .slice (some ⟨m, 0, none⟩) 1 1) (hm : m = w.heap.size) (hl : news.length = size) (h1 : ∀ u ∈ news, u.oneCell' = true)
    (h63 : n + 1 ≤ maxLen) (hbytes : (n + 1) * bytes ≤ 140737488355328) (hbase : base ≤ w.heap.size)
    (h : ∀ v' w', w'.ownsRow base e size v' (n + 1) (xs ++ news) → w.grownBy w' v.ownBlock → (v' ≠ .slice none 0 0) → wpList P ops Q rest (a.put o.dst v') w') : wpList P ops Q (o :: rest) a (w.alloc (.cells news.toArray e)) := by
  subst hm
  exact wpList_append_new hgd s x t ho base i z size bytes ht hi hz hsize hby hzs hsz v n xs hown hs hx hl h1 h63 hbytes hbase h

/-- Strings lie at an address. -/
def StrsAt (w : World) (ao : Option Addr) (ws : List (List UInt8)) : Prop :=
  ws ≠ [] → ∃ g off cur, ao = some ⟨g, off, none⟩ ∧ w.heap[g]? = some (.cells cur 9 (0, 0)) ∧ ∀ j (hj : j < ws.length), cur[off + j]? = some (S ws[j])
/-- Blocks of strings are as they were. -/
def KeepsS (w w' : World) : Prop := ∀ (g : Nat) (cur : Array Value), w.heap[g]? = some (.cells cur 9 (0, 0)) → w'.heap[g]? = some (.cells cur 9 (0, 0))
theorem KeepsS.trans {a b c : World} (h : KeepsS a b) (k : KeepsS b c) : KeepsS a c := fun g cur hg => k g cur (h g cur hg)
theorem KeepsS.of_below {a b : World} (h : Below a.heap.size a b) : KeepsS a b := fun g _ hg => (h.block g (blk_lt hg)).trans hg
theorem KeepsS.of_set {w : World} {b o : Nat} {c : Array Value} {t : TypeId} {fr : Nat × Nat} {u : Value} (h : w.heap[b]? = some (.cells c t fr)) (ht : t ≠ 9) : KeepsS w (w.setCell ⟨b, o, none⟩ u) := fun g cur hg => by
  rw [Below.heap_setCell _ _ _ _ (fun e => by subst e; rw [hg] at h; simp at h; exact ht h.2.1.symm)]; exact hg
theorem KeepsS.of_grown {w w' : World} {v : Value} {base n size : Nat} {e : TypeId} {xs : List Value} (hg : w.grownBy w' v.ownBlock) (ho : w.ownsRow base e size v n xs) (he : e ≠ 9) : KeepsS w w' := fun g cur hgc => by
  rw [hg.block g (blk_lt hgc) (fun eq => by
    rcases ho.2 with ⟨rfl, _⟩ | ⟨g', cap, cur', rfl, _, hh, _⟩
    · simp [Value.ownBlock] at eq
    · simp [Value.ownBlock] at eq
      subst eq
      rw [hgc] at hh
      simp at hh
      exact he hh.2.symm)]
  exact hgc
theorem StrsAt.keep {w w' : World} {ao : Option Addr} {ws : List (List UInt8)} (h : StrsAt w ao ws) (k : KeepsS w w') : StrsAt w' ao ws := fun hne => by
  obtain ⟨g, off, cur, h1, h2, h3⟩ := h hne
  exact ⟨g, off, cur, h1, k g cur h2, h3⟩

theorem QInv.push_cl {wr wp w' : World} {bq base : Nat} {q : QS} {vV vC v' : Value} {p n : Nat} (hbq : bq < base) (h : QInv base wr bq q vV vC) (hp : Below wr.heap.size wr wp) (hg : wp.grownBy w' vC.ownBlock)
    (hown : w'.ownsRow base 63 2 v' (q.cl.length + 1) (pairs q.cl ++ [.int .i64 (p : Int), .int .i64 (n : Int)])) :
    w'.heap[bq]? = some (.cells #[vV, vC] 44 (0, 0)) ∧ QInv base (w'.setCell ⟨bq, 1, none⟩ v') bq { q with cl := q.cl ++ [(p, n)] } vV v' := by
  have hlt := h.oC.lt
  have hbf := blk_lt h.fb
  have hfb : w'.heap[bq]? = some (.cells #[vV, vC] 44 (0, 0)) := by
    rw [hg.block bq (Nat.lt_of_lt_of_le hbf hp.size) (fun e => by have := hlt bq e.symm; omega), hp.block bq hbf]; exact h.fb
  refine ⟨hfb, blk_set hfb 1 v', ?_, ?_⟩
  · exact ownsRow_setCell_below (own_kept h.oV hp h.oC hg (by decide)) (a := ⟨bq, 1, none⟩) hbq v'
  · have := ownsRow_setCell_below hown (a := ⟨bq, 1, none⟩) hbq v'
    rw [← pairs_snoc q.cl (p, n)] at this
    simpa using this
theorem QInv.push_var {wr wp w' : World} {bq base : Nat} {q : QS} {vV vC v' : Value} {x : Nat × Bool} (hbq : bq < base) (h : QInv base wr bq q vV vC) (hp : Below wr.heap.size wr wp) (hg : wp.grownBy w' vV.ownBlock)
    (hown : w'.ownsRow base 81 2 v' (q.vars.length + 1) (varCells q.vars ++ [.int .i64 (x.1 : Int), .bool x.2])) :
    w'.heap[bq]? = some (.cells #[vV, vC] 44 (0, 0)) ∧ QInv base (w'.setCell ⟨bq, 0, none⟩ v') bq { q with vars := q.vars ++ [x] } v' vC := by
  have hlt := h.oV.lt
  have hbf := blk_lt h.fb
  have hfb : w'.heap[bq]? = some (.cells #[vV, vC] 44 (0, 0)) := by
    rw [hg.block bq (Nat.lt_of_lt_of_le hbf hp.size) (fun e => by have := hlt bq e.symm; omega), hp.block bq hbf]; exact h.fb
  refine ⟨hfb, blk_set hfb 0 v', ?_, ?_⟩
  · have := ownsRow_setCell_below hown (a := ⟨bq, 0, none⟩) hbq v'
    rw [← varCells_snoc q.vars x] at this
    simpa using this
  · exact ownsRow_setCell_below (own_kept h.oC hp h.oV hg (by decide)) (a := ⟨bq, 0, none⟩) hbq v'

/-! ### readClause -/
def clTo : (Nat × Nat) → List (List UInt8) → Option (Nat × Nat)
  | c, [] => some c
  | c, w :: ws => if litGood w then clTo (withLit c (litNum w)) ws else none
theorem litNum_bd (w : List UInt8) : -8 ≤ litNum w ∧ litNum w ≤ 8 := by
  have h1 := dig_bd w; have h2 := dig_bd w.tail
  unfold litNum; split <;> omega
theorem withLit_lt (c : Nat × Nat) (x : Int) (h1 : c.1 < 512) (h2 : c.2 < 512) : (withLit c x).1 < 512 ∧ (withLit c x).2 < 512 := by
  unfold withLit; split
  · exact ⟨h1, or_lt _ _ h2 (bitOf_lt _)⟩
  · exact ⟨or_lt _ _ h1 (bitOf_lt _), h2⟩
def ClPost (bq : Nat) (q : QS) (vV : Value) (ws : List (List UInt8)) (w : World) (e : Ending) (w' : World) : Prop :=
  Below bq w w' ∧ match clTo (0, 0) ws with
    | none => e = .returned (.bool false)
    | some c => e = .returned (.bool true) ∧ ∃ vC', QInv (bq + 1) w' bq { q with cl := q.cl ++ [c] } vV vC'

set_option maxRecDepth 100000 in
set_option maxHeartbeats 1600000 in
theorem readClause_any (bq : Nat) (q : QS) (vV vC : Value) (ws : List (List UInt8)) (ao : Option Addr) (cap : Nat) (w : World) (hq : QInv (bq + 1) w bq q vV vC) (hs : StrsAt w ao ws)
    (hl : ws.length ≤ 1048576) (hws : ∀ x ∈ ws, x.length ≤ 1048576) (hcl : q.cl.length ≤ 1048576) :
    Calls Tryd.prog 30 #[.pointer (some ⟨bq, 0, none⟩), .slice ao ws.length cap] w fun e w' => ClPost bq q vV ws w e w' := by
  have hbq := blk_lt hq.fb
  have HWS := hide hws; clear hws
  go_enter Tryd.func30, Tryd.ntmps30
  go_wp2_with fail
  go_loopg [13] (ws.length) (fun n i wx => ∃ (j p m : Nat), i = .int .i64 j ∧ j + n = ws.length ∧ p < 512 ∧ m < 512 ∧ clTo (0, 0) ws = clTo (p, m) (ws.drop j) ∧ Below w.heap.size w wx ∧
     wx.heap[w.heap.size]? = some (.cells #[.int .i64 p, .int .i64 m] 63 (0, 0)))
  case atStart => exact ⟨0, 0, 0, rfl, by omega, by omega, by omega, rfl, (Below.refl _ _).alloc (Nat.le_refl _) _, heap_alloc_new _ _⟩
  case round =>
    obtain ⟨j, p, m, rfl, hj, hp, hm, hto, hb, hbc⟩ := hrel
    have hbs : w.heap.size < wr.heap.size := blk_lt hbc
    have hp0 : wr.cell? ⟨w.heap.size, 0, none⟩ = some (.int .i64 p) := by rw [blk_cell hbc]; rfl
    have hp1 : wr.cell? ⟨w.heap.size, 1, none⟩ = some (.int .i64 m) := by rw [blk_cell hbc]; rfl
    by_cases hlt : j < ws.length
    · obtain ⟨g, off, cur, rfl, hg, hcur⟩ := hs (by intro e; subst e; simp at hlt)
      have hcj : wr.cell? ⟨g, off + j, none⟩ = some (S ws[j]) := by
        rw [hb.cell (p := ⟨g, off + j, none⟩) (blk_lt hg), blk_cell hg]; exact hcur j hlt
      have hwl := unhide HWS _ (List.getElem_mem hlt)
      rw [List.drop_eq_getElem_cons hlt, clTo] at hto
      have HTO := hide hto; clear hto hcur
      obtain ⟨n0, n1⟩ := litNum_bd ws[j]
      go_wp2_with fail
      refine (wliteral_any ws[j] wr hwl).mono ?_
      rintro e w2 ⟨hw2, rfl⟩
      subst hw2
      cases hgd : litGood ws[j] with
      | false =>
        have HF : Hid (clTo (0, 0) ws = none) := hide (by rw [unhide HTO, hgd, if_neg (by decide)])
        go_wp2_with fail
        go_ret
        exact ⟨hb.mono (by omega), by rw [unhide HF]; rfl⟩
      | true =>
        have HF : Hid (clTo (0, 0) ws = clTo (withLit (p, m) (litNum ws[j])) (ws.drop (j + 1))) := hide (by rw [unhide HTO, hgd, if_pos rfl])
        have hwl2 := withLit_lt (p, m) (litNum ws[j]) hp hm
        go_wp2_with fail
        refine (with_any p m (litNum ws[j]) w2 hp hm (by omega) (by omega)).mono ?_
        rintro e w3 ⟨rfl, hb3⟩
        have hb4 : Below w.heap.size w w3 := hb.trans (hb3.mono (by omega))
        have hbc3 := (hb3.block _ hbs).trans hbc
        have hq0 : w3.cell? ⟨w.heap.size, 0, none⟩ = some (.int .i64 p) := by rw [blk_cell hbc3]; rfl
        have hq1 : w3.cell? ⟨w.heap.size, 1, none⟩ = some (.int .i64 m) := by rw [blk_cell hbc3]; rfl
        have hz0 := blk_free hbc3 0
        have hz1 := blk_free hbc3 1
        generalize withLit (p, m) (litNum ws[j]) = c at *
        obtain ⟨p', m'⟩ := c
        go_wp2_with fail
        go_roundg (gk - 1)
        case measure => omega
        case rel =>
          refine ⟨j + 1, p', m', by go_num, by omega, hwl2.1, hwl2.2, unhide HF, (hb4.setCell (p := ⟨w.heap.size, 0, none⟩) (Nat.le_refl _) _).setCell (p := ⟨w.heap.size, 1, none⟩) (Nat.le_refl _) _, ?_⟩
          exact blk_set (blk_set hbc3 0 _) 1 _
    · have hjl : j = ws.length := by omega
      subst hjl
      rw [List.drop_length] at hto
      have HF : Hid (clTo (0, 0) ws = some (p, m)) := hide hto
      clear hto
      have hq3 := hq.later hb
      have hf3 : wr.cell? ⟨bq, 1, none⟩ = some vC := by rw [blk_cell hq3.fb]; rfl
      have hfz := blk_free hq3.fb 1
      have hbqw : bq < wr.heap.size := by omega
      have hapc : vC.ownBlock ≠ some w.heap.size := fun e => by have := hq.oC.lt _ e; omega
      obtain ⟨i1, hi1, hz10, hz11, hz12⟩ := info_parts Tryd.info63
      go_wp2_with fail
      go_region_law (refine step_append_own rfl (.tmp 32) (.tmp 34) 42 rfl (bq + 1) 63 i1 (.agg #[.int .i64 0, .int .i64 0]) 2 16 Tryd.underlying42 hi1 hz10 hz11 hz12 rfl (by decide) vC q.cl.length (pairs q.cl) (hq3.oC.alloc _).drew rfl ⟨wr.heap.size, 0, none⟩ 1 1 [.int .i64 p, .int .i64 m] rfl rfl (new_cells wr [.int .i64 p, .int .i64 m] 63) (by simp [Value.oneCell']) (by unfold maxLen; omega) (by omega) (by simp; omega) ?_; intro v' w' hown' hgrow hnn; obtain ⟨hfb', hJ⟩ := hq3.push_cl (Nat.lt_succ_self bq) (((Below.refl _ wr).alloc (Nat.le_refl _) _).drew) hgrow hown'; have hbel : Below bq w w' := ((hb.mono (Nat.le_of_lt hbq)).trans ((((Below.refl wr.heap.size wr).alloc (Nat.le_refl _) _).drew).mono (Nat.le_of_lt hbqw))).grown hgrow (by simp; omega) (fun k hk => (by have := (hq3.oC.lt k hk).1; omega)); obtain ⟨g3, cap3, rfl, hg3, hg3', hcap3, hcell3⟩ := own_pos hown' (by omega); have hq3' : w'.cell? ⟨bq, 1, none⟩ = some vC := (by rw [blk_cell hfb']; rfl); have hqz := blk_free hfb' 1)
      all_goals
        go_wp2_with fail
        go_ret
        refine ⟨hbel.setCell (p := ⟨bq, 1, none⟩) (Nat.le_refl _) _, ?_⟩
        rw [unhide HF]
        exact ⟨rfl, _, hJ⟩

/-! ### readPrefix -/
def badVar (vs : List (Nat × Bool)) (w : List UInt8) : Bool := !decide (0 < dig w) || hasV vs (dig w).toNat
def prefTo (u : Bool) : List (Nat × Bool) → List (List UInt8) → Option (List (Nat × Bool))
  | vs, [] => some vs
  | vs, w :: ws => if badVar vs w then none else prefTo u (vs ++ [((dig w).toNat, u)]) ws
def qPrefix (q : QS) (ws : List (List UInt8)) (u : Bool) : Option (List (Nat × Bool)) := if ws = [] ∨ q.cl ≠ [] then none else prefTo u q.vars ws
def PrefPost (bq : Nat) (q : QS) (vC : Value) (ws : List (List UInt8)) (u : Bool) (w : World) (e : Ending) (w' : World) : Prop :=
  Below bq w w' ∧ match qPrefix q ws u with
    | none => e = .returned (.bool false)
    | some vs => e = .returned (.bool true) ∧ ∃ vV', QInv (bq + 1) w' bq { q with vars := vs } vV' vC

set_option maxRecDepth 100000 in
set_option maxHeartbeats 1600000 in
theorem readPrefix_any (bq : Nat) (q : QS) (vV vC : Value) (ws : List (List UInt8)) (u : Bool) (ao : Option Addr) (cap : Nat) (w : World) (hq : QInv (bq + 1) w bq q vV vC) (hs : StrsAt w ao ws)
    (hl : ws.length ≤ 524288) (hws : ∀ x ∈ ws, x.length ≤ 1048576) (hvl : q.vars.length ≤ 536870912) (_hcl : q.cl.length ≤ 1048576) :
    Calls Tryd.prog 29 #[.pointer (some ⟨bq, 0, none⟩), .slice ao ws.length cap, .bool u] w fun e w' => PrefPost bq q vC ws u w e w' := by
  have hbq := blk_lt hq.fb
  have HWS := hide hws; clear hws
  have hf1 : w.cell? ⟨bq, 1, none⟩ = some vC := by rw [blk_cell hq.fb]; rfl
  obtain ⟨aC, cC, rfl⟩ := own_form hq.oC
  by_cases hnil : ws = []
  · subst hnil
    have HF : Hid (qPrefix q [] u = none) := hide (by unfold qPrefix; rw [if_pos (Or.inl rfl)])
    go_enter Tryd.func29, Tryd.ntmps29
    go_wp2_with fail
    go_ret
    exact ⟨Below.refl _ _, by rw [unhide HF]; rfl⟩
  have hwl0 : 0 < ws.length := List.length_pos_iff.2 hnil
  have hwb : ((ws.length : Int) == 0) = false := by rw [beq_eq_false_iff_ne]; omega
  by_cases hcn : q.cl = []
  · have hcb : decide (0 < q.cl.length) = false := by rw [hcn]; rfl
    have HF : Hid (qPrefix q ws u = prefTo u q.vars ws) := hide (by unfold qPrefix; rw [if_neg (by rintro (h | h); exact hnil h; exact h hcn)])
    obtain ⟨g, off, cur, rfl, hg, hcur⟩ := hs hnil
    have HS := hide hs
    have HCN := hide hcn
    clear hnil hcn
    obtain ⟨i0, hi, hz0, hz1, hz2⟩ := info_parts Tryd.info81
    go_enter Tryd.func29, Tryd.ntmps29
    go_wp2_with fail
    go_loopg [26] (ws.length) (fun n i wx => ∃ (j : Nat) (vs : List (Nat × Bool)) (vV : Value), i = .int .i64 j ∧ j + n = ws.length ∧ vs.length = q.vars.length + j ∧ prefTo u q.vars ws = prefTo u vs (ws.drop j) ∧ Below bq w wx ∧
      QInv (bq + 1) wx bq { q with vars := vs } vV (.slice aC q.cl.length cC) ∧ KeepsS w wx)
    case atStart => exact ⟨0, q.vars, vV, rfl, by omega, rfl, rfl, Below.refl _ _, hq, fun _ _ h => h⟩
    case round =>
      obtain ⟨j, vs, vV, rfl, hj, hvl2, hto, hb, hqx, hk⟩ := hrel
      have HVL := hide hvl2
      have hvl3 : vs.length ≤ 1073741824 := by omega
      clear hvl2
      by_cases hlt : j < ws.length
      · have hcj : wr.cell? ⟨g, off + j, none⟩ = some (S ws[j]) := by
          rw [blk_cell (hk g cur hg)]; exact hcur j hlt
        have hwl := unhide HWS _ (List.getElem_mem hlt)
        rw [List.drop_eq_getElem_cons hlt, prefTo] at hto
        have HTO := hide hto; clear hto
        obtain ⟨d0, d1⟩ := dig_bd ws[j]
        obtain ⟨dn, hdn⟩ := Int.eq_ofNat_of_zero_le d0
        have HBV : Hid (badVar vs ws[j] = (!decide (0 < dn) || hasV vs dn)) := hide (by unfold badVar; rw [hdn]; simp)
        have HDN : Hid ((dig ws[j]).toNat = dn) := hide (by rw [hdn]; simp)
        go_wp2_with fail
        refine (variable_any ws[j] wr hwl).mono ?_
        rintro e w2 ⟨hw2, rfl⟩
        subst hw2
        rw [hdn]
        have hdn8 : dn ≤ 8 := by omega
        clear hdn d0 d1
        by_cases hz : dn = 0
        · have hdz : decide (0 < dn) = false := by simp; omega
          have HN : Hid (prefTo u q.vars ws = none) := hide (by rw [unhide HTO, unhide HBV, hz]; rfl)
          clear hz
          go_wp2_with fail
          go_ret
          exact ⟨hb, by rw [unhide HF, unhide HN]; rfl⟩
        · have hdz : decide (0 < dn) = true := by simp; omega
          have HZ : Hid (decide (0 < dn) = true) := hide (by simp; omega)
          clear hz
          go_wp2_with fail
          refine (find_any (bq + 1) bq vs vV dn w2 (by rw [blk_cell hqx.fb]; rfl) hqx.oV hvl3).mono ?_
          rintro e w3 ⟨hb3, rfl⟩
          rw [hasV_find]
          generalize (findV vs dn).getD (0, false) = fx
          have hb3a : Below w2.heap.size w2 (w3.alloc (.cells #[.int .i64 (fx.1 : Nat), .bool fx.2] 81)) := hb3.alloc hb3.size _
          have hqy := hqx.later hb3a
          have hbq2 : bq < w2.heap.size := blk_lt hqx.fb
          have hbq3 : bq < w3.heap.size := Nat.lt_of_lt_of_le hbq2 hb3.size
          have hby : Below bq w (w3.alloc (.cells #[.int .i64 (fx.1 : Nat), .bool fx.2] 81)) := hb.trans (hb3a.mono (Nat.le_of_lt hbq2))
          have hky := hk.trans (KeepsS.of_below hb3a)
          dsimp only
          cases hh : hasV vs dn with
          | true =>
            have HN : Hid (prefTo u q.vars ws = none) := hide (by rw [unhide HTO, unhide HBV, hh]; simp)
            go_wp2_with fail
            go_ret
            exact ⟨hby, by rw [unhide HF, unhide HN]; rfl⟩
          | false =>
            have HN : Hid (prefTo u q.vars ws = prefTo u (vs ++ [(dn, u)]) (ws.drop (j + 1))) := hide (by rw [unhide HTO, unhide HBV, hh, unhide HZ, unhide HDN]; rfl)
            have hf0 : w3.cell? ⟨bq, 0, none⟩ = some vV := by rw [blk_cell (hqx.later hb3).fb]; rfl
            have hbs : bq + 1 ≤ (w3.alloc (.cells #[.int .i64 (fx.1 : Nat), .bool fx.2] 81)).heap.size := blk_lt hqy.fb
            go_wp2_with (at_builtin; refine wpList_append_new' rfl (.tmp 48) (.tmp 52) 41 rfl (bq + 1) i0 (.agg #[.int .i64 0, .bool false]) 2 16 Tryd.underlying41 hi hz0 hz1 hz2 rfl (by decide) _ _ _ hqy.oV rfl _ rfl (by simp) rfl (by simp [Value.oneCell']) (by unfold maxLen; dsimp only; omega) (by dsimp only; omega) hbs ?_; intro v' w4 hown4 hgrow hnn; obtain ⟨hfb', hJ⟩ := hqy.push_var (x := (dn, u)) (Nat.lt_succ_self bq) (Below.refl _ _) hgrow hown4; have hb5 : Below bq w w4 := hby.grown hgrow (by omega) (fun k hk => (by have := (hqy.oV.lt k hk).1; omega)); have hk5 := hky.trans (KeepsS.of_grown hgrow hqy.oV (by decide)); obtain ⟨g3, cap3, rfl, hg3, hg3', hcap3, hcell3⟩ := own_pos hown4 (by omega); have hq3' : w4.cell? ⟨bq, 0, none⟩ = some vV := (by rw [blk_cell hfb']; rfl); have hqz := blk_free hfb' 0)
            go_roundg (gk - 1)
            case measure => omega
            case rel =>
              exact ⟨j + 1, vs ++ [(dn, u)], _, by go_num, by omega, by have := unhide HVL; simp; omega, unhide HN, hb5.setCell (p := ⟨bq, 0, none⟩) (Nat.le_refl _) _, hJ, hk5.trans (KeepsS.of_set hfb' (by decide))⟩
      · have hjl : j = ws.length := by omega
        subst hjl
        rw [List.drop_length] at hto
        have HN : Hid (prefTo u q.vars ws = some vs) := hide hto
        clear hto
        go_wp2_with fail
        go_ret
        refine ⟨hb, ?_⟩
        rw [unhide HF, unhide HN]
        exact ⟨rfl, _, hqx⟩
  · have hcb : decide (0 < q.cl.length) = true := by
      have : 0 < q.cl.length := List.length_pos_iff.2 hcn
      simp; omega
    have HF : Hid (qPrefix q ws u = none) := hide (by unfold qPrefix; rw [if_pos (Or.inr hcn)])
    clear hnil hcn
    go_enter Tryd.func29, Tryd.ntmps29
    go_wp2_with fail
    go_ret
    exact ⟨Below.refl _ _, by rw [unhide HF]; rfl⟩
end Go.Proofs.YtgipjjhkhfihpaaDoor

namespace Go.Proofs.YtgipjjhkhfihpaaDoor
open Go.RowKit

/-! ### duelkeep: lines -/
def klinesOf (l : List UInt8) : List (List UInt8) := (cutTo 10 l).1
theorem infoStr : (Tryd.prog.info? 9).map (fun i => (i.zero, i.size, i.bytes)) = some (some (.string ⟨#[]⟩), 1, 16) := by kernel_rfl
theorem cutTo_nl (l : List UInt8) (k : Nat) (h : k < l.length) (rows : List (List UInt8)) (cur : List UInt8) (hc : cutTo 10 (l.take k) = (rows, cur)) : cutTo 10 (l.take (k + 1)) = if l[k] = 10 then (rows ++ [cur], []) else (rows, cur ++ [l[k]]) := by
  rw [cutTo_take 10 l k h, hc]
  unfold cutStep
  rfl
theorem cur_next (l : List UInt8) (k fr : Nat) (h : k < l.length) (hf : fr ≤ k) (cur : List UInt8) (hc : (l.drop fr).take (k - fr) = cur) : (l.drop fr).take (k + 1 - fr) = cur ++ [l[k]] := by
  have h1 : k - fr < (l.drop fr).length := by rw [List.length_drop]; omega
  rw [show k + 1 - fr = (k - fr) + 1 from by omega, List.take_succ_eq_append_getElem h1, hc]
  congr 2
  rw [List.getElem_drop]
  congr 1
  omega
attribute [local go_sem] ba_get
set_option maxRecDepth 100000 in
set_option maxHeartbeats 1600000 in
theorem klines_any (l : List UInt8) (w : World) (hl : l.length ≤ 1048576) :
    Calls Tryd.prog 11 #[.string ⟨l.toArray⟩] w fun e w' => ∃ v, e = .returned v ∧ w'.ownsRow w.heap.size 9 1 v (klinesOf l).length ((klinesOf l).map S) ∧ Below w.heap.size w w' := by
  obtain ⟨i0, hi, hz0, hz1, hz2⟩ := info_parts infoStr
  go_enter Tryd.func11, Tryd.ntmps11
  go_wp2_with fail
  go_loopg [3, 4, 5] (l.length) (fun m vo vf vi wx => ∃ (k fr : Nat) (rows : List (List UInt8)) (cur : List UInt8), vi = .int .i64 (k : Int) ∧ vf = .int .i64 (fr : Int) ∧ k + m = l.length ∧ cutTo 10 (l.take k) = (rows, cur) ∧ fr ≤ k ∧ (l.drop fr).take (k - fr) = cur ∧ rows.length ≤ k ∧ wx.ownsRow w.heap.size 9 1 vo rows.length (rows.map S) ∧ Below w.heap.size w wx)
  case atStart => exact ⟨0, 0, [], [], rfl, rfl, by omega, rfl, by omega, by simp, by simp, World.ownsRow_nil _ _ _ _, Below.refl _ _⟩
  case round =>
    obtain ⟨k, fr, rows, cur, rfl, rfl, hkm, hct, hfk, hcu, hrl, hown, hb⟩ := hrel
    have HCT := hide hct
    have HCU := hide hcu
    have hbs := hb.size
    obtain ⟨aO, cO, rfl⟩ := own_form hown
    by_cases hlt : k < l.length
    · have hd3 : decide ((k : Int) < (l.length : Int)) = true := decide_eq_true (by omega)
      have hd4 : decide (k < l.length) = true := decide_eq_true hlt
      have HN := hide (cutTo_nl l k hlt rows cur hct)
      have HC := hide (cur_next l k fr hlt hfk cur hcu)
      clear hct hcu
      by_cases h10 : l[k] = 10
      · have HN2 : Hid (cutTo 10 (l.take (k + 1)) = (rows ++ [cur], [])) := hide (by rw [unhide HN, if_pos h10])
        have hex : ByteArray.extract ⟨l.toArray⟩ fr k = ⟨cur.toArray⟩ := by rw [ba_extract, unhide HCU]
        have HE := hide hex
        clear hex
        clear HN HC
        go_wp2_with (at_builtin; refine wpList_append_new rfl _ _ 34 rfl w.heap.size i0 (.string ⟨#[]⟩) 1 16 Tryd.underlying34 hi hz0 hz1 hz2 rfl (by decide) _ _ _ hown rfl rfl rfl (by simp [Value.oneCell']) (by unfold maxLen; omega) (by omega) hbs ?_; intro v4 w4 hown4 hgrow4 hnn4)
        have hB4 : Below w.heap.size w w4 := below_grown hb hgrow4 hown (Nat.le_refl _) hbs
        rw [unhide HE] at hown4
        obtain ⟨a4, c4, rfl⟩ := own_form hown4
        go_wp2_with fail
        go_roundg (gk - 1)
        case measure => omega
        case rel => exact ⟨k + 1, k + 1, rows ++ [cur], [], by go_num, by go_num, by omega, unhide HN2, by omega, by simp, by simp; omega, by simpa using hown4, hB4⟩
      · have HN2 : Hid (cutTo 10 (l.take (k + 1)) = (rows, cur ++ [l[k]])) := hide (by rw [unhide HN, if_neg h10])
        have hne : ((l[k].toNat : Int) == 10) = false := by
          rw [beq_eq_false_iff_ne]
          intro e
          apply h10
          rw [← UInt8.toNat_inj]
          have : (10 : UInt8).toNat = 10 := rfl
          omega
        have hne2 : (l[k].toNat == 10) = false := by rw [beq_eq_false_iff_ne]; intro e; rw [beq_eq_false_iff_ne] at hne; apply hne; omega
        clear HN h10
        go_wp2_with fail
        go_roundg (gk - 1)
        case measure => omega
        case rel => exact ⟨k + 1, fr, rows, cur ++ [l[k]], by go_num, rfl, by omega, unhide HN2, by omega, unhide HC, by omega, hown, hb⟩
    · have hd3 : decide ((k : Int) < (l.length : Int)) = false := decide_eq_false (by omega)
      have hd4 : decide (k < l.length) = false := decide_eq_false hlt
      have HF : Hid (klinesOf l = rows) := hide (by unfold klinesOf; have := unhide HCT; rw [List.take_of_length_le (by omega)] at this; rw [this])
      clear hct hcu
      go_wp2_with fail
      go_ret
      exact ⟨_, rfl, by rw [unhide HF]; exact hown, hb⟩
end Go.Proofs.YtgipjjhkhfihpaaDoor

namespace Go.Proofs.YtgipjjhkhfihpaaDoor
open Go.RowKit

/-! ### Lines joined to a text, and cut again -/
def joinN (m : List (List UInt8)) : List UInt8 := m.flatMap (· ++ [10])
theorem cut_line (c : UInt8) (r : List UInt8) (h : c ∉ r) : ∀ (st : List (List UInt8) × List UInt8), r.foldl (cutStep c) st = (st.1, st.2 ++ r) := by
  induction r with
  | nil => intro st; simp
  | cons b r ih =>
    intro st
    rw [List.mem_cons, not_or] at h
    rw [List.foldl_cons, ih h.2]
    unfold cutStep
    rw [if_neg (Ne.symm h.1)]
    simp
theorem cut_join (m : List (List UInt8)) (h : ∀ r ∈ m, (10 : UInt8) ∉ r) : ∀ (st : List (List UInt8)), (joinN m).foldl (cutStep 10) (st, []) = (st ++ m, []) := by
  induction m with
  | nil => intro st; simp [joinN]
  | cons r m ih =>
    intro st
    have e : joinN (r :: m) = r ++ (10 :: joinN m) := by simp [joinN]
    rw [e, List.foldl_append, cut_line 10 r (h r (by simp)), List.foldl_cons]
    have e2 : cutStep 10 (st, [] ++ r) 10 = (st ++ [r], []) := by unfold cutStep; simp
    rw [e2, ih (fun x hx => h x (by simp [hx]))]
    simp
end Go.Proofs.YtgipjjhkhfihpaaDoor

namespace Go.Proofs.YtgipjjhkhfihpaaDoor
open Go.RowKit

/-! ### duelkeep: joined, starts, clauses -/
theorem joinN_snoc (m : List (List UInt8)) (r : List UInt8) : joinN (m ++ [r]) = joinN m ++ r ++ [10] := by simp [joinN]
theorem joinN_take_le (m : List (List UInt8)) (k : Nat) : (joinN (m.take k)).length ≤ (joinN m).length := by
  have e : joinN m = joinN (m.take k) ++ joinN (m.drop k) := by unfold joinN; rw [← List.flatMap_append, List.take_append_drop]
  rw [e, List.length_append]; omega
theorem joinN_ge (m : List (List UInt8)) : m.length ≤ (joinN m).length := by
  induction m with
  | nil => simp
  | cons r m ih =>
    have e : joinN (r :: m) = r ++ (10 :: joinN m) := by simp [joinN]
    rw [e, List.length_append, List.length_cons, List.length_cons]; omega
theorem mapS_at (rows : List (List UInt8)) (k : Nat) (h : k < rows.length) : (rows.map S)[k]? = some (S rows[k]) := by simp [h]
attribute [local go_sem] ba_get
set_option maxRecDepth 100000 in
set_option maxHeartbeats 1600000 in
theorem kjoined_any (base : Nat) (rows : List (List UInt8)) (a : Option Addr) (c : Nat) (w : World) (hown : w.ownsRow base 9 1 (.slice a rows.length c) rows.length (rows.map S)) (hl : (joinN rows).length ≤ 1048576) :
    Calls Tryd.prog 20 #[.slice a rows.length c] w fun e w' => e = .returned (S (joinN rows)) ∧ Below w.heap.size w w' := by
  have hge := joinN_ge rows
  go_enter Tryd.func20, Tryd.ntmps20
  go_wp2_with fail
  go_loopg [3, 4] (rows.length) (fun m vt vi wx => ∃ (k : Nat) (acc : List UInt8), vi = .int .i64 (k : Int) ∧ vt = .string ⟨acc.toArray⟩ ∧ k + m = rows.length ∧ acc = joinN (rows.take k) ∧ Below w.heap.size w wx)
  case atStart => exact ⟨0, [], rfl, rfl, by omega, rfl, Below.refl _ _⟩
  case round =>
    obtain ⟨k, acc, rfl, rfl, hkm, hac, hb⟩ := hrel
    have HAC := hide hac
    clear hac
    by_cases hlt : k < rows.length
    · have hd3 : decide ((k : Int) < (rows.length : Int)) = true := decide_eq_true (by omega)
      have hd4 : decide (k < rows.length) = true := decide_eq_true hlt
      obtain ⟨g, cap, hVe, _, hg', _, hcell⟩ := own_pos (own_below hown hb) (by omega)
      injection hVe with hVe _ hV2
      subst hVe hV2
      have hx := hcell _ _ (mapS_at rows k hlt)
      have HTK := hide (List.take_succ_eq_append_getElem hlt)
      have hle := joinN_take_le rows (k + 1)
      rw [unhide HTK, joinN_snoc, ← unhide HAC, List.length_append, List.length_append, List.length_singleton] at hle
      clear hcell
      generalize rows[k] = r at *
      have HE : Hid (ByteArray.mk acc.toArray ++ ByteArray.mk r.toArray ++ ⟨#[10]⟩ = ⟨(acc ++ r ++ [10]).toArray⟩) := hide (by rw [ba_append acc r]; exact ba_append (acc ++ r) [10])
      have HN : Hid (acc ++ r ++ [10] = joinN (rows.take (k + 1))) := hide (by rw [unhide HTK, joinN_snoc, unhide HAC])
      have hl1 : acc.length ≤ 1048576 := by omega
      have hl2 : r.length ≤ 1048576 := by omega
      clear HAC
      go_wp2_with fail
      go_roundg (gk - 1)
      case measure => omega
      case rel => exact ⟨k + 1, acc ++ r ++ [10], by go_num, by rw [unhide HE], by omega, unhide HN, hb⟩
    · have hd3 : decide ((k : Int) < (rows.length : Int)) = false := decide_eq_false (by omega)
      have hd4 : decide (k < rows.length) = false := decide_eq_false hlt
      have HF : Hid (joinN rows = acc) := hide (by rw [unhide HAC, List.take_of_length_le (by omega)])
      go_wp2_with fail
      go_ret
      exact ⟨by rw [unhide HF]; rfl, hb⟩
set_option maxRecDepth 100000 in
set_option maxHeartbeats 400000 in
theorem kstarts_any (l : List UInt8) (c : UInt8) (w : World) (hl : l.length ≤ 1048576) :
    Calls Tryd.prog 12 #[.string ⟨l.toArray⟩, .int .u8 c.toNat] w fun e w' => e = .returned (.bool (l.head? == some c)) ∧ Below w.heap.size w w' := by
  cases l with
  | nil =>
    go_enter Tryd.func12, Tryd.ntmps12
    go_wp2_with fail
    go_ret
    exact ⟨rfl, Below.refl _ _⟩
  | cons x l =>
    have HB := hide (u8_beq (a := x) (b := c))
    go_enter Tryd.func12, Tryd.ntmps12
    go_wp2_with fail
    go_ret
    exact ⟨by rw [show ((x :: l).head? == some c) = (x == c) from rfl, ← unhide HB]; rfl, Below.refl _ _⟩
end Go.Proofs.YtgipjjhkhfihpaaDoor

namespace Go.Proofs.YtgipjjhkhfihpaaDoor
open Go.RowKit

abbrev SetV (c : Nat × Nat) : Value := .agg #[.int .i64 (c.1 : Int), .int .i64 (c.2 : Int)]
theorem int_ne_zero (a : Nat) : ((a : Int) != 0) = (a != 0) := by
  rw [Bool.eq_iff_iff, bne_iff_ne, bne_iff_ne]; omega
theorem int_eq_zero (a : Nat) : ((a : Int) == 0) = (a == 0) := by
  rw [Bool.eq_iff_iff, beq_iff_eq, beq_iff_eq]; omega
theorem and_lt9 (a b : Nat) (ha : a < 512) : a &&& b < 512 := Nat.lt_of_le_of_lt Nat.and_le_left ha
theorem less_lt9 (a b : Nat) (ha : a < 512) : less a b < 512 := Nat.lt_of_le_of_lt (less_le a b) ha

set_option maxRecDepth 100000 in
set_option maxHeartbeats 800000 in
theorem varOf_any (x : Int) (w : World) (hx : -9223372036854775807 ≤ x) (hx2 : x ≤ 9223372036854775807) :
    Calls Tryd.prog 52 #[.int .i64 x] w fun e w' => e = .returned (.int .i64 (x.natAbs : Nat)) ∧ w' = w := by
  by_cases h : x < 0
  · have hd : decide (x < 0) = true := by simpa using h
    have hwx : IntKind.i64.wrap (-x) = -x := by
      obtain ⟨m, hm⟩ := Int.eq_ofNat_of_zero_le (show 0 ≤ -x by omega)
      rw [hm]; exact wrap_i64_nat m (by omega)
    go_enter Tryd.func52, Tryd.ntmps52
    go_wp2_with fail
    go_ret
    exact ⟨ret_int (by omega), rfl⟩
  · have hd : decide (x < 0) = false := by simpa using h
    go_enter Tryd.func52, Tryd.ntmps52
    go_wp2_with fail
    go_ret
    exact ⟨ret_int (by omega), rfl⟩

set_option maxRecDepth 100000 in
set_option maxHeartbeats 800000 in
theorem empty_any (p n : Nat) (w : World) (hp : p < 512) (hn : n < 512) :
    Calls Tryd.prog 66 #[SetV (p, n)] w fun e w' => e = .returned (.bool (p ||| n == 0)) ∧ Below w.heap.size w w' := by
  have hor : bits .or .i64 (p : Int) (n : Int) = ((p ||| n : Nat) : Int) := i64_or _ _ (by omega) (by omega)
  have HE := hide (int_eq_zero (p ||| n))
  go_enter Tryd.func66, Tryd.ntmps66
  go_wp2_with fail
  go_ret
  exact ⟨ret_bool (unhide HE), (Below.refl _ _).alloc (Nat.le_refl _) _⟩

set_option maxRecDepth 100000 in
set_option maxHeartbeats 800000 in
theorem clashes_any (p n : Nat) (w : World) (hp : p < 512) (hn : n < 512) :
    Calls Tryd.prog 73 #[SetV (p, n)] w fun e w' => e = .returned (.bool (p &&& n != 0)) ∧ Below w.heap.size w w' := by
  have hand : bits .and .i64 (p : Int) (n : Int) = ((p &&& n : Nat) : Int) := i64_and _ _ (by omega) (by omega)
  have HE := hide (int_ne_zero (p &&& n))
  go_enter Tryd.func73, Tryd.ntmps73
  go_wp2_with fail
  go_ret
  exact ⟨ret_bool (unhide HE), (Below.refl _ _).alloc (Nat.le_refl _) _⟩

set_option maxRecDepth 100000 in
set_option maxHeartbeats 800000 in
theorem meets_any (p n p2 n2 : Nat) (w : World) (hp : p < 512) (hn : n < 512) (hp2 : p2 < 512) (hn2 : n2 < 512) :
    Calls Tryd.prog 67 #[SetV (p, n), SetV (p2, n2)] w fun e w' => e = .returned (.bool ((p &&& p2) ||| (n &&& n2) != 0)) ∧ Below w.heap.size w w' := by
  have h1 : bits .and .i64 (p : Int) (p2 : Int) = ((p &&& p2 : Nat) : Int) := i64_and _ _ (by omega) (by omega)
  have h2 : bits .and .i64 (n : Int) (n2 : Int) = ((n &&& n2 : Nat) : Int) := i64_and _ _ (by omega) (by omega)
  have h3 : bits .or .i64 ((p &&& p2 : Nat) : Int) ((n &&& n2 : Nat) : Int) = (((p &&& p2) ||| (n &&& n2) : Nat) : Int) := i64_or _ _ (by have := and_lt9 p p2 hp; omega) (by have := and_lt9 n n2 hn; omega)
  have HE := hide (int_ne_zero ((p &&& p2) ||| (n &&& n2)))
  go_enter Tryd.func67, Tryd.ntmps67
  go_wp2_with fail
  go_ret
  exact ⟨ret_bool (unhide HE), ((Below.refl _ _).alloc (Nat.le_refl _) _).alloc (by simp) _⟩

/-- A set has a literal. -/
def hasLit (c : Nat × Nat) (x : Int) : Bool := if x < 0 then c.2 &&& bitOf (-x) != 0 else c.1 &&& bitOf x != 0
set_option maxRecDepth 100000 in
set_option maxHeartbeats 800000 in
theorem has_any (p n : Nat) (x : Int) (w : World) (hp : p < 512) (hn : n < 512) (hx : -9223372036854775807 ≤ x) (hx2 : x ≤ 9223372036854775807) :
    Calls Tryd.prog 51 #[SetV (p, n), .int .i64 x] w fun e w' => e = .returned (.bool (hasLit (p, n) x)) ∧ Below w.heap.size w w' := by
  by_cases h : x < 0
  · have HW : Hid (hasLit (p, n) x = (n &&& bitOf (-x) != 0)) := hide (by unfold hasLit; rw [if_pos h])
    have hd : decide (x < 0) = true := by simpa using h
    have hwx : IntKind.i64.wrap (-x) = -x := by
      obtain ⟨m, hm⟩ := Int.eq_ofNat_of_zero_le (show 0 ≤ -x by omega)
      rw [hm]; exact wrap_i64_nat m (by omega)
    have hand : bits .and .i64 (n : Int) (bitOf (-x) : Nat) = ((n &&& bitOf (-x) : Nat) : Int) := i64_and _ _ (by omega) (by have := bitOf_lt (-x); omega)
    have HE := hide (int_ne_zero (n &&& bitOf (-x)))
    go_enter Tryd.func51, Tryd.ntmps51
    go_wp2_with fail
    go_quiet ((go_at_call 46; exact Calls.quiet_of_same (bit_any _ _)))
    go_wp2_with fail
    go_ret
    exact ⟨ret_bool (by rw [unhide HW]; exact unhide HE), below_drewN ((Below.refl _ _).alloc (Nat.le_refl _) _) nq⟩
  · have HW : Hid (hasLit (p, n) x = (p &&& bitOf x != 0)) := hide (by unfold hasLit; rw [if_neg h])
    have hd : decide (x < 0) = false := by simpa using h
    have hand : bits .and .i64 (p : Int) (bitOf x : Nat) = ((p &&& bitOf x : Nat) : Int) := i64_and _ _ (by omega) (by have := bitOf_lt x; omega)
    have HE := hide (int_ne_zero (p &&& bitOf x))
    go_enter Tryd.func51, Tryd.ntmps51
    go_wp2_with fail
    go_quiet ((go_at_call 46; exact Calls.quiet_of_same (bit_any _ _)))
    go_wp2_with fail
    go_ret
    exact ⟨ret_bool (by rw [unhide HW]; exact unhide HE), below_drewN ((Below.refl _ _).alloc (Nat.le_refl _) _) nq⟩

set_option maxRecDepth 100000 in
set_option maxHeartbeats 800000 in
theorem union_any (p n p2 n2 : Nat) (w : World) (hp : p < 512) (hn : n < 512) (hp2 : p2 < 512) (hn2 : n2 < 512) :
    Calls Tryd.prog 77 #[SetV (p, n), SetV (p2, n2)] w fun e w' => e = .returned (SetV (p ||| p2, n ||| n2)) ∧ Below w.heap.size w w' := by
  have h1 : bits .or .i64 (p : Int) (p2 : Int) = ((p ||| p2 : Nat) : Int) := i64_or _ _ (by omega) (by omega)
  have h2 : bits .or .i64 (n : Int) (n2 : Int) = ((n ||| n2 : Nat) : Int) := i64_or _ _ (by omega) (by omega)
  go_enter Tryd.func77, Tryd.ntmps77
  go_wp2_with fail
  refine bodyPost_ret (v := SetV (p ||| p2, n ||| n2)) (by simp [results, Tryd.results77, go_sem]) rfl ⟨rfl, ?_⟩
  exact ((((Below.refl _ _).alloc (Nat.le_refl _) _).alloc (by simp) _)).alloc (by simp; omega) _

/-- A set without a variable's literals. -/
def without (c : Nat × Nat) (v : Int) : Nat × Nat := (less c.1 (bitOf v), less c.2 (bitOf v))
set_option maxRecDepth 100000 in
set_option maxHeartbeats 800000 in
theorem withoutVar_any (p n : Nat) (v : Int) (w : World) (hp : p < 512) (hn : n < 512) :
    Calls Tryd.prog 78 #[SetV (p, n), .int .i64 v] w fun e w' => e = .returned (SetV (without (p, n) v)) ∧ Below w.heap.size w w' := by
  have hb := bitOf_lt v
  have h1 : bits .andNot .i64 (p : Int) (bitOf v : Nat) = ((less p (bitOf v) : Nat) : Int) := i64_andNot _ _ (by omega) (by omega)
  have h2 : bits .andNot .i64 (n : Int) (bitOf v : Nat) = ((less n (bitOf v) : Nat) : Int) := i64_andNot _ _ (by omega) (by omega)
  go_enter Tryd.func78, Tryd.ntmps78
  go_wp2_with fail
  refine (bit_any _ _).mono ?_
  rintro e w1 ⟨rfl, rfl⟩
  go_wp2_with fail
  refine bodyPost_ret (v := SetV (without (p, n) v)) (by simp [results, Tryd.results78, go_sem, without]) rfl ⟨rfl, ?_⟩
  exact (((Below.refl _ _).alloc (Nat.le_refl _) _).alloc (by simp) _)
end Go.Proofs.YtgipjjhkhfihpaaDoor

namespace Go.Proofs.YtgipjjhkhfihpaaDoor
open Go.RowKit

/-- What holds of the formula and the steps. -/
structure QB (q : QS) : Prop where
  vl : q.vars.length ≤ 8
  cl : q.cl.length ≤ 24
  bits : ∀ c ∈ q.cl, c.1 < 512 ∧ c.2 < 512
  names : ∀ x ∈ q.vars, 1 ≤ x.1 ∧ x.1 ≤ 8
structure SB (ss : List (Nat × Nat)) : Prop where
  len : ss.length ≤ 9000
  bits : ∀ c ∈ ss, c.1 < 512 ∧ c.2 < 512
def pivotB (kind : Nat) (u : Bool) : Bool := u == (kind == 2)
def hasVarB (c : Nat × Nat) (v : Nat) : Bool := (c.1 ||| c.2) &&& bitOf v != 0
/-- From the innermost variable outwards. -/
def redQ (kind : Nat) : List (Nat × Bool) → Nat × Nat → Nat × Nat
  | [], c => c
  | v :: vs, c => if hasVarB c v.1 then (if pivotB kind v.2 then c else redQ kind vs (without c v.1)) else redQ kind vs c
theorem without_lt (c : Nat × Nat) (v : Int) (h : c.1 < 512 ∧ c.2 < 512) : (without c v).1 < 512 ∧ (without c v).2 < 512 := ⟨less_lt9 _ _ h.1, less_lt9 _ _ h.2⟩
theorem redQ_lt (kind : Nat) (vs : List (Nat × Bool)) : ∀ (c : Nat × Nat), c.1 < 512 ∧ c.2 < 512 → (redQ kind vs c).1 < 512 ∧ (redQ kind vs c).2 < 512 := by
  induction vs with
  | nil => intro c h; exact h
  | cons v vs ih =>
    intro c h
    rw [redQ]
    split
    · split
      · exact h
      · exact ih _ (without_lt _ _ h)
    · exact ih _ h
theorem redQ_step (kind : Nat) (vs : List (Nat × Bool)) (k : Nat) (h : k < vs.length) (c : Nat × Nat) :
    redQ kind (vs.take (k + 1)).reverse c = if hasVarB c vs[k].1 then (if pivotB kind vs[k].2 then c else redQ kind (vs.take k).reverse (without c vs[k].1)) else redQ kind (vs.take k).reverse c := by
  rw [List.take_succ_eq_append_getElem h, List.reverse_append]
  rfl
def without2 (a b : Nat × Nat) (v : Nat) : Nat × Nat := without (a.1 ||| b.1, a.2 ||| b.2) v
def okC (x c : Nat × Nat) : Bool := ((x.1 &&& c.1) ||| (x.2 &&& c.2) != 0) || (x.1 &&& x.2 != 0)
def satQ (cl : List (Nat × Nat)) (c : Nat × Nat) : Bool := cl.all (okC · c)
theorem satQ_take (cl : List (Nat × Nat)) (c : Nat × Nat) (k : Nat) (h : k < cl.length) : satQ (cl.take (k + 1)) c = (satQ (cl.take k) c && okC cl[k] c) := by
  unfold satQ; rw [List.take_succ_eq_append_getElem h, List.all_append]; simp
theorem satQ_of (cl : List (Nat × Nat)) (c : Nat × Nat) (k : Nat) (h : k < cl.length) (hc : okC cl[k] c = false) : satQ cl c = false := by
  unfold satQ; rw [List.all_eq_false]; exact ⟨cl[k], List.getElem_mem h, by rw [hc]; decide⟩

/-! ### Steps as the program holds them -/
structure Stp where
  rule : Nat
  first : Nat
  second : Nat
  var : Nat
  lits : Nat × Nat
def litsAt (p : List Stp) (n : Nat) : Nat × Nat := if n = 0 then (0, 0) else match p[n - 1]? with
  | some s => s.lits
  | none => (0, 0)
def psCells (l : List Stp) : List Value := l.flatMap (fun s => [Value.int .i64 (s.rule : Int), Value.int .i64 (s.first : Int), Value.int .i64 (s.second : Int), Value.int .i64 (s.var : Int), Value.int .i64 (s.lits.1 : Int), Value.int .i64 (s.lits.2 : Int)])
theorem psCells_length (l : List Stp) : (psCells l).length = l.length * 6 := by
  induction l with
  | nil => rfl
  | cons a l ih => simp [psCells] at *; omega
theorem psCells_snoc (l : List Stp) (s : Stp) : psCells (l ++ [s]) = psCells l ++ [Value.int .i64 (s.rule : Int), Value.int .i64 (s.first : Int), Value.int .i64 (s.second : Int), Value.int .i64 (s.var : Int), Value.int .i64 (s.lits.1 : Int), Value.int .i64 (s.lits.2 : Int)] := by simp [psCells]
theorem psCells_at (l : List Stp) (k j : Nat) (h : k < l.length) (hj : j < 6) : (psCells l)[k * 6 + j]? = [Value.int .i64 (l[k].rule : Int), Value.int .i64 (l[k].first : Int), Value.int .i64 (l[k].second : Int), Value.int .i64 (l[k].var : Int), Value.int .i64 (l[k].lits.1 : Int), Value.int .i64 (l[k].lits.2 : Int)][j]? := by
  induction l generalizing k with
  | nil => simp at h
  | cons a l ih =>
    cases k with
    | zero =>
      simp only [psCells, List.flatMap_cons, Nat.zero_mul, Nat.zero_add, List.getElem_cons_zero]
      rw [List.getElem?_append_left (by simpa using hj)]
    | succ k =>
      have := ih k (by simpa using h)
      simp only [psCells, List.flatMap_cons] at this ⊢
      rw [show (k + 1) * 6 + j = (k * 6 + j) + 6 from by omega, List.getElem?_append_right (by simp)]
      simpa using this
theorem litsAt_in (p : List Stp) (m : Nat) (h : m < p.length) : litsAt p (m + 1) = p[m].lits := by
  unfold litsAt; rw [if_neg (by omega), Nat.add_sub_cancel, List.getElem?_eq_getElem h]
theorem litsAt_out (p : List Stp) (n : Nat) (h : n < 1 ∨ p.length < n) : litsAt p n = (0, 0) := by
  unfold litsAt
  split
  · rfl
  · rw [List.getElem?_eq_none (by omega)]
theorem litsAt_lt (p : List Stp) (h : ∀ s ∈ p, s.lits.1 < 512 ∧ s.lits.2 < 512) (n : Nat) : (litsAt p n).1 < 512 ∧ (litsAt p n).2 < 512 := by
  unfold litsAt
  split
  · exact ⟨by decide, by decide⟩
  · split
    · next s hs => exact h s (List.mem_of_getElem? hs)
    · exact ⟨by decide, by decide⟩
end Go.Proofs.YtgipjjhkhfihpaaDoor

namespace Go.Proofs.YtgipjjhkhfihpaaDoor
open Go.RowKit

/-! ### The search, as a function -/
def meetsB (a b : Nat × Nat) : Bool := (a.1 &&& b.1) ||| (a.2 &&& b.2) != 0
def clashB (a : Nat × Nat) : Bool := a.1 &&& a.2 != 0
def emptyB (a : Nat × Nat) : Bool := a.1 ||| a.2 == 0
def minus (a b : Nat × Nat) : Nat × Nat := (less a.1 b.1, less a.2 b.2)
def swapL (a : Nat × Nat) : Nat × Nat := (a.2, a.1)
/-- The resolvent of two steps, added. -/
def resP (p : List Stp) (a b v : Nat) : List Stp × Nat :=
  if hasLit (litsAt p a) v then (p ++ [⟨3, a, b, v, without2 (litsAt p a) (litsAt p b) v⟩], p.length + 1)
  else (p ++ [⟨3, b, a, v, without2 (litsAt p b) (litsAt p a) v⟩], p.length + 1)
def redP (q : QS) (kind : Nat) (p : List Stp) (n : Nat) : List Stp × Nat :=
  if redQ kind q.vars.reverse (litsAt p n) = litsAt p n then (p, n) else (p ++ [⟨4, n, 0, 0, redQ kind q.vars.reverse (litsAt p n)⟩], p.length + 1)
/-- What changes while nodes are looked at. -/
structure SS where
  nodes : Nat
  ref : List Stp
  aff : List Stp
  kept : List (Nat × Nat)
  most : Nat
/-- What doesn't. -/
structure SC where
  q : QS
  uni : Nat × Nat
  budget : Nat
  room : Nat
def SS.proof (s : SS) (kind : Nat) : List Stp := if kind = 2 then s.aff else s.ref
def SS.lits (s : SS) (f : Nat × Nat) : Nat × Nat := litsAt (s.proof f.1) f.2
def SS.put (s : SS) (kind : Nat) (p : List Stp) : SS := if kind = 2 then { s with aff := p } else { s with ref := p }
def storeK (room : Nat) (kept : List (Nat × Nat)) (f : Nat × Nat) : List (Nat × Nat) := if room = 0 then kept else if room ≤ kept.length then kept.drop 1 ++ [f] else kept ++ [f]
def storeM (room : Nat) (kept : List (Nat × Nat)) (f : Nat × Nat) (most : Nat) : Nat := if room = 0 then most else if most < (storeK room kept f).length then (storeK room kept f).length else most
def SS.store (room : Nat) (s : SS) (f : Nat × Nat) : SS := { s with kept := storeK room s.kept f, most := storeM room s.kept f s.most }
def SS.keep (room : Nat) (s : SS) (f : Nat × Nat) : SS := if emptyB (s.lits f) then s else s.store room f
def SS.reduce (q : QS) (s : SS) (f : Nat × Nat) : SS × (Nat × Nat) := (s.put f.1 (redP q f.1 (s.proof f.1) f.2).1, (f.1, (redP q f.1 (s.proof f.1) f.2).2))

def clausesOf (q : QS) (kept : List (Nat × Nat)) : List Nat := (List.range q.cl.length).map (· + 1) ++ (kept.filter (fun f => f.1 == 1)).map (·.2)
def leftOf (c vals : Nat × Nat) : Nat × Nat := minus c (swapL vals)
def openB (c vals : Nat × Nat) : Bool := !meetsB c vals && !clashB c
def isConf (uni vals c : Nat × Nat) : Bool := openB c vals && emptyB (minus (leftOf c vals) uni)
def confOf (ref : List Stp) (uni : Nat × Nat) (cs : List Nat) (vals : Nat × Nat) : Nat := (cs.find? (fun s => isConf uni vals (litsAt ref s))).getD 0
def listFrom (c : Nat × Nat) : Nat → Nat → List Int
  | 0, _ => []
  | k + 1, v => (if hasLit c v then [(v : Int)] else []) ++ ((if hasLit c (-(v : Int)) then [-(v : Int)] else []) ++ listFrom c k (v + 1))
/-- The literals, rising. -/
def listOf (c : Nat × Nat) : List Int := listFrom c 8 1
def isUnit (uni vals c : Nat × Nat) : Bool := openB c vals && ((listOf (leftOf c vals)).length == 1 && !meetsB (leftOf c vals) uni)
def unitOf (ref : List Stp) (uni : Nat × Nat) (cs : List Nat) (vals : Nat × Nat) : Int × Nat := match cs.find? (fun s => isUnit uni vals (litsAt ref s)) with
  | none => (0, 0)
  | some s => ((listOf (leftOf (litsAt ref s) vals)).headD 0, s)
structure US where
  vals : Nat × Nat
  trail : List (Int × Nat)
  conf : Nat
def unitsGo (ref : List Stp) (uni : Nat × Nat) (cs : List Nat) : Nat → Nat × Nat → List (Int × Nat) → US
  | 0, vals, trail => ⟨vals, trail, 0⟩
  | m + 1, vals, trail => if confOf ref uni cs vals ≠ 0 then ⟨vals, trail, confOf ref uni cs vals⟩ else
    if (unitOf ref uni cs vals).2 = 0 then ⟨vals, trail, 0⟩ else unitsGo ref uni cs m (withLit vals (unitOf ref uni cs vals).1) (trail ++ [unitOf ref uni cs vals])
def unitsOf (C : SC) (s : SS) (path : Nat × Nat) : US := unitsGo s.ref C.uni (clausesOf C.q s.kept) (C.q.vars.length + 1) path []
/-- From the last unit to the first. -/
def expl : List (Int × Nat) → List Stp → Nat → List Stp × Nat
  | [], p, n => (p, n)
  | m :: ms, p, n => if hasLit (litsAt p n) (-m.1) then expl ms (resP p m.2 n m.1.natAbs).1 (resP p m.2 n m.1.natAbs).2 else expl ms p n
def explain (C : SC) (s : SS) (u : US) : SS × (Nat × Nat) :=
  let r := expl u.trail.reverse s.ref u.conf
  let d := redP C.q 1 r.1 r.2
  let s2 : SS := { s with ref := d.1 }
  (if r.2 ≠ u.conf then s2.keep C.room (1, d.2) else s2, (1, d.2))
def holdsB (c path : Nat × Nat) : Bool := emptyB (minus c path)
def shrinkStep (q : QS) (u : Bool) (c : Nat × Nat) (v : Nat × Bool) : Nat × Nat := if v.2 = u ∧ satQ q.cl (without c v.1) = true then without c v.1 else c
def shrinkK (q : QS) (u : Bool) (c : Nat × Nat) : Nat × Nat := q.vars.reverse.foldl (shrinkStep q u) c
def shrinkQ (q : QS) (c : Nat × Nat) : Nat × Nat := shrinkK q false (shrinkK q true c)
def cubeOf (C : SC) (s : SS) (path vals : Nat × Nat) : SS × (Nat × Nat) :=
  match s.kept.find? (fun f => f.1 == 2 && holdsB (s.lits f) path) with
  | some f => (s, f)
  | none => if satQ C.q.cl vals then
      let p := s.aff ++ [⟨2, 0, 0, 0, shrinkQ C.q vals⟩]
      let d := redP C.q 2 p p.length
      let s2 : SS := { s with aff := d.1 }
      (s2.keep C.room (2, d.2), (2, d.2))
    else (s, (0, 0))
/-- A node ahead of its branches: what was found, or the values. -/
def nodeOf (C : SC) (s : SS) (path : Nat × Nat) : (SS × (Nat × Nat)) ⊕ (SS × (Nat × Nat)) :=
  if 0 < C.budget ∧ C.budget ≤ s.nodes then .inl (s, (0, 0)) else
  let s1 : SS := { s with nodes := s.nodes + 1 }
  let u := unitsOf C s1 path
  if u.conf ≠ 0 then .inl (explain C s1 u) else
  let r := cubeOf C s1 path u.vals
  if r.2.1 ≠ 0 then .inl r else .inr (r.1, u.vals)
def joinOf (C : SC) (s : SS) (a b : Nat × Nat) (v : Nat) : SS × (Nat × Nat) :=
  let r := resP (s.proof a.1) a.2 b.2 v
  let d := redP C.q a.1 r.1 r.2
  let s2 := s.put a.1 d.1
  (s2.keep C.room (a.1, d.2), (a.1, d.2))
def lookM (C : SC) : Nat → Nat × Nat → Nat → SS → SS × (Nat × Nat)
  | 0, path, _, s => match nodeOf C s path with
    | .inl r => r
    | .inr r => (r.1, (0, 0))
  | m + 1, path, depth, s => match nodeOf C s path with
    | .inl r => r
    | .inr (s1, vals) =>
      let v := (C.q.vars.getD depth (0, false)).1
      let side : Int := if hasLit vals (-(v : Int)) then -(v : Int) else v
      let a := lookM C m (withLit path side) (depth + 1) s1
      if hasVarB (a.1.lits a.2) v then
        let b := lookM C m (withLit path (-side)) (depth + 1) a.1
        if hasVarB (b.1.lits b.2) v then joinOf C b.1 a.2 b.2 v else b
      else a
/-! ### What is needed of a proof, and its text -/
def markOne (b : Bool) (i n : Nat) (m : List Bool) : List Bool := if b = true ∧ 0 < n ∧ n < i then m.set n true else m
def markStep (p : List Stp) (last i : Nat) (m : List Bool) : List Bool :=
  let m1 := if i = last then m.set i true else m
  let b := m1.getD i false && decide ((p.getD (i - 1) ⟨0, 0, 0, 0, (0, 0)⟩).rule ≠ 1)
  markOne b i (p.getD (i - 1) ⟨0, 0, 0, 0, (0, 0)⟩).second (markOne b i (p.getD (i - 1) ⟨0, 0, 0, 0, (0, 0)⟩).first m1)
def markTo (p : List Stp) (last : Nat) : Nat → List Bool → List Bool
  | 0, m => m
  | i + 1, m => markTo p last i (markStep p last (i + 1) m)
def needs (p : List Stp) (last : Nat) : List Bool := markTo p last p.length (List.replicate (p.length + 1) false)
/-- A step with the new numbers of those that it is made of. -/
def renum (nums : List Nat) (i : Nat) (s : Stp) : Stp := { s with first := if s.rule ≠ 1 ∧ s.first ≤ i then nums.getD s.first 0 else s.first, second := if s.second ≤ i then nums.getD s.second 0 else s.second }
def shortTo (p : List Stp) (mk : List Bool) : Nat → List Stp → List Nat → List Stp × List Nat
  | 0, sh, nums => (sh, nums)
  | m + 1, sh, nums =>
    let i := p.length - (m + 1)
    if mk.getD (i + 1) false then shortTo p mk m (sh ++ [renum nums i (p.getD i ⟨0, 0, 0, 0, (0, 0)⟩)]) (nums.set (i + 1) (sh.length + 1)) else shortTo p mk m sh nums
def shortOf (p : List Stp) (last : Nat) : List Stp := (shortTo p (needs p last) p.length [] (List.replicate (p.length + 1) 0)).1

def uniTo (vs : List (Nat × Bool)) (u : Nat × Nat) : Nat × Nat := vs.foldl (fun u v => if v.2 then withLit (withLit u v.1) (-(v.1 : Int)) else u) u
def axioms (cl : List (Nat × Nat)) : List Stp := cl.zipIdx.map (fun c => ⟨1, c.2 + 1, 0, 0, c.1⟩)
def beginC (q : QS) (budget room : Nat) : SC := ⟨q, uniTo q.vars (0, 0), budget, room⟩
def beginS (q : QS) : SS := ⟨0, axioms q.cl, [], [], 0⟩
def solveM (q : QS) (budget room : Nat) : SS × (Nat × Nat) := lookM (beginC q budget room) q.vars.length (0, 0) 0 (beginS q)
end Go.Proofs.YtgipjjhkhfihpaaDoor
