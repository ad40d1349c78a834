import Derived.Test.YtbpolmdokdhkhaaQbf2
namespace Go.Proofs.Ytbpolmdokdhkhaa
open Go.RowKit

/-- The same, where the walk writes the new block's number in another way. -/
theorem wpList_append_new' {P : Program} {ops : Array Oper} {rest : List Oper} {o : Oper} {a : Act} {Q : Exit → Act → World → Prop} {w : World} {news : List Value} {e : TypeId} (hgd : o.guard = none) (s x : Operand) (t : TypeId)
    (ho : o.op = .call { callee := .builtin .append, args := #[s, x], argTypes := #[t, t] })
    (base : Nat) (i : TypeInfo) (z : Value) (size bytes : Nat) (ht : P.underlying t = some (.slice e)) (hi : P.info? e = some i) (hz : i.zero = some z)
    (hsize : i.size = size) (hby : i.bytes = bytes) (hzs : z.cells.size = size) (hsz : 0 < size)
    (v : Value) (n : Nat) (xs : List Value) (hown : w.ownsRow base e size v n xs) (hs : a.eval s = v)
    (m : Nat) (hx : a.eval x = .slice (some ⟨m, 0, none⟩) 1 1) (hm : m = w.heap.size) (hl : news.length = size) (h1 : ∀ u ∈ news, u.oneCell' = true)
    (h63 : n + 1 ≤ maxLen) (hbytes : (n + 1) * bytes ≤ 140737488355328) (hbase : base ≤ w.heap.size)
    (h : ∀ v' w', w'.ownsRow base e size v' (n + 1) (xs ++ news) → w.grownBy w' v.ownBlock → (v' ≠ .slice none 0 0) → wpList P ops Q rest (a.put o.dst v') w') : wpList P ops Q (o :: rest) a (w.alloc (.cells news.toArray e)) := by
  subst hm
  exact wpList_append_new hgd s x t ho base i z size bytes ht hi hz hsize hby hzs hsz v n xs hown hs hx hl h1 h63 hbytes hbase h

/-- Strings lie at an address. -/
def StrsAt (w : World) (ao : Option Addr) (ws : List (List UInt8)) : Prop :=
  ws ≠ [] → ∃ g off cur, ao = some ⟨g, off, none⟩ ∧ w.heap[g]? = some (.cells cur 9 (0, 0)) ∧ ∀ j (hj : j < ws.length), cur[off + j]? = some (S ws[j])
/-- Blocks of strings are as they were. -/
def KeepsS (w w' : World) : Prop := ∀ (g : Nat) (cur : Array Value), w.heap[g]? = some (.cells cur 9 (0, 0)) → w'.heap[g]? = some (.cells cur 9 (0, 0))
theorem KeepsS.trans {a b c : World} (h : KeepsS a b) (k : KeepsS b c) : KeepsS a c := fun g cur hg => k g cur (h g cur hg)
theorem KeepsS.of_below {a b : World} (h : Below a.heap.size a b) : KeepsS a b := fun g _ hg => (h.block g (blk_lt hg)).trans hg
theorem KeepsS.of_set {w : World} {b o : Nat} {c : Array Value} {t : TypeId} {fr : Nat × Nat} {u : Value} (h : w.heap[b]? = some (.cells c t fr)) (ht : t ≠ 9) : KeepsS w (w.setCell ⟨b, o, none⟩ u) := fun g cur hg => by
  rw [Below.heap_setCell _ _ _ _ (fun e => by subst e; rw [hg] at h; simp at h; exact ht h.2.1.symm)]; exact hg
theorem KeepsS.of_grown {w w' : World} {v : Value} {base n size : Nat} {e : TypeId} {xs : List Value} (hg : w.grownBy w' v.ownBlock) (ho : w.ownsRow base e size v n xs) (he : e ≠ 9) : KeepsS w w' := fun g cur hgc => by
  rw [hg.block g (blk_lt hgc) (fun eq => by
    rcases ho.2 with ⟨rfl, _⟩ | ⟨g', cap, cur', rfl, _, hh, _⟩
    · simp [Value.ownBlock] at eq
    · simp [Value.ownBlock] at eq
      subst eq
      rw [hgc] at hh
      simp at hh
      exact he hh.2.symm)]
  exact hgc
theorem StrsAt.keep {w w' : World} {ao : Option Addr} {ws : List (List UInt8)} (h : StrsAt w ao ws) (k : KeepsS w w') : StrsAt w' ao ws := fun hne => by
  obtain ⟨g, off, cur, h1, h2, h3⟩ := h hne
  exact ⟨g, off, cur, h1, k g cur h2, h3⟩

theorem QInv.push_cl {wr wp w' : World} {bq base : Nat} {q : QS} {vV vC v' : Value} {p n : Nat} (hbq : bq < base) (h : QInv base wr bq q vV vC) (hp : Below wr.heap.size wr wp) (hg : wp.grownBy w' vC.ownBlock)
    (hown : w'.ownsRow base 96 2 v' (q.cl.length + 1) (pairs q.cl ++ [.int .i64 (p : Int), .int .i64 (n : Int)])) :
    w'.heap[bq]? = some (.cells #[vV, vC] 44 (0, 0)) ∧ QInv base (w'.setCell ⟨bq, 1, none⟩ v') bq { q with cl := q.cl ++ [(p, n)] } vV v' := by
  have hlt := h.oC.lt
  have hbf := blk_lt h.fb
  have hfb : w'.heap[bq]? = some (.cells #[vV, vC] 44 (0, 0)) := by
    rw [hg.block bq (Nat.lt_of_lt_of_le hbf hp.size) (fun e => by have := hlt bq e.symm; omega), hp.block bq hbf]; exact h.fb
  refine ⟨hfb, blk_set hfb 1 v', ?_, ?_⟩
  · exact ownsRow_setCell_below (own_kept h.oV hp h.oC hg (by decide)) (a := ⟨bq, 1, none⟩) hbq v'
  · have := ownsRow_setCell_below hown (a := ⟨bq, 1, none⟩) hbq v'
    rw [← pairs_snoc q.cl (p, n)] at this
    simpa using this
theorem QInv.push_var {wr wp w' : World} {bq base : Nat} {q : QS} {vV vC v' : Value} {x : Nat × Bool} (hbq : bq < base) (h : QInv base wr bq q vV vC) (hp : Below wr.heap.size wr wp) (hg : wp.grownBy w' vV.ownBlock)
    (hown : w'.ownsRow base 91 2 v' (q.vars.length + 1) (varCells q.vars ++ [.int .i64 (x.1 : Int), .bool x.2])) :
    w'.heap[bq]? = some (.cells #[vV, vC] 44 (0, 0)) ∧ QInv base (w'.setCell ⟨bq, 0, none⟩ v') bq { q with vars := q.vars ++ [x] } v' vC := by
  have hlt := h.oV.lt
  have hbf := blk_lt h.fb
  have hfb : w'.heap[bq]? = some (.cells #[vV, vC] 44 (0, 0)) := by
    rw [hg.block bq (Nat.lt_of_lt_of_le hbf hp.size) (fun e => by have := hlt bq e.symm; omega), hp.block bq hbf]; exact h.fb
  refine ⟨hfb, blk_set hfb 0 v', ?_, ?_⟩
  · have := ownsRow_setCell_below hown (a := ⟨bq, 0, none⟩) hbq v'
    rw [← varCells_snoc q.vars x] at this
    simpa using this
  · exact ownsRow_setCell_below (own_kept h.oC hp h.oV hg (by decide)) (a := ⟨bq, 0, none⟩) hbq v'

/-! ### readClause -/
def clTo : (Nat × Nat) → List (List UInt8) → Option (Nat × Nat)
  | c, [] => some c
  | c, w :: ws => if litGood w then clTo (withLit c (litNum w)) ws else none
theorem litNum_bd (w : List UInt8) : -8 ≤ litNum w ∧ litNum w ≤ 8 := by
  have h1 := dig_bd w; have h2 := dig_bd w.tail
  unfold litNum; split <;> omega
theorem withLit_lt (c : Nat × Nat) (x : Int) (h1 : c.1 < 512) (h2 : c.2 < 512) : (withLit c x).1 < 512 ∧ (withLit c x).2 < 512 := by
  unfold withLit; split
  · exact ⟨h1, or_lt _ _ h2 (bitOf_lt _)⟩
  · exact ⟨or_lt _ _ h1 (bitOf_lt _), h2⟩
def ClPost (bq : Nat) (q : QS) (vV : Value) (ws : List (List UInt8)) (w : World) (e : Ending) (w' : World) : Prop :=
  Below bq w w' ∧ match clTo (0, 0) ws with
    | none => e = .returned (.bool false)
    | some c => e = .returned (.bool true) ∧ ∃ vC', QInv (bq + 1) w' bq { q with cl := q.cl ++ [c] } vV vC'

set_option maxRecDepth 100000 in
set_option maxHeartbeats 1600000 in
theorem readClause_any (bq : Nat) (q : QS) (vV vC : Value) (ws : List (List UInt8)) (ao : Option Addr) (cap : Nat) (w : World) (hq : QInv (bq + 1) w bq q vV vC) (hs : StrsAt w ao ws)
    (hl : ws.length ≤ 1048576) (hws : ∀ x ∈ ws, x.length ≤ 1048576) (hcl : q.cl.length ≤ 1048576) :
    Calls Try.prog 41 #[.pointer (some ⟨bq, 0, none⟩), .slice ao ws.length cap] w fun e w' => ClPost bq q vV ws w e w' := by
  have hbq := blk_lt hq.fb
  have HWS := hide hws; clear hws
  go_enter Try.func41, Try.ntmps41
  go_wp2_with fail
  go_loopg [13] (ws.length) (fun n i wx => ∃ (j p m : Nat), i = .int .i64 j ∧ j + n = ws.length ∧ p < 512 ∧ m < 512 ∧ clTo (0, 0) ws = clTo (p, m) (ws.drop j) ∧ Below w.heap.size w wx ∧
     wx.heap[w.heap.size]? = some (.cells #[.int .i64 p, .int .i64 m] 96 (0, 0)))
  case atStart => exact ⟨0, 0, 0, rfl, by omega, by omega, by omega, rfl, (Below.refl _ _).alloc (Nat.le_refl _) _, heap_alloc_new _ _⟩
  case round =>
    obtain ⟨j, p, m, rfl, hj, hp, hm, hto, hb, hbc⟩ := hrel
    have hbs : w.heap.size < wr.heap.size := blk_lt hbc
    have hp0 : wr.cell? ⟨w.heap.size, 0, none⟩ = some (.int .i64 p) := by rw [blk_cell hbc]; rfl
    have hp1 : wr.cell? ⟨w.heap.size, 1, none⟩ = some (.int .i64 m) := by rw [blk_cell hbc]; rfl
    by_cases hlt : j < ws.length
    · obtain ⟨g, off, cur, rfl, hg, hcur⟩ := hs (by intro e; subst e; simp at hlt)
      have hcj : wr.cell? ⟨g, off + j, none⟩ = some (S ws[j]) := by
        rw [hb.cell (p := ⟨g, off + j, none⟩) (blk_lt hg), blk_cell hg]; exact hcur j hlt
      have hwl := unhide HWS _ (List.getElem_mem hlt)
      rw [List.drop_eq_getElem_cons hlt, clTo] at hto
      have HTO := hide hto; clear hto hcur
      obtain ⟨n0, n1⟩ := litNum_bd ws[j]
      go_wp2_with fail
      refine (wliteral_any ws[j] wr hwl).mono ?_
      rintro e w2 ⟨hw2, rfl⟩
      subst hw2
      cases hgd : litGood ws[j] with
      | false =>
        have HF : Hid (clTo (0, 0) ws = none) := hide (by rw [unhide HTO, hgd, if_neg (by decide)])
        go_wp2_with fail
        go_ret
        exact ⟨hb.mono (by omega), by rw [unhide HF]; rfl⟩
      | true =>
        have HF : Hid (clTo (0, 0) ws = clTo (withLit (p, m) (litNum ws[j])) (ws.drop (j + 1))) := hide (by rw [unhide HTO, hgd, if_pos rfl])
        have hwl2 := withLit_lt (p, m) (litNum ws[j]) hp hm
        go_wp2_with fail
        refine (with_any p m (litNum ws[j]) w2 hp hm (by omega) (by omega)).mono ?_
        rintro e w3 ⟨rfl, hb3⟩
        have hb4 : Below w.heap.size w w3 := hb.trans (hb3.mono (by omega))
        have hbc3 := (hb3.block _ hbs).trans hbc
        have hq0 : w3.cell? ⟨w.heap.size, 0, none⟩ = some (.int .i64 p) := by rw [blk_cell hbc3]; rfl
        have hq1 : w3.cell? ⟨w.heap.size, 1, none⟩ = some (.int .i64 m) := by rw [blk_cell hbc3]; rfl
        have hz0 := blk_free hbc3 0
        have hz1 := blk_free hbc3 1
        generalize withLit (p, m) (litNum ws[j]) = c at *
        obtain ⟨p', m'⟩ := c
        go_wp2_with fail
        go_roundg (gk - 1)
        case measure => omega
        case rel =>
          refine ⟨j + 1, p', m', by go_num, by omega, hwl2.1, hwl2.2, unhide HF, (hb4.setCell (p := ⟨w.heap.size, 0, none⟩) (Nat.le_refl _) _).setCell (p := ⟨w.heap.size, 1, none⟩) (Nat.le_refl _) _, ?_⟩
          exact blk_set (blk_set hbc3 0 _) 1 _
    · have hjl : j = ws.length := by omega
      subst hjl
      rw [List.drop_length] at hto
      have HF : Hid (clTo (0, 0) ws = some (p, m)) := hide hto
      clear hto
      have hq3 := hq.later hb
      have hf3 : wr.cell? ⟨bq, 1, none⟩ = some vC := by rw [blk_cell hq3.fb]; rfl
      have hfz := blk_free hq3.fb 1
      have hbqw : bq < wr.heap.size := by omega
      have hapc : vC.ownBlock ≠ some w.heap.size := fun e => by have := hq.oC.lt _ e; omega
      obtain ⟨i1, hi1, hz10, hz11, hz12⟩ := info_parts Try.info96
      go_wp2_with fail
      go_region_law (refine step_append_own rfl (.tmp 32) (.tmp 34) 42 rfl (bq + 1) 96 i1 (.agg #[.int .i64 0, .int .i64 0]) 2 16 Try.underlying42 hi1 hz10 hz11 hz12 rfl (by decide) vC q.cl.length (pairs q.cl) (hq3.oC.alloc _).drew rfl ⟨wr.heap.size, 0, none⟩ 1 1 [.int .i64 p, .int .i64 m] rfl rfl (new_cells wr [.int .i64 p, .int .i64 m] 96) (by simp [Value.oneCell']) (by unfold maxLen; omega) (by omega) (by simp; omega) ?_; intro v' w' hown' hgrow hnn; obtain ⟨hfb', hJ⟩ := hq3.push_cl (Nat.lt_succ_self bq) (((Below.refl _ wr).alloc (Nat.le_refl _) _).drew) hgrow hown'; have hbel : Below bq w w' := ((hb.mono (Nat.le_of_lt hbq)).trans ((((Below.refl wr.heap.size wr).alloc (Nat.le_refl _) _).drew).mono (Nat.le_of_lt hbqw))).grown hgrow (by simp; omega) (fun k hk => (by have := (hq3.oC.lt k hk).1; omega)); obtain ⟨g3, cap3, rfl, hg3, hg3', hcap3, hcell3⟩ := own_pos hown' (by omega); have hq3' : w'.cell? ⟨bq, 1, none⟩ = some vC := (by rw [blk_cell hfb']; rfl); have hqz := blk_free hfb' 1)
      all_goals
        go_wp2_with fail
        go_ret
        refine ⟨hbel.setCell (p := ⟨bq, 1, none⟩) (Nat.le_refl _) _, ?_⟩
        rw [unhide HF]
        exact ⟨rfl, _, hJ⟩

/-! ### readPrefix -/
def badVar (vs : List (Nat × Bool)) (w : List UInt8) : Bool := !decide (0 < dig w) || hasV vs (dig w).toNat
def prefTo (u : Bool) : List (Nat × Bool) → List (List UInt8) → Option (List (Nat × Bool))
  | vs, [] => some vs
  | vs, w :: ws => if badVar vs w then none else prefTo u (vs ++ [((dig w).toNat, u)]) ws
def qPrefix (q : QS) (ws : List (List UInt8)) (u : Bool) : Option (List (Nat × Bool)) := if ws = [] ∨ q.cl ≠ [] then none else prefTo u q.vars ws
def PrefPost (bq : Nat) (q : QS) (vC : Value) (ws : List (List UInt8)) (u : Bool) (w : World) (e : Ending) (w' : World) : Prop :=
  Below bq w w' ∧ match qPrefix q ws u with
    | none => e = .returned (.bool false)
    | some vs => e = .returned (.bool true) ∧ ∃ vV', QInv (bq + 1) w' bq { q with vars := vs } vV' vC

set_option maxRecDepth 100000 in
set_option maxHeartbeats 1600000 in
theorem readPrefix_any (bq : Nat) (q : QS) (vV vC : Value) (ws : List (List UInt8)) (u : Bool) (ao : Option Addr) (cap : Nat) (w : World) (hq : QInv (bq + 1) w bq q vV vC) (hs : StrsAt w ao ws)
    (hl : ws.length ≤ 524288) (hws : ∀ x ∈ ws, x.length ≤ 1048576) (hvl : q.vars.length ≤ 536870912) (_hcl : q.cl.length ≤ 1048576) :
    Calls Try.prog 40 #[.pointer (some ⟨bq, 0, none⟩), .slice ao ws.length cap, .bool u] w fun e w' => PrefPost bq q vC ws u w e w' := by
  have hbq := blk_lt hq.fb
  have HWS := hide hws; clear hws
  have hf1 : w.cell? ⟨bq, 1, none⟩ = some vC := by rw [blk_cell hq.fb]; rfl
  obtain ⟨aC, cC, rfl⟩ := own_form hq.oC
  by_cases hnil : ws = []
  · subst hnil
    have HF : Hid (qPrefix q [] u = none) := hide (by unfold qPrefix; rw [if_pos (Or.inl rfl)])
    go_enter Try.func40, Try.ntmps40
    go_wp2_with fail
    go_ret
    exact ⟨Below.refl _ _, by rw [unhide HF]; rfl⟩
  have hwl0 : 0 < ws.length := List.length_pos_iff.2 hnil
  have hwb : ((ws.length : Int) == 0) = false := by rw [beq_eq_false_iff_ne]; omega
  by_cases hcn : q.cl = []
  · have hcb : decide (0 < q.cl.length) = false := by rw [hcn]; rfl
    have HF : Hid (qPrefix q ws u = prefTo u q.vars ws) := hide (by unfold qPrefix; rw [if_neg (by rintro (h | h); exact hnil h; exact h hcn)])
    obtain ⟨g, off, cur, rfl, hg, hcur⟩ := hs hnil
    have HS := hide hs
    have HCN := hide hcn
    clear hnil hcn
    obtain ⟨i0, hi, hz0, hz1, hz2⟩ := info_parts Try.info91
    go_enter Try.func40, Try.ntmps40
    go_wp2_with fail
    go_loopg [26] (ws.length) (fun n i wx => ∃ (j : Nat) (vs : List (Nat × Bool)) (vV : Value), i = .int .i64 j ∧ j + n = ws.length ∧ vs.length = q.vars.length + j ∧ prefTo u q.vars ws = prefTo u vs (ws.drop j) ∧ Below bq w wx ∧
      QInv (bq + 1) wx bq { q with vars := vs } vV (.slice aC q.cl.length cC) ∧ KeepsS w wx)
    case atStart => exact ⟨0, q.vars, vV, rfl, by omega, rfl, rfl, Below.refl _ _, hq, fun _ _ h => h⟩
    case round =>
      obtain ⟨j, vs, vV, rfl, hj, hvl2, hto, hb, hqx, hk⟩ := hrel
      have HVL := hide hvl2
      have hvl3 : vs.length ≤ 1073741824 := by omega
      clear hvl2
      by_cases hlt : j < ws.length
      · have hcj : wr.cell? ⟨g, off + j, none⟩ = some (S ws[j]) := by
          rw [blk_cell (hk g cur hg)]; exact hcur j hlt
        have hwl := unhide HWS _ (List.getElem_mem hlt)
        rw [List.drop_eq_getElem_cons hlt, prefTo] at hto
        have HTO := hide hto; clear hto
        obtain ⟨d0, d1⟩ := dig_bd ws[j]
        obtain ⟨dn, hdn⟩ := Int.eq_ofNat_of_zero_le d0
        have HBV : Hid (badVar vs ws[j] = (!decide (0 < dn) || hasV vs dn)) := hide (by unfold badVar; rw [hdn]; simp)
        have HDN : Hid ((dig ws[j]).toNat = dn) := hide (by rw [hdn]; simp)
        go_wp2_with fail
        refine (variable_any ws[j] wr hwl).mono ?_
        rintro e w2 ⟨hw2, rfl⟩
        subst hw2
        rw [hdn]
        have hdn8 : dn ≤ 8 := by omega
        clear hdn d0 d1
        by_cases hz : dn = 0
        · have hdz : decide (0 < dn) = false := by simp; omega
          have HN : Hid (prefTo u q.vars ws = none) := hide (by rw [unhide HTO, unhide HBV, hz]; rfl)
          clear hz
          go_wp2_with fail
          go_ret
          exact ⟨hb, by rw [unhide HF, unhide HN]; rfl⟩
        · have hdz : decide (0 < dn) = true := by simp; omega
          have HZ : Hid (decide (0 < dn) = true) := hide (by simp; omega)
          clear hz
          go_wp2_with fail
          refine (find_any (bq + 1) bq vs vV dn w2 (by rw [blk_cell hqx.fb]; rfl) hqx.oV hvl3).mono ?_
          rintro e w3 ⟨hb3, rfl⟩
          rw [hasV_find]
          generalize (findV vs dn).getD (0, false) = fx
          have hb3a : Below w2.heap.size w2 (w3.alloc (.cells #[.int .i64 (fx.1 : Nat), .bool fx.2] 91)) := hb3.alloc hb3.size _
          have hqy := hqx.later hb3a
          have hbq2 : bq < w2.heap.size := blk_lt hqx.fb
          have hbq3 : bq < w3.heap.size := Nat.lt_of_lt_of_le hbq2 hb3.size
          have hby : Below bq w (w3.alloc (.cells #[.int .i64 (fx.1 : Nat), .bool fx.2] 91)) := hb.trans (hb3a.mono (Nat.le_of_lt hbq2))
          have hky := hk.trans (KeepsS.of_below hb3a)
          dsimp only
          cases hh : hasV vs dn with
          | true =>
            have HN : Hid (prefTo u q.vars ws = none) := hide (by rw [unhide HTO, unhide HBV, hh]; simp)
            go_wp2_with fail
            go_ret
            exact ⟨hby, by rw [unhide HF, unhide HN]; rfl⟩
          | false =>
            have HN : Hid (prefTo u q.vars ws = prefTo u (vs ++ [(dn, u)]) (ws.drop (j + 1))) := hide (by rw [unhide HTO, unhide HBV, hh, unhide HZ, unhide HDN]; rfl)
            have hf0 : w3.cell? ⟨bq, 0, none⟩ = some vV := by rw [blk_cell (hqx.later hb3).fb]; rfl
            have hbs : bq + 1 ≤ (w3.alloc (.cells #[.int .i64 (fx.1 : Nat), .bool fx.2] 91)).heap.size := blk_lt hqy.fb
            go_wp2_with (at_builtin; refine wpList_append_new' rfl (.tmp 48) (.tmp 52) 41 rfl (bq + 1) i0 (.agg #[.int .i64 0, .bool false]) 2 16 Try.underlying41 hi hz0 hz1 hz2 rfl (by decide) _ _ _ hqy.oV rfl _ rfl (by simp) rfl (by simp [Value.oneCell']) (by unfold maxLen; dsimp only; omega) (by dsimp only; omega) hbs ?_; intro v' w4 hown4 hgrow hnn; obtain ⟨hfb', hJ⟩ := hqy.push_var (x := (dn, u)) (Nat.lt_succ_self bq) (Below.refl _ _) hgrow hown4; have hb5 : Below bq w w4 := hby.grown hgrow (by omega) (fun k hk => (by have := (hqy.oV.lt k hk).1; omega)); have hk5 := hky.trans (KeepsS.of_grown hgrow hqy.oV (by decide)); obtain ⟨g3, cap3, rfl, hg3, hg3', hcap3, hcell3⟩ := own_pos hown4 (by omega); have hq3' : w4.cell? ⟨bq, 0, none⟩ = some vV := (by rw [blk_cell hfb']; rfl); have hqz := blk_free hfb' 0)
            go_roundg (gk - 1)
            case measure => omega
            case rel =>
              exact ⟨j + 1, vs ++ [(dn, u)], _, by go_num, by omega, by have := unhide HVL; simp; omega, unhide HN, hb5.setCell (p := ⟨bq, 0, none⟩) (Nat.le_refl _) _, hJ, hk5.trans (KeepsS.of_set hfb' (by decide))⟩
      · have hjl : j = ws.length := by omega
        subst hjl
        rw [List.drop_length] at hto
        have HN : Hid (prefTo u q.vars ws = some vs) := hide hto
        clear hto
        go_wp2_with fail
        go_ret
        refine ⟨hb, ?_⟩
        rw [unhide HF, unhide HN]
        exact ⟨rfl, _, hqx⟩
  · have hcb : decide (0 < q.cl.length) = true := by
      have : 0 < q.cl.length := List.length_pos_iff.2 hcn
      simp; omega
    have HF : Hid (qPrefix q ws u = none) := hide (by unfold qPrefix; rw [if_pos (Or.inr hcn)])
    clear hnil hcn
    go_enter Try.func40, Try.ntmps40
    go_wp2_with fail
    go_ret
    exact ⟨Below.refl _ _, by rw [unhide HF]; rfl⟩
end Go.Proofs.Ytbpolmdokdhkhaa
