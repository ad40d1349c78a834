import Derived.Test.YtgipjjhkhfihpabGreatDoorBC
namespace Go.Proofs.YtgipjjhkhfihpabGreatDoor
open Go.RowKit

def resQ2 (a b : Nat × Nat) (v : Nat) : Option (Nat × Nat) :=
  if hasLit a v = true ∧ hasLit b (-(v : Int)) = true then (if (without2 a b v).1 &&& (without2 a b v).2 != 0 then none else some (without2 a b v)) else none
def resQ (q : QS) (kind : Nat) (ss : List (Nat × Nat)) (ws : List (List UInt8)) : Option (Nat × Nat) :=
  match ws with
  | [x, y, z] => (aheadQ ss x).bind fun a => (aheadQ ss y).bind fun b => (pivQ q kind z).bind fun v => resQ2 a b v
  | _ => none
theorem wrap_neg_small (v : Nat) (h : v ≤ 8) : IntKind.i64.wrap (-(v : Int)) = -(v : Int) := by
  have : ∀ v : Fin 9, IntKind.i64.wrap (-(v.val : Int)) = -(v.val : Int) := by decide
  exact this ⟨v, by omega⟩
theorem opt_isSome {α : Type} (o : Option α) (d : α) : (o.isSome = true → o = some (o.getD d)) ∧ (o.isSome = false → o = none) := by
  cases o with
  | none => exact ⟨fun h => (by cases h), fun _ => rfl⟩
  | some c => exact ⟨fun _ => rfl, fun h => (by cases h)⟩
theorem len_three {α : Type} {l : List α} (h : l.length = 3) : ∃ x y z, l = [x, y, z] := by
  match l, h with
  | [x, y, z], _ => exact ⟨x, y, z, rfl⟩
theorem numOf_le (l : List UInt8) (most : Nat) : (numOf l most).getD 0 ≤ most := by
  cases hn : numOf l most with
  | none => simp
  | some n => have := numOf_range hn; simp; omega

set_option maxRecDepth 100000 in
set_option maxHeartbeats 3200000 in
theorem readResolvent_any (b : Nat) (q : QS) (kind : Nat) (ss : List Stp) (vV vC vS : Value) (ws : List (List UInt8)) (ao : Option Addr) (cap : Nat) (w : World) (hP : PInv w b q kind ss vV vC vS) (hQ : QB q) (hS : SBs ss)
    (hs : StrsAt w ao ws) (hl : ws.length ≤ 1048576) (hws : ∀ x ∈ ws, x.length ≤ 1048576) :
    Calls Tryz.prog 87 #[.pointer (some ⟨b, 0, none⟩), .slice ao ws.length cap] w fun e w' => StPost NotRed (resQ q kind (litsL ss) ws) w e w' := by
  by_cases h3 : ws.length = 3
  · obtain ⟨x, y, z, rfl⟩ := len_three h3
    clear h3
    obtain ⟨g, off, cur, rfl, hg, hcur⟩ := hs (by simp)
    have hgw := blk_lt hg
    have hx : w.cell? ⟨g, off, none⟩ = some (S x) := by rw [blk_cell hg]; exact hcur 0 (by simp)
    have hy : w.cell? ⟨g, off + 1, none⟩ = some (S y) := by rw [blk_cell hg]; exact hcur 1 (by simp)
    have hz : w.cell? ⟨g, off + 2, none⟩ = some (S z) := by rw [blk_cell hg]; exact hcur 2 (by simp)
    have hxl := hws x (by simp)
    have hyl := hws y (by simp)
    have hzl := hws z (by simp)
    clear hcur hws
    have hsl := hS.len
    have HR : Hid (resQ q kind (litsL ss) [x, y, z] = ((numOf x ss.length).map (litsAt ss)).bind fun a => ((numOf y ss.length).map (litsAt ss)).bind fun b => (pivQ q kind z).bind fun v => resQ2 a b v) := hide (by show (aheadQ (litsL ss) x).bind _ = _; rw [ahead_lits, ahead_lits])
    go_enter Tryz.func87, Tryz.ntmps87
    go_wp2_with fail
    generalize hw0 : (w.alloc (.cells #[.int .i64 0, .int .i64 0, .int .i64 0, .int .i64 0, .int .i64 0, .int .i64 0] 91)) = u1
    have hB : Below w.heap.size w u1 := by rw [← hw0]; exact (Below.refl _ _).alloc (Nat.le_refl _) _
    have hrs : u1.heap[w.heap.size]? = some (.cells #[.int .i64 0, .int .i64 0, .int .i64 0, .int .i64 0, .int .i64 0, .int .i64 0] 91 (0, 0)) := by rw [← hw0]; exact alloc_new_at (by simp)
    clear hw0
    have crs0 : u1.cell? ⟨w.heap.size, 0, none⟩ = some (.int .i64 0) := by rw [blk_cell hrs]; rfl
    have crs1 : u1.cell? ⟨w.heap.size, 1, none⟩ = some (.int .i64 0) := by rw [blk_cell hrs]; rfl
    have crs2 : u1.cell? ⟨w.heap.size, 2, none⟩ = some (.int .i64 0) := by rw [blk_cell hrs]; rfl
    have crs3 : u1.cell? ⟨w.heap.size, 3, none⟩ = some (.int .i64 0) := by rw [blk_cell hrs]; rfl
    have crs4 : u1.cell? ⟨w.heap.size, 4, none⟩ = some (.int .i64 0) := by rw [blk_cell hrs]; rfl
    have crs5 : u1.cell? ⟨w.heap.size, 5, none⟩ = some (.int .i64 0) := by rw [blk_cell hrs]; rfl
    have lrs := blk_lt hrs
    have hP1 := hP.later hB
    have hx' : u1.cell? ⟨g, off, none⟩ = some (S x) := by rw [hB.cell (p := ⟨g, off, none⟩) hgw]; exact hx
    have hy' : u1.cell? ⟨g, off + 1, none⟩ = some (S y) := by rw [hB.cell (p := ⟨g, off + 1, none⟩) hgw]; exact hy
    have hz' : u1.cell? ⟨g, off + 2, none⟩ = some (S z) := by rw [hB.cell (p := ⟨g, off + 2, none⟩) hgw]; exact hz
    have hgw' : g < u1.heap.size := Nat.lt_of_lt_of_le hgw hB.size
    refine (readNumber_any b q kind ss vV vC vS x _ hP1 hS hxl).mono ?_
    rintro e w19 ⟨rfl, hw19⟩
    subst hw19
    have hnb1 := numOf_le x ss.length
    obtain ⟨HC1, HN1⟩ : Hid ((numOf x ss.length).isSome = true → numOf x ss.length = some ((numOf x ss.length).getD 0)) ∧ Hid ((numOf x ss.length).isSome = false → numOf x ss.length = none) := ⟨hide (opt_isSome _ _).1, hide (opt_isSome _ 0).2⟩
    generalize (numOf x ss.length).getD 0 = i at *
    generalize (numOf x ss.length).isSome = o1 at *
    go_wp2_with fail
    refine (readNumber_any b q kind ss vV vC vS y _ hP1 hS hyl).mono ?_
    rintro e w29 ⟨rfl, hw29⟩
    subst hw29
    have hnb2 := numOf_le y ss.length
    obtain ⟨HC2, HN2⟩ : Hid ((numOf y ss.length).isSome = true → numOf y ss.length = some ((numOf y ss.length).getD 0)) ∧ Hid ((numOf y ss.length).isSome = false → numOf y ss.length = none) := ⟨hide (opt_isSome _ _).1, hide (opt_isSome _ 0).2⟩
    generalize (numOf y ss.length).getD 0 = j at *
    generalize (numOf y ss.length).isSome = o2 at *
    go_wp2_with fail
    refine (readPivot_any b q kind ss vV vC vS z _ hP1 hQ hzl).mono ?_
    rintro e u5 ⟨b5, v, o3, rfl, hv8, hpv⟩
    clear hx' hy' hz' 
    replace hB := hB.trans (b5.mono hB.size)
    replace hrs := (b5.block _ (blk_lt hrs)).trans hrs
    replace crs0 : u5.cell? ⟨w.heap.size, 0, none⟩ = some (.int .i64 0) := by rw [blk_cell hrs]; rfl
    replace crs1 : u5.cell? ⟨w.heap.size, 1, none⟩ = some (.int .i64 0) := by rw [blk_cell hrs]; rfl
    replace crs2 : u5.cell? ⟨w.heap.size, 2, none⟩ = some (.int .i64 0) := by rw [blk_cell hrs]; rfl
    replace crs3 : u5.cell? ⟨w.heap.size, 3, none⟩ = some (.int .i64 0) := by rw [blk_cell hrs]; rfl
    replace crs4 : u5.cell? ⟨w.heap.size, 4, none⟩ = some (.int .i64 0) := by rw [blk_cell hrs]; rfl
    replace crs5 : u5.cell? ⟨w.heap.size, 5, none⟩ = some (.int .i64 0) := by rw [blk_cell hrs]; rfl
    replace lrs := blk_lt hrs
    replace hP1 := hP1.later b5
    have zr0 := blk_free hrs 0
    have zr1 := blk_free hrs 1
    have zr2 := blk_free hrs 2
    have zr3 := blk_free hrs 3
    have zr4 := blk_free hrs 4
    have zr5 := blk_free hrs 5
    have hRn := blk_set6 hrs (.int .i64 0) (.int .i64 0) (.int .i64 0) (.int .i64 0) (.int .i64 0) (.int .i64 0)
    have jn0 := blk_cell hRn 0
    have jn1 := blk_cell hRn 1
    have jn2 := blk_cell hRn 2
    have jn3 := blk_cell hRn 3
    have jn4 := blk_cell hRn 4
    have jn5 := blk_cell hRn 5
    have hE5 := below_set6 hB (Nat.le_refl w.heap.size) (.int .i64 0) (.int .i64 0) (.int .i64 0) (.int .i64 0) (.int .i64 0) (.int .i64 0)
    cases o1 with
    | false =>
      have HF : Hid (resQ q kind (litsL ss) [x, y, z] = none) := hide (by rw [unhide HR, unhide HN1 rfl]; rfl)
      go_wp2_with fail
      refine bodyPost_ret (v := .tuple #[StpV S0, .bool false]) (by simp [results, Tryz.results87, go_sem, jn0, jn1, jn2, jn3, jn4, jn5]) rfl (StPost.none_ hE5 (unhide HF) S0 zero_lt9 rfl)
    | true =>
      cases o2 with
      | false =>
        have HF : Hid (resQ q kind (litsL ss) [x, y, z] = none) := hide (by rw [unhide HR, unhide HN2 rfl, unhide HC1 rfl]; rfl)
        go_wp2_with fail
        refine bodyPost_ret (v := .tuple #[StpV S0, .bool false]) (by simp [results, Tryz.results87, go_sem, jn0, jn1, jn2, jn3, jn4, jn5]) rfl (StPost.none_ hE5 (unhide HF) S0 zero_lt9 rfl)
      | true =>
        rcases hpv with ⟨rfl, hpv, hv1⟩ | ⟨rfl, hpv⟩
        · have HF : Hid (resQ q kind (litsL ss) [x, y, z] = resQ2 (litsAt ss i) (litsAt ss j) v) := hide (by rw [unhide HR, unhide HC2 rfl, unhide HC1 rfl, hpv]; rfl)
          have hwn := wrap_neg_small v hv8
          clear hpv HR HC1 HN1 HC2 HN2 jn0 jn1 jn2 jn3 jn4 jn5 hRn hE5
          have c3 : u5.cell? ⟨b, 3, none⟩ = some vS := by rw [blk_cell hP1.fb]; rfl
          have hl1 := litsAt_lt ss hS.bits i
          have hl2 := litsAt_lt ss hS.bits j
          have lbb := blk_lt hP1.fb
          go_wp2_with fail
          refine (plits_any (b + 1) b 2 ss vS i _ c3 hP1.oS (by omega)).mono ?_
          rintro e u6 ⟨rfl, b6⟩
          replace hB := hB.trans (b6.mono hB.size)
          replace hrs := (b6.block _ (blk_lt hrs)).trans hrs
          replace crs0 : u6.cell? ⟨w.heap.size, 0, none⟩ = some (.int .i64 0) := by rw [blk_cell hrs]; rfl
          replace crs1 : u6.cell? ⟨w.heap.size, 1, none⟩ = some (.int .i64 0) := by rw [blk_cell hrs]; rfl
          replace crs2 : u6.cell? ⟨w.heap.size, 2, none⟩ = some (.int .i64 0) := by rw [blk_cell hrs]; rfl
          replace crs3 : u6.cell? ⟨w.heap.size, 3, none⟩ = some (.int .i64 0) := by rw [blk_cell hrs]; rfl
          replace crs4 : u6.cell? ⟨w.heap.size, 4, none⟩ = some (.int .i64 0) := by rw [blk_cell hrs]; rfl
          replace crs5 : u6.cell? ⟨w.heap.size, 5, none⟩ = some (.int .i64 0) := by rw [blk_cell hrs]; rfl
          replace lrs := blk_lt hrs
          replace hP1 := hP1.later b6
          replace c3 : u6.cell? ⟨b, 3, none⟩ = some vS := by rw [blk_cell hP1.fb]; rfl
          replace lbb := blk_lt hP1.fb
          generalize hea : litsAt ss i = c at *
          have HEA := hide hea
          clear hea
          obtain ⟨p1, n1⟩ := c
          dsimp only at hl1
          go_wp2_with fail
          generalize hw0 : u6.alloc (.cells #[.int .i64 (p1 : Int), .int .i64 (n1 : Int)] 77) = u7
          have b7 : Below u6.heap.size u6 u7 := by rw [← hw0]; exact (Below.refl _ _).alloc (Nat.le_refl _) _
          have hfi : u7.heap[u6.heap.size]? = some (.cells #[.int .i64 (p1 : Int), .int .i64 (n1 : Int)] 77 (0, 0)) := by rw [← hw0]; exact heap_alloc_new _ _
          clear hw0
          replace hB := hB.trans (b7.mono hB.size)
          replace hrs := (b7.block _ (blk_lt hrs)).trans hrs
          replace crs0 : u7.cell? ⟨w.heap.size, 0, none⟩ = some (.int .i64 0) := by rw [blk_cell hrs]; rfl
          replace crs1 : u7.cell? ⟨w.heap.size, 1, none⟩ = some (.int .i64 0) := by rw [blk_cell hrs]; rfl
          replace crs2 : u7.cell? ⟨w.heap.size, 2, none⟩ = some (.int .i64 0) := by rw [blk_cell hrs]; rfl
          replace crs3 : u7.cell? ⟨w.heap.size, 3, none⟩ = some (.int .i64 0) := by rw [blk_cell hrs]; rfl
          replace crs4 : u7.cell? ⟨w.heap.size, 4, none⟩ = some (.int .i64 0) := by rw [blk_cell hrs]; rfl
          replace crs5 : u7.cell? ⟨w.heap.size, 5, none⟩ = some (.int .i64 0) := by rw [blk_cell hrs]; rfl
          replace lrs := blk_lt hrs
          replace hP1 := hP1.later b7
          replace c3 : u7.cell? ⟨b, 3, none⟩ = some vS := by rw [blk_cell hP1.fb]; rfl
          replace lbb := blk_lt hP1.fb
          have cfi0 : u7.cell? ⟨u6.heap.size, 0, none⟩ = some (.int .i64 (p1 : Int)) := by rw [blk_cell hfi]; rfl
          have cfi1 : u7.cell? ⟨u6.heap.size, 1, none⟩ = some (.int .i64 (n1 : Int)) := by rw [blk_cell hfi]; rfl
          have lfi := blk_lt hfi
          refine (plits_any (b + 1) b 2 ss vS j _ c3 hP1.oS (by omega)).mono ?_
          rintro e u8 ⟨rfl, b8⟩
          replace hB := hB.trans (b8.mono hB.size)
          replace hrs := (b8.block _ (blk_lt hrs)).trans hrs
          replace crs0 : u8.cell? ⟨w.heap.size, 0, none⟩ = some (.int .i64 0) := by rw [blk_cell hrs]; rfl
          replace crs1 : u8.cell? ⟨w.heap.size, 1, none⟩ = some (.int .i64 0) := by rw [blk_cell hrs]; rfl
          replace crs2 : u8.cell? ⟨w.heap.size, 2, none⟩ = some (.int .i64 0) := by rw [blk_cell hrs]; rfl
          replace crs3 : u8.cell? ⟨w.heap.size, 3, none⟩ = some (.int .i64 0) := by rw [blk_cell hrs]; rfl
          replace crs4 : u8.cell? ⟨w.heap.size, 4, none⟩ = some (.int .i64 0) := by rw [blk_cell hrs]; rfl
          replace crs5 : u8.cell? ⟨w.heap.size, 5, none⟩ = some (.int .i64 0) := by rw [blk_cell hrs]; rfl
          replace lrs := blk_lt hrs
          replace hfi := (b8.block _ (blk_lt hfi)).trans hfi
          replace cfi0 : u8.cell? ⟨u6.heap.size, 0, none⟩ = some (.int .i64 (p1 : Int)) := by rw [blk_cell hfi]; rfl
          replace cfi1 : u8.cell? ⟨u6.heap.size, 1, none⟩ = some (.int .i64 (n1 : Int)) := by rw [blk_cell hfi]; rfl
          replace lfi := blk_lt hfi
          replace hP1 := hP1.later b8
          replace c3 : u8.cell? ⟨b, 3, none⟩ = some vS := by rw [blk_cell hP1.fb]; rfl
          replace lbb := blk_lt hP1.fb
          generalize hea : litsAt ss j = c at *
          have HEB := hide hea
          clear hea
          obtain ⟨p2, n2⟩ := c
          dsimp only at hl2
          go_wp2_with fail
          generalize hw0 : u8.alloc (.cells #[.int .i64 (p2 : Int), .int .i64 (n2 : Int)] 77) = u9
          have b9 : Below u8.heap.size u8 u9 := by rw [← hw0]; exact (Below.refl _ _).alloc (Nat.le_refl _) _
          have hse : u9.heap[u8.heap.size]? = some (.cells #[.int .i64 (p2 : Int), .int .i64 (n2 : Int)] 77 (0, 0)) := by rw [← hw0]; exact heap_alloc_new _ _
          clear hw0
          replace hB := hB.trans (b9.mono hB.size)
          replace hrs := (b9.block _ (blk_lt hrs)).trans hrs
          replace crs0 : u9.cell? ⟨w.heap.size, 0, none⟩ = some (.int .i64 0) := by rw [blk_cell hrs]; rfl
          replace crs1 : u9.cell? ⟨w.heap.size, 1, none⟩ = some (.int .i64 0) := by rw [blk_cell hrs]; rfl
          replace crs2 : u9.cell? ⟨w.heap.size, 2, none⟩ = some (.int .i64 0) := by rw [blk_cell hrs]; rfl
          replace crs3 : u9.cell? ⟨w.heap.size, 3, none⟩ = some (.int .i64 0) := by rw [blk_cell hrs]; rfl
          replace crs4 : u9.cell? ⟨w.heap.size, 4, none⟩ = some (.int .i64 0) := by rw [blk_cell hrs]; rfl
          replace crs5 : u9.cell? ⟨w.heap.size, 5, none⟩ = some (.int .i64 0) := by rw [blk_cell hrs]; rfl
          replace lrs := blk_lt hrs
          replace hfi := (b9.block _ (blk_lt hfi)).trans hfi
          replace cfi0 : u9.cell? ⟨u6.heap.size, 0, none⟩ = some (.int .i64 (p1 : Int)) := by rw [blk_cell hfi]; rfl
          replace cfi1 : u9.cell? ⟨u6.heap.size, 1, none⟩ = some (.int .i64 (n1 : Int)) := by rw [blk_cell hfi]; rfl
          replace lfi := blk_lt hfi
          replace hP1 := hP1.later b9
          replace c3 : u9.cell? ⟨b, 3, none⟩ = some vS := by rw [blk_cell hP1.fb]; rfl
          replace lbb := blk_lt hP1.fb
          have cse0 : u9.cell? ⟨u8.heap.size, 0, none⟩ = some (.int .i64 (p2 : Int)) := by rw [blk_cell hse]; rfl
          have cse1 : u9.cell? ⟨u8.heap.size, 1, none⟩ = some (.int .i64 (n2 : Int)) := by rw [blk_cell hse]; rfl
          have lse := blk_lt hse
          refine (has_any p1 n1 v _ hl1.1 hl1.2 (by omega) (by omega)).mono ?_
          rintro e u10 ⟨rfl, b10⟩
          replace hB := hB.trans (b10.mono hB.size)
          replace hrs := (b10.block _ (blk_lt hrs)).trans hrs
          replace crs0 : u10.cell? ⟨w.heap.size, 0, none⟩ = some (.int .i64 0) := by rw [blk_cell hrs]; rfl
          replace crs1 : u10.cell? ⟨w.heap.size, 1, none⟩ = some (.int .i64 0) := by rw [blk_cell hrs]; rfl
          replace crs2 : u10.cell? ⟨w.heap.size, 2, none⟩ = some (.int .i64 0) := by rw [blk_cell hrs]; rfl
          replace crs3 : u10.cell? ⟨w.heap.size, 3, none⟩ = some (.int .i64 0) := by rw [blk_cell hrs]; rfl
          replace crs4 : u10.cell? ⟨w.heap.size, 4, none⟩ = some (.int .i64 0) := by rw [blk_cell hrs]; rfl
          replace crs5 : u10.cell? ⟨w.heap.size, 5, none⟩ = some (.int .i64 0) := by rw [blk_cell hrs]; rfl
          replace lrs := blk_lt hrs
          replace hfi := (b10.block _ (blk_lt hfi)).trans hfi
          replace cfi0 : u10.cell? ⟨u6.heap.size, 0, none⟩ = some (.int .i64 (p1 : Int)) := by rw [blk_cell hfi]; rfl
          replace cfi1 : u10.cell? ⟨u6.heap.size, 1, none⟩ = some (.int .i64 (n1 : Int)) := by rw [blk_cell hfi]; rfl
          replace lfi := blk_lt hfi
          replace hse := (b10.block _ (blk_lt hse)).trans hse
          replace cse0 : u10.cell? ⟨u8.heap.size, 0, none⟩ = some (.int .i64 (p2 : Int)) := by rw [blk_cell hse]; rfl
          replace cse1 : u10.cell? ⟨u8.heap.size, 1, none⟩ = some (.int .i64 (n2 : Int)) := by rw [blk_cell hse]; rfl
          replace lse := blk_lt hse
          replace hP1 := hP1.later b10
          replace c3 : u10.cell? ⟨b, 3, none⟩ = some vS := by rw [blk_cell hP1.fb]; rfl
          replace lbb := blk_lt hP1.fb
          clear zr0 zr1 zr2 zr3 zr4 zr5
          cases hh1 : hasLit (p1, n1) (v : Int) with
          | false =>
            have zr0 := blk_free hrs 0
            have zr1 := blk_free hrs 1
            have zr2 := blk_free hrs 2
            have zr3 := blk_free hrs 3
            have zr4 := blk_free hrs 4
            have zr5 := blk_free hrs 5
            have hRn := blk_set6 hrs (.int .i64 0) (.int .i64 0) (.int .i64 0) (.int .i64 0) (.int .i64 0) (.int .i64 0)
            have jn0 := blk_cell hRn 0
            have jn1 := blk_cell hRn 1
            have jn2 := blk_cell hRn 2
            have jn3 := blk_cell hRn 3
            have jn4 := blk_cell hRn 4
            have jn5 := blk_cell hRn 5
            have hE5 := below_set6 hB (Nat.le_refl w.heap.size) (.int .i64 0) (.int .i64 0) (.int .i64 0) (.int .i64 0) (.int .i64 0) (.int .i64 0)
            have HG : Hid (resQ q kind (litsL ss) [x, y, z] = none) := hide (by rw [unhide HF]; unfold resQ2; rw [if_neg (by rw [hh1]; simp)])
            go_wp2_with fail
            refine bodyPost_ret (v := .tuple #[StpV S0, .bool false]) (by simp [results, Tryz.results87, go_sem, jn0, jn1, jn2, jn3, jn4, jn5]) rfl (StPost.none_ hE5 (unhide HG) S0 zero_lt9 rfl)
          | true =>
            go_wp2_with fail
            refine (has_any p2 n2 (-(v : Int)) _ hl2.1 hl2.2 (by omega) (by omega)).mono ?_
            rintro e u11 ⟨rfl, b11⟩
            replace hB := hB.trans (b11.mono hB.size)
            replace hrs := (b11.block _ (blk_lt hrs)).trans hrs
            replace crs0 : u11.cell? ⟨w.heap.size, 0, none⟩ = some (.int .i64 0) := by rw [blk_cell hrs]; rfl
            replace crs1 : u11.cell? ⟨w.heap.size, 1, none⟩ = some (.int .i64 0) := by rw [blk_cell hrs]; rfl
            replace crs2 : u11.cell? ⟨w.heap.size, 2, none⟩ = some (.int .i64 0) := by rw [blk_cell hrs]; rfl
            replace crs3 : u11.cell? ⟨w.heap.size, 3, none⟩ = some (.int .i64 0) := by rw [blk_cell hrs]; rfl
            replace crs4 : u11.cell? ⟨w.heap.size, 4, none⟩ = some (.int .i64 0) := by rw [blk_cell hrs]; rfl
            replace crs5 : u11.cell? ⟨w.heap.size, 5, none⟩ = some (.int .i64 0) := by rw [blk_cell hrs]; rfl
            replace lrs := blk_lt hrs
            replace hfi := (b11.block _ (blk_lt hfi)).trans hfi
            replace cfi0 : u11.cell? ⟨u6.heap.size, 0, none⟩ = some (.int .i64 (p1 : Int)) := by rw [blk_cell hfi]; rfl
            replace cfi1 : u11.cell? ⟨u6.heap.size, 1, none⟩ = some (.int .i64 (n1 : Int)) := by rw [blk_cell hfi]; rfl
            replace lfi := blk_lt hfi
            replace hse := (b11.block _ (blk_lt hse)).trans hse
            replace cse0 : u11.cell? ⟨u8.heap.size, 0, none⟩ = some (.int .i64 (p2 : Int)) := by rw [blk_cell hse]; rfl
            replace cse1 : u11.cell? ⟨u8.heap.size, 1, none⟩ = some (.int .i64 (n2 : Int)) := by rw [blk_cell hse]; rfl
            replace lse := blk_lt hse
            replace hP1 := hP1.later b11
            replace c3 : u11.cell? ⟨b, 3, none⟩ = some vS := by rw [blk_cell hP1.fb]; rfl
            replace lbb := blk_lt hP1.fb
            cases hh2 : hasLit (p2, n2) (-(v : Int)) with
            | false =>
              have zr0 := blk_free hrs 0
              have zr1 := blk_free hrs 1
              have zr2 := blk_free hrs 2
              have zr3 := blk_free hrs 3
              have zr4 := blk_free hrs 4
              have zr5 := blk_free hrs 5
              have hRn := blk_set6 hrs (.int .i64 0) (.int .i64 0) (.int .i64 0) (.int .i64 0) (.int .i64 0) (.int .i64 0)
              have jn0 := blk_cell hRn 0
              have jn1 := blk_cell hRn 1
              have jn2 := blk_cell hRn 2
              have jn3 := blk_cell hRn 3
              have jn4 := blk_cell hRn 4
              have jn5 := blk_cell hRn 5
              have hE5 := below_set6 hB (Nat.le_refl w.heap.size) (.int .i64 0) (.int .i64 0) (.int .i64 0) (.int .i64 0) (.int .i64 0) (.int .i64 0)
              have HG : Hid (resQ q kind (litsL ss) [x, y, z] = none) := hide (by rw [unhide HF]; unfold resQ2; rw [if_neg (by rw [hh2]; simp)])
              go_wp2_with fail
              refine bodyPost_ret (v := .tuple #[StpV S0, .bool false]) (by simp [results, Tryz.results87, go_sem, jn0, jn1, jn2, jn3, jn4, jn5]) rfl (StPost.none_ hE5 (unhide HG) S0 zero_lt9 rfl)
            | true =>
              have HG : Hid (resQ q kind (litsL ss) [x, y, z] = if (without2 (p1, n1) (p2, n2) v).1 &&& (without2 (p1, n1) (p2, n2) v).2 != 0 then none else some (without2 (p1, n1) (p2, n2) v)) := hide (by rw [unhide HF]; unfold resQ2; rw [if_pos ⟨hh1, hh2⟩])
              clear hh1 hh2 HF
              go_wp2_with fail
              have hsl1 := lrs
              generalize hw0 : u11.alloc (.cells #[.int .i64 3, .int .i64 (i : Int), .int .i64 (j : Int), .int .i64 (v : Int), .int .i64 0, .int .i64 0] 91) = u12
              have b12 : Below u11.heap.size u11 u12 := by rw [← hw0]; exact (Below.refl _ _).alloc (Nat.le_refl _) _
              have hst : u12.heap[u11.heap.size]? = some (.cells #[.int .i64 3, .int .i64 (i : Int), .int .i64 (j : Int), .int .i64 (v : Int), .int .i64 0, .int .i64 0] 91 (0, 0)) := by rw [← hw0]; exact heap_alloc_new _ _
              clear hw0
              replace hB := hB.trans (b12.mono hB.size)
              replace hrs := (b12.block _ (blk_lt hrs)).trans hrs
              replace crs0 : u12.cell? ⟨w.heap.size, 0, none⟩ = some (.int .i64 0) := by rw [blk_cell hrs]; rfl
              replace crs1 : u12.cell? ⟨w.heap.size, 1, none⟩ = some (.int .i64 0) := by rw [blk_cell hrs]; rfl
              replace crs2 : u12.cell? ⟨w.heap.size, 2, none⟩ = some (.int .i64 0) := by rw [blk_cell hrs]; rfl
              replace crs3 : u12.cell? ⟨w.heap.size, 3, none⟩ = some (.int .i64 0) := by rw [blk_cell hrs]; rfl
              replace crs4 : u12.cell? ⟨w.heap.size, 4, none⟩ = some (.int .i64 0) := by rw [blk_cell hrs]; rfl
              replace crs5 : u12.cell? ⟨w.heap.size, 5, none⟩ = some (.int .i64 0) := by rw [blk_cell hrs]; rfl
              replace lrs := blk_lt hrs
              replace hfi := (b12.block _ (blk_lt hfi)).trans hfi
              replace cfi0 : u12.cell? ⟨u6.heap.size, 0, none⟩ = some (.int .i64 (p1 : Int)) := by rw [blk_cell hfi]; rfl
              replace cfi1 : u12.cell? ⟨u6.heap.size, 1, none⟩ = some (.int .i64 (n1 : Int)) := by rw [blk_cell hfi]; rfl
              replace lfi := blk_lt hfi
              replace hse := (b12.block _ (blk_lt hse)).trans hse
              replace cse0 : u12.cell? ⟨u8.heap.size, 0, none⟩ = some (.int .i64 (p2 : Int)) := by rw [blk_cell hse]; rfl
              replace cse1 : u12.cell? ⟨u8.heap.size, 1, none⟩ = some (.int .i64 (n2 : Int)) := by rw [blk_cell hse]; rfl
              replace lse := blk_lt hse
              replace hP1 := hP1.later b12
              replace c3 : u12.cell? ⟨b, 3, none⟩ = some vS := by rw [blk_cell hP1.fb]; rfl
              replace lbb := blk_lt hP1.fb
              have cst0 : u12.cell? ⟨u11.heap.size, 0, none⟩ = some (.int .i64 3) := by rw [blk_cell hst]; rfl
              have cst1 : u12.cell? ⟨u11.heap.size, 1, none⟩ = some (.int .i64 (i : Int)) := by rw [blk_cell hst]; rfl
              have cst2 : u12.cell? ⟨u11.heap.size, 2, none⟩ = some (.int .i64 (j : Int)) := by rw [blk_cell hst]; rfl
              have cst3 : u12.cell? ⟨u11.heap.size, 3, none⟩ = some (.int .i64 (v : Int)) := by rw [blk_cell hst]; rfl
              have cst4 : u12.cell? ⟨u11.heap.size, 4, none⟩ = some (.int .i64 0) := by rw [blk_cell hst]; rfl
              have cst5 : u12.cell? ⟨u11.heap.size, 5, none⟩ = some (.int .i64 0) := by rw [blk_cell hst]; rfl
              have lst := blk_lt hst
              have hsl0 : w.heap.size ≤ u11.heap.size := by omega
              have hne0 : w.heap.size ≠ u11.heap.size := by omega
              go_region_with (go_at_call 95; refine (resolvent_any (b + 1) b 2 ss vS ⟨3, i, j, v, (0, 0)⟩ _ (by rw [blk_cell (hP1.later (Below.refl _ u12).drew).fb]; rfl) (hP1.later (Below.refl _ u12).drew).oS (by omega) hS.bits).mono ?_; rintro e w9 ⟨rfl, hb9⟩; have hB9 : Below w.heap.size w w9 := hB.drew.trans (hb9.mono hB.size); have hr9 := (hb9.block _ (blk_lt hrs)).trans hrs; have ht9 := (hb9.block _ (blk_lt hst)).trans hst; have s90 : w9.cell? ⟨u11.heap.size, 0, none⟩ = some (.int .i64 3) := (by rw [blk_cell ht9]; rfl); have s91 : w9.cell? ⟨u11.heap.size, 1, none⟩ = some (.int .i64 (i : Int)) := (by rw [blk_cell ht9]; rfl); have s92 : w9.cell? ⟨u11.heap.size, 2, none⟩ = some (.int .i64 (j : Int)) := (by rw [blk_cell ht9]; rfl); have s93 : w9.cell? ⟨u11.heap.size, 3, none⟩ = some (.int .i64 (v : Int)) := (by rw [blk_cell ht9]; rfl); have s94 : w9.cell? ⟨u11.heap.size, 4, none⟩ = some (.int .i64 0) := (by rw [blk_cell ht9]; rfl); have s95 : w9.cell? ⟨u11.heap.size, 5, none⟩ = some (.int .i64 0) := (by rw [blk_cell ht9]; rfl); have y94 := blk_free ht9 4; have y95 := blk_free ht9 5; have ls9 := blk_lt ht9)
              all_goals
                try dsimp only
                rw [unhide HEA, unhide HEB]
                have hlt9 := without_lt (p1 ||| p2, n1 ||| n2) v ⟨or_lt _ _ hl1.1 hl2.1, or_lt _ _ hl1.2 hl2.2⟩
                rw [show without (p1 ||| p2, n1 ||| n2) (v : Int) = without2 (p1, n1) (p2, n2) v from rfl] at hlt9
                generalize without2 (p1, n1) (p2, n2) v = cw at *
                obtain ⟨d1, d2⟩ := cw
                dsimp only at hlt9
                have hx1 := blk_set (blk_set ht9 4 (.int .i64 (d1 : Int))) 5 (.int .i64 (d2 : Int))
                have hx2 : ((w9.setCell ⟨u11.heap.size, 4, none⟩ (.int .i64 (d1 : Int))).setCell ⟨u11.heap.size, 5, none⟩ (.int .i64 (d2 : Int))).heap[u11.heap.size]? = some (.cells #[.int .i64 3, .int .i64 (i : Int), .int .i64 (j : Int), .int .i64 (v : Int), .int .i64 (d1 : Int), .int .i64 (d2 : Int)] 91 (0, 0)) := hx1
                have hxr : ((w9.setCell ⟨u11.heap.size, 4, none⟩ (.int .i64 (d1 : Int))).setCell ⟨u11.heap.size, 5, none⟩ (.int .i64 (d2 : Int))).heap[w.heap.size]? = some (.cells #[.int .i64 0, .int .i64 0, .int .i64 0, .int .i64 0, .int .i64 0, .int .i64 0] 91 (0, 0)) := by rw [Below.heap_setCell _ _ _ _ (by intro e; exact hne0 (by simpa using e)), Below.heap_setCell _ _ _ _ (by intro e; exact hne0 (by simpa using e))]; exact hr9
                have hxB : Below w.heap.size w ((w9.setCell ⟨u11.heap.size, 4, none⟩ (.int .i64 (d1 : Int))).setCell ⟨u11.heap.size, 5, none⟩ (.int .i64 (d2 : Int))) := (hB9.setCell (p := ⟨u11.heap.size, 4, none⟩) hsl0 _).setCell (p := ⟨u11.heap.size, 5, none⟩) hsl0 _
                clear hx1
                generalize hwz : (w9.setCell ⟨u11.heap.size, 4, none⟩ (.int .i64 (d1 : Int))).setCell ⟨u11.heap.size, 5, none⟩ (.int .i64 (d2 : Int)) = wz at *
                have q0 : wz.cell? ⟨u11.heap.size, 0, none⟩ = some (.int .i64 3) := by rw [blk_cell hx2]; rfl
                have q1 : wz.cell? ⟨u11.heap.size, 1, none⟩ = some (.int .i64 (i : Int)) := by rw [blk_cell hx2]; rfl
                have q2 : wz.cell? ⟨u11.heap.size, 2, none⟩ = some (.int .i64 (j : Int)) := by rw [blk_cell hx2]; rfl
                have q3 : wz.cell? ⟨u11.heap.size, 3, none⟩ = some (.int .i64 (v : Int)) := by rw [blk_cell hx2]; rfl
                have q4 : wz.cell? ⟨u11.heap.size, 4, none⟩ = some (.int .i64 (d1 : Int)) := by rw [blk_cell hx2]; rfl
                have q5 : wz.cell? ⟨u11.heap.size, 5, none⟩ = some (.int .i64 (d2 : Int)) := by rw [blk_cell hx2]; rfl
                have lz := blk_lt hx2
                go_wp2_with fail
                clear hP1 hrs hst hfi hse hr9 ht9 hB hB9 hwz
                go_region_with (go_at_call 100; refine (clashes_any d1 d2 _ hlt9.1 hlt9.2).mono ?_; rintro e w7 ⟨rfl, hb7⟩; have hy1 := (hb7.block _ (blk_lt hxr)).trans hxr; have hy2 := (hb7.block _ (blk_lt hx2)).trans hx2; have m90 : w7.cell? ⟨w.heap.size, 0, none⟩ = some (.int .i64 0) := (by rw [blk_cell hy1]; rfl); have m91 : w7.cell? ⟨w.heap.size, 1, none⟩ = some (.int .i64 0) := (by rw [blk_cell hy1]; rfl); have m92 : w7.cell? ⟨w.heap.size, 2, none⟩ = some (.int .i64 0) := (by rw [blk_cell hy1]; rfl); have m93 : w7.cell? ⟨w.heap.size, 3, none⟩ = some (.int .i64 0) := (by rw [blk_cell hy1]; rfl); have m94 : w7.cell? ⟨w.heap.size, 4, none⟩ = some (.int .i64 0) := (by rw [blk_cell hy1]; rfl); have m95 : w7.cell? ⟨w.heap.size, 5, none⟩ = some (.int .i64 0) := (by rw [blk_cell hy1]; rfl); have o90 := blk_free hy1 0; have o91 := blk_free hy1 1; have o92 := blk_free hy1 2; have o93 := blk_free hy1 3; have o94 := blk_free hy1 4; have o95 := blk_free hy1 5; have lo9 := blk_lt hy1; have n90 : w7.cell? ⟨u11.heap.size, 0, none⟩ = some (.int .i64 3) := (by rw [blk_cell hy2]; rfl); have n91 : w7.cell? ⟨u11.heap.size, 1, none⟩ = some (.int .i64 (i : Int)) := (by rw [blk_cell hy2]; rfl); have n92 : w7.cell? ⟨u11.heap.size, 2, none⟩ = some (.int .i64 (j : Int)) := (by rw [blk_cell hy2]; rfl); have n93 : w7.cell? ⟨u11.heap.size, 3, none⟩ = some (.int .i64 (v : Int)) := (by rw [blk_cell hy2]; rfl); have n94 : w7.cell? ⟨u11.heap.size, 4, none⟩ = some (.int .i64 (d1 : Int)) := (by rw [blk_cell hy2]; rfl); have n95 : w7.cell? ⟨u11.heap.size, 5, none⟩ = some (.int .i64 (d2 : Int)) := (by rw [blk_cell hy2]; rfl); have ln9 := blk_lt hy2; have hB7 : Below w.heap.size w w7 := hxB.drew.trans (hb7.mono hxB.size))
                all_goals go_wp2_with fail
                all_goals
                  have hR := blk_set6 hy1 (.int .i64 3) (.int .i64 (i : Int)) (.int .i64 (j : Int)) (.int .i64 (v : Int)) (.int .i64 (d1 : Int)) (.int .i64 (d2 : Int))
                  have j0 := blk_cell hR 0
                  have j1 := blk_cell hR 1
                  have j2 := blk_cell hR 2
                  have j3 := blk_cell hR 3
                  have j4 := blk_cell hR 4
                  have j5 := blk_cell hR 5
                  refine bodyPost_ret (v := .tuple #[StpV ⟨3, i, j, v, (d1, d2)⟩, .bool (!(d1 &&& d2 != 0))]) (by simp [results, Tryz.results87, go_sem, j0, j1, j2, j3, j4, j5]) rfl ?_
                  have hBz := below_set6 hB7 (Nat.le_refl w.heap.size) (.int .i64 3) (.int .i64 (i : Int)) (.int .i64 (j : Int)) (.int .i64 (v : Int)) (.int .i64 (d1 : Int)) (.int .i64 (d2 : Int))
                  cases hcl : (d1 &&& d2 != 0) with
                  | true => exact StPost.none_ hBz (by rw [unhide HG, hcl]; rfl) ⟨3, i, j, v, (d1, d2)⟩ hlt9 rfl
                  | false => exact StPost.some_ hBz ⟨3, i, j, v, (d1, d2)⟩ (by rw [unhide HG, hcl]; rfl) hlt9 rfl (show (3 : Nat) ≠ 4 by decide)
        · have HF : Hid (resQ q kind (litsL ss) [x, y, z] = none) := hide (by rw [unhide HR, unhide HC2 rfl, unhide HC1 rfl, hpv]; rfl)
          clear hpv
          go_wp2_with fail
          refine bodyPost_ret (v := .tuple #[StpV S0, .bool false]) (by simp [results, Tryz.results87, go_sem, jn0, jn1, jn2, jn3, jn4, jn5]) rfl (StPost.none_ hE5 (unhide HF) S0 zero_lt9 rfl)
  · have HR : Hid (resQ q kind (litsL ss) ws = none) := hide (by
      unfold resQ; split
      · simp at h3
      · rfl)
    have hb1 : ((ws.length : Int) != 3) = true := by rw [bne_iff_ne]; omega
    clear h3
    go_enter Tryz.func87, Tryz.ntmps87
    go_wp2_with fail
    refine bodyPost_ret (v := .tuple #[StpV S0, .bool false]) (by simp [results, Tryz.results87, go_sem]) rfl (StPost.none_ ?_ (unhide HR) S0 zero_lt9 rfl)
    exact (Below.refl _ _).alloc (Nat.le_refl _) _
end Go.Proofs.YtgipjjhkhfihpabGreatDoor

namespace Go.Proofs.YtgipjjhkhfihpabGreatDoor
open Go.RowKit

/-! ### readCube -/
def cubeQ (vs : List (Nat × Bool)) : Nat × Nat → Nat → List (List UInt8) → Option (Nat × Nat)
  | c, _, [] => some c
  | c, last, w :: ws => if litGood w then
      match findV vs (litNum w).natAbs with
      | none => none
      | some x => if x.1 ≤ last then none else cubeQ vs (withLit c (litNum w)) x.1 ws
    else none
def cubeStepQ (q : QS) (kind : Nat) (ws : List (List UInt8)) : Option (Nat × Nat) :=
  if kind = 2 then (cubeQ q.vars (0, 0) 0 ws).bind (fun c => if satQ q.cl c then some c else none) else none

set_option maxRecDepth 100000 in
set_option maxHeartbeats 3200000 in
theorem readCube_any (b : Nat) (q : QS) (kind : Nat) (ss : List Stp) (vV vC vS : Value) (ws : List (List UInt8)) (ao : Option Addr) (cap : Nat) (w : World) (hP : PInv w b q kind ss vV vC vS) (hQ : QB q)
    (hs : StrsAt w ao ws) (hl : ws.length ≤ 1048576) (hws : ∀ x ∈ ws, x.length ≤ 1048576) :
    Calls Tryz.prog 86 #[.pointer (some ⟨b, 0, none⟩), .slice ao ws.length cap] w fun e w' => StPost NotRed (cubeStepQ q kind ws) w e w' := by
  have hbw := blk_lt hP.fb
  have hvl := hQ.vl
  have k2 : w.cell? ⟨b, 2, none⟩ = some (.int .i64 kind) := by rw [blk_cell hP.fb]; rfl
  have k0 : w.cell? ⟨b, 0, none⟩ = some vV := by rw [blk_cell hP.fb]; rfl
  by_cases hk : kind = 2
  · have hkb : ((kind : Int) != 2) = false := by rw [bne_eq_false_iff_eq]; omega
    have HR : Hid (cubeStepQ q kind ws = (cubeQ q.vars (0, 0) 0 ws).bind (fun c => if satQ q.cl c then some c else none)) := hide (by unfold cubeStepQ; rw [if_pos hk])
    have HWS := hide hws; clear hws hk
    go_enter Tryz.func86, Tryz.ntmps86
    go_wp2_with fail
    go_loopg [7, 24] (ws.length) (fun m la i wx => ∃ (j p n last : Nat), i = .int .i64 j ∧ la = .int .i64 last ∧ j + m = ws.length ∧ p < 512 ∧ n < 512 ∧ last ≤ 8 ∧ cubeQ q.vars (0, 0) 0 ws = cubeQ q.vars (p, n) last (ws.drop j) ∧ Below w.heap.size w wx ∧
      wx.heap[w.heap.size]? = some (.cells #[.int .i64 0, .int .i64 0, .int .i64 0, .int .i64 0, .int .i64 0, .int .i64 0] 91 (0, 0)) ∧ wx.heap[w.heap.size + 1]? = some (.cells #[.int .i64 p, .int .i64 n] 77 (0, 0)))
    case atStart => exact ⟨0, 0, 0, 0, rfl, rfl, by omega, by omega, by omega, by omega, rfl, ((Below.refl _ _).alloc (Nat.le_refl _) _).alloc (by simp) _, by rw [heap_alloc_old _ _ (by simp)]; exact heap_alloc_new _ _, alloc_new_at (by simp)⟩
    case round =>
      obtain ⟨j, p, n, last, rfl, rfl, hj, hp, hn, hla, hto, hb, hres, hcub⟩ := hrel
      have hbs := blk_lt hcub
      have hbs0 : w.heap.size < wr.heap.size := by omega
      have hbw1 : b < wr.heap.size := by omega
      have r0 : wr.cell? ⟨w.heap.size, 0, none⟩ = some (.int .i64 0) := by rw [blk_cell hres]; rfl
      have r1 : wr.cell? ⟨w.heap.size, 1, none⟩ = some (.int .i64 0) := by rw [blk_cell hres]; rfl
      have r2 : wr.cell? ⟨w.heap.size, 2, none⟩ = some (.int .i64 0) := by rw [blk_cell hres]; rfl
      have r3 : wr.cell? ⟨w.heap.size, 3, none⟩ = some (.int .i64 0) := by rw [blk_cell hres]; rfl
      have r4 : wr.cell? ⟨w.heap.size, 4, none⟩ = some (.int .i64 0) := by rw [blk_cell hres]; rfl
      have r5 : wr.cell? ⟨w.heap.size, 5, none⟩ = some (.int .i64 0) := by rw [blk_cell hres]; rfl
      have z0 := blk_free hres 0
      have z1 := blk_free hres 1
      have z2 := blk_free hres 2
      have z3 := blk_free hres 3
      have z4 := blk_free hres 4
      have z5 := blk_free hres 5
      have c0 : wr.cell? ⟨w.heap.size + 1, 0, none⟩ = some (.int .i64 p) := by rw [blk_cell hcub]; rfl
      have c1 : wr.cell? ⟨w.heap.size + 1, 1, none⟩ = some (.int .i64 n) := by rw [blk_cell hcub]; rfl
      by_cases hlt : j < ws.length
      · obtain ⟨g, off, cur, rfl, hg, hcur⟩ := hs (by intro e; subst e; simp at hlt)
        have hgw := blk_lt hg
        have hgw1 : g < wr.heap.size := by omega
        have hcj : wr.cell? ⟨g, off + j, none⟩ = some (S ws[j]) := by
          rw [hb.cell (p := ⟨g, off + j, none⟩) hgw, blk_cell hg]; exact hcur j hlt
        have hwl := unhide HWS _ (List.getElem_mem hlt)
        rw [List.drop_eq_getElem_cons hlt, cubeQ] at hto
        have HTO := hide hto; clear hto hcur
        obtain ⟨n0, n1⟩ := litNum_bd ws[j]
        go_wp2_with fail
        refine (wliteral_any ws[j] wr hwl).mono ?_
        rintro e w2 ⟨hw2, rfl⟩
        subst hw2
        cases hgd : litGood ws[j] with
        | false =>
          have HF : Hid (cubeStepQ q kind ws = none) := hide (by rw [unhide HR, unhide HTO, hgd]; rfl)
          have hRm := blk_set6 hres (.int .i64 0) (.int .i64 0) (.int .i64 0) (.int .i64 0) (.int .i64 0) (.int .i64 0)
          have jm0 := blk_cell hRm 0
          have jm1 := blk_cell hRm 1
          have jm2 := blk_cell hRm 2
          have jm3 := blk_cell hRm 3
          have jm4 := blk_cell hRm 4
          have jm5 := blk_cell hRm 5
          go_wp2_with fail
          refine bodyPost_ret (v := .tuple #[StpV S0, .bool false]) (by simp [results, Tryz.results86, go_sem, jm0, jm1, jm2, jm3, jm4, jm5]) rfl (StPost.none_ ?_ (unhide HF) S0 zero_lt9 rfl)
          exact below_set6 hb (Nat.le_refl _) _ _ _ _ _ _
        | true =>
          rw [hgd, if_pos rfl] at HTO
          have x0 : w2.cell? ⟨b, 0, none⟩ = some vV := by rw [hb.cell (p := ⟨b, 0, none⟩) hbw]; exact k0
          have hoV : w2.ownsRow 0 109 2 vV q.vars.length (varCells q.vars) := own_under hP.oV (fun k hk => Nat.lt_trans (hP.lV k hk) hbw) hb
          go_wp2_with fail
          refine (varOf_any (litNum ws[j]) w2 (by omega) (by omega)).mono ?_
          rintro e w3 ⟨rfl, hw3⟩
          subst hw3
          go_wp2_with fail
          refine (find_any 0 b q.vars vV (litNum ws[j]).natAbs w3 x0 hoV (by omega)).mono ?_
          rintro e w4 ⟨hb4, rfl⟩
          have hbw4 := Nat.lt_of_lt_of_le hbw1 hb4.size
          have hbs4 := Nat.lt_of_lt_of_le hbs hb4.size
          have hbs04 := Nat.lt_of_lt_of_le hbs0 hb4.size
          have hres4 := (hb4.block _ hbs0).trans hres
          have hcub4 := (hb4.block _ hbs).trans hcub
          have hB4 : Below w.heap.size w w4 := hb.trans (hb4.mono hb.size)
          have r40 : w4.cell? ⟨w.heap.size, 0, none⟩ = some (.int .i64 0) := by rw [blk_cell hres4]; rfl
          have r41 : w4.cell? ⟨w.heap.size, 1, none⟩ = some (.int .i64 0) := by rw [blk_cell hres4]; rfl
          have r42 : w4.cell? ⟨w.heap.size, 2, none⟩ = some (.int .i64 0) := by rw [blk_cell hres4]; rfl
          have r43 : w4.cell? ⟨w.heap.size, 3, none⟩ = some (.int .i64 0) := by rw [blk_cell hres4]; rfl
          have r44 : w4.cell? ⟨w.heap.size, 4, none⟩ = some (.int .i64 0) := by rw [blk_cell hres4]; rfl
          have r45 : w4.cell? ⟨w.heap.size, 5, none⟩ = some (.int .i64 0) := by rw [blk_cell hres4]; rfl
          have z40 := blk_free hres4 0
          have z41 := blk_free hres4 1
          have z42 := blk_free hres4 2
          have z43 := blk_free hres4 3
          have z44 := blk_free hres4 4
          have z45 := blk_free hres4 5
          have c40 : w4.cell? ⟨w.heap.size + 1, 0, none⟩ = some (.int .i64 p) := by rw [blk_cell hcub4]; rfl
          have c41 : w4.cell? ⟨w.heap.size + 1, 1, none⟩ = some (.int .i64 n) := by rw [blk_cell hcub4]; rfl
          cases hfd : findV q.vars (litNum ws[j]).natAbs with
          | none =>
            rw [hfd] at HTO
            have HF : Hid (cubeStepQ q kind ws = none) := hide (by rw [unhide HR, unhide HTO]; rfl)
            go_wp2_with fail
            have hR := blk_set6 hres4 (.int .i64 0) (.int .i64 0) (.int .i64 0) (.int .i64 0) (.int .i64 0) (.int .i64 0)
            have hR' := (heap_alloc_old _ (.cells #[.int .i64 0, .bool false] 109) (blk_lt hR)).trans hR
            have q0 := blk_cell hR' 0
            have q1 := blk_cell hR' 1
            have q2 := blk_cell hR' 2
            have q3 := blk_cell hR' 3
            have q4 := blk_cell hR' 4
            have q5 := blk_cell hR' 5
            refine bodyPost_ret (v := .tuple #[StpV S0, .bool false]) (by simp [results, Tryz.results86, go_sem, q0, q1, q2, q3, q4, q5]) rfl (StPost.none_ ?_ (unhide HF) S0 zero_lt9 rfl)
            exact (below_set6 hB4 (Nat.le_refl _) _ _ _ _ _ _).alloc (by simp [World.setCell]; omega) _
          | some x =>
            rw [hfd] at HTO
            have hxn := hQ.names x (List.mem_of_find?_eq_some hfd)
            obtain ⟨xn, xu⟩ := x
            dsimp only [Option.getD_some, Option.isSome_some] at HTO hxn ⊢
            by_cases hle : xn ≤ last
            · have hdl : decide (xn ≤ last) = true := by simp; omega
              have HF : Hid (cubeStepQ q kind ws = none) := hide (by rw [unhide HR, unhide HTO, if_pos hle]; rfl)
              clear hle
              go_wp2_with fail
              have hR := blk_set6 hres4 (.int .i64 0) (.int .i64 0) (.int .i64 0) (.int .i64 0) (.int .i64 0) (.int .i64 0)
              have hR' := (heap_alloc_old _ (.cells #[.int .i64 (xn : Int), .bool xu] 109) (blk_lt hR)).trans hR
              have q0 := blk_cell hR' 0
              have q1 := blk_cell hR' 1
              have q2 := blk_cell hR' 2
              have q3 := blk_cell hR' 3
              have q4 := blk_cell hR' 4
              have q5 := blk_cell hR' 5
              refine bodyPost_ret (v := .tuple #[StpV S0, .bool false]) (by simp [results, Tryz.results86, go_sem, q0, q1, q2, q3, q4, q5]) rfl (StPost.none_ ?_ (unhide HF) S0 zero_lt9 rfl)
              exact (below_set6 hB4 (Nat.le_refl _) _ _ _ _ _ _).alloc (by simp [World.setCell]; omega) _
            · have hdl : decide (xn ≤ last) = false := by simp; omega
              have HF : Hid (cubeQ q.vars (0, 0) 0 ws = cubeQ q.vars (withLit (p, n) (litNum ws[j])) xn (ws.drop (j + 1))) := hide (by rw [unhide HTO, if_neg hle])
              clear hle
              have hwl2 := withLit_lt (p, n) (litNum ws[j]) hp hn
              have hA4 : Below w4.heap.size w4 (w4.alloc (.cells #[.int .i64 (xn : Int), .bool xu] 109)) := (Below.refl _ _).alloc (Nat.le_refl _) _
              have hB4a := hB4.trans (hA4.mono hB4.size)
              have hres4a := (hA4.block _ (blk_lt hres4)).trans hres4
              have hcub4a := (hA4.block _ (blk_lt hcub4)).trans hcub4
              have hv4a := heap_alloc_new w4 (.cells #[.int .i64 (xn : Int), .bool xu] 109)
              go_wp2_with fail
              refine (with_any p n (litNum ws[j]) _ hp hn (by omega) (by omega)).mono ?_
              rintro e w5 ⟨rfl, hb5⟩
              have hres5 := (hb5.block _ (blk_lt hres4a)).trans hres4a
              have hcub5 := (hb5.block _ (blk_lt hcub4a)).trans hcub4a
              have hv5 := (hb5.block _ (blk_lt hv4a)).trans hv4a
              have hB5 : Below w.heap.size w w5 := hB4a.trans (hb5.mono hB4a.size)
              have c50 : w5.cell? ⟨w.heap.size + 1, 0, none⟩ = some (.int .i64 p) := by rw [blk_cell hcub5]; rfl
              have c51 : w5.cell? ⟨w.heap.size + 1, 1, none⟩ = some (.int .i64 n) := by rw [blk_cell hcub5]; rfl
              have v50 : w5.cell? ⟨w4.heap.size, 0, none⟩ = some (.int .i64 xn) := by rw [blk_cell hv5]; rfl
              have z50 := blk_free hcub5 0
              have z51 := blk_free hcub5 1
              have hne : w4.heap.size ≠ w.heap.size + 1 := by omega
              have hne2 : w.heap.size + 1 ≠ w4.heap.size := by omega
              generalize withLit (p, n) (litNum ws[j]) = cw at *
              obtain ⟨p', n'⟩ := cw
              go_wp2_with fail
              go_roundg (gk - 1)
              case measure => omega
              case rel =>
                refine ⟨j + 1, p', n', xn, by go_num, rfl, by omega, hwl2.1, hwl2.2, hxn.2, unhide HF, (hB5.setCell (p := ⟨w.heap.size + 1, 0, none⟩) (Nat.le_succ _) _).setCell (p := ⟨w.heap.size + 1, 1, none⟩) (Nat.le_succ _) _, ?_, blk_set (blk_set hcub5 0 _) 1 _⟩
                rw [Below.heap_setCell _ _ _ _ (by simp), Below.heap_setCell _ _ _ _ (by simp)]
                exact hres5
      · have hjl : j = ws.length := by omega
        subst hjl
        rw [List.drop_length] at hto
        have HF : Hid (cubeStepQ q kind ws = if satQ q.cl (p, n) then some (p, n) else none) := hide (by rw [unhide HR, hto]; rfl)
        clear hto
        have hP1 : PInv wr b q kind ss vV vC vS := hP.later hb
        go_wp2_with fail
        have hb9 : Below wr.heap.size wr wr.drew := (Below.refl _ wr).drew
        go_region_with (go_at_call 79; refine (qsat_any 0 b q vC p n _ (by rw [blk_cell (hP1.later hb9).fb]; rfl) (hP1.later hb9).oC hQ hp hn).mono ?_; rintro e w8 ⟨rfl, hb8⟩; have hy1 := (hb8.block _ (blk_lt hres)).trans hres; have hy2 := (hb8.block _ (blk_lt hcub)).trans hcub; have f0 : w8.cell? ⟨w.heap.size, 0, none⟩ = some (.int .i64 0) := (by rw [blk_cell hy1]; rfl); have f1 : w8.cell? ⟨w.heap.size, 1, none⟩ = some (.int .i64 0) := (by rw [blk_cell hy1]; rfl); have f2 : w8.cell? ⟨w.heap.size, 2, none⟩ = some (.int .i64 0) := (by rw [blk_cell hy1]; rfl); have f3 : w8.cell? ⟨w.heap.size, 3, none⟩ = some (.int .i64 0) := (by rw [blk_cell hy1]; rfl); have f4 : w8.cell? ⟨w.heap.size, 4, none⟩ = some (.int .i64 0) := (by rw [blk_cell hy1]; rfl); have f5 : w8.cell? ⟨w.heap.size, 5, none⟩ = some (.int .i64 0) := (by rw [blk_cell hy1]; rfl); have t0 := blk_free hy1 0; have t1 := blk_free hy1 1; have t2 := blk_free hy1 2; have t3 := blk_free hy1 3; have t4 := blk_free hy1 4; have t5 := blk_free hy1 5; have l0 : w8.cell? ⟨w.heap.size + 1, 0, none⟩ = some (.int .i64 p) := (by rw [blk_cell hy2]; rfl); have l1 : w8.cell? ⟨w.heap.size + 1, 1, none⟩ = some (.int .i64 n) := (by rw [blk_cell hy2]; rfl); have hbz : Below w.heap.size w w8 := hb.drew.trans (hb8.mono hb.size))
        all_goals go_wp2_with fail
        all_goals
          have hR := blk_set6 hy1 (.int .i64 2) (.int .i64 0) (.int .i64 0) (.int .i64 0) (.int .i64 (p : Int)) (.int .i64 (n : Int))
          have j0 := blk_cell hR 0
          have j1 := blk_cell hR 1
          have j2 := blk_cell hR 2
          have j3 := blk_cell hR 3
          have j4 := blk_cell hR 4
          have j5 := blk_cell hR 5
          refine bodyPost_ret (v := .tuple #[StpV ⟨2, 0, 0, 0, (p, n)⟩, .bool (satQ q.cl (p, n))]) (by simp [results, Tryz.results86, go_sem, j0, j1, j2, j3, j4, j5]) rfl ?_
          have hB := below_set6 hbz (Nat.le_refl w.heap.size) (.int .i64 2) (.int .i64 0) (.int .i64 0) (.int .i64 0) (.int .i64 (p : Int)) (.int .i64 (n : Int))
          cases hcl : satQ q.cl (p, n) with
          | false => exact StPost.none_ hB (by rw [unhide HF, hcl]; rfl) ⟨2, 0, 0, 0, (p, n)⟩ ⟨hp, hn⟩ rfl
          | true => exact StPost.some_ hB ⟨2, 0, 0, 0, (p, n)⟩ (by rw [unhide HF, hcl]; rfl) ⟨hp, hn⟩ rfl (show (2 : Nat) ≠ 4 by decide)
  · have HR : Hid (cubeStepQ q kind ws = none) := hide (by unfold cubeStepQ; rw [if_neg hk])
    have hb1 : ((kind : Int) != 2) = true := by rw [bne_iff_ne]; omega
    clear hk
    go_enter Tryz.func86, Tryz.ntmps86
    go_wp2_with fail
    refine bodyPost_ret (v := .tuple #[StpV S0, .bool false]) (by simp [results, Tryz.results86, go_sem]) rfl (StPost.none_ ?_ (unhide HR) S0 zero_lt9 rfl)
    exact (Below.refl _ _).alloc (Nat.le_refl _) _
end Go.Proofs.YtgipjjhkhfihpabGreatDoor
