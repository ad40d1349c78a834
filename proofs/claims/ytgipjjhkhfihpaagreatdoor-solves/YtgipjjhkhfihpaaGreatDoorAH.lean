import Derived.Test.YtgipjjhkhfihpaaGreatDoorAG
namespace Go.Proofs.YtgipjjhkhfihpaaGreatDoor
open Go.RowKit

/-! ### findUnits -/
theorem own_ge {w : World} {base : Nat} {e : TypeId} {size : Nat} {v : Value} {n : Nat} {xs : List Value} (h : w.ownsRow base e size v n xs) {k : Nat} (hk : v.ownBlock = some k) : base ≤ k := by
  obtain ⟨h1, h2⟩ := h
  rcases h2 with h2 | ⟨g, cap, cur, rfl, hg, hh, h3⟩
  · obtain ⟨rfl, _⟩ := h2
    simp [Value.ownBlock] at hk
  · simp [Value.ownBlock] at hk
    omega
theorem blk_other {w : World} {b c : Nat} {o : Obj} (h : w.heap[b]? = some o) (hne : c ≠ b) (k : Nat) (u : Value) : (w.setCell ⟨c, k, none⟩ u).heap[b]? = some o := by
  simp [World.setCell, Array.getElem?_modify, h, hne]
def unitCells (l : List (Int × Nat)) : List Value := l.flatMap (fun u => [Value.int .i64 u.1, Value.int .i64 (u.2 : Int)])
theorem unitCells_snoc (l : List (Int × Nat)) (u : Int × Nat) : unitCells (l ++ [u]) = unitCells l ++ [.int .i64 u.1, .int .i64 (u.2 : Int)] := by simp [unitCells]
theorem unitCells_at (l : List (Int × Nat)) (k : Nat) (h : k < l.length) : (unitCells l)[k * 2]? = some (.int .i64 l[k].1) ∧ (unitCells l)[k * 2 + 1]? = some (.int .i64 (l[k].2 : Int)) := by
  induction l generalizing k with
  | nil => simp at h
  | cons a l ih =>
    cases k with
    | zero => simp [unitCells]
    | succ k =>
      have := ih k (by simpa using h)
      simp only [unitCells, List.flatMap_cons] at this ⊢
      rw [show (k + 1) * 2 = k * 2 + 2 from by omega, show k * 2 + 2 + 1 = (k * 2 + 1) + 2 from by omega, List.getElem?_append_right (by simp), List.getElem?_append_right (by simp)]
      simpa using this
theorem infoUnit : (Tryz.prog.info? 177).map (fun i => (i.zero, i.size, i.bytes)) = some (some (.agg #[.int .i64 0, .int .i64 0]), 2, 16) := by kernel_rfl
theorem SAt.only {w w' : World} {b : Nat} {C : SC} {S : SS} {V : SV} (h : SAt w b C S V) {k : Nat} (ho : Only (· = k) w w') (hf : Far b V k) : SAt w' b C S V :=
  ⟨(ho.block b (blk_lt h.fb) (fun e => hf.1 e.symm)).trans h.fb, own_keep h.oV ho (fun j hj e => hf.2.1 (by rw [hj, e])), own_keep h.oC ho (fun j hj e => hf.2.2.1 (by rw [hj, e])), own_keep h.oR ho (fun j hj e => hf.2.2.2.1 (by rw [hj, e])), own_keep h.oA ho (fun j hj e => hf.2.2.2.2.1 (by rw [hj, e])), h.oK.keep ho (fun j hj e => hf.2.2.2.2.2 (by rw [hj, e])), h.ap⟩
theorem listFrom_bd (c : Nat × Nat) : ∀ k v, 1 ≤ v → v + k ≤ 9 → ∀ x ∈ listFrom c k v, -8 ≤ x ∧ x ≤ 8 := by
  intro k
  induction k with
  | zero => intro v _ _ x hx; simp [listFrom] at hx
  | succ k ih =>
    intro v h1 h9 x hx
    rw [listFrom, List.mem_append, List.mem_append] at hx
    rcases hx with hx | hx | hx
    · split at hx
      · simp at hx; subst hx; omega
      · simp at hx
    · split at hx
      · simp at hx; subst hx; omega
      · simp at hx
    · exact ih (v + 1) (by omega) (by omega) x hx
theorem unitOf_bd (ref : List Stp) (uni : Nat × Nat) (cs : List Nat) (vals : Nat × Nat) : -8 ≤ (unitOf ref uni cs vals).1 ∧ (unitOf ref uni cs vals).1 ≤ 8 := by
  rw [unitOf_sel]
  cases cs.find? (fun s => isUnit uni vals (litsAt ref s)) with
  | none => exact ⟨show (-8 : Int) ≤ 0 by decide, show (0 : Int) ≤ 8 by decide⟩
  | some s =>
    show -8 ≤ (listOf (leftOf (litsAt ref s) vals)).headD 0 ∧ (listOf (leftOf (litsAt ref s) vals)).headD 0 ≤ 8
    cases h : listOf (leftOf (litsAt ref s) vals) with
    | nil => exact ⟨by decide, by decide⟩
    | cons x l => exact listFrom_bd (leftOf (litsAt ref s) vals) 8 1 (by decide) (by decide) x (by show x ∈ listOf (leftOf (litsAt ref s) vals); rw [h]; simp)
theorem unitsGo_succ (ref : List Stp) (uni : Nat × Nat) (cs : List Nat) (m : Nat) (vals : Nat × Nat) (trail : List (Int × Nat)) : unitsGo ref uni cs (m + 1) vals trail = if confOf ref uni cs vals ≠ 0 then ⟨vals, trail, confOf ref uni cs vals⟩ else
    if (unitOf ref uni cs vals).2 = 0 then ⟨vals, trail, 0⟩ else unitsGo ref uni cs m (withLit vals (unitOf ref uni cs vals).1) (trail ++ [unitOf ref uni cs vals]) := rfl
def UnitsPost (C : SC) (S : SS) (path : Nat × Nat) (w : World) (e : Ending) (w' : World) : Prop :=
  ∃ vT, e = .returned (.agg #[.int .i64 ((unitsOf C S path).vals.1 : Int), .int .i64 ((unitsOf C S path).vals.2 : Int), vT, .int .i64 ((unitsOf C S path).conf : Int)]) ∧ w'.ownsRow w.heap.size 177 2 vT (unitsOf C S path).trail.length (unitCells (unitsOf C S path).trail) ∧ Below w.heap.size w w'
set_option maxRecDepth 100000 in
set_option maxHeartbeats 6400000 in
theorem findUnits_any (hFU : FindUnitSpec) (b : Nat) (C : SC) (S : SS) (V : SV) (path : Nat × Nat) (w : World) (hS : SAt w b C S V) (hB : SBd C S) (hp : path.1 < 512 ∧ path.2 < 512) :
    Calls Tryz.prog 89 #[.pointer (some ⟨b, 0, none⟩), SetV path] w fun e w' => UnitsPost C S path w e w' := by
  obtain ⟨p1, p2⟩ := path
  have hbw := blk_lt hS.fb
  have hvl := hB.qb.vl
  obtain ⟨aV, cV, hVf⟩ := own_form hS.oV
  obtain ⟨i1, hi1, hz10, hz11, hz12⟩ := info_parts infoUnit
  go_enter Tryz.func89, Tryz.ntmps89
  go_wp2_with fail
  generalize hw0 : (((w.alloc (.cells #[.int .i64 (p1 : Int), .int .i64 (p2 : Int)] 74)).alloc (.cells #[.int .i64 0, .int .i64 0, .slice none 0 0, .int .i64 0] 161)).alloc (.cells #[.int .i64 (p1 : Int), .int .i64 (p2 : Int), .slice none 0 0, .int .i64 0] 161)) = u1
  have hBw : Below w.heap.size w u1 := by rw [← hw0]; exact (((Below.refl _ _).alloc (Nat.le_refl _) _).alloc (by simp; try omega) _).alloc (by simp; try omega) _
  have hpa : u1.heap[w.heap.size]? = some (.cells #[.int .i64 (p1 : Int), .int .i64 (p2 : Int)] 74 (0, 0)) := by rw [← hw0, heap_alloc_old _ _ (by simp; try omega), heap_alloc_old _ _ (by simp; try omega)]; exact alloc_new_at (by simp)
  have hrs : u1.heap[w.heap.size + 1]? = some (.cells #[.int .i64 0, .int .i64 0, .slice none 0 0, .int .i64 0] 161 (0, 0)) := by rw [← hw0, heap_alloc_old _ _ (by simp; try omega)]; exact alloc_new_at (by simp)
  have huu : u1.heap[w.heap.size + 2]? = some (.cells #[.int .i64 (p1 : Int), .int .i64 (p2 : Int), .slice none 0 0, .int .i64 0] 161 (0, 0)) := by rw [← hw0]; exact alloc_new_at (by simp)
  clear hw0
  have cpa0 : u1.cell? ⟨w.heap.size, 0, none⟩ = some (.int .i64 (p1 : Int)) := by rw [blk_cell hpa]; rfl
  have cpa1 : u1.cell? ⟨w.heap.size, 1, none⟩ = some (.int .i64 (p2 : Int)) := by rw [blk_cell hpa]; rfl
  have lpa := blk_lt hpa
  have crs0 : u1.cell? ⟨w.heap.size + 1, 0, none⟩ = some (.int .i64 0) := by rw [blk_cell hrs]; rfl
  have crs1 : u1.cell? ⟨w.heap.size + 1, 1, none⟩ = some (.int .i64 0) := by rw [blk_cell hrs]; rfl
  have crs2 : u1.cell? ⟨w.heap.size + 1, 2, none⟩ = some (.slice none 0 0) := by rw [blk_cell hrs]; rfl
  have crs3 : u1.cell? ⟨w.heap.size + 1, 3, none⟩ = some (.int .i64 0) := by rw [blk_cell hrs]; rfl
  have lrs := blk_lt hrs
  have cuu0 : u1.cell? ⟨w.heap.size + 2, 0, none⟩ = some (.int .i64 (p1 : Int)) := by rw [blk_cell huu]; rfl
  have cuu1 : u1.cell? ⟨w.heap.size + 2, 1, none⟩ = some (.int .i64 (p2 : Int)) := by rw [blk_cell huu]; rfl
  have cuu2 : u1.cell? ⟨w.heap.size + 2, 2, none⟩ = some (.slice none 0 0) := by rw [blk_cell huu]; rfl
  have cuu3 : u1.cell? ⟨w.heap.size + 2, 3, none⟩ = some (.int .i64 0) := by rw [blk_cell huu]; rfl
  have luu := blk_lt huu
  refine (clauses_any b C S V _ (hS.later hBw) hB).mono ?_
  rintro e u2 ⟨vX, rfl, hX, b2⟩
  replace hBw := hBw.trans (b2.mono hBw.size)
  replace hpa := (b2.block _ (blk_lt hpa)).trans hpa
  replace cpa0 : u2.cell? ⟨w.heap.size, 0, none⟩ = some (.int .i64 (p1 : Int)) := by rw [blk_cell hpa]; rfl
  replace cpa1 : u2.cell? ⟨w.heap.size, 1, none⟩ = some (.int .i64 (p2 : Int)) := by rw [blk_cell hpa]; rfl
  replace lpa := blk_lt hpa
  replace hrs := (b2.block _ (blk_lt hrs)).trans hrs
  replace crs0 : u2.cell? ⟨w.heap.size + 1, 0, none⟩ = some (.int .i64 0) := by rw [blk_cell hrs]; rfl
  replace crs1 : u2.cell? ⟨w.heap.size + 1, 1, none⟩ = some (.int .i64 0) := by rw [blk_cell hrs]; rfl
  replace crs2 : u2.cell? ⟨w.heap.size + 1, 2, none⟩ = some (.slice none 0 0) := by rw [blk_cell hrs]; rfl
  replace crs3 : u2.cell? ⟨w.heap.size + 1, 3, none⟩ = some (.int .i64 0) := by rw [blk_cell hrs]; rfl
  replace lrs := blk_lt hrs
  replace huu := (b2.block _ (blk_lt huu)).trans huu
  replace cuu0 : u2.cell? ⟨w.heap.size + 2, 0, none⟩ = some (.int .i64 (p1 : Int)) := by rw [blk_cell huu]; rfl
  replace cuu1 : u2.cell? ⟨w.heap.size + 2, 1, none⟩ = some (.int .i64 (p2 : Int)) := by rw [blk_cell huu]; rfl
  replace cuu2 : u2.cell? ⟨w.heap.size + 2, 2, none⟩ = some (.slice none 0 0) := by rw [blk_cell huu]; rfl
  replace cuu3 : u2.cell? ⟨w.heap.size + 2, 3, none⟩ = some (.int .i64 0) := by rw [blk_cell huu]; rfl
  replace luu := blk_lt huu
  have hcl8 : (clausesOf C.q S.kept).length ≤ 88 := by
    unfold clausesOf
    have h1 := hB.qb.cl
    have h2 := hB.kept
    have h3 : (S.kept.filter (fun f => f.1 == 1)).length ≤ S.kept.length := List.length_filter_le _ _
    simp; omega
  have HU : Hid (unitsOf C S (p1, p2) = unitsGo S.ref C.uni (clausesOf C.q S.kept) (C.q.vars.length + 1) (p1, p2) []) := hide rfl
  generalize clausesOf C.q S.kept = cs at *
  obtain ⟨aX, cX, rfl⟩ := own_form hX
  have hS1 := hS.later hBw
  have nuu : Far b V (w.heap.size + 2) := hS.fresh (by omega)
  clear cpa0 cpa1 lpa hpa cuu0 cuu1 cuu2 cuu3 luu crs0 crs1 crs2 crs3 lrs
  have lrs := blk_lt hrs
  have HCUR : Hid (∀ wx, Only (· = w.heap.size + 2) u2 wx → SAt wx b C S V ∧ wx.ownsRow u1.heap.size 3 1 (.slice aX cs.length cX) cs.length (ints cs) ∧ wx.heap[w.heap.size + 1]? = some (.cells #[.int .i64 0, .int .i64 0, .slice none 0 0, .int .i64 0] 161 (0, 0)) ∧ Below w.heap.size w wx) := hide (fun wx ho => ⟨hS1.only ho nuu, own_keep hX ho (fun j hj e => by
      obtain ⟨c, hc⟩ := own_bk hX j hj
      rw [e] at hc
      exact absurd (blk_type hc huu) (by decide)), (ho.block _ lrs (by omega)).trans hrs, hBw.trans (ho.below hBw.size (fun k hk e => by omega))⟩)
  have huu0 := huu
  clear hS hS1 hX hrs hBw huu b2
  go_wp2_with fail
  go_loopg [] (C.q.vars.length + 1) (fun m wx => ∃ (vals : Nat × Nat) (trail : List (Int × Nat)) (vT : Value), trail.length + m = C.q.vars.length + 1 ∧ (vals.1 < 512 ∧ vals.2 < 512) ∧ unitsOf C S (p1, p2) = unitsGo S.ref C.uni cs m vals trail ∧ Only (· = w.heap.size + 2) u2 wx ∧ wx.heap[w.heap.size + 2]? = some (.cells #[.int .i64 (vals.1 : Int), .int .i64 (vals.2 : Int), vT, .int .i64 0] 161 (0, 0)) ∧ wx.ownsRow u2.heap.size 177 2 vT trail.length (unitCells trail))
  case atStart => exact ⟨(p1, p2), [], _, by simp, hp, unhide HU, Only.refl _ _, huu0, World.ownsRow_nil _ _ _ _⟩
  case round =>
    obtain ⟨⟨v1, v2⟩, trail, vT, htm, hv9, hun, ho, hub, hoT⟩ := hrel
    dsimp only at hv9
    have HUN := hide hun
    clear hun huu0
    obtain ⟨aT, cT, rfl⟩ := own_form hoT
    obtain ⟨hSr, hXr, hrsr, hBr⟩ := unhide HCUR wr ho
    have q0 : wr.cell? ⟨b, 0, none⟩ = some (.slice aV C.q.vars.length cV) := by rw [blk_cell hSr.fb]; exact congrArg some hVf
    have cu2 : wr.cell? ⟨w.heap.size + 1 + 1, 2, none⟩ = some (.slice aT trail.length cT) := by rw [blk_cell hub]; rfl
    have lbr := blk_lt hSr.fb
    have lub := blk_lt hub
    have hlt9 : trail.length ≤ 9 := by omega
    by_cases hlt : trail.length ≤ C.q.vars.length
    · obtain ⟨m, rfl⟩ : ∃ m, gk = m + 1 := ⟨gk - 1, by omega⟩
      have HGO := hide (unitsGo_succ S.ref C.uni cs m (v1, v2) trail)
      have hd1 : decide ((trail.length : Int) ≤ (C.q.vars.length : Int)) = true := decide_eq_true (by omega)
      have hd2 : decide (trail.length ≤ C.q.vars.length) = true := decide_eq_true hlt
      go_wp2_with fail
      go_quiet (fail)
      have b0 : Below wr.heap.size wr (wr.drewN nq) := below_drewN (Below.refl _ _) nq
      have ho3 := ho.trans (Only.of_below (T := (· = w.heap.size + 2)) b0)
      have hub3 := (b0.block _ lub).trans hub
      have hoT3 := own_below hoT b0
      clear hSr hXr hrsr hBr q0 cu2 lbr lub ho hub hoT
      generalize wr.drewN nq = w3 at *
      obtain ⟨hS3, hX3, hrs3, hB3⟩ := unhide HCUR w3 ho3
      have c30 : w3.cell? ⟨w.heap.size + 1 + 1, 0, none⟩ = some (.int .i64 (v1 : Int)) := by rw [blk_cell hub3]; rfl
      have c31 : w3.cell? ⟨w.heap.size + 1 + 1, 1, none⟩ = some (.int .i64 (v2 : Int)) := by rw [blk_cell hub3]; rfl
      have c33 : w3.cell? ⟨w.heap.size + 1 + 1, 3, none⟩ = some (.int .i64 0) := by rw [blk_cell hub3]; rfl
      have z33 := blk_free hub3 3
      have lu3 := blk_lt hub3
      go_wp2_with fail
      refine (findConflict_any b C S V cs aX cX _ (v1, v2) w3 hS3 hB hv9 hX3 (by omega)).mono ?_
      rintro e w4 ⟨rfl, hb4⟩
      have ho4 := ho3.trans (Only.of_below (T := (· = w.heap.size + 2)) hb4)
      have hub4 := (hb4.block _ lu3).trans hub3
      have hoT4 := own_below hoT3 hb4
      clear hS3 hX3 hrs3 hB3 c30 c31 c33 z33 lu3 ho3 hub3 hoT3
      have c43 : w4.cell? ⟨w.heap.size + 1 + 1, 3, none⟩ = some (.int .i64 0) := by rw [blk_cell hub4]; rfl
      have z43 := blk_free hub4 3
      have lu4 := blk_lt hub4
      have hlo : w.heap.size ≤ u2.heap.size := by omega
      have hnT : (Value.slice aT trail.length cT).ownBlock ≠ some (w.heap.size + 2) := own_type_ne hoT4 hub4 (by decide)
      generalize hcf : confOf S.ref C.uni cs (v1, v2) = cf at *
      have HCF := hide hcf
      clear hcf
      have ho5 : Only (· = w.heap.size + 2) u2 (w4.setCell ⟨w.heap.size + 2, 3, none⟩ (.int .i64 (cf : Int))) := ho4.setAt 3 _
      have hub5 : (w4.setCell ⟨w.heap.size + 2, 3, none⟩ (.int .i64 (cf : Int))).heap[w.heap.size + 2]? = some (.cells #[.int .i64 (v1 : Int), .int .i64 (v2 : Int), .slice aT trail.length cT, .int .i64 (cf : Int)] 161 (0, 0)) := blk_set hub4 3 _
      have hoT5 := own_set_ne hoT4 (p := ⟨w.heap.size + 2, 3, none⟩) hnT (.int .i64 (cf : Int))
      by_cases hc0 : cf = 0
      · subst hc0
        have HGZ : Hid (unitsOf C S (p1, p2) = if (unitOf S.ref C.uni cs (v1, v2)).2 = 0 then ⟨(v1, v2), trail, 0⟩ else unitsGo S.ref C.uni cs m (withLit (v1, v2) (unitOf S.ref C.uni cs (v1, v2)).1) (trail ++ [unitOf S.ref C.uni cs (v1, v2)])) := hide (by rw [unhide HUN, unhide HGO, if_neg (fun h => h rfl)])
        have c40 : w4.cell? ⟨w.heap.size + 1 + 1, 0, none⟩ = some (.int .i64 (v1 : Int)) := by rw [blk_cell hub4]; rfl
        have c41 : w4.cell? ⟨w.heap.size + 1 + 1, 1, none⟩ = some (.int .i64 (v2 : Int)) := by rw [blk_cell hub4]; rfl
        clear ho5 hub5 hoT5
        have ho5 : Only (· = w.heap.size + 2) u2 (w4.setCell ⟨w.heap.size + 1 + 1, 3, none⟩ (.int .i64 0)) := ho4.setAt 3 _
        have hub5 : (w4.setCell ⟨w.heap.size + 1 + 1, 3, none⟩ (.int .i64 0)).heap[w.heap.size + 2]? = some (.cells #[.int .i64 (v1 : Int), .int .i64 (v2 : Int), .slice aT trail.length cT, .int .i64 0] 161 (0, 0)) := blk_set hub4 3 _
        have hoT5 := own_set_ne hoT4 (p := ⟨w.heap.size + 1 + 1, 3, none⟩) hnT (.int .i64 0)
        clear HGO HUN HCF hub4 hoT4 ho4
        go_wp2_with fail
        clear c40 c41 c43 z43 lu4
        obtain ⟨hS5, hX5, hrs5, hB5⟩ := unhide HCUR _ ho5
        have lu5 := blk_lt hub5
        have hbd := unitOf_bd S.ref C.uni cs (v1, v2)
        have HFU : Hid (∀ w5, SAt w5 b C S V → w5.ownsRow u1.heap.size 3 1 (.slice aX cs.length cX) cs.length (ints cs) → Calls Tryz.prog 111 #[.pointer (some ⟨b, 0, none⟩), .slice aX cs.length cX, SetV (v1, v2)] w5 fun e w' => e = .returned (UnitV (unitOf S.ref C.uni cs (v1, v2))) ∧ Below w5.heap.size w5 w') := hide (fun w5 h1 h2 => hFU b C S V cs aX cX _ (v1, v2) w5 h1 hB hv9 h2 (by omega))
        generalize unitOf S.ref C.uni cs (v1, v2) = un at *
        obtain ⟨x, n⟩ := un
        dsimp only at hbd HGZ
        generalize w4.setCell ⟨w.heap.size + 1 + 1, 3, none⟩ (.int .i64 0) = w5 at *
        refine (unhide HFU w5 hS5 hX5).mono ?_
        rintro e w6 ⟨rfl, hb6⟩
        have ho6 := ho5.trans (Only.of_below (T := (· = w.heap.size + 2)) hb6)
        have hub6 := (hb6.block _ lu5).trans hub5
        have hoT6 := own_below hoT5 hb6
        unfold UnitV
        dsimp only
        clear hS5 hX5 hrs5 hB5 HFU ho5 hub5 hoT5 lu5
        have hA : Below w6.heap.size w6 (w6.alloc (.cells #[.int .i64 x, .int .i64 (n : Int)] 177)) := (Below.refl _ _).alloc (Nat.le_refl _) _
        have hnx := heap_alloc_new w6 (.cells #[.int .i64 x, .int .i64 (n : Int)] 177)
        have ho7 := ho6.trans (Only.of_below (T := (· = w.heap.size + 2)) hA)
        have hubz := (hA.block _ (blk_lt hub6)).trans hub6
        have hoTz := own_below hoT6 hA
        obtain ⟨hSz, hXz, hrsz, hBz⟩ := unhide HCUR _ ho7
        by_cases hn0 : n = 0
        · have hq0 : ((n : Int) == 0) = true := by rw [beq_iff_eq]; omega
          have HF : Hid (unitsOf C S (p1, p2) = ⟨(v1, v2), trail, 0⟩) := hide (by rw [unhide HGZ, if_pos hn0])
          clear hub6 hoT6 ho6 hn0
          have r0 : (w6.alloc (.cells #[.int .i64 x, .int .i64 (n : Int)] 177)).cell? ⟨w.heap.size + 1, 0, none⟩ = some (.int .i64 0) := by rw [blk_cell hrsz]; rfl
          have r1 : (w6.alloc (.cells #[.int .i64 x, .int .i64 (n : Int)] 177)).cell? ⟨w.heap.size + 1, 1, none⟩ = some (.int .i64 0) := by rw [blk_cell hrsz]; rfl
          have r2 : (w6.alloc (.cells #[.int .i64 x, .int .i64 (n : Int)] 177)).cell? ⟨w.heap.size + 1, 2, none⟩ = some (.slice none 0 0) := by rw [blk_cell hrsz]; rfl
          have r3 : (w6.alloc (.cells #[.int .i64 x, .int .i64 (n : Int)] 177)).cell? ⟨w.heap.size + 1, 3, none⟩ = some (.int .i64 0) := by rw [blk_cell hrsz]; rfl
          have y0 := blk_free hrsz 0
          have y1 := blk_free hrsz 1
          have y2 := blk_free hrsz 2
          have y3 := blk_free hrsz 3
          have lrz := blk_lt hrsz
          have d0 : (w6.alloc (.cells #[.int .i64 x, .int .i64 (n : Int)] 177)).cell? ⟨w.heap.size + 1 + 1, 0, none⟩ = some (.int .i64 (v1 : Int)) := by rw [blk_cell hubz]; rfl
          have d1 : (w6.alloc (.cells #[.int .i64 x, .int .i64 (n : Int)] 177)).cell? ⟨w.heap.size + 1 + 1, 1, none⟩ = some (.int .i64 (v2 : Int)) := by rw [blk_cell hubz]; rfl
          have d2 : (w6.alloc (.cells #[.int .i64 x, .int .i64 (n : Int)] 177)).cell? ⟨w.heap.size + 1 + 1, 2, none⟩ = some (.slice aT trail.length cT) := by rw [blk_cell hubz]; rfl
          have d3 : (w6.alloc (.cells #[.int .i64 x, .int .i64 (n : Int)] 177)).cell? ⟨w.heap.size + 1 + 1, 3, none⟩ = some (.int .i64 0) := by rw [blk_cell hubz]; rfl
          have luz := blk_lt hubz
          have hR := blk_set (blk_set (blk_set (blk_set hrsz 0 (.int .i64 (v1 : Int))) 1 (.int .i64 (v2 : Int))) 2 (.slice aT trail.length cT)) 3 (.int .i64 0)
          have j0 := blk_cell hR 0
          have j1 := blk_cell hR 1
          have j2 := blk_cell hR 2
          have j3 := blk_cell hR 3
          have HOW := hide (own_set_ne (own_set_ne (own_set_ne (own_set_ne hoTz (p := ⟨w.heap.size + 1, 0, none⟩) (own_type_ne hoTz hrsz (by decide)) (.int .i64 (v1 : Int))) (p := ⟨w.heap.size + 1, 1, none⟩) (own_type_ne hoTz hrsz (by decide)) (.int .i64 (v2 : Int))) (p := ⟨w.heap.size + 1, 2, none⟩) (own_type_ne hoTz hrsz (by decide)) (.slice aT trail.length cT)) (p := ⟨w.heap.size + 1, 3, none⟩) (own_type_ne hoTz hrsz (by decide)) (.int .i64 0))
          have HBZ := hide ((((hBz.setCell (p := ⟨w.heap.size + 1, 0, none⟩) (Nat.le_succ _) (.int .i64 (v1 : Int))).setCell (p := ⟨w.heap.size + 1, 1, none⟩) (Nat.le_succ _) (.int .i64 (v2 : Int))).setCell (p := ⟨w.heap.size + 1, 2, none⟩) (Nat.le_succ _) (.slice aT trail.length cT)).setCell (p := ⟨w.heap.size + 1, 3, none⟩) (Nat.le_succ _) (.int .i64 0))
          clear hoTz hSz hXz hBz
          go_wp2_with fail
          refine bodyPost_ret (v := .agg #[.int .i64 (v1 : Int), .int .i64 (v2 : Int), .slice aT trail.length cT, .int .i64 0]) (by simp [results, Tryz.results89, go_sem, j0, j1, j2, j3]) rfl ⟨.slice aT trail.length cT, by rw [unhide HF]; rfl, by rw [unhide HF]; exact own_lo (unhide HOW) hlo, unhide HBZ⟩
        · have HF : Hid (unitsOf C S (p1, p2) = unitsGo S.ref C.uni cs m (withLit (v1, v2) x) (trail ++ [(x, n)])) := hide (by rw [unhide HGZ, if_neg hn0])
          have hq0 : ((n : Int) == 0) = false := by rw [beq_eq_false_iff_ne]; omega
          have c60 : w6.cell? ⟨w.heap.size + 1 + 1, 0, none⟩ = some (.int .i64 (v1 : Int)) := by rw [blk_cell hub6]; rfl
          have c61 : w6.cell? ⟨w.heap.size + 1 + 1, 1, none⟩ = some (.int .i64 (v2 : Int)) := by rw [blk_cell hub6]; rfl
          have lu6 := blk_lt hub6
          go_wp2_with fail
          refine (with_any v1 v2 x _ hv9.1 hv9.2 (by omega) (by omega)).mono ?_
          rintro e w7 ⟨rfl, hb7⟩
          have hlu6 : w.heap.size + 1 + 1 ≠ w6.heap.size := by omega
          have hnB := (hb7.block _ (blk_lt hnx)).trans hnx
          have ho8 := ho7.trans (Only.of_below (T := (· = w.heap.size + 2)) hb7)
          have hub7 := (hb7.block _ (blk_lt hubz)).trans hubz
          have hoT7 := own_below hoTz hb7
          clear c60 c61 lu6 hub6 hoT6 ho6 hSz hXz hrsz hBz hnx ho7 hubz hoTz hA
          have hw9 : (withLit (v1, v2) x).1 < 512 ∧ (withLit (v1, v2) x).2 < 512 := withLit_lt (v1, v2) x hv9.1 hv9.2
          generalize withLit (v1, v2) x = wl at *
          obtain ⟨x1, x2⟩ := wl
          dsimp only at *
          have c70 : w7.cell? ⟨w.heap.size + 1 + 1, 0, none⟩ = some (.int .i64 (v1 : Int)) := by rw [blk_cell hub7]; rfl
          have c71 : w7.cell? ⟨w.heap.size + 1 + 1, 1, none⟩ = some (.int .i64 (v2 : Int)) := by rw [blk_cell hub7]; rfl
          have c72 : w7.cell? ⟨w.heap.size + 1 + 1, 2, none⟩ = some (.slice aT trail.length cT) := by rw [blk_cell hub7]; rfl
          have z70 := blk_free hub7 0
          have z71 := blk_free hub7 1
          have z72 := blk_free hub7 2
          have lu7 := blk_lt hub7
          have hnB8 : ((w7.setCell ⟨w.heap.size + 1 + 1, 0, none⟩ (.int .i64 (x1 : Int))).setCell ⟨w.heap.size + 1 + 1, 1, none⟩ (.int .i64 (x2 : Int))).heap[w6.heap.size]? = some (.cells #[.int .i64 x, .int .i64 (n : Int)] 177 (0, 0)) := blk_other (blk_other hnB hlu6 0 _) hlu6 1 _
          have cn0 := blk_cell hnB8 0
          have cn1 := blk_cell hnB8 1
          clear hlu6
          have hub8 := blk_set (blk_set hub7 0 (.int .i64 (x1 : Int))) 1 (.int .i64 (x2 : Int))
          have hoT8 := own_set_ne (own_set_ne hoT7 (p := ⟨w.heap.size + 1 + 1, 0, none⟩) hnT (.int .i64 (x1 : Int))) (p := ⟨w.heap.size + 1 + 1, 1, none⟩) hnT (.int .i64 (x2 : Int))
          have ho8' : Only (· = w.heap.size + 2) u2 ((w7.setCell ⟨w.heap.size + 1 + 1, 0, none⟩ (.int .i64 (x1 : Int))).setCell ⟨w.heap.size + 1 + 1, 1, none⟩ (.int .i64 (x2 : Int))) := (ho8.setAt 0 _).setAt 1 _
          have lu8 := blk_lt hub8
          have hbs8 := ho8'.size
          have hT8 : ∀ k, (Value.slice aT trail.length cT).ownBlock = some k → u2.heap.size ≤ k := fun k hk => own_ge hoT8 hk
          have HO8 := hide ho8'
          have HU8 := hide hub8
          have HT8 := hide hoT8
          have HNT := hide hnT
          have HK8 := hide hT8
          clear ho8' hub8 hoT8 hnT hT8
          go_wp2_with (at_builtin; refine wpList_append_new' rfl (.tmp 48) (.tmp 50) 159 rfl u2.heap.size i1 (.agg #[.int .i64 0, .int .i64 0]) 2 16 Tryz.underlying159 hi1 hz10 hz11 hz12 rfl (by decide) _ _ _ (unhide HT8) rfl _ rfl (by simp [World.setCell]) rfl (by simp [Value.oneCell']) (by unfold maxLen; omega) (by omega) hbs8 ?_; intro v' w9 hown9 hgrow hat; have hub9 := (hgrow.block (w.heap.size + 2) lu8 (fun e => unhide HNT e.symm)).trans (unhide HU8); have c92 : w9.cell? ⟨w.heap.size + 1 + 1, 2, none⟩ = some (.slice aT trail.length cT) := (by rw [blk_cell hub9]; rfl); have z92 := blk_free hub9 2; have lu9 := blk_lt hub9; have ho9 := (unhide HO8).grown hgrow (fun k hk => Or.inr (unhide HK8 k hk)); clear hgrow; obtain ⟨a9, c9, rfl⟩ := own_form hown9)
          have hn9 : (Value.slice a9 (trail.length + 1) c9).ownBlock ≠ some (w.heap.size + 2) := own_type_ne hown9 hub9 (by decide)
          have hF9 := own_set_ne hown9 (p := ⟨w.heap.size + 1 + 1, 2, none⟩) hn9 (.slice a9 (trail.length + 1) c9)
          have hU9 := blk_set hub9 2 (.slice a9 (trail.length + 1) c9)
          have hO9 := ho9.setAt 2 (.slice a9 (trail.length + 1) c9)
          go_wp2_with fail
          go_roundg m
          case measure => omega
          case rel => exact ⟨(x1, x2), trail ++ [(x, n)], .slice a9 (trail.length + 1) c9, by simp; omega, hw9, unhide HF, hO9, hU9, by rw [List.length_append, unitCells_snoc]; exact hF9⟩
      · have HF : Hid (unitsOf C S (p1, p2) = ⟨(v1, v2), trail, cf⟩) := hide (by rw [unhide HUN, unhide HGO, if_pos hc0])
        have hd3 : decide ((0 : Int) < (cf : Int)) = true := decide_eq_true (by omega)
        have hd4 : decide (0 < cf) = true := decide_eq_true (by omega)
        obtain ⟨hSz, hXz, hrsz, hBz⟩ := unhide HCUR _ ho5
        have hubz := hub5
        have hoTz := hoT5
        clear hub4 hoT4 ho4 hub5 hoT5 ho5
        have r0 : (w4.setCell ⟨w.heap.size + 2, 3, none⟩ (.int .i64 (cf : Int))).cell? ⟨w.heap.size + 1, 0, none⟩ = some (.int .i64 0) := by rw [blk_cell hrsz]; rfl
        have r1 : (w4.setCell ⟨w.heap.size + 2, 3, none⟩ (.int .i64 (cf : Int))).cell? ⟨w.heap.size + 1, 1, none⟩ = some (.int .i64 0) := by rw [blk_cell hrsz]; rfl
        have r2 : (w4.setCell ⟨w.heap.size + 2, 3, none⟩ (.int .i64 (cf : Int))).cell? ⟨w.heap.size + 1, 2, none⟩ = some (.slice none 0 0) := by rw [blk_cell hrsz]; rfl
        have r3 : (w4.setCell ⟨w.heap.size + 2, 3, none⟩ (.int .i64 (cf : Int))).cell? ⟨w.heap.size + 1, 3, none⟩ = some (.int .i64 0) := by rw [blk_cell hrsz]; rfl
        have y0 := blk_free hrsz 0
        have y1 := blk_free hrsz 1
        have y2 := blk_free hrsz 2
        have y3 := blk_free hrsz 3
        have lrz := blk_lt hrsz
        have d0 : (w4.setCell ⟨w.heap.size + 2, 3, none⟩ (.int .i64 (cf : Int))).cell? ⟨w.heap.size + 1 + 1, 0, none⟩ = some (.int .i64 (v1 : Int)) := by rw [blk_cell hubz]; rfl
        have d1 : (w4.setCell ⟨w.heap.size + 2, 3, none⟩ (.int .i64 (cf : Int))).cell? ⟨w.heap.size + 1 + 1, 1, none⟩ = some (.int .i64 (v2 : Int)) := by rw [blk_cell hubz]; rfl
        have d2 : (w4.setCell ⟨w.heap.size + 2, 3, none⟩ (.int .i64 (cf : Int))).cell? ⟨w.heap.size + 1 + 1, 2, none⟩ = some (.slice aT trail.length cT) := by rw [blk_cell hubz]; rfl
        have d3 : (w4.setCell ⟨w.heap.size + 2, 3, none⟩ (.int .i64 (cf : Int))).cell? ⟨w.heap.size + 1 + 1, 3, none⟩ = some (.int .i64 (cf : Int)) := by rw [blk_cell hubz]; rfl
        have luz := blk_lt hubz
        have hR := blk_set (blk_set (blk_set (blk_set hrsz 0 (.int .i64 (v1 : Int))) 1 (.int .i64 (v2 : Int))) 2 (.slice aT trail.length cT)) 3 (.int .i64 (cf : Int))
        have j0 := blk_cell hR 0
        have j1 := blk_cell hR 1
        have j2 := blk_cell hR 2
        have j3 := blk_cell hR 3
        have HOW := hide (own_set_ne (own_set_ne (own_set_ne (own_set_ne hoTz (p := ⟨w.heap.size + 1, 0, none⟩) (own_type_ne hoTz hrsz (by decide)) (.int .i64 (v1 : Int))) (p := ⟨w.heap.size + 1, 1, none⟩) (own_type_ne hoTz hrsz (by decide)) (.int .i64 (v2 : Int))) (p := ⟨w.heap.size + 1, 2, none⟩) (own_type_ne hoTz hrsz (by decide)) (.slice aT trail.length cT)) (p := ⟨w.heap.size + 1, 3, none⟩) (own_type_ne hoTz hrsz (by decide)) (.int .i64 (cf : Int)))
        have HBZ := hide ((((hBz.setCell (p := ⟨w.heap.size + 1, 0, none⟩) (Nat.le_succ _) (.int .i64 (v1 : Int))).setCell (p := ⟨w.heap.size + 1, 1, none⟩) (Nat.le_succ _) (.int .i64 (v2 : Int))).setCell (p := ⟨w.heap.size + 1, 2, none⟩) (Nat.le_succ _) (.slice aT trail.length cT)).setCell (p := ⟨w.heap.size + 1, 3, none⟩) (Nat.le_succ _) (.int .i64 (cf : Int)))
        clear hoTz hSz hXz hBz
        go_wp2_with fail
        refine bodyPost_ret (v := .agg #[.int .i64 (v1 : Int), .int .i64 (v2 : Int), .slice aT trail.length cT, .int .i64 (cf : Int)]) (by simp [results, Tryz.results89, go_sem, j0, j1, j2, j3]) rfl ⟨.slice aT trail.length cT, by rw [unhide HF], by rw [unhide HF]; exact own_lo (unhide HOW) hlo, unhide HBZ⟩
    · have hm0 : gk = 0 := by omega
      subst hm0
      have hd1 : decide ((trail.length : Int) ≤ (C.q.vars.length : Int)) = false := decide_eq_false (by omega)
      have hd2 : decide (trail.length ≤ C.q.vars.length) = false := decide_eq_false hlt
      have HF : Hid (unitsOf C S (p1, p2) = ⟨(v1, v2), trail, 0⟩) := hide (by rw [unhide HUN]; rfl)
      go_wp2_with fail
      go_quiet (fail)
      have b0 : Below wr.heap.size wr (wr.drewN nq) := below_drewN (Below.refl _ _) nq
      have ho3 := ho.trans (Only.of_below (T := (· = w.heap.size + 2)) b0)
      have hubz := (b0.block _ lub).trans hub
      have hoTz := own_below hoT b0
      clear hSr hXr hrsr hBr q0 cu2 lbr lub ho hub hoT
      generalize wr.drewN nq = w3 at *
      have hlo : w.heap.size ≤ u2.heap.size := by omega
      obtain ⟨hSz, hXz, hrsz, hBz⟩ := unhide HCUR w3 ho3
      have r0 : w3.cell? ⟨w.heap.size + 1, 0, none⟩ = some (.int .i64 0) := by rw [blk_cell hrsz]; rfl
      have r1 : w3.cell? ⟨w.heap.size + 1, 1, none⟩ = some (.int .i64 0) := by rw [blk_cell hrsz]; rfl
      have r2 : w3.cell? ⟨w.heap.size + 1, 2, none⟩ = some (.slice none 0 0) := by rw [blk_cell hrsz]; rfl
      have r3 : w3.cell? ⟨w.heap.size + 1, 3, none⟩ = some (.int .i64 0) := by rw [blk_cell hrsz]; rfl
      have y0 := blk_free hrsz 0
      have y1 := blk_free hrsz 1
      have y2 := blk_free hrsz 2
      have y3 := blk_free hrsz 3
      have lrz := blk_lt hrsz
      have d0 : w3.cell? ⟨w.heap.size + 1 + 1, 0, none⟩ = some (.int .i64 (v1 : Int)) := by rw [blk_cell hubz]; rfl
      have d1 : w3.cell? ⟨w.heap.size + 1 + 1, 1, none⟩ = some (.int .i64 (v2 : Int)) := by rw [blk_cell hubz]; rfl
      have d2 : w3.cell? ⟨w.heap.size + 1 + 1, 2, none⟩ = some (.slice aT trail.length cT) := by rw [blk_cell hubz]; rfl
      have d3 : w3.cell? ⟨w.heap.size + 1 + 1, 3, none⟩ = some (.int .i64 0) := by rw [blk_cell hubz]; rfl
      have luz := blk_lt hubz
      have hR := blk_set (blk_set (blk_set (blk_set hrsz 0 (.int .i64 (v1 : Int))) 1 (.int .i64 (v2 : Int))) 2 (.slice aT trail.length cT)) 3 (.int .i64 0)
      have j0 := blk_cell hR 0
      have j1 := blk_cell hR 1
      have j2 := blk_cell hR 2
      have j3 := blk_cell hR 3
      have HOW := hide (own_set_ne (own_set_ne (own_set_ne (own_set_ne hoTz (p := ⟨w.heap.size + 1, 0, none⟩) (own_type_ne hoTz hrsz (by decide)) (.int .i64 (v1 : Int))) (p := ⟨w.heap.size + 1, 1, none⟩) (own_type_ne hoTz hrsz (by decide)) (.int .i64 (v2 : Int))) (p := ⟨w.heap.size + 1, 2, none⟩) (own_type_ne hoTz hrsz (by decide)) (.slice aT trail.length cT)) (p := ⟨w.heap.size + 1, 3, none⟩) (own_type_ne hoTz hrsz (by decide)) (.int .i64 0))
      have HBZ := hide ((((hBz.setCell (p := ⟨w.heap.size + 1, 0, none⟩) (Nat.le_succ _) (.int .i64 (v1 : Int))).setCell (p := ⟨w.heap.size + 1, 1, none⟩) (Nat.le_succ _) (.int .i64 (v2 : Int))).setCell (p := ⟨w.heap.size + 1, 2, none⟩) (Nat.le_succ _) (.slice aT trail.length cT)).setCell (p := ⟨w.heap.size + 1, 3, none⟩) (Nat.le_succ _) (.int .i64 0))
      clear hoTz hSz hXz hBz
      go_wp2_with fail
      refine bodyPost_ret (v := .agg #[.int .i64 (v1 : Int), .int .i64 (v2 : Int), .slice aT trail.length cT, .int .i64 0]) (by simp [results, Tryz.results89, go_sem, j0, j1, j2, j3]) rfl ⟨.slice aT trail.length cT, by rw [unhide HF]; rfl, by rw [unhide HF]; exact own_lo (unhide HOW) hlo, unhide HBZ⟩
end Go.Proofs.YtgipjjhkhfihpaaGreatDoor

namespace Go.Proofs.YtgipjjhkhfihpaaGreatDoor
open Go.RowKit

set_option maxRecDepth 100000 in
set_option maxHeartbeats 1600000 in
theorem skeep_any (b : Nat) (C : SC) (S : SS) (V : SV) (f : Nat × Nat) (w : World) (hS : SAt w b C S V) (hB : SBd C S) :
    Calls Tryz.prog 115 #[.pointer (some ⟨b, 0, none⟩), FactV f] w fun e w' => e = .returned (.tuple #[]) ∧ SPost b C (S.keep C.room f) V w w' := by
  obtain ⟨fk, fs⟩ := f
  have hlt := hB.lits (fk, fs)
  have HK : Hid (S.keep C.room (fk, fs) = if emptyB (S.lits (fk, fs)) then S else S.store C.room (fk, fs)) := hide rfl
  go_enter Tryz.func115, Tryz.ntmps115
  go_wp2_with fail
  generalize hw0 : (w.alloc (.cells #[.int .i64 (fk : Int), .int .i64 (fs : Int)] 129)) = u1
  have hb0 : Below w.heap.size w u1 := by rw [← hw0]; exact (Below.refl _ _).alloc (Nat.le_refl _) _
  have hfa : u1.heap[w.heap.size]? = some (.cells #[.int .i64 (fk : Int), .int .i64 (fs : Int)] 129 (0, 0)) := by rw [← hw0]; exact alloc_new_at (by simp)
  have nfa : Far b V (w.heap.size) := hS.fresh (by omega)
  clear hw0
  have hM : SMoved b w u1 V V := SMoved.of_below hb0
  replace hS := hS.later hb0
  have lb := blk_lt hS.fb
  have cfa0 : u1.cell? ⟨w.heap.size, 0, none⟩ = some (.int .i64 (fk : Int)) := by rw [blk_cell hfa]; rfl
  have cfa1 : u1.cell? ⟨w.heap.size, 1, none⟩ = some (.int .i64 (fs : Int)) := by rw [blk_cell hfa]; rfl
  have lfa := blk_lt hfa
  refine (slits_any b C S V (fk, fs) _ hS hB).mono ?_
  rintro e u2 ⟨rfl, b2⟩
  replace hM := hM.trans (SMoved.of_below b2)
  replace hS := hS.later b2
  replace lb := blk_lt hS.fb
  replace hfa := (b2.block _ (blk_lt hfa)).trans hfa
  replace cfa0 : u2.cell? ⟨w.heap.size, 0, none⟩ = some (.int .i64 (fk : Int)) := by rw [blk_cell hfa]; rfl
  replace cfa1 : u2.cell? ⟨w.heap.size, 1, none⟩ = some (.int .i64 (fs : Int)) := by rw [blk_cell hfa]; rfl
  replace lfa := blk_lt hfa
  generalize hea : S.lits (fk, fs) = c at *
  clear hea
  obtain ⟨c1, c2⟩ := c
  dsimp only at hlt
  go_wp2_with fail
  have nse : Far b V u2.heap.size := hS.fresh (Nat.le_refl _)
  generalize hw0 : u2.alloc (.cells #[.int .i64 (c1 : Int), .int .i64 (c2 : Int)] 74) = u3
  have b3 : Below u2.heap.size u2 u3 := by rw [← hw0]; exact (Below.refl _ _).alloc (Nat.le_refl _) _
  have hse : u3.heap[u2.heap.size]? = some (.cells #[.int .i64 (c1 : Int), .int .i64 (c2 : Int)] 74 (0, 0)) := by rw [← hw0]; exact heap_alloc_new _ _
  clear hw0
  replace hM := hM.trans (SMoved.of_below b3)
  replace hS := hS.later b3
  replace lb := blk_lt hS.fb
  replace hfa := (b3.block _ (blk_lt hfa)).trans hfa
  replace cfa0 : u3.cell? ⟨w.heap.size, 0, none⟩ = some (.int .i64 (fk : Int)) := by rw [blk_cell hfa]; rfl
  replace cfa1 : u3.cell? ⟨w.heap.size, 1, none⟩ = some (.int .i64 (fs : Int)) := by rw [blk_cell hfa]; rfl
  replace lfa := blk_lt hfa
  have cse0 : u3.cell? ⟨u2.heap.size, 0, none⟩ = some (.int .i64 (c1 : Int)) := by rw [blk_cell hse]; rfl
  have cse1 : u3.cell? ⟨u2.heap.size, 1, none⟩ = some (.int .i64 (c2 : Int)) := by rw [blk_cell hse]; rfl
  have lse := blk_lt hse
  refine (empty_any c1 c2 _ hlt.1 hlt.2).mono ?_
  rintro e u4 ⟨rfl, b4⟩
  replace hM := hM.trans (SMoved.of_below b4)
  replace hS := hS.later b4
  replace lb := blk_lt hS.fb
  replace hfa := (b4.block _ (blk_lt hfa)).trans hfa
  replace cfa0 : u4.cell? ⟨w.heap.size, 0, none⟩ = some (.int .i64 (fk : Int)) := by rw [blk_cell hfa]; rfl
  replace cfa1 : u4.cell? ⟨w.heap.size, 1, none⟩ = some (.int .i64 (fs : Int)) := by rw [blk_cell hfa]; rfl
  replace lfa := blk_lt hfa
  replace hse := (b4.block _ (blk_lt hse)).trans hse
  replace cse0 : u4.cell? ⟨u2.heap.size, 0, none⟩ = some (.int .i64 (c1 : Int)) := by rw [blk_cell hse]; rfl
  replace cse1 : u4.cell? ⟨u2.heap.size, 1, none⟩ = some (.int .i64 (c2 : Int)) := by rw [blk_cell hse]; rfl
  replace lse := blk_lt hse
  cases he : (c1 ||| c2 == 0) with
  | true =>
    have HF : Hid (S.keep C.room (fk, fs) = S) := hide (by rw [unhide HK]; unfold emptyB; rw [he]; rfl)
    go_wp2_with fail
    go_end0
    exact ⟨rfl, by rw [unhide HF]; exact ⟨V, hS, hM⟩⟩
  | false =>
    have HF : Hid (S.keep C.room (fk, fs) = S.store C.room (fk, fs)) := hide (by rw [unhide HK]; unfold emptyB; rw [he]; rfl)
    go_wp2_with fail
    have hu9 : Below u4.heap.size u4 u4.drew := (Below.refl _ u4).drew
    go_region_with (go_at_call 135; refine (store_any b C S V (fk, fs) _ (hS.later hu9) hB).mono ?_; rintro e w9 ⟨rfl, hp9⟩; have hp := SPost.before hp9 (hM.trans (SMoved.of_below hu9)))
    all_goals
      go_wp2_with fail
      go_end0
      exact ⟨rfl, by rw [unhide HF]; exact hp⟩

theorem SBd.put {C : SC} {S : SS} (h : SBd C S) {k : Nat} (hk : k = 1 ∨ k = 2) {p : List Stp} (hl : p.length ≤ 100000) (hb : ∀ s ∈ p, s.lits.1 < 512 ∧ s.lits.2 < 512) : SBd C (S.put k p) := by
  rcases hk with rfl | rfl
  · exact ⟨h.qb, h.uni, hb, h.aff, hl, h.al, h.kept, h.kind, h.budget, h.room, h.most, h.nodes⟩
  · exact ⟨h.qb, h.uni, h.ref, hb, h.rl, hl, h.kept, h.kind, h.budget, h.room, h.most, h.nodes⟩

theorem resP_bd (p : List Stp) (a b v : Nat) (hb : ∀ s ∈ p, s.lits.1 < 512 ∧ s.lits.2 < 512) : (∀ s ∈ (resP p a b v).1, s.lits.1 < 512 ∧ s.lits.2 < 512) ∧ (resP p a b v).1.length = p.length + 1 ∧ (resP p a b v).2 = p.length + 1 := by
  have h1 := litsAt_lt p hb a
  have h2 := litsAt_lt p hb b
  unfold resP
  split
  · refine ⟨fun s hs => ?_, by simp, rfl⟩
    rcases List.mem_append.1 hs with hs | hs
    · exact hb s hs
    · simp at hs; subst hs
      exact without_lt _ _ ⟨or_lt _ _ h1.1 h2.1, or_lt _ _ h1.2 h2.2⟩
  · refine ⟨fun s hs => ?_, by simp, rfl⟩
    rcases List.mem_append.1 hs with hs | hs
    · exact hb s hs
    · simp at hs; subst hs
      exact without_lt _ _ ⟨or_lt _ _ h2.1 h1.1, or_lt _ _ h2.2 h1.2⟩
theorem redP_bd (q : QS) (k : Nat) (p : List Stp) (n : Nat) (hb : ∀ s ∈ p, s.lits.1 < 512 ∧ s.lits.2 < 512) : (∀ s ∈ (redP q k p n).1, s.lits.1 < 512 ∧ s.lits.2 < 512) ∧ (redP q k p n).1.length ≤ p.length + 1 ∧ ((redP q k p n).2 = n ∨ (redP q k p n).2 = p.length + 1) := by
  have h1 := litsAt_lt p hb n
  unfold redP
  split
  · exact ⟨hb, Nat.le_succ _, Or.inl rfl⟩
  · refine ⟨fun s hs => ?_, by simp, Or.inr rfl⟩
    rcases List.mem_append.1 hs with hs | hs
    · exact hb s hs
    · simp at hs; subst hs
      exact redQ_lt _ _ _ h1
theorem put_proof2 (S : SS) (k : Nat) (p : List Stp) : (S.put k p).proof k = p := by
  unfold SS.put SS.proof; split <;> rfl
theorem put_put (S : SS) (k : Nat) (p p' : List Stp) : (S.put k p).put k p' = S.put k p' := by
  unfold SS.put; split <;> rfl
theorem join_as (C : SC) (S : SS) (f g : Nat × Nat) (v : Nat) : joinOf C S f g v = (((S.put f.1 (resP (S.proof f.1) f.2 g.2 v).1).reduce C.q (f.1, (resP (S.proof f.1) f.2 g.2 v).2)).1.keep C.room ((S.put f.1 (resP (S.proof f.1) f.2 g.2 v).1).reduce C.q (f.1, (resP (S.proof f.1) f.2 g.2 v).2)).2, ((S.put f.1 (resP (S.proof f.1) f.2 g.2 v).1).reduce C.q (f.1, (resP (S.proof f.1) f.2 g.2 v).2)).2) := by
  unfold joinOf SS.reduce
  dsimp only
  rw [put_proof2, put_put]
theorem reduce_as (S : SS) (q : QS) (k n : Nat) : S.reduce q (k, n) = (S.put k (redP q k (S.proof k) n).1, (k, (redP q k (S.proof k) n).2)) := by unfold SS.reduce; dsimp only
theorem reduce_bd {C : SC} {S : SS} (h : SBd C S) {k : Nat} (hk : k = 1 ∨ k = 2) (n : Nat) (hl : (S.proof k).length ≤ 99999) : SBd C (S.reduce C.q (k, n)).1 := by
  have hr := redP_bd C.q k (S.proof k) n (h.proof k).2
  exact h.put hk (p := (redP C.q k (S.proof k) n).1) (by have := hr.2.1; omega) hr.1

set_option maxRecDepth 100000 in
set_option maxHeartbeats 1600000 in
theorem join_any (b : Nat) (C : SC) (S : SS) (V : SV) (f g : Nat × Nat) (v : Nat) (w : World) (hS : SAt w b C S V) (hB : SBd C S) (hk : f.1 = 1 ∨ f.1 = 2) (hl : (S.proof f.1).length ≤ 99990) (hv : v ≤ 1048576) :
    Calls Tryz.prog 120 #[.pointer (some ⟨b, 0, none⟩), FactV f, FactV g, .int .i64 (v : Int)] w fun e w' => e = .returned (FactV (joinOf C S f g v).2) ∧ SPost b C (joinOf C S f g v).1 V w w' := by
  obtain ⟨fk, fs⟩ := f
  obtain ⟨gk, gs⟩ := g
  dsimp only at hk hl
  go_enter Tryz.func120, Tryz.ntmps120
  go_wp2_with fail
  generalize hw0 : (((w.alloc (.cells #[.int .i64 (fk : Int), .int .i64 (fs : Int)] 129)).alloc (.cells #[.int .i64 (gk : Int), .int .i64 (gs : Int)] 129)).alloc (.cells #[.int .i64 0, .int .i64 0] 129)) = u1
  have hb0 : Below w.heap.size w u1 := by rw [← hw0]; exact (((Below.refl _ _).alloc (Nat.le_refl _) _).alloc (by simp; try omega) _).alloc (by simp; try omega) _
  have hfa : u1.heap[w.heap.size]? = some (.cells #[.int .i64 (fk : Int), .int .i64 (fs : Int)] 129 (0, 0)) := by rw [← hw0, heap_alloc_old _ _ (by simp; try omega), heap_alloc_old _ _ (by simp; try omega)]; exact alloc_new_at (by simp)
  have nfa : Far b V (w.heap.size) := hS.fresh (by omega)
  have hga : u1.heap[w.heap.size + 1]? = some (.cells #[.int .i64 (gk : Int), .int .i64 (gs : Int)] 129 (0, 0)) := by rw [← hw0, heap_alloc_old _ _ (by simp; try omega)]; exact alloc_new_at (by simp)
  have nga : Far b V (w.heap.size + 1) := hS.fresh (by omega)
  have hrs : u1.heap[w.heap.size + 2]? = some (.cells #[.int .i64 0, .int .i64 0] 129 (0, 0)) := by rw [← hw0]; exact alloc_new_at (by simp)
  have nrs : Far b V (w.heap.size + 2) := hS.fresh (by omega)
  clear hw0
  have hM : SMoved b w u1 V V := SMoved.of_below hb0
  replace hS := hS.later hb0
  have lb := blk_lt hS.fb
  have cfa0 : u1.cell? ⟨w.heap.size, 0, none⟩ = some (.int .i64 (fk : Int)) := by rw [blk_cell hfa]; rfl
  have cfa1 : u1.cell? ⟨w.heap.size, 1, none⟩ = some (.int .i64 (fs : Int)) := by rw [blk_cell hfa]; rfl
  have lfa := blk_lt hfa
  have cga0 : u1.cell? ⟨w.heap.size + 1, 0, none⟩ = some (.int .i64 (gk : Int)) := by rw [blk_cell hga]; rfl
  have cga1 : u1.cell? ⟨w.heap.size + 1, 1, none⟩ = some (.int .i64 (gs : Int)) := by rw [blk_cell hga]; rfl
  have lga := blk_lt hga
  have crs0 : u1.cell? ⟨w.heap.size + 2, 0, none⟩ = some (.int .i64 0) := by rw [blk_cell hrs]; rfl
  have crs1 : u1.cell? ⟨w.heap.size + 2, 1, none⟩ = some (.int .i64 0) := by rw [blk_cell hrs]; rfl
  have lrs := blk_lt hrs
  refine (sproof_any b fk _ lb).mono ?_
  rintro e w2 ⟨rfl, hw2⟩
  subst hw2
  go_wp2_with fail
  have hrb := resP_bd (S.proof fk) fs gs v (hB.proof fk).2
  refine (presolve_any b (pOff fk) _ _ (S.proof fk) _ fk fs gs v w2 (hS.pat hk) (hB.proof fk).1 (hB.proof fk).2 hv).mono ?_
  rintro e u3 ⟨rfl, hgo⟩
  obtain ⟨V2, hS2, hM2⟩ := hS.put hk hgo
  clear hgo
  have hB2 := hB.put hk (p := (resP (S.proof fk) fs gs v).1) (by have := hrb.2.1; omega) hrb.1
  have h9 := join_as C S (fk, fs) (gk, gs) v
  dsimp only at h9
  have HJ := hide h9
  clear h9
  have hrn := hrb.2.2
  have hlen2 : ((S.put fk (resP (S.proof fk) fs gs v).1).proof fk).length ≤ 99995 := by rw [put_proof2]; have := hrb.2.1; omega
  clear hrb
  obtain ⟨S2, hS2e⟩ : ∃ X, X = S.put fk (resP (S.proof fk) fs gs v).1 := ⟨_, rfl⟩
  obtain ⟨rn, hrne⟩ : ∃ X, X = (resP (S.proof fk) fs gs v).2 := ⟨_, rfl⟩
  rw [← hS2e] at HJ hB2 hlen2 hS2
  rw [← hrne] at HJ hrn ⊢
  clear hS2e hrne
  have hrn6 : rn ≤ 1048576 := by omega
  clear hrn
  replace hfa := hM2.blk hfa nfa
  replace nfa := hM2.far lfa nfa
  replace hga := hM2.blk hga nga
  replace nga := hM2.far lga nga
  replace hrs := hM2.blk hrs nrs
  replace nrs := hM2.far lrs nrs
  replace hM := hM.trans hM2
  replace hS := hS2
  clear hM2 hS2
  replace lb := blk_lt hS.fb
  replace cfa0 : u3.cell? ⟨w.heap.size, 0, none⟩ = some (.int .i64 (fk : Int)) := by rw [blk_cell hfa]; rfl
  replace cfa1 : u3.cell? ⟨w.heap.size, 1, none⟩ = some (.int .i64 (fs : Int)) := by rw [blk_cell hfa]; rfl
  replace lfa := blk_lt hfa
  replace cga0 : u3.cell? ⟨w.heap.size + 1, 0, none⟩ = some (.int .i64 (gk : Int)) := by rw [blk_cell hga]; rfl
  replace cga1 : u3.cell? ⟨w.heap.size + 1, 1, none⟩ = some (.int .i64 (gs : Int)) := by rw [blk_cell hga]; rfl
  replace lga := blk_lt hga
  replace crs0 : u3.cell? ⟨w.heap.size + 2, 0, none⟩ = some (.int .i64 0) := by rw [blk_cell hrs]; rfl
  replace crs1 : u3.cell? ⟨w.heap.size + 2, 1, none⟩ = some (.int .i64 0) := by rw [blk_cell hrs]; rfl
  replace lrs := blk_lt hrs
  go_wp2_with fail
  refine (sreduce_any b C S2 V2 (fk, rn) _ hS hB2 hk hrn6).mono ?_
  rintro e u2 ⟨rfl, V3, hS2, hM2⟩
  replace hfa := hM2.blk hfa nfa
  replace nfa := hM2.far lfa nfa
  replace hga := hM2.blk hga nga
  replace nga := hM2.far lga nga
  replace hrs := hM2.blk hrs nrs
  replace nrs := hM2.far lrs nrs
  replace hM := hM.trans hM2
  replace hS := hS2
  clear hM2
  replace lb := blk_lt hS.fb
  replace cfa0 : u2.cell? ⟨w.heap.size, 0, none⟩ = some (.int .i64 (fk : Int)) := by rw [blk_cell hfa]; rfl
  replace cfa1 : u2.cell? ⟨w.heap.size, 1, none⟩ = some (.int .i64 (fs : Int)) := by rw [blk_cell hfa]; rfl
  replace lfa := blk_lt hfa
  replace cga0 : u2.cell? ⟨w.heap.size + 1, 0, none⟩ = some (.int .i64 (gk : Int)) := by rw [blk_cell hga]; rfl
  replace cga1 : u2.cell? ⟨w.heap.size + 1, 1, none⟩ = some (.int .i64 (gs : Int)) := by rw [blk_cell hga]; rfl
  replace lga := blk_lt hga
  replace crs0 : u2.cell? ⟨w.heap.size + 2, 0, none⟩ = some (.int .i64 0) := by rw [blk_cell hrs]; rfl
  replace crs1 : u2.cell? ⟨w.heap.size + 2, 1, none⟩ = some (.int .i64 0) := by rw [blk_cell hrs]; rfl
  replace lrs := blk_lt hrs
  have hB3 := reduce_bd hB2 hk rn (by omega)
  have hred0 : S2.reduce C.q (fk, rn) = (S2.put fk (redP C.q fk (S2.proof fk) rn).1, (fk, (redP C.q fk (S2.proof fk) rn).2)) := reduce_as S2 C.q fk rn
  obtain ⟨S3, hS3e⟩ : ∃ X, S2.put fk (redP C.q fk (S2.proof fk) rn).1 = X := ⟨_, rfl⟩
  obtain ⟨n3, hn3e⟩ : ∃ X, (redP C.q fk (S2.proof fk) rn).2 = X := ⟨_, rfl⟩
  rw [hS3e, hn3e] at hred0
  rw [hred0] at hS hB3 HJ ⊢
  have HJ2 : Hid (joinOf C S (fk, fs) (gk, gs) v = (S3.keep C.room (fk, n3), (fk, n3))) := HJ
  clear hS3e hn3e hred0 HJ hB2 hlen2
  dsimp only at hS hB3 ⊢
  go_wp2_with fail
  have nfo : Far b V3 u2.heap.size := hS.fresh (Nat.le_refl _)
  generalize hw0 : u2.alloc (.cells #[.int .i64 (fk : Int), .int .i64 (n3 : Int)] 129) = u3
  have b3 : Below u2.heap.size u2 u3 := by rw [← hw0]; exact (Below.refl _ _).alloc (Nat.le_refl _) _
  have hfo : u3.heap[u2.heap.size]? = some (.cells #[.int .i64 (fk : Int), .int .i64 (n3 : Int)] 129 (0, 0)) := by rw [← hw0]; exact heap_alloc_new _ _
  clear hw0
  replace hM := hM.trans (SMoved.of_below b3)
  replace hS := hS.later b3
  replace lb := blk_lt hS.fb
  replace hfa := (b3.block _ (blk_lt hfa)).trans hfa
  replace cfa0 : u3.cell? ⟨w.heap.size, 0, none⟩ = some (.int .i64 (fk : Int)) := by rw [blk_cell hfa]; rfl
  replace cfa1 : u3.cell? ⟨w.heap.size, 1, none⟩ = some (.int .i64 (fs : Int)) := by rw [blk_cell hfa]; rfl
  replace lfa := blk_lt hfa
  replace hga := (b3.block _ (blk_lt hga)).trans hga
  replace cga0 : u3.cell? ⟨w.heap.size + 1, 0, none⟩ = some (.int .i64 (gk : Int)) := by rw [blk_cell hga]; rfl
  replace cga1 : u3.cell? ⟨w.heap.size + 1, 1, none⟩ = some (.int .i64 (gs : Int)) := by rw [blk_cell hga]; rfl
  replace lga := blk_lt hga
  replace hrs := (b3.block _ (blk_lt hrs)).trans hrs
  replace crs0 : u3.cell? ⟨w.heap.size + 2, 0, none⟩ = some (.int .i64 0) := by rw [blk_cell hrs]; rfl
  replace crs1 : u3.cell? ⟨w.heap.size + 2, 1, none⟩ = some (.int .i64 0) := by rw [blk_cell hrs]; rfl
  replace lrs := blk_lt hrs
  have cfo0 : u3.cell? ⟨u2.heap.size, 0, none⟩ = some (.int .i64 (fk : Int)) := by rw [blk_cell hfo]; rfl
  have cfo1 : u3.cell? ⟨u2.heap.size, 1, none⟩ = some (.int .i64 (n3 : Int)) := by rw [blk_cell hfo]; rfl
  have lfo := blk_lt hfo
  refine (skeep_any b C S3 V3 (fk, n3) _ hS hB3).mono ?_
  rintro e u4 ⟨rfl, V4, hS2, hM2⟩
  replace hfa := hM2.blk hfa nfa
  replace nfa := hM2.far lfa nfa
  replace hga := hM2.blk hga nga
  replace nga := hM2.far lga nga
  replace hrs := hM2.blk hrs nrs
  replace nrs := hM2.far lrs nrs
  replace hfo := hM2.blk hfo nfo
  replace nfo := hM2.far lfo nfo
  replace hM := hM.trans hM2
  replace hS := hS2
  clear hM2
  replace lb := blk_lt hS.fb
  replace cfa0 : u4.cell? ⟨w.heap.size, 0, none⟩ = some (.int .i64 (fk : Int)) := by rw [blk_cell hfa]; rfl
  replace cfa1 : u4.cell? ⟨w.heap.size, 1, none⟩ = some (.int .i64 (fs : Int)) := by rw [blk_cell hfa]; rfl
  replace lfa := blk_lt hfa
  replace cga0 : u4.cell? ⟨w.heap.size + 1, 0, none⟩ = some (.int .i64 (gk : Int)) := by rw [blk_cell hga]; rfl
  replace cga1 : u4.cell? ⟨w.heap.size + 1, 1, none⟩ = some (.int .i64 (gs : Int)) := by rw [blk_cell hga]; rfl
  replace lga := blk_lt hga
  replace crs0 : u4.cell? ⟨w.heap.size + 2, 0, none⟩ = some (.int .i64 0) := by rw [blk_cell hrs]; rfl
  replace crs1 : u4.cell? ⟨w.heap.size + 2, 1, none⟩ = some (.int .i64 0) := by rw [blk_cell hrs]; rfl
  replace lrs := blk_lt hrs
  replace cfo0 : u4.cell? ⟨u2.heap.size, 0, none⟩ = some (.int .i64 (fk : Int)) := by rw [blk_cell hfo]; rfl
  replace cfo1 : u4.cell? ⟨u2.heap.size, 1, none⟩ = some (.int .i64 (n3 : Int)) := by rw [blk_cell hfo]; rfl
  replace lfo := blk_lt hfo
  have z0 := blk_free hrs 0
  have z1 := blk_free hrs 1
  have hR := blk_set (blk_set hrs 0 (.int .i64 (fk : Int))) 1 (.int .i64 (n3 : Int))
  have j0 := blk_cell hR 0
  have j1 := blk_cell hR 1
  go_wp2_with fail
  refine bodyPost_ret (v := FactV (fk, n3)) (by simp [results, Tryz.results120, go_sem, j0, j1]) rfl ⟨by rw [unhide HJ2], ?_⟩
  rw [unhide HJ2]
  exact ⟨V4, (hS.set nrs 0 _).set nrs 1 _, (hM.set (k := w.heap.size + 2) (by omega) 0 _).set (k := w.heap.size + 2) (by omega) 1 _⟩
end Go.Proofs.YtgipjjhkhfihpaaGreatDoor

namespace Go.Proofs.YtgipjjhkhfihpaaGreatDoor
open Go.RowKit

/-! ### explain -/
theorem expl_step (ms : List (Int × Nat)) (k : Nat) (h : k < ms.length) (p : List Stp) (n : Nat) : expl (ms.take (k + 1)).reverse p n = if hasLit (litsAt p n) (-ms[k].1) then expl (ms.take k).reverse (resP p ms[k].2 n ms[k].1.natAbs).1 (resP p ms[k].2 n ms[k].1.natAbs).2 else expl (ms.take k).reverse p n := by
  rw [List.take_succ_eq_append_getElem h, List.reverse_append]; rfl
structure TrailBd (ms : List (Int × Nat)) : Prop where
  len : ms.length ≤ 1000
  lit : ∀ u ∈ ms, -8 ≤ u.1 ∧ u.1 ≤ 8
theorem SBd.setRef {C : SC} {S : SS} (h : SBd C S) {p : List Stp} (hl : p.length ≤ 100000) (hb : ∀ s ∈ p, s.lits.1 < 512 ∧ s.lits.2 < 512) : SBd C { S with ref := p } := h.put (Or.inl rfl) hl hb
theorem explain_as (C : SC) (S : SS) (u : US) (p : List Stp) (n : Nat) (h : expl u.trail.reverse S.ref u.conf = (p, n)) : explain C S u = (if n ≠ u.conf then (({ S with ref := p } : SS).reduce C.q (1, n)).1.keep C.room (({ S with ref := p } : SS).reduce C.q (1, n)).2 else (({ S with ref := p } : SS).reduce C.q (1, n)).1, (({ S with ref := p } : SS).reduce C.q (1, n)).2) := by
  unfold explain
  rw [h]
  rfl
set_option maxRecDepth 100000 in
set_option maxHeartbeats 6400000 in
theorem explain_any (b : Nat) (C : SC) (S : SS) (V : SV) (u : US) (aT : Option Addr) (cT base : Nat) (w : World) (hS : SAt w b C S V) (hB : SBd C S) (hT : w.ownsRow base 177 2 (.slice aT u.trail.length cT) u.trail.length (unitCells u.trail)) (hTB : TrailBd u.trail) (hfar : ∀ k, (Value.slice aT u.trail.length cT).ownBlock = some k → Far b V k) (hrl : S.ref.length ≤ 90000) (hcf : u.conf ≤ 100000) :
    Calls Tryz.prog 90 #[.pointer (some ⟨b, 0, none⟩), .agg #[.int .i64 (u.vals.1 : Int), .int .i64 (u.vals.2 : Int), .slice aT u.trail.length cT, .int .i64 (u.conf : Int)]] w fun e w' => e = .returned (FactV (explain C S u).2) ∧ SPost b C (explain C S u).1 V w w' := by
  obtain ⟨⟨v1, v2⟩, trail, conf⟩ := u
  dsimp only at hT hTB hfar hcf ⊢
  have htl := hTB.len
  have HTB := hide hTB.lit
  clear hTB
  go_enter Tryz.func90, Tryz.ntmps90
  go_wp2_with fail
  generalize hw0 : ((w.alloc (.cells #[.int .i64 (v1 : Int), .int .i64 (v2 : Int), .slice aT trail.length cT, .int .i64 (conf : Int)] 161)).alloc (.cells #[.int .i64 0, .int .i64 0] 129)) = u1
  have hb0 : Below w.heap.size w u1 := by rw [← hw0]; exact ((Below.refl _ _).alloc (Nat.le_refl _) _).alloc (by simp; try omega) _
  have huu : u1.heap[w.heap.size]? = some (.cells #[.int .i64 (v1 : Int), .int .i64 (v2 : Int), .slice aT trail.length cT, .int .i64 (conf : Int)] 161 (0, 0)) := by rw [← hw0, heap_alloc_old _ _ (by simp; try omega)]; exact alloc_new_at (by simp)
  have nuu : Far b V (w.heap.size) := hS.fresh (by omega)
  have hrs : u1.heap[w.heap.size + 1]? = some (.cells #[.int .i64 0, .int .i64 0] 129 (0, 0)) := by rw [← hw0]; exact alloc_new_at (by simp)
  have nrs : Far b V (w.heap.size + 1) := hS.fresh (by omega)
  clear hw0
  have hM : SMoved b w u1 V V := SMoved.of_below hb0
  replace hS := hS.later hb0
  have lb := blk_lt hS.fb
  have cuu0 : u1.cell? ⟨w.heap.size, 0, none⟩ = some (.int .i64 (v1 : Int)) := by rw [blk_cell huu]; rfl
  have cuu1 : u1.cell? ⟨w.heap.size, 1, none⟩ = some (.int .i64 (v2 : Int)) := by rw [blk_cell huu]; rfl
  have cuu2 : u1.cell? ⟨w.heap.size, 2, none⟩ = some (.slice aT trail.length cT) := by rw [blk_cell huu]; rfl
  have cuu3 : u1.cell? ⟨w.heap.size, 3, none⟩ = some (.int .i64 (conf : Int)) := by rw [blk_cell huu]; rfl
  have luu := blk_lt huu
  have crs0 : u1.cell? ⟨w.heap.size + 1, 0, none⟩ = some (.int .i64 0) := by rw [blk_cell hrs]; rfl
  have crs1 : u1.cell? ⟨w.heap.size + 1, 1, none⟩ = some (.int .i64 0) := by rw [blk_cell hrs]; rfl
  have lrs := blk_lt hrs
  have hT1 := own_below hT hb0
  go_wp2_with fail
  go_loopg [5, 6] (trail.length + 1) (fun m sv i wx => ∃ (k n : Nat) (p : List Stp) (V' : SV), i = .int .i64 ((k : Int) - 1) ∧ sv = .int .i64 (n : Int) ∧ k + 1 ≤ m ∧ m ≤ k + 1 ∧ k ≤ trail.length ∧ n ≤ 100000 ∧ p.length + k ≤ S.ref.length + trail.length ∧ (∀ s ∈ p, s.lits.1 < 512 ∧ s.lits.2 < 512) ∧ expl trail.reverse S.ref conf = expl (trail.take k).reverse p n ∧ SAt wx b C { S with ref := p } V' ∧ SMoved b u1 wx V V')
  case atStart => exact ⟨trail.length, conf, S.ref, V, by go_num, rfl, by omega, by omega, by omega, hcf, by omega, hB.ref, by rw [List.take_length], hS, SMoved.of_below (Below.refl _ _)⟩
  case round =>
    obtain ⟨k, n, p, V', rfl, rfl, hkm, hkm2, hkl, hn, hpl, hpb, hex, hSr, hMr⟩ := hrel
    have HEX := hide hex
    clear hex
    have hur := hMr.blk huu nuu
    have hrr := hMr.blk hrs nrs
    have nrr := hMr.far lrs nrs
    have nur := hMr.far luu nuu
    have hBr := hB.setRef (p := p) (by omega) hpb
    have lur := blk_lt hur
    have lrr := blk_lt hrr
    have lbr := blk_lt hSr.fb
    have cu2 : wr.cell? ⟨w.heap.size, 2, none⟩ = some (.slice aT trail.length cT) := by rw [blk_cell hur]; rfl
    have cu3 : wr.cell? ⟨w.heap.size, 3, none⟩ = some (.int .i64 (conf : Int)) := by rw [blk_cell hur]; rfl
    cases k with
    | zero =>
      have HE0 : Hid (expl trail.reverse S.ref conf = (p, n)) := hide (by rw [unhide HEX]; rfl)
      replace huu := hur
      replace hrs := hrr
      replace nuu := nur
      replace nrs := nrr
      replace hS := hSr
      replace hM := hM.trans hMr
      replace lb := lbr
      clear hur hrr nur nrr hSr hMr lbr
      replace cuu0 : wr.cell? ⟨w.heap.size, 0, none⟩ = some (.int .i64 (v1 : Int)) := by rw [blk_cell huu]; rfl
      replace cuu1 : wr.cell? ⟨w.heap.size, 1, none⟩ = some (.int .i64 (v2 : Int)) := by rw [blk_cell huu]; rfl
      replace cuu2 : wr.cell? ⟨w.heap.size, 2, none⟩ = some (.slice aT trail.length cT) := by rw [blk_cell huu]; rfl
      replace cuu3 : wr.cell? ⟨w.heap.size, 3, none⟩ = some (.int .i64 (conf : Int)) := by rw [blk_cell huu]; rfl
      replace luu := blk_lt huu
      replace crs0 : wr.cell? ⟨w.heap.size + 1, 0, none⟩ = some (.int .i64 0) := by rw [blk_cell hrs]; rfl
      replace crs1 : wr.cell? ⟨w.heap.size + 1, 1, none⟩ = some (.int .i64 0) := by rw [blk_cell hrs]; rfl
      replace lrs := blk_lt hrs
      go_wp2_with fail
      refine (sreduce_any b C { S with ref := p } V' (1, n) _ hS hBr (Or.inl rfl) (by omega)).mono ?_
      rintro e u2 ⟨rfl, V3, hS2, hM2⟩
      replace huu := hM2.blk huu nuu
      replace nuu := hM2.far luu nuu
      replace hrs := hM2.blk hrs nrs
      replace nrs := hM2.far lrs nrs
      replace hM := hM.trans hM2
      replace hS := hS2
      clear hM2
      replace lb := blk_lt hS.fb
      replace cuu0 : u2.cell? ⟨w.heap.size, 0, none⟩ = some (.int .i64 (v1 : Int)) := by rw [blk_cell huu]; rfl
      replace cuu1 : u2.cell? ⟨w.heap.size, 1, none⟩ = some (.int .i64 (v2 : Int)) := by rw [blk_cell huu]; rfl
      replace cuu2 : u2.cell? ⟨w.heap.size, 2, none⟩ = some (.slice aT trail.length cT) := by rw [blk_cell huu]; rfl
      replace cuu3 : u2.cell? ⟨w.heap.size, 3, none⟩ = some (.int .i64 (conf : Int)) := by rw [blk_cell huu]; rfl
      replace luu := blk_lt huu
      replace crs0 : u2.cell? ⟨w.heap.size + 1, 0, none⟩ = some (.int .i64 0) := by rw [blk_cell hrs]; rfl
      replace crs1 : u2.cell? ⟨w.heap.size + 1, 1, none⟩ = some (.int .i64 0) := by rw [blk_cell hrs]; rfl
      replace lrs := blk_lt hrs
      have hB3 := reduce_bd hBr (Or.inl rfl) n (show p.length ≤ 99999 by omega)
      have HX := hide (explain_as C S ⟨(v1, v2), trail, conf⟩ p n (unhide HE0))
      generalize ({ S with ref := p } : SS).reduce C.q (1, n) = R at *
      obtain ⟨S3, f1, f2⟩ := R
      dsimp only at hS hB3 HX ⊢
      by_cases hnc : n = conf
      · have hq1 : ((n : Int) == (conf : Int)) = true := by rw [beq_iff_eq]; omega
        have hq2 : (n == conf) = true := by rw [beq_iff_eq]; omega
        have z0 := blk_free hrs 0
        have z1 := blk_free hrs 1
        have hR := blk_set (blk_set hrs 0 (.int .i64 (f1 : Int))) 1 (.int .i64 (f2 : Int))
        have hAl : Below ((u2.setCell ⟨w.heap.size + 1, 0, none⟩ (.int .i64 (f1 : Int))).setCell ⟨w.heap.size + 1, 1, none⟩ (.int .i64 (f2 : Int))).heap.size ((u2.setCell ⟨w.heap.size + 1, 0, none⟩ (.int .i64 (f1 : Int))).setCell ⟨w.heap.size + 1, 1, none⟩ (.int .i64 (f2 : Int))) (((u2.setCell ⟨w.heap.size + 1, 0, none⟩ (.int .i64 (f1 : Int))).setCell ⟨w.heap.size + 1, 1, none⟩ (.int .i64 (f2 : Int))).alloc (.cells #[.int .i64 (f1 : Int), .int .i64 (f2 : Int)] 129)) := (Below.refl _ _).alloc (Nat.le_refl _) _
        have hRA := (hAl.block _ (blk_lt hR)).trans hR
        have j0 := blk_cell hRA 0
        have j1 := blk_cell hRA 1
        have j2 := blk_cell hR 0
        have j3 := blk_cell hR 1
        go_wp2_with fail
        refine bodyPost_ret (v := FactV (f1, f2)) (by simp [results, Tryz.results90, go_sem, j0, j1]) rfl ⟨by rw [unhide HX], ?_⟩
        rw [unhide HX, if_neg (fun h => h hnc)]
        exact ⟨V3, ((hS.set nrs 0 _).set nrs 1 _).later hAl, ((hM.set (k := w.heap.size + 1) (by omega) 0 _).set (k := w.heap.size + 1) (by omega) 1 _).trans (SMoved.of_below hAl)⟩
      · have hq1 : ((n : Int) == (conf : Int)) = false := by rw [beq_eq_false_iff_ne]; omega
        have hq2 : (n == conf) = false := by rw [beq_eq_false_iff_ne]; omega
        go_wp2_with fail
        have nfo : Far b V3 u2.heap.size := hS.fresh (Nat.le_refl _)
        generalize hw0 : u2.alloc (.cells #[.int .i64 (f1 : Int), .int .i64 (f2 : Int)] 129) = u3
        have b3 : Below u2.heap.size u2 u3 := by rw [← hw0]; exact (Below.refl _ _).alloc (Nat.le_refl _) _
        have hfo : u3.heap[u2.heap.size]? = some (.cells #[.int .i64 (f1 : Int), .int .i64 (f2 : Int)] 129 (0, 0)) := by rw [← hw0]; exact heap_alloc_new _ _
        clear hw0
        replace hM := hM.trans (SMoved.of_below b3)
        replace hS := hS.later b3
        replace lb := blk_lt hS.fb
        replace huu := (b3.block _ (blk_lt huu)).trans huu
        replace cuu0 : u3.cell? ⟨w.heap.size, 0, none⟩ = some (.int .i64 (v1 : Int)) := by rw [blk_cell huu]; rfl
        replace cuu1 : u3.cell? ⟨w.heap.size, 1, none⟩ = some (.int .i64 (v2 : Int)) := by rw [blk_cell huu]; rfl
        replace cuu2 : u3.cell? ⟨w.heap.size, 2, none⟩ = some (.slice aT trail.length cT) := by rw [blk_cell huu]; rfl
        replace cuu3 : u3.cell? ⟨w.heap.size, 3, none⟩ = some (.int .i64 (conf : Int)) := by rw [blk_cell huu]; rfl
        replace luu := blk_lt huu
        replace hrs := (b3.block _ (blk_lt hrs)).trans hrs
        replace crs0 : u3.cell? ⟨w.heap.size + 1, 0, none⟩ = some (.int .i64 0) := by rw [blk_cell hrs]; rfl
        replace crs1 : u3.cell? ⟨w.heap.size + 1, 1, none⟩ = some (.int .i64 0) := by rw [blk_cell hrs]; rfl
        replace lrs := blk_lt hrs
        have cfo0 : u3.cell? ⟨u2.heap.size, 0, none⟩ = some (.int .i64 (f1 : Int)) := by rw [blk_cell hfo]; rfl
        have cfo1 : u3.cell? ⟨u2.heap.size, 1, none⟩ = some (.int .i64 (f2 : Int)) := by rw [blk_cell hfo]; rfl
        have lfo := blk_lt hfo
        refine (skeep_any b C S3 V3 (f1, f2) _ hS hB3).mono ?_
        rintro e u4 ⟨rfl, V4, hS2, hM2⟩
        replace huu := hM2.blk huu nuu
        replace nuu := hM2.far luu nuu
        replace hrs := hM2.blk hrs nrs
        replace nrs := hM2.far lrs nrs
        replace hfo := hM2.blk hfo nfo
        replace nfo := hM2.far lfo nfo
        replace hM := hM.trans hM2
        replace hS := hS2
        clear hM2
        replace lb := blk_lt hS.fb
        replace cuu0 : u4.cell? ⟨w.heap.size, 0, none⟩ = some (.int .i64 (v1 : Int)) := by rw [blk_cell huu]; rfl
        replace cuu1 : u4.cell? ⟨w.heap.size, 1, none⟩ = some (.int .i64 (v2 : Int)) := by rw [blk_cell huu]; rfl
        replace cuu2 : u4.cell? ⟨w.heap.size, 2, none⟩ = some (.slice aT trail.length cT) := by rw [blk_cell huu]; rfl
        replace cuu3 : u4.cell? ⟨w.heap.size, 3, none⟩ = some (.int .i64 (conf : Int)) := by rw [blk_cell huu]; rfl
        replace luu := blk_lt huu
        replace crs0 : u4.cell? ⟨w.heap.size + 1, 0, none⟩ = some (.int .i64 0) := by rw [blk_cell hrs]; rfl
        replace crs1 : u4.cell? ⟨w.heap.size + 1, 1, none⟩ = some (.int .i64 0) := by rw [blk_cell hrs]; rfl
        replace lrs := blk_lt hrs
        replace cfo0 : u4.cell? ⟨u2.heap.size, 0, none⟩ = some (.int .i64 (f1 : Int)) := by rw [blk_cell hfo]; rfl
        replace cfo1 : u4.cell? ⟨u2.heap.size, 1, none⟩ = some (.int .i64 (f2 : Int)) := by rw [blk_cell hfo]; rfl
        replace lfo := blk_lt hfo
        have z0 := blk_free hrs 0
        have z1 := blk_free hrs 1
        have hR := blk_set (blk_set hrs 0 (.int .i64 (f1 : Int))) 1 (.int .i64 (f2 : Int))
        have j0 := blk_cell hR 0
        have j1 := blk_cell hR 1
        go_wp2_with fail
        refine bodyPost_ret (v := FactV (f1, f2)) (by simp [results, Tryz.results90, go_sem, j0, j1]) rfl ⟨by rw [unhide HX], ?_⟩
        rw [unhide HX, if_pos hnc]
        exact ⟨V4, (hS.set nrs 0 _).set nrs 1 _, (hM.set (k := w.heap.size + 1) (by omega) 0 _).set (k := w.heap.size + 1) (by omega) 1 _⟩
    | succ k =>
      have hlt : k < trail.length := by omega
      have HST := hide (expl_step trail k hlt p n)
      have hlit := unhide HTB _ (List.getElem_mem hlt)
      obtain ⟨g, cap, hVe, _, hg', _, hcell⟩ := own_pos hT1 (by omega)
      injection hVe with hVe _ hV2
      subst hVe hV2
      obtain ⟨e0, e1⟩ := unitCells_at trail k hlt
      have nT : Far b V g := hfar g rfl
      have hgc : ∀ j u, (unitCells trail)[j]? = some u → wr.cell? ⟨g, j, none⟩ = some u := fun j u hj => by
        rw [cell_same (w := u1) (hMr.only.block g hg' nT.ts)]; exact hcell j u hj
      have hx0 := hgc _ _ e0
      have hx1 := hgc _ _ e1
      have hgw : g < wr.heap.size := Nat.lt_of_lt_of_le hg' hMr.only.size
      clear hgc hcell e0 e1
      have hlt9 := litsAt_lt p hpb n
      generalize trail[k] = made at *
      obtain ⟨x, ms⟩ := made
      dsimp only at *
      replace huu := hur
      replace hrs := hrr
      replace nuu := nur
      replace nrs := nrr
      replace hS := hSr
      replace hM := hMr
      replace lb := lbr
      clear hur hrr nur nrr hSr hMr lbr
      replace cuu0 : wr.cell? ⟨w.heap.size, 0, none⟩ = some (.int .i64 (v1 : Int)) := by rw [blk_cell huu]; rfl
      replace cuu1 : wr.cell? ⟨w.heap.size, 1, none⟩ = some (.int .i64 (v2 : Int)) := by rw [blk_cell huu]; rfl
      replace cuu2 : wr.cell? ⟨w.heap.size, 2, none⟩ = some (.slice (some ⟨g, 0, none⟩) trail.length cT) := by rw [blk_cell huu]; rfl
      replace cuu3 : wr.cell? ⟨w.heap.size, 3, none⟩ = some (.int .i64 (conf : Int)) := by rw [blk_cell huu]; rfl
      replace luu := blk_lt huu
      replace crs0 : wr.cell? ⟨w.heap.size + 1, 0, none⟩ = some (.int .i64 0) := by rw [blk_cell hrs]; rfl
      replace crs1 : wr.cell? ⟨w.heap.size + 1, 1, none⟩ = some (.int .i64 0) := by rw [blk_cell hrs]; rfl
      replace lrs := blk_lt hrs
      go_wp2_with fail
      have nmd : Far b V' wr.heap.size := hS.fresh (Nat.le_refl _)
      generalize hw0 : wr.alloc (.cells #[.int .i64 x, .int .i64 (ms : Int)] 177) = u2
      have b2 : Below wr.heap.size wr u2 := by rw [← hw0]; exact (Below.refl _ _).alloc (Nat.le_refl _) _
      have hmd : u2.heap[wr.heap.size]? = some (.cells #[.int .i64 x, .int .i64 (ms : Int)] 177 (0, 0)) := by rw [← hw0]; exact heap_alloc_new _ _
      clear hw0
      replace hM := hM.trans (SMoved.of_below b2)
      replace hS := hS.later b2
      replace lb := blk_lt hS.fb
      replace huu := (b2.block _ (blk_lt huu)).trans huu
      replace cuu0 : u2.cell? ⟨w.heap.size, 0, none⟩ = some (.int .i64 (v1 : Int)) := by rw [blk_cell huu]; rfl
      replace cuu1 : u2.cell? ⟨w.heap.size, 1, none⟩ = some (.int .i64 (v2 : Int)) := by rw [blk_cell huu]; rfl
      replace cuu2 : u2.cell? ⟨w.heap.size, 2, none⟩ = some (.slice (some ⟨g, 0, none⟩) trail.length cT) := by rw [blk_cell huu]; rfl
      replace cuu3 : u2.cell? ⟨w.heap.size, 3, none⟩ = some (.int .i64 (conf : Int)) := by rw [blk_cell huu]; rfl
      replace luu := blk_lt huu
      replace hrs := (b2.block _ (blk_lt hrs)).trans hrs
      replace crs0 : u2.cell? ⟨w.heap.size + 1, 0, none⟩ = some (.int .i64 0) := by rw [blk_cell hrs]; rfl
      replace crs1 : u2.cell? ⟨w.heap.size + 1, 1, none⟩ = some (.int .i64 0) := by rw [blk_cell hrs]; rfl
      replace lrs := blk_lt hrs
      have cmd0 : u2.cell? ⟨wr.heap.size, 0, none⟩ = some (.int .i64 x) := by rw [blk_cell hmd]; rfl
      have cmd1 : u2.cell? ⟨wr.heap.size, 1, none⟩ = some (.int .i64 (ms : Int)) := by rw [blk_cell hmd]; rfl
      have lmd := blk_lt hmd
      have c7 : u2.cell? ⟨b, 7, none⟩ = some V'.r := by rw [blk_cell hS.fb]; rfl
      refine (plits_any _ b 6 p V'.r n _ c7 hS.oR (by omega)).mono ?_
      rintro e u3 ⟨rfl, b3⟩
      replace hM := hM.trans (SMoved.of_below b3)
      replace hS := hS.later b3
      replace lb := blk_lt hS.fb
      replace huu := (b3.block _ (blk_lt huu)).trans huu
      replace cuu0 : u3.cell? ⟨w.heap.size, 0, none⟩ = some (.int .i64 (v1 : Int)) := by rw [blk_cell huu]; rfl
      replace cuu1 : u3.cell? ⟨w.heap.size, 1, none⟩ = some (.int .i64 (v2 : Int)) := by rw [blk_cell huu]; rfl
      replace cuu2 : u3.cell? ⟨w.heap.size, 2, none⟩ = some (.slice (some ⟨g, 0, none⟩) trail.length cT) := by rw [blk_cell huu]; rfl
      replace cuu3 : u3.cell? ⟨w.heap.size, 3, none⟩ = some (.int .i64 (conf : Int)) := by rw [blk_cell huu]; rfl
      replace luu := blk_lt huu
      replace hrs := (b3.block _ (blk_lt hrs)).trans hrs
      replace crs0 : u3.cell? ⟨w.heap.size + 1, 0, none⟩ = some (.int .i64 0) := by rw [blk_cell hrs]; rfl
      replace crs1 : u3.cell? ⟨w.heap.size + 1, 1, none⟩ = some (.int .i64 0) := by rw [blk_cell hrs]; rfl
      replace lrs := blk_lt hrs
      replace hmd := (b3.block _ (blk_lt hmd)).trans hmd
      replace cmd0 : u3.cell? ⟨wr.heap.size, 0, none⟩ = some (.int .i64 x) := by rw [blk_cell hmd]; rfl
      replace cmd1 : u3.cell? ⟨wr.heap.size, 1, none⟩ = some (.int .i64 (ms : Int)) := by rw [blk_cell hmd]; rfl
      replace lmd := blk_lt hmd
      clear c7
      generalize litsAt p n = cl at *
      obtain ⟨l1, l2⟩ := cl
      dsimp only at hlt9
      go_wp2_with fail
      have ncl : Far b V' u3.heap.size := hS.fresh (Nat.le_refl _)
      generalize hw0 : u3.alloc (.cells #[.int .i64 (l1 : Int), .int .i64 (l2 : Int)] 74) = u4
      have b4 : Below u3.heap.size u3 u4 := by rw [← hw0]; exact (Below.refl _ _).alloc (Nat.le_refl _) _
      have hcl : u4.heap[u3.heap.size]? = some (.cells #[.int .i64 (l1 : Int), .int .i64 (l2 : Int)] 74 (0, 0)) := by rw [← hw0]; exact heap_alloc_new _ _
      clear hw0
      replace hM := hM.trans (SMoved.of_below b4)
      replace hS := hS.later b4
      replace lb := blk_lt hS.fb
      replace huu := (b4.block _ (blk_lt huu)).trans huu
      replace cuu0 : u4.cell? ⟨w.heap.size, 0, none⟩ = some (.int .i64 (v1 : Int)) := by rw [blk_cell huu]; rfl
      replace cuu1 : u4.cell? ⟨w.heap.size, 1, none⟩ = some (.int .i64 (v2 : Int)) := by rw [blk_cell huu]; rfl
      replace cuu2 : u4.cell? ⟨w.heap.size, 2, none⟩ = some (.slice (some ⟨g, 0, none⟩) trail.length cT) := by rw [blk_cell huu]; rfl
      replace cuu3 : u4.cell? ⟨w.heap.size, 3, none⟩ = some (.int .i64 (conf : Int)) := by rw [blk_cell huu]; rfl
      replace luu := blk_lt huu
      replace hrs := (b4.block _ (blk_lt hrs)).trans hrs
      replace crs0 : u4.cell? ⟨w.heap.size + 1, 0, none⟩ = some (.int .i64 0) := by rw [blk_cell hrs]; rfl
      replace crs1 : u4.cell? ⟨w.heap.size + 1, 1, none⟩ = some (.int .i64 0) := by rw [blk_cell hrs]; rfl
      replace lrs := blk_lt hrs
      replace hmd := (b4.block _ (blk_lt hmd)).trans hmd
      replace cmd0 : u4.cell? ⟨wr.heap.size, 0, none⟩ = some (.int .i64 x) := by rw [blk_cell hmd]; rfl
      replace cmd1 : u4.cell? ⟨wr.heap.size, 1, none⟩ = some (.int .i64 (ms : Int)) := by rw [blk_cell hmd]; rfl
      replace lmd := blk_lt hmd
      have ccl0 : u4.cell? ⟨u3.heap.size, 0, none⟩ = some (.int .i64 (l1 : Int)) := by rw [blk_cell hcl]; rfl
      have ccl1 : u4.cell? ⟨u3.heap.size, 1, none⟩ = some (.int .i64 (l2 : Int)) := by rw [blk_cell hcl]; rfl
      have lcl := blk_lt hcl
      refine (has_any l1 l2 (-x) _ hlt9.1 hlt9.2 (by omega) (by omega)).mono ?_
      rintro e u5 ⟨rfl, b5⟩
      replace hM := hM.trans (SMoved.of_below b5)
      replace hS := hS.later b5
      replace lb := blk_lt hS.fb
      replace huu := (b5.block _ (blk_lt huu)).trans huu
      replace cuu0 : u5.cell? ⟨w.heap.size, 0, none⟩ = some (.int .i64 (v1 : Int)) := by rw [blk_cell huu]; rfl
      replace cuu1 : u5.cell? ⟨w.heap.size, 1, none⟩ = some (.int .i64 (v2 : Int)) := by rw [blk_cell huu]; rfl
      replace cuu2 : u5.cell? ⟨w.heap.size, 2, none⟩ = some (.slice (some ⟨g, 0, none⟩) trail.length cT) := by rw [blk_cell huu]; rfl
      replace cuu3 : u5.cell? ⟨w.heap.size, 3, none⟩ = some (.int .i64 (conf : Int)) := by rw [blk_cell huu]; rfl
      replace luu := blk_lt huu
      replace hrs := (b5.block _ (blk_lt hrs)).trans hrs
      replace crs0 : u5.cell? ⟨w.heap.size + 1, 0, none⟩ = some (.int .i64 0) := by rw [blk_cell hrs]; rfl
      replace crs1 : u5.cell? ⟨w.heap.size + 1, 1, none⟩ = some (.int .i64 0) := by rw [blk_cell hrs]; rfl
      replace lrs := blk_lt hrs
      replace hmd := (b5.block _ (blk_lt hmd)).trans hmd
      replace cmd0 : u5.cell? ⟨wr.heap.size, 0, none⟩ = some (.int .i64 x) := by rw [blk_cell hmd]; rfl
      replace cmd1 : u5.cell? ⟨wr.heap.size, 1, none⟩ = some (.int .i64 (ms : Int)) := by rw [blk_cell hmd]; rfl
      replace lmd := blk_lt hmd
      replace hcl := (b5.block _ (blk_lt hcl)).trans hcl
      replace ccl0 : u5.cell? ⟨u3.heap.size, 0, none⟩ = some (.int .i64 (l1 : Int)) := by rw [blk_cell hcl]; rfl
      replace ccl1 : u5.cell? ⟨u3.heap.size, 1, none⟩ = some (.int .i64 (l2 : Int)) := by rw [blk_cell hcl]; rfl
      replace lcl := blk_lt hcl
      cases hhl : hasLit (l1, l2) (-x) with
      | false =>
        have HF : Hid (expl trail.reverse S.ref conf = expl (trail.take k).reverse p n) := hide (by rw [unhide HEX, unhide HST, hhl]; rfl)
        clear hhl
        go_wp2_with fail
        go_roundg (gk - 1)
        case measure => omega
        case rel => exact ⟨k, n, p, V', by go_num, rfl, by omega, by omega, by omega, hn, by omega, hpb, unhide HF, hS, hM⟩
      | true =>
        have HST2 : Hid (expl trail.reverse S.ref conf = expl (trail.take k).reverse (resP p ms n x.natAbs).1 (resP p ms n x.natAbs).2) := hide (by rw [unhide HEX, unhide HST, hhl]; rfl)
        clear hhl
        go_wp2_with fail
        refine (varOf_any x _ (by omega) (by omega)).mono ?_
        rintro e w8 ⟨rfl, hw8⟩
        rw [hw8]
        clear hw8 w8
        go_wp2_with fail
        have hDr : Below u5.heap.size u5 u5.drew := (Below.refl _ _).drew
        have hSd := hS.later hDr
        have hMd := hM.trans (SMoved.of_below hDr)
        go_region_with (go_at_call 113; refine (presolve_any b 6 _ _ p _ 1 ms n x.natAbs _ (hSd.pat (Or.inl rfl)) (by omega) hpb (by omega)).mono ?_; rintro e u9 ⟨rfl, hgo⟩; obtain ⟨V2, hS2, hM2⟩ := hSd.put (Or.inl rfl) hgo; clear hgo)
        all_goals
          have hrb := resP_bd p ms n x.natAbs hpb
          generalize resP p ms n x.natAbs = R at *
          obtain ⟨q, rn⟩ := R
          dsimp only at hrb HST2 hS2 ⊢
          obtain ⟨hr1, hr2, hr3⟩ := hrb
          have HR3 : Hid (rn ≤ 100000 ∧ q.length + k ≤ S.ref.length + trail.length) := hide ⟨by omega, by omega⟩
          clear hr2 hr3
          go_wp2_with fail
          go_roundg (gk - 1)
          case measure => omega
          case rel => exact ⟨k, rn, q, V2, by go_num, rfl, by omega, by omega, by omega, (unhide HR3).1, (unhide HR3).2, hr1, unhide HST2, hS2, hMd.trans hM2⟩
end Go.Proofs.YtgipjjhkhfihpaaGreatDoor

namespace Go.Proofs.YtgipjjhkhfihpaaGreatDoor
open Go.RowKit

/-! ### Steps that are made well -/
structure QGood (q : QS) : Prop where
  qb : QB q
  nodup : (q.vars.map (·.1)).Nodup
  vars : ∀ c ∈ q.cl, ∀ s v, L c s v = true → v ∈ q.vars.map (·.1)
structure LOk (q : QS) (c : Nat × Nat) : Prop where
  bd : Bd c
  vars : ∀ s v, L c s v = true → v ∈ q.vars.map (·.1)
theorem lok_zero (q : QS) : LOk q (0, 0) := ⟨⟨by decide, by decide⟩, fun s v h => by rw [L_zero] at h; cases h⟩
theorem QGood.name {q : QS} (hq : QGood q) {v : Nat} (h : v ∈ q.vars.map (·.1)) : 1 ≤ v ∧ v ≤ 8 := by
  obtain ⟨x, hx, rfl⟩ := List.mem_map.1 h
  exact hq.qb.names x hx
def StOk (q : QS) (k : Nat) (p : List Stp) (s : Stp) : Prop :=
  LOk q s.lits ∧ (
  (s.rule = 1 ∧ k = 1 ∧ 1 ≤ s.first ∧ s.first ≤ q.cl.length ∧ s.second = 0 ∧ s.lits = q.cl.getD (s.first - 1) (0, 0)) ∨
  (s.rule = 2 ∧ k = 2 ∧ s.first = 0 ∧ s.second = 0 ∧ Free s.lits ∧ satQ q.cl s.lits = true) ∨
  (s.rule = 3 ∧ (1 ≤ s.first ∧ s.first ≤ p.length) ∧ (1 ≤ s.second ∧ s.second ≤ p.length) ∧ (∃ x ∈ q.vars, x.1 = s.var ∧ pivotB k x.2 = true) ∧ L (litsAt p s.first) true s.var = true ∧ L (litsAt p s.second) false s.var = true ∧ Free (litsAt p s.first) ∧ Free (litsAt p s.second) ∧ Free s.lits ∧ s.lits = without2 (litsAt p s.first) (litsAt p s.second) s.var) ∨
  (s.rule = 4 ∧ (1 ≤ s.first ∧ s.first ≤ p.length) ∧ s.second = 0 ∧ Free (litsAt p s.first) ∧ s.lits = redQ k q.vars.reverse (litsAt p s.first)))
def POk (q : QS) (k : Nat) (p : List Stp) : Prop := ∀ i (h : i < p.length), StOk q k (p.take i) p[i]
theorem pok_nil (q : QS) (k : Nat) : POk q k [] := fun i h => by simp at h
theorem POk.snoc {q : QS} {k : Nat} {p : List Stp} {s : Stp} (h : POk q k p) (hs : StOk q k p s) : POk q k (p ++ [s]) := by
  intro i hi
  by_cases e : i < p.length
  · rw [List.take_append_of_le_length (Nat.le_of_lt e), List.getElem_append_left e]
    exact h i e
  · have e2 : i = p.length := by simp at hi; omega
    subst e2
    rw [List.take_append_of_le_length (Nat.le_refl _), List.take_length]
    simpa using hs
theorem litsAt_append (p x : List Stp) (n : Nat) (h : n ≤ p.length) : litsAt (p ++ x) n = litsAt p n := by
  unfold litsAt
  split
  · rfl
  · rw [List.getElem?_append_left (by omega)]
theorem litsAt_new (p : List Stp) (s : Stp) : litsAt (p ++ [s]) (p.length + 1) = s.lits := by
  rw [litsAt_in _ _ (by simp)]; simp
theorem POk.lok {q : QS} {k : Nat} {p : List Stp} (h : POk q k p) (n : Nat) : LOk q (litsAt p n) := by
  by_cases hn : 1 ≤ n ∧ n ≤ p.length
  · obtain ⟨m, rfl⟩ : ∃ m, n = m + 1 := ⟨n - 1, by omega⟩
    rw [litsAt_in p m (by omega)]
    exact (h m (by omega)).1
  · rw [litsAt_out p n (by omega)]; exact lok_zero q
theorem lok_sub {q : QS} {c d : Nat × Nat} (h : LOk q c) (hb : Bd d) (hs : ∀ s v, L d s v = true → L c s v = true) : LOk q d := ⟨hb, fun s v hv => h.vars s v (hs s v hv)⟩

/-! ### Reduction -/
section
variable {q : QS} (hq : QGood q)
include hq
theorem var_ok (i : Nat) (hi : i < q.vars.length) : 1 ≤ q.vars[i].1 ∧ q.vars[i].1 ≤ 8 := hq.qb.names _ (List.getElem_mem hi)
theorem redQ_sub (k : Nat) : ∀ (n : Nat), n ≤ q.vars.length → ∀ c s v, L (redQ k (q.vars.take n).reverse c) s v = true → L c s v = true := by
  intro n
  induction n with
  | zero => intro _ c s v h; simpa [redQ] using h
  | succ n ih =>
    intro hn c s v h
    have hv := var_ok hq n (by omega)
    rw [redQ_step k q.vars n (by omega)] at h
    split at h
    · split at h
      · exact h
      · have := ih (by omega) _ s v h
        rw [L_without _ _ hv.1 hv.2, Bool.and_eq_true] at this
        exact this.1
    · exact ih (by omega) _ s v h
theorem red_sub (k : Nat) (c : Nat × Nat) (s : Bool) (v : Nat) (h : L (redQ k q.vars.reverse c) s v = true) : L c s v = true := by
  have := redQ_sub hq k q.vars.length (Nat.le_refl _) c s v
  rw [List.take_length] at this
  exact this h
theorem redQ_idem (k : Nat) : ∀ (n : Nat), n ≤ q.vars.length → ∀ c, redQ k (q.vars.take n).reverse (redQ k (q.vars.take n).reverse c) = redQ k (q.vars.take n).reverse c := by
  intro n
  induction n with
  | zero => intro _ c; rfl
  | succ n ih =>
    intro hn c
    have hv := var_ok hq n (by omega)
    have hno : ∀ d, hasVarB d q.vars[n].1 = false → redQ k (q.vars.take (n + 1)).reverse (redQ k (q.vars.take n).reverse d) = redQ k (q.vars.take n).reverse d := by
      intro d hd
      have h2 : hasVarB (redQ k (q.vars.take n).reverse d) q.vars[n].1 = false := by
        rw [hasVar_L _ _ hv.1 hv.2, Bool.or_eq_false_iff] at hd ⊢
        constructor
        · cases h : L (redQ k (q.vars.take n).reverse d) true q.vars[n].1 with
          | false => rfl
          | true => rw [redQ_sub hq k n (by omega) d true _ h] at hd; exact absurd hd.1 (by simp)
        · cases h : L (redQ k (q.vars.take n).reverse d) false q.vars[n].1 with
          | false => rfl
          | true => rw [redQ_sub hq k n (by omega) d false _ h] at hd; exact absurd hd.2 (by simp)
      rw [redQ_step k q.vars n (by omega), h2, if_neg (by decide)]
      exact ih (by omega) d
    conv => lhs; rw [redQ_step k q.vars n (by omega) c]
    conv => rhs; rw [redQ_step k q.vars n (by omega) c]
    cases h1 : hasVarB c q.vars[n].1 with
    | false => simp only [Bool.false_eq_true, if_false]; exact hno c h1
    | true =>
      simp only [if_true]
      cases h2 : pivotB k q.vars[n].2 with
      | true =>
        simp only [if_true]
        rw [redQ_step k q.vars n (by omega) c, h1, h2]; rfl
      | false =>
        simp only [Bool.false_eq_true, if_false]
        apply hno
        rw [hasVar_L _ _ hv.1 hv.2, L_without _ _ hv.1 hv.2, L_without _ _ hv.1 hv.2]
        simp
theorem red_idem (k : Nat) (c : Nat × Nat) : redQ k q.vars.reverse (redQ k q.vars.reverse c) = redQ k q.vars.reverse c := by
  have := redQ_idem hq k q.vars.length (Nat.le_refl _) c
  rwa [List.take_length] at this
/-- What lies further in than d goes, if none of it could be a pivot. -/
theorem redQ_gone (k d : Nat) : ∀ (n : Nat), n ≤ q.vars.length → ∀ c, (∀ i (hi : i < q.vars.length), d ≤ i → i < n → ∀ s, L c s q.vars[i].1 = true → pivotB k q.vars[i].2 = false) → ∀ i (hi : i < q.vars.length), d ≤ i → i < n → ∀ s, L (redQ k (q.vars.take n).reverse c) s q.vars[i].1 = false := by
  intro n
  induction n with
  | zero => intro _ c _ i _ _ h; omega
  | succ n ih =>
    intro hn c hp i hi hd hin s
    have hv := var_ok hq n (by omega)
    rw [redQ_step k q.vars n (by omega)]
    cases h1 : hasVarB c q.vars[n].1 with
    | false =>
      simp only [Bool.false_eq_true, if_false]
      by_cases e : i = n
      · subst e
        rw [hasVar_L _ _ hv.1 hv.2, Bool.or_eq_false_iff] at h1
        cases h : L (redQ k (q.vars.take i).reverse c) s q.vars[i].1 with
        | false => rfl
        | true =>
          have := redQ_sub hq k i (by omega) c s _ h
          cases s
          · rw [h1.2] at this; cases this
          · rw [h1.1] at this; cases this
      · exact ih (by omega) c (fun j hj h2 h3 => hp j hj h2 (by omega)) i hi hd (by omega) s
    | true =>
      simp only [if_true]
      have hpf : pivotB k q.vars[n].2 = false := by
        rw [hasVar_L _ _ hv.1 hv.2, Bool.or_eq_true] at h1
        rcases h1 with h1 | h1
        · exact hp n (by omega) (by omega) (by omega) true h1
        · exact hp n (by omega) (by omega) (by omega) false h1
      rw [hpf]
      simp only [Bool.false_eq_true, if_false]
      by_cases e : i = n
      · subst e
        cases h : L (redQ k (q.vars.take i).reverse (without c q.vars[i].1)) s q.vars[i].1 with
        | false => rfl
        | true =>
          have := redQ_sub hq k i (by omega) _ s _ h
          rw [L_without _ _ hv.1 hv.2] at this
          simp at this
      · refine ih (by omega) _ (fun j hj h2 h3 t ht => ?_) i hi hd (by omega) s
        rw [L_without _ _ hv.1 hv.2, Bool.and_eq_true] at ht
        exact hp j hj h2 (by omega) t ht.1
/-- The innermost variable of what is reduced is a pivot. -/
theorem red_pivot (k d : Nat) (hd : d < q.vars.length) (c : Nat × Nat) (hr : redQ k q.vars.reverse c = c) (hin : ∀ i (hi : i < q.vars.length), d < i → ∀ s, L c s q.vars[i].1 = false) (hh : hasVarB c q.vars[d].1 = true) : pivotB k q.vars[d].2 = true := by
  have key : ∀ n, d + 1 ≤ n → n ≤ q.vars.length → redQ k (q.vars.take n).reverse c = redQ k (q.vars.take (d + 1)).reverse c := by
    intro n
    induction n with
    | zero => intro h; omega
    | succ n ih =>
      intro h1 h2
      by_cases e : n = d
      · subst e; rfl
      · have hv := var_ok hq n (by omega)
        rw [redQ_step k q.vars n (by omega), show hasVarB c q.vars[n].1 = false from by
          rw [hasVar_L _ _ hv.1 hv.2, hin n (by omega) (by omega) true, hin n (by omega) (by omega) false]; rfl]
        simp only [Bool.false_eq_true, if_false]
        exact ih (by omega) (by omega)
  have h1 := key q.vars.length (by omega) (Nat.le_refl _)
  rw [List.take_length, hr, redQ_step k q.vars d hd, hh] at h1
  simp only [if_true] at h1
  cases hp : pivotB k q.vars[d].2 with
  | true => rfl
  | false =>
    rw [hp] at h1
    simp only [Bool.false_eq_true, if_false] at h1
    have hv := var_ok hq d hd
    rw [hasVar_L _ _ hv.1 hv.2, Bool.or_eq_true] at hh
    exfalso
    rcases hh with hh | hh
    · rw [h1] at hh
      have := redQ_sub hq k d (by omega) _ true _ hh
      rw [L_without _ _ hv.1 hv.2] at this
      simp at this
    · rw [h1] at hh
      have := redQ_sub hq k d (by omega) _ false _ hh
      rw [L_without _ _ hv.1 hv.2] at this
      simp at this
omit hq in
theorem redQ_bd (k : Nat) (c : Nat × Nat) (h : Bd c) : Bd (redQ k q.vars.reverse c) := redQ_lt k _ c h
/-- The reduct, added if it is another. -/
theorem redP_ok (k : Nat) (p : List Stp) (n : Nat) (hp : POk q k p) (h1 : 1 ≤ n) (hn : n ≤ p.length) (hf : Free (litsAt p n)) :
    POk q k (redP q k p n).1 ∧ (∃ x, (redP q k p n).1 = p ++ x ∧ x.length ≤ 1 ∧ ∀ s ∈ x, s.rule ≠ 3) ∧ 1 ≤ (redP q k p n).2 ∧ (redP q k p n).2 ≤ (redP q k p n).1.length ∧ litsAt (redP q k p n).1 (redP q k p n).2 = redQ k q.vars.reverse (litsAt p n) := by
  unfold redP
  split
  · next h => exact ⟨hp, ⟨[], by simp, by simp, by simp⟩, h1, hn, h.symm⟩
  · have hl := hp.lok n
    refine ⟨hp.snoc ⟨lok_sub hl (redQ_bd k _ hl.bd) (fun s v => red_sub hq k _ s v), Or.inr (Or.inr (Or.inr ⟨rfl, ⟨h1, hn⟩, rfl, hf, rfl⟩))⟩, ⟨_, rfl, by simp, by simp⟩, by simp, by simp, litsAt_new _ _⟩
end
end Go.Proofs.YtgipjjhkhfihpaaGreatDoor

namespace Go.Proofs.YtgipjjhkhfihpaaGreatDoor
open Go.RowKit

/-! ### What holds while nodes are looked at -/
def UniOk (q : QS) (uni : Nat × Nat) : Prop := ∀ s v, L uni s v = true ↔ ∃ x ∈ q.vars, x.1 = v ∧ x.2 = true
structure FactIn (q : QS) (S : SS) (f : Nat × Nat) : Prop where
  kind : f.1 = 1 ∨ f.1 = 2
  lo : 1 ≤ f.2
  hi : f.2 ≤ (S.proof f.1).length
  free : Free (S.lits f)
  red : redQ f.1 q.vars.reverse (S.lits f) = S.lits f
structure SInv (C : SC) (S : SS) : Prop where
  ref : POk C.q 1 S.ref
  len : C.q.cl.length ≤ S.ref.length
  ax : ∀ i (h : i < C.q.cl.length), litsAt S.ref (i + 1) = C.q.cl[i]
  aff : POk C.q 2 S.aff
  kept : ∀ f ∈ S.kept, FactIn C.q S f
  room : S.kept.length ≤ C.room
  most : S.most ≤ C.room
/-- Proofs that only grew. -/
structure Ext (S T : SS) : Prop where
  ref : ∃ x, T.ref = S.ref ++ x
  aff : ∃ x, T.aff = S.aff ++ x
theorem Ext.refl (S : SS) : Ext S S := ⟨⟨[], by simp⟩, ⟨[], by simp⟩⟩
theorem Ext.trans {S T U : SS} (h : Ext S T) (k : Ext T U) : Ext S U := by
  obtain ⟨⟨a, ha⟩, ⟨b, hb⟩⟩ := h
  obtain ⟨⟨c, hc⟩, ⟨d, hd⟩⟩ := k
  exact ⟨⟨a ++ c, by rw [hc, ha, List.append_assoc]⟩, ⟨b ++ d, by rw [hd, hb, List.append_assoc]⟩⟩
theorem Ext.proof {S T : SS} (h : Ext S T) (k : Nat) : ∃ x, T.proof k = S.proof k ++ x := by
  unfold SS.proof; split
  · exact h.aff
  · exact h.ref
theorem Ext.lits {S T : SS} (h : Ext S T) {f : Nat × Nat} (hf : f.2 ≤ (S.proof f.1).length) : T.lits f = S.lits f := by
  obtain ⟨x, hx⟩ := h.proof f.1
  unfold SS.lits; rw [hx, litsAt_append _ _ _ hf]
theorem FactIn.ext {q : QS} {S T : SS} {f : Nat × Nat} (h : FactIn q S f) (he : Ext S T) : FactIn q T f := by
  obtain ⟨x, hx⟩ := he.proof f.1
  have hl := he.lits h.hi
  exact ⟨h.kind, h.lo, by rw [hx, List.length_append]; have := h.hi; omega, by rw [hl]; exact h.free, by rw [hl]; exact h.red⟩
def OnPath (k : Nat) (path c : Nat × Nat) : Prop := ∀ s v, L c s v = true → L path (s == (k == 2)) v = true
structure PathAt (q : QS) (d : Nat) (path : Nat × Nat) : Prop where
  free : Free path
  bd : Bd path
  inn : ∀ s v, L path s v = true → ∃ i, ∃ h : i < q.vars.length, i < d ∧ q.vars[i].1 = v
  all : ∀ i (h : i < q.vars.length), i < d → ∃ s, L path s q.vars[i].1 = true
theorem path_zero (q : QS) : PathAt q 0 (0, 0) :=
  ⟨fun v h => (by rw [L_zero] at h; cases h), ⟨by decide, by decide⟩, fun s v h => (by rw [L_zero] at h; cases h), fun i _ h => (by omega)⟩
theorem PathAt.lok {q : QS} {d : Nat} {path : Nat × Nat} (h : PathAt q d path) : LOk q path :=
  ⟨h.bd, fun s v hv => by obtain ⟨i, hi, _, rfl⟩ := h.inn s v hv; exact List.mem_map_of_mem (List.getElem_mem hi)⟩
theorem index_inj {q : QS} (hq : QGood q) {i j : Nat} (hi : i < q.vars.length) (hj : j < q.vars.length) (h : q.vars[i].1 = q.vars[j].1) : i = j := by
  have hn := hq.nodup
  rw [List.nodup_iff_pairwise_ne, List.pairwise_iff_getElem] at hn
  rcases Nat.lt_trichotomy i j with h1 | h1 | h1
  · exact (hn i j (by simpa using hi) (by simpa using hj) h1 (by simpa using h)).elim
  · exact h1
  · exact (hn j i (by simpa using hj) (by simpa using hi) h1 (by simpa using h.symm)).elim
theorem PathAt.off {q : QS} (hq : QGood q) {d : Nat} {path : Nat × Nat} (h : PathAt q d path) {i : Nat} (hi : i < q.vars.length) (hd : d ≤ i) (s : Bool) : L path s q.vars[i].1 = false := by
  cases hh : L path s q.vars[i].1 with
  | false => rfl
  | true =>
    obtain ⟨j, hj, hjd, he⟩ := h.inn s _ hh
    have := index_inj hq hj hi he
    omega
theorem with_bd (c : Nat × Nat) (x : Int) (h : Bd c) : Bd (withLit c x) := by
  unfold withLit; split
  · exact ⟨h.1, or_lt _ _ h.2 (bitOf_lt _)⟩
  · exact ⟨or_lt _ _ h.1 (bitOf_lt _), h.2⟩
theorem with_free {c : Nat × Nat} {v : Nat} {s : Bool} (h1 : 1 ≤ v) (h8 : v ≤ 8) (h : Free c) (hn : L c (!s) v = false) : Free (withLit c (litI v s)) := by
  intro u a b
  rw [L_with c v s h1 h8] at a b
  rw [Bool.or_eq_true, Bool.and_eq_true] at a b
  rcases a with a | ⟨a1, a2⟩
  · rcases b with b | ⟨b1, b2⟩
    · exact h u a b
    · have e : u = v := of_decide_eq_true b2
      subst e
      cases s
      · simp only [Bool.not_false] at hn; rw [hn] at a; cases a
      · cases b1
  · have e : u = v := of_decide_eq_true a2
    subst e
    rcases b with b | ⟨b1, b2⟩
    · cases s
      · cases a1
      · simp only [Bool.not_true] at hn; rw [hn] at b; cases b
    · cases s
      · cases a1
      · cases b1
theorem PathAt.next {q : QS} (hq : QGood q) {d : Nat} {path : Nat × Nat} (h : PathAt q d path) (hd : d < q.vars.length) (s : Bool) : PathAt q (d + 1) (withLit path (litI q.vars[d].1 s)) := by
  have hv := var_ok hq d hd
  refine ⟨with_free hv.1 hv.2 h.free (h.off hq hd (Nat.le_refl _) _), with_bd _ _ h.bd, fun t v ht => ?_, fun i hi hid => ?_⟩
  · rw [L_with _ _ _ hv.1 hv.2, Bool.or_eq_true, Bool.and_eq_true] at ht
    rcases ht with ht | ⟨_, ht⟩
    · obtain ⟨i, hi, hid, he⟩ := h.inn t v ht
      exact ⟨i, hi, by omega, he⟩
    · exact ⟨d, hd, by omega, (of_decide_eq_true ht).symm⟩
  · by_cases e : i = d
    · subst e
      exact ⟨s, by rw [L_with _ _ _ hv.1 hv.2]; simp⟩
    · obtain ⟨t, ht⟩ := h.all i hi (by omega)
      exact ⟨t, by rw [L_with _ _ _ hv.1 hv.2, ht]; rfl⟩

/-! ### Keeping -/
theorem storeK_mem {room : Nat} {kept : List (Nat × Nat)} {f g : Nat × Nat} (h : g ∈ storeK room kept f) : g ∈ kept ∨ g = f := by
  unfold storeK at h
  split at h
  · exact Or.inl h
  · split at h
    · rcases List.mem_append.1 h with h | h
      · exact Or.inl (List.mem_of_mem_drop h)
      · exact Or.inr (by simpa using h)
    · rcases List.mem_append.1 h with h | h
      · exact Or.inl h
      · exact Or.inr (by simpa using h)
theorem storeK_len {room : Nat} {kept : List (Nat × Nat)} {f : Nat × Nat} (h : kept.length ≤ room) : (storeK room kept f).length ≤ room := by
  unfold storeK
  split
  · exact h
  · split
    · simp; omega
    · simp; omega
theorem keep_ref (r : Nat) (S : SS) (f : Nat × Nat) : (S.keep r f).ref = S.ref ∧ (S.keep r f).aff = S.aff ∧ (S.keep r f).nodes = S.nodes := by
  unfold SS.keep; split
  · exact ⟨rfl, rfl, rfl⟩
  · exact ⟨rfl, rfl, rfl⟩
theorem keep_ext (r : Nat) (S : SS) (f : Nat × Nat) : Ext S (S.keep r f) := by
  obtain ⟨h1, h2, _⟩ := keep_ref r S f
  exact ⟨⟨[], by rw [h1]; simp⟩, ⟨[], by rw [h2]; simp⟩⟩
theorem keep_ok {C : SC} {S : SS} {f : Nat × Nat} (h : SInv C S) (hf : FactIn C.q S f) : SInv C (S.keep C.room f) := by
  have he := keep_ext C.room S f
  obtain ⟨h1, h2, _⟩ := keep_ref C.room S f
  have hk : (∀ g ∈ (S.keep C.room f).kept, FactIn C.q S g) ∧ (S.keep C.room f).kept.length ≤ C.room ∧ (S.keep C.room f).most ≤ C.room := by
    unfold SS.keep; split
    · exact ⟨h.kept, h.room, h.most⟩
    · refine ⟨fun g hg => ?_, storeK_len h.room, ?_⟩
      · rcases storeK_mem hg with hg | hg
        · exact h.kept g hg
        · rw [hg]; exact hf
      · have := storeK_len (f := f) h.room
        show storeM _ _ _ _ ≤ _
        unfold storeM
        split
        · exact h.most
        · split
          · exact this
          · exact h.most
  exact ⟨by rw [h1]; exact h.ref, by rw [h1]; exact h.len, fun i hi => by rw [h1]; exact h.ax i hi, by rw [h2]; exact h.aff, fun g hg => (hk.1 g hg).ext he, hk.2.1, hk.2.2⟩
/-- The same with longer proofs. -/
theorem SInv.grow {C : SC} {S : SS} (h : SInv C S) {p : List Stp} (hp : ∃ x, p = S.ref ++ x) (hok : POk C.q 1 p) : SInv C { S with ref := p } := by
  have he : Ext S { S with ref := p } := ⟨hp, ⟨[], by simp⟩⟩
  obtain ⟨x, rfl⟩ := hp
  exact ⟨hok, by have := h.len; simp; omega, fun i hi => by rw [litsAt_append _ _ _ (by have := h.len; omega)]; exact h.ax i hi, h.aff, fun g hg => (h.kept g hg).ext he, h.room, h.most⟩
theorem SInv.growA {C : SC} {S : SS} (h : SInv C S) {p : List Stp} (hp : ∃ x, p = S.aff ++ x) (hok : POk C.q 2 p) : SInv C { S with aff := p } := by
  have he : Ext S { S with aff := p } := ⟨⟨[], by simp⟩, hp⟩
  exact ⟨h.ref, h.len, h.ax, hok, fun g hg => (h.kept g hg).ext he, h.room, h.most⟩
theorem clauses_in {C : SC} {S : SS} (h : SInv C S) {s : Nat} (hs : s ∈ clausesOf C.q S.kept) : 1 ≤ s ∧ s ≤ S.ref.length := by
  unfold clausesOf at hs
  rcases List.mem_append.1 hs with hs | hs
  · obtain ⟨i, hi, rfl⟩ := List.mem_map.1 hs
    have := List.mem_range.1 hi
    have := h.len
    omega
  · obtain ⟨f, hf, rfl⟩ := List.mem_map.1 hs
    rw [List.mem_filter] at hf
    have h1 := h.kept f hf.1
    have h2 : f.1 = 1 := by simpa using hf.2
    refine ⟨h1.lo, ?_⟩
    have := h1.hi
    unfold SS.proof at this
    rwa [h2, if_neg (by decide)] at this

/-! ### Units -/
def UnitAt (q : QS) (ref : List Stp) (cs : List Nat) (pre : Nat × Nat) (t : Int × Nat) : Prop :=
  ∃ v s, t.1 = litI v s ∧ (∃ x ∈ q.vars, x.1 = v ∧ x.2 = false) ∧ L pre true v = false ∧ L pre false v = false ∧ t.2 ∈ cs ∧ Free (litsAt ref t.2) ∧ L (litsAt ref t.2) s v = true ∧ ∀ u r, L (litsAt ref t.2) r u = true → (u = v ∧ r = s) ∨ L pre (!r) u = true
/-- The units, the last one ahead. -/
def TrailR (q : QS) (ref : List Stp) (cs : List Nat) (path : Nat × Nat) : List (Int × Nat) → Nat × Nat → Prop
  | [], vals => vals = path
  | t :: ts, vals => ∃ pre, TrailR q ref cs path ts pre ∧ UnitAt q ref cs pre t ∧ vals = withLit pre t.1
theorem unit_at {q : QS} (hq : QGood q) {uni : Nat × Nat} (hu : UniOk q uni) {ref : List Stp} (hp : POk q 1 ref) {cs : List Nat} {vals : Nat × Nat} (h : (unitOf ref uni cs vals).2 ≠ 0) : UnitAt q ref cs vals (unitOf ref uni cs vals) := by
  unfold unitOf at h ⊢
  cases hf : cs.find? (fun s => isUnit uni vals (litsAt ref s)) with
  | none => rw [hf] at h; exact absurd rfl h
  | some s =>
    have hm := List.mem_of_find?_eq_some hf
    have hi := List.find?_some hf
    simp only at hi ⊢
    unfold isUnit openB at hi
    rw [Bool.and_eq_true, Bool.and_eq_true, Bool.and_eq_true, Bool.not_eq_true', Bool.not_eq_true', Bool.not_eq_true', beq_iff_eq] at hi
    obtain ⟨⟨hme, hcl⟩, hlen, hun⟩ := hi
    obtain ⟨u, t, h1, h8, hhd, hL, hone⟩ := list_one hlen
    have hl := hp.lok s
    rw [L_left, Bool.and_eq_true, Bool.not_eq_true'] at hL
    have hnm : ∀ t v, L (litsAt ref s) t v = true → L vals t v = false := fun t v ht => by
      cases hh : L vals t v with
      | false => rfl
      | true => rw [(meets_iff _ _).2 ⟨t, v, ht, hh⟩] at hme; cases hme
    have hboth : L vals true u = false ∧ L vals false u = false := by
      have a := hL.2
      have b := hnm t u hL.1
      cases t
      · exact ⟨a, b⟩
      · exact ⟨b, a⟩
    obtain ⟨x, hx, hxe⟩ := List.mem_map.1 (hl.vars t u hL.1)
    refine ⟨u, t, hhd, ⟨x, hx, hxe, ?_⟩, hboth.1, hboth.2, hm, (free_iff _).1 hcl, hL.1, fun w r hr => ?_⟩
    · cases hxu : x.2 with
      | false => rfl
      | true =>
        have := (hu t u).2 ⟨x, hx, hxe, hxu⟩
        rw [(meets_iff _ _).2 ⟨t, u, by rw [L_left, hL.1, hL.2]; rfl, this⟩] at hun
        cases hun
    · cases hh : L vals (!r) w with
      | true => exact Or.inr rfl
      | false =>
        have hn := hq.name (hl.vars r w hr)
        have := hone r w hn.1 hn.2 (by rw [L_left, hr, hh]; rfl)
        exact Or.inl this
theorem conf_at {ref : List Stp} {uni : Nat × Nat} {cs : List Nat} {vals : Nat × Nat} (h : confOf ref uni cs vals ≠ 0) : confOf ref uni cs vals ∈ cs ∧ isConf uni vals (litsAt ref (confOf ref uni cs vals)) = true := by
  unfold confOf at h ⊢
  cases hf : cs.find? (fun s => isConf uni vals (litsAt ref s)) with
  | none => rw [hf] at h; exact absurd rfl h
  | some s =>
    have h2 := List.find?_some hf
    exact ⟨List.mem_of_find?_eq_some hf, h2⟩
theorem unitsGo_ok {q : QS} (hq : QGood q) {uni : Nat × Nat} (hu : UniOk q uni) {ref : List Stp} (hp : POk q 1 ref) {cs : List Nat} {path : Nat × Nat} : ∀ (m : Nat) (vals : Nat × Nat) (trail : List (Int × Nat)), TrailR q ref cs path trail.reverse vals →
    TrailR q ref cs path (unitsGo ref uni cs m vals trail).trail.reverse (unitsGo ref uni cs m vals trail).vals ∧ (unitsGo ref uni cs m vals trail).trail.length ≤ trail.length + m ∧
    ((unitsGo ref uni cs m vals trail).conf ≠ 0 → (unitsGo ref uni cs m vals trail).conf ∈ cs ∧ isConf uni (unitsGo ref uni cs m vals trail).vals (litsAt ref (unitsGo ref uni cs m vals trail).conf) = true) := by
  intro m
  induction m with
  | zero => intro vals trail h; exact ⟨h, by simp [unitsGo], fun h => absurd rfl h⟩
  | succ m ih =>
    intro vals trail h
    rw [unitsGo]
    split
    · next hc => exact ⟨h, by simp, fun _ => conf_at hc⟩
    · split
      · exact ⟨h, by simp, fun h => absurd rfl h⟩
      · next hn =>
        have := ih (withLit vals (unitOf ref uni cs vals).1) (trail ++ [unitOf ref uni cs vals]) (by
          rw [List.reverse_append]
          exact ⟨vals, h, unit_at hq hu hp hn, rfl⟩)
        refine ⟨this.1, ?_, this.2.2⟩
        have h2 := this.2.1
        simp at h2
        omega
/-- The values: free, of the formula's variables; beyond the path of existential ones alone. -/
theorem trail_vals {q : QS} (hq : QGood q) {ref : List Stp} {cs : List Nat} {d : Nat} {path : Nat × Nat} (hpa : PathAt q d path) : ∀ (ts : List (Int × Nat)) (vals : Nat × Nat), TrailR q ref cs path ts vals →
    Free vals ∧ LOk q vals ∧ (∀ s v, L path s v = true → L vals s v = true) ∧ (∀ s v, L vals s v = true → L path s v = true ∨ ((∃ x ∈ q.vars, x.1 = v ∧ x.2 = false) ∧ L path true v = false ∧ L path false v = false)) := by
  intro ts
  induction ts with
  | nil => intro vals h; subst h; exact ⟨hpa.free, hpa.lok, fun _ _ h => h, fun _ _ h => Or.inl h⟩
  | cons t ts ih =>
    rintro vals ⟨pre, hpre, ⟨v, s, ht, ⟨x, hx, hxe, hxu⟩, hn1, hn2, _⟩, rfl⟩
    obtain ⟨h1, h2, h3, h4⟩ := ih pre hpre
    have hv := hq.qb.names x hx
    rw [hxe] at hv
    rw [ht]
    refine ⟨with_free hv.1 hv.2 h1 (by cases s <;> assumption), ⟨with_bd _ _ h2.bd, fun r u hr => ?_⟩, fun r u hr => by rw [L_with _ _ _ hv.1 hv.2, h3 r u hr]; rfl, fun r u hr => ?_⟩
    · rw [L_with _ _ _ hv.1 hv.2, Bool.or_eq_true, Bool.and_eq_true] at hr
      rcases hr with hr | ⟨_, hr⟩
      · exact h2.vars r u hr
      · rw [of_decide_eq_true hr, ← hxe]; exact List.mem_map_of_mem hx
    · rw [L_with _ _ _ hv.1 hv.2, Bool.or_eq_true, Bool.and_eq_true] at hr
      rcases hr with hr | ⟨_, hr⟩
      · exact h4 r u hr
      · have e : u = v := of_decide_eq_true hr
        subst e
        refine Or.inr ⟨⟨x, hx, hxe, hxu⟩, ?_, ?_⟩
        · cases hh : L path true u with
          | false => rfl
          | true => rw [h3 _ _ hh] at hn1; cases hn1
        · cases hh : L path false u with
          | false => rfl
          | true => rw [h3 _ _ hh] at hn2; cases hn2
end Go.Proofs.YtgipjjhkhfihpaaGreatDoor
