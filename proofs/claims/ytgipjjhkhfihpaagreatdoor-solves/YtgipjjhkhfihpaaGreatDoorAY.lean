import Derived.Test.YtgipjjhkhfihpaaGreatDoorAM
namespace Go.Proofs.YtgipjjhkhfihpaaGreatDoor
open Go.RowKit

/-! ### Units -/
def deadC (t n : Nat) (c : Nat × Nat) : Bool := (less c.1 n == 0) && (less c.2 t == 0)
def oneB (p q : Nat) : Bool := (p &&& (p - 1) == 0) && ((q &&& (q - 1) == 0) && ((p == 0) || (q == 0)))
def unitC (all t n : Nat) (c : Nat × Nat) : Bool := oneB (less c.1 n) (less c.2 t) && (((less c.1 n ||| less c.2 t) &&& all == 0) && ((less c.1 n &&& t == 0) && (less c.2 t &&& n == 0)))
def unitsF (cl : List (Nat × Nat)) (all : Nat) : Nat → Nat → Nat → Nat → Bool × Nat
  | 0, k, _, _ => (false, k)
  | fuel + 1, k, t, n => if cl.any (deadC t n) then (true, k) else
    match cl.find? (unitC all t n) with
    | none => (false, k)
    | some c => unitsF cl all fuel (k + 1) (t ||| less c.1 n) (n ||| less c.2 t)
/-- Does making true, again and again, the one literal that is left leave a clause all false? How many were made true. -/
def unitsR (F : Form) : Bool × Nat := unitsF F.cl F.all 1024 0 0 0

theorem or_more (t p : Nat) (hp : p ≠ 0) (h : p &&& t = 0) : t < t ||| p := by
  have hle : t ≤ t ||| p := Nat.left_le_or
  rcases Nat.lt_or_ge t (t ||| p) with h1 | h1
  · exact h1
  · exfalso
    have e : t ||| p = t := Nat.le_antisymm h1 hle
    apply hp
    apply Nat.eq_of_testBit_eq
    intro i
    have h2 : (t ||| p).testBit i = t.testBit i := by rw [e]
    have h3 : (p &&& t).testBit i = false := by rw [h]; simp
    rw [Nat.testBit_or] at h2
    rw [Nat.testBit_and] at h3
    rw [Nat.zero_testBit]
    cases hh : p.testBit i with
    | false => rfl
    | true => rw [hh] at h2 h3; simp at h2 h3; rw [h2] at h3; cases h3
theorem and_pred (p : Nat) (h : p < 512) : (bits .and .i64 (p : Int) ((p : Int) - 1) == 0) = (p &&& (p - 1) == 0) := by
  cases p with
  | zero => decide
  | succ p =>
    rw [show (((p + 1 : Nat) : Int) - 1) = ((p : Nat) : Int) from by omega, i64_and _ _ (by omega) (by omega), nat_beq_zero]
    rfl
theorem anyc_take (cl : List (Nat × Nat)) (f : Nat × Nat → Bool) (k : Nat) (h : k < cl.length) : (cl.take (k + 1)).any f = ((cl.take k).any f || f cl[k]) := by
  rw [List.take_succ_eq_append_getElem h, List.any_append]; simp
theorem any_hit (cl : List (Nat × Nat)) (f : Nat × Nat → Bool) (k : Nat) (h : k < cl.length) (hf : f cl[k] = true) : cl.any f = true := by
  rw [List.any_eq_true]; exact ⟨_, List.getElem_mem h, hf⟩
theorem find_hit (cl : List (Nat × Nat)) (f : Nat × Nat → Bool) (k : Nat) (h : k < cl.length) (hno : (cl.take k).any f = false) (hf : f cl[k] = true) : cl.find? f = some cl[k] := by
  conv => lhs; rw [← List.take_append_drop k cl, List.drop_eq_getElem_cons h]
  rw [List.find?_append]
  have : (cl.take k).find? f = none := by
    rw [List.find?_eq_none]
    intro x hx hh
    rw [List.any_eq_false] at hno
    exact hno x hx hh
  rw [this, List.find?_cons, hf]
  rfl
theorem find_no (cl : List (Nat × Nat)) (f : Nat × Nat → Bool) (hno : cl.any f = false) : cl.find? f = none := by
  rw [List.find?_eq_none]
  intro x hx hh
  rw [List.any_eq_false] at hno
  exact hno x hx hh

set_option maxRecDepth 100000 in
set_option maxHeartbeats 6400000 in
theorem units_any (lo b : Nat) (F : Form) (w : World) (hR : RefAt lo w b F) (hcl : ∀ c ∈ F.cl, c.1 < 512 ∧ c.2 < 512) (hl : F.cl.length ≤ 24) (hall : F.all < 512) :
    Calls Tryz.prog 55 #[.pointer (some ⟨b, 0, none⟩)] w fun e w' => e = .returned (.tuple #[.bool (unitsR F).1, .int .i64 ((unitsR F).2 : Nat)]) ∧ Below w.heap.size w w' := by
  obtain ⟨_, vO, vE, vC, hfb, _, _, hC⟩ := hR
  obtain ⟨aC, cC, rfl⟩ := own_form hC
  have hbw := blk_lt hfb
  have k3 : w.cell? ⟨b, 3, none⟩ = some (.slice aC F.cl.length cC) := by rw [blk_cell hfb]; rfl
  have k1 : w.cell? ⟨b, 1, none⟩ = some (.int .i64 F.all) := by rw [blk_cell hfb]; rfl
  have HCL := hide hcl; clear hcl
  have HCELL : Hid (∀ (m : Nat) (hm : m < F.cl.length), ∃ g2, aC = some ⟨g2, 0, none⟩ ∧ g2 < w.heap.size ∧ w.cell? ⟨g2, m * 2, none⟩ = some (.int .i64 (F.cl[m].1 : Int)) ∧ w.cell? ⟨g2, m * 2 + 1, none⟩ = some (.int .i64 (F.cl[m].2 : Int))) := hide (fun m hm => by
    obtain ⟨g2, cap2, hVe, hg2, hg2', _, hcell⟩ := own_pos hC (by omega)
    injection hVe with hVe _ hV2
    subst hVe hV2
    obtain ⟨hpa, hpb⟩ := pairs_at F.cl m hm
    exact ⟨g2, rfl, hg2', hcell _ _ hpa, hcell _ _ hpb⟩)
  clear hC
  go_enter Tryz.func55, Tryz.ntmps55
  go_wp2_with fail
  go_loopg [4, 5, 6] 1024 (fun q t n k wx => ∃ (tt nn kk : Nat), t = .int .i64 tt ∧ n = .int .i64 nn ∧ k = .int .i64 kk ∧ tt < 512 ∧ nn < 512 ∧ kk ≤ tt + nn ∧ 1024 ≤ q + (tt + nn) ∧ unitsR F = unitsF F.cl F.all q kk tt nn ∧ Below w.heap.size w wx)
  case atStart => exact ⟨0, 0, 0, rfl, rfl, rfl, by omega, by omega, by omega, by omega, rfl, Below.refl _ _⟩
  case round =>
    obtain ⟨tt, nn, kk, rfl, rfl, rfl, ht, hn, hk, hq, hun, hb⟩ := hrel
    obtain ⟨fu, hfu⟩ : ∃ fu, gk = fu + 1 := ⟨gk - 1, by omega⟩
    have HUN : Hid (unitsR F = if F.cl.any (deadC tt nn) then (true, kk) else match F.cl.find? (unitC F.all tt nn) with
      | none => (false, kk)
      | some c => unitsF F.cl F.all fu (kk + 1) (tt ||| less c.1 nn) (nn ||| less c.2 tt)) := hide (by rw [hun, hfu]; rfl)
    obtain ⟨wo, rfl⟩ : ∃ wo, wo = wr := ⟨_, rfl⟩
    obtain ⟨go, hgo⟩ : ∃ go, go = gk := ⟨_, rfl⟩
    have HGO := hide hgo
    have HFU := hide hfu
    clear hun hfu hgo
    go_wp2_with fail
    go_loopg [7] F.cl.length (fun q i wx => ∃ j : Nat, i = .int .i64 j ∧ j + q = F.cl.length ∧ (F.cl.take j).any (deadC tt nn) = false ∧ Below w.heap.size w wx)
    case atStart => exact ⟨0, rfl, by omega, rfl, hb⟩
    case round =>
      obtain ⟨j, rfl, hj, hno, hb2⟩ := hrel
      have HNO := hide hno; clear hno
      have y3 : wr.cell? ⟨b, 3, none⟩ = some (.slice aC F.cl.length cC) := by rw [hb2.cell (p := ⟨b, 3, none⟩) hbw]; exact k3
      have y1 : wr.cell? ⟨b, 1, none⟩ = some (.int .i64 F.all) := by rw [hb2.cell (p := ⟨b, 1, none⟩) hbw]; exact k1
      by_cases hlt : j < F.cl.length
      · obtain ⟨g2, rfl, hg2, hz0, hz1⟩ := unhide HCELL j hlt
        have hx0 : wr.cell? ⟨g2, j * 2, none⟩ = some (.int .i64 (F.cl[j].1 : Int)) := by rw [hb2.cell (p := ⟨g2, j * 2, none⟩) hg2]; exact hz0
        have hx1 : wr.cell? ⟨g2, j * 2 + 1, none⟩ = some (.int .i64 (F.cl[j].2 : Int)) := by rw [hb2.cell (p := ⟨g2, j * 2 + 1, none⟩) hg2]; exact hz1
        have HT := hide (anyc_take F.cl (deadC tt nn) j hlt)
        have HH := hide (any_hit F.cl (deadC tt nn) j hlt)
        obtain ⟨hb1, hb2x⟩ := unhide HCL _ (List.getElem_mem hlt)
        clear hz0 hz1
        generalize F.cl[j] = c at *
        obtain ⟨p, n⟩ := c
        dsimp only at hx0 hx1 hb1 hb2x
        have h1 : (bits .andNot .i64 (p : Int) (nn : Int) == 0) = (less p nn == 0) := by rw [i64_andNot _ _ (by omega) (by omega), nat_beq_zero]
        have h2 : (bits .andNot .i64 (n : Int) (tt : Int) == 0) = (less n tt == 0) := by rw [i64_andNot _ _ (by omega) (by omega), nat_beq_zero]
        have HD : Hid (deadC tt nn (p, n) = ((less p nn == 0) && (less n tt == 0))) := hide rfl
        cases e1 : (less p nn == 0) with
        | false =>
          rw [e1] at h1
          have HD1 : Hid (deadC tt nn (p, n) = false) := hide (by rw [unhide HD, e1]; rfl)
          clear e1
          go_wp2_with fail
          go_roundg (gk - 1)
          case measure => omega
          case rel => exact ⟨j + 1, by go_num, by omega, by rw [unhide HT, unhide HNO, unhide HD1]; rfl, hb2⟩
        | true =>
          rw [e1] at h1
          cases e2 : (less n tt == 0) with
          | false =>
            rw [e2] at h2
            have HD1 : Hid (deadC tt nn (p, n) = false) := hide (by rw [unhide HD, e1, e2]; rfl)
            clear e1 e2
            go_wp2_with fail
            go_roundg (gk - 1)
            case measure => omega
            case rel => exact ⟨j + 1, by go_num, by omega, by rw [unhide HT, unhide HNO, unhide HD1]; rfl, hb2⟩
          | true =>
            rw [e2] at h2
            have HF : Hid (unitsR F = (true, kk)) := hide (by rw [unhide HUN, unhide HH (by rw [unhide HD, e1, e2]; rfl)]; rfl)
            clear e1 e2
            go_wp2_with fail
            go_ret2
            exact ⟨by rw [unhide HF]; rfl, hb2⟩
      · have hjl : j = F.cl.length := by omega
        have HND : Hid (F.cl.any (deadC tt nn) = false) := hide (by have := unhide HNO; rw [hjl, List.take_length] at this; exact this)
        have HUN2 : Hid (unitsR F = match F.cl.find? (unitC F.all tt nn) with
          | none => (false, kk)
          | some c => unitsF F.cl F.all fu (kk + 1) (tt ||| less c.1 nn) (nn ||| less c.2 tt)) := hide (by rw [unhide HUN, unhide HND]; rfl)
        subst hjl
        obtain ⟨wp, rfl⟩ : ∃ wp, wp = wr := ⟨_, rfl⟩
        go_wp2_with fail
        go_loopg [4, 5, 8, 9] F.cl.length (fun q t n mo i wx => ∃ j : Nat, i = .int .i64 j ∧ t = .int .i64 tt ∧ n = .int .i64 nn ∧ mo = .bool false ∧ j + q = F.cl.length ∧ (F.cl.take j).any (unitC F.all tt nn) = false ∧ Below w.heap.size w wx)
        case atStart => exact ⟨0, rfl, rfl, rfl, rfl, by omega, rfl, hb2⟩
        case round =>
          obtain ⟨j, rfl, rfl, rfl, rfl, hj2, hno2, hb3⟩ := hrel
          have HNO2 := hide hno2; clear hno2
          have x3 : wr.cell? ⟨b, 3, none⟩ = some (.slice aC F.cl.length cC) := by rw [hb3.cell (p := ⟨b, 3, none⟩) hbw]; exact k3
          have x1 : wr.cell? ⟨b, 1, none⟩ = some (.int .i64 F.all) := by rw [hb3.cell (p := ⟨b, 1, none⟩) hbw]; exact k1
          by_cases hlt2 : j < F.cl.length
          · obtain ⟨g2, rfl, hg2, hz0, hz1⟩ := unhide HCELL j hlt2
            have hx0 : wr.cell? ⟨g2, j * 2, none⟩ = some (.int .i64 (F.cl[j].1 : Int)) := by rw [hb3.cell (p := ⟨g2, j * 2, none⟩) hg2]; exact hz0
            have hx1 : wr.cell? ⟨g2, j * 2 + 1, none⟩ = some (.int .i64 (F.cl[j].2 : Int)) := by rw [hb3.cell (p := ⟨g2, j * 2 + 1, none⟩) hg2]; exact hz1
            have HT := hide (anyc_take F.cl (unitC F.all tt nn) j hlt2)
            have HH := hide (find_hit F.cl (unitC F.all tt nn) j hlt2 (unhide HNO2))
            have HDD : Hid (deadC tt nn F.cl[j] = false) := hide (by
              cases hh : deadC tt nn F.cl[j] with
              | false => rfl
              | true => have := any_hit F.cl (deadC tt nn) j hlt2 hh; rw [unhide HND] at this; cases this)
            obtain ⟨hb1, hb2x⟩ := unhide HCL _ (List.getElem_mem hlt2)
            clear hz0 hz1
            generalize F.cl[j] = c at *
            obtain ⟨cp, cn⟩ := c
            dsimp only at hx0 hx1 hb1 hb2x
            have l1 : bits .andNot .i64 (cp : Int) (nn : Int) = ((less cp nn : Nat) : Int) := i64_andNot _ _ (by omega) (by omega)
            have l2 : bits .andNot .i64 (cn : Int) (tt : Int) = ((less cn tt : Nat) : Int) := i64_andNot _ _ (by omega) (by omega)
            have lp := less_lt cp nn hb1
            have lq := less_lt cn tt hb2x
            have HUC : Hid (unitC F.all tt nn (cp, cn) = (oneB (less cp nn) (less cn tt) && (((less cp nn ||| less cn tt) &&& F.all == 0) && ((less cp nn &&& tt == 0) && (less cn tt &&& nn == 0))))) := hide rfl
            have HDE : Hid (deadC tt nn (cp, cn) = ((less cp nn == 0) && (less cn tt == 0))) := hide rfl
            obtain ⟨p, hep⟩ : ∃ p, less cp nn = p := ⟨_, rfl⟩
            obtain ⟨q, heq⟩ : ∃ q, less cn tt = q := ⟨_, rfl⟩
            have HEP := hide hep
            have HEQ := hide heq
            rw [hep] at l1 lp HUC HDE
            rw [heq] at l2 lq HUC HDE
            clear hep heq
            have a1 := and_pred p lp
            have a2 := and_pred q lq
            have z1 : ((p : Int) == 0) = (p == 0) := nat_beq_zero p
            have z2 : ((q : Int) == 0) = (q == 0) := nat_beq_zero q
            have ho : bits .or .i64 (p : Int) (q : Int) = ((p ||| q : Nat) : Int) := i64_or _ _ (by omega) (by omega)
            have hpq := or_lt p q lp lq
            have hu : (bits .and .i64 ((p ||| q : Nat) : Int) (F.all : Int) != 0) = ((p ||| q) &&& F.all != 0) := by
              rw [i64_and _ _ (by omega) (by omega), Bool.eq_iff_iff, bne_iff_ne, bne_iff_ne]; omega
            have htq : (bits .and .i64 (p : Int) (tt : Int) != 0) = (p &&& tt != 0) := by
              rw [i64_and _ _ (by omega) (by omega), Bool.eq_iff_iff, bne_iff_ne, bne_iff_ne]; omega
            have hnq : (bits .and .i64 (q : Int) (nn : Int) != 0) = (q &&& nn != 0) := by
              rw [i64_and _ _ (by omega) (by omega), Bool.eq_iff_iff, bne_iff_ne, bne_iff_ne]; omega
            have ot : bits .or .i64 (tt : Int) (p : Int) = ((tt ||| p : Nat) : Int) := i64_or _ _ (by omega) (by omega)
            have on : bits .or .i64 (nn : Int) (q : Int) = ((nn ||| q : Nat) : Int) := i64_or _ _ (by omega) (by omega)
            cases ea : (p &&& (p - 1) == 0) with
            | false =>
              rw [ea] at a1
              have HU1 : Hid (unitC F.all tt nn (cp, cn) = false) := hide (by rw [unhide HUC]; unfold oneB; rw [ea]; simp)
              clear ea
              go_wp2_with fail
              go_roundg (gk - 1)
              case measure => omega
              case rel => exact ⟨j + 1, by go_num, rfl, rfl, rfl, by omega, by rw [unhide HT, unhide HNO2, unhide HU1]; rfl, hb3⟩
            | true =>
              rw [ea] at a1
              cases eb : (q &&& (q - 1) == 0) with
              | false =>
                rw [eb] at a2
                have HU1 : Hid (unitC F.all tt nn (cp, cn) = false) := hide (by rw [unhide HUC]; unfold oneB; rw [ea, eb]; simp)
                clear ea eb
                go_wp2_with fail
                go_roundg (gk - 1)
                case measure => omega
                case rel => exact ⟨j + 1, by go_num, rfl, rfl, rfl, by omega, by rw [unhide HT, unhide HNO2, unhide HU1]; rfl, hb3⟩
              | true =>
                rw [eb] at a2
                cases ep : (p == 0) with
                | true =>
                  rw [ep] at z1
                  cases eu : ((p ||| q) &&& F.all == 0) with
                  | false =>
                    have huf : ((p ||| q) &&& F.all  != 0) = true := by rw [bne, eu]; rfl
                    rw [huf] at hu
                    have HU1 : Hid (unitC F.all tt nn (cp, cn) = false) := hide (by rw [unhide HUC]; unfold oneB; rw [ea, eb, ep, eu]; simp)
                    clear ea eb ep eu huf
                    go_wp2_with fail
                    go_roundg (gk - 1)
                    case measure => omega
                    case rel => exact ⟨j + 1, by go_num, rfl, rfl, rfl, by omega, by rw [unhide HT, unhide HNO2, unhide HU1]; rfl, hb3⟩
                  | true =>
                    have huf : ((p ||| q) &&& F.all  != 0) = false := by rw [bne, eu]; rfl
                    rw [huf] at hu
                    cases et : (p &&& tt == 0) with
                    | false =>
                      have htqf : (p &&& tt  != 0) = true := by rw [bne, et]; rfl
                      rw [htqf] at htq
                      have HU1 : Hid (unitC F.all tt nn (cp, cn) = false) := hide (by rw [unhide HUC]; unfold oneB; rw [ea, eb, ep, eu, et]; simp)
                      clear ea eb ep eu et htqf
                      go_wp2_with fail
                      go_roundg (gk - 1)
                      case measure => omega
                      case rel => exact ⟨j + 1, by go_num, rfl, rfl, rfl, by omega, by rw [unhide HT, unhide HNO2, unhide HU1]; rfl, hb3⟩
                    | true =>
                      have htqf : (p &&& tt  != 0) = false := by rw [bne, et]; rfl
                      rw [htqf] at htq
                      cases en : (q &&& nn == 0) with
                      | false =>
                        have hnqf : (q &&& nn  != 0) = true := by rw [bne, en]; rfl
                        rw [hnqf] at hnq
                        have HU1 : Hid (unitC F.all tt nn (cp, cn) = false) := hide (by rw [unhide HUC]; unfold oneB; rw [ea, eb, ep, eu, et, en]; simp)
                        clear ea eb ep eu et en hnqf
                        go_wp2_with fail
                        go_roundg (gk - 1)
                        case measure => omega
                        case rel => exact ⟨j + 1, by go_num, rfl, rfl, rfl, by omega, by rw [unhide HT, unhide HNO2, unhide HU1]; rfl, hb3⟩
                      | true =>
                        have hnqf : (q &&& nn  != 0) = false := by rw [bne, en]; rfl
                        rw [hnqf] at hnq
                        have HFD : Hid (F.cl.find? (unitC F.all tt nn) = some (cp, cn)) := hide (unhide HH (by rw [unhide HUC]; unfold oneB; rw [ea, eb, ep, eu, et, en]; rfl))
                        have HNX : Hid (unitsR F = unitsF F.cl F.all fu (kk + 1) (tt ||| p) (nn ||| q)) := hide (by rw [unhide HUN2, unhide HFD]; dsimp only; rw [unhide HEP, unhide HEQ])
                        have et' : p &&& tt = 0 := by simpa using et
                        have en' : q &&& nn = 0 := by simpa using en
                        have HUP : Hid (tt + nn < (tt ||| p) + (nn ||| q)) := hide (by
                          have hl1 : tt ≤ tt ||| p := Nat.left_le_or
                          have hl2 : nn ≤ nn ||| q := Nat.left_le_or
                          by_cases hp0 : p = 0
                          · have hq0 : q ≠ 0 := fun e => by
                              have := unhide HDD
                              rw [unhide HDE, hp0, e] at this; cases this
                            have := or_more nn q hq0 en'
                            omega
                          · have := or_more tt p hp0 et'
                            omega)
                        clear ea eb ep eu et en et' en' huf htqf hnqf
                        go_wp2_with fail
                        go_roundg (go - 1)
                        case measure => have := unhide HGO; have := unhide HFU; omega
                        case rel =>
                          have h1 := unhide HGO
                          have h2 := unhide HFU
                          have h3 := unhide HUP
                          refine ⟨tt ||| p, nn ||| q, kk + 1, rfl, rfl, by go_num, or_lt _ _ ht lp, or_lt _ _ hn lq, by omega, by omega, ?_, hb3⟩
                          rw [unhide HNX, show go - 1 = fu from by omega]
                | false =>
                  rw [ep] at z1
                  cases eq : (q == 0) with
                  | false =>
                    rw [eq] at z2
                    have HU1 : Hid (unitC F.all tt nn (cp, cn) = false) := hide (by rw [unhide HUC]; unfold oneB; rw [ea, eb, ep, eq]; simp)
                    clear ea eb ep eq
                    go_wp2_with fail
                    go_roundg (gk - 1)
                    case measure => omega
                    case rel => exact ⟨j + 1, by go_num, rfl, rfl, rfl, by omega, by rw [unhide HT, unhide HNO2, unhide HU1]; rfl, hb3⟩
                  | true =>
                    rw [eq] at z2
                    cases eu : ((p ||| q) &&& F.all == 0) with
                    | false =>
                      have huf : ((p ||| q) &&& F.all  != 0) = true := by rw [bne, eu]; rfl
                      rw [huf] at hu
                      have HU1 : Hid (unitC F.all tt nn (cp, cn) = false) := hide (by rw [unhide HUC]; unfold oneB; rw [ea, eb, ep, eq, eu]; simp)
                      clear ea eb ep eq eu huf
                      go_wp2_with fail
                      go_roundg (gk - 1)
                      case measure => omega
                      case rel => exact ⟨j + 1, by go_num, rfl, rfl, rfl, by omega, by rw [unhide HT, unhide HNO2, unhide HU1]; rfl, hb3⟩
                    | true =>
                      have huf : ((p ||| q) &&& F.all  != 0) = false := by rw [bne, eu]; rfl
                      rw [huf] at hu
                      cases et : (p &&& tt == 0) with
                      | false =>
                        have htqf : (p &&& tt  != 0) = true := by rw [bne, et]; rfl
                        rw [htqf] at htq
                        have HU1 : Hid (unitC F.all tt nn (cp, cn) = false) := hide (by rw [unhide HUC]; unfold oneB; rw [ea, eb, ep, eq, eu, et]; simp)
                        clear ea eb ep eq eu et htqf
                        go_wp2_with fail
                        go_roundg (gk - 1)
                        case measure => omega
                        case rel => exact ⟨j + 1, by go_num, rfl, rfl, rfl, by omega, by rw [unhide HT, unhide HNO2, unhide HU1]; rfl, hb3⟩
                      | true =>
                        have htqf : (p &&& tt  != 0) = false := by rw [bne, et]; rfl
                        rw [htqf] at htq
                        cases en : (q &&& nn == 0) with
                        | false =>
                          have hnqf : (q &&& nn  != 0) = true := by rw [bne, en]; rfl
                          rw [hnqf] at hnq
                          have HU1 : Hid (unitC F.all tt nn (cp, cn) = false) := hide (by rw [unhide HUC]; unfold oneB; rw [ea, eb, ep, eq, eu, et, en]; simp)
                          clear ea eb ep eq eu et en hnqf
                          go_wp2_with fail
                          go_roundg (gk - 1)
                          case measure => omega
                          case rel => exact ⟨j + 1, by go_num, rfl, rfl, rfl, by omega, by rw [unhide HT, unhide HNO2, unhide HU1]; rfl, hb3⟩
                        | true =>
                          have hnqf : (q &&& nn  != 0) = false := by rw [bne, en]; rfl
                          rw [hnqf] at hnq
                          have HFD : Hid (F.cl.find? (unitC F.all tt nn) = some (cp, cn)) := hide (unhide HH (by rw [unhide HUC]; unfold oneB; rw [ea, eb, ep, eq, eu, et, en]; rfl))
                          have HNX : Hid (unitsR F = unitsF F.cl F.all fu (kk + 1) (tt ||| p) (nn ||| q)) := hide (by rw [unhide HUN2, unhide HFD]; dsimp only; rw [unhide HEP, unhide HEQ])
                          have et' : p &&& tt = 0 := by simpa using et
                          have en' : q &&& nn = 0 := by simpa using en
                          have HUP : Hid (tt + nn < (tt ||| p) + (nn ||| q)) := hide (by
                            have hl1 : tt ≤ tt ||| p := Nat.left_le_or
                            have hl2 : nn ≤ nn ||| q := Nat.left_le_or
                            by_cases hp0 : p = 0
                            · have hq0 : q ≠ 0 := fun e => by
                                have := unhide HDD
                                rw [unhide HDE, hp0, e] at this; cases this
                              have := or_more nn q hq0 en'
                              omega
                            · have := or_more tt p hp0 et'
                              omega)
                          clear ea eb ep eq eu et en et' en' huf htqf hnqf
                          go_wp2_with fail
                          go_roundg (go - 1)
                          case measure => have := unhide HGO; have := unhide HFU; omega
                          case rel =>
                            have h1 := unhide HGO
                            have h2 := unhide HFU
                            have h3 := unhide HUP
                            refine ⟨tt ||| p, nn ||| q, kk + 1, rfl, rfl, by go_num, or_lt _ _ ht lp, or_lt _ _ hn lq, by omega, by omega, ?_, hb3⟩
                            rw [unhide HNX, show go - 1 = fu from by omega]
          · have HFD : Hid (F.cl.find? (unitC F.all tt nn) = none) := hide (find_no _ _ (by have := unhide HNO2; rw [show j = F.cl.length from by omega, List.take_length] at this; exact this))
            have HF : Hid (unitsR F = (false, kk)) := hide (by rw [unhide HUN2, unhide HFD])
            go_wp2_with fail
            go_ret2
            exact ⟨by rw [unhide HF]; rfl, hb3⟩
end Go.Proofs.YtgipjjhkhfihpaaGreatDoor
