import Derived.Test.YtbpolmdokdhkhaaMine
namespace Go.Proofs.Ytbpolmdokdhkhaa
open Go.RowKit

/-- Lists that were handed out, each with its own mark. -/
def LsAt (w : World) (hdrs : List Value) : Prop := ∀ i (hi : i < hdrs.length), ∃ g n, hdrs[i] = .slice (some ⟨g, 0, none⟩) n n ∧ n ≤ maxLen ∧ w.heap[g]? = some (.cells (marks n (-10 - (i : Int))) 3 (0, 0))
/-- Lists of lists that were handed out. -/
def LssAt (w : World) (hdrs : List Value) : Prop := ∀ i (hi : i < hdrs.length), hdrs[i] = .slice none 0 0 ∨ ∃ h n cs, hdrs[i] = .slice (some ⟨h, 0, none⟩) n n ∧ n ≤ maxLen ∧ w.heap[h]? = some (.cells cs 25 (0, 0)) ∧
  ∀ k, k < n → ∃ x, cs[k]? = some (.slice (some ⟨x, 0, none⟩) 2 2) ∧ w.heap[x]? = some (.cells #[.int .i64 (i : Int), .int .i64 (k : Int)] 3 (0, 0))
theorem marks_at (n : Nat) (x : Int) (k : Nat) (h : k < n) : (marks n x)[k]? = some (.int .i64 x) := by
  unfold marks; simp [h]

set_option maxRecDepth 100000 in
set_option maxHeartbeats 3200000 in
theorem looks_any (bw : Nat) (text : List UInt8) (px pf : Option Addr) (proof : List UInt8) (c4 v5 v6 : Value) (h5s h6s : List Value) (b5 b6 : Nat) (w : World) (hw : WAt w bw text px pf proof c4 v5 v6)
    (h5 : w.ownsRow b5 25 1 v5 h5s.length h5s) (h6 : w.ownsRow b6 56 1 v6 h6s.length h6s) (hls : LsAt w h5s) (hlss : LssAt w h6s) (hn5 : h5s.length ≤ 1073741824) (hn6 : h6s.length ≤ 1073741824) :
    Calls Try.prog 18 #[.pointer (some ⟨bw, 0, none⟩)] w fun e w' => e = .returned (.bool true) ∧ w' = w := by
  have k5 : w.cell? ⟨bw, 5, none⟩ = some v5 := by rw [blk_cell hw]; rfl
  have k6 : w.cell? ⟨bw, 6, none⟩ = some v6 := by rw [blk_cell hw]; rfl
  have HLS := hide hls
  have HLSS := hide hlss
  clear hls hlss
  obtain ⟨a5, c5, rfl⟩ := own_form h5
  obtain ⟨a6, c6, rfl⟩ := own_form h6
  go_enter Try.func18, Try.ntmps18
  go_wp2_with fail
  go_loopg [3] (h5s.length) (fun q i wx => ∃ k : Nat, i = .int .i64 k ∧ k + q = h5s.length ∧ wx = w)
  case atStart => exact ⟨0, rfl, by omega, rfl⟩
  case round =>
    obtain ⟨k, rfl, hk, hwx⟩ := hrel
    subst hwx
    obtain ⟨go, rfl⟩ : ∃ go, go = gk := ⟨_, rfl⟩
    by_cases hlt : k < h5s.length
    · obtain ⟨g5, c5', hV, hg5, hg5', _, hcell⟩ := own_pos h5 (by omega)
      injection hV with hV _ hV2
      subst hV hV2
      obtain ⟨g, n, he, hnm, hg⟩ := unhide HLS k hlt
      have hck : wr.cell? ⟨g5, k, none⟩ = some (.slice (some ⟨g, 0, none⟩) n n) := hcell k _ (by rw [List.getElem?_eq_getElem hlt, he])
      have hdk : decide ((k : Int) < (h5s.length : Int)) = true := by simp; omega
      have HE := hide he
      clear he hcell
      unfold maxLen at hnm
      go_wp2_with fail
      go_loopg [4] n (fun q i wx => ∃ j : Nat, i = .int .i64 j ∧ j + q = n ∧ wx = wr)
      case atStart => exact ⟨0, rfl, by omega, rfl⟩
      case round =>
        obtain ⟨j, rfl, hj, hwx⟩ := hrel
        subst hwx
        by_cases hjl : j < n
        · have hcj : wr.cell? ⟨g, j, none⟩ = some (.int .i64 (-10 - (k : Int))) := by rw [blk_cell hg]; exact marks_at n _ j hjl
          have hdj : decide ((j : Int) < (n : Int)) = true := by simp; omega
          have hmk : (-10 - (k : Int) != -10 - (k : Int)) = false := by simp
          go_wp2_with fail
          go_roundg (gk - 1)
          case measure => omega
          case rel => exact ⟨j + 1, by go_num, by omega, rfl⟩
        · have hdj : decide ((j : Int) < (n : Int)) = false := by simp; omega
          have hjn : j ≤ n := by omega
          go_wp2_with fail
          go_roundg (go - 1)
          case measure => omega
          case rel => exact ⟨k + 1, by go_num, by omega, rfl⟩
    · have hkl : k = h5s.length := by omega
      subst hkl
      have hdk : decide ((h5s.length : Int) < (h5s.length : Int)) = false := by simp
      go_wp2_with fail
      go_loopg [5] (h6s.length) (fun q i wx => ∃ k : Nat, i = .int .i64 k ∧ k + q = h6s.length ∧ wx = wr)
      case atStart => exact ⟨0, rfl, by omega, rfl⟩
      case round =>
        obtain ⟨k, rfl, hk6, hwx⟩ := hrel
        subst hwx
        obtain ⟨go6, rfl⟩ : ∃ go6, go6 = gk := ⟨_, rfl⟩
        by_cases hlt6 : k < h6s.length
        · obtain ⟨g6, c6', hV, hg6, hg6', _, hcell⟩ := own_pos h6 (by omega)
          injection hV with hV _ hV2
          subst hV hV2
          have hdk6 : decide ((k : Int) < (h6s.length : Int)) = true := by simp; omega
          rcases unhide HLSS k hlt6 with he | ⟨h, n, cs, he, hnm, hh, hx⟩
          · have hck : wr.cell? ⟨g6, k, none⟩ = some (.slice none 0 0) := hcell k _ (by rw [List.getElem?_eq_getElem hlt6, he])
            clear he hcell
            go_wp2_with fail
            refine wp_loop_rounds 1 ?_
            rw [rounds_succ]
            go_wp2_with fail
            go_roundg (go6 - 1)
            case measure => omega
            case rel => exact ⟨k + 1, by go_num, by omega, rfl⟩
          · have hck : wr.cell? ⟨g6, k, none⟩ = some (.slice (some ⟨h, 0, none⟩) n n) := hcell k _ (by rw [List.getElem?_eq_getElem hlt6, he])
            have HX := hide hx
            clear he hcell hx
            unfold maxLen at hnm
            go_wp2_with fail
            go_loopg [6] n (fun q i wx => ∃ j : Nat, i = .int .i64 j ∧ j + q = n ∧ wx = wr)
            case atStart => exact ⟨0, rfl, by omega, rfl⟩
            case round =>
              obtain ⟨j, rfl, hj, hwx⟩ := hrel
              subst hwx
              by_cases hjl : j < n
              · obtain ⟨x, hx1, hx2⟩ := unhide HX j hjl
                have hcj : wr.cell? ⟨h, j, none⟩ = some (.slice (some ⟨x, 0, none⟩) 2 2) := by rw [blk_cell hh]; exact hx1
                have hy0 : wr.cell? ⟨x, 0, none⟩ = some (.int .i64 (k : Int)) := by rw [blk_cell hx2]; rfl
                have hy1 : wr.cell? ⟨x, 1, none⟩ = some (.int .i64 (j : Int)) := by rw [blk_cell hx2]; rfl
                have hdj : decide ((j : Int) < (n : Int)) = true := by simp; omega
                have hm1 : ((k : Int) != (k : Int)) = false := by simp
                have hm2 : ((j : Int) != (j : Int)) = false := by simp
                go_wp2_with fail
                go_roundg (gk - 1)
                case measure => omega
                case rel => exact ⟨j + 1, by go_num, by omega, rfl⟩
              · have hdj : decide ((j : Int) < (n : Int)) = false := by simp; omega
                have hjn : j ≤ n := by omega
                go_wp2_with fail
                go_roundg (go6 - 1)
                case measure => omega
                case rel => exact ⟨k + 1, by go_num, by omega, rfl⟩
        · have hkl : k = h6s.length := by omega
          subst hkl
          have hdk6 : decide ((h6s.length : Int) < (h6s.length : Int)) = false := by simp
          go_wp2_with fail
          go_ret
          exact ⟨rfl, rfl⟩
end Go.Proofs.Ytbpolmdokdhkhaa
