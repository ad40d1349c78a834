import Derived.Test.YtbpolmdokdhkhaaQbf5
namespace Go.Proofs.Ytbpolmdokdhkhaa
open Go.RowKit

theorem alloc_new_at' {w : World} {o : Obj} {n : Nat} (h : n = w.heap.size) : (w.alloc o).heap[n]? = some o := by subst h; exact heap_alloc_new w o
/-- The program's formula, as Load hands it out, at block b, its blocks from lo on. -/
structure ProgAt (lo : Nat) (w : World) (b : Nat) (q : QS) : Prop where
  lo_le : lo ≤ b
  at_ : ∃ vV vC, w.heap[b]? = some (.cells #[vV, vC] 48 (0, 0)) ∧ w.ownsRow lo 91 2 vV q.vars.length (varCells q.vars) ∧ w.ownsRow lo 96 2 vC q.cl.length (pairs q.cl)
def DLoadPost (l : List UInt8) (w : World) (e : Ending) (w' : World) : Prop :=
  Below w.heap.size w w' ∧ match loadSpec l with
    | .inl (x, i) => e = .returned (.tuple #[.pointer none, .int .i64 (x : Int), .int .i64 (i : Int)])
    | .inr q => ∃ b, e = .returned (.tuple #[.pointer (some ⟨b, 0, none⟩), .int .i64 0, .int .i64 0]) ∧ ProgAt w.heap.size w' b q
theorem loadSpec_pos (l : List UInt8) (x i : Nat) (h : loadSpec l = .inl (x, i)) : 0 < x := by
  unfold loadSpec at h
  split at h
  · simp at h; omega
  · split at h
    · simp at h; omega
    · split at h
      · simp at h; omega
      · split at h
        · simp at h; omega
        · cases h

set_option maxRecDepth 100000 in
set_option maxHeartbeats 800000 in
theorem load_any (l : List UInt8) (w : World) : Calls Try.prog 11 #[.string ⟨l.toArray⟩] w fun e w' => DLoadPost l w e w' := by
  go_enter Try.func11, Try.ntmps11
  go_wp2_with fail
  refine (qload_any l w).mono ?_
  rintro e w1 ⟨hb, hp⟩
  cases hq : loadSpec l with
  | inl xi =>
    obtain ⟨x, i⟩ := xi
    rw [hq] at hp
    have hp' : e = .returned (.tuple #[.agg #[.slice none 0 0, .slice none 0 0], .int .i64 (x : Int), .int .i64 (i : Int)]) := hp
    subst hp'
    have hx := loadSpec_pos l x i hq
    have hxb : ((x : Int) != 0) = true := by rw [bne_iff_ne]; omega
    have HQ := hide hq
    clear hp hq
    go_wp2_with fail
    go_ret3
    exact ⟨hb.alloc hb.size _, by rw [unhide HQ]; rfl⟩
  | inr q =>
    rw [hq] at hp
    have hp' : ∃ vV vC, e = .returned (.tuple #[.agg #[vV, vC], .int .i64 0, .int .i64 0]) ∧ w1.ownsRow w.heap.size 91 2 vV q.vars.length (varCells q.vars) ∧ w1.ownsRow w.heap.size 96 2 vC q.cl.length (pairs q.cl) := hp
    obtain ⟨vV, vC, rfl, hV, hC⟩ := hp'
    have HQ := hide hq
    clear hp hq
    obtain ⟨a1, c1, rfl⟩ := own_form hV
    obtain ⟨a2, c2, rfl⟩ := own_form hC
    go_wp2_with fail
    go_ret3
    refine ⟨(hb.alloc hb.size _).alloc (by simp; have := hb.size; omega) _, ?_⟩
    rw [unhide HQ]
    refine ⟨_, rfl, by have := hb.size; simp; omega, _, _, alloc_new_at' (by simp), (hV.alloc _).alloc _, (hC.alloc _).alloc _⟩
end Go.Proofs.Ytbpolmdokdhkhaa
