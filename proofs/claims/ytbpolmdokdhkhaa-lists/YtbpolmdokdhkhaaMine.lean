import Derived.Test.YtbpolmdokdhkhaaLaw2
namespace Go.Proofs.Ytbpolmdokdhkhaa
open Go.RowKit

/-- A row of n numbers, all of them x. -/
def marks (n : Nat) (x : Int) : Array Value := (List.replicate n (Value.int .i64 x)).toArray
def halfMarks (cur : Array Value) (i : Nat) (x : Int) : Array Value := (List.replicate i (Value.int .i64 x) ++ cur.toList.drop i).toArray
theorem halfMarks_zero (cur : Array Value) (x : Int) : halfMarks cur 0 x = cur := by simp [halfMarks]
theorem halfMarks_all (cur : Array Value) (x : Int) : halfMarks cur cur.size x = marks cur.size x := by
  unfold halfMarks marks
  rw [List.drop_of_length_le (by simp)]; simp
theorem halfMarks_size (cur : Array Value) (i : Nat) (x : Int) (h : i ≤ cur.size) : (halfMarks cur i x).size = cur.size := by
  simp [halfMarks]; omega
theorem halfMarks_succ (cur : Array Value) (i : Nat) (x : Int) (h : i < cur.size) : (halfMarks cur i x).setIfInBounds i (.int .i64 x) = halfMarks cur (i + 1) x := by
  unfold halfMarks
  apply Array.ext'
  rw [Array.toList_setIfInBounds]
  simp only
  rw [List.set_append_right _ _ (by simp)]
  simp only [List.length_replicate, Nat.sub_self]
  rw [List.drop_eq_getElem_cons (by simpa using h), List.set_cons_zero, List.replicate_succ', List.append_assoc]
  rfl

theorem Try.info25 : (Try.prog.info? 25).map (fun i => (i.zero, i.size, i.bytes)) = some (some (.slice none 0 0), 1, 24) := by kernel_rfl

/-- What 'mine' leaves. -/
structure MinePost (bw g : Nat) (cap : Nat) (nls : Nat) (hdrs : List Value) (vls : Value) (text : List UInt8) (px pf : Option Addr) (proof : List UInt8) (c4 c6 : Value) (w : World) (e : Ending) (w' : World) : Prop where
  ret : e = .returned (.tuple #[])
  only : Only (fun k => k = bw ∨ k = g ∨ vls.ownBlock = some k) w w'
  row : w'.heap[g]? = some (.cells (marks cap (-10 - (nls : Int))) 3 (0, 0))
  at_ : ∃ vls', WAt w' bw text px pf proof c4 vls' c6 ∧ w'.ownsRow (bw + 1) 25 1 vls' (nls + 1) (hdrs ++ [.slice (some ⟨g, 0, none⟩) cap cap]) ∧ (vls'.ownBlock = vls.ownBlock ∨ ∃ k, vls'.ownBlock = some k ∧ w.heap.size ≤ k)

set_option maxRecDepth 100000 in
set_option maxHeartbeats 1600000 in
theorem mine_any (bw g n cap : Nat) (cur : Array Value) (nls : Nat) (hdrs : List Value) (vls : Value) (text : List UInt8) (px pf : Option Addr) (proof : List UInt8) (c4 c6 : Value) (w : World)
    (hw : WAt w bw text px pf proof c4 vls c6) (hg : w.heap[g]? = some (.cells cur 3 (0, 0))) (hcs : cur.size = cap) (hnc : n ≤ cap) (hcm : cap ≤ maxLen) (hls : w.ownsRow (bw + 1) 25 1 vls nls hdrs) (hnl : nls ≤ 1073741824) :
    Calls Try.prog 37 #[.pointer (some ⟨bw, 0, none⟩), .slice (some ⟨g, 0, none⟩) n cap] w fun e w' => MinePost bw g cap nls hdrs vls text px pf proof c4 c6 w e w' := by
  have hbw : bw < w.heap.size := blk_lt hw
  have hgs : g < w.heap.size := blk_lt hg
  have hne : g ≠ bw := by
    intro e; subst e
    unfold WAt at hw
    rw [hg] at hw
    simp at hw
  have hapart : vls.ownBlock ≠ some g := fun e => by
    rcases hls.2 with ⟨rfl, _⟩ | ⟨g', c', cur', rfl, _, hh, _⟩
    · simp [Value.ownBlock] at e
    · simp [Value.ownBlock] at e
      subst e
      rw [hg] at hh
      simp at hh
  have hapw : vls.ownBlock ≠ some bw := fun e => by have := hls.lt _ e; omega
  have HCS := hide hcs; clear hcs
  obtain ⟨al, cl, rfl⟩ := own_form hls
  have hcm' := hcm
  unfold maxLen at hcm
  obtain ⟨i0, hi, hz0, hz1, hz2⟩ := info_parts Try.info25
  have h5 : w.cell? ⟨bw, 5, none⟩ = some (.slice al nls cl) := by rw [blk_cell hw]; rfl
  go_enter Try.func37, Try.ntmps37
  go_wp2_with fail
  go_loopg [4] cap (fun q i wx => ∃ k : Nat, i = .int .i64 k ∧ k + q = cap ∧ Only (· = g) w wx ∧ wx.heap[g]? = some (.cells (halfMarks cur k (-10 - (nls : Int))) 3 (0, 0)))
  case atStart => exact ⟨0, rfl, by omega, Only.refl _ _, by rw [halfMarks_zero]; exact hg⟩
  case round =>
    obtain ⟨k, rfl, hk, ho, hgx⟩ := hrel
    have hwx : WAt wr bw text px pf proof c4 (.slice al nls cl) c6 := (ho.block bw hbw (fun e => hne e.symm)).trans hw
    have k5 : wr.cell? ⟨bw, 5, none⟩ = some (.slice al nls cl) := by rw [blk_cell hwx]; rfl
    by_cases hlt : k < cap
    · have hsz := halfMarks_size cur k (-10 - (nls : Int)) (by have := unhide HCS; omega)
      obtain ⟨u, hu⟩ : ∃ u, wr.cell? ⟨g, k, none⟩ = some u := by
        rw [blk_cell hgx]
        exact ⟨_, Array.getElem?_eq_getElem (by rw [hsz]; have := unhide HCS; omega)⟩
      have hz := blk_free hgx k
      have HHS := hide (halfMarks_succ cur k (-10 - (nls : Int)) (by have := unhide HCS; omega))
      have HST := hide (blk_set hgx k (.int .i64 (-10 - (nls : Int))))
      clear hsz
      go_wp2_with fail
      go_roundg (gk - 1)
      case measure => omega
      case rel => exact ⟨k + 1, by go_num, by omega, ho.setAt _ _, by rw [← unhide HHS]; exact unhide HST⟩
    · have hkl : k = cap := by omega
      subst hkl
      have hgm : wr.heap[g]? = some (.cells (marks k (-10 - (nls : Int))) 3 (0, 0)) := by
        have h1 := halfMarks_all cur (-10 - (nls : Int))
        rw [unhide HCS] at h1
        rw [← h1]; exact hgx
      have hlsx : wr.ownsRow (bw + 1) 25 1 (.slice al nls cl) nls hdrs := hls.kept (row := some g) ⟨ho.os, ho.tape, ho.output, ho.size, fun j hj hne => ho.block j hj (fun e => hne (by rw [e]))⟩ (Or.inr hapart)
      have hbs : bw + 1 ≤ wr.heap.size := by have := ho.size; omega
      go_wp2_with (at_builtin; refine wpList_append_at rfl (.tmp 28) (.tmp 30) 56 rfl (bw + 1) i0 (.slice none 0 0) 1 24 Try.underlying56 hi hz0 hz1 hz2 rfl (by decide) _ _ _ hlsx rfl rfl rfl (by simp [Value.oneCell']) (by unfold maxLen; omega) (by omega) hbs ?_; intro v' w4 hown4 hgrow hat; have hw4 : WAt w4 bw text px pf proof c4 (.slice al nls cl) c6 := (hgrow.block bw (blk_lt hwx) (fun e => hapw e.symm)).trans hwx; obtain ⟨g3, cap3, rfl, hg3, hg3', hcap3, hcell3⟩ := own_pos hown4 (by omega); have hq5 : w4.cell? ⟨bw, 5, none⟩ = some (.slice al nls cl) := (by rw [blk_cell hw4]; rfl); have hqz := blk_free hw4 5)
      go_end0
      refine ⟨rfl, ?_, ?_, _, blk_set hw4 5 _, ownsRow_setCell_below hown4 (a := ⟨bw, 5, none⟩) (Nat.lt_succ_self bw) _, ?_⟩
      · refine Only.setCell ?_ (p := ⟨bw, 5, none⟩) (Or.inl (Or.inl rfl)) _
        exact (ho.mono (fun k _ h => Or.inr (Or.inl h))).grown hgrow (fun k hk => Or.inl (Or.inr (Or.inr hk)))
      · rw [Below.heap_setCell _ _ _ _ hne]
        rw [hgrow.block g (blk_lt hgm) (fun e => hapart e.symm)]
        exact hgm
      · rcases hat with h | ⟨k', h1, h2⟩
        · exact Or.inl h
        · exact Or.inr ⟨k', h1, by have := ho.size; omega⟩
end Go.Proofs.Ytbpolmdokdhkhaa
