import Derived.Test.YtbpolmdokdhkhaaQbf4
namespace Go.Proofs.Ytbpolmdokdhkhaa
open Go.RowKit

/-- Lines from the i-th on: what the program holds behind them, or the first line that is none. -/
def qRows : QS → Nat → List (List UInt8) → QS ⊕ Nat
  | q, _, [] => .inl q
  | q, i, r :: rs => match qLine q r with
    | none => .inr (i + 1)
    | some q' => qRows q' (i + 1) rs
def qFinish (q : QS) : QS := { q with vars := exv (freeQ q 8) ++ q.vars }
def loadSpec (l : List UInt8) : (Nat × Nat) ⊕ QS :=
  if 2000 < l.length then .inl (1, 0) else
  match qRows ⟨[], []⟩ 0 (cutTo 10 l).1 with
  | .inr i => .inl (2, i)
  | .inl q => if (cutTo 10 l).2 ≠ [] then .inl (2, (cutTo 10 l).1.length + 1) else if 24 < q.cl.length then .inl (3, 0) else .inr (qFinish q)

/-- What holds of the program's formula behind k lines. -/
structure QOk (q : QS) (k : Nat) : Prop where
  vl : q.vars.length ≤ 2001 * k
  ll : q.cl.length ≤ k
  cl : ∀ c ∈ q.cl, c.1 < 512 ∧ c.2 < 512
theorem prefTo_len (u : Bool) (ws : List (List UInt8)) : ∀ (vs vs' : List (Nat × Bool)), prefTo u vs ws = some vs' → vs'.length = vs.length + ws.length := by
  induction ws with
  | nil => intro vs vs' h; simp [prefTo] at h; subst h; rfl
  | cons w ws ih =>
    intro vs vs' h
    rw [prefTo] at h
    split at h
    · cases h
    · have := ih _ _ h
      simp at this ⊢; omega
theorem clTo_lt (ws : List (List UInt8)) : ∀ (c c' : Nat × Nat), c.1 < 512 → c.2 < 512 → clTo c ws = some c' → c'.1 < 512 ∧ c'.2 < 512 := by
  induction ws with
  | nil => intro c c' h1 h2 h; simp [clTo] at h; subst h; exact ⟨h1, h2⟩
  | cons w ws ih =>
    intro c c' h1 h2 h
    rw [clTo] at h
    split at h
    · have := withLit_lt c (litNum w) h1 h2
      exact ih _ _ this.1 this.2 h
    · cases h
theorem qLine_ok {q q' : QS} {k : Nat} {r : List UInt8} (hr : r.length ≤ 2000) (hq : QOk q k) (h : qLine q r = some q') : QOk q' (k + 1) := by
  unfold qLine at h
  split at h
  · split at h
    · cases h
    · next hd tl hws =>
      have hwl : (cutAt 32 r).length ≤ 2001 := by have := cutTo_size 32 r; simp [cutAt]; omega
      rw [hws] at hwl
      simp at hwl
      have hpre : ∀ u vs, qPrefix q tl u = some vs → vs.length ≤ 2001 * (k + 1) := by
        intro u vs hv
        unfold qPrefix at hv
        split at hv
        · cases hv
        · have := prefTo_len u tl _ _ hv
          have := hq.vl
          omega
      unfold qOf at h
      split at h
      · cases hp : qPrefix q tl false with
        | none => rw [hp] at h; cases h
        | some vs =>
          rw [hp] at h; simp at h; subst h
          exact ⟨hpre _ _ hp, Nat.le_succ_of_le hq.ll, hq.cl⟩
      · split at h
        · cases hp : qPrefix q tl true with
          | none => rw [hp] at h; cases h
          | some vs =>
            rw [hp] at h; simp at h; subst h
            exact ⟨hpre _ _ hp, Nat.le_succ_of_le hq.ll, hq.cl⟩
        · split at h
          · cases hp : clTo (0, 0) tl with
            | none => rw [hp] at h; cases h
            | some c =>
              rw [hp] at h; simp at h; subst h
              refine ⟨by have := hq.vl; dsimp only; omega, by have := hq.ll; simp; omega, ?_⟩
              intro c' hc'
              simp at hc'
              rcases hc' with hc' | hc'
              · exact hq.cl c' hc'
              · subst hc'; exact clTo_lt tl _ _ (by decide) (by decide) hp
          · cases h
  · cases h

def LoadPost (l : List UInt8) (w : World) (e : Ending) (w' : World) : Prop :=
  Below w.heap.size w w' ∧ match loadSpec l with
    | .inl (x, i) => e = .returned (.tuple #[.agg #[.slice none 0 0, .slice none 0 0], .int .i64 (x : Int), .int .i64 (i : Int)])
    | .inr q => ∃ vV vC, e = .returned (.tuple #[.agg #[vV, vC], .int .i64 0, .int .i64 0]) ∧ w'.ownsRow w.heap.size 91 2 vV q.vars.length (varCells q.vars) ∧ w'.ownsRow w.heap.size 96 2 vC q.cl.length (pairs q.cl)

set_option maxRecDepth 100000 in
set_option maxHeartbeats 1600000 in
theorem qload_any (l : List UInt8) (w : World) : Calls Try.prog 15 #[.string ⟨l.toArray⟩] w fun e w' => LoadPost l w e w' := by
  by_cases hlong : 2000 < l.length
  · have hd : decide ((2000 : Int) < (l.length : Int)) = true := by simp; omega
    have HF : Hid (loadSpec l = .inl (1, 0)) := hide (by unfold loadSpec; rw [if_pos hlong])
    clear hlong
    go_enter Try.func15, Try.ntmps15
    go_wp2_with fail
    refine bodyPost_ret (v := .tuple #[.agg #[.slice none 0 0, .slice none 0 0], .int .i64 1, .int .i64 0]) (by simp [results, Try.results15, go_sem]) rfl ⟨(Below.refl _ _).alloc (Nat.le_refl _) _, ?_⟩
    rw [unhide HF]; rfl
  · have hl : l.length ≤ 2000 := by omega
    have hd : decide ((2000 : Int) < (l.length : Int)) = false := by simp; omega
    have hdr := cutTo_size 10 l
    have HSP : Hid (loadSpec l = match qRows ⟨[], []⟩ 0 (cutTo 10 l).1 with
      | .inr i => .inl (2, i)
      | .inl q => if (cutTo 10 l).2 ≠ [] then .inl (2, (cutTo 10 l).1.length + 1) else if 24 < q.cl.length then .inl (3, 0) else .inr (qFinish q)) := hide (by unfold loadSpec; rw [if_neg hlong])
    clear hlong
    go_enter Try.func15, Try.ntmps15
    go_wp2_with fail
    refine (lines_any l _ (by omega)).mono ?_
    rintro e w1 ⟨v, rfl, hown, hb1⟩
    have hsz1 : w.heap.size < w1.heap.size := by have := hb1.size; simp at this; omega
    have hb0 : Below w.heap.size w w1 := ((Below.refl _ _).alloc (Nat.le_refl _) _).trans (hb1.mono (by simp))
    have hbr : w1.heap[w.heap.size]? = some (.cells #[.slice none 0 0, .slice none 0 0] 44 (0, 0)) := by
      rw [hb1.block _ (by simp)]; exact heap_alloc_new _ _
    have HRL : Hid (∀ r ∈ (cutTo 10 l).1, r.length ≤ 2000) := hide (fun r hr => by
      have := cutAt_len 10 l r (by unfold cutAt; exact List.mem_append_left _ hr); omega)
    generalize hrows : (cutTo 10 l).1 = rows at *
    obtain ⟨aL, cL, rfl⟩ := own_form hown
    obtain ⟨ended, hended⟩ : ∃ b, decide ((cutTo 10 l).2 = []) = b := ⟨_, rfl⟩
    rw [hended]
    have HE := hide hended
    clear hended hrows
    have hown1 := own_lo (lo := 0) hown (Nat.zero_le _)
    clear hown
    have hrows2 : rows.length ≤ 2000 := by omega
    clear hdr
    go_wp2_with fail
    go_loopg [22] (rows.length) (fun n i wx => ∃ (k : Nat) (q : QS) (vV vC : Value), i = .int .i64 k ∧ k + n = rows.length ∧ QOk q k ∧ QInv (w1.heap.size + 1) wx w1.heap.size q vV vC ∧ Below w1.heap.size w1 wx ∧ qRows ⟨[], []⟩ 0 rows = qRows q k (rows.drop k))
    case atStart =>
      exact ⟨0, ⟨[], []⟩, _, _, rfl, by omega, ⟨by simp, by simp, by simp⟩, ⟨heap_alloc_new _ _, World.ownsRow_nil _ _ _ _, World.ownsRow_nil _ _ _ _⟩, (Below.refl _ _).alloc (Nat.le_refl _) _, rfl⟩
    case round =>
      obtain ⟨k, q, vV, vC, rfl, hk, hqo, hqi, hbx, hrr⟩ := hrel
      have hvl := hqo.vl
      have hll := hqo.ll
      have hbrx : wr.heap[w.heap.size]? = some (.cells #[.slice none 0 0, .slice none 0 0] 44 (0, 0)) := (hbx.block _ hsz1).trans hbr
      have hr0 : wr.cell? ⟨w.heap.size, 0, none⟩ = some (.slice none 0 0) := by rw [blk_cell hbrx]; rfl
      have hr1 : wr.cell? ⟨w.heap.size, 1, none⟩ = some (.slice none 0 0) := by rw [blk_cell hbrx]; rfl
      by_cases hlt : k < rows.length
      · obtain ⟨g, cap, hV, hg, hg', _, hcell⟩ := own_pos hown1 (by omega)
        injection hV with hV _ hV2
        subst hV hV2
        have hcj : wr.cell? ⟨g, k, none⟩ = some (S rows[k]) := by
          rw [hbx.cell (p := ⟨g, k, none⟩) hg']; exact hcell k _ (by simp [hlt])
        have hrl := unhide HRL _ (List.getElem_mem hlt)
        rw [List.drop_eq_getElem_cons hlt, qRows] at hrr
        have HRR := hide hrr; clear hrr hcell
        go_wp2_with fail
        refine (readLine_any w1.heap.size q vV vC rows[k] wr hqi hrl (by omega) (by omega)).mono ?_
        rintro e w2 ⟨hb2, hp⟩
        have hb3 : Below w1.heap.size w1 w2 := hbx.trans hb2
        cases hq : qLine q rows[k] with
        | none =>
          rw [hq] at hp
          have hp' : e = .returned (.bool false) := hp
          subst hp'
          have HF : Hid (loadSpec l = .inl (2, k + 1)) := hide (by rw [unhide HSP, unhide HRR, hq])
          have hbr2 : w2.heap[w.heap.size]? = some (.cells #[.slice none 0 0, .slice none 0 0] 44 (0, 0)) := (hb3.block _ hsz1).trans hbr
          have hs0 : w2.cell? ⟨w.heap.size, 0, none⟩ = some (.slice none 0 0) := by rw [blk_cell hbr2]; rfl
          have hs1 : w2.cell? ⟨w.heap.size, 1, none⟩ = some (.slice none 0 0) := by rw [blk_cell hbr2]; rfl
          have hz0 := blk_free hbr2 0
          have hz1 := blk_free hbr2 1
          clear hp
          go_wp2_with fail
          refine bodyPost_ret (v := .tuple #[.agg #[.slice none 0 0, .slice none 0 0], .int .i64 2, .int .i64 ((k : Int) + 1)]) (by simp [results, Try.results15, go_sem, hs0, hs1]) rfl ⟨?_, ?_⟩
          · exact ((hb0.trans (hb3.mono (by omega))).setCell (p := ⟨w.heap.size, 0, none⟩) (Nat.le_refl _) _).setCell (p := ⟨w.heap.size, 1, none⟩) (Nat.le_refl _) _
          · rw [unhide HF]; exact congrArg (fun m : Int => Ending.returned (.tuple #[.agg #[.slice none 0 0, .slice none 0 0], .int .i64 2, .int .i64 m])) (by omega)
        | some q' =>
          rw [hq] at hp
          have hp' : e = .returned (.bool true) ∧ ∃ vV vC, QInv (w1.heap.size + 1) w2 w1.heap.size q' vV vC := hp
          obtain ⟨rfl, vV', vC', hqi'⟩ := hp'
          have HF : Hid (qRows ⟨[], []⟩ 0 rows = qRows q' (k + 1) (rows.drop (k + 1))) := hide (by rw [unhide HRR, hq])
          have HQO := hide (qLine_ok hrl hqo hq)
          clear hp hq
          go_wp2_with fail
          go_roundg (gk - 1)
          case measure => omega
          case rel => exact ⟨k + 1, q', vV', vC', by go_num, by omega, unhide HQO, hqi', hb3, unhide HF⟩
      · have hkl : k = rows.length := by omega
        subst hkl
        rw [List.drop_length] at hrr
        have HRR : Hid (qRows ⟨[], []⟩ 0 rows = .inl q) := hide hrr
        clear hrr
        have hz0 := blk_free hbrx 0
        have hz1 := blk_free hbrx 1
        cases ended with
        | false =>
          have HF : Hid (loadSpec l = .inl (2, rows.length + 1)) := hide (by
            rw [unhide HSP, unhide HRR]; dsimp only; rw [if_pos (of_decide_eq_false (unhide HE))])
          go_wp2_with fail
          refine bodyPost_ret (v := .tuple #[.agg #[.slice none 0 0, .slice none 0 0], .int .i64 2, .int .i64 ((rows.length : Int) + 1)]) (by simp [results, Try.results15, go_sem, hr0, hr1]) rfl ⟨?_, ?_⟩
          · exact ((hb0.trans (hbx.mono (by omega))).setCell (p := ⟨w.heap.size, 0, none⟩) (Nat.le_refl _) _).setCell (p := ⟨w.heap.size, 1, none⟩) (Nat.le_refl _) _
          · rw [unhide HF]; exact congrArg (fun m : Int => Ending.returned (.tuple #[.agg #[.slice none 0 0, .slice none 0 0], .int .i64 2, .int .i64 m])) (by omega)
        | true =>
          have hf1 : wr.cell? ⟨w1.heap.size, 1, none⟩ = some vC := by rw [blk_cell hqi.fb]; rfl
          obtain ⟨aC, cC, rfl⟩ := own_form hqi.oC
          by_cases h24 : 24 < q.cl.length
          · have hd24 : decide ((24 : Int) < (q.cl.length : Int)) = true := by simp; omega
            have HF : Hid (loadSpec l = .inl (3, 0)) := hide (by
              rw [unhide HSP, unhide HRR]; dsimp only; rw [if_neg (fun h => h (of_decide_eq_true (unhide HE))), if_pos h24])
            go_wp2_with fail
            refine bodyPost_ret (v := .tuple #[.agg #[.slice none 0 0, .slice none 0 0], .int .i64 3, .int .i64 0]) (by simp [results, Try.results15, go_sem, hr0, hr1]) rfl ⟨?_, ?_⟩
            · exact ((hb0.trans (hbx.mono (by omega))).setCell (p := ⟨w.heap.size, 0, none⟩) (Nat.le_refl _) _).setCell (p := ⟨w.heap.size, 1, none⟩) (Nat.le_refl _) _
            · rw [unhide HF]; rfl
          · have hd24 : decide ((24 : Int) < (q.cl.length : Int)) = false := by simp; omega
            have HF : Hid (loadSpec l = .inr (qFinish q)) := hide (by
              rw [unhide HSP, unhide HRR]; dsimp only; rw [if_neg (fun h => h (of_decide_eq_true (unhide HE))), if_neg h24])
            go_wp2_with fail
            refine (withFree_any (w1.heap.size + 1) w1.heap.size q vV _ wr hqi (by omega) (by omega) hqo.cl).mono ?_
            rintro e w2 ⟨v2, rfl, hown2, hb2⟩
            have hqi2 := hqi.later hb2
            have hbq : w1.heap.size < wr.heap.size := blk_lt hqi.fb
            have hbr2 : w2.heap[w.heap.size]? = some (.cells #[.slice none 0 0, .slice none 0 0] 44 (0, 0)) := (hb2.block _ (by omega)).trans hbrx
            have hs0 : w2.cell? ⟨w.heap.size, 0, none⟩ = some (.slice none 0 0) := by rw [blk_cell hbr2]; rfl
            have hs1 : w2.cell? ⟨w.heap.size, 1, none⟩ = some (.slice none 0 0) := by rw [blk_cell hbr2]; rfl
            have hy0 := blk_free hbr2 0
            have hy1 := blk_free hbr2 1
            have hg0 : w2.cell? ⟨w1.heap.size, 0, none⟩ = some vV := by rw [blk_cell hqi2.fb]; rfl
            have hg1 : w2.cell? ⟨w1.heap.size, 1, none⟩ = some (.slice aC q.cl.length cC) := by rw [blk_cell hqi2.fb]; rfl
            have hx0 := blk_free hqi2.fb 0
            have hne1 : w.heap.size ≠ w1.heap.size := by omega
            have hne2 : w1.heap.size ≠ w.heap.size := by omega
            obtain ⟨a2, c2, rfl⟩ := own_form hown2
            have hbel : Below w.heap.size w w2 := hb0.trans ((hbx.trans (hb2.mono (by omega))).mono (by omega))
            have hO1 := ownsRow_setCell_below (ownsRow_setCell_below (ownsRow_setCell_below hown2 (a := ⟨w1.heap.size, 0, none⟩) (by exact hbq) (.slice a2 (exv (freeQ q 8) ++ q.vars).length c2)) (a := ⟨w.heap.size, 0, none⟩) (show w.heap.size < wr.heap.size by omega) (.slice a2 (exv (freeQ q 8) ++ q.vars).length c2)) (a := ⟨w.heap.size, 1, none⟩) (show w.heap.size < wr.heap.size by omega) (.slice aC q.cl.length cC)
            have hO2 := ownsRow_setCell_below (ownsRow_setCell_below (ownsRow_setCell_below hqi2.oC (a := ⟨w1.heap.size, 0, none⟩) (Nat.lt_succ_self _) (.slice a2 (exv (freeQ q 8) ++ q.vars).length c2)) (a := ⟨w.heap.size, 0, none⟩) (show w.heap.size < w1.heap.size + 1 by omega) (.slice a2 (exv (freeQ q 8) ++ q.vars).length c2)) (a := ⟨w.heap.size, 1, none⟩) (show w.heap.size < w1.heap.size + 1 by omega) (.slice aC q.cl.length cC)
            have HO1 := hide hO1
            have HO2 := hide hO2
            clear hO1 hO2
            generalize hnn : (exv (freeQ q 8) ++ q.vars).length = nn at *
            go_wp2_with fail
            refine bodyPost_ret (v := .tuple #[.agg #[.slice a2 nn c2, .slice aC q.cl.length cC], .int .i64 0, .int .i64 0]) (by simp [results, Try.results15, go_sem, hs0, hs1]) rfl ⟨?_, ?_⟩
            · exact ((hbel.setCell (p := ⟨w1.heap.size, 0, none⟩) (by exact Nat.le_of_lt hsz1) _).setCell (p := ⟨w.heap.size, 0, none⟩) (Nat.le_refl _) _).setCell (p := ⟨w.heap.size, 1, none⟩) (Nat.le_refl _) _
            · rw [unhide HF]
              refine ⟨_, _, rfl, ?_, ?_⟩
              · have := own_lo (lo := w.heap.size) (unhide HO1) (by omega)
                show World.ownsRow _ w.heap.size _ 2 _ (exv (freeQ q 8) ++ q.vars).length (varCells (exv (freeQ q 8) ++ q.vars))
                rw [hnn]; exact this
              · exact own_lo (lo := w.heap.size) (unhide HO2) (by omega)
end Go.Proofs.Ytbpolmdokdhkhaa
