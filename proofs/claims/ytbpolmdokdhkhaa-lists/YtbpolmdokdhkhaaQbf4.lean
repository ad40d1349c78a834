import Derived.Test.YtbpolmdokdhkhaaQbf3
namespace Go.Proofs.Ytbpolmdokdhkhaa
open Go.RowKit

def qOf (q : QS) (hd : List UInt8) (tl : List (List UInt8)) : Option QS :=
  if hd = [101] then (qPrefix q tl false).map (fun vs => { q with vars := vs })
  else if hd = [97] then (qPrefix q tl true).map (fun vs => { q with vars := vs })
  else if hd = [99] then (clTo (0, 0) tl).map (fun c => { q with cl := q.cl ++ [c] })
  else none
def qLine (q : QS) (line : List UInt8) : Option QS :=
  if splitOk line then (match cutAt 32 line with | [] => none | hd :: tl => qOf q hd tl) else none
theorem qLine_eq (q : QS) (line hd : List UInt8) (tl : List (List UInt8)) (h : cutAt 32 line = hd :: tl) (hs : splitOk line = true) : qLine q line = qOf q hd tl := by
  unfold qLine; rw [if_pos hs, h]
def LinePost (bq : Nat) (q : QS) (line : List UInt8) (w : World) (e : Ending) (w' : World) : Prop :=
  Below bq w w' ∧ match qLine q line with
    | none => e = .returned (.bool false)
    | some q' => e = .returned (.bool true) ∧ ∃ vV vC, QInv (bq + 1) w' bq q' vV vC

theorem line_of_pref {bq : Nat} {q : QS} {vC : Value} {tl : List (List UInt8)} {u : Bool} {line : List UInt8} {w w2 w3 : World} {e : Ending} (hb : Below w.heap.size w w2) (hbq : bq < w.heap.size) (hp : PrefPost bq q vC tl u w2 e w3)
    (hq : qLine q line = (qPrefix q tl u).map (fun vs => { q with vars := vs })) : LinePost bq q line w e w3 := by
  obtain ⟨h1, h2⟩ := hp
  refine ⟨(hb.mono (Nat.le_of_lt hbq)).trans h1, ?_⟩
  rw [hq]
  cases h : qPrefix q tl u with
  | none => rw [h] at h2; exact h2
  | some vs => rw [h] at h2; obtain ⟨h3, vV, h4⟩ := h2; exact ⟨h3, vV, vC, h4⟩
theorem line_of_cl {bq : Nat} {q : QS} {vV : Value} {tl : List (List UInt8)} {line : List UInt8} {w w2 w3 : World} {e : Ending} (hb : Below w.heap.size w w2) (hbq : bq < w.heap.size) (hp : ClPost bq q vV tl w2 e w3)
    (hq : qLine q line = (clTo (0, 0) tl).map (fun c => { q with cl := q.cl ++ [c] })) : LinePost bq q line w e w3 := by
  obtain ⟨h1, h2⟩ := hp
  refine ⟨(hb.mono (Nat.le_of_lt hbq)).trans h1, ?_⟩
  rw [hq]
  cases h : clTo (0, 0) tl with
  | none => rw [h] at h2; exact h2
  | some c => rw [h] at h2; obtain ⟨h3, vC, h4⟩ := h2; exact ⟨h3, vV, vC, h4⟩

theorem line_ret {bq : Nat} {q : QS} {line : List UInt8} {w w' : World} {e : Ending} (h : LinePost bq q line w e w') : ∃ b, e = .returned (.bool b) := by
  obtain ⟨_, h2⟩ := h
  cases hq : qLine q line with
  | none => rw [hq] at h2; exact ⟨_, h2⟩
  | some q' => rw [hq] at h2; exact ⟨_, h2.1⟩

set_option maxRecDepth 100000 in
set_option maxHeartbeats 1600000 in
theorem readLine_any (bq : Nat) (q : QS) (vV vC : Value) (line : List UInt8) (w : World) (hq : QInv (bq + 1) w bq q vV vC) (hl : line.length ≤ 2000) (hvl : q.vars.length ≤ 536870912) (hcl : q.cl.length ≤ 1048576) :
    Calls Try.prog 21 #[.pointer (some ⟨bq, 0, none⟩), .string ⟨line.toArray⟩] w fun e w' => LinePost bq q line w e w' := by
  have hbq := blk_lt hq.fb
  go_enter Try.func21, Try.ntmps21
  go_wp2_with fail
  refine (split_any line w (by omega)).mono ?_
  rintro e w2 ⟨hb, hsp⟩
  cases hok : splitOk line with
  | false =>
    rw [hok, if_neg (by decide)] at hsp
    subst hsp
    have HF : Hid (qLine q line = none) := hide (by unfold qLine; rw [hok]; rfl)
    go_wp2_with fail
    go_ret
    exact ⟨hb.mono (Nat.le_of_lt hbq), by rw [unhide HF]; rfl⟩
  | true =>
    rw [hok, if_pos rfl] at hsp
    obtain ⟨v, rfl, hown⟩ := hsp
    have hwl : (cutAt 32 line).length ≤ 2001 := by have := cutTo_size 32 line; simp [cutAt]; omega
    have hwl2 : ∀ x ∈ cutAt 32 line, x.length ≤ 1048576 := fun x hx => by have := cutAt_len 32 line x hx; omega
    obtain ⟨hd, tl, hws⟩ : ∃ hd tl, cutAt 32 line = hd :: tl := by
      cases h : cutAt 32 line with
      | nil => simp [cutAt] at h
      | cons a b => exact ⟨a, b, rfl⟩
    have HQ := hide (qLine_eq q line hd tl hws hok)
    rw [hws] at hown hwl hwl2
    clear hws hok
    rcases hown.2 with ⟨_, h0⟩ | ⟨g, cap, cur, rfl, hbg, hg, hnc, hcm, hcs, htake⟩
    · simp at h0
    simp only [List.length_cons] at hwl hnc
    have hc0 : w2.cell? ⟨g, 0, none⟩ = some (S hd) := by
      rw [hown.cellAt 0 (by simp)]; rfl
    have HST : Hid (∀ ao : Option Addr, (tl ≠ [] → ao = some ⟨g, 1, none⟩) → StrsAt w2 ao tl) := hide (fun ao ho hne => ⟨g, 1, cur, ho hne, hg, fun j hj => by
      have h1 := hown.cellAt (1 + j) (by simp; omega)
      rw [blk_cell hg] at h1
      rw [h1]
      simp [show 1 + j = j + 1 from by omega, hj]⟩)
    have HWL : Hid (∀ x ∈ tl, x.length ≤ 1048576) := hide (fun x hx => hwl2 x (List.mem_cons_of_mem _ hx))
    have hq2 := hq.later hb
    clear hwl2 htake hcs hcm hg
    simp only [List.length_cons]
    have hne0 : (((tl.length + 1 : Nat) : Int) == 0) = false := by rw [beq_eq_false_iff_ne]; omega
    by_cases he : hd = [101]
    · subst he
      have HR : Hid (qLine q line = (qPrefix q tl false).map (fun vs => { q with vars := vs })) := hide (by rw [unhide HQ]; rfl)
      go_wp2_with fail
      all_goals
        refine (readPrefix_any bq q vV vC tl false _ _ w2 hq2 (unhide HST _ (fun hne => by first | rfl | (exfalso; apply hne; exact List.eq_nil_of_length_eq_zero (by omega)))) (by omega) (unhide HWL) hvl hcl).mono ?_
        intro e w3 hp
        have hL := line_of_pref (line := line) hb hbq hp (unhide HR)
        obtain ⟨b, rfl⟩ := line_ret hL
        have HL := hide hL
        clear hp hL
        go_wp2_with fail
        go_ret
        exact unhide HL
    · have heb : (hd == [101]) = false := by simp [he]
      by_cases ha : hd = [97]
      · subst ha
        have HR : Hid (qLine q line = (qPrefix q tl true).map (fun vs => { q with vars := vs })) := hide (by rw [unhide HQ]; rfl)
        go_wp2_with fail
        all_goals
          refine (readPrefix_any bq q vV vC tl true _ _ w2 hq2 (unhide HST _ (fun hne => by first | rfl | (exfalso; apply hne; exact List.eq_nil_of_length_eq_zero (by omega)))) (by omega) (unhide HWL) hvl hcl).mono ?_
          intro e w3 hp
          have hL := line_of_pref (line := line) hb hbq hp (unhide HR)
          obtain ⟨b, rfl⟩ := line_ret hL
          have HL := hide hL
          clear hp hL
          go_wp2_with fail
          go_ret
          exact unhide HL
      · have hab : (hd == [97]) = false := by simp [ha]
        by_cases hc : hd = [99]
        · subst hc
          have HR : Hid (qLine q line = (clTo (0, 0) tl).map (fun c => { q with cl := q.cl ++ [c] })) := hide (by rw [unhide HQ]; rfl)
          go_wp2_with fail
          all_goals
            refine (readClause_any bq q vV vC tl _ _ w2 hq2 (unhide HST _ (fun hne => by first | rfl | (exfalso; apply hne; exact List.eq_nil_of_length_eq_zero (by omega)))) (by omega) (unhide HWL) hcl).mono ?_
            intro e w3 hp
            have hL := line_of_cl (line := line) hb hbq hp (unhide HR)
            obtain ⟨b, rfl⟩ := line_ret hL
            have HL := hide hL
            clear hp hL
            go_wp2_with fail
            go_ret
            exact unhide HL
        · have hcb : (hd == [99]) = false := by simp [hc]
          have HR : Hid (qLine q line = none) := hide (by rw [unhide HQ, qOf, if_neg he, if_neg ha, if_neg hc])
          clear he ha hc
          go_wp2_with fail
          all_goals
            go_ret
            exact ⟨hb.mono (Nat.le_of_lt hbq), by rw [unhide HR]; rfl⟩
end Go.Proofs.Ytbpolmdokdhkhaa
