import Derived.Test.YtbpolmdokdhkhaaQBlocks
import Derived.Test.YtbpolmdokdhkhaaLoad
namespace Go.Proofs.Ytbpolmdokdhkhaa
open Go.RowKit

set_option maxRecDepth 100000 in
set_option maxHeartbeats 800000 in
theorem dblocks_any (lo b : Nat) (q : QS) (w : World) (hP : ProgAt lo w b q) (hl : q.vars.length ≤ 1048576) :
    Calls Try.prog 55 #[.pointer (some ⟨b, 0, none⟩)] w fun e w' => QBlocksPost q.vars w e w' := by
  obtain ⟨_, vV, vC, hb, hV, hC⟩ := hP
  obtain ⟨aV, cV, rfl⟩ := own_form hV
  have hf : w.cell? ⟨b, 0, none⟩ = some (.slice aV q.vars.length cV) := by rw [blk_cell hb]; rfl
  have hbl := blk_lt hb
  go_enter Try.func55, Try.ntmps55
  go_wp2_with fail
  refine (qblocks_any lo b q w aV cV hf hbl hV hl).mono ?_
  intro e w1 hp
  obtain ⟨v, hdrs, rfl, h1, h2, h3⟩ := hp
  obtain ⟨av, cv, rfl⟩ := own_form h1
  go_wp2_with fail
  go_ret
  exact ⟨_, hdrs, rfl, h1, h2, h3⟩
end Go.Proofs.Ytbpolmdokdhkhaa
