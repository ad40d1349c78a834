/-
  DERIVED. GIVEN WITH THE SEED: THE CARDS: each row of YtgipjjhkhfihpaaDoorRows.lean that lists a variable, with what it lists TIED to the program's text (the seventh form; the later family's looks); each row that meets fmt, with fmt's text TOLD by the authors' own Lean function (tested against real Go, not proved from fmt's source: count such statements apart). THE CARD IS WHAT COUNTS. Prove the row's statement (the work); the ties are given (YtgipjjhkhfihpaaDoorTie.lean); close each card by the builder's one call (the guide's Derived/Test/ToyasCard.lean, 'card_holds'). Laid BY PROGRAM, IN A SANDBOX (cutbox-door.mjs). By AI agents, Wed Nov 11 2026. No macro, syntax, notation, axiom, sorry.
-/
import Derived.Test.YtgipjjhkhfihpaaDoorRows
import GoSem.ClaimSeven
namespace Go.Proofs.YtgipjjhkhfihpaaDoor
namespace Rows

/-- THE TIED CARD OF 'duelkeep.Budgets'. -/
def budgetsCard : Claim7 := { stood := { row := budgetsRow, standIns := [], harness := (true, "af7be8190f0c799fe84743a5c26873491e664bab1c0eba0d7a4cb4572ce5d572"), looks := false }, kinds := [], alts := [], laidByText := true, laidKinds := [.data, .data, .data], laidTests := true, laidLooks := .later }
def BudgetsCardSaid : Prop := Claim7.holds Tryd.pinned (.plain (OpenSpec.ofChange budgetsSpec)) budgetsCard

/-- THE TIED CARD OF 'duelkeep.Chain'. -/
def chainCard : Claim7 := { stood := { row := chainRow, standIns := [], harness := (true, "af7be8190f0c799fe84743a5c26873491e664bab1c0eba0d7a4cb4572ce5d572"), looks := false }, kinds := [], alts := [], laidByText := true, laidKinds := [.data, .data, .data], laidTests := true, laidLooks := .later }
def ChainCardSaid : Prop := Claim7.holds Tryd.pinned (.plain (OpenSpec.ofChange chainSpec)) chainCard

/-- THE TIED CARD OF 'duelkeep.Fewer'. -/
def fewerCard : Claim7 := { stood := { row := fewerRow, standIns := [], harness := (true, "af7be8190f0c799fe84743a5c26873491e664bab1c0eba0d7a4cb4572ce5d572"), looks := false }, kinds := [], alts := [], laidByText := true, laidKinds := [.data, .data, .data], laidTests := true, laidLooks := .later }
def FewerCardSaid : Prop := Claim7.holds Tryd.pinned (.plain (OpenSpec.ofChange fewerSpec)) fewerCard

/-- THE SECOND FORM's CARD OF 'duelkeep.Budgets'. -/
def budgetsUptoCard : Claim7 := { stood := { row := budgetsUptoRow, standIns := [], harness := (true, "af7be8190f0c799fe84743a5c26873491e664bab1c0eba0d7a4cb4572ce5d572"), looks := false }, kinds := [], alts := [], laidByText := true, laidKinds := [.data, .data, .data], laidTests := true, laidLooks := .later }
def BudgetsUptoCardSaid : Prop := Claim7.holds Tryd.pinned (.plain (OpenSpec.upto budgetsSpec)) budgetsUptoCard

/-- THE SECOND FORM's CARD OF 'duelkeep.Chain'. -/
def chainUptoCard : Claim7 := { stood := { row := chainUptoRow, standIns := [], harness := (true, "af7be8190f0c799fe84743a5c26873491e664bab1c0eba0d7a4cb4572ce5d572"), looks := false }, kinds := [], alts := [], laidByText := true, laidKinds := [.data, .data, .data], laidTests := true, laidLooks := .later }
def ChainUptoCardSaid : Prop := Claim7.holds Tryd.pinned (.plain (OpenSpec.upto chainSpec)) chainUptoCard

/-- THE SECOND FORM's CARD OF 'duelkeep.Fewer'. -/
def fewerUptoCard : Claim7 := { stood := { row := fewerUptoRow, standIns := [], harness := (true, "af7be8190f0c799fe84743a5c26873491e664bab1c0eba0d7a4cb4572ce5d572"), looks := false }, kinds := [], alts := [], laidByText := true, laidKinds := [.data, .data, .data], laidTests := true, laidLooks := .later }
def FewerUptoCardSaid : Prop := Claim7.holds Tryd.pinned (.plain (OpenSpec.upto fewerSpec)) fewerUptoCard
end Rows
end Go.Proofs.YtgipjjhkhfihpaaDoor
