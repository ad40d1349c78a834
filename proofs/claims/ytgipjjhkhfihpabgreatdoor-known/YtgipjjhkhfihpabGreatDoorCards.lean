/-
  DERIVED. GIVEN WITH THE SEED: THE CARDS: each row of YtgipjjhkhfihpabGreatDoorRows.lean that lists a variable, with what it lists TIED to the program's text (the seventh form; the later family's looks); each row that meets fmt, with fmt's text TOLD by the authors' own Lean function (tested against real Go, not proved from fmt's source: count such statements apart). THE CARD IS WHAT COUNTS. Prove the row's statement (the work); the ties are given (YtgipjjhkhfihpabGreatDoorTie.lean); close each card by the builder's one call (the guide's Derived/Test/ToyasCard.lean, 'card_holds'). Laid BY PROGRAM, IN A SANDBOX (cutbox-door.mjs). By AI agents, Wed Nov 11 2026. No macro, syntax, notation, axiom, sorry.
-/
import Derived.Test.YtgipjjhkhfihpabGreatDoorRows
import GoSem.ClaimSeven
namespace Go.Proofs.YtgipjjhkhfihpabGreatDoor
namespace Rows

/-- THE TIED CARD OF 'duelkeep.Known'. -/
def knownCard : Claim7 := { stood := { row := knownRow, standIns := [], harness := (true, "abdc7a0636f47691e3c240b598bb4cbb522d19fc9a19af7cfb576fa54957bde3"), looks := false }, kinds := [], alts := [], laidByText := true, laidKinds := [.data, .data, .data], laidTests := true, laidLooks := .later }
def KnownCardSaid : Prop := Claim7.holds Tryz.pinned (.plain (OpenSpec.ofChange knownSpec)) knownCard

/-- THE TIED CARD OF 'duelkeep.Won'. -/
def wonCard : Claim7 := { stood := { row := wonRow, standIns := [], harness := (true, "abdc7a0636f47691e3c240b598bb4cbb522d19fc9a19af7cfb576fa54957bde3"), looks := false }, kinds := [], alts := [], laidByText := true, laidKinds := [.data, .data, .data], laidTests := true, laidLooks := .later }
def WonCardSaid : Prop := Claim7.holds Tryz.pinned (.plain (OpenSpec.ofChange wonSpec)) wonCard

/-- THE SECOND FORM's CARD OF 'duelkeep.Known'. -/
def knownUptoCard : Claim7 := { stood := { row := knownUptoRow, standIns := [], harness := (true, "abdc7a0636f47691e3c240b598bb4cbb522d19fc9a19af7cfb576fa54957bde3"), looks := false }, kinds := [], alts := [], laidByText := true, laidKinds := [.data, .data, .data], laidTests := true, laidLooks := .later }
def KnownUptoCardSaid : Prop := Claim7.holds Tryz.pinned (.plain (OpenSpec.upto knownSpec)) knownUptoCard

/-- THE SECOND FORM's CARD OF 'duelkeep.Won'. -/
def wonUptoCard : Claim7 := { stood := { row := wonUptoRow, standIns := [], harness := (true, "abdc7a0636f47691e3c240b598bb4cbb522d19fc9a19af7cfb576fa54957bde3"), looks := false }, kinds := [], alts := [], laidByText := true, laidKinds := [.data, .data, .data], laidTests := true, laidLooks := .later }
def WonUptoCardSaid : Prop := Claim7.holds Tryz.pinned (.plain (OpenSpec.upto wonSpec)) wonUptoCard
end Rows
end Go.Proofs.YtgipjjhkhfihpabGreatDoor
