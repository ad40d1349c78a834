/-
  DERIVED. GIVEN WITH THE SEED: THE CARDS: each row of YtgipjjhkhfihpabDoorRows.lean that lists a variable, with what it lists TIED to the program's text (the seventh form; the later family's looks); each row that meets fmt, with fmt's text TOLD by the authors' own Lean function (tested against real Go, not proved from fmt's source: count such statements apart). THE CARD IS WHAT COUNTS. Prove the row's statement (the work); the ties are given (YtgipjjhkhfihpabDoorTie.lean); close each card by the builder's one call (the guide's Derived/Test/ToyasCard.lean, 'card_holds'). Laid BY PROGRAM, IN A SANDBOX (cutbox-door.mjs). By AI agents, Wed Nov 11 2026. No macro, syntax, notation, axiom, sorry.
-/
import Derived.Test.YtgipjjhkhfihpabDoorRows
import GoSem.ClaimSeven
namespace Go.Proofs.YtgipjjhkhfihpabDoor
namespace Rows

/-- THE TIED CARD OF 'duelkeep.Turned'. -/
def turnedCard : Claim7 := { stood := { row := turnedRow, standIns := [], harness := (true, "88c2c835e3e22734e22e8b309c60de2dcf675987a3e0c67732da52b949c772f2"), looks := false }, kinds := [], alts := [], laidByText := true, laidKinds := [.data, .data, .data], laidTests := true, laidLooks := .later }
def TurnedCardSaid : Prop := Claim7.holds Tryd.pinned (.plain (OpenSpec.ofChange turnedSpec)) turnedCard

/-- THE TIED CARD OF 'duelkeep.Weaker'. -/
def weakerCard : Claim7 := { stood := { row := weakerRow, standIns := [], harness := (true, "88c2c835e3e22734e22e8b309c60de2dcf675987a3e0c67732da52b949c772f2"), looks := false }, kinds := [], alts := [], laidByText := true, laidKinds := [.data, .data, .data], laidTests := true, laidLooks := .later }
def WeakerCardSaid : Prop := Claim7.holds Tryd.pinned (.plain (OpenSpec.ofChange weakerSpec)) weakerCard

/-- THE TIED CARD OF 'duelkeep.Inward'. -/
def inwardCard : Claim7 := { stood := { row := inwardRow, standIns := [], harness := (true, "88c2c835e3e22734e22e8b309c60de2dcf675987a3e0c67732da52b949c772f2"), looks := false }, kinds := [], alts := [], laidByText := true, laidKinds := [.data, .data, .data], laidTests := true, laidLooks := .later }
def InwardCardSaid : Prop := Claim7.holds Tryd.pinned (.plain (OpenSpec.ofChange inwardSpec)) inwardCard

/-- THE TIED CARD OF 'duelkeep.Renamed'. -/
def renamedCard : Claim7 := { stood := { row := renamedRow, standIns := [], harness := (true, "88c2c835e3e22734e22e8b309c60de2dcf675987a3e0c67732da52b949c772f2"), looks := false }, kinds := [], alts := [], laidByText := true, laidKinds := [.data, .data, .data], laidTests := true, laidLooks := .later }
def RenamedCardSaid : Prop := Claim7.holds Tryd.pinned (.plain (OpenSpec.ofChange renamedSpec)) renamedCard

/-- THE TIED CARD OF 'duelkeep.Last'. -/
def lastCard : Claim7 := { stood := { row := lastRow, standIns := [], harness := (true, "88c2c835e3e22734e22e8b309c60de2dcf675987a3e0c67732da52b949c772f2"), looks := false }, kinds := [], alts := [], laidByText := true, laidKinds := [.data, .data, .data], laidTests := true, laidLooks := .later }
def LastCardSaid : Prop := Claim7.holds Tryd.pinned (.plain (OpenSpec.ofChange lastSpec)) lastCard

/-- THE SECOND FORM's CARD OF 'duelkeep.Turned'. -/
def turnedUptoCard : Claim7 := { stood := { row := turnedUptoRow, standIns := [], harness := (true, "88c2c835e3e22734e22e8b309c60de2dcf675987a3e0c67732da52b949c772f2"), looks := false }, kinds := [], alts := [], laidByText := true, laidKinds := [.data, .data, .data], laidTests := true, laidLooks := .later }
def TurnedUptoCardSaid : Prop := Claim7.holds Tryd.pinned (.plain (OpenSpec.upto turnedSpec)) turnedUptoCard

/-- THE SECOND FORM's CARD OF 'duelkeep.Weaker'. -/
def weakerUptoCard : Claim7 := { stood := { row := weakerUptoRow, standIns := [], harness := (true, "88c2c835e3e22734e22e8b309c60de2dcf675987a3e0c67732da52b949c772f2"), looks := false }, kinds := [], alts := [], laidByText := true, laidKinds := [.data, .data, .data], laidTests := true, laidLooks := .later }
def WeakerUptoCardSaid : Prop := Claim7.holds Tryd.pinned (.plain (OpenSpec.upto weakerSpec)) weakerUptoCard

/-- THE SECOND FORM's CARD OF 'duelkeep.Inward'. -/
def inwardUptoCard : Claim7 := { stood := { row := inwardUptoRow, standIns := [], harness := (true, "88c2c835e3e22734e22e8b309c60de2dcf675987a3e0c67732da52b949c772f2"), looks := false }, kinds := [], alts := [], laidByText := true, laidKinds := [.data, .data, .data], laidTests := true, laidLooks := .later }
def InwardUptoCardSaid : Prop := Claim7.holds Tryd.pinned (.plain (OpenSpec.upto inwardSpec)) inwardUptoCard

/-- THE SECOND FORM's CARD OF 'duelkeep.Renamed'. -/
def renamedUptoCard : Claim7 := { stood := { row := renamedUptoRow, standIns := [], harness := (true, "88c2c835e3e22734e22e8b309c60de2dcf675987a3e0c67732da52b949c772f2"), looks := false }, kinds := [], alts := [], laidByText := true, laidKinds := [.data, .data, .data], laidTests := true, laidLooks := .later }
def RenamedUptoCardSaid : Prop := Claim7.holds Tryd.pinned (.plain (OpenSpec.upto renamedSpec)) renamedUptoCard

/-- THE SECOND FORM's CARD OF 'duelkeep.Last'. -/
def lastUptoCard : Claim7 := { stood := { row := lastUptoRow, standIns := [], harness := (true, "88c2c835e3e22734e22e8b309c60de2dcf675987a3e0c67732da52b949c772f2"), looks := false }, kinds := [], alts := [], laidByText := true, laidKinds := [.data, .data, .data], laidTests := true, laidLooks := .later }
def LastUptoCardSaid : Prop := Claim7.holds Tryd.pinned (.plain (OpenSpec.upto lastSpec)) lastUptoCard
end Rows
end Go.Proofs.YtgipjjhkhfihpabDoor
