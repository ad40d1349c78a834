import Derived.Test.YtgipjjhkhfihpabGreatDoorAF
namespace Go.Proofs.YtgipjjhkhfihpabGreatDoor
open Go.RowKit

/-! ### Units -/
end Go.Proofs.YtgipjjhkhfihpabGreatDoor
