import Derived.Test.YtgipjjhkhfihpabGreatDoorAB
namespace Go.Proofs.YtgipjjhkhfihpabGreatDoor
open Go.RowKit

end Go.Proofs.YtgipjjhkhfihpabGreatDoor
