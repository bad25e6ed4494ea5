import Derived.Test.YtjeifnhfdbkkdaaGreatDoorWalkTakesAllP29
import Derived.Test.YtjeifnhfdbkkdaaGreatDoorWalkTakesAllP9
/- The document's answers for layer 6 (package sundialref06), held to the same plain lists of words. -/
namespace Go.Proofs.YtjeifnhfdbkkdaaGreatDoor.CellsRef
set_option maxRecDepth 20000
open Go.ChangeShapes Go.WideShapes Go.RowKit CM Lay Ints Cells








end Go.Proofs.YtjeifnhfdbkkdaaGreatDoor.CellsRef
