/- Contracts of the helpers on slices of ints that the laws use: a copy, and whether two hold the same. -/
import Derived.Test.YtbmmghkieolpkaaGreatDoorMW205
namespace Go.Proofs.YtbmmghkieolpkaaGreatDoor.Sg
open Go.ChangeShapes Go.WideShapes Go.ChangeAt Go.RowKit

end Go.Proofs.YtbmmghkieolpkaaGreatDoor.Sg
