/- Contracts of the helpers on slices of ints that the laws use: a copy, and whether two hold the same. -/
import Derived.Test.YtfbnhjogkjbcbaaDoorGInts
namespace Go.Proofs.YtfbnhjogkjbcbaaDoor.Sg
open Go.ChangeShapes Go.WideShapes Go.ChangeAt Go.RowKit



end Go.Proofs.YtfbnhjogkjbcbaaDoor.Sg
