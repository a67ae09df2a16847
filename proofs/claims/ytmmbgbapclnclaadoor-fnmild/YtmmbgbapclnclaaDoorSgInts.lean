/- Contracts of the helpers on slices of ints that the laws use: a copy, and whether two hold the same. -/
import Derived.Test.YtmmbgbapclnclaaDoorGInts
namespace Go.Proofs.YtmmbgbapclnclaaDoor.Sg
open Go.ChangeShapes Go.WideShapes Go.ChangeAt Go.RowKit



end Go.Proofs.YtmmbgbapclnclaaDoor.Sg
