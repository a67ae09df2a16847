/- Contracts of the helpers on slices of ints that the laws use: a copy, and whether two hold the same. -/
import Derived.Test.YtlghkbcdaoijhaaDoorGInts
namespace Go.Proofs.YtlghkbcdaoijhaaDoor.Sg
open Go.ChangeShapes Go.WideShapes Go.ChangeAt Go.RowKit



end Go.Proofs.YtlghkbcdaoijhaaDoor.Sg
