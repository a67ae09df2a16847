/- A new cursor over the bytes of a draw; the numbers and texts of chapter 1 that are drawn from it. -/
import Derived.Test.YtmmbgbapclnclaaDoorGPick
import Derived.Test.YtmmbgbapclnclaaDoorSgPut
import Derived.Test.YtmmbgbapclnclaaDoorSgSigns
namespace Go.Proofs.YtmmbgbapclnclaaDoor.Sg
open Go.ChangeShapes Go.WideShapes Go.ChangeAt Go.RowKit



end Go.Proofs.YtmmbgbapclnclaaDoor.Sg
