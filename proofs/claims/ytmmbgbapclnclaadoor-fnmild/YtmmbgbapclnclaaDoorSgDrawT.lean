/- Texts that are drawn: picks out of lists of strings, and the texts of chapter 1. -/
import Derived.Test.YtmmbgbapclnclaaDoorSgDrawN
namespace Go.Proofs.YtmmbgbapclnclaaDoor.Sg
open Go.ChangeShapes Go.WideShapes Go.ChangeAt Go.RowKit


end Go.Proofs.YtmmbgbapclnclaaDoor.Sg
