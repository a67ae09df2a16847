/- Below, one behind the other. -/
import Derived.Test.YtfbnhjogkjbcbaaDoorSgOk
import Derived.Below
namespace Go.Proofs.YtfbnhjogkjbcbaaDoor.Sg
open Go.ChangeShapes Go.WideShapes Go.ChangeAt Go.RowKit

theorem below_from {w a b : World} (h : Below w.heap.size w a) (k : Below a.heap.size a b) : Below w.heap.size w b := h.trans (k.mono h.size)

end Go.Proofs.YtfbnhjogkjbcbaaDoor.Sg
