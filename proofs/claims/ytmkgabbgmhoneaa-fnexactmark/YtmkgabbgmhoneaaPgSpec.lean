/- Contracts of the model's l8Name, l8Last, InTable. -/
import Derived.Test.YtmkgabbgmhoneaaPgMem
import Derived.Test.YtmkgabbgmhoneaaKtSpec
import Derived.Deep.Cut
import Derived.Deep.CutRange
import Derived.Lib.QuietBelow
import Derived.BigQuiet
namespace Go.Proofs.Ytmkgabbgmhoneaa.Sg
open Go.ChangeShapes Go.WideShapes Go.ChangeAt Go.RowKit

theorem ret_s {a b : ByteArray} (h : a = b) : Ending.returned (.string a) = .returned (.string b) := by rw [h]


end Go.Proofs.Ytmkgabbgmhoneaa.Sg
