/- Contracts of the model's Void, OfHead, Format, Block, Part, Wall, Head. -/
import Derived.Test.YtmkgabbgmhoneaaKtP
namespace Go.Proofs.Ytmkgabbgmhoneaa.Sg
open Go.ChangeShapes Go.WideShapes Go.ChangeAt Go.RowKit

theorem ret_k {a b : Bool} (h : a = b) : Ending.returned (.bool a) = .returned (.bool b) := by rw [h]


end Go.Proofs.Ytmkgabbgmhoneaa.Sg
