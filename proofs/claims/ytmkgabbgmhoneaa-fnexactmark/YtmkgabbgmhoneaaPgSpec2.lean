/- Contracts of the model's l8Last, InTable, l8Find, TableOpen. -/
import Derived.Test.YtmkgabbgmhoneaaPgSpec
namespace Go.Proofs.Ytmkgabbgmhoneaa.Sg
open Go.ChangeShapes Go.WideShapes Go.ChangeAt Go.RowKit





end Go.Proofs.Ytmkgabbgmhoneaa.Sg
