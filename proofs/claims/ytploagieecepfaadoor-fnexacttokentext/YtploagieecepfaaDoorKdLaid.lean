/- What the proofs of rows with tables want. -/
import Derived.Test.YtploagieecepfaaDoorCards
import Derived.Test.YtploagieecepfaaDoorTie
import Derived.WalkKit
import Derived.ProofKit
import Derived.OpenShut
import Derived.ShutString
import Derived.ChangeOld
import Derived.Below
import Derived.Deep.DeepHandedRow
import Derived.Lib.LaidTab
import Derived.Lib.LaidU8T
namespace Go.Proofs.YtploagieecepfaaDoor.Sg

/-- A block of cells with other contents. -/
def refill (c : Array Value) : Obj → Obj
  | .cells _ t frozen => .cells c t frozen
  | o => o

end Go.Proofs.YtploagieecepfaaDoor.Sg
