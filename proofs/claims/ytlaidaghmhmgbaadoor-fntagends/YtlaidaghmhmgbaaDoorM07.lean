/- What the proofs of rows with tables want. The program's table of middle signs, as the row lays it. -/
import Derived.Test.YtlaidaghmhmgbaaDoorCards
import Derived.Test.YtlaidaghmhmgbaaDoorTie
import Derived.WalkKit
import Derived.ProofKit
import Derived.OpenShut
import Derived.ShutString
import Derived.ChangeOld
import Derived.Below
import Derived.Deep.DeepHandedRow
import Derived.Lib.LaidTab
import Derived.Lib.LaidU8T
import Derived.Test.YtlaidaghmhmgbaaDoorRfNumQ
import Derived.OpenVars
namespace Go.Proofs.YtlaidaghmhmgbaaDoor.Sg

/-- A block of cells with other contents. -/
def refill (c : Array Value) : Obj → Obj
  | .cells _ t frozen => .cells c t frozen
  | o => o

end Go.Proofs.YtlaidaghmhmgbaaDoor.Sg

namespace Go.Proofs.YtlaidaghmhmgbaaDoor.Sg
def cells_middleSigns : Array Value := (midTab.map (Value.int .i64)).toArray

theorem tab_middleSigns {W : World} (h : laidMetH Tryd.prog Rows.fnTagEndsRow.laid W) : Lib.TabIs Tryd.prog W "loop.example/g00325/impl.middleSigns" .i64 midTab := by
  have h' : laidMet Tryd.prog (("loop.example/g00325/impl.middleSigns", Lib.tabData .i64 midTab) :: []) W := h
  exact Lib.tabIs_of_head (t := 97) (e := 3) (n := 32) (g := 0) (by kernel_rfl) (by kernel_rfl) Tryd.underlying97 Tryd.underlying3 (by kernel_rfl) (by kernel_rfl) h'
end Go.Proofs.YtlaidaghmhmgbaaDoor.Sg
