/- The two tables of package utf8 that the rows list, as the walks want them. -/
import Derived.Test.YtmmbgbapclnclaaDoorCards
import Derived.Test.YtmmbgbapclnclaaDoorTie
import Derived.Test.YtmmbgbapclnclaaDoorShelf
import Derived.WalkKit
import Derived.ProofKit
import Derived.OpenShut
import Derived.ShutString
import Derived.ChangeOld
import Derived.Below
import Derived.Deep.DeepHandedRow
import Derived.Lib.LaidTab
import Derived.Lib.LaidU8T
namespace Go.Proofs.YtmmbgbapclnclaaDoor.Sg
open Go.ChangeShapes Go.WideShapes Go.ChangeAt Go.RowKit

theorem u8types : U8Types Tryd.prog Tryd.lays197_ren := U8Types.of260 { Tryd.lays197 with }
theorem u8extra : U8Extra Tryd.prog Tryd.lays197_ren := ⟨by kernel_rfl, by kernel_rfl, by kernel_rfl, by kernel_rfl, by kernel_rfl, by kernel_rfl, by kernel_rfl⟩
theorem first_is : Rows.laid_unicode_utf8_first = Lib.firstData := by kernel_rfl
theorem accept_is : (Rows.laid_unicode_utf8_acceptRanges : DataW Unit) = Lib.acceptData := by kernel_rfl

/-- What the rows' list gives. -/
theorem tabs {W : World} (h : laidMetH Tryd.prog Rows.fnMildRow.laid W) : Lib.Utf8Tabs 1 2 W := by
  have h' : laidMet Tryd.prog Rows.fnMildRow.laid W := h
  unfold Rows.fnMildRow at h'
  simp only at h'
  rw [first_is, accept_is] at h'
  exact utf8Tabs_of_readsT u8types u8extra (Lib.laidMet.reads h' (.tail _ (.head _))) (Lib.laidMet.reads h' (.head _))

/-- A block of cells with other contents. -/
def refill (c : Array Value) : Obj → Obj
  | .cells _ t frozen => .cells c t frozen
  | o => o


end Go.Proofs.YtmmbgbapclnclaaDoor.Sg
