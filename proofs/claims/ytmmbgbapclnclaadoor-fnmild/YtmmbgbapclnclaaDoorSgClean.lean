/- Contracts of Clean and CleanOk, of the program and of the model. -/
import Derived.Test.YtmmbgbapclnclaaDoorSgSignsI
import Derived.Test.YtmmbgbapclnclaaDoorSgTextI
namespace Go.Proofs.YtmmbgbapclnclaaDoor.Sg
open Go.ChangeShapes Go.WideShapes Go.ChangeAt Go.RowKit

/-- A text with its signs written anew. -/
def cleanS (s : ByteArray) : ByteArray := textS (signsL s)

set_option maxHeartbeats 1000000 in
theorem specClean (s : ByteArray) (w : World) (hs : s.size ≤ 17592186044416) :
    Calls Tryd.prog 49 #[.string s] w fun e w' => e = .returned (.string (cleanS s)) ∧ Below w.heap.size w w' := by
  have hn := signsL_length s
  go_enter Tryd.func49, Tryd.ntmps49
  go_wp2_with fail
  refine (specSigns s _ hs).mono ?_
  rintro e w1 ⟨a, cap, rfl, o1, b1⟩
  go_wp2_with fail
  refine (specSignText (signsL s) a cap _ o1.ints (by omega)).mono ?_
  rintro e w2 ⟨rfl, b2⟩
  go_wp2_with fail
  go_ret
  exact ⟨rfl, b1.trans (b2.mono b1.size)⟩

set_option maxHeartbeats 1000000 in
theorem implClean (s : ByteArray) (w : World) (hs : s.size ≤ 17592186044416) (hT : Lib.Utf8Tabs 1 2 w) :
    Calls Tryd.prog 47 #[.string s] w fun e w' => e = .returned (.string (cleanS s)) ∧ Below w.heap.size w w' := by
  have hn := signsL_length s
  have HT : Hid (Lib.Utf8Tabs 1 2 w) := hT
  clear hT
  go_enter Tryd.func47, Tryd.ntmps47
  go_wp2_with fail
  refine (implSigns s _ hs HT.out).mono ?_
  rintro e w1 ⟨a, cap, rfl, o1, b1⟩
  go_wp2_with fail
  refine (implSignText (signsL s) a cap _ o1.ints (by omega)).mono ?_
  rintro e w2 ⟨rfl, b2⟩
  go_wp2_with fail
  go_ret
  exact ⟨rfl, b1.trans (b2.mono b1.size)⟩

/-- A text is clean. -/
def cleanB (s : ByteArray) : Bool := (cleanS s).toList == s.toList

set_option maxHeartbeats 1000000 in
theorem specCleanOk (s : ByteArray) (w : World) (hs : s.size ≤ 17592186044416) :
    Calls Tryd.prog 34 #[.string s] w fun e w' => e = .returned (.bool (cleanB s)) ∧ Below w.heap.size w w' := by
  go_enter Tryd.func34, Tryd.ntmps34
  go_wp2_with fail
  refine (specClean s _ hs).mono ?_
  rintro e w1 ⟨rfl, b1⟩
  go_wp2_with fail
  go_ret
  exact ⟨rfl, b1⟩

set_option maxHeartbeats 1000000 in
theorem implCleanOk (s : ByteArray) (w : World) (hs : s.size ≤ 17592186044416) (hT : Lib.Utf8Tabs 1 2 w) :
    Calls Tryd.prog 31 #[.string s] w fun e w' => e = .returned (.bool (cleanB s)) ∧ Below w.heap.size w w' := by
  have HT : Hid (Lib.Utf8Tabs 1 2 w) := hT
  clear hT
  go_enter Tryd.func31, Tryd.ntmps31
  go_wp2_with fail
  refine (implClean s _ hs HT.out).mono ?_
  rintro e w1 ⟨rfl, b1⟩
  go_wp2_with fail
  go_ret
  exact ⟨rfl, b1⟩

end Go.Proofs.YtmmbgbapclnclaaDoor.Sg
