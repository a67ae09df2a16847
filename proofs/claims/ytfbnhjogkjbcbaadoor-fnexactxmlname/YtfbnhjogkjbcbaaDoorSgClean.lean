/- Contracts of Clean and CleanOk, of the program and of the model. -/
import Derived.Test.YtfbnhjogkjbcbaaDoorSgSignsI
import Derived.Test.YtfbnhjogkjbcbaaDoorSgTextI
namespace Go.Proofs.YtfbnhjogkjbcbaaDoor.Sg
open Go.ChangeShapes Go.WideShapes Go.ChangeAt Go.RowKit

/-- A text with its signs written anew. -/
def cleanS (s : ByteArray) : ByteArray := textS (signsL s)

set_option maxHeartbeats 1000000 in
theorem specClean (s : ByteArray) (w : World) (hs : s.size ≤ 17592186044416) :
    Calls Tryd.prog 89 #[.string s] w fun e w' => e = .returned (.string (cleanS s)) ∧ Below w.heap.size w w' := by
  have hn := signsL_length s
  go_enter Tryd.func89, Tryd.ntmps89
  go_wp2_with fail
  refine (specSigns s _ hs).mono ?_
  rintro e w1 ⟨a, cap, rfl, o1, b1⟩
  go_wp2_with fail
  refine (specSignText (signsL s) a cap _ o1.ints (by omega)).mono ?_
  rintro e w2 ⟨rfl, b2⟩
  go_wp2_with fail
  go_ret
  exact ⟨rfl, b1.trans (b2.mono b1.size)⟩

set_option maxHeartbeats 1000000 in
theorem implClean (s : ByteArray) (w : World) (hs : s.size ≤ 17592186044416) (hT : Lib.Utf8Tabs 1 2 w) :
    Calls Tryd.prog 101 #[.string s] w fun e w' => e = .returned (.string (cleanS s)) ∧ Below w.heap.size w w' := by
  have hn := signsL_length s
  have HT : Hid (Lib.Utf8Tabs 1 2 w) := hT
  clear hT
  go_enter Tryd.func101, Tryd.ntmps101
  go_wp2_with fail
  refine (implSigns s _ hs HT.out).mono ?_
  rintro e w1 ⟨a, cap, rfl, o1, b1⟩
  go_wp2_with fail
  refine (implSignText (signsL s) a cap _ o1.ints (by omega)).mono ?_
  rintro e w2 ⟨rfl, b2⟩
  go_wp2_with fail
  go_ret
  exact ⟨rfl, b1.trans (b2.mono b1.size)⟩

/-- A text is clean. -/
def cleanB (s : ByteArray) : Bool := (cleanS s).toList == s.toList

set_option maxHeartbeats 1000000 in
theorem specCleanOk (s : ByteArray) (w : World) (hs : s.size ≤ 17592186044416) :
    Calls Tryd.prog 77 #[.string s] w fun e w' => e = .returned (.bool (cleanB s)) ∧ Below w.heap.size w w' := by
  go_enter Tryd.func77, Tryd.ntmps77
  go_wp2_with fail
  refine (specClean s _ hs).mono ?_
  rintro e w1 ⟨rfl, b1⟩
  go_wp2_with fail
  go_ret
  exact ⟨rfl, b1⟩

set_option maxHeartbeats 1000000 in
theorem implCleanOk (s : ByteArray) (w : World) (hs : s.size ≤ 17592186044416) (hT : Lib.Utf8Tabs 1 2 w) :
    Calls Tryd.prog 90 #[.string s] w fun e w' => e = .returned (.bool (cleanB s)) ∧ Below w.heap.size w w' := by
  have HT : Hid (Lib.Utf8Tabs 1 2 w) := hT
  clear hT
  go_enter Tryd.func90, Tryd.ntmps90
  go_wp2_with fail
  refine (implClean s _ hs HT.out).mono ?_
  rintro e w1 ⟨rfl, b1⟩
  go_wp2_with fail
  go_ret
  exact ⟨rfl, b1⟩

end Go.Proofs.YtfbnhjogkjbcbaaDoor.Sg
