/- Contract of the program's Well. -/
import Derived.Test.YtbmmghkieolpkaaGreatDoorRqRead
import Derived.Test.YtbmmghkieolpkaaGreatDoorRdAgain
namespace Go.Proofs.YtbmmghkieolpkaaGreatDoor.Sg
open Go.ChangeShapes Go.WideShapes Go.ChangeAt Go.RowKit

set_option maxHeartbeats 1000000 in
theorem implWell (s : ByteArray) (a : Addr) (w : World) (hs : s.size ≤ 1048576) (hX : PcX a w) :
    Calls Tryz.prog 17 #[.string s] w fun e w' => e = .returned (.bool (wellB s)) ∧ Below w.heap.size w w' := by
  have HR := implRead s a w hs hX
  go_enter Tryz.func17, Tryz.ntmps17
  go_wp2_with fail
  refine HR.mono ?_
  rintro r w1 ⟨hb, v, n, F, rfl, _, _⟩
  have HB : Hid (Below w.heap.size w w1) := hb
  clear HR hb
  go_wp2_with fail
  go_ret
  exact ⟨rfl, HB.out⟩

end Go.Proofs.YtbmmghkieolpkaaGreatDoor.Sg
