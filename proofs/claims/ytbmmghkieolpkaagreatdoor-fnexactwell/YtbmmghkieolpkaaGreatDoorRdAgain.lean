/- Contracts of the model's Well and Again. -/
import Derived.Test.YtbmmghkieolpkaaGreatDoorMW211
namespace Go.Proofs.YtbmmghkieolpkaaGreatDoor.Sg
open Go.ChangeShapes Go.WideShapes Go.ChangeAt Go.RowKit

/-- What Well and Again tell. -/
def wellB (s : ByteArray) : Bool := (readR s).isSome
set_option maxHeartbeats 1000000 in
theorem specWell (s : ByteArray) (w : World) (hs : s.size ≤ 1073741824) :
    Calls Tryz.prog 16 #[.string s] w fun r w' => r = .returned (.bool (wellB s)) ∧ Below w.heap.size w w' := by
  have HC := specRead s w hs
  go_enter Tryz.func16, Tryz.ntmps16
  go_wp2_with fail
  refine HC.mono ?_
  rintro r w1 ⟨b1, ⟨l, g, c, hR, rfl, _⟩ | ⟨hR, g, rfl⟩⟩
  · have Hn : Hid (true = wellB s) := by show _ = _; unfold wellB; rw [hR]; rfl
    clear HC
    go_wp2_with fail
    go_ret
    exact ⟨ret_st Hn.out, b1⟩
  · have Hn : Hid (false = wellB s) := by show _ = _; unfold wellB; rw [hR]; rfl
    clear HC
    go_wp2_with fail
    go_ret
    exact ⟨ret_st Hn.out, b1⟩

end Go.Proofs.YtbmmghkieolpkaaGreatDoor.Sg
