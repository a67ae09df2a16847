/- A new cursor over the bytes of a draw; the numbers and texts of chapter 1 that are drawn from it. -/
import Derived.Test.YtlghkbcdaoijhaaGreatDoorM03
import Derived.Test.YtlghkbcdaoijhaaGreatDoorSgPut
import Derived.Test.YtlghkbcdaoijhaaGreatDoorSgSigns
namespace Go.Proofs.YtlghkbcdaoijhaaGreatDoor.Sg
open Go.ChangeShapes Go.WideShapes Go.ChangeAt Go.RowKit

set_option maxHeartbeats 1000000 in
theorem l1DrawSign_any (p : Nat) (a : Option Addr) (n cap : Nat) (w : World) (hc : Cur p a n cap w) :
    Calls Tryz.prog 48 #[.pointer (some ⟨p, 0, none⟩)] w fun e w' => ∃ z : Int, okB z = true ∧ e = .returned (.int .i64 z) ∧ Cur p a n cap w' ∧ Only p w w' := by
  have Hc : Hid (Cur p a n cap w) := hc
  have hlt := hc.lt
  clear hc
  go_enter Tryz.func48, Tryz.ntmps48
  go_wp2_with fail
  refine (l1PickInt_any p a n cap [0, 9, 13, 65, 97, 127, 128, 160, 2047, 2048, 8364, 55295, 57344, 65533, 65534, 65535, 65536, 1114111] _ _ _ (Hc.out.alloc _) (Ints.lit _ [0, 9, 13, 65, 97, 127, 128, 160, 2047, 2048, 8364, 55295, 57344, 65533, 65534, 65535, 65536, 1114111] 3) (apart_new hlt) (by decide) (by decide)).mono ?_
  rintro e w1 ⟨z, hz, rfl, hc1, ho1⟩
  have hok : okB z = true := by
    have hall : ∀ x ∈ ([0, 9, 13, 65, 97, 127, 128, 160, 2047, 2048, 8364, 55295, 57344, 65533, 65534, 65535, 65536, 1114111] : List Int), okB x = true := by decide
    exact hall z hz
  have Hok : Hid (okB z = true) := hok
  clear hok hz
  go_wp2_with fail
  go_ret
  exact ⟨z, Hok.out, rfl, hc1, ho1.of_alloc⟩


end Go.Proofs.YtlghkbcdaoijhaaGreatDoor.Sg
