/- The law of Well, out of the program's contract. -/
import Derived.Test.YtbmmghkieolpkaaGreatDoorRdAgain
namespace Go.Proofs.YtbmmghkieolpkaaGreatDoor.Sg
open Go.ChangeShapes Go.WideShapes Go.ChangeAt Go.RowKit

set_option maxHeartbeats 1000000 in
theorem lawWell (T : World → Prop) (keep : ∀ W W', T W → Below W.heap.size W W' → T W') (hI : ∀ (s : ByteArray) (W : World), s.size ≤ 1048576 → T W → Calls Tryz.prog 17 #[.string s] W fun e w' => e = .returned (.bool (wellB s)) ∧ Below W.heap.size W w') (w : World) (s : ByteArray) (_hs : s.size ≤ 9223372036854775807) (hT : T w) :
    Calls Tryz.prog 5 #[.string s] w fun e w' => e = .returned (.bool true) ∧ Below w.heap.size w w' := by
  have HT : Hid (T w) := hT
  have Hk : Hid (∀ W W', T W → Below W.heap.size W W' → T W') := keep
  have HI : Hid (∀ (s : ByteArray) (W : World), s.size ≤ 1048576 → T W → Calls Tryz.prog 17 #[.string s] W fun e w' => e = .returned (.bool (wellB s)) ∧ Below W.heap.size W w') := hI
  clear hT keep hI
  by_cases hbig : (1048576 : Int) < (s.size : Int)
  · go_enter Tryz.func5, Tryz.ntmps5
    go_wp2_with fail
    go_ret
    exact ⟨rfl, Below.refl _ _⟩
  have hself : ((wellB s) != (wellB s)) = false := by simp
  go_enter Tryz.func5, Tryz.ntmps5
  go_wp2_with fail
  refine (specWell s _ (by omega)).mono ?_
  rintro e w1 ⟨rfl, b1⟩
  have HT1 : Hid (T w1) := Hk.out _ _ HT.out b1
  go_wp2_with fail
  refine (HI.out s _ (by omega) HT1.out).mono ?_
  rintro e w2 ⟨rfl, b2⟩
  go_wp2_with fail
  go_ret
  exact ⟨rfl, b1.trans (b2.mono b1.size)⟩

end Go.Proofs.YtbmmghkieolpkaaGreatDoor.Sg
