/- The law of Again, out of the program's contract. -/
import Derived.Test.YtkngdlbedelgnaaGreatDoorRdAgain
namespace Go.Proofs.YtkngdlbedelgnaaGreatDoor.Sg
open Go.ChangeShapes Go.WideShapes Go.ChangeAt Go.RowKit

set_option maxHeartbeats 1000000 in
theorem lawAgain (T : World → Prop) (keep : ∀ W W', T W → Below W.heap.size W W' → T W') (hI : ∀ (s : ByteArray) (W : World), s.size ≤ 1048576 → T W → Calls Tryz.prog 5 #[.string s] W fun e w' => e = .returned (.tuple #[.string (againS s), .bool (wellB s)]) ∧ Below W.heap.size W w') (w : World) (s : ByteArray) (hT : T w) :
    Calls Tryz.prog 3 #[.string s] w fun e w' => e = .returned (.bool true) ∧ Below w.heap.size w w' := by
  have HT : Hid (T w) := hT
  have Hk : Hid (∀ W W', T W → Below W.heap.size W W' → T W') := keep
  have HI : Hid (∀ (s : ByteArray) (W : World), s.size ≤ 1048576 → T W → Calls Tryz.prog 5 #[.string s] W fun e w' => e = .returned (.tuple #[.string (againS s), .bool (wellB s)]) ∧ Below W.heap.size W w') := hI
  clear hT keep hI
  by_cases hbs : (1048576 : Int) < (s.size : Int)
  · go_enter Tryz.func3, Tryz.ntmps3
    go_wp2_with fail
    go_ret
    exact ⟨rfl, Below.refl _ _⟩
  have HS : ∀ W : World, Calls Tryz.prog 4 #[.string s] W fun e w' => e = .returned (.tuple #[.string (againS s), .bool (wellB s)]) ∧ Below W.heap.size W w' := fun W => (specAgain s _ (by omega))
  have HP : ∀ W : World, T W → Calls Tryz.prog 5 #[.string s] W fun e w' => e = .returned (.tuple #[.string (againS s), .bool (wellB s)]) ∧ Below W.heap.size W w' := fun W h => HI.out s W (by omega) h
  clear HI
  generalize againS s = r0 at *
  generalize wellB s = r1 at *
  have hself0 : (r0.toList == r0.toList) = true := by simp
  have hself1 : (r1 != r1) = false := by simp
  go_enter Tryz.func3, Tryz.ntmps3
  go_wp2_with fail
  refine (HS _).mono ?_
  rintro e w1 ⟨rfl, b1⟩
  have HT1 : Hid (T w1) := Hk.out _ _ HT.out b1
  go_wp2_with fail
  refine (HP _ HT1.out).mono ?_
  rintro e w2 ⟨rfl, b2⟩
  go_wp2_with fail
  go_ret
  exact ⟨rfl, b1.trans (b2.mono b1.size)⟩

end Go.Proofs.YtkngdlbedelgnaaGreatDoor.Sg
