/- The law of SpaceName, out of the program's contract. Written by mk_xmlaw.py. -/
import Derived.Test.YtlajjbodgkpjoaaXmEsc
namespace Go.Proofs.Ytlajjbodgkpjoaa.Sg
open Go.ChangeShapes Go.WideShapes Go.ChangeAt Go.RowKit

set_option maxHeartbeats 1000000 in
theorem lawSpaceName (T : World → Prop) (keep : ∀ W W', T W → Below W.heap.size W W' → T W') (hI : ∀ (n : Int) (W : World), True → T W → Calls Try.prog 6 #[.int .i64 n] W fun e w' => e = .returned (.string (spaceS n)) ∧ Below W.heap.size W w') (w : World) (n : Int) (hT : T w) :
    Calls Try.prog 3 #[.int .i64 n] w fun e w' => e = .returned (.bool true) ∧ Below w.heap.size w w' := by
  have HT : Hid (T w) := hT
  have Hk : Hid (∀ W W', T W → Below W.heap.size W W' → T W') := keep
  have HI : Hid (∀ (n : Int) (W : World), True → T W → Calls Try.prog 6 #[.int .i64 n] W fun e w' => e = .returned (.string (spaceS n)) ∧ Below W.heap.size W w') := hI
  clear hT keep hI
  have HS : ∀ W : World, Calls Try.prog 5 #[.int .i64 n] W fun e w' => e = .returned (.string (spaceS n)) ∧ Below W.heap.size W w' := fun W => (specSpaceName n _).mono fun e w' h => ⟨h.1, h.2 ▸ Below.refl _ _⟩
  have HP : ∀ W : World, T W → Calls Try.prog 6 #[.int .i64 n] W fun e w' => e = .returned (.string (spaceS n)) ∧ Below W.heap.size W w' := fun W h => HI.out n W trivial h
  clear HI
  generalize spaceS n = r0 at *
  have hself0 : (r0.toList == r0.toList) = true := by simp
  go_enter Try.func3, Try.ntmps3
  go_wp2_with fail
  refine (HS _).mono ?_
  rintro e w1 ⟨rfl, b1⟩
  have HT1 : Hid (T w1) := Hk.out _ _ HT.out b1
  go_wp2_with fail
  refine (HP _ HT1.out).mono ?_
  rintro e w2 ⟨rfl, b2⟩
  go_wp2_with fail
  go_ret
  exact ⟨rfl, b1.trans (b2.mono b1.size)⟩

end Go.Proofs.Ytlajjbodgkpjoaa.Sg
