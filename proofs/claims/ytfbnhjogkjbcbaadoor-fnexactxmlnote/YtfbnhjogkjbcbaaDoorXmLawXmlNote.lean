/- The law of XmlNote, out of the program's contract. Written by mk_xmlaw.py. -/
import Derived.Test.YtfbnhjogkjbcbaaDoorMN13
namespace Go.Proofs.YtfbnhjogkjbcbaaDoor.Sg
open Go.ChangeShapes Go.WideShapes Go.ChangeAt Go.RowKit

set_option maxHeartbeats 1000000 in
theorem lawXmlNote (T : World → Prop) (keep : ∀ W W', T W → Below W.heap.size W W' → T W') (hI : ∀ (s : ByteArray) (i : Int) (W : World), s.size ≤ 1048576 → T W → Calls Tryd.prog 18 #[.string s, .int .i64 i] W fun e w' => e = .returned (.tuple #[.string (xoS s i), .int .i64 (xoI s i)]) ∧ Below W.heap.size W w') (w : World) (s : ByteArray) (i : Int) (hT : T w) :
    Calls Tryd.prog 7 #[.string s, .int .i64 i] w fun e w' => e = .returned (.bool true) ∧ Below w.heap.size w w' := by
  have HT : Hid (T w) := hT
  have Hk : Hid (∀ W W', T W → Below W.heap.size W W' → T W') := keep
  have HI : Hid (∀ (s : ByteArray) (i : Int) (W : World), s.size ≤ 1048576 → T W → Calls Tryd.prog 18 #[.string s, .int .i64 i] W fun e w' => e = .returned (.tuple #[.string (xoS s i), .int .i64 (xoI s i)]) ∧ Below W.heap.size W w') := hI
  clear hT keep hI
  by_cases hbs : (1048576 : Int) < (s.size : Int)
  · go_enter Tryd.func7, Tryd.ntmps7
    go_wp2_with fail
    go_ret
    exact ⟨rfl, Below.refl _ _⟩
  have HS : ∀ W : World, Calls Tryd.prog 17 #[.string s, .int .i64 i] W fun e w' => e = .returned (.tuple #[.string (xoS s i), .int .i64 (xoI s i)]) ∧ Below W.heap.size W w' := fun W => (specXmlNote s i _ (by omega))
  have HP : ∀ W : World, T W → Calls Tryd.prog 18 #[.string s, .int .i64 i] W fun e w' => e = .returned (.tuple #[.string (xoS s i), .int .i64 (xoI s i)]) ∧ Below W.heap.size W w' := fun W h => HI.out s i W (by omega) h
  clear HI
  generalize xoS s i = r0 at *
  generalize xoI s i = r1 at *
  have hself0 : (r0.toList == r0.toList) = true := by simp
  go_enter Tryd.func7, Tryd.ntmps7
  go_wp2_with fail
  refine (HS _).mono ?_
  rintro e w1 ⟨rfl, b1⟩
  have HT1 : Hid (T w1) := Hk.out _ _ HT.out b1
  go_wp2_with fail
  refine (HP _ HT1.out).mono ?_
  rintro e w2 ⟨rfl, b2⟩
  go_wp2_with fail
  go_ret
  exact ⟨rfl, b1.trans (b2.mono b1.size)⟩

end Go.Proofs.YtfbnhjogkjbcbaaDoor.Sg
