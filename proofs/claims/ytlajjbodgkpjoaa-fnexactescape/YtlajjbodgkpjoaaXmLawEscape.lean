/- The law of Escape, out of the program's contract. Written by mk_xmlaw.py. -/
import Derived.Test.YtlajjbodgkpjoaaXmEsc
namespace Go.Proofs.Ytlajjbodgkpjoaa.Sg
open Go.ChangeShapes Go.WideShapes Go.ChangeAt Go.RowKit

set_option maxHeartbeats 1000000 in
theorem lawEscape (T : World → Prop) (keep : ∀ W W', T W → Below W.heap.size W W' → T W') (hI : ∀ (s : ByteArray) (v : Bool) (W : World), s.size ≤ 1048576 → T W → Calls Try.prog 8 #[.string s, .bool v] W fun e w' => e = .returned (.string (escS s v)) ∧ Below W.heap.size W w') (w : World) (s : ByteArray) (v : Bool) (hT : T w) :
    Calls Try.prog 4 #[.string s, .bool v] w fun e w' => e = .returned (.bool true) ∧ Below w.heap.size w w' := by
  have HT : Hid (T w) := hT
  have Hk : Hid (∀ W W', T W → Below W.heap.size W W' → T W') := keep
  have HI : Hid (∀ (s : ByteArray) (v : Bool) (W : World), s.size ≤ 1048576 → T W → Calls Try.prog 8 #[.string s, .bool v] W fun e w' => e = .returned (.string (escS s v)) ∧ Below W.heap.size W w') := hI
  clear hT keep hI
  by_cases hbs : (1048576 : Int) < (s.size : Int)
  · go_enter Try.func4, Try.ntmps4
    go_wp2_with fail
    go_ret
    exact ⟨rfl, Below.refl _ _⟩
  have HS : ∀ W : World, Calls Try.prog 7 #[.string s, .bool v] W fun e w' => e = .returned (.string (escS s v)) ∧ Below W.heap.size W w' := fun W => (specEscape s v _ (by omega))
  have HP : ∀ W : World, T W → Calls Try.prog 8 #[.string s, .bool v] W fun e w' => e = .returned (.string (escS s v)) ∧ Below W.heap.size W w' := fun W h => HI.out s v W (by omega) h
  clear HI
  generalize escS s v = r0 at *
  have hself0 : (r0.toList == r0.toList) = true := by simp
  go_enter Try.func4, Try.ntmps4
  go_wp2_with fail
  refine (HS _).mono ?_
  rintro e w1 ⟨rfl, b1⟩
  have HT1 : Hid (T w1) := Hk.out _ _ HT.out b1
  go_wp2_with fail
  refine (HP _ HT1.out).mono ?_
  rintro e w2 ⟨rfl, b2⟩
  go_wp2_with fail
  go_ret
  exact ⟨rfl, b1.trans (b2.mono b1.size)⟩

end Go.Proofs.Ytlajjbodgkpjoaa.Sg
