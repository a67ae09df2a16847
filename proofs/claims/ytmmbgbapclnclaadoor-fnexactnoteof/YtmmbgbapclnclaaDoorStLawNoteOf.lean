/- The law of NoteOf, out of the program's contract. Written by mk_stlaw.py. -/
import Derived.Test.YtmmbgbapclnclaaDoorStNoteOf
namespace Go.Proofs.YtmmbgbapclnclaaDoor.Sg
open Go.ChangeShapes Go.WideShapes Go.ChangeAt Go.RowKit

set_option maxHeartbeats 1000000 in
theorem lawNoteOf (T : World → Prop) (keep : ∀ W W', T W → Below W.heap.size W W' → T W') (hI : ∀ (s : ByteArray) (W : World), s.size ≤ 1048576 → T W → Calls Tryd.prog 12 #[.string s] W fun e w' => e = .returned (.string (stNoteS s)) ∧ Below W.heap.size W w') (w : World) (s : ByteArray) (_hs : s.size ≤ 9223372036854775807) (hT : T w) :
    Calls Tryd.prog 7 #[.string s] w fun e w' => e = .returned (.bool true) ∧ Below w.heap.size w w' := by
  have HT : Hid (T w) := hT
  have Hk : Hid (∀ W W', T W → Below W.heap.size W W' → T W') := keep
  have HI : Hid (∀ (s : ByteArray) (W : World), s.size ≤ 1048576 → T W → Calls Tryd.prog 12 #[.string s] W fun e w' => e = .returned (.string (stNoteS s)) ∧ Below W.heap.size W w') := hI
  clear hT keep hI
  by_cases hbig : (1048576 : Int) < (s.size : Int)
  · go_enter Tryd.func7, Tryd.ntmps7
    go_wp2_with fail
    go_ret
    exact ⟨rfl, Below.refl _ _⟩
  have hself : ((stNoteS s).toList == (stNoteS s).toList) = true := by simp
  go_enter Tryd.func7, Tryd.ntmps7
  go_wp2_with fail
  refine (specNoteOf s _ (by omega)).mono ?_
  rintro e w1 ⟨rfl, b1⟩
  have HT1 : Hid (T w1) := Hk.out _ _ HT.out b1
  go_wp2_with fail
  refine (HI.out s _ (by omega) HT1.out).mono ?_
  rintro e w2 ⟨rfl, b2⟩
  go_wp2_with fail
  go_ret
  exact ⟨rfl, b1.trans (b2.mono b1.size)⟩

end Go.Proofs.YtmmbgbapclnclaaDoor.Sg
