/- The law of DocText, out of the program's contract. -/
import Derived.Test.YtploagieecepfaaElLw
import Derived.Test.YtploagieecepfaaElEq
import Derived.Test.YtploagieecepfaaElToS
import Derived.Test.YtploagieecepfaaElSpec
import Derived.Test.YtploagieecepfaaShDoc
namespace Go.Proofs.Ytploagieecepfaa.Sg
open Go.ChangeShapes Go.WideShapes Go.ChangeAt Go.RowKit

set_option maxRecDepth 20000 in
set_option maxHeartbeats 4000000 in
theorem lawDocText (z : List ElB) (a : Option Addr) (c : Nat) (w : World) (T : World → Prop) (hTb : ∀ w w' : World, T w → Below w.heap.size w w' → T w') (hT : T w) (h : KidsIn SlAttrsIn anyB w a z) (hn : z.length ≤ 9223372036854775807) (m : ElsHeld z)
    (hI : z.length + elsW z ≤ 1048576 → ∀ W lo (x : Option Addr), KidsIn (QA lo) (lo ≤ ·) W x z → CapK (lo ≤ ·) W x z → T W → Calls Try.prog 11 #[.slice x z.length z.length] W fun e w' => e = .returned (.string (showL z 0)) ∧ Below W.heap.size W w') :
    Calls Try.prog 4 #[.slice a z.length c] w fun e w' => e = .returned (.bool true) ∧ Below w.heap.size w w' := by
  have HTw : Hid (T w) := hT
  have HTb : Hid (∀ w w' : World, T w → Below w.heap.size w w' → T w') := hTb
  have Ha : Hid (KidsIn SlAttrsIn anyB w a z) := h
  have Hz : Hid (∀ W, KidsIn SlAttrsIn anyB W a z → Calls Try.prog 5 #[.slice a z.length c, .int .i64 1048576] W fun e w' => e = .returned (.int .i64 (leftZ 1048576 (z.length + elsW z))) ∧ Below W.heap.size W w') := fun W hW => szElS_any z a z.length c 1048576 W hW rfl hn m (by decide) (by decide)
  clear h m hT hTb
  by_cases hbig : z.length + elsW z ≤ 1048576
  · have Hlt : Hid (ElsLight z) := els_light z (by omega)
    have hN := elsN_le z
    have Hz1 := Hz.out w Ha.out
    rw [left_yes hbig] at Hz1
    have g1 : ¬ (1048576 - ((z.length + elsW z : Nat) : Int)) < 0 := by omega
    have g1' : decide ((1048576 - ((z.length + elsW z : Nat) : Int)) < 0) = false := decide_eq_false g1
    have Hto : Hid (∀ W, KidsIn SlAttrsIn anyB W a z → Calls Try.prog 7 #[.slice a z.length c] W fun e w' => e = .returned (.slice (some ⟨W.heap.size, 0, none⟩) z.length z.length) ∧ KidsIn (QA W.heap.size) (W.heap.size ≤ ·) w' (some ⟨W.heap.size, 0, none⟩) z ∧ CapK (W.heap.size ≤ ·) w' (some ⟨W.heap.size, 0, none⟩) z ∧ Below W.heap.size W w') := fun W hW => toElS_cap z a z.length c W hW rfl (by omega) Hlt.out
    have Hs : Hid (∀ W lo (x : Option Addr), KidsIn (QA lo) (lo ≤ ·) W x z → Calls Try.prog 10 #[.slice x z.length z.length] W fun e w' => e = .returned (.string (showL z 0)) ∧ Below W.heap.size W w') := fun W lo x hx => specDocText z lo x z.length z.length W hx rfl hbig
    have Hi : Hid (∀ W lo (x : Option Addr), KidsIn (QA lo) (lo ≤ ·) W x z → CapK (lo ≤ ·) W x z → T W → Calls Try.prog 11 #[.slice x z.length z.length] W fun e w' => e = .returned (.string (showL z 0)) ∧ Below W.heap.size W w') := hI hbig
    have He : Hid (∀ W l1 l2 (x y : Option Addr), KidsIn (QA l1) (l1 ≤ ·) W x z → KidsIn (QA l2) (l2 ≤ ·) W y z → Calls Try.prog 9 #[.slice x z.length z.length, .slice y z.length z.length] W fun e w' => e = .returned (.bool true) ∧ Below W.heap.size W w') := fun W l1 l2 x y hx hy => eqElS_any z l1 l2 x y z.length z.length z.length W hx hy rfl (by omega) Hlt.out
    clear Hz Hlt hN hI
    generalize showL z 0 = V at *
    have gV : (V.toList != V.toList) = false := by simp
    generalize (1048576 - ((z.length + elsW z : Nat) : Int)) = left at *
    go_enter Try.func4, Try.ntmps4
    go_wp2_with fail
    refine Hz1.mono ?_
    rintro e w1 ⟨rfl, b1⟩
    go_wp2_with fail
    refine (Hto.out _ (Ha.out.keep lies_in b1)).mono ?_
    rintro e w2 ⟨rfl, A2, _, b2⟩
    have b02 : Below w.heap.size w w2 := b1.trans (b2.mono b1.size)
    go_wp2_with fail
    refine (Hs.out _ _ _ A2).mono ?_
    rintro e w3 ⟨rfl, b3⟩
    have b03 : Below w.heap.size w w3 := b02.trans (b3.mono b02.size)
    clear A2 b1 b2 b3 b02 Hz1
    go_wp2_with fail
    refine (Hto.out _ (Ha.out.keep lies_in b03)).mono ?_
    rintro e w4 ⟨rfl, A4, C4, b4⟩
    have b04 : Below w.heap.size w w4 := b03.trans (b4.mono b03.size)
    have T4 := HTb.out _ _ HTw.out b04
    go_wp2_with fail
    refine (Hi.out _ _ _ A4 C4 T4).mono ?_
    rintro e w5 ⟨rfl, b5⟩
    have b05 : Below w.heap.size w w5 := b04.trans (b5.mono b04.size)
    have A5 := A4.keep (QA.lies _) b5
    clear A4 C4 b03 b04 b4 b5 T4
    go_wp2_with fail
    refine (Hto.out _ (Ha.out.keep lies_in b05)).mono ?_
    rintro e w6 ⟨rfl, A7, _, b6⟩
    have b06 : Below w.heap.size w w6 := b05.trans (b6.mono b05.size)
    have A6 := A5.keep (QA.lies _) b6
    clear A5 b05 b6
    go_wp2_with fail
    refine (He.out _ _ _ _ _ A6 A7).mono ?_
    rintro e w7 ⟨rfl, b7⟩
    have b07 : Below w.heap.size w w7 := b06.trans (b7.mono b06.size)
    clear A6 A7 b06 b7
    go_wp2_with fail
    go_ret
    exact ⟨rfl, b07⟩
  · have Hz1 := Hz.out w Ha.out
    rw [left_no hbig] at Hz1
    clear hI
    go_enter Try.func4, Try.ntmps4
    go_wp2_with fail
    refine Hz1.mono ?_
    rintro e w1 ⟨rfl, b1⟩
    go_wp2_with fail
    go_ret
    exact ⟨rfl, b1⟩

end Go.Proofs.Ytploagieecepfaa.Sg
