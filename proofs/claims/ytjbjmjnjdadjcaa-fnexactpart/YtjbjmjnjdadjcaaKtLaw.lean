/- The exact laws of chapter 7, of what the program's functions hand back (T: what is known of the program's tables, if it has any). -/
import Derived.Test.YtjbjmjnjdadjcaaKtSpec
namespace Go.Proofs.Ytjbjmjnjdadjcaa.Sg
open Go.ChangeShapes Go.WideShapes Go.ChangeAt Go.RowKit

set_option maxHeartbeats 1000000 in
theorem lawVoid (s : ByteArray) (w : World) (T : World → Prop) (hTb : ∀ w w' : World, T w → Below w.heap.size w w' → T w') (hT : T w)
    (hI : s.size ≤ 1048576 → ∀ W, T W → Calls Try.prog 19 #[.string s] W fun e w' => e = .returned (.bool (isIn s voidL)) ∧ Below W.heap.size W w') :
    Calls Try.prog 4 #[.string s] w fun e w' => e = .returned (.bool true) ∧ Below w.heap.size w w' := by
  by_cases hbig : (1048576 : Int) < (s.size : Int)
  · clear hI hTb hT
    go_enter Try.func4, Try.ntmps4
    go_wp2
    go_ret
    exact ⟨rfl, Below.refl _ _⟩
  · have Hs : Hid (∀ W : World, Calls Try.prog 20 #[.string s] W fun e w' => e = .returned (.bool (isIn s voidL)) ∧ Below W.heap.size W w') := fun W => specVoid s W
    have Hi : Hid (∀ W, T W → Calls Try.prog 19 #[.string s] W fun e w' => e = .returned (.bool (isIn s voidL)) ∧ Below W.heap.size W w') := hI (by omega)
    have HT : Hid (T w) := hT
    have HTb : Hid (∀ w w' : World, T w → Below w.heap.size w w' → T w') := hTb
    clear hI hT hTb
    generalize isIn s voidL = V at *
    have gV : (V != V) = false := by simp
    have hd : decide ((1048576 : Int) < (s.size : Int)) = false := decide_eq_false hbig
    go_enter Try.func4, Try.ntmps4
    go_wp2_with fail
    refine (Hs.out _).mono ?_
    rintro e w1 ⟨rfl, b1⟩
    go_wp2_with fail
    refine (Hi.out _ (HTb.out _ _ HT.out b1)).mono ?_
    rintro e w2 ⟨rfl, b2⟩
    have b02 : Below w.heap.size w w2 := b1.trans (b2.mono b1.size)
    clear b1 b2
    go_wp2_with fail
    go_ret
    exact ⟨rfl, b02⟩
set_option maxHeartbeats 1000000 in
theorem lawOfHead (s : ByteArray) (w : World) (T : World → Prop) (hTb : ∀ w w' : World, T w → Below w.heap.size w w' → T w') (hT : T w)
    (hI : s.size ≤ 1048576 → ∀ W, T W → Calls Try.prog 21 #[.string s] W fun e w' => e = .returned (.bool (isIn s ofHeadL)) ∧ Below W.heap.size W w') :
    Calls Try.prog 5 #[.string s] w fun e w' => e = .returned (.bool true) ∧ Below w.heap.size w w' := by
  by_cases hbig : (1048576 : Int) < (s.size : Int)
  · clear hI hTb hT
    go_enter Try.func5, Try.ntmps5
    go_wp2
    go_ret
    exact ⟨rfl, Below.refl _ _⟩
  · have Hs : Hid (∀ W : World, Calls Try.prog 22 #[.string s] W fun e w' => e = .returned (.bool (isIn s ofHeadL)) ∧ Below W.heap.size W w') := fun W => specOfHead s W
    have Hi : Hid (∀ W, T W → Calls Try.prog 21 #[.string s] W fun e w' => e = .returned (.bool (isIn s ofHeadL)) ∧ Below W.heap.size W w') := hI (by omega)
    have HT : Hid (T w) := hT
    have HTb : Hid (∀ w w' : World, T w → Below w.heap.size w w' → T w') := hTb
    clear hI hT hTb
    generalize isIn s ofHeadL = V at *
    have gV : (V != V) = false := by simp
    have hd : decide ((1048576 : Int) < (s.size : Int)) = false := decide_eq_false hbig
    go_enter Try.func5, Try.ntmps5
    go_wp2_with fail
    refine (Hs.out _).mono ?_
    rintro e w1 ⟨rfl, b1⟩
    go_wp2_with fail
    refine (Hi.out _ (HTb.out _ _ HT.out b1)).mono ?_
    rintro e w2 ⟨rfl, b2⟩
    have b02 : Below w.heap.size w w2 := b1.trans (b2.mono b1.size)
    clear b1 b2
    go_wp2_with fail
    go_ret
    exact ⟨rfl, b02⟩
set_option maxHeartbeats 1000000 in
theorem lawFormat (s : ByteArray) (w : World) (T : World → Prop) (hTb : ∀ w w' : World, T w → Below w.heap.size w w' → T w') (hT : T w)
    (hI : s.size ≤ 1048576 → ∀ W, T W → Calls Try.prog 23 #[.string s] W fun e w' => e = .returned (.bool (isIn s formatL)) ∧ Below W.heap.size W w') :
    Calls Try.prog 6 #[.string s] w fun e w' => e = .returned (.bool true) ∧ Below w.heap.size w w' := by
  by_cases hbig : (1048576 : Int) < (s.size : Int)
  · clear hI hTb hT
    go_enter Try.func6, Try.ntmps6
    go_wp2
    go_ret
    exact ⟨rfl, Below.refl _ _⟩
  · have Hs : Hid (∀ W : World, Calls Try.prog 24 #[.string s] W fun e w' => e = .returned (.bool (isIn s formatL)) ∧ Below W.heap.size W w') := fun W => specFormat s W
    have Hi : Hid (∀ W, T W → Calls Try.prog 23 #[.string s] W fun e w' => e = .returned (.bool (isIn s formatL)) ∧ Below W.heap.size W w') := hI (by omega)
    have HT : Hid (T w) := hT
    have HTb : Hid (∀ w w' : World, T w → Below w.heap.size w w' → T w') := hTb
    clear hI hT hTb
    generalize isIn s formatL = V at *
    have gV : (V != V) = false := by simp
    have hd : decide ((1048576 : Int) < (s.size : Int)) = false := decide_eq_false hbig
    go_enter Try.func6, Try.ntmps6
    go_wp2_with fail
    refine (Hs.out _).mono ?_
    rintro e w1 ⟨rfl, b1⟩
    go_wp2_with fail
    refine (Hi.out _ (HTb.out _ _ HT.out b1)).mono ?_
    rintro e w2 ⟨rfl, b2⟩
    have b02 : Below w.heap.size w w2 := b1.trans (b2.mono b1.size)
    clear b1 b2
    go_wp2_with fail
    go_ret
    exact ⟨rfl, b02⟩
set_option maxHeartbeats 1000000 in
theorem lawBlock (s : ByteArray) (w : World) (T : World → Prop) (hTb : ∀ w w' : World, T w → Below w.heap.size w w' → T w') (hT : T w)
    (hI : s.size ≤ 1048576 → ∀ W, T W → Calls Try.prog 25 #[.string s] W fun e w' => e = .returned (.bool (isIn s blockL)) ∧ Below W.heap.size W w') :
    Calls Try.prog 7 #[.string s] w fun e w' => e = .returned (.bool true) ∧ Below w.heap.size w w' := by
  by_cases hbig : (1048576 : Int) < (s.size : Int)
  · clear hI hTb hT
    go_enter Try.func7, Try.ntmps7
    go_wp2
    go_ret
    exact ⟨rfl, Below.refl _ _⟩
  · have Hs : Hid (∀ W : World, Calls Try.prog 26 #[.string s] W fun e w' => e = .returned (.bool (isIn s blockL)) ∧ Below W.heap.size W w') := fun W => specBlock s W
    have Hi : Hid (∀ W, T W → Calls Try.prog 25 #[.string s] W fun e w' => e = .returned (.bool (isIn s blockL)) ∧ Below W.heap.size W w') := hI (by omega)
    have HT : Hid (T w) := hT
    have HTb : Hid (∀ w w' : World, T w → Below w.heap.size w w' → T w') := hTb
    clear hI hT hTb
    generalize isIn s blockL = V at *
    have gV : (V != V) = false := by simp
    have hd : decide ((1048576 : Int) < (s.size : Int)) = false := decide_eq_false hbig
    go_enter Try.func7, Try.ntmps7
    go_wp2_with fail
    refine (Hs.out _).mono ?_
    rintro e w1 ⟨rfl, b1⟩
    go_wp2_with fail
    refine (Hi.out _ (HTb.out _ _ HT.out b1)).mono ?_
    rintro e w2 ⟨rfl, b2⟩
    have b02 : Below w.heap.size w w2 := b1.trans (b2.mono b1.size)
    clear b1 b2
    go_wp2_with fail
    go_ret
    exact ⟨rfl, b02⟩
set_option maxHeartbeats 1000000 in
theorem lawPart (s : ByteArray) (w : World) (T : World → Prop) (hTb : ∀ w w' : World, T w → Below w.heap.size w w' → T w') (hT : T w)
    (hI : s.size ≤ 1048576 → ∀ W, T W → Calls Try.prog 27 #[.string s] W fun e w' => e = .returned (.bool (isIn s partL)) ∧ Below W.heap.size W w') :
    Calls Try.prog 8 #[.string s] w fun e w' => e = .returned (.bool true) ∧ Below w.heap.size w w' := by
  by_cases hbig : (1048576 : Int) < (s.size : Int)
  · clear hI hTb hT
    go_enter Try.func8, Try.ntmps8
    go_wp2
    go_ret
    exact ⟨rfl, Below.refl _ _⟩
  · have Hs : Hid (∀ W : World, Calls Try.prog 28 #[.string s] W fun e w' => e = .returned (.bool (isIn s partL)) ∧ Below W.heap.size W w') := fun W => specPart s W
    have Hi : Hid (∀ W, T W → Calls Try.prog 27 #[.string s] W fun e w' => e = .returned (.bool (isIn s partL)) ∧ Below W.heap.size W w') := hI (by omega)
    have HT : Hid (T w) := hT
    have HTb : Hid (∀ w w' : World, T w → Below w.heap.size w w' → T w') := hTb
    clear hI hT hTb
    generalize isIn s partL = V at *
    have gV : (V != V) = false := by simp
    have hd : decide ((1048576 : Int) < (s.size : Int)) = false := decide_eq_false hbig
    go_enter Try.func8, Try.ntmps8
    go_wp2_with fail
    refine (Hs.out _).mono ?_
    rintro e w1 ⟨rfl, b1⟩
    go_wp2_with fail
    refine (Hi.out _ (HTb.out _ _ HT.out b1)).mono ?_
    rintro e w2 ⟨rfl, b2⟩
    have b02 : Below w.heap.size w w2 := b1.trans (b2.mono b1.size)
    clear b1 b2
    go_wp2_with fail
    go_ret
    exact ⟨rfl, b02⟩
set_option maxHeartbeats 1000000 in
theorem lawWall (s : ByteArray) (w : World) (T : World → Prop) (hTb : ∀ w w' : World, T w → Below w.heap.size w w' → T w') (hT : T w)
    (hI : s.size ≤ 1048576 → ∀ W, T W → Calls Try.prog 29 #[.string s] W fun e w' => e = .returned (.bool (isIn s wallL)) ∧ Below W.heap.size W w') :
    Calls Try.prog 9 #[.string s] w fun e w' => e = .returned (.bool true) ∧ Below w.heap.size w w' := by
  by_cases hbig : (1048576 : Int) < (s.size : Int)
  · clear hI hTb hT
    go_enter Try.func9, Try.ntmps9
    go_wp2
    go_ret
    exact ⟨rfl, Below.refl _ _⟩
  · have Hs : Hid (∀ W : World, Calls Try.prog 30 #[.string s] W fun e w' => e = .returned (.bool (isIn s wallL)) ∧ Below W.heap.size W w') := fun W => specWall s W
    have Hi : Hid (∀ W, T W → Calls Try.prog 29 #[.string s] W fun e w' => e = .returned (.bool (isIn s wallL)) ∧ Below W.heap.size W w') := hI (by omega)
    have HT : Hid (T w) := hT
    have HTb : Hid (∀ w w' : World, T w → Below w.heap.size w w' → T w') := hTb
    clear hI hT hTb
    generalize isIn s wallL = V at *
    have gV : (V != V) = false := by simp
    have hd : decide ((1048576 : Int) < (s.size : Int)) = false := decide_eq_false hbig
    go_enter Try.func9, Try.ntmps9
    go_wp2_with fail
    refine (Hs.out _).mono ?_
    rintro e w1 ⟨rfl, b1⟩
    go_wp2_with fail
    refine (Hi.out _ (HTb.out _ _ HT.out b1)).mono ?_
    rintro e w2 ⟨rfl, b2⟩
    have b02 : Below w.heap.size w w2 := b1.trans (b2.mono b1.size)
    clear b1 b2
    go_wp2_with fail
    go_ret
    exact ⟨rfl, b02⟩
set_option maxHeartbeats 1000000 in
theorem lawHead (s : ByteArray) (w : World) (T : World → Prop) (hTb : ∀ w w' : World, T w → Below w.heap.size w w' → T w') (hT : T w)
    (hI : s.size ≤ 1048576 → ∀ W, T W → Calls Try.prog 31 #[.string s] W fun e w' => e = .returned (.bool (isIn s headL)) ∧ Below W.heap.size W w') :
    Calls Try.prog 10 #[.string s] w fun e w' => e = .returned (.bool true) ∧ Below w.heap.size w w' := by
  by_cases hbig : (1048576 : Int) < (s.size : Int)
  · clear hI hTb hT
    go_enter Try.func10, Try.ntmps10
    go_wp2
    go_ret
    exact ⟨rfl, Below.refl _ _⟩
  · have Hs : Hid (∀ W : World, Calls Try.prog 32 #[.string s] W fun e w' => e = .returned (.bool (isIn s headL)) ∧ Below W.heap.size W w') := fun W => specHead s W
    have Hi : Hid (∀ W, T W → Calls Try.prog 31 #[.string s] W fun e w' => e = .returned (.bool (isIn s headL)) ∧ Below W.heap.size W w') := hI (by omega)
    have HT : Hid (T w) := hT
    have HTb : Hid (∀ w w' : World, T w → Below w.heap.size w w' → T w') := hTb
    clear hI hT hTb
    generalize isIn s headL = V at *
    have gV : (V != V) = false := by simp
    have hd : decide ((1048576 : Int) < (s.size : Int)) = false := decide_eq_false hbig
    go_enter Try.func10, Try.ntmps10
    go_wp2_with fail
    refine (Hs.out _).mono ?_
    rintro e w1 ⟨rfl, b1⟩
    go_wp2_with fail
    refine (Hi.out _ (HTb.out _ _ HT.out b1)).mono ?_
    rintro e w2 ⟨rfl, b2⟩
    have b02 : Below w.heap.size w w2 := b1.trans (b2.mono b1.size)
    clear b1 b2
    go_wp2_with fail
    go_ret
    exact ⟨rfl, b02⟩

end Go.Proofs.Ytjbjmjnjdadjcaa.Sg
