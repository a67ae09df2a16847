/- The law of TokensText, out of the program's contract. -/
import Derived.Test.YtploagieecepfaaDoorShToks
import Derived.Test.YtploagieecepfaaDoorLwTok
import Derived.Test.YtploagieecepfaaDoorLwTo5
namespace Go.Proofs.YtploagieecepfaaDoor.Sg
open Go.ChangeShapes Go.WideShapes Go.ChangeAt Go.RowKit

set_option maxRecDepth 20000 in
set_option maxHeartbeats 4000000 in
theorem lawTokensText (z : List TokB) (a : Option Addr) (c : Nat) (w : World) (T : World → Prop) (hTb : ∀ w w' : World, T w → Below w.heap.size w w' → T w') (hT : T w) (h : ToksIn w a z) (m : ToksHeld z)
    (hI : toksW z ≤ 1048576 → ∀ W (x : Option Addr), ToksAt W x z → T W → Calls Tryd.prog 13 #[.slice x z.length z.length] W fun e w' => e = .returned (.string (toksS z)) ∧ Below W.heap.size W w') :
    Calls Tryd.prog 4 #[.slice a z.length c] w fun e w' => e = .returned (.bool true) ∧ Below w.heap.size w w' := by
  have HTw : Hid (T w) := hT
  have HTb : Hid (∀ w w' : World, T w → Below w.heap.size w w' → T w') := hTb
  have Ha : Hid (ToksIn w a z) := h
  have Hz : Hid (∀ W, ToksIn W a z → Calls Tryd.prog 10 #[.slice a z.length c, .int .i64 1048576] W fun e w' => e = .returned (.int .i64 (leftZ 1048576 (toksW z))) ∧ Below W.heap.size W w') := fun W hW => szTokenS_any z a z.length c 1048576 W hW rfl m (by decide) (by decide)
  clear h m hT hTb
  by_cases hbig : toksW z ≤ 1048576
  · have hlen : z.length ≤ 1048576 := by unfold toksW at hbig; omega
    have Hat : Hid (∀ t ∈ z, t.2.2.1.length ≤ 1048576) := fun t ht => by
      have := tokW_in ht
      unfold tokW attrsW at this
      omega
    have hz : leftZ 1048576 (toksW z) = 1048576 - (toksW z : Int) := by unfold leftZ; rw [if_pos (by omega)]
    have Hz1 := Hz.out w Ha.out
    rw [hz] at Hz1
    have g1 : ¬ (1048576 - (toksW z : Int)) < 0 := by omega
    have g1' : decide ((1048576 - (toksW z : Int)) < 0) = false := decide_eq_false g1
    have Hto : Hid (∀ W, ToksIn W a z → Calls Tryd.prog 12 #[.slice a z.length c] W fun e w' => e = .returned (.slice (some ⟨W.heap.size, 0, none⟩) z.length z.length) ∧ OwnToks w' W.heap.size (.slice (some ⟨W.heap.size, 0, none⟩) z.length z.length) z ∧ Below W.heap.size W w') := fun W hW => toTokenS_any z a z.length c W hW rfl (by omega) (fun t ht => Nat.le_trans (Hat.out t ht) (by decide))
    have Hs : Hid (∀ W (x : Option Addr), ToksAt W x z → Calls Tryd.prog 11 #[.slice x z.length z.length] W fun e w' => e = .returned (.string (toksS z)) ∧ Below W.heap.size W w') := fun W x hx => specTokensText z x z.length z.length W hx rfl hbig
    have Hi : Hid (∀ W (x : Option Addr), ToksAt W x z → T W → Calls Tryd.prog 13 #[.slice x z.length z.length] W fun e w' => e = .returned (.string (toksS z)) ∧ Below W.heap.size W w') := hI hbig
    have He : Hid (∀ W (x y : Option Addr), ToksAt W x z → ToksAt W y z → Calls Tryd.prog 14 #[.slice x z.length z.length, .slice y z.length z.length] W fun e w' => e = .returned (.bool true) ∧ Below W.heap.size W w') := fun W x y hx hy => eqTokenS_same z x y z.length z.length z.length W hx hy rfl (by omega) (fun t ht => Nat.le_trans (Hat.out t ht) (by decide))
    clear Hz hz Hat hI
    generalize toksS z = V at *
    generalize (1048576 - (toksW z : Int)) = left at *
    have gV : (V.toList == V.toList) = true := by simp
    go_enter Tryd.func4, Tryd.ntmps4
    go_wp2_with fail
    refine Hz1.mono ?_
    rintro e w1 ⟨rfl, b1⟩
    go_wp2_with fail
    refine (Hto.out _ (Ha.out.keep b1)).mono ?_
    rintro e w2 ⟨rfl, o2, b2⟩
    have b02 : Below w.heap.size w w2 := b1.trans (b2.mono b1.size)
    obtain ⟨a2, c2, e2, A2⟩ := toks_of_own o2
    cases e2
    go_wp2_with fail
    refine (Hs.out _ _ A2).mono ?_
    rintro e w3 ⟨rfl, b3⟩
    have b03 : Below w.heap.size w w3 := b02.trans (b3.mono b02.size)
    clear o2 A2 b1 b2 b3 b02 Hz1
    go_wp2_with fail
    refine (Hto.out _ (Ha.out.keep b03)).mono ?_
    rintro e w4 ⟨rfl, o4, b4⟩
    have b04 : Below w.heap.size w w4 := b03.trans (b4.mono b03.size)
    obtain ⟨a4, c4, e4, A4⟩ := toks_of_own o4
    cases e4
    have M4 := HTb.out _ _ HTw.out b04
    go_wp2_with fail
    refine (Hi.out _ _ A4 M4).mono ?_
    rintro e w5 ⟨rfl, b5⟩
    have b05 : Below w.heap.size w w5 := b04.trans (b5.mono b04.size)
    have A5 := A4.keep b5
    clear o4 A4 b03 b04 b4 b5 M4
    go_wp2_with fail
    refine (Hto.out _ (Ha.out.keep b05)).mono ?_
    rintro e w6 ⟨rfl, o6, b6⟩
    have b06 : Below w.heap.size w w6 := b05.trans (b6.mono b05.size)
    have A6 := A5.keep b6
    obtain ⟨a6, c6, e6, A7⟩ := toks_of_own o6
    cases e6
    clear o6 A5 b05 b6
    go_wp2_with fail
    refine (He.out _ _ _ A6 A7).mono ?_
    rintro e w7 ⟨rfl, b7⟩
    have b07 : Below w.heap.size w w7 := b06.trans (b7.mono b06.size)
    clear A6 A7 b06 b7
    go_wp2_with fail
    go_ret
    exact ⟨rfl, b07⟩
  · have hz : leftZ 1048576 (toksW z) = -1 := by unfold leftZ; rw [if_neg (by omega)]
    have Hz1 := Hz.out w Ha.out
    rw [hz] at Hz1
    go_enter Tryd.func4, Tryd.ntmps4
    go_wp2_with fail
    refine Hz1.mono ?_
    rintro e w1 ⟨rfl, b1⟩
    go_wp2_with fail
    go_ret
    exact ⟨rfl, b1⟩

end Go.Proofs.YtploagieecepfaaDoor.Sg
