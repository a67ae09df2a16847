/- The law of Under, of what the program's and the model's functions hand back. -/
import Derived.Test.YtijdbflfnopmhaaTrA
import Derived.Test.YtijdbflfnopmhaaLwItTo2
import Derived.Test.YtijdbflfnopmhaaLwItEq2
import Derived.Test.YtijdbflfnopmhaaLwIt2
namespace Go.Proofs.Ytijdbflfnopmhaa.Sg
open Go.ChangeShapes Go.WideShapes Go.ChangeAt Go.RowKit

theorem itW_le {l : List ItB} {t : ItB} (h : t ∈ l) : itW t ≤ itsW l := by
  unfold itsW
  induction l with
  | nil => exact absurd h List.not_mem_nil
  | cons u l ih =>
    rw [List.map_cons, List.sum_cons, List.length_cons]
    rcases List.mem_cons.1 h with rfl | h
    · omega
    · have := ih h
      omega
theorem its_light {l : List ItB} (h : itsW l ≤ 1048576) : ItsW l ∧ ∀ t ∈ l, t.tx.size ≤ 1048576 := by
  refine ⟨⟨by unfold itsW at h; omega, fun t ht => ?_⟩, fun t ht => ?_⟩
  · have := itW_le ht
    unfold itW attrsW at this
    omega
  · have := itW_le ht
    unfold itW at this
    omega

set_option maxRecDepth 20000 in
set_option maxHeartbeats 4000000 in
theorem lawUnder (z : List ItB) (a : Option Addr) (c : Nat) (i k : Int) (w : World) (T : World → Prop) (hTb : ∀ w w' : World, T w → Below w.heap.size w w' → T w') (hT : T w) (h : ItsIn w a z) (m : ItsHeld z)
    (hI : itsW z ≤ 1048576 → ∀ W (x : Option Addr), ItsAt W x z → T W → Calls Try.prog 15 #[.slice x z.length z.length, .int .i64 i, .int .i64 k] W fun e w' => e = .returned (.bool (underB z i k)) ∧ Below W.heap.size W w') :
    Calls Try.prog 4 #[.slice a z.length c, .int .i64 i, .int .i64 k] w fun e w' => e = .returned (.bool true) ∧ Below w.heap.size w w' := by
  have HTw : Hid (T w) := hT
  have HTb : Hid (∀ w w' : World, T w → Below w.heap.size w w' → T w') := hTb
  have Ha : Hid (ItsIn w a z) := h
  have Hz : Hid (∀ W, ItsIn W a z → Calls Try.prog 9 #[.slice a z.length c, .int .i64 1048576] W fun e w' => e = .returned (.int .i64 (leftZ 1048576 (itsW z))) ∧ Below W.heap.size W w') := fun W hW => szItemS_any z a z.length c 1048576 W hW rfl m (by decide) (by decide)
  clear h m hT hTb
  by_cases hbig : itsW z ≤ 1048576
  · obtain ⟨hlight, htext⟩ := its_light hbig
    have hlen : z.length ≤ 1048576 := hlight.1
    have Hat : Hid (∀ t ∈ z, t.ats.length ≤ 1048576 ∧ t.kids.length ≤ 1048576) := hlight.2
    have hz : leftZ 1048576 (itsW z) = 1048576 - (itsW z : Int) := by unfold leftZ; rw [if_pos (by omega)]
    have Hz1 := Hz.out w Ha.out
    rw [hz] at Hz1
    have g1 : ¬ (1048576 - (itsW z : Int)) < 0 := by omega
    have g1' : decide ((1048576 - (itsW z : Int)) < 0) = false := decide_eq_false g1
    have Hto : Hid (∀ W, ItsIn W a z → Calls Try.prog 11 #[.slice a z.length c] W fun e w' => e = .returned (.slice (some ⟨W.heap.size, 0, none⟩) z.length z.length) ∧ OwnIts w' W.heap.size (.slice (some ⟨W.heap.size, 0, none⟩) z.length z.length) z ∧ Below W.heap.size W w') := fun W hW => toItemS_any z a z.length c W hW rfl (by omega) (fun t ht => ⟨Nat.le_trans (Hat.out t ht).1 (by decide), Nat.le_trans (Hat.out t ht).2 (by decide)⟩)
    have Hs : Hid (∀ W (x : Option Addr), ItsAt W x z → Calls Try.prog 14 #[.slice x z.length z.length, .int .i64 i, .int .i64 k] W fun e w' => e = .returned (.bool (underB z i k)) ∧ Below W.heap.size W w') := fun W x hx => calls_below (specUnder z x z.length z.length i k W hx rfl (by omega))
    have Hi : Hid (∀ W (x : Option Addr), ItsAt W x z → T W → Calls Try.prog 15 #[.slice x z.length z.length, .int .i64 i, .int .i64 k] W fun e w' => e = .returned (.bool (underB z i k)) ∧ Below W.heap.size W w') := hI hbig
    have He : Hid (∀ W (x y : Option Addr), ItsAt W x z → ItsAt W y z → Calls Try.prog 13 #[.slice x z.length z.length, .slice y z.length z.length] W fun e w' => e = .returned (.bool true) ∧ Below W.heap.size W w') := fun W x y hx hy => eqItemS_same z x y z.length z.length z.length W hx hy rfl (by omega) (fun t ht => ⟨Nat.le_trans (Hat.out t ht).1 (by decide), Nat.le_trans (Hat.out t ht).2 (by decide)⟩)
    clear Hz hz Hat hlight htext hI
    generalize underB z i k = V at *
    have gV : (V != V) = false := by simp
    generalize (1048576 - (itsW z : Int)) = left at *
    go_enter Try.func4, Try.ntmps4
    go_wp2_with fail
    refine Hz1.mono ?_
    rintro e w1 ⟨rfl, b1⟩
    go_wp2_with fail
    refine (Hto.out _ (Ha.out.keep b1)).mono ?_
    rintro e w2 ⟨rfl, o2, b2⟩
    have b02 : Below w.heap.size w w2 := b1.trans (b2.mono b1.size)
    obtain ⟨a2, c2, e2, _, A2⟩ := its_of_own o2
    cases e2
    go_wp2_with fail
    refine (Hs.out _ _ A2).mono ?_
    rintro e w3 ⟨rfl, b3⟩
    have b03 : Below w.heap.size w w3 := b02.trans (b3.mono b02.size)
    clear o2 A2 b1 b2 b3 b02 Hz1
    go_wp2_with fail
    refine (Hto.out _ (Ha.out.keep b03)).mono ?_
    rintro e w4 ⟨rfl, o4, b4⟩
    have b04 : Below w.heap.size w w4 := b03.trans (b4.mono b03.size)
    obtain ⟨a4, c4, e4, _, A4⟩ := its_of_own o4
    cases e4
    have T4 := HTb.out _ _ HTw.out b04
    go_wp2_with fail
    refine (Hi.out _ _ A4 T4).mono ?_
    rintro e w5 ⟨rfl, b5⟩
    have b05 : Below w.heap.size w w5 := b04.trans (b5.mono b04.size)
    have A5 := A4.keep b5
    clear o4 A4 b03 b04 b4 b5 T4
    go_wp2_with fail
    refine (Hto.out _ (Ha.out.keep b05)).mono ?_
    rintro e w6 ⟨rfl, o6, b6⟩
    have b06 : Below w.heap.size w w6 := b05.trans (b6.mono b05.size)
    have A6 := A5.keep b6
    obtain ⟨a6, c6, e6, _, A7⟩ := its_of_own o6
    cases e6
    clear o6 A5 b05 b6
    go_wp2_with fail
    refine (He.out _ _ _ A6 A7).mono ?_
    rintro e w7 ⟨rfl, b7⟩
    have b07 : Below w.heap.size w w7 := b06.trans (b7.mono b06.size)
    clear A6 A7 b06 b7
    go_wp2_with fail
    go_ret
    exact ⟨rfl, b07⟩
  · have hz : leftZ 1048576 (itsW z) = -1 := by unfold leftZ; rw [if_neg (by omega)]
    have Hz1 := Hz.out w Ha.out
    rw [hz] at Hz1
    clear hI
    go_enter Try.func4, Try.ntmps4
    go_wp2_with fail
    refine Hz1.mono ?_
    rintro e w1 ⟨rfl, b1⟩
    go_wp2_with fail
    go_ret
    exact ⟨rfl, b1⟩

end Go.Proofs.Ytijdbflfnopmhaa.Sg
