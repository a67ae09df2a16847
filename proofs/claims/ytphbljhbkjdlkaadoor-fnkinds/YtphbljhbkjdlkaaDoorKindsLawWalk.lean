/- The walk of the law of chapter 2. Whatever bytes come (more than 2^20 are let go by the law itself): the program's functions of chapter 2 answer at what is drawn as the model's do; what may begin a name may follow in one and may stand in a text; what is small stays small, lines that are told by one byte stay, and none is longer than it was. -/
import Derived.Test.YtphbljhbkjdlkaaDoorKdKinds
import Derived.Test.YtphbljhbkjdlkaaDoorKdModel
import Derived.Test.YtphbljhbkjdlkaaDoorKdText
import Derived.Test.YtphbljhbkjdlkaaDoorKdSmall
import Derived.Test.YtphbljhbkjdlkaaDoorKdLines
import Derived.Test.YtphbljhbkjdlkaaDoorKdDraws
import Derived.Test.YtphbljhbkjdlkaaDoorGLaw
namespace Go.Proofs.YtphbljhbkjdlkaaDoor.fnKinds
open Go.ChangeShapes Go.WideShapes Go.ChangeAt Go.RowKit Sg

/-- What stays while the law goes on: the bytes of the draw, and that the library's own variable holds a number. -/
def Keep (w : World) (a : Option Addr) (n : Nat) (w' : World) : Prop :=
  Below w.heap.size w w' ∧ Sg.Code w'.heap.size w' a n ∧ MaxLen w'
theorem Keep.step {w : World} {a : Option Addr} {n : Nat} {w' w'' : World} (h : Keep w a n w') (hb : Below w'.heap.size w' w'') : Keep w a n w'' :=
  ⟨h.1.trans (hb.mono h.1.size), (h.2.1.below hb).raise hb.size, h.2.2.below hb⟩

theorem first_next (n : Int) (h : firstB n = true) : nextB n = true := by unfold nextB; rw [h]; rfl
theorem first_text (n : Int) (h : firstB n = true) : textB n = true := by
  unfold firstB letterB withinB letterL firstL firstR inP at h
  simp only [List.any_cons, List.any_nil, Bool.or_false, Bool.or_eq_true, decide_eq_true_eq] at h
  have ho : okB n = true := okB_yes (by omega)
  exact decide_eq_true (.inr (.inr (.inr ⟨ho, by omega, by omega, by omega⟩)))
theorem lines_size (s : ByteArray) : (linesS s).size ≤ s.size := by
  have h := linesG_length false s.data.toList
  have e1 : (linesS s).size = (linesL s.data.toList).length := by simp [linesS, ByteArray.size]
  have e2 : s.data.toList.length = s.size := Array.length_toList
  rw [e1, ← e2]
  exact h
theorem small_size (s : ByteArray) : (smallS s).size = s.size := by
  show ((s.data.toList.map lowB).toArray).size = s.data.size
  simp
theorem lines_twice (s : ByteArray) : linesS (linesS s) = linesS s := by
  unfold linesS
  rw [show (⟨(linesL s.data.toList).toArray⟩ : ByteArray).data.toList = linesL s.data.toList from rfl, linesL_twice]

set_option maxHeartbeats 8000000 in
set_option maxRecDepth 100000 in
theorem walk (w : World) (n : Nat) (a : Option Addr) (cap : Nat) (hcode : Sg.Code w.heap.size w a n) (_hm : n ≤ 9223372036854775807) (hx : MaxLen w) :
    Calls Tryd.prog 3 #[.slice a n cap] w fun e w' => e = .returned (.bool true) ∧ Below w.heap.size w w' := by
  have K0 : Keep w a n w := ⟨Below.refl _ _, hcode, hx⟩
  clear hcode hx
  by_cases hbig : (1048576 : Int) < (n : Int)
  · have Hd : Hid (decide ((1048576 : Int) < (n : Int)) = true) := by show _ = _; simpa using hbig
    go_enter Tryd.func3, Tryd.ntmps3
    go_wp2_with fail
    refine (big_any a n cap _).mono ?_
    rintro e w1 ⟨rfl, rfl⟩
    rw [Hd.out]
    go_wp2_with fail
    go_ret
    exact ⟨rfl, Below.refl _ _⟩
  have hn : n ≤ 1048576 := by omega
  have Hd : Hid (decide ((1048576 : Int) < (n : Int)) = false) := by show _ = _; simpa using hbig
  clear hbig
  go_enter Tryd.func3, Tryd.ntmps3
  go_wp2_with fail
  refine (big_any a n cap _).mono ?_
  rintro e w0 ⟨rfl, hw0⟩
  have K : Keep w a n w0 := hw0 ▸ K0
  clear hw0 K0
  rw [Hd.out]
  clear Hd
  go_wp2_with fail
  refine (drawIsBlank a n cap _ K.2.1 hn).mono ?_
  rintro e w1 ⟨z0, rfl, b1⟩
  have K1 := K.step b1
  clear b1
  clear K
  rename Keep _ _ _ _ => K
  go_wp2_with fail
  refine (drawIsLetter a n cap _ K.2.1 hn).mono ?_
  rintro e w1 ⟨z1, rfl, b1⟩
  have K1 := K.step b1
  clear b1
  clear K
  rename Keep _ _ _ _ => K
  go_wp2_with fail
  refine (drawIsText a n cap _ K.2.1 hn).mono ?_
  rintro e w1 ⟨z2, rfl, b1⟩
  have K1 := K.step b1
  clear b1
  clear K
  rename Keep _ _ _ _ => K
  go_wp2_with fail
  refine (drawIsFirst a n cap _ K.2.1 hn).mono ?_
  rintro e w1 ⟨z3, rfl, b1⟩
  have K1 := K.step b1
  clear b1
  clear K
  rename Keep _ _ _ _ => K
  go_wp2_with fail
  refine (drawIsNext a n cap _ K.2.1 hn).mono ?_
  rintro e w1 ⟨z4, rfl, b1⟩
  have K1 := K.step b1
  clear b1
  clear K
  rename Keep _ _ _ _ => K
  go_wp2_with fail
  refine (drawSmall a n cap _ K.2.1 hn).mono ?_
  rintro e w1 ⟨s, hs0, rfl, b1⟩
  have K1 := K.step b1
  clear b1
  clear K
  rename Keep _ _ _ _ => K
  go_wp2_with fail
  refine (drawLines a n cap _ K.2.1 hn).mono ?_
  rintro e w1 ⟨t, ht0, rfl, b1⟩
  have K1 := K.step b1
  clear b1
  clear K
  rename Keep _ _ _ _ => K
  have q0 : (blankB z0 != blankB z0) = false := by simp
  have q1 : (letterB z1 != letterB z1) = false := by simp
  have q2 : (textB z2 != textB z2) = false := by simp
  have q3 : (firstB z3 != firstB z3) = false := by simp
  have q4 : (nextB z4 != nextB z4) = false := by simp
  have q5 : ((smallS s).toList == (smallS s).toList) = true := by simp
  have q6 : ((linesS t).toList == (linesS t).toList) = true := by simp
  go_wp2_with fail
  refine (implIsBlank z0 _).mono ?_
  rintro e w1 ⟨rfl, hs⟩
  have K1 := K.step (same_below hs (Below.refl _ _))
  clear hs
  clear K
  rename Keep _ _ _ _ => K
  go_wp2_with fail
  refine (specIsBlank z0 _).mono ?_
  rintro e w1 ⟨rfl, hs⟩
  have K1 := K.step (same_below hs (Below.refl _ _))
  clear hs
  clear K
  rename Keep _ _ _ _ => K
  go_wp2_with fail
  refine (implIsLetter z1 _).mono ?_
  rintro e w1 ⟨rfl, b1⟩
  have K1 := K.step b1
  clear b1
  clear K
  rename Keep _ _ _ _ => K
  go_wp2_with fail
  refine (specIsLetter z1 _).mono ?_
  rintro e w1 ⟨rfl, hs⟩
  have K1 := K.step (same_below hs (Below.refl _ _))
  clear hs
  clear K
  rename Keep _ _ _ _ => K
  go_wp2_with fail
  refine (implIsText z2 _).mono ?_
  rintro e w1 ⟨rfl, hs⟩
  have K1 := K.step (same_below hs (Below.refl _ _))
  clear hs
  clear K
  rename Keep _ _ _ _ => K
  go_wp2_with fail
  refine (specIsText z2 _).mono ?_
  rintro e w1 ⟨rfl, hs⟩
  have K1 := K.step (same_below hs (Below.refl _ _))
  clear hs
  clear K
  rename Keep _ _ _ _ => K
  go_wp2_with fail
  refine (implIsFirst z3 _).mono ?_
  rintro e w1 ⟨rfl, b1⟩
  have K1 := K.step b1
  clear b1
  clear K
  rename Keep _ _ _ _ => K
  go_wp2_with fail
  refine (specIsFirst z3 _).mono ?_
  rintro e w1 ⟨rfl, b1⟩
  have K1 := K.step b1
  clear b1
  clear K
  rename Keep _ _ _ _ => K
  go_wp2_with fail
  refine (implIsNext z4 _).mono ?_
  rintro e w1 ⟨rfl, b1⟩
  have K1 := K.step b1
  clear b1
  clear K
  rename Keep _ _ _ _ => K
  go_wp2_with fail
  refine (specIsNext z4 _).mono ?_
  rintro e w1 ⟨rfl, b1⟩
  have K1 := K.step b1
  clear b1
  clear K
  rename Keep _ _ _ _ => K
  go_wp2_with fail
  refine (implSmall s _ (by omega)).mono ?_
  rintro e w1 ⟨rfl, b1⟩
  have K1 := K.step b1
  clear b1
  clear K
  rename Keep _ _ _ _ => K
  go_wp2_with fail
  refine (specSmall s _ (by omega)).mono ?_
  rintro e w1 ⟨rfl, b1⟩
  have K1 := K.step b1
  clear b1
  clear K
  rename Keep _ _ _ _ => K
  go_wp2_with fail
  refine (implLines t _ (by omega) K.2.2).mono ?_
  rintro e w1 ⟨rfl, b1⟩
  have K1 := K.step b1
  clear b1
  clear K
  rename Keep _ _ _ _ => K
  go_wp2_with fail
  refine (specLines t _ (by omega)).mono ?_
  rintro e w1 ⟨rfl, b1⟩
  have K1 := K.step b1
  clear b1
  clear K
  rename Keep _ _ _ _ => K
  clear q0 q1 q2 q3 q4
  have hss := small_size s
  have hls := lines_size t
  have Hsm : Hid (smallS (smallS s) = smallS s) := smallS_small s
  have Hli : Hid (linesS (linesS t) = linesS t) := lines_twice t
  have hlt : ((linesS t).size : Int) ≤ (t.size : Int) := by omega
  go_wp2_with fail
  refine (implIsFirst z3 _).mono ?_
  rintro e w1 ⟨rfl, b1⟩
  have K1 := K.step b1
  clear b1
  clear K
  rename Keep _ _ _ _ => K
  cases hf : firstB z3
  · clear hf
    go_wp2_with fail
    refine (implSmall s _ (by omega)).mono ?_
    rintro e w1 ⟨rfl, b1⟩
    have K1 := K.step b1
    clear b1
    clear K
    rename Keep _ _ _ _ => K
    go_wp2_with fail
    refine (implSmall (smallS s) _ (by omega)).mono ?_
    rintro e w1 ⟨rfl, b1⟩
    have K1 := K.step b1
    clear b1
    clear K
    rename Keep _ _ _ _ => K
    rw [Hsm.out]
    go_wp2_with fail
    refine (implSmall s _ (by omega)).mono ?_
    rintro e w1 ⟨rfl, b1⟩
    have K1 := K.step b1
    clear b1
    clear K
    rename Keep _ _ _ _ => K
    go_wp2_with fail
    refine (implLines t _ (by omega) K.2.2).mono ?_
    rintro e w1 ⟨rfl, b1⟩
    have K1 := K.step b1
    clear b1
    clear K
    rename Keep _ _ _ _ => K
    go_wp2_with fail
    refine (implLines (linesS t) _ (by omega) K.2.2).mono ?_
    rintro e w1 ⟨rfl, b1⟩
    have K1 := K.step b1
    clear b1
    clear K
    rename Keep _ _ _ _ => K
    rw [Hli.out]
    go_wp2_with fail
    refine (implLines t _ (by omega) K.2.2).mono ?_
    rintro e w1 ⟨rfl, b1⟩
    have K1 := K.step b1
    clear b1
    clear K
    rename Keep _ _ _ _ => K
    go_wp2_with fail
    refine (implLines t _ (by omega) K.2.2).mono ?_
    rintro e w1 ⟨rfl, b1⟩
    have K1 := K.step b1
    clear b1
    clear K
    rename Keep _ _ _ _ => K
    go_wp2_with fail
    go_ret
    exact ⟨rfl, K.1⟩
  · have Hnx : Hid (nextB z3 = true) := first_next z3 hf
    have Htx : Hid (textB z3 = true) := first_text z3 hf
    clear hf
    go_wp2_with fail
    refine (implIsNext z3 _).mono ?_
    rintro e w1 ⟨rfl, b1⟩
    have K1 := K.step b1
    clear b1
    clear K
    rename Keep _ _ _ _ => K
    rw [Hnx.out]
    go_wp2_with fail
    refine (implIsText z3 _).mono ?_
    rintro e w1 ⟨rfl, hs⟩
    have K1 := K.step (same_below hs (Below.refl _ _))
    clear hs
    clear K
    rename Keep _ _ _ _ => K
    rw [Htx.out]
    go_wp2_with fail
    refine (implSmall s _ (by omega)).mono ?_
    rintro e w1 ⟨rfl, b1⟩
    have K1 := K.step b1
    clear b1
    clear K
    rename Keep _ _ _ _ => K
    go_wp2_with fail
    refine (implSmall (smallS s) _ (by omega)).mono ?_
    rintro e w1 ⟨rfl, b1⟩
    have K1 := K.step b1
    clear b1
    clear K
    rename Keep _ _ _ _ => K
    rw [Hsm.out]
    go_wp2_with fail
    refine (implSmall s _ (by omega)).mono ?_
    rintro e w1 ⟨rfl, b1⟩
    have K1 := K.step b1
    clear b1
    clear K
    rename Keep _ _ _ _ => K
    go_wp2_with fail
    refine (implLines t _ (by omega) K.2.2).mono ?_
    rintro e w1 ⟨rfl, b1⟩
    have K1 := K.step b1
    clear b1
    clear K
    rename Keep _ _ _ _ => K
    go_wp2_with fail
    refine (implLines (linesS t) _ (by omega) K.2.2).mono ?_
    rintro e w1 ⟨rfl, b1⟩
    have K1 := K.step b1
    clear b1
    clear K
    rename Keep _ _ _ _ => K
    rw [Hli.out]
    go_wp2_with fail
    refine (implLines t _ (by omega) K.2.2).mono ?_
    rintro e w1 ⟨rfl, b1⟩
    have K1 := K.step b1
    clear b1
    clear K
    rename Keep _ _ _ _ => K
    go_wp2_with fail
    refine (implLines t _ (by omega) K.2.2).mono ?_
    rintro e w1 ⟨rfl, b1⟩
    have K1 := K.step b1
    clear b1
    clear K
    rename Keep _ _ _ _ => K
    go_wp2_with fail
    go_ret
    exact ⟨rfl, K.1⟩

end Go.Proofs.YtphbljhbkjdlkaaDoor.fnKinds
