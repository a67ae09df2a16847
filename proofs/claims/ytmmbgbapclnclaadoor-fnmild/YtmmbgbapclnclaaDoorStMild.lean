/- The law FnMild, out of the program's contracts. Written by mk_stlaw.py. -/
import Derived.Test.YtmmbgbapclnclaaDoorStNoteOf
import Derived.Test.YtmmbgbapclnclaaDoorStDraws
import Derived.Test.YtmmbgbapclnclaaDoorStKeep
import Derived.Test.YtmmbgbapclnclaaDoorGLaw
namespace Go.Proofs.YtmmbgbapclnclaaDoor.Sg
open Go.ChangeShapes Go.WideShapes Go.ChangeAt Go.RowKit

set_option maxHeartbeats 8000000 in
set_option maxRecDepth 100000 in
theorem lawMild (T : World → Prop) (keep : ∀ W W', T W → Below W.heap.size W W' → T W') (hTextOk : ∀ (s : ByteArray) (W : World), s.size ≤ 1048576 → T W → Calls Tryd.prog 17 #[.string s] W fun e w' => e = .returned (.bool (stTextB s)) ∧ Below W.heap.size W w') (hTextOf : ∀ (s : ByteArray) (W : World), s.size ≤ 1048576 → T W → Calls Tryd.prog 11 #[.string s] W fun e w' => e = .returned (.string (mildS s)) ∧ Below W.heap.size W w') (hNoteOk : ∀ (s : ByteArray) (W : World), s.size ≤ 1048576 → T W → Calls Tryd.prog 19 #[.string s] W fun e w' => e = .returned (.bool (stNoteB s)) ∧ Below W.heap.size W w') (hNoteOf : ∀ (s : ByteArray) (W : World), s.size ≤ 1048576 → T W → Calls Tryd.prog 12 #[.string s] W fun e w' => e = .returned (.string (stNoteS s)) ∧ Below W.heap.size W w') (w : World) (n : Nat) (a : Option Addr) (cap : Nat) (hcode : Code w.heap.size w a n) (_hm : n ≤ 9223372036854775807) (hT : T w) :
    Calls Tryd.prog 3 #[.slice a n cap] w fun e w' => e = .returned (.bool true) ∧ Below w.heap.size w w' := by
  have Hk : Hid (∀ W W', T W → Below W.heap.size W W' → T W') := keep
  have HTextOk : Hid (∀ (s : ByteArray) (W : World), s.size ≤ 1048576 → T W → Calls Tryd.prog 17 #[.string s] W fun e w' => e = .returned (.bool (stTextB s)) ∧ Below W.heap.size W w') := hTextOk
  have HTextOf : Hid (∀ (s : ByteArray) (W : World), s.size ≤ 1048576 → T W → Calls Tryd.prog 11 #[.string s] W fun e w' => e = .returned (.string (mildS s)) ∧ Below W.heap.size W w') := hTextOf
  have HNoteOk : Hid (∀ (s : ByteArray) (W : World), s.size ≤ 1048576 → T W → Calls Tryd.prog 19 #[.string s] W fun e w' => e = .returned (.bool (stNoteB s)) ∧ Below W.heap.size W w') := hNoteOk
  have HNoteOf : Hid (∀ (s : ByteArray) (W : World), s.size ≤ 1048576 → T W → Calls Tryd.prog 12 #[.string s] W fun e w' => e = .returned (.string (stNoteS s)) ∧ Below W.heap.size W w') := hNoteOf
  clear keep hTextOk hTextOf hNoteOk hNoteOf
  have K0 : SKeep T w a n w := ⟨Below.refl _ _, hcode, hT⟩
  clear hcode hT
  by_cases hbig : (1048576 : Int) < (n : Int)
  · have Hd : Hid (decide ((1048576 : Int) < (n : Int)) = true) := by show _ = _; simpa using hbig
    go_enter Tryd.func3, Tryd.ntmps3
    go_wp2_with fail
    refine (big_any a n cap _).mono ?_
    rintro e w1 ⟨rfl, rfl⟩
    rw [Hd.out]
    go_wp2_with fail
    go_ret
    exact ⟨rfl, Below.refl _ _⟩
  have hn : n ≤ 1048576 := by omega
  have Hd : Hid (decide ((1048576 : Int) < (n : Int)) = false) := by show _ = _; simpa using hbig
  clear hbig
  go_enter Tryd.func3, Tryd.ntmps3
  go_wp2_with fail
  refine (big_any a n cap _).mono ?_
  rintro e w0 ⟨rfl, hw0⟩
  have K : SKeep T w a n w0 := hw0 ▸ K0
  clear hw0 K0
  rw [Hd.out]
  clear Hd
  go_wp2_with fail
  refine (drawTextOf a n cap _ K.2.1 hn).mono ?_
  rintro e w1 ⟨s, hs, rfl, b1⟩
  have K1 := K.step Hk.out b1
  clear b1
  clear K
  rename SKeep _ _ _ _ _ => K
  go_wp2_with fail
  refine (drawNoteOf a n cap _ K.2.1 hn).mono ?_
  rintro e w1 ⟨t, ht, rfl, b1⟩
  have K1 := K.step Hk.out b1
  clear b1
  clear K
  rename SKeep _ _ _ _ _ => K
  have hsz := mild_size s
  have hnz := st_note_size t
  have Ha : Hid (stTextB (mildS s) = true) := textOk_made s
  have Hb : Hid (stNoteB (stNoteS t) = true) := noteOk_made t
  have Hs1 : Hid (stTextB s = true → mildS s = s) := fun h => text_stays h
  have Hs2 : Hid (stNoteB t = true → stNoteS t = t) := fun h => note_stays h
  have Ht1 : Hid (mildS (mildS s) = mildS s) := mild_mild s
  have Ht2 : Hid (stNoteS (stNoteS t) = stNoteS t) := note_note t
  go_wp2_with fail
  refine (HTextOf.out s _ (by omega) K.2.2).mono ?_
  rintro e w1 ⟨rfl, b1⟩
  have K1 := K.step Hk.out b1
  clear b1
  clear K
  rename SKeep _ _ _ _ _ => K
  go_wp2_with fail
  refine (HNoteOf.out t _ (by omega) K.2.2).mono ?_
  rintro e w1 ⟨rfl, b1⟩
  have K1 := K.step Hk.out b1
  clear b1
  clear K
  rename SKeep _ _ _ _ _ => K
  go_wp2_with fail
  refine (drawTextOk a n cap _ K.2.1 hn).mono ?_
  rintro e w1 ⟨x, hx, rfl, b1⟩
  have K1 := K.step Hk.out b1
  clear b1
  clear K
  rename SKeep _ _ _ _ _ => K
  go_wp2_with fail
  refine (drawNoteOk a n cap _ K.2.1 hn).mono ?_
  rintro e w1 ⟨y, hy, rfl, b1⟩
  have K1 := K.step Hk.out b1
  clear b1
  clear K
  rename SKeep _ _ _ _ _ => K
  have q1 : ((mildS s).toList == (mildS s).toList) = true := by simp
  have q2 : ((stNoteS t).toList == (stNoteS t).toList) = true := by simp
  have q3 : (stTextB x != stTextB x) = false := by simp
  have q4 : (stNoteB y != stNoteB y) = false := by simp
  go_wp2_with fail
  refine (specTextOf s _ (by omega)).mono ?_
  rintro e w1 ⟨rfl, b1⟩
  have K1 := K.step Hk.out b1
  clear b1
  clear K
  rename SKeep _ _ _ _ _ => K
  go_wp2_with fail
  refine (specNoteOf t _ (by omega)).mono ?_
  rintro e w1 ⟨rfl, b1⟩
  have K1 := K.step Hk.out b1
  clear b1
  clear K
  rename SKeep _ _ _ _ _ => K
  go_wp2_with fail
  refine (HTextOk.out x _ (by omega) K.2.2).mono ?_
  rintro e w1 ⟨rfl, b1⟩
  have K1 := K.step Hk.out b1
  clear b1
  clear K
  rename SKeep _ _ _ _ _ => K
  go_wp2_with fail
  refine (specTextOk x _ (by omega)).mono ?_
  rintro e w1 ⟨rfl, b1⟩
  have K1 := K.step Hk.out b1
  clear b1
  clear K
  rename SKeep _ _ _ _ _ => K
  go_wp2_with fail
  refine (HNoteOk.out y _ (by omega) K.2.2).mono ?_
  rintro e w1 ⟨rfl, b1⟩
  have K1 := K.step Hk.out b1
  clear b1
  clear K
  rename SKeep _ _ _ _ _ => K
  go_wp2_with fail
  refine (specNoteOk y _ (by omega)).mono ?_
  rintro e w1 ⟨rfl, b1⟩
  have K1 := K.step Hk.out b1
  clear b1
  clear K
  rename SKeep _ _ _ _ _ => K
  go_wp2_with fail
  refine (HTextOk.out (mildS s) _ (by omega) K.2.2).mono ?_
  rintro e w1 ⟨rfl, b1⟩
  have K1 := K.step Hk.out b1
  clear b1
  clear K
  rename SKeep _ _ _ _ _ => K
  rw [Ha.out]
  go_wp2_with fail
  refine (HNoteOk.out (stNoteS t) _ (by omega) K.2.2).mono ?_
  rintro e w1 ⟨rfl, b1⟩
  have K1 := K.step Hk.out b1
  clear b1
  clear K
  rename SKeep _ _ _ _ _ => K
  rw [Hb.out]
  clear q3 q4
  go_wp2_with fail
  refine (HTextOk.out s _ (by omega) K.2.2).mono ?_
  rintro e w1 ⟨rfl, b1⟩
  have K1 := K.step Hk.out b1
  clear b1
  clear K
  rename SKeep _ _ _ _ _ => K
  cases hb1 : stTextB s
  · clear hb1 Hs1
    go_wp2_with fail
    refine (HNoteOk.out t _ (by omega) K.2.2).mono ?_
    rintro e w1 ⟨rfl, b1⟩
    have K1 := K.step Hk.out b1
    clear b1
    clear K
    rename SKeep _ _ _ _ _ => K
    cases hb2 : stNoteB t
    · clear hb2 Hs2
      go_wp2_with fail
      refine (HTextOf.out (mildS s) _ (by omega) K.2.2).mono ?_
      rintro e w1 ⟨rfl, b1⟩
      have K1 := K.step Hk.out b1
      clear b1
      clear K
      rename SKeep _ _ _ _ _ => K
      rw [Ht1.out]
      go_wp2_with fail
      refine (HNoteOf.out (stNoteS t) _ (by omega) K.2.2).mono ?_
      rintro e w1 ⟨rfl, b1⟩
      have K1 := K.step Hk.out b1
      clear b1
      clear K
      rename SKeep _ _ _ _ _ => K
      rw [Ht2.out]
      go_wp2_with fail
      go_ret
      exact ⟨rfl, K.1⟩
    · have He2 : Hid (stNoteS t = t) := Hs2.out hb2
      clear hb2 Hs2
      have q5 : ((stNoteS t).toList == t.toList) = true := by rw [He2.out]; simp
      go_wp2_with fail
      refine (HTextOf.out (mildS s) _ (by omega) K.2.2).mono ?_
      rintro e w1 ⟨rfl, b1⟩
      have K1 := K.step Hk.out b1
      clear b1
      clear K
      rename SKeep _ _ _ _ _ => K
      rw [Ht1.out]
      go_wp2_with fail
      refine (HNoteOf.out (stNoteS t) _ (by omega) K.2.2).mono ?_
      rintro e w1 ⟨rfl, b1⟩
      have K1 := K.step Hk.out b1
      clear b1
      clear K
      rename SKeep _ _ _ _ _ => K
      rw [Ht2.out]
      go_wp2_with fail
      go_ret
      exact ⟨rfl, K.1⟩
  · have He1 : Hid (mildS s = s) := Hs1.out hb1
    clear hb1 Hs1
    have q6 : ((mildS s).toList == s.toList) = true := by rw [He1.out]; simp
    go_wp2_with fail
    refine (HNoteOk.out t _ (by omega) K.2.2).mono ?_
    rintro e w1 ⟨rfl, b1⟩
    have K1 := K.step Hk.out b1
    clear b1
    clear K
    rename SKeep _ _ _ _ _ => K
    cases hb2 : stNoteB t
    · clear hb2 Hs2
      go_wp2_with fail
      refine (HTextOf.out (mildS s) _ (by omega) K.2.2).mono ?_
      rintro e w1 ⟨rfl, b1⟩
      have K1 := K.step Hk.out b1
      clear b1
      clear K
      rename SKeep _ _ _ _ _ => K
      rw [Ht1.out]
      go_wp2_with fail
      refine (HNoteOf.out (stNoteS t) _ (by omega) K.2.2).mono ?_
      rintro e w1 ⟨rfl, b1⟩
      have K1 := K.step Hk.out b1
      clear b1
      clear K
      rename SKeep _ _ _ _ _ => K
      rw [Ht2.out]
      go_wp2_with fail
      go_ret
      exact ⟨rfl, K.1⟩
    · have He2 : Hid (stNoteS t = t) := Hs2.out hb2
      clear hb2 Hs2
      have q5 : ((stNoteS t).toList == t.toList) = true := by rw [He2.out]; simp
      go_wp2_with fail
      refine (HTextOf.out (mildS s) _ (by omega) K.2.2).mono ?_
      rintro e w1 ⟨rfl, b1⟩
      have K1 := K.step Hk.out b1
      clear b1
      clear K
      rename SKeep _ _ _ _ _ => K
      rw [Ht1.out]
      go_wp2_with fail
      refine (HNoteOf.out (stNoteS t) _ (by omega) K.2.2).mono ?_
      rintro e w1 ⟨rfl, b1⟩
      have K1 := K.step Hk.out b1
      clear b1
      clear K
      rename SKeep _ _ _ _ _ => K
      rw [Ht2.out]
      go_wp2_with fail
      go_ret
      exact ⟨rfl, K.1⟩

end Go.Proofs.YtmmbgbapclnclaaDoor.Sg
