/- The program's NoteOk answers as the plain one. -/
import Derived.Test.YtbmmghkieolpkaaGreatDoorMR2115
import Derived.Test.YtbmmghkieolpkaaGreatDoorMR2110
import Derived.Test.YtbmmghkieolpkaaGreatDoorMR2119
namespace Go.Proofs.YtbmmghkieolpkaaGreatDoor.Sg
open Go.ChangeShapes Go.WideShapes Go.ChangeAt Go.RowKit

/-- What the library's own variables hold. -/
def StLib (w : World) : Prop := Lib.Utf8Tabs 2 3 w ∧ MaxLen w
theorem StLib.below {w w' : World} (h : StLib w) (hb : Below w.heap.size w w') : StLib w' := ⟨Utf8Tabs_below h.1 hb, h.2.below hb⟩

theorem cr_index : ∀ l : List UInt8, decide (0 ≤ Lib.indexByte l 13) = !noCr l
  | [] => rfl
  | b :: l => by
    have ih := cr_index l
    have hg := Lib.indexByte_ge l 13
    unfold Lib.indexByte
    by_cases h : b = 13
    · subst h
      rfl
    · have h1 : (b == 13) = false := beq_false_of_ne h
      have h2 : noCr (b :: l) = noCr l := by
        show ((b != 13) && l.all _) = _
        rw [show (b != 13) = true by simp [h]]
        rfl
      rw [h1, h2, ← ih]
      by_cases h3 : Lib.indexByte l 13 = -1
      · rw [h3]
        rfl
      · have h4 : (Lib.indexByte l 13 == -1) = false := beq_false_of_ne h3
        rw [h4]
        show decide (0 ≤ Lib.indexByte l 13 + 1) = _
        rw [decide_eq_true (by omega), decide_eq_true (by omega)]

theorem two_index : ∀ l : List UInt8, Lib.contains l [45, 45] = !noTwo l
  | [] => rfl
  | b :: l => by
    have ih := two_index l
    have hg := Lib.index_ge l [45, 45]
    unfold Lib.contains at ih ⊢
    unfold Lib.index
    have hp : ([45, 45] : List UInt8).isPrefixOf (b :: l) = (b == 45 && l.head? == some 45) := by
      cases l with
      | nil => simp [List.isPrefixOf]
      | cons c l =>
        simp only [List.isPrefixOf, List.head?_cons, Bool.and_true]
        rw [show ((45 : UInt8) == b) = (b == 45) from Bool.beq_comm, show ((45 : UInt8) == c) = (c == 45) from Bool.beq_comm]
        rfl
    rw [hp]
    show _ = !(!(b == 45 && l.head? == some 45) && noTwo l)
    cases hq : (b == 45 && l.head? == some 45)
    · show _ = !noTwo l
      rw [← ih]
      by_cases h3 : Lib.index l [45, 45] = -1
      · rw [h3]
        rfl
      · have h4 : (Lib.index l [45, 45] == -1) = false := beq_false_of_ne h3
        rw [h4]
        show decide (0 ≤ Lib.index l [45, 45] + 1) = _
        rw [decide_eq_true (by omega), decide_eq_true (by omega)]
    · rfl

theorem last_suffix (l : List UInt8) : Lib.hasSuffix l [45] = !lastOk l := by
  unfold Lib.hasSuffix lastOk List.isSuffixOf
  rw [List.getLast?_eq_head?_reverse]
  cases l.reverse with
  | nil => rfl
  | cons b m =>
    show ((45 : UInt8) == b && true) = !(some b != some 45)
    by_cases h : b = 45
    · subst h
      rfl
    · have h1 : ((45 : UInt8) == b) = false := beq_false_of_ne (Ne.symm h)
      have h2 : (some b != some (45 : UInt8)) = true := by simp [h]
      rw [h1, h2]
      rfl

set_option maxHeartbeats 2000000 in
theorem implNoteOk (s : ByteArray) (w : World) (hs : s.size ≤ 4294967280) (hT : StLib w) :
    Calls Tryz.prog 105 #[.string s] w fun e w' => e = .returned (.bool (stNoteB s)) ∧ Below w.heap.size w w' := by
  have H0 := implTextOk s w (by omega) hT.1
  have H1 := Tryz.strings_Contains_one s 13
  have H2 : ∀ W, MaxLen W → Calls Tryz.prog 107 #[.string s, .string ⟨#[45, 45]⟩] W fun e w' => e = .returned (.bool (Lib.contains s.data.toList [45, 45])) ∧ w' = W := fun W h => by
    obtain ⟨m, hm⟩ := h
    exact Tryz.strings_Contains s ⟨#[45, 45]⟩ m W (by omega) hm
  have H3 : ∀ W, Calls Tryz.prog 125 #[.string s, .string ⟨#[45]⟩] W fun e w' => e = .returned (.bool (Lib.hasSuffix s.data.toList [45])) ∧ w' = W := fun W => Tryz.strings_HasSuffix s ⟨#[45]⟩ W (by omega)
  rw [cr_index] at H1
  rw [two_index] at H2
  rw [last_suffix] at H3
  have Hn : Hid (stNoteB s = (stTextB s && noCr s.data.toList && noTwo s.data.toList && lastOk s.data.toList)) := rfl
  have HM : Hid (MaxLen w) := hT.2
  clear hT
  generalize noCr s.data.toList = c1 at *
  generalize noTwo s.data.toList = c2 at *
  generalize lastOk s.data.toList = c3 at *
  cases h0 : stTextB s
  · rw [h0] at H0 Hn
    go_enter Tryz.func105, Tryz.ntmps105
    go_wp2_with fail
    refine H0.mono ?_
    rintro e w1 ⟨rfl, b1⟩
    clear H0 H1 H2 H3
    go_wp2_with fail
    go_ret
    exact ⟨ret_bool (by rw [Hn.out]; rfl), b1⟩
  · rw [h0] at H0 Hn
    cases c1
    · go_enter Tryz.func105, Tryz.ntmps105
      go_wp2_with fail
      refine H0.mono ?_
      rintro e w1 ⟨rfl, b1⟩
      go_wp2_with fail
      refine (H1 _).mono ?_
      rintro e w2 ⟨rfl, rfl⟩
      clear H0 H1 H2 H3
      go_wp2_with fail
      go_ret
      exact ⟨ret_bool (by rw [Hn.out]; rfl), b1⟩
    · cases c2
      · go_enter Tryz.func105, Tryz.ntmps105
        go_wp2_with fail
        refine H0.mono ?_
        rintro e w1 ⟨rfl, b1⟩
        have HM1 := HM.out.below b1
        go_wp2_with fail
        refine (H1 _).mono ?_
        rintro e w2 ⟨rfl, rfl⟩
        go_wp2_with fail
        refine (H2 _ HM1).mono ?_
        rintro e w3 ⟨rfl, rfl⟩
        clear H0 H1 H2 H3
        go_wp2_with fail
        go_ret
        exact ⟨ret_bool (by rw [Hn.out]; rfl), b1⟩
      · go_enter Tryz.func105, Tryz.ntmps105
        go_wp2_with fail
        refine H0.mono ?_
        rintro e w1 ⟨rfl, b1⟩
        have HM1 := HM.out.below b1
        go_wp2_with fail
        refine (H1 _).mono ?_
        rintro e w2 ⟨rfl, rfl⟩
        go_wp2_with fail
        refine (H2 _ HM1).mono ?_
        rintro e w3 ⟨rfl, rfl⟩
        go_wp2_with fail
        refine (H3 _).mono ?_
        rintro e w4 ⟨rfl, rfl⟩
        clear H0 H1 H2 H3
        go_wp2_with fail
        go_ret
        exact ⟨ret_bool (by rw [Hn.out]; cases c3 <;> rfl), b1⟩

end Go.Proofs.YtbmmghkieolpkaaGreatDoor.Sg
