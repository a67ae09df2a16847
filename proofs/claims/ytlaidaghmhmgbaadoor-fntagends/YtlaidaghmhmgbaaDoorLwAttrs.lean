/- The law of Attrs, of what the program's Attrs hands back. -/
import Derived.Test.YtlaidaghmhmgbaaDoorLwMark
import Derived.Test.YtlaidaghmhmgbaaDoorTkAttrs
namespace Go.Proofs.YtlaidaghmhmgbaaDoor.Sg
open Go.ChangeShapes Go.WideShapes Go.ChangeAt Go.RowKit

theorem attrsE_length (s : ByteArray) : ∀ (d k : Nat) (out : List AttrB) (self : Bool), s.size - k ≤ d → out.length ≤ k → k ≤ s.size → (attrsE s k out self).1.length ≤ s.size := by
  intro d
  induction d with
  | zero =>
    intro k out self hd ho hk
    rw [attrsE_end (by omega)]
    show out.length ≤ _
    omega
  | succ d ih =>
    intro k out self hd ho hk
    by_cases h : k < s.size
    · by_cases h2 : runE skipU s k < s.size
      · rw [attrsE_goes h rfl h2]
        have h3 := attrAt_le (s := s) (k := k) rfl h2
        have h4 := runE_le (p := skipU) hk
        refine ih _ _ _ (by omega) ?_ h3.2
        split
        · omega
        · rw [List.length_append]
          show out.length + 1 ≤ _
          omega
      · rw [attrsE_last h rfl h2]
        show out.length ≤ _
        omega
    · rw [attrsE_end h]
      show out.length ≤ _
      omega

set_option maxRecDepth 20000 in
set_option maxHeartbeats 4000000 in
theorem attrsLaw (T : World → Prop) (hTb : ∀ w w' : World, T w → Below w.heap.size w w' → T w') (s : ByteArray)
    (hI : s.size ≤ 1048576 → ∀ w, T w → Calls Tryd.prog 11 #[.string s] w fun e w' => AttrsBack w w.heap.size (attrsE s 0 [] false) e w')
    (w : World) (hs : s.size ≤ maxLen) (hT : T w) :
    Calls Tryd.prog 6 #[.string s] w fun e w' => e = .returned (.bool true) ∧ Below w.heap.size w w' := by
  unfold maxLen at hs
  by_cases hbig : (1048576 : Int) < (s.size : Int)
  · go_enter Tryd.func6, Tryd.ntmps6
    go_wp2_with fail
    go_ret
    exact ⟨rfl, Below.refl _ _⟩
  have hn := attrsE_length s s.size 0 [] false (by omega) (Nat.le_refl _) (Nat.zero_le _)
  have HT : Hid (T w) := hT
  have HTb : Hid (∀ w w' : World, T w → Below w.heap.size w w' → T w') := hTb
  have Hspec : Hid (∀ w, Calls Tryd.prog 12 #[.string s] w fun e w' => AttrsBack w w.heap.size (attrsE s 0 [] false) e w') := fun w => specAttrs s w (by omega)
  have Himpl : Hid (∀ w, T w → Calls Tryd.prog 11 #[.string s] w fun e w' => AttrsBack w w.heap.size (attrsE s 0 [] false) e w') := hI (by omega)
  clear hI hT hTb
  generalize attrsE s 0 [] false = r at *
  obtain ⟨l, self⟩ := r
  have hn' : l.length ≤ s.size := hn
  clear hn
  have hself : (self != self) = false := by simp
  go_enter Tryd.func6, Tryd.ntmps6
  go_wp2_with fail
  refine (Hspec.out _).mono ?_
  rintro e w1 ⟨v1, rfl, o1, b1⟩
  have T1 : T w1 := HTb.out _ _ HT.out b1
  go_wp2_with fail
  refine (Himpl.out _ T1).mono ?_
  rintro e w2 ⟨v2, rfl, o2, b2⟩
  have o12 := owns_below o1 (Nat.le_refl _) b2
  have b02 : Below w.heap.size w w2 := b1.trans (b2.mono b1.size)
  obtain ⟨a1, c1, rfl, A1⟩ := attrs_of_own o12
  obtain ⟨a2, c2, rfl, A2⟩ := attrs_of_own o2
  clear T1
  go_wp2_with fail
  refine (eqAttrS_same l a2 a1 l.length c2 c1 _ A2 A1 rfl (by omega)).mono ?_
  rintro e w3 ⟨rfl, b3⟩
  have o23 := owns_below o2 (Nat.le_refl _) b3
  have b03 : Below w.heap.size w w3 := b02.trans (b3.mono b02.size)
  have b13 : Below w1.heap.size w1 w3 := b2.trans (b3.mono b2.size)
  clear o12 o2 b3 b02 b2 A1 A2
  go_wp2_with fail
  refine (markAttrS_any l _ 1 w1.heap.size _ o23 (by omega) (by omega) b13.size).mono ?_
  rintro e w4 ⟨rfl, o24, b4⟩
  have b04 : Below w.heap.size w w4 := b03.trans (b4.mono b1.size)
  have o14 := owns_below o1 (Nat.le_refl _) (b13.trans b4)
  clear o23 b4 b13 b03 o1
  have T4 : T w4 := HTb.out _ _ HT.out b04
  have hq1 : ¬ (1 + 2 * (l.length : Int)) < 0 := by omega
  have hq1' : decide ((1 + 2 * (l.length : Int)) < 0) = false := decide_eq_false hq1
  have hq2 : ((1 + 2 * (l.length : Int)) != (1 + 2 * (l.length : Int))) = false := by simp
  obtain ⟨a2', c2', e2', A24⟩ := attrs_of_own (l := markL 1 l.length) o24
  rw [markL_length] at e2'
  cases e2'
  go_wp2_with fail
  refine (heldAttrS_any l.length 1 a2 c2 _ A24 (by omega) (by omega)).mono ?_
  rintro e w5 ⟨rfl, b5⟩
  have T5 : T w5 := HTb.out _ _ T4 b5
  have b05 : Below w.heap.size w w5 := b04.trans (b5.mono b04.size)
  have o15 := owns_below o14 (Nat.le_refl _) b5
  have o25 := owns_below o24 (Nat.le_refl _) b5
  clear o14 o24 b5 b04 A24 T4
  go_wp2_with fail
  refine (Himpl.out _ T5).mono ?_
  rintro e w6 ⟨v6, rfl, o6, b6⟩
  have o16 := owns_below o15 (Nat.le_refl _) b6
  have o26 := owns_below o25 (Nat.le_refl _) b6
  have b06 : Below w.heap.size w w6 := b05.trans (b6.mono b05.size)
  obtain ⟨a6, c6, rfl, A6⟩ := attrs_of_own o6
  obtain ⟨a1', c1', e1', A16⟩ := attrs_of_own o16
  cases e1'
  clear o15 o25 b05 b6 T5
  go_wp2_with fail
  refine (eqAttrS_same l a6 a1 l.length c6 c1 _ A6 A16 rfl (by omega)).mono ?_
  rintro e w7 ⟨rfl, b7⟩
  have o27 := owns_below o26 (Nat.le_refl _) b7
  have b07 : Below w.heap.size w w7 := b06.trans (b7.mono b06.size)
  obtain ⟨a2', c2', e2', A27⟩ := attrs_of_own (l := markL 1 l.length) o27
  rw [markL_length] at e2'
  cases e2'
  clear o6 o16 o26 b7 b06 A6 A16
  go_wp2_with fail
  refine (heldAttrS_any l.length 1 a2 c2 _ A27 (by omega) (by omega)).mono ?_
  rintro e w8 ⟨rfl, b8⟩
  have b08 := b07.trans (b8.mono b07.size)
  clear b8 b07 o27 A27
  go_wp2_with fail
  go_ret
  exact ⟨rfl, b08⟩

end Go.Proofs.YtlaidaghmhmgbaaDoor.Sg
