/- The law of AttrsOf, out of the program's contract. -/
import Derived.Test.YtdpjmngodbgacaaGreatDoorElAttrsOfQ
import Derived.Test.YtdpjmngodbgacaaGreatDoorM14
import Derived.Test.YtdpjmngodbgacaaGreatDoorM15
namespace Go.Proofs.YtdpjmngodbgacaaGreatDoor.Sg
open Go.ChangeShapes Go.WideShapes Go.ChangeAt Go.RowKit

theorem attrsMade_len (l : List AttrB) : ∀ out : List AttrB, (attrsMade out l).length ≤ out.length + l.length := by
  induction l with
  | nil => intro out; exact Nat.le_refl _
  | cons p l ih =>
    intro out
    have h1 := ih (attrMade out p)
    have h2 := attrMade_len out p
    show (attrsMade (attrMade out p) l).length ≤ _
    rw [List.length_cons]
    omega
theorem attrs_light {l : List AttrB} (h : attrsW l ≤ 1048576) : l.length ≤ 1048576 ∧ ∀ p ∈ l, p.1.size ≤ 1048576 ∧ p.2.size ≤ 1048576 := by
  unfold attrsW at h
  refine ⟨by omega, fun p hp => ?_⟩
  have h2 : attrW p ≤ (l.map attrW).sum := by
    clear h
    induction l with
    | nil => cases hp
    | cons q l ih =>
      rw [List.map_cons, List.sum_cons]
      rcases List.mem_cons.1 hp with rfl | hp
      · omega
      · have := ih hp
        omega
  have h3 : attrW p = p.1.size + p.2.size := rfl
  omega

set_option maxRecDepth 20000 in
set_option maxHeartbeats 8000000 in
theorem lawAttrsOf (T : World → Prop) (hTb : ∀ w w' : World, T w → Below w.heap.size w w' → T w') (z : List AttrB) (a : Option Addr) (c : Nat) (w : World) (hT : T w) (h : AttrsIn w a z) (hh : AttrsHeld z)
    (hI : attrsW z ≤ 1048576 → ∀ W b cp, AttrsAt W (some ⟨b, 0, none⟩) z → T W → Calls Tryz.prog 7 #[.slice (some ⟨b, 0, none⟩) z.length cp] W fun e w' => ∃ v, e = .returned v ∧ w'.ownsRow W.heap.size 34 2 v (attrsMade [] z).length (attrCells (attrsMade [] z)) ∧ Below W.heap.size W w') :
    Calls Tryz.prog 3 #[.slice a z.length c] w fun e w' => e = .returned (.bool true) ∧ Below w.heap.size w w' := by
  have HT : Hid (T w) := hT
  have HTb : Hid (∀ w w' : World, T w → Below w.heap.size w w' → T w') := hTb
  have Ha : Hid (AttrsIn w a z) := h
  have Hz := szAttrS_any z a z.length c 1048576 w h rfl hh (by decide) (by decide)
  clear hT hTb h hh
  by_cases hbig : attrsW z ≤ 1048576
  rotate_left
  · have e0 : leftZ 1048576 (attrsW z) = -1 := by unfold leftZ; rw [if_neg (by omega)]
    rw [e0] at Hz
    clear hI e0
    go_enter Tryz.func3, Tryz.ntmps3
    go_wp2_with fail
    refine Hz.mono ?_
    rintro e w1 ⟨rfl, b1⟩
    go_wp2_with fail
    go_ret
    exact ⟨rfl, b1⟩
  have e0 : leftZ 1048576 (attrsW z) = 1048576 - (attrsW z : Int) := by unfold leftZ; rw [if_pos (by omega)]
  rw [e0] at Hz
  obtain ⟨hlen, hsm⟩ := attrs_light hbig
  have g1 : ¬ (1048576 - (attrsW z : Int)) < 0 := by omega
  have g1' : decide ((1048576 - (attrsW z : Int)) < 0) = false := decide_eq_false g1
  generalize (1048576 - (attrsW z : Int)) = left at *
  have Hto : Hid (∀ W, Below w.heap.size w W → Calls Tryz.prog 6 #[.slice a z.length c] W fun e w' => e = .returned (.slice (some ⟨W.heap.size, 0, none⟩) z.length z.length) ∧ w'.ownsRow W.heap.size 34 2 (.slice (some ⟨W.heap.size, 0, none⟩) z.length z.length) z.length (attrCells z) ∧ Below W.heap.size W w') := fun W hW => toAttrS_any z a z.length c W (Ha.out.keep hW) rfl (by omega)
  have Hs : Hid (∀ W b cp, AttrsAt W (some ⟨b, 0, none⟩) z → Calls Tryz.prog 5 #[.slice (some ⟨b, 0, none⟩) z.length cp] W fun e w' => ∃ v, e = .returned v ∧ w'.ownsRow W.heap.size 34 2 v (attrsMade [] z).length (attrCells (attrsMade [] z)) ∧ Below W.heap.size W w') := fun W b cp hA => specAttrsOf z _ z.length cp W hA rfl hlen hsm
  have Hi : Hid (∀ W b cp, AttrsAt W (some ⟨b, 0, none⟩) z → T W → Calls Tryz.prog 7 #[.slice (some ⟨b, 0, none⟩) z.length cp] W fun e w' => ∃ v, e = .returned v ∧ w'.ownsRow W.heap.size 34 2 v (attrsMade [] z).length (attrCells (attrsMade [] z)) ∧ Below W.heap.size W w') := hI hbig
  have hml := attrsMade_len z []
  rw [List.length_nil, Nat.zero_add] at hml
  clear hI hbig hsm e0
  generalize attrsMade [] z = l at *
  have hn' : l.length ≤ 1048576 := by omega
  clear hml
  go_enter Tryz.func3, Tryz.ntmps3
  go_wp2_with fail
  refine Hz.mono ?_
  rintro e w1 ⟨rfl, b1⟩
  clear Hz
  go_wp2_with fail
  refine (Hto.out _ b1).mono ?_
  rintro e w2 ⟨rfl, o2, b2⟩
  have B2 : Below w.heap.size w w2 := b1.trans (b2.mono b1.size)
  obtain ⟨_, _, e2, A2⟩ := attrs_of_own o2
  cases e2
  clear o2 b1 b2
  go_wp2_with fail
  refine (Hs.out _ _ _ A2).mono ?_
  rintro e w3 ⟨v3, rfl, o3, b3⟩
  have B3 : Below w.heap.size w w3 := B2.trans (b3.mono B2.size)
  have hs23 := b3.size
  obtain ⟨a1, c1, rfl, _⟩ := attrs_of_own o3
  clear A2 b3
  go_wp2_with fail
  refine (Hto.out _ B3).mono ?_
  rintro e w4 ⟨rfl, x4, b4⟩
  have B4 : Below w.heap.size w w4 := B3.trans (b4.mono B3.size)
  obtain ⟨_, _, e4, A4⟩ := attrs_of_own x4
  cases e4
  have o4 := owns_below o3 (Nat.le_refl _) b4
  have hx34 : w3.heap.size < w4.heap.size := (x4.lt _ rfl).2
  have hw3 : ∀ bb, (Value.slice a1 l.length c1).ownBlock = some bb → bb < w3.heap.size := fun bb hbb => (o3.lt bb hbb).2
  have T4 := HTb.out _ _ HT.out B4
  have hs34 := b4.size
  clear b4 o3
  go_wp2_with fail
  refine (Hi.out _ _ _ A4 T4).mono ?_
  rintro e w5 ⟨v5, rfl, o5, b5⟩
  have B5 : Below w.heap.size w w5 := B4.trans (b5.mono B4.size)
  have x5 := owns_below x4 (Nat.le_refl _) b5
  have w05 := owns_below o4 (Nat.le_refl _) b5
  obtain ⟨a2, c2, rfl, A5⟩ := attrs_of_own o5
  obtain ⟨_, _, e5, A51⟩ := attrs_of_own w05
  cases e5
  have hg5 : ∀ bb, (Value.slice a2 l.length c2).ownBlock = some bb → w4.heap.size ≤ bb := fun bb hbb => (o5.lt bb hbb).1
  have hs45 := b5.size
  clear b5 x4 o4 T4 A4
  go_wp2_with fail
  refine (eqAttrS_same l a2 a1 l.length c2 c1 _ A5 A51 rfl (by omega)).mono ?_
  rintro e w6 ⟨rfl, b6⟩
  have B6 : Below w.heap.size w w6 := B5.trans (b6.mono B5.size)
  have x6 := owns_below x5 (Nat.le_refl _) b6
  have w06 := owns_below w05 (Nat.le_refl _) b6
  have g6 := owns_below o5 (Nat.le_refl _) b6
  have hs56 := b6.size
  clear b6 x5 w05 o5 A5 A51
  go_wp2_with fail
  refine (Hto.out _ B6).mono ?_
  rintro e w7 ⟨rfl, y7, b7⟩
  have B7 : Below w.heap.size w w7 := B6.trans (b7.mono B6.size)
  have x7 := owns_below x6 (Nat.le_refl _) b7
  have w07 := owns_below w06 (Nat.le_refl _) b7
  have g7 := owns_below g6 (Nat.le_refl _) b7
  obtain ⟨_, _, e7, A7⟩ := attrs_of_own y7
  cases e7
  obtain ⟨_, _, e7, A71⟩ := attrs_of_own x7
  cases e7
  have hs67 := b7.size
  clear b7 x6 w06 g6 y7
  go_wp2_with fail
  refine (eqAttrS_same z _ _ z.length z.length z.length _ A71 A7 rfl (by omega)).mono ?_
  rintro e w8 ⟨rfl, b8⟩
  have B8 : Below w.heap.size w w8 := B7.trans (b8.mono B7.size)
  have x8 := owns_below x7 (Nat.le_refl _) b8
  have w08 := owns_below w07 (Nat.le_refl _) b8
  have g8 := owns_below g7 (Nat.le_refl _) b8
  have hs78 := b8.size
  clear b8 x7 w07 g7 A7 A71
  go_wp2_with fail
  refine (markAttrS_grown z _ 1 w3.heap.size _ x8 (by omega) (by omega)).mono ?_
  rintro e w9 ⟨rfl, _, gr9⟩
  have w09 := owns_grown w08 gr9 (fun bb hbb h2 => by
    have h3 := hw3 bb hbb
    have h4 : w3.heap.size = bb := Option.some.inj h2
    omega)
  have g9 := owns_grown g8 gr9 (fun bb hbb h2 => by
    have h3 := hg5 bb hbb
    have h4 : w3.heap.size = bb := Option.some.inj h2
    omega)
  have B9 : Below w.heap.size w w9 := grown_below x8 B8 B3.size gr9 (by have := B8.size; omega)
  clear x8 w08 g8
  obtain ⟨_, _, e9, A9⟩ := attrs_of_own g9
  cases e9
  obtain ⟨_, _, e9, A91⟩ := attrs_of_own w09
  cases e9
  have hk1 : ¬ (1 + 2 * (z.length : Int)) < 0 := by omega
  have hk1' : decide ((1 + 2 * (z.length : Int)) < 0) = false := decide_eq_false hk1
  go_wp2_with fail
  refine (eqAttrS_same l a2 a1 l.length c2 c1 _ A9 A91 rfl (by omega)).mono ?_
  rintro e w10 ⟨rfl, b10⟩
  have B10 : Below w.heap.size w w10 := B9.trans (b10.mono B9.size)
  have w010 := owns_below w09 (Nat.le_refl _) b10
  have g10 := owns_below g9 (Nat.le_refl _) b10
  have hs9 := gr9.size
  have hs910 := b10.size
  clear b10 w09 g9 A9 A91 gr9
  go_wp2_with fail
  refine (markAttrS_any l _ 1 w4.heap.size _ g10 (by omega) (by omega) (by omega)).mono ?_
  rintro e w11 ⟨rfl, g11, b11⟩
  have B11 : Below w.heap.size w w11 := B10.trans (b11.mono B4.size)
  have w011 : w11.ownsRow w2.heap.size 34 2 (.slice a1 l.length c1) l.length (attrCells l) := by
    obtain ⟨h1, h2⟩ := w010
    refine ⟨h1, ?_⟩
    rcases h2 with h2 | ⟨gg, cp, cu, e1, h3, h4, h5⟩
    · exact .inl h2
    · refine .inr ⟨gg, cp, cu, e1, h3, ?_, h5⟩
      have hlt := hw3 gg (by rw [e1]; rfl)
      rw [b11.block gg (by omega)]
      exact h4
  have hs1011 := b11.size
  clear b11 w010 g10
  have hq1 : ¬ (1 + 2 * (l.length : Int)) < 0 := by omega
  have hq1' : decide ((1 + 2 * (l.length : Int)) < 0) = false := decide_eq_false hq1
  have hq2 : ((1 + 2 * (l.length : Int)) != (1 + 2 * (l.length : Int))) = false := by simp
  obtain ⟨_, _, e11, A11⟩ := attrs_of_own (l := markL 1 l.length) g11
  rw [markL_length] at e11
  cases e11
  go_wp2_with fail
  refine (heldAttrS_any l.length 1 a2 c2 _ A11 (by omega) (by omega)).mono ?_
  rintro e w12 ⟨rfl, b12⟩
  have B12 : Below w.heap.size w w12 := B11.trans (b12.mono B11.size)
  have w012 := owns_below w011 (Nat.le_refl _) b12
  have g12 := owns_below g11 (Nat.le_refl _) b12
  clear b12 w011 g11 A11
  go_wp2_with fail
  refine (Hto.out _ B12).mono ?_
  rintro e w13 ⟨rfl, y13, b13⟩
  have B13 : Below w.heap.size w w13 := B12.trans (b13.mono B12.size)
  have w013 := owns_below w012 (Nat.le_refl _) b13
  have g13 := owns_below g12 (Nat.le_refl _) b13
  obtain ⟨_, _, e13, A13⟩ := attrs_of_own y13
  cases e13
  have T13 := HTb.out _ _ HT.out B13
  clear b13 w012 g12 y13
  go_wp2_with fail
  refine (Hi.out _ _ _ A13 T13).mono ?_
  rintro e w14 ⟨v14, rfl, o14, b14⟩
  have B14 : Below w.heap.size w w14 := B13.trans (b14.mono B13.size)
  have w014 := owns_below w013 (Nat.le_refl _) b14
  have g14 := owns_below g13 (Nat.le_refl _) b14
  obtain ⟨a6, c6, rfl, A14⟩ := attrs_of_own o14
  obtain ⟨_, _, e14, A141⟩ := attrs_of_own w014
  cases e14
  clear b14 w013 g13 T13 A13 o14
  go_wp2_with fail
  refine (eqAttrS_same l a6 a1 l.length c6 c1 _ A14 A141 rfl (by omega)).mono ?_
  rintro e w15 ⟨rfl, b15⟩
  have B15 : Below w.heap.size w w15 := B14.trans (b15.mono B14.size)
  have g15 := owns_below g14 (Nat.le_refl _) b15
  obtain ⟨_, _, e15, A15⟩ := attrs_of_own (l := markL 1 l.length) g15
  rw [markL_length] at e15
  cases e15
  clear b15 w014 g14 A14 A141
  go_wp2_with fail
  refine (heldAttrS_any l.length 1 a2 c2 _ A15 (by omega) (by omega)).mono ?_
  rintro e w16 ⟨rfl, b16⟩
  have B16 : Below w.heap.size w w16 := B15.trans (b16.mono B15.size)
  clear b16 A15
  go_wp2_with fail
  go_ret
  exact ⟨rfl, B16⟩

end Go.Proofs.YtdpjmngodbgacaaGreatDoor.Sg
