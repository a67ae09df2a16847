/- The law of chapter 7, of what the program's functions hand back: at whatever names are drawn they answer as the model's do; no part is a block, no format is void, each head is a block. -/
import Derived.Test.YtjbjmjnjdadjcaaKtSpec
import Derived.Test.YtjbjmjnjdadjcaaKtDraws
import Derived.Test.YtjbjmjnjdadjcaaGLaw
namespace Go.Proofs.Ytjbjmjnjdadjcaa.fnKindsOfTags
open Go.ChangeShapes Go.WideShapes Go.ChangeAt Go.RowKit Sg

/-- What stays while the law goes on. -/
def Keep (T : World → Prop) (w : World) (a : Option Addr) (n : Nat) (w' : World) : Prop :=
  Below w.heap.size w w' ∧ Sg.Code w'.heap.size w' a n ∧ T w'
theorem Keep.step {T : World → Prop} {w : World} {a : Option Addr} {n : Nat} {w' w'' : World} (h : Keep T w a n w') (hTb : ∀ w w' : World, T w → Below w.heap.size w w' → T w') (hb : Below w'.heap.size w' w'') : Keep T w a n w'' :=
  ⟨h.1.trans (hb.mono h.1.size), (h.2.1.below hb).raise hb.size, hTb _ _ h.2.2 hb⟩

set_option maxHeartbeats 8000000 in
set_option maxRecDepth 100000 in
theorem law (w : World) (n : Nat) (a : Option Addr) (cap : Nat) (hcode : Sg.Code w.heap.size w a n) (T : World → Prop) (hTb : ∀ w w' : World, T w → Below w.heap.size w w' → T w') (hT : T w)
    (hIVoid : ∀ s W, T W → Calls Try.prog 19 #[.string s] W fun e w' => e = .returned (.bool (isIn s voidL)) ∧ Below W.heap.size W w')
    (hIOfHead : ∀ s W, T W → Calls Try.prog 21 #[.string s] W fun e w' => e = .returned (.bool (isIn s ofHeadL)) ∧ Below W.heap.size W w')
    (hIFormat : ∀ s W, T W → Calls Try.prog 23 #[.string s] W fun e w' => e = .returned (.bool (isIn s formatL)) ∧ Below W.heap.size W w')
    (hIBlock : ∀ s W, T W → Calls Try.prog 25 #[.string s] W fun e w' => e = .returned (.bool (isIn s blockL)) ∧ Below W.heap.size W w')
    (hIPart : ∀ s W, T W → Calls Try.prog 27 #[.string s] W fun e w' => e = .returned (.bool (isIn s partL)) ∧ Below W.heap.size W w')
    (hIWall : ∀ s W, T W → Calls Try.prog 29 #[.string s] W fun e w' => e = .returned (.bool (isIn s wallL)) ∧ Below W.heap.size W w')
    (hIHead : ∀ s W, T W → Calls Try.prog 31 #[.string s] W fun e w' => e = .returned (.bool (isIn s headL)) ∧ Below W.heap.size W w') :
    Calls Try.prog 3 #[.slice a n cap] w fun e w' => e = .returned (.bool true) ∧ Below w.heap.size w w' := by
  have K0 : Keep T w a n w := ⟨Below.refl _ _, hcode, hT⟩
  have HTb : Hid (∀ w w' : World, T w → Below w.heap.size w w' → T w') := hTb
  have IVoid : Hid (∀ s W, T W → Calls Try.prog 19 #[.string s] W fun e w' => e = .returned (.bool (isIn s voidL)) ∧ Below W.heap.size W w') := hIVoid
  have IOfHead : Hid (∀ s W, T W → Calls Try.prog 21 #[.string s] W fun e w' => e = .returned (.bool (isIn s ofHeadL)) ∧ Below W.heap.size W w') := hIOfHead
  have IFormat : Hid (∀ s W, T W → Calls Try.prog 23 #[.string s] W fun e w' => e = .returned (.bool (isIn s formatL)) ∧ Below W.heap.size W w') := hIFormat
  have IBlock : Hid (∀ s W, T W → Calls Try.prog 25 #[.string s] W fun e w' => e = .returned (.bool (isIn s blockL)) ∧ Below W.heap.size W w') := hIBlock
  have IPart : Hid (∀ s W, T W → Calls Try.prog 27 #[.string s] W fun e w' => e = .returned (.bool (isIn s partL)) ∧ Below W.heap.size W w') := hIPart
  have IWall : Hid (∀ s W, T W → Calls Try.prog 29 #[.string s] W fun e w' => e = .returned (.bool (isIn s wallL)) ∧ Below W.heap.size W w') := hIWall
  have IHead : Hid (∀ s W, T W → Calls Try.prog 31 #[.string s] W fun e w' => e = .returned (.bool (isIn s headL)) ∧ Below W.heap.size W w') := hIHead
  clear hcode hT hTb hIVoid hIOfHead hIFormat hIBlock hIPart hIWall hIHead
  by_cases hbig : (1048576 : Int) < (n : Int)
  · have Hd : Hid (decide ((1048576 : Int) < (n : Int)) = true) := by show _ = _; simpa using hbig
    go_enter Try.func3, Try.ntmps3
    go_wp2_with fail
    refine (big_any a n cap _).mono ?_
    rintro e w1 ⟨rfl, rfl⟩
    rw [Hd.out]
    go_wp2_with fail
    go_ret
    exact ⟨rfl, Below.refl _ _⟩
  have hn : n ≤ 1048576 := by omega
  have Hd : Hid (decide ((1048576 : Int) < (n : Int)) = false) := by show _ = _; simpa using hbig
  clear hbig
  go_enter Try.func3, Try.ntmps3
  go_wp2_with fail
  refine (big_any a n cap _).mono ?_
  rintro e w0 ⟨rfl, hw0⟩
  have K : Keep T w a n w0 := hw0 ▸ K0
  clear hw0 K0
  rw [Hd.out]
  clear Hd
  go_wp2_with fail
  refine (drawVoid a n cap _ K.2.1 hn).mono ?_
  rintro e w1 ⟨z0, rfl, b1⟩
  have K1 := K.step HTb.out b1
  clear b1 K
  rename Keep _ _ _ _ _ => K
  go_wp2_with fail
  refine (drawOfHead a n cap _ K.2.1 hn).mono ?_
  rintro e w1 ⟨z1, rfl, b1⟩
  have K1 := K.step HTb.out b1
  clear b1 K
  rename Keep _ _ _ _ _ => K
  go_wp2_with fail
  refine (drawFormat a n cap _ K.2.1 hn).mono ?_
  rintro e w1 ⟨z2, rfl, b1⟩
  have K1 := K.step HTb.out b1
  clear b1 K
  rename Keep _ _ _ _ _ => K
  go_wp2_with fail
  refine (drawBlock a n cap _ K.2.1 hn).mono ?_
  rintro e w1 ⟨z3, rfl, b1⟩
  have K1 := K.step HTb.out b1
  clear b1 K
  rename Keep _ _ _ _ _ => K
  go_wp2_with fail
  refine (drawPart a n cap _ K.2.1 hn).mono ?_
  rintro e w1 ⟨z4, rfl, b1⟩
  have K1 := K.step HTb.out b1
  clear b1 K
  rename Keep _ _ _ _ _ => K
  go_wp2_with fail
  refine (drawWall a n cap _ K.2.1 hn).mono ?_
  rintro e w1 ⟨z5, rfl, b1⟩
  have K1 := K.step HTb.out b1
  clear b1 K
  rename Keep _ _ _ _ _ => K
  go_wp2_with fail
  refine (drawHead a n cap _ K.2.1 hn).mono ?_
  rintro e w1 ⟨z6, rfl, b1⟩
  have K1 := K.step HTb.out b1
  clear b1 K
  rename Keep _ _ _ _ _ => K
  go_wp2_with fail
  refine (IVoid.out z0 _ K.2.2).mono ?_
  rintro e w1 ⟨rfl, b1⟩
  have K1 := K.step HTb.out b1
  clear b1 K
  rename Keep _ _ _ _ _ => K
  have C0 := specVoid z0 w1
  obtain ⟨V0, hV0⟩ : ∃ V, Hid (isIn z0 voidL = V) := ⟨_, rfl⟩
  rw [hV0.out] at C0 ⊢
  have gV0 : (V0 != V0) = false := by simp
  go_wp2_with fail
  refine C0.mono ?_
  rintro e w2 ⟨rfl, b1⟩
  have K1 := K.step HTb.out b1
  clear b1 K C0
  rename Keep _ _ _ _ _ => K
  go_wp2_with fail
  refine (IOfHead.out z1 _ K.2.2).mono ?_
  rintro e w1 ⟨rfl, b1⟩
  have K1 := K.step HTb.out b1
  clear b1 K
  rename Keep _ _ _ _ _ => K
  have C1 := specOfHead z1 w1
  obtain ⟨V1, hV1⟩ : ∃ V, Hid (isIn z1 ofHeadL = V) := ⟨_, rfl⟩
  rw [hV1.out] at C1 ⊢
  have gV1 : (V1 != V1) = false := by simp
  go_wp2_with fail
  refine C1.mono ?_
  rintro e w2 ⟨rfl, b1⟩
  have K1 := K.step HTb.out b1
  clear b1 K C1
  rename Keep _ _ _ _ _ => K
  go_wp2_with fail
  refine (IFormat.out z2 _ K.2.2).mono ?_
  rintro e w1 ⟨rfl, b1⟩
  have K1 := K.step HTb.out b1
  clear b1 K
  rename Keep _ _ _ _ _ => K
  have C2 := specFormat z2 w1
  obtain ⟨V2, hV2⟩ : ∃ V, Hid (isIn z2 formatL = V) := ⟨_, rfl⟩
  rw [hV2.out] at C2 ⊢
  have gV2 : (V2 != V2) = false := by simp
  go_wp2_with fail
  refine C2.mono ?_
  rintro e w2 ⟨rfl, b1⟩
  have K1 := K.step HTb.out b1
  clear b1 K C2
  rename Keep _ _ _ _ _ => K
  go_wp2_with fail
  refine (IBlock.out z3 _ K.2.2).mono ?_
  rintro e w1 ⟨rfl, b1⟩
  have K1 := K.step HTb.out b1
  clear b1 K
  rename Keep _ _ _ _ _ => K
  have C3 := specBlock z3 w1
  obtain ⟨V3, hV3⟩ : ∃ V, Hid (isIn z3 blockL = V) := ⟨_, rfl⟩
  rw [hV3.out] at C3 ⊢
  have gV3 : (V3 != V3) = false := by simp
  go_wp2_with fail
  refine C3.mono ?_
  rintro e w2 ⟨rfl, b1⟩
  have K1 := K.step HTb.out b1
  clear b1 K C3
  rename Keep _ _ _ _ _ => K
  go_wp2_with fail
  refine (IPart.out z4 _ K.2.2).mono ?_
  rintro e w1 ⟨rfl, b1⟩
  have K1 := K.step HTb.out b1
  clear b1 K
  rename Keep _ _ _ _ _ => K
  have C4 := specPart z4 w1
  obtain ⟨V4, hV4⟩ : ∃ V, Hid (isIn z4 partL = V) := ⟨_, rfl⟩
  rw [hV4.out] at C4 ⊢
  have gV4 : (V4 != V4) = false := by simp
  go_wp2_with fail
  refine C4.mono ?_
  rintro e w2 ⟨rfl, b1⟩
  have K1 := K.step HTb.out b1
  clear b1 K C4
  rename Keep _ _ _ _ _ => K
  go_wp2_with fail
  refine (IWall.out z5 _ K.2.2).mono ?_
  rintro e w1 ⟨rfl, b1⟩
  have K1 := K.step HTb.out b1
  clear b1 K
  rename Keep _ _ _ _ _ => K
  have C5 := specWall z5 w1
  obtain ⟨V5, hV5⟩ : ∃ V, Hid (isIn z5 wallL = V) := ⟨_, rfl⟩
  rw [hV5.out] at C5 ⊢
  have gV5 : (V5 != V5) = false := by simp
  go_wp2_with fail
  refine C5.mono ?_
  rintro e w2 ⟨rfl, b1⟩
  have K1 := K.step HTb.out b1
  clear b1 K C5
  rename Keep _ _ _ _ _ => K
  go_wp2_with fail
  refine (IHead.out z6 _ K.2.2).mono ?_
  rintro e w1 ⟨rfl, b1⟩
  have K1 := K.step HTb.out b1
  clear b1 K
  rename Keep _ _ _ _ _ => K
  have C6 := specHead z6 w1
  obtain ⟨V6, hV6⟩ : ∃ V, Hid (isIn z6 headL = V) := ⟨_, rfl⟩
  rw [hV6.out] at C6 ⊢
  have gV6 : (V6 != V6) = false := by simp
  go_wp2_with fail
  refine C6.mono ?_
  rintro e w2 ⟨rfl, b1⟩
  have K1 := K.step HTb.out b1
  clear b1 K C6
  rename Keep _ _ _ _ _ => K
  have Hpb := part_block z0
  have Hfv := format_void z0
  have Hhb := head_block z0
  cases hP : isIn z0 partL
  · cases hF : isIn z0 formatL
    · have HP : Hid (isIn z0 partL = false) := hP
      have HF : Hid (isIn z0 formatL = false) := hF
      cases hH : isIn z0 headL
      · have HH : Hid (isIn z0 headL = false) := hH
        clear Hpb Hfv Hhb hP hF hH
        have C := IPart.out z0 _ K.2.2
        rw [HP.out] at C
        go_wp2_with fail
        refine C.mono ?_
        rintro e w1 ⟨rfl, b1⟩
        have K1 := K.step HTb.out b1
        clear b1 K C
        rename Keep _ _ _ _ _ => K
        have C := IFormat.out z0 _ K.2.2
        rw [HF.out] at C
        go_wp2_with fail
        refine C.mono ?_
        rintro e w1 ⟨rfl, b1⟩
        have K1 := K.step HTb.out b1
        clear b1 K C
        rename Keep _ _ _ _ _ => K
        have C := IHead.out z0 _ K.2.2
        rw [HH.out] at C
        go_wp2_with fail
        refine C.mono ?_
        rintro e w1 ⟨rfl, b1⟩
        have K1 := K.step HTb.out b1
        clear b1 K C
        rename Keep _ _ _ _ _ => K
        go_wp2_with fail
        go_ret
        exact ⟨rfl, K.1⟩
      · have HH : Hid (isIn z0 headL = true) := hH
        have HB : Hid (isIn z0 blockL = true) := Hhb hH
        clear Hpb Hfv Hhb hP hF hH
        have C := IPart.out z0 _ K.2.2
        rw [HP.out] at C
        go_wp2_with fail
        refine C.mono ?_
        rintro e w1 ⟨rfl, b1⟩
        have K1 := K.step HTb.out b1
        clear b1 K C
        rename Keep _ _ _ _ _ => K
        have C := IFormat.out z0 _ K.2.2
        rw [HF.out] at C
        go_wp2_with fail
        refine C.mono ?_
        rintro e w1 ⟨rfl, b1⟩
        have K1 := K.step HTb.out b1
        clear b1 K C
        rename Keep _ _ _ _ _ => K
        have C := IHead.out z0 _ K.2.2
        rw [HH.out] at C
        go_wp2_with fail
        refine C.mono ?_
        rintro e w1 ⟨rfl, b1⟩
        have K1 := K.step HTb.out b1
        clear b1 K C
        rename Keep _ _ _ _ _ => K
        have C := IBlock.out z0 _ K.2.2
        rw [HB.out] at C
        go_wp2_with fail
        refine C.mono ?_
        rintro e w1 ⟨rfl, b1⟩
        have K1 := K.step HTb.out b1
        clear b1 K C
        rename Keep _ _ _ _ _ => K
        go_wp2_with fail
        go_ret
        exact ⟨rfl, K.1⟩
    · have HP : Hid (isIn z0 partL = false) := hP
      have hVo : Hid (isIn z0 voidL = false) := by show _ = _; simpa [hF] using Hfv
      have HF : Hid (isIn z0 formatL = true) := hF
      cases hH : isIn z0 headL
      · have HH : Hid (isIn z0 headL = false) := hH
        clear Hpb Hfv Hhb hP hF hH
        have C := IPart.out z0 _ K.2.2
        rw [HP.out] at C
        go_wp2_with fail
        refine C.mono ?_
        rintro e w1 ⟨rfl, b1⟩
        have K1 := K.step HTb.out b1
        clear b1 K C
        rename Keep _ _ _ _ _ => K
        have C := IFormat.out z0 _ K.2.2
        rw [HF.out] at C
        go_wp2_with fail
        refine C.mono ?_
        rintro e w1 ⟨rfl, b1⟩
        have K1 := K.step HTb.out b1
        clear b1 K C
        rename Keep _ _ _ _ _ => K
        have C := IVoid.out z0 _ K.2.2
        rw [hVo.out] at C
        go_wp2_with fail
        refine C.mono ?_
        rintro e w1 ⟨rfl, b1⟩
        have K1 := K.step HTb.out b1
        clear b1 K C
        rename Keep _ _ _ _ _ => K
        have C := IHead.out z0 _ K.2.2
        rw [HH.out] at C
        go_wp2_with fail
        refine C.mono ?_
        rintro e w1 ⟨rfl, b1⟩
        have K1 := K.step HTb.out b1
        clear b1 K C
        rename Keep _ _ _ _ _ => K
        go_wp2_with fail
        go_ret
        exact ⟨rfl, K.1⟩
      · have HH : Hid (isIn z0 headL = true) := hH
        have HB : Hid (isIn z0 blockL = true) := Hhb hH
        clear Hpb Hfv Hhb hP hF hH
        have C := IPart.out z0 _ K.2.2
        rw [HP.out] at C
        go_wp2_with fail
        refine C.mono ?_
        rintro e w1 ⟨rfl, b1⟩
        have K1 := K.step HTb.out b1
        clear b1 K C
        rename Keep _ _ _ _ _ => K
        have C := IFormat.out z0 _ K.2.2
        rw [HF.out] at C
        go_wp2_with fail
        refine C.mono ?_
        rintro e w1 ⟨rfl, b1⟩
        have K1 := K.step HTb.out b1
        clear b1 K C
        rename Keep _ _ _ _ _ => K
        have C := IVoid.out z0 _ K.2.2
        rw [hVo.out] at C
        go_wp2_with fail
        refine C.mono ?_
        rintro e w1 ⟨rfl, b1⟩
        have K1 := K.step HTb.out b1
        clear b1 K C
        rename Keep _ _ _ _ _ => K
        have C := IHead.out z0 _ K.2.2
        rw [HH.out] at C
        go_wp2_with fail
        refine C.mono ?_
        rintro e w1 ⟨rfl, b1⟩
        have K1 := K.step HTb.out b1
        clear b1 K C
        rename Keep _ _ _ _ _ => K
        have C := IBlock.out z0 _ K.2.2
        rw [HB.out] at C
        go_wp2_with fail
        refine C.mono ?_
        rintro e w1 ⟨rfl, b1⟩
        have K1 := K.step HTb.out b1
        clear b1 K C
        rename Keep _ _ _ _ _ => K
        go_wp2_with fail
        go_ret
        exact ⟨rfl, K.1⟩
  · cases hF : isIn z0 formatL
    · have HP : Hid (isIn z0 partL = true) := hP
      have hB : Hid (isIn z0 blockL = false) := by show _ = _; simpa [hP] using Hpb
      have HF : Hid (isIn z0 formatL = false) := hF
      cases hH : isIn z0 headL
      · have HH : Hid (isIn z0 headL = false) := hH
        clear Hpb Hfv Hhb hP hF hH
        have C := IPart.out z0 _ K.2.2
        rw [HP.out] at C
        go_wp2_with fail
        refine C.mono ?_
        rintro e w1 ⟨rfl, b1⟩
        have K1 := K.step HTb.out b1
        clear b1 K C
        rename Keep _ _ _ _ _ => K
        have C := IBlock.out z0 _ K.2.2
        rw [hB.out] at C
        go_wp2_with fail
        refine C.mono ?_
        rintro e w1 ⟨rfl, b1⟩
        have K1 := K.step HTb.out b1
        clear b1 K C
        rename Keep _ _ _ _ _ => K
        have C := IFormat.out z0 _ K.2.2
        rw [HF.out] at C
        go_wp2_with fail
        refine C.mono ?_
        rintro e w1 ⟨rfl, b1⟩
        have K1 := K.step HTb.out b1
        clear b1 K C
        rename Keep _ _ _ _ _ => K
        have C := IHead.out z0 _ K.2.2
        rw [HH.out] at C
        go_wp2_with fail
        refine C.mono ?_
        rintro e w1 ⟨rfl, b1⟩
        have K1 := K.step HTb.out b1
        clear b1 K C
        rename Keep _ _ _ _ _ => K
        go_wp2_with fail
        go_ret
        exact ⟨rfl, K.1⟩
      · exact absurd (Hhb hH) (by rw [hB.out]; simp)
    · have HP : Hid (isIn z0 partL = true) := hP
      have hB : Hid (isIn z0 blockL = false) := by show _ = _; simpa [hP] using Hpb
      have hVo : Hid (isIn z0 voidL = false) := by show _ = _; simpa [hF] using Hfv
      have HF : Hid (isIn z0 formatL = true) := hF
      cases hH : isIn z0 headL
      · have HH : Hid (isIn z0 headL = false) := hH
        clear Hpb Hfv Hhb hP hF hH
        have C := IPart.out z0 _ K.2.2
        rw [HP.out] at C
        go_wp2_with fail
        refine C.mono ?_
        rintro e w1 ⟨rfl, b1⟩
        have K1 := K.step HTb.out b1
        clear b1 K C
        rename Keep _ _ _ _ _ => K
        have C := IBlock.out z0 _ K.2.2
        rw [hB.out] at C
        go_wp2_with fail
        refine C.mono ?_
        rintro e w1 ⟨rfl, b1⟩
        have K1 := K.step HTb.out b1
        clear b1 K C
        rename Keep _ _ _ _ _ => K
        have C := IFormat.out z0 _ K.2.2
        rw [HF.out] at C
        go_wp2_with fail
        refine C.mono ?_
        rintro e w1 ⟨rfl, b1⟩
        have K1 := K.step HTb.out b1
        clear b1 K C
        rename Keep _ _ _ _ _ => K
        have C := IVoid.out z0 _ K.2.2
        rw [hVo.out] at C
        go_wp2_with fail
        refine C.mono ?_
        rintro e w1 ⟨rfl, b1⟩
        have K1 := K.step HTb.out b1
        clear b1 K C
        rename Keep _ _ _ _ _ => K
        have C := IHead.out z0 _ K.2.2
        rw [HH.out] at C
        go_wp2_with fail
        refine C.mono ?_
        rintro e w1 ⟨rfl, b1⟩
        have K1 := K.step HTb.out b1
        clear b1 K C
        rename Keep _ _ _ _ _ => K
        go_wp2_with fail
        go_ret
        exact ⟨rfl, K.1⟩
      · exact absurd (Hhb hH) (by rw [hB.out]; simp)

end Go.Proofs.Ytjbjmjnjdadjcaa.fnKindsOfTags
