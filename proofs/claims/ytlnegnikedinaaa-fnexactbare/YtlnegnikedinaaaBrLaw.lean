/- The law of Bare, out of the program's contract. -/
import Derived.Test.YtlnegnikedinaaaBrSpec
import Derived.Test.YtlnegnikedinaaaLwItLt
import Derived.Test.YtlnegnikedinaaaLwItTo2
import Derived.Test.YtlnegnikedinaaaLwItEq2
import Derived.Test.YtlnegnikedinaaaLwIt2
import Derived.Test.YtlnegnikedinaaaLwItMk2
namespace Go.Proofs.Ytlnegnikedinaaa.Sg
open Go.ChangeShapes Go.WideShapes Go.ChangeAt Go.RowKit

/-- A slice of texts that lies in none of the turned blocks. -/
theorem StrsAt.kb {w w' : World} {a : Option Addr} {l : List ByteArray} {S : Nat → Prop} (h : StrsAt w a l) (hk : Kb w w' S) (hS : ∀ b, a = some ⟨b, 0, none⟩ → ¬ S b) : StrsAt w' a l := by
  rcases h with h | ⟨b, h1, h2, h3⟩
  · exact .inl h
  · refine .inr ⟨b, h1, Nat.lt_of_lt_of_le h2 hk.size, fun k hl => ?_⟩
    rw [← h3 k hl]
    unfold World.cell?
    rw [hk.block b h2 (hS b h1)]

theorem markIs_le5 : ∀ l : List ItB, markIs l ≤ 5 * itsW l
  | [] => Nat.zero_le _
  | t :: l => by
    have h := markIs_le5 l
    have ha : t.ats.length ≤ attrsW t.ats := by unfold attrsW; omega
    have e1 : markIs (t :: l) = markIn t + markIs l := by simp [markIs]
    have e2 : itsW (t :: l) = itsW l + 1 + itW t := by simp [itsW]; omega
    have e3 : markIn t = 5 + 2 * t.ats.length + t.kids.length := rfl
    have e4 : itW t = t.nm.size + (attrsW t.ats + (t.tx.size + t.kids.length)) := rfl
    omega
theorem markIs_le (l : List ItB) (h : itsW l ≤ 1048576) : markIs l ≤ 549755813888 := by
  have := markIs_le5 l
  omega

set_option maxRecDepth 20000 in
set_option maxHeartbeats 8000000 in
theorem lawBare (z : List ItB) (a : Option Addr) (c : Nat) (w : World) (T : World → Prop) (hTb : ∀ w w' : World, T w → Below w.heap.size w w' → T w') (hT : T w) (h : ItsIn w a z) (m : ItsHeld z)
    (hI : itsW z ≤ 1048576 → ∀ W (x : Option Addr), ItsAt W x z → T W → Calls Try.prog 21 #[.slice x z.length z.length] W fun e w' => ∃ v, e = .returned v ∧ w'.ownsRow W.heap.size 9 1 v (bareL z).length (strCs (bareL z)) ∧ Below W.heap.size W w') :
    Calls Try.prog 6 #[.slice a z.length c] w fun e w' => e = .returned (.bool true) ∧ Below w.heap.size w w' := by
  have HTw : Hid (T w) := hT
  have HTb : Hid (∀ w w' : World, T w → Below w.heap.size w w' → T w') := hTb
  have Ha : Hid (ItsIn w a z) := h
  have Hz : Hid (∀ W, ItsIn W a z → Calls Try.prog 18 #[.slice a z.length c, .int .i64 1048576] W fun e w' => e = .returned (.int .i64 (leftZ 1048576 (itsW z))) ∧ Below W.heap.size W w') := fun W hW => szItemS_any z a z.length c 1048576 W hW rfl m (by decide) (by decide)
  clear h m hT hTb
  by_cases hbig : itsW z ≤ 1048576
  · obtain ⟨hlight, htext⟩ := its_light hbig
    have hlen : z.length ≤ 1048576 := hlight.1
    have Hat : Hid (∀ t ∈ z, t.ats.length ≤ 1048576 ∧ t.kids.length ≤ 1048576) := hlight.2
    have hz : leftZ 1048576 (itsW z) = 1048576 - (itsW z : Int) := by unfold leftZ; rw [if_pos (by omega)]
    have Hz1 := Hz.out w Ha.out
    rw [hz] at Hz1
    have g1 : ¬ (1048576 - (itsW z : Int)) < 0 := by omega
    have g1' : decide ((1048576 - (itsW z : Int)) < 0) = false := decide_eq_false g1
    have Hto : Hid (∀ W, ItsIn W a z → Calls Try.prog 20 #[.slice a z.length c] W fun e w' => e = .returned (.slice (some ⟨W.heap.size, 0, none⟩) z.length z.length) ∧ OwnIts w' W.heap.size (.slice (some ⟨W.heap.size, 0, none⟩) z.length z.length) z ∧ Below W.heap.size W w') := fun W hW => toItemS_any z a z.length c W hW rfl (by omega) (fun t ht => ⟨Nat.le_trans (Hat.out t ht).1 (by decide), Nat.le_trans (Hat.out t ht).2 (by decide)⟩)
    have Hs : Hid (∀ W (x : Option Addr), ItsAt W x z → Calls Try.prog 19 #[.slice x z.length z.length] W fun e w' => ∃ v, e = .returned v ∧ w'.ownsRow W.heap.size 9 1 v (bareL z).length (strCs (bareL z)) ∧ Below W.heap.size W w') := fun W x hx => specBare z x z.length z.length W hx rfl hlen
    have Hi : Hid (∀ W (x : Option Addr), ItsAt W x z → T W → Calls Try.prog 21 #[.slice x z.length z.length] W fun e w' => ∃ v, e = .returned v ∧ w'.ownsRow W.heap.size 9 1 v (bareL z).length (strCs (bareL z)) ∧ Below W.heap.size W w') := hI hbig
    have He : Hid (∀ W (x y : Option Addr), ItsAt W x z → ItsAt W y z → Calls Try.prog 23 #[.slice x z.length z.length, .slice y z.length z.length] W fun e w' => e = .returned (.bool true) ∧ Below W.heap.size W w') := fun W x y hx hy => eqItemS_same z x y z.length z.length z.length W hx hy rfl (by omega) (fun t ht => ⟨Nat.le_trans (Hat.out t ht).1 (by decide), Nat.le_trans (Hat.out t ht).2 (by decide)⟩)
    have HM : Hid (∀ (W0 W : World) (B : Nat) (v : Value), OwnIts W0 B v z → Below W0.heap.size W0 W → Calls Try.prog 24 #[v, .int .i64 1] W fun e w' => e = .returned (.int .i64 ((1 + markIs z : Nat) : Int)) ∧ ∃ S : Nat → Prop, (∀ b, S b → B ≤ b ∧ b < W0.heap.size) ∧ Kb W w' S) := fun W0 W B v ho hW => by
      obtain ⟨L, hL, h2, h3⟩ := ho
      have hlL : L.length = z.length := by rw [← hL, List.length_map]
      have hC := markItemS_any L v 1 B W (owns_below h2 (Nat.le_refl _) hW) (h3.keep hW) (by decide) (by omega) (by rw [hL]; exact markIs_le z hbig) (fun q hq => Hat.out q.1 (by rw [← hL]; exact List.mem_map.2 ⟨q, hq, rfl⟩))
      refine hC.mono ?_
      rintro e w' ⟨he, L', _, _, _, _, hk⟩
      rw [hL] at he
      refine ⟨he, MkB v L, fun b hb => ?_, hk⟩
      have own_at : ∀ {e : TypeId} {k : Nat} {u : Value} {n : Nat} {xs : List Value}, W0.ownsRow B e k u n xs → u.ownBlock = some b → B ≤ b ∧ b < W0.heap.size := by
        intro e k u n xs ho hu
        rcases ho.2 with ⟨rfl, _⟩ | ⟨g, cap, cur, rfl, g3, g4, _⟩
        · cases hu
        · injection hu with hu
          subst hu
          exact ⟨g3, (Array.getElem?_eq_some_iff.1 g4).1⟩
      rcases hb with hb | ⟨q, hq, hb | hb⟩
      · exact own_at h2 hb
      · exact own_at (h3.1 q hq).1 hb
      · exact own_at (h3.1 q hq).2 hb
    have hbl := bareL_len z
    have hbl' : (bareL z).length ≤ 1048576 := by omega
    have hmk : ¬ (((1 + markIs z : Nat) : Int) < 0) := by omega
    have hmk' : decide (((1 + markIs z : Nat) : Int) < 0) = false := decide_eq_false hmk
    clear Hz hz Hat hlight htext hI hbl
    generalize markIs z = mk at *
    generalize bareL z = V at *
    obtain ⟨n, Hn⟩ : ∃ n, Hid (V.length = n) := ⟨_, rfl⟩
    rw [Hn.out] at Hs Hi hbl'
    have q1 : ¬ (((1 + n : Nat) : Int) < 0) := by omega
    have q1' : decide (((1 + n : Nat) : Int) < 0) = false := decide_eq_false q1
    have q2 : (((1 + n : Nat) : Int) != ((1 + n : Nat) : Int)) = false := by simp
    generalize (1048576 - (itsW z : Int)) = left at *
    go_enter Try.func6, Try.ntmps6
    go_wp2_with fail
    refine Hz1.mono ?_
    rintro e w1 ⟨rfl, b1⟩
    go_wp2_with fail
    refine (Hto.out _ (Ha.out.keep b1)).mono ?_
    rintro e w2 ⟨rfl, o2, b2⟩
    have b02 : Below w.heap.size w w2 := b1.trans (b2.mono b1.size)
    obtain ⟨a2, c2, e2, _, A2⟩ := its_of_own o2
    cases e2
    go_wp2_with fail
    refine (Hs.out _ _ A2).mono ?_
    rintro e w3 ⟨v3, rfl, r3, b3⟩
    have b03 : Below w.heap.size w w3 := b02.trans (b3.mono b02.size)
    rw [← Hn.out] at r3
    obtain ⟨s3, t3, rfl, S3⟩ := strs_of_own r3
    rw [Hn.out]
    have HS : Hid (StrsAt w3 s3 V) := S3
    have h03 : w.heap.size ≤ w3.heap.size := b03.size
    clear o2 A2 b1 b2 b3 b02 Hz1 r3 S3
    go_wp2_with fail
    refine (Hto.out _ (Ha.out.keep b03)).mono ?_
    rintro e w4 ⟨rfl, o4, b4⟩
    have b04 : Below w.heap.size w w4 := b03.trans (b4.mono b03.size)
    obtain ⟨a4, c4, e4, _, A4⟩ := its_of_own o4
    cases e4
    have T4 := HTb.out _ _ HTw.out b04
    have HO : Hid (OwnIts w4 w3.heap.size (.slice (some ⟨w3.heap.size, 0, none⟩) z.length z.length) z) := o4
    clear o4 b03
    go_wp2_with fail
    refine (Hi.out _ _ A4 T4).mono ?_
    rintro e w5 ⟨v5, rfl, r5, b5⟩
    have A5 := A4.keep b5
    have b35 : Below w3.heap.size w3 w5 := b4.trans (b5.mono b4.size)
    have b45 : Below w4.heap.size w4 w5 := b5
    rw [← Hn.out] at r5
    obtain ⟨s5, t5, rfl, R5⟩ := strs_of_own r5
    rw [Hn.out]
    have b05 : Below w.heap.size w w5 := b04.trans (b5.mono b04.size)
    have z34 : w3.heap.size ≤ w4.heap.size := b4.size
    clear A4 b04 T4 b4 b5
    go_wp2_with fail
    refine (eqStringS_same V s5 s3 n t5 t3 _ R5 (HS.out.below b35) Hn.out (by omega)).mono ?_
    rintro e w6 ⟨rfl, b6⟩
    have b06 : Below w.heap.size w w6 := b05.trans (b6.mono b05.size)
    have b36 : Below w3.heap.size w3 w6 := b35.trans (b6.mono b35.size)
    have b46 : Below w4.heap.size w4 w6 := b45.trans (b6.mono b45.size)
    have A6 := A5.keep b6
    have r6 := owns_below r5 (Nat.le_refl _) b6
    clear A5 R5 r5 b05 b35 b45 b6
    go_wp2_with fail
    refine (Hto.out _ (Ha.out.keep b06)).mono ?_
    rintro e w7 ⟨rfl, o7, b7⟩
    have b07 : Below w.heap.size w w7 := b06.trans (b7.mono b06.size)
    have b37 : Below w3.heap.size w3 w7 := b36.trans (b7.mono b36.size)
    have b47 : Below w4.heap.size w4 w7 := b46.trans (b7.mono b46.size)
    have A7 := A6.keep b7
    have r7 := owns_below r6 (Nat.le_refl _) b7
    obtain ⟨a7, c7, e7, _, B7⟩ := its_of_own o7
    cases e7
    clear o7 A6 r6 b06 b36 b46 b7
    go_wp2_with fail
    refine (He.out _ _ _ A7 B7).mono ?_
    rintro e w8 ⟨rfl, b8⟩
    have b08 : Below w.heap.size w w8 := b07.trans (b8.mono b07.size)
    have b38 : Below w3.heap.size w3 w8 := b37.trans (b8.mono b37.size)
    have b48 : Below w4.heap.size w4 w8 := b47.trans (b8.mono b47.size)
    have r8 := owns_below r7 (Nat.le_refl _) b8
    clear A7 B7 r7 b07 b37 b47 b8
    go_wp2_with fail
    refine (HM.out _ _ _ _ HO.out b48).mono ?_
    rintro e w9 ⟨rfl, MS, hMS, k9⟩
    have c9 : Below w3.heap.size w8 w9 := k9.below b38.size (fun k hk => (hMS k hk).1)
    have b09 : Below w.heap.size w w9 := b08.trans (c9.mono h03)
    have b39 : Below w3.heap.size w3 w9 := b38.trans c9
    have r9 := k9.owns r8 (fun k hk hS => by
      rcases r8.2 with ⟨e0, _⟩ | ⟨g, cap, cur, e0, g3, _⟩
      · rw [e0] at hk
        cases hk
      · rw [e0] at hk
        injection hk with hk
        have h1 := (hMS k hS).2
        have h2 : g = k := hk
        omega)
    have z49 : w4.heap.size ≤ w9.heap.size := Nat.le_trans b48.size k9.size
    obtain ⟨s9, t9, e9, R9⟩ := strs_of_own r9
    rw [Hn.out] at e9
    cases e9
    clear HO HM b08 b38 b48 c9 k9 hMS r8 He
    go_wp2_with fail
    refine (eqStringS_same V s5 s3 n t5 t3 _ R9 (HS.out.below b39) Hn.out (by omega)).mono ?_
    rintro e w10 ⟨rfl, b10⟩
    have b010 : Below w.heap.size w w10 := b09.trans (b10.mono b09.size)
    have b310 : Below w3.heap.size w3 w10 := b39.trans (b10.mono b39.size)
    have r10 := owns_below r9 (Nat.le_refl _) b10
    have z410 : w4.heap.size ≤ w10.heap.size := Nat.le_trans z49 b10.size
    clear b09 b39 R9 r9 b10 z49
    go_wp2_with fail
    refine (markStringS_any V _ 1 w4.heap.size _ (by rw [Hn.out] at r10 ⊢; exact r10) (by omega) (by rw [Hn.out]; omega) z410).mono ?_
    rintro e w11 ⟨rfl, r11, b11⟩
    have b311 : Below w3.heap.size w3 w11 := b310.trans (b11.mono z34)
    have b011 : Below w.heap.size w w11 := b010.trans (b11.mono (Nat.le_trans h03 z34))
    rw [Hn.out] at r11 ⊢
    obtain ⟨s11, t11, e11, M11⟩ := strs_of_own r11
    rw [markT_length] at e11
    cases e11
    clear r10 r11 b310 b010 b11 z410
    go_wp2_with fail
    refine (heldStringS_any n 1 s5 t5 _ M11 (by omega) (by omega)).mono ?_
    rintro e w12 ⟨rfl, b12⟩
    have b312 : Below w3.heap.size w3 w12 := b311.trans (b12.mono b311.size)
    have b012 : Below w.heap.size w w12 := b011.trans (b12.mono b011.size)
    have M12 := M11.below b12
    clear M11 b311 b011 b12
    go_wp2_with fail
    refine (Hto.out _ (Ha.out.keep b012)).mono ?_
    rintro e w13 ⟨rfl, o13, b13⟩
    have b313 : Below w3.heap.size w3 w13 := b312.trans (b13.mono b312.size)
    have b013 : Below w.heap.size w w13 := b012.trans (b13.mono b012.size)
    have M13 := M12.below b13
    obtain ⟨a13, c13, e13, _, A13⟩ := its_of_own o13
    cases e13
    have T13 := HTb.out _ _ HTw.out b013
    clear M12 b312 b012 b13 o13
    go_wp2_with fail
    refine (Hi.out _ _ A13 T13).mono ?_
    rintro e w14 ⟨v14, rfl, r14, b14⟩
    have b314 : Below w3.heap.size w3 w14 := b313.trans (b14.mono b313.size)
    have b014 : Below w.heap.size w w14 := b013.trans (b14.mono b013.size)
    have M14 := M13.below b14
    rw [← Hn.out] at r14
    obtain ⟨s14, t14, rfl, R14⟩ := strs_of_own r14
    rw [Hn.out]
    clear M13 b313 b013 b14 r14 A13 T13
    go_wp2_with fail
    refine (eqStringS_same V s14 s3 n t14 t3 _ R14 (HS.out.below b314) Hn.out (by omega)).mono ?_
    rintro e w15 ⟨rfl, b15⟩
    have b015 : Below w.heap.size w w15 := b014.trans (b15.mono b014.size)
    have M15 := M14.below b15
    clear M14 b314 b014 b15 R14 HS
    go_wp2_with fail
    refine (heldStringS_any n 1 s5 t5 _ M15 (by omega) (by omega)).mono ?_
    rintro e w16 ⟨rfl, b16⟩
    have b016 : Below w.heap.size w w16 := b015.trans (b16.mono b015.size)
    clear M15 b015 b16
    go_wp2_with fail
    go_ret
    exact ⟨rfl, b016⟩
  · have hz : leftZ 1048576 (itsW z) = -1 := by unfold leftZ; rw [if_neg (by omega)]
    have Hz1 := Hz.out w Ha.out
    rw [hz] at Hz1
    clear hI
    go_enter Try.func6, Try.ntmps6
    go_wp2_with fail
    refine Hz1.mono ?_
    rintro e w1 ⟨rfl, b1⟩
    go_wp2_with fail
    go_ret
    exact ⟨rfl, b1⟩

end Go.Proofs.Ytlnegnikedinaaa.Sg
