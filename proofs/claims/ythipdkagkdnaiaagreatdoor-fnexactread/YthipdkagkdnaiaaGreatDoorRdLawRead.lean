/- The law of Read, out of the program's contract. -/
import Derived.Test.YthipdkagkdnaiaaGreatDoorElHd
import Derived.Test.YthipdkagkdnaiaaGreatDoorMRD15
namespace Go.Proofs.YthipdkagkdnaiaaGreatDoor.Sg
open Go.ChangeShapes Go.WideShapes Go.ChangeAt Go.RowKit

mutual
theorem cntE_le : ∀ e : ElB, cntE e ≤ 4 + 4 * elW e
  | .mk kd sp nm ats tx ks => by
    have h := cntEs_le ks
    have h2 : ats.length ≤ attrsW ats := by unfold attrsW; omega
    rw [cntE, elW]
    omega
theorem cntEs_le : ∀ es : List ElB, cntEs es ≤ 4 * (es.length + elsW es)
  | [] => by rw [cntEs]; omega
  | e :: es => by
    have h1 := cntE_le e
    have h2 := cntEs_le es
    rw [cntEs, elsW, List.length_cons]
    omega
end
/-- What is read, nothing where all is refused. -/
def readL (s : ByteArray) : List ElB := (readR s).getD []
theorem readL_size (s : ByteArray) : (readL s).length + elsW (readL s) ≤ 1000000 := by
  unfold readL
  cases h : readR s with
  | none => simp [elsW]
  | some l => exact (readR_size h).1
theorem specReadL (s : ByteArray) (w : World) (hs : s.size ≤ 1073741824) :
    Calls Tryz.prog 11 #[.string s] w fun r w' => Below w.heap.size w w' ∧ ∃ a c, r = .returned (.tuple #[.slice a (readL s).length c, .bool (readR s).isSome]) ∧ KidsIn (QP (w.heap.size ≤ ·)) (w.heap.size ≤ ·) w' a (readL s) := by
  refine (specRead s w hs).mono ?_
  rintro r w' ⟨b1, ⟨l, g, c, hR, rfl, hk⟩ | ⟨hR, g, rfl⟩⟩
  · unfold readL
    rw [hR]
    exact ⟨b1, _, _, rfl, hk⟩
  · unfold readL
    rw [hR]
    exact ⟨b1, _, _, rfl, .inl rfl⟩

/-- What the program's Read is to leave. -/
def ReadOwn (s : ByteArray) (W : World) (r : Ending) (w' : World) : Prop :=
  Below W.heap.size W w' ∧ ∃ v n F, r = .returned (.tuple #[v, .bool (readR s).isSome]) ∧ OwnS w' W.heap.size n (readL s) v F ∧ ∀ b, F b → W.heap.size ≤ b

set_option maxRecDepth 20000 in
set_option maxHeartbeats 4000000 in
theorem lawRead (T : World → Prop) (keep : ∀ W W', T W → Below W.heap.size W W' → T W') (hI : ∀ (s : ByteArray) (W : World), s.size ≤ 1048576 → T W → Calls Tryz.prog 12 #[.string s] W fun r w' => ReadOwn s W r w') (w : World) (s : ByteArray) (hT : T w) :
    Calls Tryz.prog 4 #[.string s] w fun e w' => e = .returned (.bool true) ∧ Below w.heap.size w w' := by
  have HT : Hid (T w) := hT
  have Hk : Hid (∀ W W', T W → Below W.heap.size W W' → T W') := keep
  by_cases hbs : (1048576 : Int) < (s.size : Int)
  · clear hI
    go_enter Tryz.func4, Tryz.ntmps4
    go_wp2_with fail
    go_ret
    exact ⟨rfl, Below.refl _ _⟩
  have HI : Hid (∀ (W : World), T W → Calls Tryz.prog 12 #[.string s] W fun r w' => ReadOwn s W r w') := fun W h => hI s W (by omega) h
  have HC := specReadL s w (by omega)
  have hsz := readL_size s
  clear hT keep hI
  have Hro : Hid (∀ W r w', ReadOwn s W r w' ↔ (Below W.heap.size W w' ∧ ∃ v n F, r = .returned (.tuple #[v, .bool (readR s).isSome]) ∧ OwnS w' W.heap.size n (readL s) v F ∧ ∀ b, F b → W.heap.size ≤ b)) := fun _ _ _ => Iff.rfl
  have hcn := cntEs_le (readL s)
  have Hli : Hid (ElsLight (readL s)) := els_light (readL s) (by omega)
  obtain ⟨L, HL⟩ : ∃ L, Hid (readL s = L) := ⟨_, rfl⟩
  rw [HL.out] at HC Hro hsz hcn Hli
  obtain ⟨ok, Hok⟩ : ∃ ok, Hid ((readR s).isSome = ok) := ⟨_, rfl⟩
  rw [Hok.out] at HC Hro
  obtain ⟨M, HMl⟩ : ∃ M, Hid (L.length = M) := ⟨_, rfl⟩
  have hMl := HMl.out
  have hM : M ≤ 1000000 := by omega
  obtain ⟨cn, Hcn⟩ : ∃ cn, Hid (cntEs L = cn) := ⟨_, rfl⟩
  have hcnb : cn ≤ 4000000 := by have := Hcn.out; omega
  clear hMl hcn hsz
  have hok : (ok != ok) = false := by simp
  go_enter Tryz.func4, Tryz.ntmps4
  go_wp2_with fail
  refine HC.mono ?_
  rintro r w1 ⟨b1, a, c, rfl, hkid⟩
  have HK1 : Hid (KidsIn (QP (w.heap.size ≤ ·)) (w.heap.size ≤ ·) w1 a L) := hkid
  have HB1 : Hid (Below w.heap.size w w1) := b1
  have HT1 := Hk.out _ _ HT.out b1
  rw [HMl.out]
  clear HC hkid b1
  go_wp2_with fail
  refine (HI.out w1 HT1).mono ?_
  intro r w2 hro
  obtain ⟨b2, v, n, F, rfl, hown, hF⟩ := (Hro.out _ _ _).1 hro
  have HO2 : Hid (OwnS w2 w1.heap.size n L v F) := hown
  have HFo : Hid (∀ b, F b → w1.heap.size ≤ b) := hF
  have HB2 : Hid (Below w1.heap.size w1 w2) := b2
  obtain ⟨ga, gc, ev, hgk⟩ := OwnS.kids n hown
  rw [HMl.out] at ev
  have HE2 := eqElS_any L w1.heap.size w.heap.size ga a M gc c w2 hgk.qa (KidsIn.keep (QP.lies _) b2 HK1.out).qa HMl.out (by omega) Hli.out
  clear hro hown hF b2 hgk HT1
  subst ev
  go_wp2_with fail
  refine HE2.mono ?_
  rintro r w3 ⟨rfl, b3⟩
  have HO3 : Hid (OwnS w3 w1.heap.size n L (.slice ga M gc) F) := OwnS.stay n HO2.out (fun b _ hb2 => b3.block b hb2)
  have HB3 : Hid (Below w1.heap.size w1 w3) := HB2.out.trans (b3.mono HB2.out.size)
  clear HE2 b3 HO2 HB2
  have HMk := markElS_any n L (.slice ga M gc) 1 w1.heap.size F w3 HO3.out (by rw [Hcn.out]; omega)
  rw [Hcn.out] at HMk
  go_wp2_with fail
  refine HMk.mono ?_
  rintro r w4 ⟨rfl, hown4, hkb4⟩
  have HO4 : Hid (OwnS w4 w1.heap.size n (mkEs L 1) (.slice ga M gc) F) := hown4
  have HB4 : Hid (Below w1.heap.size w1 w4) := HB3.out.trans (hkb4.below HB3.out.size HFo.out)
  clear HMk hown4 hkb4 HO3 HB3
  have HH4 := heldElS_any n L (.slice ga M gc) 1 w1.heap.size F w4 HO4.out (by rw [Hcn.out]; omega)
  rw [Hcn.out] at HH4
  have gq : ¬ ((1 + cn : Nat) : Int) < 0 := by omega
  have gq' : decide (((1 + cn : Nat) : Int) < 0) = false := decide_eq_false gq
  have gqq : (((1 + cn : Nat) : Int) != ((1 + cn : Nat) : Int)) = false := by simp
  obtain ⟨q, Hq⟩ : ∃ q, Hid (((1 + cn : Nat) : Int) = q) := ⟨_, rfl⟩
  rw [Hq.out] at HH4 gq gq' gqq ⊢
  go_wp2_with fail
  refine HH4.mono ?_
  rintro r w5 ⟨rfl, b5⟩
  have HO5 : Hid (OwnS w5 w1.heap.size n (mkEs L 1) (.slice ga M gc) F) := OwnS.stay n HO4.out (fun b _ hb2 => b5.block b hb2)
  have HB5 : Hid (Below w1.heap.size w1 w5) := HB4.out.trans (b5.mono HB4.out.size)
  clear HH4 b5 HO4 HB4
  have HT5 := Hk.out _ _ HT.out (HB1.out.trans (HB5.out.mono HB1.out.size))
  go_wp2_with fail
  refine (HI.out w5 HT5).mono ?_
  intro r w6 hro
  obtain ⟨b6, v6, n6, F6, rfl, hown6, hF6⟩ := (Hro.out _ _ _).1 hro
  obtain ⟨ha, hc, ev, hhk⟩ := OwnS.kids n6 hown6
  rw [HMl.out] at ev
  have HB6 : Hid (Below w1.heap.size w1 w6) := HB5.out.trans (b6.mono HB5.out.size)
  have HO6 : Hid (OwnS w6 w1.heap.size n (mkEs L 1) (.slice ga M gc) F) := OwnS.stay n HO5.out (fun b _ hb2 => b6.block b hb2)
  have HE6 := eqElS_any L w5.heap.size w.heap.size ha a M hc c w6 hhk.qa (KidsIn.keep (QP.lies _) HB6.out HK1.out).qa HMl.out (by omega) Hli.out
  clear hro hown6 hF6 b6 hhk HT5 HO5 HB5
  subst ev
  go_wp2_with fail
  refine HE6.mono ?_
  rintro r w7 ⟨rfl, b7⟩
  have HO7 : Hid (OwnS w7 w1.heap.size n (mkEs L 1) (.slice ga M gc) F) := OwnS.stay n HO6.out (fun b _ hb2 => b7.block b hb2)
  have HB7 : Hid (Below w1.heap.size w1 w7) := HB6.out.trans (b7.mono HB6.out.size)
  clear HE6 b7 HO6 HB6
  have HH7 := heldElS_any n L (.slice ga M gc) 1 w1.heap.size F w7 HO7.out (by rw [Hcn.out]; omega)
  rw [Hcn.out, Hq.out] at HH7
  go_wp2_with fail
  refine HH7.mono ?_
  rintro r w8 ⟨rfl, b8⟩
  have HB8 : Hid (Below w.heap.size w w8) := HB1.out.trans ((HB7.out.trans (b8.mono HB7.out.size)).mono HB1.out.size)
  clear HH7 b8 HO7 HB7 HK1
  go_wp2_with fail
  go_ret
  exact ⟨rfl, HB8.out⟩

end Go.Proofs.YthipdkagkdnaiaaGreatDoor.Sg
