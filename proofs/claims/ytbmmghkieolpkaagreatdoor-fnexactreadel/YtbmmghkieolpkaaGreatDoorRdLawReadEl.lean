/- The law of ReadEl, out of the program's contract. -/
import Derived.Test.YtbmmghkieolpkaaGreatDoorME113
import Derived.Test.YtbmmghkieolpkaaGreatDoorME107
namespace Go.Proofs.YtbmmghkieolpkaaGreatDoor.Sg
open Go.ChangeShapes Go.WideShapes Go.ChangeAt Go.RowKit

/-- What the program's ReadEl is to leave. -/
def ReadElOwn (s : ByteArray) (i about : Int) (W : World) (r : Ending) (w' : World) : Prop :=
  Below W.heap.size W w' ∧ ∃ v n F, r = .returned (.tuple #[v, .int .i64 (readElI s i about)]) ∧ ElOwn (OwnS w' W.heap.size n) w' W.heap.size (readElE s i about) v F ∧ ∀ b, F b → W.heap.size ≤ b ∧ b < w'.heap.size

/-- Six cells of a block. -/
def SixC (w : World) (c : Nat) (v0 v1 v2 v3 v4 v5 : Value) : Prop := w.cell? ⟨c, 0, none⟩ = some v0 ∧ w.cell? ⟨c, 1, none⟩ = some v1 ∧ w.cell? ⟨c, 2, none⟩ = some v2 ∧ w.cell? ⟨c, 3, none⟩ = some v3 ∧ w.cell? ⟨c, 4, none⟩ = some v4 ∧ w.cell? ⟨c, 5, none⟩ = some v5
theorem SixC.keep {w w' : World} {c : Nat} {v0 v1 v2 v3 v4 v5 : Value} (h : SixC w c v0 v1 v2 v3 v4 v5) (hb : Below w.heap.size w w') : SixC w' c v0 v1 v2 v3 v4 v5 :=
  ⟨keep_cell hb h.1, keep_cell hb h.2.1, keep_cell hb h.2.2.1, keep_cell hb h.2.2.2.1, keep_cell hb h.2.2.2.2.1, keep_cell hb h.2.2.2.2.2⟩
theorem SixC.kb {w w' : World} {c : Nat} {S : Nat → Prop} {v0 v1 v2 v3 v4 v5 : Value} (h : SixC w c v0 v1 v2 v3 v4 v5) (hb : Kb w w' S) (hc : ¬ S c) : SixC w' c v0 v1 v2 v3 v4 v5 := by
  have e := hb.block c (block_lt_of_cell h.1) hc
  exact ⟨(cell_agree e).trans h.1, (cell_agree e).trans h.2.1, (cell_agree e).trans h.2.2.1, (cell_agree e).trans h.2.2.2.1, (cell_agree e).trans h.2.2.2.2.1, (cell_agree e).trans h.2.2.2.2.2⟩
theorem SixC.new (w : World) (v0 v1 v2 v3 v4 v5 : Value) (t : TypeId) : SixC (w.alloc (.cells #[v0, v1, v2, v3, v4, v5] t)) w.heap.size v0 v1 v2 v3 v4 v5 := by
  unfold SixC
  simp
theorem ElOwn.val {n B : Nat} {w : World} {e : ElB} {v : Value} {F : Foot} (h : ElOwn (OwnS w B n) w B e v F) : ElP (B ≤ ·) w v e := by
  obtain ⟨kd, sp, nm, ats, tx, ks⟩ := e
  obtain ⟨av, kv, Fk, rfl, hat, _, hks, _⟩ := h
  obtain ⟨a, c, rfl, hkk⟩ := OwnS.kids n hks
  exact ⟨av, a, c, rfl, QP.of_own hat, hkk⟩
theorem ElOwn.keep {n B : Nat} {w w' : World} {e : ElB} {v : Value} {F : Foot} (h : ElOwn (OwnS w B n) w B e v F) (hb : Below w.heap.size w w') : ElOwn (OwnS w' B n) w' B e v F :=
  h.stay (fun _ _ _ _ hs => OwnS.stay n hs (fun b _ h2 => hb.block b h2)) (fun b _ h2 => hb.block b h2)
theorem cntOne_le (e : ElB) : cntOne e ≤ 4 * elW e := by
  obtain ⟨kd, sp, nm, ats, tx, ks⟩ := e
  have h := cntEs_le ks
  have h2 : ats.length ≤ attrsW ats := by unfold attrsW; omega
  show 2 * ats.length + cntEs ks ≤ _
  rw [elW]
  omega

set_option maxRecDepth 20000 in
set_option maxHeartbeats 8000000 in
theorem lawReadEl (T : World → Prop) (keep : ∀ W W', T W → Below W.heap.size W W' → T W') (hI : ∀ (s : ByteArray) (i about : Int) (W : World), s.size ≤ 1048576 → T W → Calls Tryz.prog 7 #[.string s, .int .i64 i, .int .i64 about] W fun r w' => ReadElOwn s i about W r w') (w : World) (s : ByteArray) (i about : Int) (hT : T w) :
    Calls Tryz.prog 3 #[.string s, .int .i64 i, .int .i64 about] w fun e w' => e = .returned (.bool true) ∧ Below w.heap.size w w' := by
  have HT : Hid (T w) := hT
  have Hk : Hid (∀ W W', T W → Below W.heap.size W W' → T W') := keep
  by_cases hbs : (1048576 : Int) < (s.size : Int)
  · clear hI
    go_enter Tryz.func3, Tryz.ntmps3
    go_wp2_with fail
    go_ret
    exact ⟨rfl, Below.refl _ _⟩
  have HI : Hid (∀ (W : World), T W → Calls Tryz.prog 7 #[.string s, .int .i64 i, .int .i64 about] W fun r w' => ReadElOwn s i about W r w') := fun W h => hI s i about W (by omega) h
  have HC := specReadEl s i about w (by omega)
  have hsz := readEl_size s i about
  have hcn := cntOne_le (readElE s i about)
  have Hli : Hid (ElLight (readElE s i about)) := el_light _ (by omega)
  have Hro : Hid (∀ W r w', ReadElOwn s i about W r w' ↔ (Below W.heap.size W w' ∧ ∃ v n F, r = .returned (.tuple #[v, .int .i64 (readElI s i about)]) ∧ ElOwn (OwnS w' W.heap.size n) w' W.heap.size (readElE s i about) v F ∧ ∀ b, F b → W.heap.size ≤ b ∧ b < w'.heap.size)) := fun _ _ _ => Iff.rfl
  clear hT keep hI
  generalize readElE s i about = E at *
  generalize readElI s i about = J at *
  obtain ⟨cn, Hcn⟩ : ∃ cn, Hid (cntOne E = cn) := ⟨_, rfl⟩
  have hcnb : 1 + cn ≤ 549755813888 := by have := Hcn.out; omega
  have hJ : (J != J) = false := by simp
  clear hcn hsz
  obtain ⟨kd, sp, nm, ats, tx, ks⟩ := E
  go_enter Tryz.func3, Tryz.ntmps3
  go_wp2_with fail
  refine HC.mono ?_
  rintro r w1 ⟨b1, v, rfl, hP⟩
  have HP1 : Hid (ElP (w.heap.size ≤ ·) w1 v (.mk kd sp nm ats tx ks)) := hP
  obtain ⟨av, ka, kc, ev, ⟨xa, xc, eav, _⟩, _⟩ := hP
  subst eav
  subst ev
  have N1 := SixC.new w1 (.int .i64 kd) (.int .i64 sp) (.string nm) (.slice xa ats.length xc) (.string tx) (.slice ka ks.length kc) 25
  have bA := (Below.refl w1.heap.size w1).alloc (Nat.le_refl _) (.cells #[.int .i64 kd, .int .i64 sp, .string nm, .slice xa ats.length xc, .string tx, .slice ka ks.length kc] 25)
  have HPa : Hid (ElP (w.heap.size ≤ ·) _ (.agg #[.int .i64 kd, .int .i64 sp, .string nm, .slice xa ats.length xc, .string tx, .slice ka ks.length kc]) (.mk kd sp nm ats tx ks)) := HP1.out.stay (fun b _ h2 => bA.block b h2) bA.size
  have HBa : Hid (Below w.heap.size w (w1.alloc (.cells #[.int .i64 kd, .int .i64 sp, .string nm, .slice xa ats.length xc, .string tx, .slice ka ks.length kc] 25))) := b1.trans (bA.mono b1.size)
  have HN1 : Hid (SixC (w1.alloc (.cells #[.int .i64 kd, .int .i64 sp, .string nm, .slice xa ats.length xc, .string tx, .slice ka ks.length kc] 25)) w1.heap.size _ _ _ _ _ _) := N1
  have hc7 : w1.heap.size < (w1.alloc (.cells #[.int .i64 kd, .int .i64 sp, .string nm, .slice xa ats.length xc, .string tx, .slice ka ks.length kc] 25)).heap.size := by simp
  have HTa : Hid (T _) := Hk.out _ _ HT.out HBa.out
  clear HC b1 bA HP1 N1
  go_upto_region 4 with fail
  generalize w1.heap.size = c7 at *
  generalize w1.alloc (.cells #[.int .i64 kd, .int .i64 sp, .string nm, .slice xa ats.length xc, .string tx, .slice ka ks.length kc] 25) = wa at *
  go_wp2_with fail
  refine (HI.out wa HTa.out).mono ?_
  intro r w2 hro
  obtain ⟨b2, v, n, F, rfl, hown, hF⟩ := (Hro.out _ _ _).1 hro
  have HO2 : Hid (ElOwn (OwnS w2 wa.heap.size n) w2 wa.heap.size (.mk kd sp nm ats tx ks) v F) := hown
  obtain ⟨av, kv, _, ev, hat, _, hks, _⟩ := hown
  obtain ⟨ga, gc, eav, _⟩ := attrs_of_own hat
  obtain ⟨gk, gkc, ekv, _⟩ := OwnS.kids n hks
  subst eav
  subst ekv
  subst ev
  have bB := (Below.refl w2.heap.size w2).alloc (Nat.le_refl _) (.cells #[.int .i64 kd, .int .i64 sp, .string nm, .slice ga ats.length gc, .string tx, .slice gk ks.length gkc] 25)
  have b2' : Below wa.heap.size wa (w2.alloc (.cells #[.int .i64 kd, .int .i64 sp, .string nm, .slice ga ats.length gc, .string tx, .slice gk ks.length gkc] 25)) := b2.trans (bB.mono b2.size)
  have HN7 : Hid (SixC _ c7 _ _ _ _ _ _) := HN1.out.keep b2'
  have HN9 : Hid (SixC (w2.alloc (.cells #[.int .i64 kd, .int .i64 sp, .string nm, .slice ga ats.length gc, .string tx, .slice gk ks.length gkc] 25)) w2.heap.size _ _ _ _ _ _) := SixC.new w2 (.int .i64 kd) (.int .i64 sp) (.string nm) (.slice ga ats.length gc) (.string tx) (.slice gk ks.length gkc) 25
  have HOb : Hid (ElOwn (OwnS _ wa.heap.size n) _ wa.heap.size (.mk kd sp nm ats tx ks) _ F) := HO2.out.keep bB
  have HBb : Hid (Below wa.heap.size wa _) := b2'
  have HFo : Hid (∀ b, F b → wa.heap.size ≤ b ∧ b < w2.heap.size) := hF
  have hc9 : wa.heap.size ≤ w2.heap.size := b2.size
  clear hro hat hks b2 bB b2' HO2 HN1 HTa hF
  go_upto_region 5 with fail
  generalize w2.heap.size = c9 at *
  generalize w2.alloc (.cells #[.int .i64 kd, .int .i64 sp, .string nm, .slice ga ats.length gc, .string tx, .slice gk ks.length gkc] 25) = wb at *
  obtain ⟨x0, x1, x2, x3, x4, x5⟩ := HN7.out
  obtain ⟨y0, y1, y2, y3, y4, y5⟩ := HN9.out
  have HE2 := eqEl_any (.mk kd sp nm ats tx ks) wa.heap.size w.heap.size _ _ wb HOb.out.val.val (HPa.out.stay (fun b _ h2 => HBb.out.block b h2) HBb.out.size).val Hli.out
  go_wp2_with fail
  refine HE2.mono ?_
  rintro r w3 ⟨rfl, b3⟩
  have HN7' : Hid (SixC w3 c7 _ _ _ _ _ _) := HN7.out.keep b3
  have HN9' : Hid (SixC w3 c9 _ _ _ _ _ _) := HN9.out.keep b3
  have HO3 : Hid (ElOwn (OwnS w3 wa.heap.size n) w3 wa.heap.size (.mk kd sp nm ats tx ks) _ F) := HOb.out.keep b3
  have HB3 : Hid (Below wa.heap.size wa w3) := HBb.out.trans (b3.mono HBb.out.size)
  clear HE2 b3 HN7 HN9 HOb HBb x0 x1 x2 x3 x4 x5 y0 y1 y2 y3 y4 y5
  obtain ⟨y0, y1, y2, y3, y4, y5⟩ := HN9'.out
  have HMk := markEl_any n _ _ 1 wa.heap.size F w3 HO3.out (by rw [Hcn.out]; exact hcnb)
  rw [Hcn.out] at HMk
  go_wp2_with fail
  refine HMk.mono ?_
  rintro r w4 ⟨rfl, hown4, hkb4⟩
  have HN7 : Hid (SixC w4 c7 _ _ _ _ _ _) := HN7'.out.kb hkb4 (fun h => by have := (HFo.out _ h).1; omega)
  have HN9 : Hid (SixC w4 c9 _ _ _ _ _ _) := HN9'.out.kb hkb4 (fun h => by have := (HFo.out _ h).2; omega)
  have HO4 : Hid (ElOwn (OwnS w4 wa.heap.size n) w4 wa.heap.size (mkOne (.mk kd sp nm ats tx ks) 1) _ F) := hown4
  have HB4 : Hid (Below wa.heap.size wa w4) := HB3.out.trans (hkb4.below HB3.out.size (fun b hb => (HFo.out b hb).1))
  clear HMk hown4 hkb4 HO3 HB3 HN7' HN9' y0 y1 y2 y3 y4 y5
  obtain ⟨y0, y1, y2, y3, y4, y5⟩ := HN9.out
  have HH4 := heldEl_any n _ _ 1 wa.heap.size F w4 HO4.out (by rw [Hcn.out]; exact hcnb)
  rw [Hcn.out] at HH4
  have gq : ¬ ((1 + cn : Nat) : Int) < 0 := by omega
  have gq' : decide (((1 + cn : Nat) : Int) < 0) = false := decide_eq_false gq
  have gqq : (((1 + cn : Nat) : Int) != ((1 + cn : Nat) : Int)) = false := by simp
  obtain ⟨q, Hq⟩ : ∃ q, Hid (((1 + cn : Nat) : Int) = q) := ⟨_, rfl⟩
  rw [Hq.out] at HH4 gq gq' gqq ⊢
  go_wp2_with fail
  refine HH4.mono ?_
  rintro r w5 ⟨rfl, b5⟩
  have HN7' : Hid (SixC w5 c7 _ _ _ _ _ _) := HN7.out.keep b5
  have HN9' : Hid (SixC w5 c9 _ _ _ _ _ _) := HN9.out.keep b5
  have HO5 : Hid (ElOwn (OwnS w5 wa.heap.size n) w5 wa.heap.size (mkOne (.mk kd sp nm ats tx ks) 1) _ F) := HO4.out.keep b5
  have HB5 : Hid (Below wa.heap.size wa w5) := HB4.out.trans (b5.mono HB4.out.size)
  have HT5 := Hk.out _ _ HT.out (HBa.out.trans (HB5.out.mono HBa.out.size))
  clear HH4 b5 HO4 HB4 HN7 HN9 y0 y1 y2 y3 y4 y5
  go_wp2_with fail
  refine (HI.out w5 HT5).mono ?_
  intro r w6 hro
  obtain ⟨b6, v6, n6, F6, rfl, hown6, hF6⟩ := (Hro.out _ _ _).1 hro
  have HO6 : Hid (ElOwn (OwnS w6 w5.heap.size n6) w6 w5.heap.size (.mk kd sp nm ats tx ks) v6 F6) := hown6
  obtain ⟨av, kv, _, ev, hat, _, hks, _⟩ := hown6
  obtain ⟨ha, hc, eav, _⟩ := attrs_of_own hat
  obtain ⟨hk, hkc, ekv, _⟩ := OwnS.kids n6 hks
  subst eav
  subst ekv
  subst ev
  have bC := (Below.refl w6.heap.size w6).alloc (Nat.le_refl _) (.cells #[.int .i64 kd, .int .i64 sp, .string nm, .slice ha ats.length hc, .string tx, .slice hk ks.length hkc] 25)
  have b6' : Below w5.heap.size w5 (w6.alloc (.cells #[.int .i64 kd, .int .i64 sp, .string nm, .slice ha ats.length hc, .string tx, .slice hk ks.length hkc] 25)) := b6.trans (bC.mono b6.size)
  have HN7 : Hid (SixC _ c7 _ _ _ _ _ _) := HN7'.out.keep b6'
  have HN9 : Hid (SixC _ c9 _ _ _ _ _ _) := HN9'.out.keep b6'
  have HNd : Hid (SixC (w6.alloc (.cells #[.int .i64 kd, .int .i64 sp, .string nm, .slice ha ats.length hc, .string tx, .slice hk ks.length hkc] 25)) w6.heap.size _ _ _ _ _ _) := SixC.new w6 (.int .i64 kd) (.int .i64 sp) (.string nm) (.slice ha ats.length hc) (.string tx) (.slice hk ks.length hkc) 25
  have HOd : Hid (ElOwn (OwnS _ w5.heap.size n6) _ w5.heap.size (.mk kd sp nm ats tx ks) _ F6) := HO6.out.keep bC
  have HOg : Hid (ElOwn (OwnS _ wa.heap.size n) _ wa.heap.size (mkOne (.mk kd sp nm ats tx ks) 1) _ F) := HO5.out.keep b6'
  have HBd : Hid (Below wa.heap.size wa (w6.alloc (.cells #[.int .i64 kd, .int .i64 sp, .string nm, .slice ha ats.length hc, .string tx, .slice hk ks.length hkc] 25))) := HB5.out.trans (b6'.mono HB5.out.size)
  clear hro hat hks b6 bC b6' HO6 HO5 HB5 HT5 hF6 HN7' HN9'
  go_upto_region 16 with fail
  generalize w6.heap.size = cd at *
  generalize w6.alloc (.cells #[.int .i64 kd, .int .i64 sp, .string nm, .slice ha ats.length hc, .string tx, .slice hk ks.length hkc] 25) = wd at *
  obtain ⟨x0, x1, x2, x3, x4, x5⟩ := HN7.out
  obtain ⟨y0, y1, y2, y3, y4, y5⟩ := HNd.out
  have HE6 := eqEl_any (.mk kd sp nm ats tx ks) w5.heap.size w.heap.size _ _ wd HOd.out.val.val (HPa.out.stay (fun b _ h2 => HBd.out.block b h2) HBd.out.size).val Hli.out
  go_wp2_with fail
  refine HE6.mono ?_
  rintro r w7 ⟨rfl, b7⟩
  have HN9' : Hid (SixC w7 c9 _ _ _ _ _ _) := HN9.out.keep b7
  have HO7 : Hid (ElOwn (OwnS w7 wa.heap.size n) w7 wa.heap.size (mkOne (.mk kd sp nm ats tx ks) 1) _ F) := HOg.out.keep b7
  have HB7 : Hid (Below wa.heap.size wa w7) := HBd.out.trans (b7.mono HBd.out.size)
  clear HE6 b7 HN7 HN9 HNd HOd HOg HBd x0 x1 x2 x3 x4 x5 y0 y1 y2 y3 y4 y5
  obtain ⟨y0, y1, y2, y3, y4, y5⟩ := HN9'.out
  have HH7 := heldEl_any n _ _ 1 wa.heap.size F w7 HO7.out (by rw [Hcn.out]; exact hcnb)
  rw [Hcn.out, Hq.out] at HH7
  go_wp2_with fail
  refine HH7.mono ?_
  rintro r w8 ⟨rfl, b8⟩
  have HB8 : Hid (Below w.heap.size w w8) := HBa.out.trans ((HB7.out.trans (b8.mono HB7.out.size)).mono HBa.out.size)
  clear HH7 b8 HO7 HB7 HN9' y0 y1 y2 y3 y4 y5
  go_wp2_with fail
  go_ret
  exact ⟨rfl, HB8.out⟩

end Go.Proofs.YtbmmghkieolpkaaGreatDoor.Sg
