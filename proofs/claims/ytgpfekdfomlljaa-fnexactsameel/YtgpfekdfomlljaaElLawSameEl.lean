/- The law of SameEl, out of the program's contract. Written by mk_elsamelaw.py. -/
import Derived.Test.YtgpfekdfomlljaaElLw
import Derived.Test.YtgpfekdfomlljaaElSame
import Derived.Deep.RegionHeld3
import Derived.Deep.Cut
import Derived.Deep.CutRange
import Derived.Deep.DeepCutAuto
import Derived.Deep.RegionWith
namespace Go.Proofs.Ytgpfekdfomlljaa.Sg
open Go.ChangeShapes Go.WideShapes Go.ChangeAt Go.RowKit

set_option maxRecDepth 20000 in
set_option maxHeartbeats 16000000 in
theorem lawSameEl (e1 e2 : ElB) (v1 v2 : Value) (w : World) (T : World → Prop) (hTb : ∀ w w' : World, T w → Below w.heap.size w w' → T w') (hT : T w) (h1 : ElV SlAttrsIn anyB w v1 e1) (hh1 : ElHeld e1) (h2 : ElV SlAttrsIn anyB w v2 e2) (hh2 : ElHeld e2)
    (hI : elW e1 ≤ 1048576 → elW e2 ≤ 1048576 → ∀ W lo x y, ElV (QA lo) (lo ≤ ·) W x e1 → ElV (QA lo) (lo ≤ ·) W y e2 → T W → Calls Try.prog 14 #[x, y] W fun r w' => r = .returned (.bool (sameE e1 e2)) ∧ Below W.heap.size W w') :
    Calls Try.prog 5 #[v1, v2] w fun r w' => r = .returned (.bool true) ∧ Below w.heap.size w w' := by
  obtain ⟨kd1, sp1, nm1, ats1, tx1, ks1⟩ := e1
  obtain ⟨kd2, sp2, nm2, ats2, tx2, ks2⟩ := e2
  have HTw : Hid (T w) := hT
  have HTb : Hid (∀ w w' : World, T w → Below w.heap.size w w' → T w') := hTb
  have Hv1 : Hid (ElV SlAttrsIn anyB w v1 (.mk kd1 sp1 nm1 ats1 tx1 ks1)) := h1
  have Hv2 : Hid (ElV SlAttrsIn anyB w v2 (.mk kd2 sp2 nm2 ats2 tx2 ks2)) := h2
  have Hz1 : Hid (∀ W, Below w.heap.size w W → Calls Try.prog 6 #[v1, .int .i64 1048576] W fun r w' => r = .returned (.int .i64 (leftZ 1048576 (elW (.mk kd1 sp1 nm1 ats1 tx1 ks1)))) ∧ Below W.heap.size W w') := fun W hW => szEl_any _ v1 1048576 W (Hv1.out.keep lies_in hW) hh1 (by decide) (by decide)
  have Hz2 : Hid (∀ (left : Int) W, 0 ≤ left → left ≤ 1048576 → Below w.heap.size w W → Calls Try.prog 6 #[v2, .int .i64 left] W fun r w' => r = .returned (.int .i64 (leftZ left (elW (.mk kd2 sp2 nm2 ats2 tx2 ks2)))) ∧ Below W.heap.size W w') := fun left W h0 h1 hW => szEl_any _ v2 left W (Hv2.out.keep lies_in hW) hh2 h0 h1
  obtain ⟨av1, ka1, kc1, rfl, ⟨xa1, xc1, rfl, _⟩, _⟩ := h1
  obtain ⟨av2, ka2, kc2, rfl, ⟨xa2, xc2, rfl, _⟩, _⟩ := h2
  clear hT hTb hh1 hh2
  have eA : (w.alloc (.cells #[.int .i64 kd1, .int .i64 sp1, .string nm1, .slice xa1 ats1.length xc1, .string tx1, .slice ka1 ks1.length kc1] 25)).heap.size = w.heap.size + 1 := by simp
  have eB : ((w.alloc (.cells #[.int .i64 kd1, .int .i64 sp1, .string nm1, .slice xa1 ats1.length xc1, .string tx1, .slice ka1 ks1.length kc1] 25)).alloc (.cells #[.int .i64 kd2, .int .i64 sp2, .string nm2, .slice xa2 ats2.length xc2, .string tx2, .slice ka2 ks2.length kc2] 25)).heap.size = w.heap.size + 1 + 1 := by simp
  have bB : Below w.heap.size w ((w.alloc (.cells #[.int .i64 kd1, .int .i64 sp1, .string nm1, .slice xa1 ats1.length xc1, .string tx1, .slice ka1 ks1.length kc1] 25)).alloc (.cells #[.int .i64 kd2, .int .i64 sp2, .string nm2, .slice xa2 ats2.length xc2, .string tx2, .slice ka2 ks2.length kc2] 25)) := ((Below.refl _ _).alloc (Nat.le_refl _) _).alloc (by simp) _
  have Fa0 : Many 6 ((w.alloc (.cells #[.int .i64 kd1, .int .i64 sp1, .string nm1, .slice xa1 ats1.length xc1, .string tx1, .slice ka1 ks1.length kc1] 25)).alloc (.cells #[.int .i64 kd2, .int .i64 sp2, .string nm2, .slice xa2 ats2.length xc2, .string tx2, .slice ka2 ks2.length kc2] 25)) w.heap.size (fun i => [Value.int .i64 kd1, .int .i64 sp1, .string nm1, .slice xa1 ats1.length xc1, .string tx1, .slice ka1 ks1.length kc1].getD i undef) :=
    (Many.new w [Value.int .i64 kd1, .int .i64 sp1, .string nm1, .slice xa1 ats1.length xc1, .string tx1, .slice ka1 ks1.length kc1] 25 undef).below (B := w.heap.size + 1) (Nat.lt_succ_self _) ((Below.refl _ _).alloc (by rw [eA]; exact Nat.le_refl _) _)
  have Fb0 : Many 6 ((w.alloc (.cells #[.int .i64 kd1, .int .i64 sp1, .string nm1, .slice xa1 ats1.length xc1, .string tx1, .slice ka1 ks1.length kc1] 25)).alloc (.cells #[.int .i64 kd2, .int .i64 sp2, .string nm2, .slice xa2 ats2.length xc2, .string tx2, .slice ka2 ks2.length kc2] 25)) (w.heap.size + 1) (fun i => [Value.int .i64 kd2, .int .i64 sp2, .string nm2, .slice xa2 ats2.length xc2, .string tx2, .slice ka2 ks2.length kc2].getD i undef) := by
    have h := Many.new (w.alloc (.cells #[.int .i64 kd1, .int .i64 sp1, .string nm1, .slice xa1 ats1.length xc1, .string tx1, .slice ka1 ks1.length kc1] 25)) [Value.int .i64 kd2, .int .i64 sp2, .string nm2, .slice xa2 ats2.length xc2, .string tx2, .slice ka2 ks2.length kc2] 25 undef
    rw [eA] at h
    exact h
  by_cases hb1 : elW (.mk kd1 sp1 nm1 ats1 tx1 ks1) ≤ 1048576
  rotate_left
  · rw [left_no hb1] at Hz1
    clear hI Fa0 Fb0 Hz2
    go_enter Try.func5, Try.ntmps5
    go_wp2_with fail
    refine (Hz1.out _ bB).mono ?_
    rintro r w1 ⟨rfl, b1⟩
    have HB1 : Hid (Below w.heap.size w w1) := below_behind bB b1
    clear b1 bB
    go_wp2_with fail
    go_ret
    exact ⟨rfl, HB1.out⟩
  rw [left_yes hb1] at Hz1
  have g1 : ¬ (1048576 - (elW (.mk kd1 sp1 nm1 ats1 tx1 ks1) : Int)) < 0 := by omega
  have g1' : decide ((1048576 - (elW (.mk kd1 sp1 nm1 ats1 tx1 ks1) : Int)) < 0) = false := decide_eq_false g1
  have hl0 : 0 ≤ (1048576 - (elW (.mk kd1 sp1 nm1 ats1 tx1 ks1) : Int)) := by omega
  have hl1 : (1048576 - (elW (.mk kd1 sp1 nm1 ats1 tx1 ks1) : Int)) ≤ 1048576 := by omega
  by_cases hb2 : (elW (.mk kd2 sp2 nm2 ats2 tx2 ks2) : Int) ≤ 1048576 - (elW (.mk kd1 sp1 nm1 ats1 tx1 ks1) : Int)
  rotate_left
  · have hz : leftZ (1048576 - (elW (.mk kd1 sp1 nm1 ats1 tx1 ks1) : Int)) (elW (.mk kd2 sp2 nm2 ats2 tx2 ks2)) = -1 := by unfold leftZ; rw [if_neg hb2]
    have Hz2' := fun W h => Hz2.out _ W hl0 hl1 h
    rw [hz] at Hz2'
    clear hI Hz2 hz hb2
    generalize (1048576 - (elW (.mk kd1 sp1 nm1 ats1 tx1 ks1) : Int)) = left at *
    have Fb0' := Fb0
    go_enter Try.func5, Try.ntmps5
    go_wp2_with fail
    refine (Hz1.out _ bB).mono ?_
    rintro r w1 ⟨rfl, b1⟩
    obtain ⟨p0, p1, p2, p3, p4, p5⟩ := (Fb0.kept b1).six
    have HB1 : Hid (Below w.heap.size w w1) := below_behind bB b1
    clear b1 bB Fa0 Fb0 Fb0'
    go_wp2_with fail
    refine (Hz2' _ HB1.out).mono ?_
    rintro r w2 ⟨rfl, b2⟩
    have HB2 : Hid (Below w.heap.size w w2) := below_behind HB1.out b2
    clear b2 HB1 p0 p1 p2 p3 p4 p5
    go_wp2_with fail
    go_ret
    exact ⟨rfl, HB2.out⟩
  have hb2' : elW (.mk kd2 sp2 nm2 ats2 tx2 ks2) ≤ 1048576 := by omega
  have hz : leftZ (1048576 - (elW (.mk kd1 sp1 nm1 ats1 tx1 ks1) : Int)) (elW (.mk kd2 sp2 nm2 ats2 tx2 ks2)) = 1048576 - (elW (.mk kd1 sp1 nm1 ats1 tx1 ks1) : Int) - (elW (.mk kd2 sp2 nm2 ats2 tx2 ks2) : Int) := by unfold leftZ; rw [if_pos hb2]
  have Hz2' : Hid (∀ W, Below w.heap.size w W → _) := fun W h => Hz2.out _ W hl0 hl1 h
  rw [hz] at Hz2'
  have g2 : ¬ (1048576 - (elW (.mk kd1 sp1 nm1 ats1 tx1 ks1) : Int) - (elW (.mk kd2 sp2 nm2 ats2 tx2 ks2) : Int)) < 0 := by omega
  have g2' : decide ((1048576 - (elW (.mk kd1 sp1 nm1 ats1 tx1 ks1) : Int) - (elW (.mk kd2 sp2 nm2 ats2 tx2 ks2) : Int)) < 0) = false := decide_eq_false g2
  have Hsz1 : Hid (ElLight (.mk kd1 sp1 nm1 ats1 tx1 ks1)) := el_light _ (Nat.le_trans hb1 (by decide))
  have Hsz2 : Hid (ElLight (.mk kd2 sp2 nm2 ats2 tx2 ks2)) := el_light _ (Nat.le_trans hb2' (by decide))
  have Hto1 : Hid (∀ W, Below w.heap.size w W → Calls Try.prog 8 #[.agg #[.int .i64 kd1, .int .i64 sp1, .string nm1, .slice xa1 ats1.length xc1, .string tx1, .slice ka1 ks1.length kc1]] W fun r w' => ∃ ya yc ja jc, r = .returned (.agg #[.int .i64 kd1, .int .i64 sp1, .string nm1, .slice ya ats1.length yc, .string tx1, .slice ja ks1.length jc]) ∧ ElV (QA w.heap.size) (w.heap.size ≤ ·) w' (.agg #[.int .i64 kd1, .int .i64 sp1, .string nm1, .slice ya ats1.length yc, .string tx1, .slice ja ks1.length jc]) (.mk kd1 sp1 nm1 ats1 tx1 ks1) ∧ Below W.heap.size W w') := fun W hW => (toEl_any _ _ W (Hv1.out.keep lies_in hW) Hsz1.out).mono fun r w' ⟨v', h1, h2, h3⟩ => by
    have h2' := h2.wider (Q' := QA w.heap.size) (P' := (w.heap.size ≤ ·)) (fun v l hq => hq.wider hW.size) (fun b hb => Nat.le_trans hW.size hb)
    obtain ⟨av', ja, jc, rfl, ⟨b, c, rfl, _⟩, _⟩ := h2
    exact ⟨_, _, _, _, h1, h2', h3⟩
  have He1 : Hid (∀ W x y, ElV (QA w.heap.size) (w.heap.size ≤ ·) W x (.mk kd1 sp1 nm1 ats1 tx1 ks1) → ElV (QA w.heap.size) (w.heap.size ≤ ·) W y (.mk kd1 sp1 nm1 ats1 tx1 ks1) → Calls Try.prog 10 #[x, y] W fun r w' => r = .returned (.bool true) ∧ Below W.heap.size W w') := fun W x y hx hy => eqEl_any _ _ _ x y W hx hy Hsz1.out
  have Hto2 : Hid (∀ W, Below w.heap.size w W → Calls Try.prog 8 #[.agg #[.int .i64 kd2, .int .i64 sp2, .string nm2, .slice xa2 ats2.length xc2, .string tx2, .slice ka2 ks2.length kc2]] W fun r w' => ∃ ya yc ja jc, r = .returned (.agg #[.int .i64 kd2, .int .i64 sp2, .string nm2, .slice ya ats2.length yc, .string tx2, .slice ja ks2.length jc]) ∧ ElV (QA w.heap.size) (w.heap.size ≤ ·) w' (.agg #[.int .i64 kd2, .int .i64 sp2, .string nm2, .slice ya ats2.length yc, .string tx2, .slice ja ks2.length jc]) (.mk kd2 sp2 nm2 ats2 tx2 ks2) ∧ Below W.heap.size W w') := fun W hW => (toEl_any _ _ W (Hv2.out.keep lies_in hW) Hsz2.out).mono fun r w' ⟨v', h1, h2, h3⟩ => by
    have h2' := h2.wider (Q' := QA w.heap.size) (P' := (w.heap.size ≤ ·)) (fun v l hq => hq.wider hW.size) (fun b hb => Nat.le_trans hW.size hb)
    obtain ⟨av', ja, jc, rfl, ⟨b, c, rfl, _⟩, _⟩ := h2
    exact ⟨_, _, _, _, h1, h2', h3⟩
  have He2 : Hid (∀ W x y, ElV (QA w.heap.size) (w.heap.size ≤ ·) W x (.mk kd2 sp2 nm2 ats2 tx2 ks2) → ElV (QA w.heap.size) (w.heap.size ≤ ·) W y (.mk kd2 sp2 nm2 ats2 tx2 ks2) → Calls Try.prog 10 #[x, y] W fun r w' => r = .returned (.bool true) ∧ Below W.heap.size W w') := fun W x y hx hy => eqEl_any _ _ _ x y W hx hy Hsz2.out
  have Hs : Hid (∀ W x y, ElV (QA w.heap.size) (w.heap.size ≤ ·) W x (.mk kd1 sp1 nm1 ats1 tx1 ks1) → ElV (QA w.heap.size) (w.heap.size ≤ ·) W y (.mk kd2 sp2 nm2 ats2 tx2 ks2) → Calls Try.prog 13 #[x, y] W fun r w' => r = .returned (.bool (sameE (.mk kd1 sp1 nm1 ats1 tx1 ks1) (.mk kd2 sp2 nm2 ats2 tx2 ks2))) ∧ Below W.heap.size W w') := fun W x y hx hy => specSameEl _ _ _ _ x y W hx hy Hsz1.out Hsz2.out
  have Hi : Hid (∀ W x y, ElV (QA w.heap.size) (w.heap.size ≤ ·) W x (.mk kd1 sp1 nm1 ats1 tx1 ks1) → ElV (QA w.heap.size) (w.heap.size ≤ ·) W y (.mk kd2 sp2 nm2 ats2 tx2 ks2) → T W → Calls Try.prog 14 #[x, y] W fun r w' => r = .returned (.bool (sameE (.mk kd1 sp1 nm1 ats1 tx1 ks1) (.mk kd2 sp2 nm2 ats2 tx2 ks2))) ∧ Below W.heap.size W w') := fun W x y hx hy hT => hI hb1 hb2' W _ x y hx hy hT
  clear hI Hz2 hz hl0 hl1
  generalize sameE (.mk kd1 sp1 nm1 ats1 tx1 ks1) (.mk kd2 sp2 nm2 ats2 tx2 ks2) = R at *
  have gV : (R != R) = false := by simp
  generalize (1048576 - (elW (.mk kd1 sp1 nm1 ats1 tx1 ks1) : Int)) = left at *
  generalize (left - (elW (.mk kd2 sp2 nm2 ats2 tx2 ks2) : Int)) = left2 at *
  clear Hsz1 Hsz2 Hv1 Hv2 hb1 hb2 hb2'
  go_enter Try.func5, Try.ntmps5
  go_wp2_with fail
  refine (Hz1.out _ bB).mono ?_
  rintro r w1 ⟨rfl, b1⟩
  have Fa1 := Fa0.kept b1
  have Fb1 := Fb0.kept b1
  have HB1 : Hid (Below w.heap.size w w1) := below_behind bB b1
  clear b1 bB Fa0 Fb0 Hz1 eA eB
  obtain ⟨p0, p1, p2, p3, p4, p5⟩ := Fb1.six
  go_wp2_with fail
  refine (Hz2'.out _ HB1.out).mono ?_
  rintro r w2 ⟨rfl, b2⟩
  have Fa2 := Fa1.kept b2
  have Fb2 := Fb1.kept b2
  have B2 : Below w.heap.size w w2 := below_behind HB1.out b2
  clear b2 HB1 Fa1 Fb1 Hz2' p0 p1 p2 p3 p4 p5
  obtain ⟨q0, q1, q2, q3, q4, q5⟩ := Fa2.six
  obtain ⟨p0, p1, p2, p3, p4, p5⟩ := Fb2.six
  have HFa : Hid (Many 6 w2 w.heap.size _) := Fa2
  have HFb : Hid (Many 6 w2 (w.heap.size + 1) _) := Fb2
  clear Fa2 Fb2
  have c6 : ∀ {b o : Nat} {v : Value} {W : World}, Below w2.heap.size w2 W → w2.cell? ⟨b, o, none⟩ = some v → W.cell? ⟨b, o, none⟩ = some v := fun hb hc => keep_cell hb hc
  have Hta : Hid (∀ W, Below w2.heap.size w2 W → Calls Try.prog 8 #[.agg #[.int .i64 kd1, .int .i64 sp1, .string nm1, .slice xa1 ats1.length xc1, .string tx1, .slice ka1 ks1.length kc1]] W fun r w' => ∃ ya yc ja jc, r = .returned (.agg #[.int .i64 kd1, .int .i64 sp1, .string nm1, .slice ya ats1.length yc, .string tx1, .slice ja ks1.length jc]) ∧ ElV (QA w.heap.size) (w.heap.size ≤ ·) w' (.agg #[.int .i64 kd1, .int .i64 sp1, .string nm1, .slice ya ats1.length yc, .string tx1, .slice ja ks1.length jc]) (.mk kd1 sp1 nm1 ats1 tx1 ks1) ∧ Below w2.heap.size w2 w' ∧ Below W.heap.size W w') := fun W hW => (Hto1.out W (below_behind B2 hW)).mono fun r w' ⟨ya, yc, ja, jc, h1, h2, h3⟩ => ⟨ya, yc, ja, jc, h1, h2, below_behind hW h3, h3⟩
  have Htb : Hid (∀ W, Below w2.heap.size w2 W → Calls Try.prog 8 #[.agg #[.int .i64 kd2, .int .i64 sp2, .string nm2, .slice xa2 ats2.length xc2, .string tx2, .slice ka2 ks2.length kc2]] W fun r w' => ∃ ya yc ja jc, r = .returned (.agg #[.int .i64 kd2, .int .i64 sp2, .string nm2, .slice ya ats2.length yc, .string tx2, .slice ja ks2.length jc]) ∧ ElV (QA w.heap.size) (w.heap.size ≤ ·) w' (.agg #[.int .i64 kd2, .int .i64 sp2, .string nm2, .slice ya ats2.length yc, .string tx2, .slice ja ks2.length jc]) (.mk kd2 sp2 nm2 ats2 tx2 ks2) ∧ Below w2.heap.size w2 w' ∧ Below W.heap.size W w') := fun W hW => (Hto2.out W (below_behind B2 hW)).mono fun r w' ⟨ya, yc, ja, jc, h1, h2, h3⟩ => ⟨ya, yc, ja, jc, h1, h2, below_behind hW h3, h3⟩
  go_upto_region 8 with fail
  go_cut [6] (fun r wx => r = .bool R ∧ Below w2.heap.size w2 wx)
  case first =>
    go_region_with (first | (go_at_call 8; first | (have hbA' := hbA; refine (Htb.out _ (by first | exact hbA' | exact hbA'.drew)).mono ?_; rintro r w' ⟨za2, zc2, ia2, ic2, rfl, A62, hbB, hbC⟩; first | (have A71 := ElV.keep (QA.lies w.heap.size) hbC A61) | (have A71 := ElV.keep (QA.lies w.heap.size) hbC (ElV.drew (QA.lies w.heap.size) A61))) | (refine (Hta.out _ (by first | exact Below.refl _ _ | exact (Below.refl _ _).drew | exact (Below.refl _ _).drew.drew | exact (Below.refl _ _).drew.drew.drew)).mono ?_; rintro r w' ⟨za1, zc1, ia1, ic1, rfl, A61, hbA, hbZ⟩; have r0 := c6 hbA p0; have r1 := c6 hbA p1; have r2 := c6 hbA p2; have r3 := c6 hbA p3; have r4 := c6 hbA p4; have r5 := c6 hbA p5)) | (go_at_call 13; first | (refine (Hs.out _ _ _ A71 A62).mono ?_; rintro r w' ⟨rfl, hbD⟩) | (refine (Hs.out _ _ _ (ElV.drew (QA.lies w.heap.size) A71) (ElV.drew (QA.lies w.heap.size) A62)).mono ?_; rintro r w' ⟨rfl, hbD⟩)))
    all_goals
      go_wp2_with fail
      go_meet
      case rel => exact ⟨rfl, below_behind (by first | exact hbB | exact hbB.drew) hbD⟩
  case rest =>
    obtain ⟨rfl, b3⟩ := hcut
    have HFa3 : Hid (Many 6 _ w.heap.size _) := HFa.out.kept b3
    have HFb3 : Hid (Many 6 _ (w.heap.size + 1) _) := HFb.out.kept b3
    have HB3 : Hid (Below w.heap.size w _) := below_behind B2 b3
    clear q0 q1 q2 q3 q4 q5 p0 p1 p2 p3 p4 p5 b3 HFa HFb Hta Htb c6
    obtain ⟨q0, q1, q2, q3, q4, q5⟩ := HFa3.out.six
    go_wp2_with fail
    refine (Hto1.out _ HB3.out).mono ?_
    rintro r w4 ⟨ya1, yc1, ja1, jc1, rfl, A4, b4⟩
    have BA : Hid (Below w4.heap.size w4 (w4.alloc (.cells #[.int .i64 kd1, .int .i64 sp1, .string nm1, .slice ya1 ats1.length yc1, .string tx1, .slice ja1 ks1.length jc1] 31))) := (Below.refl _ _).alloc (Nat.le_refl _) _
    have HFa4 : Hid (Many 6 (w4.alloc (.cells #[.int .i64 kd1, .int .i64 sp1, .string nm1, .slice ya1 ats1.length yc1, .string tx1, .slice ja1 ks1.length jc1] 31)) w.heap.size _) := (HFa3.out.kept b4).kept BA.out
    have HFb4 : Hid (Many 6 (w4.alloc (.cells #[.int .i64 kd1, .int .i64 sp1, .string nm1, .slice ya1 ats1.length yc1, .string tx1, .slice ja1 ks1.length jc1] 31)) (w.heap.size + 1) _) := (HFb3.out.kept b4).kept BA.out
    have HGa4 : Hid (Many 6 (w4.alloc (.cells #[.int .i64 kd1, .int .i64 sp1, .string nm1, .slice ya1 ats1.length yc1, .string tx1, .slice ja1 ks1.length jc1] 31)) w4.heap.size (fun i => [Value.int .i64 kd1, .int .i64 sp1, .string nm1, .slice ya1 ats1.length yc1, .string tx1, .slice ja1 ks1.length jc1].getD i undef)) := Many.new w4 [Value.int .i64 kd1, .int .i64 sp1, .string nm1, .slice ya1 ats1.length yc1, .string tx1, .slice ja1 ks1.length jc1] 31 undef
    have HA4 : Hid (ElV (QA w.heap.size) (w.heap.size ≤ ·) (w4.alloc (.cells #[.int .i64 kd1, .int .i64 sp1, .string nm1, .slice ya1 ats1.length yc1, .string tx1, .slice ja1 ks1.length jc1] 31)) (.agg #[.int .i64 kd1, .int .i64 sp1, .string nm1, .slice ya1 ats1.length yc1, .string tx1, .slice ja1 ks1.length jc1]) (.mk kd1 sp1 nm1 ats1 tx1 ks1)) := A4.keep (QA.lies _) BA.out
    have HB4 : Hid (Below w.heap.size w (w4.alloc (.cells #[.int .i64 kd1, .int .i64 sp1, .string nm1, .slice ya1 ats1.length yc1, .string tx1, .slice ja1 ks1.length jc1] 31))) := below_behind (below_behind HB3.out b4) BA.out
    clear q0 q1 q2 q3 q4 q5 b4 HFa3 HFb3 HB3 A4 BA
    obtain ⟨p0, p1, p2, p3, p4, p5⟩ := HFb4.out.six
    go_wp2_with fail
    refine (Hto2.out _ HB4.out).mono ?_
    rintro r w5 ⟨ya2, yc2, ja2, jc2, rfl, A5, b5⟩
    have BB : Hid (Below w5.heap.size w5 (w5.alloc (.cells #[.int .i64 kd2, .int .i64 sp2, .string nm2, .slice ya2 ats2.length yc2, .string tx2, .slice ja2 ks2.length jc2] 31))) := (Below.refl _ _).alloc (Nat.le_refl _) _
    have HFa5 : Hid (Many 6 (w5.alloc (.cells #[.int .i64 kd2, .int .i64 sp2, .string nm2, .slice ya2 ats2.length yc2, .string tx2, .slice ja2 ks2.length jc2] 31)) w.heap.size _) := (HFa4.out.kept b5).kept BB.out
    have HFb5 : Hid (Many 6 (w5.alloc (.cells #[.int .i64 kd2, .int .i64 sp2, .string nm2, .slice ya2 ats2.length yc2, .string tx2, .slice ja2 ks2.length jc2] 31)) (w.heap.size + 1) _) := (HFb4.out.kept b5).kept BB.out
    have HGa5 : Hid (Many 6 (w5.alloc (.cells #[.int .i64 kd2, .int .i64 sp2, .string nm2, .slice ya2 ats2.length yc2, .string tx2, .slice ja2 ks2.length jc2] 31)) w4.heap.size _) := (HGa4.out.kept b5).kept BB.out
    have HGb5 : Hid (Many 6 (w5.alloc (.cells #[.int .i64 kd2, .int .i64 sp2, .string nm2, .slice ya2 ats2.length yc2, .string tx2, .slice ja2 ks2.length jc2] 31)) w5.heap.size (fun i => [Value.int .i64 kd2, .int .i64 sp2, .string nm2, .slice ya2 ats2.length yc2, .string tx2, .slice ja2 ks2.length jc2].getD i undef)) := Many.new w5 [Value.int .i64 kd2, .int .i64 sp2, .string nm2, .slice ya2 ats2.length yc2, .string tx2, .slice ja2 ks2.length jc2] 31 undef
    have HA5 : Hid (ElV (QA w.heap.size) (w.heap.size ≤ ·) (w5.alloc (.cells #[.int .i64 kd2, .int .i64 sp2, .string nm2, .slice ya2 ats2.length yc2, .string tx2, .slice ja2 ks2.length jc2] 31)) (.agg #[.int .i64 kd1, .int .i64 sp1, .string nm1, .slice ya1 ats1.length yc1, .string tx1, .slice ja1 ks1.length jc1]) (.mk kd1 sp1 nm1 ats1 tx1 ks1)) := (HA4.out.keep (QA.lies _) b5).keep (QA.lies _) BB.out
    have HC5 : Hid (ElV (QA w.heap.size) (w.heap.size ≤ ·) (w5.alloc (.cells #[.int .i64 kd2, .int .i64 sp2, .string nm2, .slice ya2 ats2.length yc2, .string tx2, .slice ja2 ks2.length jc2] 31)) (.agg #[.int .i64 kd2, .int .i64 sp2, .string nm2, .slice ya2 ats2.length yc2, .string tx2, .slice ja2 ks2.length jc2]) (.mk kd2 sp2 nm2 ats2 tx2 ks2)) := A5.keep (QA.lies _) BB.out
    have HB5 : Hid (Below w.heap.size w (w5.alloc (.cells #[.int .i64 kd2, .int .i64 sp2, .string nm2, .slice ya2 ats2.length yc2, .string tx2, .slice ja2 ks2.length jc2] 31))) := below_behind (below_behind HB4.out b5) BB.out
    clear p0 p1 p2 p3 p4 p5 b5 HFa4 HFb4 HGa4 HA4 HB4 A5 BB
    obtain ⟨q0, q1, q2, q3, q4, q5⟩ := HGa5.out.six
    obtain ⟨p0, p1, p2, p3, p4, p5⟩ := HGb5.out.six
    go_wp2_with fail
    refine (Hi.out _ _ _ HA5.out HC5.out (HTb.out _ _ HTw.out HB5.out)).mono ?_
    rintro r w6 ⟨rfl, b6⟩
    have HFa6 : Hid (Many 6 w6 w.heap.size _) := HFa5.out.kept b6
    have HFb6 : Hid (Many 6 w6 (w.heap.size + 1) _) := HFb5.out.kept b6
    have HGa6 : Hid (Many 6 w6 w4.heap.size _) := HGa5.out.kept b6
    have HGb6 : Hid (Many 6 w6 w5.heap.size _) := HGb5.out.kept b6
    have HA6 : Hid (ElV (QA w.heap.size) (w.heap.size ≤ ·) w6 (.agg #[.int .i64 kd1, .int .i64 sp1, .string nm1, .slice ya1 ats1.length yc1, .string tx1, .slice ja1 ks1.length jc1]) (.mk kd1 sp1 nm1 ats1 tx1 ks1)) := HA5.out.keep (QA.lies _) b6
    have HC6 : Hid (ElV (QA w.heap.size) (w.heap.size ≤ ·) w6 (.agg #[.int .i64 kd2, .int .i64 sp2, .string nm2, .slice ya2 ats2.length yc2, .string tx2, .slice ja2 ks2.length jc2]) (.mk kd2 sp2 nm2 ats2 tx2 ks2)) := HC5.out.keep (QA.lies _) b6
    have B6 : Below w.heap.size w w6 := below_behind HB5.out b6
    clear q0 q1 q2 q3 q4 q5 p0 p1 p2 p3 p4 p5 b6 HFa5 HFb5 HGa5 HGb5 HA5 HC5 HB5 Hi Hs HTb HTw
    generalize w4.heap.size = c4 at *
    generalize w5.heap.size = c5 at *
    have c6 : ∀ {b o : Nat} {v : Value} {W : World}, Below w6.heap.size w6 W → w6.cell? ⟨b, o, none⟩ = some v → W.cell? ⟨b, o, none⟩ = some v := fun hb hc => keep_cell hb hc
    have Hta : Hid (∀ W, Below w6.heap.size w6 W → Calls Try.prog 8 #[.agg #[.int .i64 kd1, .int .i64 sp1, .string nm1, .slice xa1 ats1.length xc1, .string tx1, .slice ka1 ks1.length kc1]] W fun r w' => ∃ ya yc ja jc, r = .returned (.agg #[.int .i64 kd1, .int .i64 sp1, .string nm1, .slice ya ats1.length yc, .string tx1, .slice ja ks1.length jc]) ∧ ElV (QA w.heap.size) (w.heap.size ≤ ·) w' (.agg #[.int .i64 kd1, .int .i64 sp1, .string nm1, .slice ya ats1.length yc, .string tx1, .slice ja ks1.length jc]) (.mk kd1 sp1 nm1 ats1 tx1 ks1) ∧ ElV (QA w.heap.size) (w.heap.size ≤ ·) w' (.agg #[.int .i64 kd1, .int .i64 sp1, .string nm1, .slice ya1 ats1.length yc1, .string tx1, .slice ja1 ks1.length jc1]) (.mk kd1 sp1 nm1 ats1 tx1 ks1) ∧ Below w6.heap.size w6 w') := fun W hW => (Hto1.out W (below_behind B6 hW)).mono fun r w' ⟨ya, yc, ja, jc, h1, h2, h3⟩ => ⟨ya, yc, ja, jc, h1, h2, HA6.out.keep (QA.lies _) (below_behind hW h3), below_behind hW h3⟩
    obtain ⟨q0, q1, q2, q3, q4, q5⟩ := HFa6.out.six
    obtain ⟨p0, p1, p2, p3, p4, p5⟩ := HGa6.out.six
    go_upto_region 14 with fail
    go_cut [39] (fun r wx => r = .bool false ∧ ∃ W : World, W = wx ∧ Below w6.heap.size w6 W)
    case first =>
      go_region_with (first | (go_at_call 8; refine (Hta.out _ (by first | exact Below.refl _ _ | exact (Below.refl _ _).drew | exact (Below.refl _ _).drew.drew | exact (Below.refl _ _).drew.drew.drew)).mono ?_; rintro r w' ⟨za1, zc1, ia1, ic1, rfl, A61, A71, hbA⟩; have r0 := c6 hbA p0; have r1 := c6 hbA p1; have r2 := c6 hbA p2; have r3 := c6 hbA p3; have r4 := c6 hbA p4; have r5 := c6 hbA p5) | (go_at_call 10; first | (refine (He1.out _ _ _ A71 A61).mono ?_; rintro r w' ⟨rfl, hbD⟩) | (refine (He1.out _ _ _ (ElV.drew (QA.lies w.heap.size) A71) (ElV.drew (QA.lies w.heap.size) A61)).mono ?_; rintro r w' ⟨rfl, hbD⟩)))
      all_goals
        go_wp2_with fail
        go_meet
        case rel => exact ⟨rfl, _, rfl, below_behind (by first | exact hbA | exact hbA.drew) hbD⟩
    case rest =>
      obtain ⟨rfl, w7, rfl, b7⟩ := hcut
      have HGb7 : Hid (Many 6 w7 c5 _) := HGb6.out.kept b7
      have HFb7 : Hid (Many 6 w7 (w.heap.size + 1) _) := HFb6.out.kept b7
      have HC7 : Hid (ElV (QA w.heap.size) (w.heap.size ≤ ·) w7 (.agg #[.int .i64 kd2, .int .i64 sp2, .string nm2, .slice ya2 ats2.length yc2, .string tx2, .slice ja2 ks2.length jc2]) (.mk kd2 sp2 nm2 ats2 tx2 ks2)) := HC6.out.keep (QA.lies _) b7
      have B7 : Below w.heap.size w w7 := below_behind B6 b7
      clear q0 q1 q2 q3 q4 q5 p0 p1 p2 p3 p4 p5 b7 HFa6 HFb6 HGa6 HGb6 HA6 HC6 B6 Hta c6 He1 Hto1
      have c7 : ∀ {b o : Nat} {v : Value} {W : World}, Below w7.heap.size w7 W → w7.cell? ⟨b, o, none⟩ = some v → W.cell? ⟨b, o, none⟩ = some v := fun hb hc => keep_cell hb hc
      have Htb : Hid (∀ W, Below w7.heap.size w7 W → Calls Try.prog 8 #[.agg #[.int .i64 kd2, .int .i64 sp2, .string nm2, .slice xa2 ats2.length xc2, .string tx2, .slice ka2 ks2.length kc2]] W fun r w' => ∃ ya yc ja jc, r = .returned (.agg #[.int .i64 kd2, .int .i64 sp2, .string nm2, .slice ya ats2.length yc, .string tx2, .slice ja ks2.length jc]) ∧ ElV (QA w.heap.size) (w.heap.size ≤ ·) w' (.agg #[.int .i64 kd2, .int .i64 sp2, .string nm2, .slice ya ats2.length yc, .string tx2, .slice ja ks2.length jc]) (.mk kd2 sp2 nm2 ats2 tx2 ks2) ∧ ElV (QA w.heap.size) (w.heap.size ≤ ·) w' (.agg #[.int .i64 kd2, .int .i64 sp2, .string nm2, .slice ya2 ats2.length yc2, .string tx2, .slice ja2 ks2.length jc2]) (.mk kd2 sp2 nm2 ats2 tx2 ks2) ∧ Below w7.heap.size w7 w') := fun W hW => (Hto2.out W (below_behind B7 hW)).mono fun r w' ⟨ya, yc, ja, jc, h1, h2, h3⟩ => ⟨ya, yc, ja, jc, h1, h2, HC7.out.keep (QA.lies _) (below_behind hW h3), below_behind hW h3⟩
      obtain ⟨q0, q1, q2, q3, q4, q5⟩ := HFb7.out.six
      obtain ⟨p0, p1, p2, p3, p4, p5⟩ := HGb7.out.six
      go_upto_region 16 with fail
      go_cut [44] (fun r wx => r = .bool false ∧ Below w7.heap.size w7 wx)
      case first =>
        go_region_with (first | (go_at_call 8; refine (Htb.out _ (by first | exact Below.refl _ _ | exact (Below.refl _ _).drew | exact (Below.refl _ _).drew.drew | exact (Below.refl _ _).drew.drew.drew)).mono ?_; rintro r w' ⟨za1, zc1, ia1, ic1, rfl, A61, A71, hbA⟩; have r0 := c7 hbA p0; have r1 := c7 hbA p1; have r2 := c7 hbA p2; have r3 := c7 hbA p3; have r4 := c7 hbA p4; have r5 := c7 hbA p5) | (go_at_call 10; first | (refine (He2.out _ _ _ A71 A61).mono ?_; rintro r w' ⟨rfl, hbD⟩) | (refine (He2.out _ _ _ (ElV.drew (QA.lies w.heap.size) A71) (ElV.drew (QA.lies w.heap.size) A61)).mono ?_; rintro r w' ⟨rfl, hbD⟩)))
        all_goals
          go_wp2_with fail
          go_meet
          case rel => exact ⟨rfl, below_behind (by first | exact hbA | exact hbA.drew) hbD⟩
      case rest =>
        obtain ⟨rfl, b8⟩ := hcut
        have HB8 : Hid (Below w.heap.size w _) := below_behind B7 b8
        clear q0 q1 q2 q3 q4 q5 p0 p1 p2 p3 p4 p5 b8 HFb7 HGb7 HC7 B7 Htb c7 He2 Hto2
        go_wp2_with fail
        go_ret
        exact ⟨rfl, HB8.out⟩

end Go.Proofs.Ytgpfekdfomlljaa.Sg
