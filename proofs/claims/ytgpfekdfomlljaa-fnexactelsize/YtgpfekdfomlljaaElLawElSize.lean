/- The law of ElSize, out of the program's contract. Written by mk_ellaw.py. -/
import Derived.Test.YtgpfekdfomlljaaElLw
import Derived.Deep.RegionHeld3
import Derived.Deep.Cut
import Derived.Deep.CutRange
namespace Go.Proofs.Ytgpfekdfomlljaa.Sg
open Go.ChangeShapes Go.WideShapes Go.ChangeAt Go.RowKit

set_option maxRecDepth 20000 in
set_option maxHeartbeats 8000000 in
theorem lawElSize (e : ElB) (v : Value) (w : World) (T : World → Prop) (hTb : ∀ w w' : World, T w → Below w.heap.size w w' → T w') (hT : T w) (h : ElV SlAttrsIn anyB w v e) (hh : ElHeld e)
    (hI : elW e ≤ 1048576 → ∀ W lo x, ElV (QA lo) (lo ≤ ·) W x e → T W → Calls Try.prog 9 #[x] W fun r w' => r = .returned (.int .i64 (elN e)) ∧ Below W.heap.size W w') :
    Calls Try.prog 3 #[v] w fun r w' => r = .returned (.bool true) ∧ Below w.heap.size w w' := by
  obtain ⟨kd, sp, nm, ats, tx, ks⟩ := e
  have HTw : Hid (T w) := hT
  have HTb : Hid (∀ w w' : World, T w → Below w.heap.size w w' → T w') := hTb
  have Hv : Hid (ElV SlAttrsIn anyB w v (.mk kd sp nm ats tx ks)) := h
  have Hz : Hid (∀ W, Below w.heap.size w W → Calls Try.prog 6 #[v, .int .i64 1048576] W fun r w' => r = .returned (.int .i64 (leftZ 1048576 (elW (.mk kd sp nm ats tx ks)))) ∧ Below W.heap.size W w') := fun W hW => szEl_any _ v 1048576 W (Hv.out.keep lies_in hW) hh (by decide) (by decide)
  obtain ⟨av, ka, kc, rfl, ⟨xa, xc, rfl, _⟩, _⟩ := h
  clear hT hTb hh
  by_cases hbig : elW (.mk kd sp nm ats tx ks) ≤ 1048576
  · have Hsz : Hid (ElLight (.mk kd sp nm ats tx ks)) := el_light _ (by omega)
    have hN := elN_le (.mk kd sp nm ats tx ks)
    rw [left_yes hbig] at Hz
    have g1 : ¬ (1048576 - (elW (.mk kd sp nm ats tx ks) : Int)) < 0 := by omega
    have g1' : decide ((1048576 - (elW (.mk kd sp nm ats tx ks) : Int)) < 0) = false := decide_eq_false g1
    have Hto : Hid (∀ W, Below w.heap.size w W → Calls Try.prog 8 #[.agg #[.int .i64 kd, .int .i64 sp, .string nm, .slice xa ats.length xc, .string tx, .slice ka ks.length kc]] W fun r w' => ∃ ya yc ja jc, r = .returned (.agg #[.int .i64 kd, .int .i64 sp, .string nm, .slice ya ats.length yc, .string tx, .slice ja ks.length jc]) ∧ ElV (QA w.heap.size) (w.heap.size ≤ ·) w' (.agg #[.int .i64 kd, .int .i64 sp, .string nm, .slice ya ats.length yc, .string tx, .slice ja ks.length jc]) (.mk kd sp nm ats tx ks) ∧ Below W.heap.size W w') := fun W hW => (toEl_any _ _ W (Hv.out.keep lies_in hW) Hsz.out).mono fun r w' ⟨v', h1, h2, h3⟩ => by
      have h2' := h2.wider (Q' := QA w.heap.size) (P' := (w.heap.size ≤ ·)) (fun v l hq => hq.wider hW.size) (fun b hb => Nat.le_trans hW.size hb)
      obtain ⟨av', ja, jc, rfl, ⟨b, c, rfl, _⟩, _⟩ := h2
      exact ⟨_, _, _, _, h1, h2', h3⟩
    have Hs : Hid (∀ W x, ElV (QA w.heap.size) (w.heap.size ≤ ·) W x (.mk kd sp nm ats tx ks) → Calls Try.prog 7 #[x] W fun r w' => r = .returned (.int .i64 (elN (.mk kd sp nm ats tx ks))) ∧ Below W.heap.size W w') := fun W x hx => specElSize _ _ x W hx (by omega)
    have Hi : Hid (∀ W x, ElV (QA w.heap.size) (w.heap.size ≤ ·) W x (.mk kd sp nm ats tx ks) → T W → Calls Try.prog 9 #[x] W fun r w' => r = .returned (.int .i64 (elN (.mk kd sp nm ats tx ks))) ∧ Below W.heap.size W w') := fun W x hx hT => hI hbig W _ x hx hT
    have He : Hid (∀ W x y, ElV (QA w.heap.size) (w.heap.size ≤ ·) W x (.mk kd sp nm ats tx ks) → ElV (QA w.heap.size) (w.heap.size ≤ ·) W y (.mk kd sp nm ats tx ks) → Calls Try.prog 10 #[x, y] W fun r w' => r = .returned (.bool true) ∧ Below W.heap.size W w') := fun W x y hx hy => eqEl_any _ _ _ x y W hx hy Hsz.out
    clear hI
    generalize elN (.mk kd sp nm ats tx ks) = R at *
    have gV : ((R : Int) != (R : Int)) = false := by simp
    generalize (1048576 - (elW (.mk kd sp nm ats tx ks) : Int)) = left at *
    clear Hsz Hv hbig hN
    go_enter Try.func3, Try.ntmps3
    go_wp2_with fail
    refine (Hz.out _ ((Below.refl _ _).alloc (Nat.le_refl _) _)).mono ?_
    rintro r w1 ⟨rfl, b1⟩
    have F1 : Many 6 w1 w.heap.size (fun i => [Value.int .i64 kd, .int .i64 sp, .string nm, .slice xa ats.length xc, .string tx, .slice ka ks.length kc].getD i undef) :=
      (Many.new w [Value.int .i64 kd, .int .i64 sp, .string nm, .slice xa ats.length xc, .string tx, .slice ka ks.length kc] 25 undef).below (by simp) b1
    have HB1 : Hid (Below w.heap.size w w1) := ((Below.refl _ _).alloc (Nat.le_refl _) _).trans (b1.mono (by simp))
    clear b1 Hz
    obtain ⟨q0, q1, q2, q3, q4, q5⟩ := F1.six
    have HF1 : Hid (Many 6 w1 w.heap.size _) := F1
    clear F1
    go_wp2_with fail
    refine (Hto.out _ HB1.out).mono ?_
    rintro r w2 ⟨ta, tc, sa, sc, rfl, A2, b2⟩
    have HF2 : Hid (Many 6 w2 w.heap.size _) := HF1.out.kept b2
    have HB2 : Hid (Below w.heap.size w w2) := below_behind HB1.out b2
    clear q0 q1 q2 q3 q4 q5 b2 HF1 HB1
    go_wp2_with fail
    refine (Hs.out _ _ A2).mono ?_
    rintro r w3 ⟨rfl, b3⟩
    have HF3 : Hid (Many 6 w3 w.heap.size _) := HF2.out.kept b3
    have HB3 : Hid (Below w.heap.size w w3) := below_behind HB2.out b3
    clear b3 HF2 HB2 A2
    obtain ⟨q0, q1, q2, q3, q4, q5⟩ := HF3.out.six
    go_wp2_with fail
    refine (Hto.out _ HB3.out).mono ?_
    rintro r w4 ⟨ya, yc, ja, jc, rfl, A4, b4⟩
    have F4 := HF3.out.kept b4
    have HB4 : Hid (Below w.heap.size w w4) := below_behind HB3.out b4
    clear q0 q1 q2 q3 q4 q5 b4 HF3 HB3
    have BA : Hid (Below w4.heap.size w4 (w4.alloc (.cells #[.int .i64 kd, .int .i64 sp, .string nm, .slice ya ats.length yc, .string tx, .slice ja ks.length jc] 31))) := (Below.refl _ _).alloc (Nat.le_refl _) _
    have G4 := Many.new w4 [Value.int .i64 kd, .int .i64 sp, .string nm, .slice ya ats.length yc, .string tx, .slice ja ks.length jc] 31 undef
    have Hw4 : Hid (Many 6 (w4.alloc (.cells #[.int .i64 kd, .int .i64 sp, .string nm, .slice ya ats.length yc, .string tx, .slice ja ks.length jc] 31)) w4.heap.size (fun i => [Value.int .i64 kd, .int .i64 sp, .string nm, .slice ya ats.length yc, .string tx, .slice ja ks.length jc].getD i undef)) := G4
    clear G4
    go_wp2_with fail
    refine (Hi.out _ _ (A4.keep (QA.lies _) BA.out) (HTb.out _ _ HTw.out (below_behind HB4.out BA.out))).mono ?_
    rintro r w5 ⟨rfl, b5⟩
    have Q5 := ((F4.kept BA.out).kept b5).six
    have R5 := (Hw4.out.kept b5).six
    have A5 := (A4.keep (QA.lies _) BA.out).keep (QA.lies _) b5
    have B5 := below_behind (below_behind HB4.out BA.out) b5
    clear b5 F4 Hw4 A4 HB4 BA Hi Hs HTb HTw
    generalize w4.heap.size = c5 at *
    obtain ⟨q0, q1, q2, q3, q4, q5⟩ := Q5
    obtain ⟨r0, r1, r2, r3, r4, r5⟩ := R5
    go_upto_region 10 with fail
    go_region_held3 (fun w' => w'.cell? ⟨w.heap.size, 0, none⟩ = some (.int .i64 kd) ∧ w'.cell? ⟨w.heap.size, 1, none⟩ = some (.int .i64 sp) ∧ w'.cell? ⟨w.heap.size, 2, none⟩ = some (.string nm) ∧ w'.cell? ⟨w.heap.size, 3, none⟩ = some (.slice xa ats.length xc) ∧ w'.cell? ⟨w.heap.size, 4, none⟩ = some (.string tx) ∧ w'.cell? ⟨w.heap.size, 5, none⟩ = some (.slice ka ks.length kc) ∧ w'.cell? ⟨c5, 0, none⟩ = some (.int .i64 kd) ∧ w'.cell? ⟨c5, 1, none⟩ = some (.int .i64 sp) ∧ w'.cell? ⟨c5, 2, none⟩ = some (.string nm) ∧ w'.cell? ⟨c5, 3, none⟩ = some (.slice ya ats.length yc) ∧ w'.cell? ⟨c5, 4, none⟩ = some (.string tx) ∧ w'.cell? ⟨c5, 5, none⟩ = some (.slice ja ks.length jc) ∧ ElV (QA w.heap.size) (w.heap.size ≤ ·) w' (.agg #[.int .i64 kd, .int .i64 sp, .string nm, .slice ya ats.length yc, .string tx, .slice ja ks.length jc]) (.mk kd sp nm ats tx ks) ∧ Below w.heap.size w w') (first | exact ⟨q0, q1, q2, q3, q4, q5, r0, r1, r2, r3, r4, r5, ElV.drew (QA.lies _) A5, Below.drew B5⟩ | go_keep | (go_split_ands; exact ⟨keep_cell hb' (by assumption), keep_cell hb' (by assumption), keep_cell hb' (by assumption), keep_cell hb' (by assumption), keep_cell hb' (by assumption), keep_cell hb' (by assumption), keep_cell hb' (by assumption), keep_cell hb' (by assumption), keep_cell hb' (by assumption), keep_cell hb' (by assumption), keep_cell hb' (by assumption), keep_cell hb' (by assumption), ElV.keep (QA.lies _) hb' (by assumption), below_behind (by assumption) hb'⟩)) (first | (go_at_call 8; refine (Hto.out _ (by first | assumption | exact Below.drew (by assumption))).mono ?_; rintro r w' ⟨za, zc, ia, ic, rfl, A6, hb'⟩) | (go_at_call 10; go_split_ands; refine (He.out _ _ _ (by assumption) (by assumption)).mono ?_; rintro r w' ⟨rfl, hb'⟩))
    all_goals
      go_split_ands
      have HBz : Hid (Below w.heap.size w w') := by assumption
      clear Hto He
      go_wp2_with fail
      go_ret
      exact ⟨rfl, HBz.out⟩
  · rw [left_no hbig] at Hz
    clear hI
    go_enter Try.func3, Try.ntmps3
    go_wp2_with fail
    refine (Hz.out _ ((Below.refl _ _).alloc (Nat.le_refl _) _)).mono ?_
    rintro r w1 ⟨rfl, b1⟩
    have HB1 : Hid (Below w.heap.size w w1) := ((Below.refl _ _).alloc (Nat.le_refl _) _).trans (b1.mono (by simp))
    clear b1
    go_wp2_with fail
    go_ret
    exact ⟨rfl, HB1.out⟩

end Go.Proofs.Ytgpfekdfomlljaa.Sg
