/- The law of TokenText, out of the program's contract. Written by mk_shlawtok.py. -/
import Derived.Test.YtploagieecepfaaDoorShToks
import Derived.Test.YtploagieecepfaaDoorLwTok
import Derived.Test.YtploagieecepfaaDoorLwTo4
import Derived.Test.YtploagieecepfaaDoorLwTo2
import Derived.Deep.Cut
import Derived.Deep.CutRange
import Derived.Deep.DeepCutAuto
import Derived.Deep.RegionWith
namespace Go.Proofs.YtploagieecepfaaDoor.Sg
open Go.ChangeShapes Go.WideShapes Go.ChangeAt Go.RowKit

theorem Five.cells {w : World} {b : Nat} {f : Nat → Value} (h : Five w b f) : w.cell? ⟨b, 0, none⟩ = some (f 0) ∧ w.cell? ⟨b, 1, none⟩ = some (f 1) ∧ w.cell? ⟨b, 2, none⟩ = some (f 2) ∧ w.cell? ⟨b, 3, none⟩ = some (f 3) ∧ w.cell? ⟨b, 4, none⟩ = some (f 4) :=
  ⟨(h.2 0 (by decide)).1, (h.2 1 (by decide)).1, (h.2 2 (by decide)).1, (h.2 3 (by decide)).1, (h.2 4 (by decide)).1⟩
theorem Five.kept {w w' : World} {b : Nat} {f : Nat → Value} (h : Five w b f) (hb : Below w.heap.size w w') : Five w' b f := h.below h.1 hb
theorem below_after {a b c : World} {B : Nat} (h : Below B a b) (h2 : Below b.heap.size b c) (hB : B ≤ b.heap.size) : Below B a c := h.trans (h2.mono hB)
theorem tok_left (left : Int) (k : Nat) (h : (k : Int) ≤ left) : leftZ left k = left - (k : Int) := by unfold leftZ; rw [if_pos h]

set_option maxRecDepth 20000 in
set_option maxHeartbeats 16000000 in
theorem lawTokenText (kd : Int) (nm : ByteArray) (ats : List AttrB) (tx : ByteArray) (sf : Bool) (sv : Value) (w : World) (T : World → Prop) (hTb : ∀ w w' : World, T w → Below w.heap.size w w' → T w') (hT : T w) (hs : SlAttrsIn w sv ats) (hh : TokHeld (kd, nm, ats, tx, sf))
    (hI : tokW (kd, nm, ats, tx, sf) ≤ 1048576 → ∀ W (x : Option Addr) (c : Nat), AttrsAt W x ats → T W → Calls Tryd.prog 8 #[.agg #[.int .i64 kd, .string nm, .slice x ats.length c, .string tx, .bool sf]] W fun r w' => r = .returned (.string (tokS (kd, nm, ats, tx, sf))) ∧ Below W.heap.size W w') :
    Calls Tryd.prog 3 #[.agg #[.int .i64 kd, .string nm, sv, .string tx, .bool sf]] w fun r w' => r = .returned (.bool true) ∧ Below w.heap.size w w' := by
  have HTw : Hid (T w) := hT
  have HTb : Hid (∀ w w' : World, T w → Below w.heap.size w w' → T w') := hTb
  have Hz : Hid (∀ W, Below w.heap.size w W → Calls Tryd.prog 5 #[.agg #[.int .i64 kd, .string nm, sv, .string tx, .bool sf], .int .i64 1048576] W fun r w' => r = .returned (.int .i64 (leftZ 1048576 (tokW (kd, nm, ats, tx, sf)))) ∧ Below W.heap.size W w') := fun W hW => szToken_any (kd, nm, ats, tx, sf) sv 1048576 W (hs.keep hW) hh (by decide) (by decide)
  have Hto0 : tokW (kd, nm, ats, tx, sf) ≤ 1048576 → ∀ W, Below w.heap.size w W → Calls Tryd.prog 7 #[.agg #[.int .i64 kd, .string nm, sv, .string tx, .bool sf]] W fun r w' => ∃ x c, r = .returned (.agg #[.int .i64 kd, .string nm, .slice x ats.length c, .string tx, .bool sf]) ∧ AttrsAt w' x ats ∧ Below W.heap.size W w' := fun hw W hW => (toToken_any (kd, nm, ats, tx, sf) sv W (hs.keep hW) (by unfold tokW attrsW at hw; simp only at hw ⊢; omega)).mono fun r w' ⟨sv', h1, h2, h3⟩ => by
    obtain ⟨x, c, rfl, hA⟩ := attrs_of_own h2
    exact ⟨x, c, h1, hA, h3⟩
  obtain ⟨xa, xc, rfl, _⟩ := hs
  clear hT hTb hh
  have bB := (Below.refl w.heap.size w).alloc (Nat.le_refl _) (.cells #[.int .i64 kd, .string nm, .slice xa ats.length xc, .string tx, .bool sf] 24)
  have F0 : Five (w.alloc (.cells #[.int .i64 kd, .string nm, .slice xa ats.length xc, .string tx, .bool sf] 24)) w.heap.size (fun i => [Value.int .i64 kd, .string nm, .slice xa ats.length xc, .string tx, .bool sf].getD i (.int .i64 kd)) := Five.new w _ _ _ _ _ 24
  by_cases hb : tokW (kd, nm, ats, tx, sf) ≤ 1048576
  · have Hto : Hid (∀ W, Below w.heap.size w W → Calls Tryd.prog 7 #[.agg #[.int .i64 kd, .string nm, .slice xa ats.length xc, .string tx, .bool sf]] W fun r w' => ∃ x c, r = .returned (.agg #[.int .i64 kd, .string nm, .slice x ats.length c, .string tx, .bool sf]) ∧ AttrsAt w' x ats ∧ Below W.heap.size W w') := Hto0 hb
    have hz : leftZ 1048576 (tokW (kd, nm, ats, tx, sf)) = 1048576 - (tokW (kd, nm, ats, tx, sf) : Int) := tok_left _ _ (by omega)
    rw [hz] at Hz
    have g1 : ¬ (1048576 - (tokW (kd, nm, ats, tx, sf) : Int)) < 0 := by omega
    have g1' : decide ((1048576 - (tokW (kd, nm, ats, tx, sf) : Int)) < 0) = false := decide_eq_false g1
    have hw3 : ats.length ≤ 1048576 ∧ nm.size ≤ 1048576 ∧ tx.size ≤ 1048576 := by unfold tokW attrsW at hb; simp only at hb; exact ⟨by omega, by omega, by omega⟩
    have Hs : Hid (∀ W (x : Option Addr) (c : Nat), Calls Tryd.prog 6 #[.agg #[.int .i64 kd, .string nm, .slice x ats.length c, .string tx, .bool sf]] W fun r w' => r = .returned (.string (tokS (kd, nm, ats, tx, sf))) ∧ Below W.heap.size W w') := fun W x c => specTokenText kd nm tx sf ats.length x c W hw3.1 hw3.2.1 hw3.2.2
    have Hi : Hid (∀ W (x : Option Addr) (c : Nat), AttrsAt W x ats → T W → Calls Tryd.prog 8 #[.agg #[.int .i64 kd, .string nm, .slice x ats.length c, .string tx, .bool sf]] W fun r w' => r = .returned (.string (tokS (kd, nm, ats, tx, sf))) ∧ Below W.heap.size W w') := hI hb
    have He : Hid (∀ W (x y : Option Addr) (c d : Nat), AttrsAt W x ats → AttrsAt W y ats → Calls Tryd.prog 9 #[.agg #[.int .i64 kd, .string nm, .slice x ats.length c, .string tx, .bool sf], .agg #[.int .i64 kd, .string nm, .slice y ats.length d, .string tx, .bool sf]] W fun r w' => r = .returned (.bool true) ∧ Below W.heap.size W w') := fun W x y c d hx hy => eqToken_same (kd, nm, ats, tx, sf) (.slice x ats.length c) (.slice y ats.length d) W ⟨x, c, rfl, hx⟩ ⟨y, d, rfl, hy⟩ (by have := hw3.1; simp only; omega)
    clear hI Hto0 hz hb hw3
    generalize tokS (kd, nm, ats, tx, sf) = X at *
    generalize (1048576 - (tokW (kd, nm, ats, tx, sf) : Int)) = left at *
    have gX : (X.toList == X.toList) = true := by simp
    have gX' : (X.toList != X.toList) = false := by simp
    obtain ⟨q0, q1, q2, q3, q4⟩ := F0.cells
    go_enter Tryd.func3, Tryd.ntmps3
    go_wp2_with fail
    refine (Hz.out _ bB).mono ?_
    rintro r w1 ⟨rfl, b1⟩
    have HF1 : Hid (Five w1 w.heap.size (fun i => [Value.int .i64 kd, .string nm, .slice xa ats.length xc, .string tx, .bool sf].getD i (.int .i64 kd))) := F0.kept b1
    have HB1 : Hid (Below w.heap.size w w1) := below_after bB b1 bB.size
    clear b1 bB F0 Hz q0 q1 q2 q3 q4
    obtain ⟨q0, q1, q2, q3, q4⟩ := HF1.out.cells
    go_wp2_with fail
    refine (Hto.out _ HB1.out).mono ?_
    rintro r w2 ⟨y, yc, rfl, A2, b2⟩
    have HF2 : Hid (Five w2 w.heap.size (fun i => [Value.int .i64 kd, .string nm, .slice xa ats.length xc, .string tx, .bool sf].getD i (.int .i64 kd))) := HF1.out.kept b2
    have HB2 : Hid (Below w.heap.size w w2) := below_after HB1.out b2 HB1.out.size
    clear b2 HF1 HB1 q0 q1 q2 q3 q4
    go_wp2_with fail
    refine (Hs.out _ _ _).mono ?_
    rintro r w3 ⟨rfl, b3⟩
    have HF3 : Hid (Five w3 w.heap.size (fun i => [Value.int .i64 kd, .string nm, .slice xa ats.length xc, .string tx, .bool sf].getD i (.int .i64 kd))) := HF2.out.kept b3
    have HB3 : Hid (Below w.heap.size w w3) := below_after HB2.out b3 HB2.out.size
    clear b3 HF2 HB2 A2 Hs
    obtain ⟨q0, q1, q2, q3, q4⟩ := HF3.out.cells
    go_wp2_with fail
    refine (Hto.out _ HB3.out).mono ?_
    rintro r w4 ⟨ya, yc, rfl, A4, b4⟩
    have BA : Below w4.heap.size w4 (w4.alloc (.cells #[.int .i64 kd, .string nm, .slice ya ats.length yc, .string tx, .bool sf] 29)) := (Below.refl _ _).alloc (Nat.le_refl _) _
    have HF4 : Hid (Five (w4.alloc (.cells #[.int .i64 kd, .string nm, .slice ya ats.length yc, .string tx, .bool sf] 29)) w.heap.size (fun i => [Value.int .i64 kd, .string nm, .slice xa ats.length xc, .string tx, .bool sf].getD i (.int .i64 kd))) := (HF3.out.kept b4).kept BA
    have HG4 : Hid (Five (w4.alloc (.cells #[.int .i64 kd, .string nm, .slice ya ats.length yc, .string tx, .bool sf] 29)) w4.heap.size (fun i => [Value.int .i64 kd, .string nm, .slice ya ats.length yc, .string tx, .bool sf].getD i (.int .i64 kd))) := Five.new w4 _ _ _ _ _ 29
    have HA4 : Hid (AttrsAt (w4.alloc (.cells #[.int .i64 kd, .string nm, .slice ya ats.length yc, .string tx, .bool sf] 29)) ya ats) := A4.below BA
    have HB4 : Hid (Below w.heap.size w (w4.alloc (.cells #[.int .i64 kd, .string nm, .slice ya ats.length yc, .string tx, .bool sf] 29))) := below_after (below_after HB3.out b4 HB3.out.size) BA (Nat.le_trans HB3.out.size b4.size)
    clear b4 HF3 HB3 A4 BA q0 q1 q2 q3 q4
    obtain ⟨p0, p1, p2, p3, p4⟩ := HG4.out.cells
    go_wp2_with fail
    refine (Hi.out _ _ _ HA4.out (HTb.out _ _ HTw.out HB4.out)).mono ?_
    rintro r w5 ⟨rfl, b5⟩
    have HF5 : Hid (Five w5 w.heap.size (fun i => [Value.int .i64 kd, .string nm, .slice xa ats.length xc, .string tx, .bool sf].getD i (.int .i64 kd))) := HF4.out.kept b5
    have HG5 : Hid (Five w5 w4.heap.size (fun i => [Value.int .i64 kd, .string nm, .slice ya ats.length yc, .string tx, .bool sf].getD i (.int .i64 kd))) := HG4.out.kept b5
    have HA5 : Hid (AttrsAt w5 ya ats) := HA4.out.below b5
    have B5 : Below w.heap.size w w5 := below_after HB4.out b5 HB4.out.size
    clear b5 HF4 HG4 HA4 HB4 Hi HTb HTw p0 p1 p2 p3 p4
    generalize w4.heap.size = c4 at *
    have c6 : ∀ {b o : Nat} {v : Value} {W : World}, Below w5.heap.size w5 W → w5.cell? ⟨b, o, none⟩ = some v → W.cell? ⟨b, o, none⟩ = some v := fun hb hc => keep_cell hb hc
    have Hta : Hid (∀ W, Below w5.heap.size w5 W → Calls Tryd.prog 7 #[.agg #[.int .i64 kd, .string nm, .slice xa ats.length xc, .string tx, .bool sf]] W fun r w' => ∃ x c, r = .returned (.agg #[.int .i64 kd, .string nm, .slice x ats.length c, .string tx, .bool sf]) ∧ AttrsAt w' x ats ∧ AttrsAt w' ya ats ∧ Below w5.heap.size w5 w') := fun W hW => (Hto.out W (below_after B5 hW B5.size)).mono fun r w' ⟨x, c, h1, h2, h3⟩ => ⟨x, c, h1, h2, HA5.out.below (below_after hW h3 hW.size), below_after hW h3 hW.size⟩
    obtain ⟨q0, q1, q2, q3, q4⟩ := HF5.out.cells
    obtain ⟨p0, p1, p2, p3, p4⟩ := HG5.out.cells
    go_upto_region 10 with fail
    go_cut [26] (fun r wx => r = .bool false ∧ Below w5.heap.size w5 wx)
    case first =>
      go_region_with (first | (go_at_call 7; refine (Hta.out _ (by first | exact Below.refl _ _ | exact (Below.refl _ _).drew | exact (Below.refl _ _).drew.drew | exact (Below.refl _ _).drew.drew.drew)).mono ?_; rintro r w' ⟨za, zc, rfl, A61, A71, hbA⟩; have r0 := c6 hbA p0; have r1 := c6 hbA p1; have r2 := c6 hbA p2; have r3 := c6 hbA p3; have r4 := c6 hbA p4) | (go_at_call 9; first | (refine (He.out _ _ _ _ _ A71 A61).mono ?_; rintro r w' ⟨rfl, hbD⟩) | (refine (He.out _ _ _ _ _ (A71.below (Below.refl _ _).drew) (A61.below (Below.refl _ _).drew)).mono ?_; rintro r w' ⟨rfl, hbD⟩)))
      all_goals
        go_wp2_with fail
        go_meet
        case rel => exact ⟨rfl, below_after (by first | exact hbA | exact hbA.drew) hbD hbA.size⟩
    case rest =>
      obtain ⟨rfl, b6⟩ := hcut
      have HB6 : Hid (Below w.heap.size w _) := below_after B5 b6 B5.size
      clear q0 q1 q2 q3 q4 p0 p1 p2 p3 p4 b6 HF5 HG5 HA5 B5 Hta c6 He Hto
      go_wp2_with fail
      go_ret
      exact ⟨rfl, HB6.out⟩
  · have hz : leftZ 1048576 (tokW (kd, nm, ats, tx, sf)) = -1 := by unfold leftZ; rw [if_neg (by omega)]
    rw [hz] at Hz
    clear hI Hto0
    obtain ⟨q0, q1, q2, q3, q4⟩ := F0.cells
    go_enter Tryd.func3, Tryd.ntmps3
    go_wp2_with fail
    refine (Hz.out _ bB).mono ?_
    rintro r w1 ⟨rfl, b1⟩
    have HB1 : Hid (Below w.heap.size w w1) := below_after bB b1 bB.size
    clear b1 bB F0 q0 q1 q2 q3 q4
    go_wp2_with fail
    go_ret
    exact ⟨rfl, HB1.out⟩

end Go.Proofs.YtploagieecepfaaDoor.Sg
