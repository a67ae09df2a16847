/- The law of PopTo, of what the program's and the model's functions hand back. -/
import Derived.Test.YtlnegnikedinaaaLwPgSt
namespace Go.Proofs.Ytlnegnikedinaaa.Sg
open Go.ChangeShapes Go.WideShapes Go.ChangeAt Go.RowKit

set_option maxRecDepth 20000 in
set_option maxHeartbeats 16000000 in
theorem lawPopTo (p q : PgB) (v : Value) (k : Int) (w : World) (T : World → Prop) (hTb : ∀ w w' : World, T w → Below w.heap.size w w' → T w') (hT : T w) (h : PgIn w v p) (hh : PgHeld p) (hq : pgW p ≤ 1048576 → PgSize q ∧ PgLight q)
    (hS : pgW p ≤ 1048576 → ∀ W x B, OwnPg W B x p → Calls Try.prog 13 #[x, .int .i64 k] W fun e w' => ∃ x', e = .returned x' ∧ PgAt w' x' q ∧ Below W.heap.size W w')
    (hI : pgW p ≤ 1048576 → ∀ W x B, OwnPg W B x p → T W → Calls Try.prog 15 #[x, .int .i64 k] W fun e w' => ∃ x', e = .returned x' ∧ OwnPg w' W.heap.size x' q ∧ Below W.heap.size W w') :
    Calls Try.prog 4 #[v, .int .i64 k] w fun e w' => e = .returned (.bool true) ∧ Below w.heap.size w w' := by
  have HTw : Hid (T w) := hT
  have HTb : Hid (∀ w w' : World, T w → Below w.heap.size w w' → T w') := hTb
  have Hv : Hid (PgIn w v p) := h
  have Hz : Hid (∀ W, Below w.heap.size w W → Calls Try.prog 12 #[v, .int .i64 1048576] W fun e w' => e = .returned (.int .i64 (leftZ 1048576 (pgW p))) ∧ Below W.heap.size W w') := fun W hW => szPage_any p v W (Hv.out.keep hW) hh
  obtain ⟨ai, aic, ao, aoc, af, afc, rfl, _⟩ := h
  clear hT hTb hh
  by_cases hbig : pgW p ≤ 1048576
  · have Hsz : Hid (PgSize p) := pg_light hbig
    have Hlt : Hid (PgLight p) := pg_marks hbig
    have Hq : Hid (PgSize q ∧ PgLight q) := hq hbig
    have hz : leftZ 1048576 (pgW p) = 1048576 - (pgW p : Int) := leftP_yes (by omega)
    rw [hz] at Hz
    have g1 : ¬ (1048576 - (pgW p : Int)) < 0 := by omega
    have g1' : decide ((1048576 - (pgW p : Int)) < 0) = false := decide_eq_false g1
    have Hto : Hid (∀ W, Below w.heap.size w W → Calls Try.prog 14 #[.agg #[.slice ai p.its.length aic, .slice ao p.opn.length aoc, .slice af p.fms.length afc, .int .i64 p.hd, .int .i64 p.bd]] W fun e w' => ∃ gi go gf : Nat, e = .returned (.agg #[.slice (some ⟨gi, 0, none⟩) p.its.length p.its.length, .slice (some ⟨go, 0, none⟩) p.opn.length p.opn.length, .slice (some ⟨gf, 0, none⟩) p.fms.length p.fms.length, .int .i64 p.hd, .int .i64 p.bd]) ∧ OwnPg3 w' W.heap.size (.slice (some ⟨gi, 0, none⟩) p.its.length p.its.length) (.slice (some ⟨go, 0, none⟩) p.opn.length p.opn.length) (.slice (some ⟨gf, 0, none⟩) p.fms.length p.fms.length) p ∧ Below W.heap.size W w') := fun W hW => toPage_any p _ W (Hv.out.keep hW) Hsz.out.1 Hsz.out.2.1 Hsz.out.2.2.1 Hsz.out.2.2.2
    have Hs : Hid (∀ W x B, OwnPg W B x p → Calls Try.prog 13 #[x, .int .i64 k] W fun e w' => ∃ x', e = .returned x' ∧ PgAt w' x' q ∧ Below W.heap.size W w') := hS hbig
    have Hi : Hid (∀ W x B, OwnPg W B x p → T W → Calls Try.prog 15 #[x, .int .i64 k] W fun e w' => ∃ x', e = .returned x' ∧ OwnPg w' W.heap.size x' q ∧ Below W.heap.size W w') := hI hbig
    have Hep : Hid (∀ W x y, PgAt W x p → PgAt W y p → Calls Try.prog 9 #[x, y] W fun e w' => e = .returned (.bool true) ∧ Below W.heap.size W w') := fun W x y hx hy => eqPage_same p x y W hx hy Hsz.out
    have Heq : Hid (∀ W x y, PgAt W x q → PgAt W y q → Calls Try.prog 9 #[x, y] W fun e w' => e = .returned (.bool true) ∧ Below W.heap.size W w') := fun W x y hx hy => eqPage_same q x y W hx hy Hq.out.1
    have Hmp : Hid (∀ W iv ov fv B U, OwnPgU W B U iv ov fv p → U ≤ W.heap.size → Calls Try.prog 10 #[.agg #[iv, ov, fv, .int .i64 p.hd, .int .i64 p.bd], .int .i64 1] W fun e w' => e = .returned (.int .i64 ((1 + markPn p : Nat) : Int)) ∧ OwnPgU w' B U iv ov fv (markPg 1 p) ∧ Kb W w' (fun b => B ≤ b ∧ b < U)) := fun W iv ov fv B U ho hU => markPage_any p iv ov fv 1 B U W ho hU (by decide) Hlt.out.1 Hlt.out.2.1 Hlt.out.2.2.1 Hlt.out.2.2.2.1 Hlt.out.2.2.2.2
    have Hmq : Hid (∀ W iv ov fv B U, OwnPgU W B U iv ov fv q → U ≤ W.heap.size → Calls Try.prog 10 #[.agg #[iv, ov, fv, .int .i64 q.hd, .int .i64 q.bd], .int .i64 1] W fun e w' => e = .returned (.int .i64 ((1 + markPn q : Nat) : Int)) ∧ OwnPgU w' B U iv ov fv (markPg 1 q) ∧ Kb W w' (fun b => B ≤ b ∧ b < U)) := fun W iv ov fv B U ho hU => markPage_any q iv ov fv 1 B U W ho hU (by decide) Hq.out.2.1 Hq.out.2.2.1 Hq.out.2.2.2.1 Hq.out.2.2.2.2.1 Hq.out.2.2.2.2.2
    have Hhq : Hid (∀ W x, PgAt W x (markPg 1 q) → Calls Try.prog 11 #[x, .int .i64 1] W fun e w' => e = .returned (.int .i64 ((1 + markPn q : Nat) : Int)) ∧ Below W.heap.size W w') := fun W x hx => heldPage_any q x 1 W hx (by decide) Hq.out.2
    clear hz hI hS hq
    generalize (1048576 - (pgW p : Int)) = left at *
    clear Hsz Hlt Hq Hv hbig
    have eA : ∀ o, (w.alloc o).heap.size = w.heap.size + 1 := by simp
    go_enter Try.func4, Try.ntmps4
    go_wp2_with fail
    refine (Hz.out _ ((Below.refl _ _).alloc (Nat.le_refl _) _)).mono ?_
    rintro e w1 ⟨rfl, b1⟩
    have F1 : Many 5 w1 w.heap.size (fun i => [Value.slice ai p.its.length aic, .slice ao p.opn.length aoc, .slice af p.fms.length afc, .int .i64 p.hd, .int .i64 p.bd].getD i undef) :=
      (Many.new w [.slice ai p.its.length aic, .slice ao p.opn.length aoc, .slice af p.fms.length afc, .int .i64 p.hd, .int .i64 p.bd] 32 undef).below (by simp) b1
    have HB1 : Hid (Below w.heap.size w w1) := ((Below.refl _ _).alloc (Nat.le_refl _) _).trans (b1.mono (by simp))
    clear b1 Hz eA
    obtain ⟨q0, q1, q2, q3, q4⟩ := F1.five
    have HF1 : Hid (Many 5 w1 w.heap.size _) := F1
    clear F1
    go_wp2_with fail
    refine (Hto.out _ HB1.out).mono ?_
    rintro e w2 ⟨ui, uo, uf, rfl, O2, b2⟩
    have A2 : OwnPg w2 _ _ p := ⟨_, _, _, rfl, O2⟩
    have HF2 : Hid (Many 5 w2 w.heap.size _) := HF1.out.keep b2
    have HB2 : Hid (Below w.heap.size w w2) := below_then HB1.out b2
    clear q0 q1 q2 q3 q4 b2 HF1 HB1 O2
    go_wp2_with fail
    refine (Hs.out _ _ _ A2).mono ?_
    rintro e w3 ⟨x', rfl, Az, b3⟩
    have HF3 : Hid (Many 5 w3 w.heap.size _) := HF2.out.keep b3
    have HB3 : Hid (Below w.heap.size w w3) := below_then HB2.out b3
    have hlt3 : w.heap.size < w3.heap.size := HF3.out.1
    clear b3 HF2 HB2 A2 Hs
    have HAz : Hid (PgAt w3 x' q) := Az
    obtain ⟨zi, zic, zo, zoc, zf, zfc, rfl, _⟩ := Az
    obtain ⟨q0, q1, q2, q3, q4⟩ := HF3.out.five
    have bC6 : Hid (Below w3.heap.size w3 (w3.alloc (.cells #[.slice zi q.its.length zic, .slice zo q.opn.length zoc, .slice zf q.fms.length zfc, .int .i64 q.hd, .int .i64 q.bd] 25))) := (Below.refl _ _).alloc (Nat.le_refl _) _
    have G3 : Hid (Many 5 (w3.alloc (.cells #[.slice zi q.its.length zic, .slice zo q.opn.length zoc, .slice zf q.fms.length zfc, .int .i64 q.hd, .int .i64 q.bd] 25)) w3.heap.size (fun i => [Value.slice zi q.its.length zic, .slice zo q.opn.length zoc, .slice zf q.fms.length zfc, .int .i64 q.hd, .int .i64 q.bd].getD i undef)) := Many.new w3 [Value.slice zi q.its.length zic, .slice zo q.opn.length zoc, .slice zf q.fms.length zfc, .int .i64 q.hd, .int .i64 q.bd] 25 undef
    have e6 : (w3.alloc (.cells #[.slice zi q.its.length zic, .slice zo q.opn.length zoc, .slice zf q.fms.length zfc, .int .i64 q.hd, .int .i64 q.bd] 25)).heap.size = w3.heap.size + 1 := by simp
    go_wp2_with fail
    refine (Hto.out _ (below_then HB3.out bC6.out)).mono ?_
    rintro e w4 ⟨ji, jo, jf, rfl, O4, b4⟩
    clear q0 q1 q2 q3 q4
    have HF4 : Hid (Many 5 w4 w.heap.size _) := (HF3.out.keep bC6.out).keep b4
    have HG4 : Hid (Many 5 w4 w3.heap.size _) := G3.out.keep b4
    have HB4 : Hid (Below w.heap.size w w4) := below_then (below_then HB3.out bC6.out) b4
    have HZ4 : Hid (Below w3.heap.size w3 w4) := below_then bC6.out b4
    have hs4 : w3.heap.size + 1 ≤ w4.heap.size := by have := b4.size; rw [e6] at this; exact this
    rw [e6] at O4
    have HO4 : Hid (OwnPg3 w4 (w3.heap.size + 1) (.slice (some ⟨ji, 0, none⟩) p.its.length p.its.length) (.slice (some ⟨jo, 0, none⟩) p.opn.length p.opn.length) (.slice (some ⟨jf, 0, none⟩) p.fms.length p.fms.length) p) := O4
    have A4 : OwnPg w4 _ _ p := ⟨_, _, _, rfl, O4⟩
    clear b4 O4 G3 bC6 HB3 HF3 e6
    have bC7 : Hid (Below w4.heap.size w4 (w4.alloc (.cells #[.slice (some ⟨ji, 0, none⟩) p.its.length p.its.length, .slice (some ⟨jo, 0, none⟩) p.opn.length p.opn.length, .slice (some ⟨jf, 0, none⟩) p.fms.length p.fms.length, .int .i64 p.hd, .int .i64 p.bd] 25))) := (Below.refl _ _).alloc (Nat.le_refl _) _
    have G4 : Hid (Many 5 (w4.alloc (.cells #[.slice (some ⟨ji, 0, none⟩) p.its.length p.its.length, .slice (some ⟨jo, 0, none⟩) p.opn.length p.opn.length, .slice (some ⟨jf, 0, none⟩) p.fms.length p.fms.length, .int .i64 p.hd, .int .i64 p.bd] 25)) w4.heap.size (fun i => [Value.slice (some ⟨ji, 0, none⟩) p.its.length p.its.length, .slice (some ⟨jo, 0, none⟩) p.opn.length p.opn.length, .slice (some ⟨jf, 0, none⟩) p.fms.length p.fms.length, .int .i64 p.hd, .int .i64 p.bd].getD i undef)) := Many.new w4 [Value.slice (some ⟨ji, 0, none⟩) p.its.length p.its.length, .slice (some ⟨jo, 0, none⟩) p.opn.length p.opn.length, .slice (some ⟨jf, 0, none⟩) p.fms.length p.fms.length, .int .i64 p.hd, .int .i64 p.bd] 25 undef
    have e7 : (w4.alloc (.cells #[.slice (some ⟨ji, 0, none⟩) p.its.length p.its.length, .slice (some ⟨jo, 0, none⟩) p.opn.length p.opn.length, .slice (some ⟨jf, 0, none⟩) p.fms.length p.fms.length, .int .i64 p.hd, .int .i64 p.bd] 25)).heap.size = w4.heap.size + 1 := by simp
    go_wp2_with fail
    refine (Hi.out _ _ _ (A4.keep bC7.out) (HTb.out _ _ HTw.out (below_then HB4.out bC7.out))).mono ?_
    rintro e w5 ⟨y', rfl, Og, b5⟩
    rw [e7] at Og
    obtain ⟨giv, gov, gfv, rfl, Og3⟩ := Og
    have OgU := OwnPgU.of Og3
    obtain ⟨L, l1, l2, l3, l4, l5, l6⟩ := Og3
    obtain ⟨gi, gic, rfl, m1, m2⟩ := its_of_own (l := q.its) ⟨L, l1, l2, l3⟩
    obtain ⟨go, goc, rfl, m3, m4⟩ := ints_of_own l4
    obtain ⟨gf, gfc, rfl, m5, m6⟩ := ints_of_own l5
    have hs5 : w4.heap.size + 1 ≤ w5.heap.size := by have := b5.size; rw [e7] at this; exact this
    have bC8 : Below w5.heap.size w5 (w5.alloc (.cells #[.slice gi q.its.length gic, .slice go q.opn.length goc, .slice gf q.fms.length gfc, .int .i64 q.hd, .int .i64 q.bd] 25)) := (Below.refl _ _).alloc (Nat.le_refl _) _
    have SS : Hid (LwS w w3 (fun i => [Value.slice ai p.its.length aic, .slice ao p.opn.length aoc, .slice af p.fms.length afc, .int .i64 p.hd, .int .i64 p.bd].getD i undef) (fun i => [Value.slice zi q.its.length zic, .slice zo q.opn.length zoc, .slice zf q.fms.length zfc, .int .i64 q.hd, .int .i64 q.bd].getD i undef) (fun i => [Value.slice (some ⟨ji, 0, none⟩) p.its.length p.its.length, .slice (some ⟨jo, 0, none⟩) p.opn.length p.opn.length, .slice (some ⟨jf, 0, none⟩) p.fms.length p.fms.length, .int .i64 p.hd, .int .i64 p.bd].getD i undef) (fun i => [Value.slice gi q.its.length gic, .slice go q.opn.length goc, .slice gf q.fms.length gfc, .int .i64 q.hd, .int .i64 q.bd].getD i undef) w3.heap.size w4.heap.size w5.heap.size (w3.heap.size + 1) (w4.heap.size + 1) (.slice (some ⟨ji, 0, none⟩) p.its.length p.its.length) (.slice (some ⟨jo, 0, none⟩) p.opn.length p.opn.length) (.slice (some ⟨jf, 0, none⟩) p.fms.length p.fms.length) (.slice gi q.its.length gic) (.slice go q.opn.length goc) (.slice gf q.fms.length gfc) (w5.alloc (.cells #[.slice gi q.its.length gic, .slice go q.opn.length goc, .slice gf q.fms.length gfc, .int .i64 q.hd, .int .i64 q.bd] 25)) p q) :=
      ⟨below_then (below_then (below_then HB4.out bC7.out) b5) bC8, below_then (below_then (below_then HZ4.out bC7.out) b5) bC8, ((HF4.out.keep bC7.out).keep b5).keep bC8, ((HG4.out.keep bC7.out).keep b5).keep bC8, (G4.out.keep b5).keep bC8, Many.new w5 [Value.slice gi q.its.length gic, .slice go q.opn.length goc, .slice gf q.fms.length gfc, .int .i64 q.hd, .int .i64 q.bd] 25 undef, (((OwnPgU.of HO4.out).keep bC7.out).keep b5).keep bC8, OgU.keep bC8, hlt3, Nat.le_refl _, Nat.lt_succ_self _, hs4, Nat.lt_succ_self _, hs5⟩
    clear l1 l2 l3 l4 l5 l6 m1 m2 m3 m4 m5 m6 OgU b5 bC7 bC8 HO4 A4 G4 HF4 HG4 HB4 HZ4 e7 L
    have cz := SS.out.f6
    obtain ⟨z0, z1, z2, z3, z4⟩ := cz.five
    clear cz
    go_wp2_with fail
    obtain ⟨W8, HW8⟩ : ∃ W8, Hid (W8 = w5.alloc (.cells #[.slice gi q.its.length gic, .slice go q.opn.length goc, .slice gf q.fms.length gfc, .int .i64 q.hd, .int .i64 q.bd] 25)) := ⟨_, rfl⟩
    rw [← HW8.out] at SS ⊢
    clear HW8 z0 z1 z2 z3 z4
    generalize w5.heap.size = c8 at *
    generalize w4.heap.size + 1 = Bg at *
    generalize w4.heap.size = c7 at *
    generalize w3.heap.size + 1 = Bx at *
    generalize hc6 : w3.heap.size = c6 at SS ⊢
    clear hlt3 hs4 hs5 hc6
    obtain ⟨LS, HLS⟩ : ∃ LS : World → PgB → PgB → Prop, Hid (∀ W a b, LS W a b ↔ LwS w w3 (fun i => [Value.slice ai p.its.length aic, .slice ao p.opn.length aoc, .slice af p.fms.length afc, .int .i64 p.hd, .int .i64 p.bd].getD i undef) (fun i => [Value.slice zi q.its.length zic, .slice zo q.opn.length zoc, .slice zf q.fms.length zfc, .int .i64 q.hd, .int .i64 q.bd].getD i undef) (fun i => [Value.slice (some ⟨ji, 0, none⟩) p.its.length p.its.length, .slice (some ⟨jo, 0, none⟩) p.opn.length p.opn.length, .slice (some ⟨jf, 0, none⟩) p.fms.length p.fms.length, .int .i64 p.hd, .int .i64 p.bd].getD i undef) (fun i => [Value.slice gi q.its.length gic, .slice go q.opn.length goc, .slice gf q.fms.length gfc, .int .i64 q.hd, .int .i64 q.bd].getD i undef) c6 c7 c8 Bx Bg (.slice (some ⟨ji, 0, none⟩) p.its.length p.its.length) (.slice (some ⟨jo, 0, none⟩) p.opn.length p.opn.length) (.slice (some ⟨jf, 0, none⟩) p.fms.length p.fms.length) (.slice gi q.its.length gic) (.slice go q.opn.length goc) (.slice gf q.fms.length gfc) W a b) := ⟨fun W a b => LwS w w3 (fun i => [Value.slice ai p.its.length aic, .slice ao p.opn.length aoc, .slice af p.fms.length afc, .int .i64 p.hd, .int .i64 p.bd].getD i undef) (fun i => [Value.slice zi q.its.length zic, .slice zo q.opn.length zoc, .slice zf q.fms.length zfc, .int .i64 q.hd, .int .i64 q.bd].getD i undef) (fun i => [Value.slice (some ⟨ji, 0, none⟩) p.its.length p.its.length, .slice (some ⟨jo, 0, none⟩) p.opn.length p.opn.length, .slice (some ⟨jf, 0, none⟩) p.fms.length p.fms.length, .int .i64 p.hd, .int .i64 p.bd].getD i undef) (fun i => [Value.slice gi q.its.length gic, .slice go q.opn.length goc, .slice gf q.fms.length gfc, .int .i64 q.hd, .int .i64 q.bd].getD i undef) c6 c7 c8 Bx Bg (.slice (some ⟨ji, 0, none⟩) p.its.length p.its.length) (.slice (some ⟨jo, 0, none⟩) p.opn.length p.opn.length) (.slice (some ⟨jf, 0, none⟩) p.fms.length p.fms.length) (.slice gi q.its.length gic) (.slice go q.opn.length goc) (.slice gf q.fms.length gfc) W a b, fun _ _ _ => Iff.rfl⟩
    have KEEP : Hid (∀ W W' a b, LS W a b → Below W.heap.size W W' → LS W' a b) := fun W W' a b h hb => (HLS.out _ _ _).2 (((HLS.out _ _ _).1 h).keep hb)
    have B0 : Hid (∀ W a b, LS W a b → Below w.heap.size w W) := fun W a b h => ((HLS.out _ _ _).1 h).b0
    have AZ : Hid (∀ W a b, LS W a b → PgAt W (.agg #[.slice zi q.its.length zic, .slice zo q.opn.length zoc, .slice zf q.fms.length zfc, .int .i64 q.hd, .int .i64 q.bd]) q) := fun W a b h => HAz.out.keep ((HLS.out _ _ _).1 h).bz
    have AX : Hid (∀ W b, LS W p b → PgAt W (.agg #[.slice (some ⟨ji, 0, none⟩) p.its.length p.its.length, .slice (some ⟨jo, 0, none⟩) p.opn.length p.opn.length, .slice (some ⟨jf, 0, none⟩) p.fms.length p.fms.length, .int .i64 p.hd, .int .i64 p.bd]) p) := fun W b h => ((HLS.out _ _ _).1 h).ox.at
    have AG : Hid (∀ W a, LS W a q → PgAt W (.agg #[.slice gi q.its.length gic, .slice go q.opn.length goc, .slice gf q.fms.length gfc, .int .i64 q.hd, .int .i64 q.bd]) q) := fun W a h => ((HLS.out _ _ _).1 h).og.at
    have AM : Hid (∀ W a, LS W a (markPg 1 q) → PgAt W (.agg #[.slice gi q.its.length gic, .slice go q.opn.length goc, .slice gf q.fms.length gfc, .int .i64 q.hd, .int .i64 q.bd]) (markPg 1 q)) := fun W a h => ((HLS.out _ _ _).1 h).og.at
    have F0 : Hid (∀ W a b, LS W a b → _) := fun W a b h => ((HLS.out _ _ _).1 h).f0.five
    have F6 : Hid (∀ W a b, LS W a b → _) := fun W a b h => ((HLS.out _ _ _).1 h).f6.five
    have F7 : Hid (∀ W a b, LS W a b → _) := fun W a b h => ((HLS.out _ _ _).1 h).f7.five
    have F8 : Hid (∀ W a b, LS W a b → _) := fun W a b h => ((HLS.out _ _ _).1 h).f8.five
    have L6 : Hid (∀ W a b, LS W a b → c6 < W.heap.size) := fun W a b h => ((HLS.out _ _ _).1 h).f6.1
    have MX : Hid (∀ W, LS W p q → Calls Try.prog 10 #[.agg #[.slice (some ⟨ji, 0, none⟩) p.its.length p.its.length, .slice (some ⟨jo, 0, none⟩) p.opn.length p.opn.length, .slice (some ⟨jf, 0, none⟩) p.fms.length p.fms.length, .int .i64 p.hd, .int .i64 p.bd], .int .i64 1] W fun e w' => e = .returned (.int .i64 ((1 + markPn p : Nat) : Int)) ∧ LS w' (markPg 1 p) q) := fun W h => (Hmp.out W _ _ _ Bx c7 ((HLS.out _ _ _).1 h).ox (Nat.le_of_lt ((HLS.out _ _ _).1 h).f7.1)).mono fun e w' ⟨h1, h2, h3⟩ => ⟨h1, (HLS.out _ _ _).2 (((HLS.out _ _ _).1 h).markX h3 h2)⟩
    have MG : Hid (∀ W a, LS W a q → Calls Try.prog 10 #[.agg #[.slice gi q.its.length gic, .slice go q.opn.length goc, .slice gf q.fms.length gfc, .int .i64 q.hd, .int .i64 q.bd], .int .i64 1] W fun e w' => e = .returned (.int .i64 ((1 + markPn q : Nat) : Int)) ∧ LS w' a (markPg 1 q)) := fun W a h => (Hmq.out W _ _ _ Bg c8 ((HLS.out _ _ _).1 h).og (Nat.le_of_lt ((HLS.out _ _ _).1 h).f8.1)).mono fun e w' ⟨h1, h2, h3⟩ => ⟨h1, (HLS.out _ _ _).2 (((HLS.out _ _ _).1 h).markG h3 h2)⟩
    have S8 : Hid (LS W8 p q) := (HLS.out _ _ _).2 SS.out
    clear HLS SS HAz Hmp Hmq
    refine (Heq.out _ _ _ (AG.out _ _ S8.out) (AZ.out _ _ _ S8.out)).mono ?_
    rintro e w9 ⟨rfl, b9⟩
    have S9 := KEEP.out _ _ _ _ S8.out b9
    clear b9 S8
    obtain ⟨q0, q1, q2, q3, q4⟩ := F0.out _ _ _ S9
    obtain ⟨r0, r1, r2, r3, r4⟩ := F7.out _ _ _ S9
    have S9d := KEEP.out _ _ _ _ S9 ((Below.refl _ _).drew)
    go_upto_region 10 with fail
    go_cut [35] from 31 to 35 (fun r wx => r = .bool false ∧ LS wx p q)
    case first =>
      go_region_held3 (fun w' => w'.cell? ⟨w.heap.size, 0, none⟩ = some (.slice ai p.its.length aic) ∧ w'.cell? ⟨w.heap.size, 1, none⟩ = some (.slice ao p.opn.length aoc) ∧ w'.cell? ⟨w.heap.size, 2, none⟩ = some (.slice af p.fms.length afc) ∧ w'.cell? ⟨w.heap.size, 3, none⟩ = some (.int .i64 p.hd) ∧ w'.cell? ⟨w.heap.size, 4, none⟩ = some (.int .i64 p.bd) ∧ w'.cell? ⟨c7, 0, none⟩ = some (.slice (some ⟨ji, 0, none⟩) p.its.length p.its.length) ∧ w'.cell? ⟨c7, 1, none⟩ = some (.slice (some ⟨jo, 0, none⟩) p.opn.length p.opn.length) ∧ w'.cell? ⟨c7, 2, none⟩ = some (.slice (some ⟨jf, 0, none⟩) p.fms.length p.fms.length) ∧ w'.cell? ⟨c7, 3, none⟩ = some (.int .i64 p.hd) ∧ w'.cell? ⟨c7, 4, none⟩ = some (.int .i64 p.bd) ∧ LS w' p q) (first | exact ⟨q0, q1, q2, q3, q4, r0, r1, r2, r3, r4, S9d⟩ | go_keep | (go_split_ands; exact ⟨keep_cell hb' (by assumption), keep_cell hb' (by assumption), keep_cell hb' (by assumption), keep_cell hb' (by assumption), keep_cell hb' (by assumption), keep_cell hb' (by assumption), keep_cell hb' (by assumption), keep_cell hb' (by assumption), keep_cell hb' (by assumption), keep_cell hb' (by assumption), KEEP.out _ _ _ _ (by assumption) hb'⟩)) (first | (go_at_call 14; (try go_split_ands); refine (Hto.out _ (B0.out _ _ _ (by first | assumption | exact S9d))).mono ?_; rintro e w' ⟨ki, ko, kf, rfl, O', hb'⟩; have A' := pg_of_own (p := p) ⟨_, _, _, rfl, O'⟩) | (go_at_call 9; go_split_ands; refine (Hep.out _ _ _ (AX.out _ _ (by assumption)) (by assumption)).mono ?_; rintro e w' ⟨rfl, hb'⟩))
      all_goals
        go_split_ands
        go_wp2_with fail
        go_meet
        case rel => exact ⟨rfl, by assumption⟩
    case rest =>
      obtain ⟨rfl, Sc⟩ := hcut
      clear q0 q1 q2 q3 q4 r0 r1 r2 r3 r4 S9d S9
      obtain ⟨q0, q1, q2, q3, q4⟩ := F7.out _ _ _ Sc
      go_wp2_with fail
      refine (MX.out _ Sc).mono ?_
      rintro e w10 ⟨rfl, S10⟩
      clear q0 q1 q2 q3 q4 Sc MX
      obtain ⟨q0, q1, q2, q3, q4⟩ := F8.out _ _ _ S10
      obtain ⟨r0, r1, r2, r3, r4⟩ := F6.out _ _ _ S10
      obtain ⟨M1, HM1⟩ : ∃ M1, Hid (1 + markPn p = M1) := ⟨_, rfl⟩
      rw [HM1.out]
      have gm1 : ¬ (M1 : Int) < 0 := by omega
      have gm1' : decide ((M1 : Int) < 0) = false := decide_eq_false gm1
      go_wp2_with fail
      refine (Heq.out _ _ _ (AG.out _ _ S10) (AZ.out _ _ _ S10)).mono ?_
      rintro e w11 ⟨rfl, b11⟩
      have S11 := KEEP.out _ _ _ _ S10 b11
      clear q0 q1 q2 q3 q4 r0 r1 r2 r3 r4 S10 b11
      obtain ⟨q0, q1, q2, q3, q4⟩ := F8.out _ _ _ S11
      go_wp2_with fail
      refine (MG.out _ _ S11).mono ?_
      rintro e w12 ⟨rfl, S12⟩
      clear q0 q1 q2 q3 q4 S11 MG
      obtain ⟨q0, q1, q2, q3, q4⟩ := F8.out _ _ _ S12
      obtain ⟨M2, HM2⟩ : ∃ M2, Hid (1 + markPn q = M2) := ⟨_, rfl⟩
      rw [HM2.out] at Hhq ⊢
      have gm2 : ¬ (M2 : Int) < 0 := by omega
      have gm2' : decide ((M2 : Int) < 0) = false := decide_eq_false gm2
      have gm3 : ((M2 : Int) != (M2 : Int)) = false := by simp
      go_wp2_with fail
      refine (Hhq.out _ _ (AM.out _ _ S12)).mono ?_
      rintro e w13 ⟨rfl, b13⟩
      have S13 := KEEP.out _ _ _ _ S12 b13
      clear q0 q1 q2 q3 q4 S12 b13
      obtain ⟨q0, q1, q2, q3, q4⟩ := F0.out _ _ _ S13
      go_wp2_with fail
      refine (Hto.out _ (B0.out _ _ _ S13)).mono ?_
      rintro e w14 ⟨ki, ko, kf, rfl, O14, b14⟩
      have A14 : OwnPg w14 _ _ p := ⟨_, _, _, rfl, O14⟩
      have S14 := KEEP.out _ _ _ _ S13 b14
      clear q0 q1 q2 q3 q4 S13 b14 O14
      go_wp2_with fail
      refine (Hi.out _ _ _ A14 (HTb.out _ _ HTw.out (B0.out _ _ _ S14))).mono ?_
      rintro e w15 ⟨y2, rfl, Oh, b15⟩
      have A15 := pg_of_own Oh
      have HA15 : Hid (PgAt w15 y2 q) := A15
      obtain ⟨hi, hic, ho, hoc, hf, hfc, rfl, _⟩ := A15
      have S15 := KEEP.out _ _ _ _ S14 b15
      clear S14 b15 Oh A14
      have bC : Hid (Below w15.heap.size w15 (w15.alloc (.cells #[.slice hi q.its.length hic, .slice ho q.opn.length hoc, .slice hf q.fms.length hfc, .int .i64 q.hd, .int .i64 q.bd] 25))) := (Below.refl _ _).alloc (Nat.le_refl _) _
      obtain ⟨r0, r1, r2, r3, r4⟩ := F6.out _ _ _ S15
      have hl6 := L6.out _ _ _ S15
      go_wp2_with fail
      refine (Heq.out _ _ _ (HA15.out.keep bC.out) (AZ.out _ _ _ (KEEP.out _ _ _ _ S15 bC.out))).mono ?_
      rintro e w17 ⟨rfl, b17⟩
      have S17 := KEEP.out _ _ _ _ (KEEP.out _ _ _ _ S15 bC.out) b17
      clear r0 r1 r2 r3 r4 hl6 S15 b17 bC HA15
      obtain ⟨q0, q1, q2, q3, q4⟩ := F8.out _ _ _ S17
      go_wp2_with fail
      refine (Hhq.out _ _ (AM.out _ _ S17)).mono ?_
      rintro e w18 ⟨rfl, b18⟩
      have S18 := KEEP.out _ _ _ _ S17 b18
      have HBe : Hid (Below w.heap.size w w18) := B0.out _ _ _ S18
      clear q0 q1 q2 q3 q4 S17 b18 S18
      go_wp2_with fail
      go_ret
      exact ⟨rfl, HBe.out⟩
  · have hz : leftZ 1048576 (pgW p) = -1 := leftP_no (by omega)
    rw [hz] at Hz
    clear hI hS hq
    go_enter Try.func4, Try.ntmps4
    go_wp2_with fail
    refine (Hz.out _ ((Below.refl _ _).alloc (Nat.le_refl _) _)).mono ?_
    rintro e w1 ⟨rfl, b1⟩
    have HB1 : Hid (Below w.heap.size w w1) := ((Below.refl _ _).alloc (Nat.le_refl _) _).trans (b1.mono (by simp))
    clear b1
    go_wp2_with fail
    go_ret
    exact ⟨rfl, HB1.out⟩

end Go.Proofs.Ytlnegnikedinaaa.Sg
