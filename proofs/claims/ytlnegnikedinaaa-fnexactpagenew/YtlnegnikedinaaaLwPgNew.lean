/- The law of PageNew, of what the program's and the model's functions hand back. -/
import Derived.Test.YtlnegnikedinaaaLwPgSt
namespace Go.Proofs.Ytlnegnikedinaaa.Sg
open Go.ChangeShapes Go.WideShapes Go.ChangeAt Go.RowKit

/-- A page that is new. -/
def pgNew : PgB := ⟨[⟨1, 0, ⟨#[]⟩, [], ⟨#[]⟩, -1, []⟩], [], [], 0, 0⟩

structure LwN (w Wz : World) (V6 V8 : Nat → Value) (c6 c8 Bg : Nat) (gi go gf : Value) (W : World) (pg : PgB) : Prop where
  b0 : Below w.heap.size w W
  bz : Below Wz.heap.size Wz W
  f6 : Many 5 W c6 V6
  f8 : Many 5 W c8 V8
  og : OwnPgU W Bg c8 gi go gf pg
  ord : w.heap.size ≤ Wz.heap.size ∧ Wz.heap.size ≤ c6 ∧ c6 < Bg ∧ Bg ≤ c8
theorem LwN.keep {w Wz : World} {V6 V8 : Nat → Value} {c6 c8 Bg : Nat} {gi go gf : Value} {W W' : World} {pg : PgB} (h : LwN w Wz V6 V8 c6 c8 Bg gi go gf W pg) (hb : Below W.heap.size W W') : LwN w Wz V6 V8 c6 c8 Bg gi go gf W' pg :=
  ⟨below_then h.b0 hb, below_then h.bz hb, h.f6.keep hb, h.f8.keep hb, h.og.keep hb, h.ord⟩
theorem LwN.markG {w Wz : World} {V6 V8 : Nat → Value} {c6 c8 Bg : Nat} {gi go gf : Value} {W W' : World} {pg : PgB} (h : LwN w Wz V6 V8 c6 c8 Bg gi go gf W pg) (hk : Kb W W' (fun b => Bg ≤ b ∧ b < c8)) {pg' : PgB} (ho : OwnPgU W' Bg c8 gi go gf pg') : LwN w Wz V6 V8 c6 c8 Bg gi go gf W' pg' := by
  obtain ⟨o1, o2, o3, o4⟩ := h.ord
  exact ⟨h.b0.trans (hk.below h.b0.size fun b hb => by have := hb.1; omega), h.bz.trans (hk.below h.bz.size fun b hb => by have := hb.1; omega), h.f6.kb hk (fun hb => by have := hb.1; omega), h.f8.kb hk (fun hb => by have := hb.2; omega), ho, h.ord⟩

theorem new_light : PgLight pgNew ∧ PgSize pgNew := by
  refine ⟨⟨by decide, by decide, fun t ht => ?_, by decide, by decide⟩, ⟨by decide, fun t ht => ?_, by decide, by decide⟩⟩
  all_goals
    obtain rfl := List.mem_singleton.1 ht
    exact ⟨Nat.zero_le _, Nat.zero_le _⟩

set_option maxRecDepth 20000 in
set_option maxHeartbeats 16000000 in
theorem lawPageNew (w : World) (T : World → Prop) (hTb : ∀ w w' : World, T w → Below w.heap.size w w' → T w') (hT : T w)
    (hS : ∀ W, Calls Try.prog 7 #[] W fun e w' => ∃ x', e = .returned x' ∧ PgAt w' x' pgNew ∧ Below W.heap.size W w')
    (hI : ∀ W, T W → Calls Try.prog 8 #[] W fun e w' => ∃ x', e = .returned x' ∧ OwnPg w' W.heap.size x' pgNew ∧ Below W.heap.size W w') :
    Calls Try.prog 3 #[] w fun e w' => e = .returned (.bool true) ∧ Below w.heap.size w w' := by
  have HTw : Hid (T w) := hT
  have HTb : Hid (∀ w w' : World, T w → Below w.heap.size w w' → T w') := hTb
  have Hs : Hid _ := hS
  have Hi : Hid _ := hI
  have Heq : Hid (∀ W x y, PgAt W x pgNew → PgAt W y pgNew → Calls Try.prog 9 #[x, y] W fun e w' => e = .returned (.bool true) ∧ Below W.heap.size W w') := fun W x y hx hy => eqPage_same pgNew x y W hx hy new_light.2
  have Hmq : Hid (∀ W iv ov fv B U, OwnPgU W B U iv ov fv pgNew → U ≤ W.heap.size → Calls Try.prog 10 #[.agg #[iv, ov, fv, .int .i64 pgNew.hd, .int .i64 pgNew.bd], .int .i64 1] W fun e w' => e = .returned (.int .i64 ((1 + markPn pgNew : Nat) : Int)) ∧ OwnPgU w' B U iv ov fv (markPg 1 pgNew) ∧ Kb W w' (fun b => B ≤ b ∧ b < U)) := fun W iv ov fv B U ho hU => markPage_any pgNew iv ov fv 1 B U W ho hU (by decide) new_light.1.1 new_light.1.2.1 new_light.1.2.2.1 new_light.1.2.2.2.1 new_light.1.2.2.2.2
  have Hhq : Hid (∀ W x, PgAt W x (markPg 1 pgNew) → Calls Try.prog 11 #[x, .int .i64 1] W fun e w' => e = .returned (.int .i64 ((1 + markPn pgNew : Nat) : Int)) ∧ Below W.heap.size W w') := fun W x hx => heldPage_any pgNew x 1 W hx (by decide) new_light.1
  clear hT hTb hS hI
  generalize pgNew = q at *
  go_enter Try.func3, Try.ntmps3
  go_wp2_with fail
  refine (Hs.out _).mono ?_
  rintro e w3 ⟨x', rfl, Az, b3⟩
  have HB3 : Hid (Below w.heap.size w w3) := b3
  have hlt3 : w.heap.size ≤ w3.heap.size := b3.size
  have HAz : Hid (PgAt w3 x' q) := Az
  obtain ⟨zi, zic, zo, zoc, zf, zfc, rfl, _⟩ := Az
  clear b3 Hs
  have bC6 : Hid (Below w3.heap.size w3 (w3.alloc (.cells #[.slice zi q.its.length zic, .slice zo q.opn.length zoc, .slice zf q.fms.length zfc, .int .i64 q.hd, .int .i64 q.bd] 25))) := (Below.refl _ _).alloc (Nat.le_refl _) _
  have G3 : Hid (Many 5 (w3.alloc (.cells #[.slice zi q.its.length zic, .slice zo q.opn.length zoc, .slice zf q.fms.length zfc, .int .i64 q.hd, .int .i64 q.bd] 25)) w3.heap.size (fun i => [Value.slice zi q.its.length zic, .slice zo q.opn.length zoc, .slice zf q.fms.length zfc, .int .i64 q.hd, .int .i64 q.bd].getD i undef)) := Many.new w3 [Value.slice zi q.its.length zic, .slice zo q.opn.length zoc, .slice zf q.fms.length zfc, .int .i64 q.hd, .int .i64 q.bd] 25 undef
  have e6 : (w3.alloc (.cells #[.slice zi q.its.length zic, .slice zo q.opn.length zoc, .slice zf q.fms.length zfc, .int .i64 q.hd, .int .i64 q.bd] 25)).heap.size = w3.heap.size + 1 := by simp
  go_wp2_with fail
  refine (Hi.out _ (HTb.out _ _ HTw.out (below_then HB3.out bC6.out))).mono ?_
  rintro e w5 ⟨y', rfl, Og, b5⟩
  rw [e6] at Og
  obtain ⟨giv, gov, gfv, rfl, Og3⟩ := Og
  have OgU := OwnPgU.of Og3
  obtain ⟨L, l1, l2, l3, l4, l5, l6⟩ := Og3
  obtain ⟨gi, gic, rfl, m1, m2⟩ := its_of_own (l := q.its) ⟨L, l1, l2, l3⟩
  obtain ⟨go, goc, rfl, m3, m4⟩ := ints_of_own l4
  obtain ⟨gf, gfc, rfl, m5, m6⟩ := ints_of_own l5
  have hs5 : w3.heap.size + 1 ≤ w5.heap.size := by have := b5.size; rw [e6] at this; exact this
  have bC8 : Below w5.heap.size w5 (w5.alloc (.cells #[.slice gi q.its.length gic, .slice go q.opn.length goc, .slice gf q.fms.length gfc, .int .i64 q.hd, .int .i64 q.bd] 25)) := (Below.refl _ _).alloc (Nat.le_refl _) _
  have SS : Hid (LwN w w3 (fun i => [Value.slice zi q.its.length zic, .slice zo q.opn.length zoc, .slice zf q.fms.length zfc, .int .i64 q.hd, .int .i64 q.bd].getD i undef) (fun i => [Value.slice gi q.its.length gic, .slice go q.opn.length goc, .slice gf q.fms.length gfc, .int .i64 q.hd, .int .i64 q.bd].getD i undef) w3.heap.size w5.heap.size (w3.heap.size + 1) (.slice gi q.its.length gic) (.slice go q.opn.length goc) (.slice gf q.fms.length gfc) (w5.alloc (.cells #[.slice gi q.its.length gic, .slice go q.opn.length goc, .slice gf q.fms.length gfc, .int .i64 q.hd, .int .i64 q.bd] 25)) q) :=
    ⟨below_then (below_then (below_then HB3.out bC6.out) b5) bC8, below_then (below_then bC6.out b5) bC8, (G3.out.keep b5).keep bC8, Many.new w5 [Value.slice gi q.its.length gic, .slice go q.opn.length goc, .slice gf q.fms.length gfc, .int .i64 q.hd, .int .i64 q.bd] 25 undef, OgU.keep bC8, hlt3, Nat.le_refl _, Nat.lt_succ_self _, hs5⟩
  clear l1 l2 l3 l4 l5 l6 m1 m2 m3 m4 m5 m6 OgU b5 bC8 L G3 e6 bC6 HB3
  obtain ⟨z0, z1, z2, z3, z4⟩ := SS.out.f6.five
  go_wp2_with fail
  obtain ⟨W8, HW8⟩ : ∃ W8, Hid (W8 = w5.alloc (.cells #[.slice gi q.its.length gic, .slice go q.opn.length goc, .slice gf q.fms.length gfc, .int .i64 q.hd, .int .i64 q.bd] 25)) := ⟨_, rfl⟩
  rw [← HW8.out] at SS ⊢
  clear HW8 z0 z1 z2 z3 z4
  generalize w5.heap.size = c8 at *
  generalize w3.heap.size + 1 = Bg at *
  generalize hc6 : w3.heap.size = c6 at SS ⊢
  clear hlt3 hs5 hc6
  obtain ⟨LS, HLS⟩ : ∃ LS : World → PgB → Prop, Hid (∀ W b, LS W b ↔ LwN w w3 (fun i => [Value.slice zi q.its.length zic, .slice zo q.opn.length zoc, .slice zf q.fms.length zfc, .int .i64 q.hd, .int .i64 q.bd].getD i undef) (fun i => [Value.slice gi q.its.length gic, .slice go q.opn.length goc, .slice gf q.fms.length gfc, .int .i64 q.hd, .int .i64 q.bd].getD i undef) c6 c8 Bg (.slice gi q.its.length gic) (.slice go q.opn.length goc) (.slice gf q.fms.length gfc) W b) := ⟨fun W b => LwN w w3 (fun i => [Value.slice zi q.its.length zic, .slice zo q.opn.length zoc, .slice zf q.fms.length zfc, .int .i64 q.hd, .int .i64 q.bd].getD i undef) (fun i => [Value.slice gi q.its.length gic, .slice go q.opn.length goc, .slice gf q.fms.length gfc, .int .i64 q.hd, .int .i64 q.bd].getD i undef) c6 c8 Bg (.slice gi q.its.length gic) (.slice go q.opn.length goc) (.slice gf q.fms.length gfc) W b, fun _ _ => Iff.rfl⟩
  have KEEP : Hid (∀ W W' b, LS W b → Below W.heap.size W W' → LS W' b) := fun W W' b h hb => (HLS.out _ _).2 (((HLS.out _ _).1 h).keep hb)
  have B0 : Hid (∀ W b, LS W b → Below w.heap.size w W) := fun W b h => ((HLS.out _ _).1 h).b0
  have AZ : Hid (∀ W b, LS W b → PgAt W (.agg #[.slice zi q.its.length zic, .slice zo q.opn.length zoc, .slice zf q.fms.length zfc, .int .i64 q.hd, .int .i64 q.bd]) q) := fun W b h => HAz.out.keep ((HLS.out _ _).1 h).bz
  have AG : Hid (∀ W, LS W q → PgAt W (.agg #[.slice gi q.its.length gic, .slice go q.opn.length goc, .slice gf q.fms.length gfc, .int .i64 q.hd, .int .i64 q.bd]) q) := fun W h => ((HLS.out _ _).1 h).og.at
  have AM : Hid (∀ W, LS W (markPg 1 q) → PgAt W (.agg #[.slice gi q.its.length gic, .slice go q.opn.length goc, .slice gf q.fms.length gfc, .int .i64 q.hd, .int .i64 q.bd]) (markPg 1 q)) := fun W h => ((HLS.out _ _).1 h).og.at
  have F6 : Hid (∀ W b, LS W b → _) := fun W b h => ((HLS.out _ _).1 h).f6.five
  have F8 : Hid (∀ W b, LS W b → _) := fun W b h => ((HLS.out _ _).1 h).f8.five
  have L6 : Hid (∀ W b, LS W b → c6 < W.heap.size) := fun W b h => ((HLS.out _ _).1 h).f6.1
  have MG : Hid (∀ W, LS W q → Calls Try.prog 10 #[.agg #[.slice gi q.its.length gic, .slice go q.opn.length goc, .slice gf q.fms.length gfc, .int .i64 q.hd, .int .i64 q.bd], .int .i64 1] W fun e w' => e = .returned (.int .i64 ((1 + markPn q : Nat) : Int)) ∧ LS w' (markPg 1 q)) := fun W h => (Hmq.out W _ _ _ Bg c8 ((HLS.out _ _).1 h).og (Nat.le_of_lt ((HLS.out _ _).1 h).f8.1)).mono fun e w' ⟨h1, h2, h3⟩ => ⟨h1, (HLS.out _ _).2 (((HLS.out _ _).1 h).markG h3 h2)⟩
  have S8 : Hid (LS W8 q) := (HLS.out _ _).2 SS.out
  clear HLS SS HAz Hmq
  refine (Heq.out _ _ _ (AG.out _ S8.out) (AZ.out _ _ S8.out)).mono ?_
  rintro e w11 ⟨rfl, b11⟩
  have S11 := KEEP.out _ _ _ S8.out b11
  clear b11 S8
  obtain ⟨q0, q1, q2, q3, q4⟩ := F8.out _ _ S11
  go_wp2_with fail
  refine (MG.out _ S11).mono ?_
  rintro e w12 ⟨rfl, S12⟩
  clear q0 q1 q2 q3 q4 S11 MG
  obtain ⟨q0, q1, q2, q3, q4⟩ := F8.out _ _ S12
  obtain ⟨M2, HM2⟩ : ∃ M2, Hid (1 + markPn q = M2) := ⟨_, rfl⟩
  rw [HM2.out] at Hhq ⊢
  have gm2 : ¬ (M2 : Int) < 0 := by omega
  have gm2' : decide ((M2 : Int) < 0) = false := decide_eq_false gm2
  have gm3 : ((M2 : Int) != (M2 : Int)) = false := by simp
  go_wp2_with fail
  refine (Hhq.out _ _ (AM.out _ S12)).mono ?_
  rintro e w14 ⟨rfl, b13⟩
  have S14 := KEEP.out _ _ _ S12 b13
  clear q0 q1 q2 q3 q4 S12 b13
  go_wp2_with fail
  refine (Hi.out _ (HTb.out _ _ HTw.out (B0.out _ _ S14))).mono ?_
  rintro e w15 ⟨y2, rfl, Oh, b15⟩
  have A15 := pg_of_own Oh
  have HA15 : Hid (PgAt w15 y2 q) := A15
  obtain ⟨hi, hic, ho, hoc, hf, hfc, rfl, _⟩ := A15
  have S15 := KEEP.out _ _ _ S14 b15
  clear S14 b15 Oh
  have bC : Hid (Below w15.heap.size w15 (w15.alloc (.cells #[.slice hi q.its.length hic, .slice ho q.opn.length hoc, .slice hf q.fms.length hfc, .int .i64 q.hd, .int .i64 q.bd] 25))) := (Below.refl _ _).alloc (Nat.le_refl _) _
  obtain ⟨r0, r1, r2, r3, r4⟩ := F6.out _ _ S15
  have hl6 := L6.out _ _ S15
  go_wp2_with fail
  refine (Heq.out _ _ _ (HA15.out.keep bC.out) (AZ.out _ _ (KEEP.out _ _ _ S15 bC.out))).mono ?_
  rintro e w17 ⟨rfl, b17⟩
  have S17 := KEEP.out _ _ _ (KEEP.out _ _ _ S15 bC.out) b17
  clear r0 r1 r2 r3 r4 hl6 S15 b17 bC HA15
  obtain ⟨q0, q1, q2, q3, q4⟩ := F8.out _ _ S17
  go_wp2_with fail
  refine (Hhq.out _ _ (AM.out _ S17)).mono ?_
  rintro e w18 ⟨rfl, b18⟩
  have S18 := KEEP.out _ _ _ S17 b18
  have HBe : Hid (Below w.heap.size w w18) := B0.out _ _ S18
  clear q0 q1 q2 q3 q4 S17 b18 S18
  go_wp2_with fail
  go_ret
  exact ⟨rfl, HBe.out⟩

end Go.Proofs.Ytlnegnikedinaaa.Sg
