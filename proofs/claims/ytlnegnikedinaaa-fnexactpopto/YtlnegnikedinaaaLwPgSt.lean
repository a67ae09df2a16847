/- The state of a law whose function hands a page back: which pages and boxes there are, and what keeps them. No walk in it. -/
import Derived.Test.YtlnegnikedinaaaMDPopTo04
import Derived.Test.YtlnegnikedinaaaLwPgIn
namespace Go.Proofs.Ytlnegnikedinaaa.Sg
open Go.ChangeShapes Go.WideShapes Go.ChangeAt Go.RowKit

theorem markIs_le (l : List ItB) : markIs l ≤ 5 * itsW l := by
  unfold markIs itsW
  induction l with
  | nil => simp
  | cons t l ih =>
    simp only [List.map_cons, List.sum_cons, List.length_cons]
    have : markIn t ≤ 5 + 5 * itW t := by unfold markIn itW attrsW; omega
    omega
theorem pg_marks {p : PgB} (h : pgW p ≤ 1048576) : PgLight p := by
  have hm := markIs_le p.its
  unfold pgW at h
  refine ⟨by unfold itsW at h; omega, by omega, fun t ht => ?_, by omega, by omega⟩
  have := itW_le' ht
  unfold itW attrsW at this
  omega

theorem Many.kb {n : Nat} {w w' : World} {b : Nat} {f : Nat → Value} (h : Many n w b f) {S : Nat → Prop} (hk : Kb w w' S) (hS : ¬ S b) : Many n w' b f :=
  ⟨Nat.lt_of_lt_of_le h.1 hk.size, fun i hi => ⟨(hk.cell h.1 hS).trans (h.2 i hi).1, (World.frozen?_of_block (a := ⟨b, i, none⟩) (hk.block b h.1 hS)).trans (h.2 i hi).2⟩⟩

/-- A page is kept where what turns lies behind it. -/
theorem OwnPgU.kbU {w w' : World} {B U : Nat} {iv ov fv : Value} {p : PgB} (h : OwnPgU w B U iv ov fv p) {S : Nat → Prop} (hk : Kb w w' S) (hS : ∀ b, S b → U ≤ b) : OwnPgU w' B U iv ov fv p := by
  obtain ⟨L, h1, h2, h3, h4, h5, h6, h7, h8⟩ := h
  have no : ∀ b, PgBl iv ov fv L b → ¬ S b := fun b hb hs => absurd (hS b hs) (Nat.not_le_of_lt (h8 b hb))
  exact ⟨L, h1, hk.owns h2 fun b hb => no b (.inl (.inl hb)), ⟨fun q hq => ⟨hk.owns (h3.1 q hq).1 fun b hb => no b (.inl (.inr ⟨q, hq, .inl hb⟩)), hk.owns (h3.1 q hq).2 fun b hb => no b (.inl (.inr ⟨q, hq, .inr hb⟩))⟩, h3.2⟩, hk.owns h4 fun b hb => no b (.inr (.inl hb)), hk.owns h5 fun b hb => no b (.inr (.inr hb)), h6, h7, h8⟩

/-- What is held while the law goes on: the argument's box, the model's page and its box, the program's argument and answer and their boxes. -/
structure LwS (w Wz : World) (V0 V6 V7 V8 : Nat → Value) (c6 c7 c8 Bx Bg : Nat) (xi xo xf gi go gf : Value) (W : World) (px pg : PgB) : Prop where
  b0 : Below w.heap.size w W
  bz : Below Wz.heap.size Wz W
  f0 : Many 5 W w.heap.size V0
  f6 : Many 5 W c6 V6
  f7 : Many 5 W c7 V7
  f8 : Many 5 W c8 V8
  ox : OwnPgU W Bx c7 xi xo xf px
  og : OwnPgU W Bg c8 gi go gf pg
  ord : w.heap.size < Wz.heap.size ∧ Wz.heap.size ≤ c6 ∧ c6 < Bx ∧ Bx ≤ c7 ∧ c7 < Bg ∧ Bg ≤ c8

theorem LwS.keep {w Wz : World} {V0 V6 V7 V8 : Nat → Value} {c6 c7 c8 Bx Bg : Nat} {xi xo xf gi go gf : Value} {W W' : World} {px pg : PgB} (h : LwS w Wz V0 V6 V7 V8 c6 c7 c8 Bx Bg xi xo xf gi go gf W px pg) (hb : Below W.heap.size W W') : LwS w Wz V0 V6 V7 V8 c6 c7 c8 Bx Bg xi xo xf gi go gf W' px pg :=
  ⟨below_then h.b0 hb, below_then h.bz hb, h.f0.keep hb, h.f6.keep hb, h.f7.keep hb, h.f8.keep hb, h.ox.keep hb, h.og.keep hb, h.ord⟩
theorem LwS.drew {w Wz : World} {V0 V6 V7 V8 : Nat → Value} {c6 c7 c8 Bx Bg : Nat} {xi xo xf gi go gf : Value} {W : World} {px pg : PgB} (h : LwS w Wz V0 V6 V7 V8 c6 c7 c8 Bx Bg xi xo xf gi go gf W px pg) : LwS w Wz V0 V6 V7 V8 c6 c7 c8 Bx Bg xi xo xf gi go gf W.drew px pg := h.keep ((Below.refl _ _).drew)
theorem LwS.markX {w Wz : World} {V0 V6 V7 V8 : Nat → Value} {c6 c7 c8 Bx Bg : Nat} {xi xo xf gi go gf : Value} {W W' : World} {px pg : PgB} (h : LwS w Wz V0 V6 V7 V8 c6 c7 c8 Bx Bg xi xo xf gi go gf W px pg) (hk : Kb W W' (fun b => Bx ≤ b ∧ b < c7)) {px' : PgB} (ho : OwnPgU W' Bx c7 xi xo xf px') : LwS w Wz V0 V6 V7 V8 c6 c7 c8 Bx Bg xi xo xf gi go gf W' px' pg := by
  obtain ⟨o1, o2, o3, o4, o5, o6⟩ := h.ord
  refine ⟨h.b0.trans (hk.below h.b0.size fun b hb => by have := hb.1; omega), h.bz.trans (hk.below h.bz.size fun b hb => by have := hb.1; omega), h.f0.kb hk (fun hb => by have := hb.1; omega), h.f6.kb hk (fun hb => by have := hb.1; omega), h.f7.kb hk (fun hb => by have := hb.2; omega), h.f8.kb hk (fun hb => by have := hb.2; omega), ho, h.og.kb hk fun b hb => by have := hb.2; omega, h.ord⟩
theorem LwS.markG {w Wz : World} {V0 V6 V7 V8 : Nat → Value} {c6 c7 c8 Bx Bg : Nat} {xi xo xf gi go gf : Value} {W W' : World} {px pg : PgB} (h : LwS w Wz V0 V6 V7 V8 c6 c7 c8 Bx Bg xi xo xf gi go gf W px pg) (hk : Kb W W' (fun b => Bg ≤ b ∧ b < c8)) {pg' : PgB} (ho : OwnPgU W' Bg c8 gi go gf pg') : LwS w Wz V0 V6 V7 V8 c6 c7 c8 Bx Bg xi xo xf gi go gf W' px pg' := by
  obtain ⟨o1, o2, o3, o4, o5, o6⟩ := h.ord
  exact ⟨h.b0.trans (hk.below h.b0.size fun b hb => by have := hb.1; omega), h.bz.trans (hk.below h.bz.size fun b hb => by have := hb.1; omega), h.f0.kb hk (fun hb => by have := hb.1; omega), h.f6.kb hk (fun hb => by have := hb.1; omega), h.f7.kb hk (fun hb => by have := hb.1; omega), h.f8.kb hk (fun hb => by have := hb.2; omega), h.ox.kbU hk (fun b hb => by have := hb.1; omega), ho, h.ord⟩

end Go.Proofs.Ytlnegnikedinaaa.Sg
