/- A page that came in. -/
import Derived.Test.YtlnegnikedinaaaMDMark02
import Derived.Test.YtlnegnikedinaaaItCame
namespace Go.Proofs.Ytlnegnikedinaaa.Sg
open Go.ChangeShapes Go.WideShapes Go.ChangeAt Go.RowKit

theorem its_in {H : Type} {enc : TypeId × Value → H} {W : World} {base : Nat} {spare : Nat → Bool} {held : Bool} {fuel : Nat} {v : Value} {x : DataW H × List MemPlace}
    (h : DataW.trod enc Try.prog W base spare held fuel 30 [v] = some x) : ∃ (l : List ItB) (a : Option Addr) (c : Nat), v = .slice a l.length c ∧ ItsIn W a l ∧ ItsHeld l := by
  obtain ⟨a, n, c, rfl⟩ : ∃ a n c, v = .slice a n c := by
    rcases Deep.open_slice Try.underlying30 h with ⟨hcs, _⟩ | ⟨y, l, c, mm, nn, D, Pl, hcs, _⟩
    · exact ⟨_, _, _, by simpa using hcs⟩
    · exact ⟨_, _, _, by simpa using hcs⟩
  obtain ⟨l, rfl, h1, h2⟩ := its_came (d := x.1) (p := x.2) ⟨fuel, by simpa [Value.cells] using h⟩
  exact ⟨l, a, c, rfl, h1, h2⟩

set_option maxRecDepth 100000 in
theorem page_came {H : Type} {enc : TypeId × Value → H} {W : World} {m : Nat} {rd : Nat → Bool} {sp : Bool} {cs : Array Value} {d : DataW H} {p : List MemPlace} (hcs : cs.size = 5)
    (h : DataW.Trod enc Try.prog W m rd sp 32 (.agg cs) d p) : ∃ q : PgB, PgIn W (.agg cs) q ∧ PgHeld q := by
  obtain ⟨fuel, hf⟩ := h
  obtain ⟨v0, v1, v2, v3, v4, rfl⟩ : ∃ v0 v1 v2 v3 v4, cs = #[v0, v1, v2, v3, v4] := by
    obtain ⟨l⟩ := cs
    match l, hcs with
    | [v0, v1, v2, v3, v4], _ => exact ⟨_, _, _, _, _, rfl⟩
  obtain ⟨xs, k, hk, _, _, hxl, hfl⟩ := DataW.trod_struct Try.underlying32 hf
  have k3 : Try.prog.cellsOf 3 = 1 := by kernel_rfl
  have kt : Try.prog.cellsOf 30 = 1 := by kernel_rfl
  have ki : Try.prog.cellsOf 23 = 1 := by kernel_rfl
  match xs, hxl with
  | [y0, y1, y2, y3, y4], _ =>
    have g0 := hfl 0 _ rfl
    have g1 := hfl 1 _ rfl
    have g2 := hfl 2 _ rfl
    have g3 := hfl 3 _ rfl
    have g4 := hfl 4 _ rfl
    simp [k3, kt, ki, Value.cells] at g0 g1 g2 g3 g4
    obtain ⟨l, a, c, rfl, hI, hh⟩ := its_in g0
    obtain ⟨zo, ⟨oa, oc, rfl, hO⟩, ho⟩ := ints_in g1
    obtain ⟨zf, ⟨fa, fc, rfl, hF⟩, hf'⟩ := ints_in g2
    obtain ⟨hd, e3, _, _⟩ := DataW.trod_int Try.underlying3 g3
    obtain ⟨bd, e4, _, _⟩ := DataW.trod_int Try.underlying3 g4
    obtain rfl : v3 = .int .i64 hd := by simpa using e3
    obtain rfl : v4 = .int .i64 bd := by simpa using e4
    exact ⟨⟨l, zo, zf, hd, bd⟩, ⟨a, c, oa, oc, fa, fc, rfl, hI, hO, hF⟩, hh, ho, hf'⟩

end Go.Proofs.Ytlnegnikedinaaa.Sg
