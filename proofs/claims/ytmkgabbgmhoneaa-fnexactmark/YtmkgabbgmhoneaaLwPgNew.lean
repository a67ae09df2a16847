/- The law of PageNew, of what the program's and the model's functions hand back. -/
import Derived.Test.YtmkgabbgmhoneaaLwPgSt
namespace Go.Proofs.Ytmkgabbgmhoneaa.Sg
open Go.ChangeShapes Go.WideShapes Go.ChangeAt Go.RowKit

/-- A page that is new. -/
def pgNew : PgB := ⟨[⟨1, 0, ⟨#[]⟩, [], ⟨#[]⟩, -1, []⟩], [], [], 0, 0⟩

structure LwN (w Wz : World) (V6 V8 : Nat → Value) (c6 c8 Bg : Nat) (gi go gf : Value) (W : World) (pg : PgB) : Prop where
  b0 : Below w.heap.size w W
  bz : Below Wz.heap.size Wz W
  f6 : Many 5 W c6 V6
  f8 : Many 5 W c8 V8
  og : OwnPgU W Bg c8 gi go gf pg
  ord : w.heap.size ≤ Wz.heap.size ∧ Wz.heap.size ≤ c6 ∧ c6 < Bg ∧ Bg ≤ c8
section
variable {w Wz : World} {V6 V8 : Nat → Value} {c6 c8 Bg : Nat} {gi go gf : Value} {W W' : World} {pg : PgB}
theorem LwN.keep (h : LwN w Wz V6 V8 c6 c8 Bg gi go gf W pg) (hb : Below W.heap.size W W') : LwN w Wz V6 V8 c6 c8 Bg gi go gf W' pg :=
  ⟨below_then h.b0 hb, below_then h.bz hb, h.f6.keep hb, h.f8.keep hb, h.og.keep hb, h.ord⟩
theorem LwN.markG (h : LwN w Wz V6 V8 c6 c8 Bg gi go gf W pg) (hk : Kb W W' (fun b => Bg ≤ b ∧ b < c8)) {pg' : PgB} (ho : OwnPgU W' Bg c8 gi go gf pg') : LwN w Wz V6 V8 c6 c8 Bg gi go gf W' pg' := by
  obtain ⟨o1, o2, o3, o4⟩ := h.ord
  exact ⟨h.b0.trans (hk.below h.b0.size fun b hb => by have := hb.1; omega), h.bz.trans (hk.below h.bz.size fun b hb => by have := hb.1; omega), h.f6.kb hk (fun hb => by have := hb.1; omega), h.f8.kb hk (fun hb => by have := hb.2; omega), ho, h.ord⟩
end

theorem new_light : PgLight pgNew ∧ PgSize pgNew := by
  refine ⟨⟨by decide, by decide, fun t ht => ?_, by decide, by decide⟩, ⟨by decide, fun t ht => ?_, by decide, by decide⟩⟩
  all_goals
    obtain rfl := List.mem_singleton.1 ht
    exact ⟨Nat.zero_le _, Nat.zero_le _⟩


end Go.Proofs.Ytmkgabbgmhoneaa.Sg
