/- The library's own variable MaxLen. -/
import Derived.Test.YthipdkagkdnaiaaGreatDoorSgOk
import Derived.Below
import Derived.Shelf.Vars
namespace Go.Proofs.YthipdkagkdnaiaaGreatDoor.Sg
open Go.ChangeShapes Go.WideShapes Go.ChangeAt Go.RowKit

/-- The library's own variable holds some number. -/
def MaxLen (w : World) : Prop := ∃ m : Int, w.cell? ⟨1, 0, none⟩ = some (.int .i64 m)
theorem maxlen {w : World} (h : w.ShapedOpen Tryz.prog) : MaxLen w :=
  cell_of_shapedOpen_int (t := 3) (zero := #[.int .i64 0]) h (of_decide_eq_true (by kernel_rfl)) (by kernel_rfl) rfl (by kernel_rfl) (by kernel_rfl) Tryz.underlying3
theorem MaxLen.below {w w' : World} (h : MaxLen w) (hb : Below w.heap.size w w') : MaxLen w' := by
  obtain ⟨m, hm⟩ := h
  refine ⟨m, (hb.cell (p := ⟨1, 0, none⟩) ?_).trans hm⟩
  show 1 < w.heap.size
  cases hh : w.heap[1]? with
  | none => simp [World.cell?, hh] at hm
  | some o => exact (Array.getElem?_eq_some_iff.1 hh).1

end Go.Proofs.YthipdkagkdnaiaaGreatDoor.Sg
