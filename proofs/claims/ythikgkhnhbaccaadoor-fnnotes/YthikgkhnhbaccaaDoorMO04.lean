/- Contracts of the program's digitOf, withEnd and numberAt. The program's strictNumber and refSign. The library's own variable MaxLen. -/
import Derived.Test.YthikgkhnhbaccaaDoorRfNumber
import Derived.Test.YthikgkhnhbaccaaDoorMO13
import Derived.Test.YthikgkhnhbaccaaDoorPcRef
import Derived.Test.YthikgkhnhbaccaaDoorMO14
import Derived.Test.YthikgkhnhbaccaaDoorShelf
import Derived.Test.YthikgkhnhbaccaaDoorSgOk
import Derived.Below
import Derived.Shelf.Vars
namespace Go.Proofs.YthikgkhnhbaccaaDoor.Sg
open Go.ChangeShapes Go.WideShapes Go.ChangeAt Go.RowKit

theorem ret_two {a b c d : Int} (h : a = c) (h2 : b = d) : Ending.returned (.tuple #[.int .i64 a, .int .i64 b]) = .returned (.tuple #[.int .i64 c, .int .i64 d]) := by rw [h, h2]

end Go.Proofs.YthikgkhnhbaccaaDoor.Sg

namespace Go.Proofs.YthikgkhnhbaccaaDoor.Sg
open Go.ChangeShapes Go.WideShapes Go.ChangeAt Go.RowKit

/-- A sign and no error, or an error. -/
def pnumV (a : Addr) : Option Int → Value
  | some z => .tuple #[.int .i64 z, .nilIface]
  | none => .tuple #[.int .i64 0, errV a]
theorem ret_pnum {a : Addr} {o : Option Int} {z : Int} (h : o = some z) : Ending.returned (.tuple #[.int .i64 z, .nilIface]) = .returned (pnumV a o) := by rw [h]; rfl
theorem ret_pnum0 {a : Addr} {o : Option Int} (h : o = none) : Ending.returned (.tuple #[.int .i64 0, errV a]) = .returned (pnumV a o) := by rw [h]; rfl
theorem zero_prefix (d : List UInt8) : Lib.hasPrefix d [48] = decide (d.head? = some 48) := by
  unfold Lib.hasPrefix
  cases d with
  | nil => rfl
  | cons b d =>
    show ((48 : UInt8) == b && true) = _
    rw [Bool.and_true]
    by_cases h : b = 48
    · subst h
      rfl
    · have h2 : ((48 : UInt8) == b) = false := beq_false_of_ne (Ne.symm h)
      rw [h2]
      simp [h]

theorem ne_of_beq_false {x y : List UInt8} (h : (x == y) = false) : ¬ x = y := fun e => by rw [e] at h; simp at h
theorem hash_prefix (x : List UInt8) : Lib.hasPrefix x [35] = decide (x.head? = some 35) := by
  unfold Lib.hasPrefix
  cases x with
  | nil => rfl
  | cons b d =>
    show ((35 : UInt8) == b && true) = _
    rw [Bool.and_true]
    by_cases h : b = 35
    · subst h
      rfl
    · have h2 : ((35 : UInt8) == b) = false := beq_false_of_ne (Ne.symm h)
      rw [h2]
      simp [h]

end Go.Proofs.YthikgkhnhbaccaaDoor.Sg

namespace Go.Proofs.YthikgkhnhbaccaaDoor.Sg
open Go.ChangeShapes Go.WideShapes Go.ChangeAt Go.RowKit

/-- The library's own variable holds some number. -/
def MaxLen (w : World) : Prop := ∃ m : Int, w.cell? ⟨1, 0, none⟩ = some (.int .i64 m)
theorem maxlen {w : World} (h : w.ShapedOpen Tryd.prog) : MaxLen w :=
  cell_of_shapedOpen_int (t := 3) (zero := #[.int .i64 0]) h (of_decide_eq_true (by kernel_rfl)) (by kernel_rfl) rfl (by kernel_rfl) (by kernel_rfl) Tryd.underlying3
theorem MaxLen.below {w w' : World} (h : MaxLen w) (hb : Below w.heap.size w w') : MaxLen w' := by
  obtain ⟨m, hm⟩ := h
  refine ⟨m, (hb.cell (p := ⟨1, 0, none⟩) ?_).trans hm⟩
  show 1 < w.heap.size
  cases hh : w.heap[1]? with
  | none => simp [World.cell?, hh] at hm
  | some o => exact (Array.getElem?_eq_some_iff.1 hh).1

end Go.Proofs.YthikgkhnhbaccaaDoor.Sg
