/- Contract of the model's l18Number. Below, one behind the other. Contracts of the model's l5Stands and l5Search. -/
import Derived.Test.YthikgkhnhbaccaaDoorMO16
import Derived.Test.YthikgkhnhbaccaaDoorMO12
import Derived.Test.YthikgkhnhbaccaaDoorMO14
import Derived.Test.YthikgkhnhbaccaaDoorSgOk
import Derived.Below
import Derived.Test.YthikgkhnhbaccaaDoorScSt
import Derived.Test.YthikgkhnhbaccaaDoorMO09
import Derived.Laws.DeepStrings4
namespace Go.Proofs.YthikgkhnhbaccaaDoor.Sg
open Go.ChangeShapes Go.WideShapes Go.ChangeAt Go.RowKit

/-- How great a number can be with so many digits still to come. -/
def capN : Nat → Nat
  | 0 => 9999999
  | 1 => 999999
  | 2 => 99999
  | 3 => 9999
  | 4 => 999
  | 5 => 99
  | 6 => 9
  | _ => 0
theorem capN_step {f n d : Nat} (hf : f < 7) (hn : n ≤ capN (f + 1)) (hd : d ≤ 9) : 10 * n + d ≤ capN f := by
  match f, hf with
  | 0, _ | 1, _ | 2, _ | 3, _ | 4, _ | 5, _ | 6, _ => simp [capN] at hn ⊢; omega
theorem capN_le (f : Nat) : capN f ≤ 9999999 := by
  unfold capN
  split <;> omega
/-- What the model's l18Number hands back. -/
def numV : Option (Nat × Nat) → Value
  | none => .tuple #[.int .i64 0, .int .i64 (-1)]
  | some r => .tuple #[.int .i64 (r.1 : Int), .int .i64 (r.2 : Int)]
theorem xnumR_of {s : ByteArray} {k n j : Nat} (h : xdigR s 7 (k + 2) 0 = (n, j)) : xnumR s k = if j = k + 2 ∨ bN s (k + 2) = 48 ∨ ¬ j < s.size ∨ bN s j ≠ 59 ∨ textB (n : Int) = false then none else some (n, j) := by
  unfold xnumR
  rw [h]

end Go.Proofs.YthikgkhnhbaccaaDoor.Sg

namespace Go.Proofs.YthikgkhnhbaccaaDoor.Sg
open Go.ChangeShapes Go.WideShapes Go.ChangeAt Go.RowKit

theorem below_from {w a b : World} (h : Below w.heap.size w a) (k : Below a.heap.size a b) : Below w.heap.size w b := h.trans (k.mono h.size)

end Go.Proofs.YthikgkhnhbaccaaDoor.Sg

namespace Go.Proofs.YthikgkhnhbaccaaDoor.Sg
open Go.ChangeShapes Go.WideShapes Go.ChangeAt Go.RowKit

end Go.Proofs.YthikgkhnhbaccaaDoor.Sg
