/- The state of the program's popTo: a page in a box, its lists owned. -/
import Derived.Test.YtlnegnikedinaaaOpL
import Derived.Test.YtlnegnikedinaaaOpBx
namespace Go.Proofs.Ytlnegnikedinaaa.Sg
open Go.ChangeShapes Go.WideShapes Go.ChangeAt Go.RowKit

theorem popF_end {q : PgB} {k : Nat} (h : q.opn.length ≤ k) : popF (q.opn.length - k) q = q := by
  rw [show q.opn.length - k = 0 by omega]
  rfl
theorem popF_step {q : PgB} {k : Nat} (h : k < q.opn.length) : popF (q.opn.length - k) q = popF ((popS q).opn.length - k) (popS q) := by
  rw [popS_opn, show q.opn.length - k = (q.opn.length - 1 - k) + 1 by omega]
  rfl
theorem cell_named {q : PgB} {m : Nat} (h : q.opn.length = m + 1) : namedB q (q.opn.getD m 0) [[116, 100], [116, 104]] = isCell (lastN q) := by
  rw [named_open (by omega) (by decide)]
  unfold isCell lastN
  rw [if_neg (by omega), show q.opn.length - 1 = m by omega]
  unfold isIn
  simp only [List.any_cons, List.any_nil, Bool.or_false, isT_swap]

end Go.Proofs.Ytlnegnikedinaaa.Sg
