/- Contracts of IsBlank and IsText, of the program and of the model, and of the model's test of a span. -/
import Derived.Test.YtlnegnikedinaaaSgOk
import Derived.Test.YtlnegnikedinaaaKdPlain
namespace Go.Proofs.Ytlnegnikedinaaa.Sg
open Go.ChangeShapes Go.WideShapes Go.ChangeAt Go.RowKit


theorem same_below {B : Nat} {a w w' : World} (h : w' = w) (b : Below B a w) : Below B a w' := h ▸ b

theorem six (n : Int) : n = 9 ∨ n = 10 ∨ n = 12 ∨ n = 13 ∨ n = 32 ∨ (n ≠ 9 ∧ n ≠ 10 ∧ n ≠ 12 ∧ n ≠ 13 ∧ n ≠ 32) := by omega


end Go.Proofs.Ytlnegnikedinaaa.Sg
