/- Contract of the laws' attributes compared: one with itself. -/
import Derived.Test.YtploagieecepfaaSgOk
import Derived.Below
namespace Go.Proofs.Ytploagieecepfaa.Sg
open Go.ChangeShapes Go.WideShapes Go.ChangeAt Go.RowKit

set_option maxHeartbeats 2000000 in
theorem eqAttr_same (x y : ByteArray) (w : World) :
    Calls Try.prog 37 #[.agg #[.string x, .string y], .agg #[.string x, .string y]] w fun e w' => e = .returned (.bool true) ∧ Below w.heap.size w w' := by
  have g1 : (x.toList == x.toList) = true := by simp
  have g2 : (y.toList == y.toList) = true := by simp
  go_enter Try.func37, Try.ntmps37
  go_wp2
  go_ret
  exact ⟨rfl, ((Below.refl _ _).alloc (Nat.le_refl _) _).alloc (by simp) _⟩

end Go.Proofs.Ytploagieecepfaa.Sg
