/- Contracts of IsBlank and IsText, of the program and of the model, and of the model's test of a span. -/
import Derived.Test.YtfbnhjogkjbcbaaDoorSgOk
import Derived.Test.YtfbnhjogkjbcbaaDoorKdPlain
namespace Go.Proofs.YtfbnhjogkjbcbaaDoor.Sg
open Go.ChangeShapes Go.WideShapes Go.ChangeAt Go.RowKit

set_option maxHeartbeats 1000000 in
theorem l1In_kd (n lo hi : Int) (w : World) :
    Calls Tryd.prog 40 #[.int .i64 n, .int .i64 lo, .int .i64 hi] w fun e w' => e = .returned (.bool (inP n (lo, hi))) ∧ w' = w := by
  by_cases h1 : lo ≤ n
  · by_cases h2 : n ≤ hi
    · have ho : inP n (lo, hi) = true := decide_eq_true ⟨h1, h2⟩
      rw [ho]
      go_enter Tryd.func40, Tryd.ntmps40
      go_wp2
      go_ret
      exact ⟨rfl, rfl⟩
    · have ho : inP n (lo, hi) = false := decide_eq_false fun h => h2 h.2
      rw [ho]
      go_enter Tryd.func40, Tryd.ntmps40
      go_wp2
      go_ret
      exact ⟨rfl, rfl⟩
  · have ho : inP n (lo, hi) = false := decide_eq_false fun h => h1 h.1
    rw [ho]
    go_enter Tryd.func40, Tryd.ntmps40
    go_wp2
    go_ret
    exact ⟨rfl, rfl⟩

theorem same_below {B : Nat} {a w w' : World} (h : w' = w) (b : Below B a w) : Below B a w' := h ▸ b

theorem six (n : Int) : n = 9 ∨ n = 10 ∨ n = 12 ∨ n = 13 ∨ n = 32 ∨ (n ≠ 9 ∧ n ≠ 10 ∧ n ≠ 12 ∧ n ≠ 13 ∧ n ≠ 32) := by omega


end Go.Proofs.YtfbnhjogkjbcbaaDoor.Sg
