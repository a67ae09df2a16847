/- Contracts of IsBlank and IsText, of the program and of the model, and of the model's test of a span. -/
import Derived.Test.YtlaidaghmhmgbaaSgOk
import Derived.Test.YtlaidaghmhmgbaaKdPlain
namespace Go.Proofs.Ytlaidaghmhmgbaa.Sg
open Go.ChangeShapes Go.WideShapes Go.ChangeAt Go.RowKit


theorem same_below {B : Nat} {a w w' : World} (h : w' = w) (b : Below B a w) : Below B a w' := h ▸ b

theorem six (n : Int) : n = 9 ∨ n = 10 ∨ n = 12 ∨ n = 13 ∨ n = 32 ∨ (n ≠ 9 ∧ n ≠ 10 ∧ n ≠ 12 ∧ n ≠ 13 ∧ n ≠ 32) := by omega

set_option maxHeartbeats 1000000 in
theorem specIsBlank (n : Int) (w : World) :
    Calls Try.prog 36 #[.int .i64 n] w fun e w' => e = .returned (.bool (blankB n)) ∧ w' = w := by
  rcases six n with rfl | rfl | rfl | rfl | rfl | ⟨h1, h2, h3, h4, h5⟩
  iterate 5
    · go_enter Try.func36, Try.ntmps36
      go_wp2
      go_ret
      exact ⟨rfl, rfl⟩
  · have ho : blankB n = false := decide_eq_false (by omega)
    rw [ho]
    have g1 : (n == 9) = false := beq_false_of_ne h1
    have g2 : (n == 10) = false := beq_false_of_ne h2
    have g3 : (n == 12) = false := beq_false_of_ne h3
    have g4 : (n == 13) = false := beq_false_of_ne h4
    have g5 : (n == 32) = false := beq_false_of_ne h5
    clear h1 h2 h3 h4 h5
    go_enter Try.func36, Try.ntmps36
    go_wp2
    go_ret
    exact ⟨rfl, rfl⟩

end Go.Proofs.Ytlaidaghmhmgbaa.Sg
