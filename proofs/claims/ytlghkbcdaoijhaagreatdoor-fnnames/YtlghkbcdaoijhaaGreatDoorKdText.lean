/- Contracts of IsText, of the program and of the model. -/
import Derived.Test.YtlghkbcdaoijhaaGreatDoorKdIn
namespace Go.Proofs.YtlghkbcdaoijhaaGreatDoor.Sg
open Go.ChangeShapes Go.WideShapes Go.ChangeAt Go.RowKit

def textB (n : Int) : Bool := decide (n = 9 ∨ n = 10 ∨ n = 13 ∨ (okB n = true ∧ 32 ≤ n ∧ n ≠ 65534 ∧ n ≠ 65535))

theorem sixT (n : Int) : n = 9 ∨ n = 10 ∨ n = 13 ∨ n = 65534 ∨ n = 65535 ∨ (n ≠ 9 ∧ n ≠ 10 ∧ n ≠ 13 ∧ n ≠ 65534 ∧ n ≠ 65535) := by omega



end Go.Proofs.YtlghkbcdaoijhaaGreatDoor.Sg
