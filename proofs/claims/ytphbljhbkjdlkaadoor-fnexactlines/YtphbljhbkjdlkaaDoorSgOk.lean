/- Contracts of SignOk, of the program and of the model: both answer the same plain test of a number. -/
import Derived.Test.YtphbljhbkjdlkaaDoorRows
import Derived.WalkKit
import Derived.WalkLawsBesides
import Derived.ProofKit
import Derived.OpenShut
import Derived.ShutString
import Derived.ChangeOld
import Derived.Below
namespace Go.Proofs.YtphbljhbkjdlkaaDoor.Sg
open Go.ChangeShapes Go.WideShapes Go.ChangeAt Go.RowKit

theorem own : ownKnob Tryd.prog.godebug = none := by kernel_rfl
theorem laidOut : laidOutB Tryd.prog = true := by kernel_rfl

/-- A number is a sign. -/
def okB (n : Int) : Bool := decide (0 ≤ n ∧ n ≤ 1114111 ∧ (n < 55296 ∨ 57343 < n))

theorem okB_yes {n : Int} (h : 0 ≤ n ∧ n ≤ 1114111 ∧ (n < 55296 ∨ 57343 < n)) : okB n = true := decide_eq_true h
theorem okB_no {n : Int} (h : ¬ (0 ≤ n ∧ n ≤ 1114111 ∧ (n < 55296 ∨ 57343 < n))) : okB n = false := decide_eq_false h
theorem okB_of {n : Int} (h : okB n = true) : 0 ≤ n ∧ n ≤ 1114111 ∧ (n < 55296 ∨ 57343 < n) := of_decide_eq_true h
theorem okB_not {n : Int} (h : okB n = false) : ¬ (0 ≤ n ∧ n ≤ 1114111 ∧ (n < 55296 ∨ 57343 < n)) := of_decide_eq_false h

theorem ret_bool {a b : Bool} (h : a = b) : Ending.returned (.bool a) = .returned (.bool b) := by rw [h]

theorem five (n : Int) : (n < 0 ∨ (0 ≤ n ∧ n < 55296)) ∨ (55296 ≤ n ∧ n ≤ 57343) ∨ ((57343 < n ∧ n ≤ 1114111) ∨ 1114111 < n) := by omega

set_option maxHeartbeats 1000000 in
theorem implSignOk (n : Int) (w : World) :
    Calls Tryd.prog 33 #[.int .i64 n] w fun e w' => e = .returned (.bool (okB n)) ∧ w' = w := by
  rcases five n with (h | ⟨h, h'⟩) | ⟨h, h'⟩ | (⟨h, h'⟩ | h)
  · have ho : okB n = false := okB_no (by omega)
    rw [ho]
    go_enter Tryd.func33, Tryd.ntmps33
    go_wp2
    go_ret
    exact ⟨rfl, rfl⟩
  · have ho : okB n = true := okB_yes (by omega)
    rw [ho]
    go_enter Tryd.func33, Tryd.ntmps33
    go_wp2
    go_ret
    exact ⟨rfl, rfl⟩
  · have ho : okB n = false := okB_no (by omega)
    rw [ho]
    go_enter Tryd.func33, Tryd.ntmps33
    go_wp2
    go_ret
    exact ⟨ret_bool (a := decide (n < 55296) || decide (57343 < n)) (by simp; omega), rfl⟩
  · have ho : okB n = true := okB_yes (by omega)
    rw [ho]
    go_enter Tryd.func33, Tryd.ntmps33
    go_wp2
    go_ret
    exact ⟨rfl, rfl⟩
  · have ho : okB n = false := okB_no (by omega)
    rw [ho]
    go_enter Tryd.func33, Tryd.ntmps33
    go_wp2
    go_ret
    exact ⟨rfl, rfl⟩

set_option maxHeartbeats 1000000 in
theorem specSignOk (n : Int) (w : World) :
    Calls Tryd.prog 34 #[.int .i64 n] w fun e w' => e = .returned (.bool (okB n)) ∧ w' = w := by
  rcases five n with (h | ⟨h, h'⟩) | ⟨h, h'⟩ | (⟨h, h'⟩ | h)
  · have ho : okB n = false := okB_no (by omega)
    rw [ho]
    go_enter Tryd.func34, Tryd.ntmps34
    go_wp2
    go_ret
    exact ⟨rfl, rfl⟩
  · have ho : okB n = true := okB_yes (by omega)
    rw [ho]
    go_enter Tryd.func34, Tryd.ntmps34
    go_wp2
    go_ret
    exact ⟨rfl, rfl⟩
  · have ho : okB n = false := okB_no (by omega)
    rw [ho]
    go_enter Tryd.func34, Tryd.ntmps34
    go_wp2
    go_ret
    exact ⟨rfl, rfl⟩
  · have ho : okB n = true := okB_yes (by omega)
    rw [ho]
    go_enter Tryd.func34, Tryd.ntmps34
    go_wp2
    go_ret
    exact ⟨ret_bool (a := !decide (n ≤ 57343)) (by simp; omega), rfl⟩
  · have ho : okB n = false := okB_no (by omega)
    rw [ho]
    go_enter Tryd.func34, Tryd.ntmps34
    go_wp2
    go_ret
    exact ⟨rfl, rfl⟩

end Go.Proofs.YtphbljhbkjdlkaaDoor.Sg
