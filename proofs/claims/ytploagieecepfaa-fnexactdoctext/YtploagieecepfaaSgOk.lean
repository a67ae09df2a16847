/- Contracts of SignOk, of the program and of the model: both answer the same plain test of a number. -/
import Derived.Test.YtploagieecepfaaRows
import Derived.WalkKit
import Derived.WalkLawsBesides
import Derived.ProofKit
import Derived.OpenShut
import Derived.ShutString
import Derived.ChangeOld
import Derived.Below
import Derived.Laws.Bits128
namespace Go.Proofs.Ytploagieecepfaa.Sg
open Go.ChangeShapes Go.WideShapes Go.ChangeAt Go.RowKit

theorem own : ownKnob Try.prog.godebug = none := by kernel_rfl
theorem laidOut : laidOutB Try.prog = true := by kernel_rfl

/-- A number is a sign. -/
def okB (n : Int) : Bool := decide (0 ≤ n ∧ n ≤ 1114111 ∧ (n < 55296 ∨ 57343 < n))

theorem okB_yes {n : Int} (h : 0 ≤ n ∧ n ≤ 1114111 ∧ (n < 55296 ∨ 57343 < n)) : okB n = true := decide_eq_true h
theorem okB_no {n : Int} (h : ¬ (0 ≤ n ∧ n ≤ 1114111 ∧ (n < 55296 ∨ 57343 < n))) : okB n = false := decide_eq_false h
theorem okB_of {n : Int} (h : okB n = true) : 0 ≤ n ∧ n ≤ 1114111 ∧ (n < 55296 ∨ 57343 < n) := of_decide_eq_true h
theorem okB_not {n : Int} (h : okB n = false) : ¬ (0 ≤ n ∧ n ≤ 1114111 ∧ (n < 55296 ∨ 57343 < n)) := of_decide_eq_false h

theorem ret_bool {a b : Bool} (h : a = b) : Ending.returned (.bool a) = .returned (.bool b) := by rw [h]

theorem five (n : Int) : (n < 0 ∨ (0 ≤ n ∧ n < 55296)) ∨ (55296 ≤ n ∧ n ≤ 57343) ∨ ((57343 < n ∧ n ≤ 1114111) ∨ 1114111 < n) := by omega



theorem i64_low (n : Int) (m : Nat) (hm : m ≤ 32) (z : Int) (hz : (BitVec.ofInt 64 z).toNat = 2 ^ m - 1) : bits .and .i64 n z = n % ((2 ^ m : Nat) : Int) := by
  have key : (BitVec.ofInt 64 n &&& BitVec.ofInt 64 z).toNat = (n % ((2 ^ 64 : Nat) : Int)).toNat % 2 ^ m := by
    rw [BitVec.toNat_and, BitVec.toNat_ofInt, hz, Nat.and_two_pow_sub_one_eq_mod]
  show IntKind.i64.wrap ((BitVec.ofInt 64 n &&& BitVec.ofInt 64 z).toNat : Nat) = _
  have hp : (2 ^ m : Nat) ≤ 2 ^ 32 := Nat.pow_le_pow_right (by decide) hm
  have hp0 : 0 < (2 ^ m : Nat) := Nat.two_pow_pos m
  have hlt : (n % ((2 ^ 64 : Nat) : Int)).toNat % 2 ^ m < 2 ^ m := Nat.mod_lt _ hp0
  have hdvd : ((2 ^ m : Nat) : Int) ∣ ((2 ^ 64 : Nat) : Int) := Int.natCast_dvd_natCast.2 (Nat.pow_dvd_pow 2 (by omega))
  have hnn : 0 ≤ n % ((2 ^ 64 : Nat) : Int) := Int.emod_nonneg _ (by decide)
  rw [key, IntKind.wrap_i64, Int.natCast_emod, Int.toNat_of_nonneg hnn, Int.emod_emod_of_dvd _ hdvd]
  have h1 := Int.emod_nonneg n (b := ((2 ^ m : Nat) : Int)) (by omega)
  have h2 := Int.emod_lt_of_pos n (b := ((2 ^ m : Nat) : Int)) (by omega)
  generalize n % ((2 ^ m : Nat) : Int) = r at *
  generalize (2 ^ m : Nat) = q at *
  omega

end Go.Proofs.Ytploagieecepfaa.Sg
