/- The library's Repeat of a nought, five times at most. -/
import Derived.Test.YtdpjmngodbgacaaGreatDoorSgOk
import Derived.Test.YtdpjmngodbgacaaGreatDoorM04
import Derived.Test.YtdpjmngodbgacaaGreatDoorShelf2
namespace Go.Proofs.YtdpjmngodbgacaaGreatDoor.Sg
open Go.ChangeShapes Go.WideShapes Go.ChangeAt Go.RowKit

set_option maxHeartbeats 1000000 in
theorem mulOne (c : Nat) (hc : c ≤ 5) (w : World) : Calls Tryz.prog 89 #[.int .u64 1, .int .u64 (c : Int)] w fun e w' => e = .returned (.tuple #[.int .u64 0, .int .u64 (c : Int)]) ∧ w' = w := by
  have h := fun W => Tryz.bits_Mul64 1 c (by omega) (by omega) W
  rw [Nat.one_mul, Nat.div_eq_of_lt (by omega), Nat.mod_eq_of_lt (by omega)] at h
  go_enter Tryz.func89, Tryz.ntmps89
  go_wp2_with fail
  refine (h _).mono ?_
  rintro e w1 ⟨rfl, rfl⟩
  go_wp2_with fail
  go_ret2
  exact ⟨rfl, rfl⟩

theorem hasIs (v : Bool) (s : ByteArray) (w : World) (h : Lib.hasPrefix s.data.toList [48] = v) : Calls Tryz.prog 90 #[.string s, .string ⟨#[48]⟩] w fun e w' => e = .returned (.bool v) ∧ w' = w := by
  have h1 := Tryz.strings_HasPrefix s ⟨#[48]⟩ w
  rw [show (⟨#[48]⟩ : ByteArray).data.toList = [48] from rfl, h] at h1
  exact h1

set_option maxHeartbeats 4000000 in
set_option maxRecDepth 20000 in
theorem rep3 (c : Nat) (hc : c ≤ 5) (hc2 : 2 ≤ c) (w : World) : Calls Tryz.prog 59 #[.string ⟨#[48]⟩, .int .i64 (c : Int)] w fun e w' => e = .returned (.string ⟨(List.replicate c 48).toArray⟩) ∧ w' = w := by
  have g0 : ((c : Int) == 0) = false := by simp; omega
  have g1 : ((c : Int) == 1) = false := by simp; omega
  have g2 : ¬ (c : Int) < 0 := by omega
  go_enter Tryz.func59, Tryz.ntmps59
  go_wp2_with fail
  refine (mulOne c hc _).mono ?_
  rintro e w1 ⟨rfl, rfl⟩
  go_wp2_with fail
  refine (hasIs false _ _ (by decide +kernel)).mono ?_
  rintro e w1 ⟨rfl, rfl⟩
  go_wp2_with fail
  refine (hasIs false _ _ (by decide +kernel)).mono ?_
  rintro e w1 ⟨rfl, rfl⟩
  go_wp2_with fail
  refine (hasIs true _ _ (by decide +kernel)).mono ?_
  rintro e w1 ⟨rfl, rfl⟩
  have q1 : (c : Int) ≤ 64 := by omega
  go_wp2_with fail
  go_ret
  refine ⟨ret_str ?_, rfl⟩
  have key : ∀ c, c ≤ 5 → (⟨(List.replicate 64 48).toArray⟩ : ByteArray).extract 0 c = ⟨(List.replicate c 48).toArray⟩ := by decide +kernel
  exact key c hc

set_option maxHeartbeats 1000000 in
set_option maxRecDepth 20000 in
theorem rep0 (c : Nat) (hc : c ≤ 5) (w : World) : Calls Tryz.prog 59 #[.string ⟨#[48]⟩, .int .i64 (c : Int)] w fun e w' => e = .returned (.string ⟨(List.replicate c 48).toArray⟩) ∧ w' = w := by
  rcases (by omega : c = 0 ∨ c = 1 ∨ 2 ≤ c) with rfl | rfl | h
  · go_enter Tryz.func59, Tryz.ntmps59
    go_wp2_with fail
    go_ret
    exact ⟨rfl, rfl⟩
  · go_enter Tryz.func59, Tryz.ntmps59
    go_wp2_with fail
    go_ret
    exact ⟨rfl, rfl⟩
  · exact rep3 c hc h w
end Go.Proofs.YtdpjmngodbgacaaGreatDoor.Sg
