/- Contracts of what a digit counts, and of the smaller of two numbers. -/
import Derived.Test.YtfbnhjogkjbcbaaDoorRfP
import Derived.Test.YtfbnhjogkjbcbaaDoorRfNum
namespace Go.Proofs.YtfbnhjogkjbcbaaDoor.Sg
open Go.ChangeShapes Go.WideShapes Go.ChangeAt Go.RowKit

/-- What a digit of 10 or of 16 counts; -1 of what is none. -/
def dig3 (hex : Bool) (b : Nat) : Int := if digV b < (if hex then 16 else 10) then (digV b : Int) else -1

theorem seven (b : Nat) : b < 48 ∨ (48 ≤ b ∧ b ≤ 57) ∨ (58 ≤ b ∧ b ≤ 64) ∨ (65 ≤ b ∧ b ≤ 70) ∨ (71 ≤ b ∧ b ≤ 96) ∨ (97 ≤ b ∧ b ≤ 102) ∨ 103 ≤ b := by omega

theorem dig3_ten {b : Nat} (h : 48 ≤ b ∧ b ≤ 57) (hex : Bool) : dig3 hex b = (b : Int) - 48 := by
  have : digV b = b - 48 := by rcases digV_cases b with h | h | h | h <;> omega
  unfold dig3
  rw [if_pos (by cases hex <;> simp <;> omega)]
  omega
theorem dig3_low {b : Nat} (h : 97 ≤ b ∧ b ≤ 102) : dig3 true b = (b : Int) - 87 := by
  have : digV b = b - 87 := by rcases digV_cases b with h | h | h | h <;> omega
  unfold dig3
  rw [if_pos (by simp; omega)]
  omega
theorem dig3_big {b : Nat} (h : 65 ≤ b ∧ b ≤ 70) : dig3 true b = (b : Int) - 55 := by
  have : digV b = b - 55 := by rcases digV_cases b with h | h | h | h <;> omega
  unfold dig3
  rw [if_pos (by simp; omega)]
  omega
theorem dig3_not {b : Nat} (h : ¬ (48 ≤ b ∧ b ≤ 57)) : dig3 false b = -1 := by
  have : 10 ≤ digV b := by rcases digV_cases b with h | h | h | h <;> omega
  unfold dig3
  rw [if_neg (by simp; omega)]
theorem dig3_none {b : Nat} (h : ¬ (48 ≤ b ∧ b ≤ 57)) (h1 : ¬ (97 ≤ b ∧ b ≤ 102)) (h2 : ¬ (65 ≤ b ∧ b ≤ 70)) (hex : Bool) : dig3 hex b = -1 := by
  have : digV b = 16 := by rcases digV_cases b with h | h | h | h <;> omega
  unfold dig3
  rw [if_neg (by cases hex <;> simp <;> omega)]

set_option maxHeartbeats 2000000 in
theorem specDigit (b : Nat) (hex : Bool) (w : World) (hb : b < 256) :
    Calls Tryd.prog 50 #[.int .u8 (b : Int), .bool hex] w fun e w' => e = .returned (.int .i64 (dig3 hex b)) ∧ w' = w := by
  cases hex
  · rcases seven b with h | h | h | h | h | h | h
    case inr.inl =>
      have Hn : Hid (dig3 false b = (b : Int) - 48) := dig3_ten h false
      obtain ⟨h1, h2⟩ := h
      go_enter Tryd.func50, Tryd.ntmps50
      go_wp2
      go_ret
      exact ⟨ret_i64 Hn.out.symm, rfl⟩
    all_goals
      have Hn : Hid (dig3 false b = -1) := dig3_not (by omega)
      go_enter Tryd.func50, Tryd.ntmps50
      go_wp2
      all_goals (go_ret; exact ⟨ret_i64 Hn.out.symm, rfl⟩)
  · rcases seven b with h | h | h | h | h | h | h
    case inr.inl =>
      have Hn : Hid (dig3 true b = (b : Int) - 48) := dig3_ten h true
      obtain ⟨h1, h2⟩ := h
      go_enter Tryd.func50, Tryd.ntmps50
      go_wp2
      go_ret
      exact ⟨ret_i64 Hn.out.symm, rfl⟩
    case inr.inr.inr.inl =>
      have Hn : Hid (dig3 true b = (b : Int) - 55) := dig3_big h
      obtain ⟨h1, h2⟩ := h
      go_enter Tryd.func50, Tryd.ntmps50
      go_wp2
      go_ret
      exact ⟨ret_i64 Hn.out.symm, rfl⟩
    case inr.inr.inr.inr.inr.inl =>
      have Hn : Hid (dig3 true b = (b : Int) - 87) := dig3_low h
      obtain ⟨h1, h2⟩ := h
      go_enter Tryd.func50, Tryd.ntmps50
      go_wp2
      go_ret
      exact ⟨ret_i64 Hn.out.symm, rfl⟩
    all_goals
      have Hn : Hid (dig3 true b = -1) := dig3_none (by omega) (by omega) (by omega) true
      go_enter Tryd.func50, Tryd.ntmps50
      go_wp2
      all_goals (go_ret; exact ⟨ret_i64 Hn.out.symm, rfl⟩)


end Go.Proofs.YtfbnhjogkjbcbaaDoor.Sg
