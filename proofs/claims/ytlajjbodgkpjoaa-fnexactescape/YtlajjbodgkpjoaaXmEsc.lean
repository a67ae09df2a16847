/- Contracts of the model's Escape and SpaceName. -/
import Derived.Test.YtlajjbodgkpjoaaXmEscP
import Derived.Test.YtlajjbodgkpjoaaSpSwap
namespace Go.Proofs.Ytlajjbodgkpjoaa.Sg
open Go.ChangeShapes Go.WideShapes Go.ChangeAt Go.RowKit

set_option maxHeartbeats 2000000 in
theorem specEscape (s : ByteArray) (v : Bool) (w : World) (hs : s.size ≤ 1099511627776) :
    Calls Try.prog 7 #[.string s, .bool v] w fun e w' => e = .returned (.string (escS s v)) ∧ Below w.heap.size w w' := by
  cases v
  · have HT := Texts.laid w (escT false) #[.string ⟨#[38, 97, 109, 112, 59]⟩, .string ⟨#[38, 108, 116, 59]⟩, .string ⟨#[38, 103, 116, 59]⟩, .string ⟨#[38, 35, 49, 51, 59]⟩] 9 rfl
    have C := specSwap s ⟨#[38, 60, 62, 13]⟩ (escT false) w.heap.size 4 4 _ hs (by decide) HT rfl rfl (by decide)
    go_enter Try.func7, Try.ntmps7
    go_wp2_with fail
    refine C.mono ?_
    rintro e w1 ⟨rfl, b1⟩
    go_wp2_with fail
    go_ret
    exact ⟨rfl, ((Below.refl _ _).alloc (Nat.le_refl _) _).trans (b1.mono (by simp))⟩
  · have HT := Texts.laid w (escT true) #[.string ⟨#[38, 97, 109, 112, 59]⟩, .string ⟨#[38, 108, 116, 59]⟩, .string ⟨#[38, 103, 116, 59]⟩, .string ⟨#[38, 35, 49, 51, 59]⟩, .string ⟨#[38, 113, 117, 111, 116, 59]⟩, .string ⟨#[38, 35, 57, 59]⟩, .string ⟨#[38, 35, 49, 48, 59]⟩] 9 rfl
    have C := specSwap s ⟨#[38, 60, 62, 13, 34, 9, 10]⟩ (escT true) w.heap.size 7 7 _ hs (by decide) HT rfl rfl (by decide)
    go_enter Try.func7, Try.ntmps7
    go_wp2_with fail
    refine C.mono ?_
    rintro e w1 ⟨rfl, b1⟩
    go_wp2_with fail
    go_ret
    exact ⟨rfl, ((Below.refl _ _).alloc (Nat.le_refl _) _).trans (b1.mono (by simp))⟩

set_option maxHeartbeats 1000000 in
theorem specSpaceName (n : Int) (w : World) :
    Calls Try.prog 5 #[.int .i64 n] w fun e w' => e = .returned (.string (spaceS n)) ∧ w' = w := by
  by_cases h0 : n = 0
  · subst h0
    go_enter Try.func5, Try.ntmps5
    go_wp2_with fail
    go_ret
    exact ⟨rfl, rfl⟩
  by_cases h1 : n = 1
  · subst h1
    go_enter Try.func5, Try.ntmps5
    go_wp2_with fail
    go_ret
    exact ⟨rfl, rfl⟩
  by_cases h2 : n = 2
  · subst h2
    go_enter Try.func5, Try.ntmps5
    go_wp2_with fail
    go_ret
    exact ⟨rfl, rfl⟩
  have g0 : (n == 0) = false := by rw [beq_eq_false_iff_ne]; exact h0
  have g1 : (n == 1) = false := by rw [beq_eq_false_iff_ne]; exact h1
  have g2 : (n == 2) = false := by rw [beq_eq_false_iff_ne]; exact h2
  have Hx : Hid (spaceS n = ⟨#[]⟩) := by
    show _ = _
    unfold spaceS
    rw [if_neg h0, if_neg h1, if_neg h2]
  clear h0 h1 h2
  go_enter Try.func5, Try.ntmps5
  go_wp2_with fail
  go_ret
  rw [Hx.out]
  exact ⟨rfl, rfl⟩

end Go.Proofs.Ytlajjbodgkpjoaa.Sg
