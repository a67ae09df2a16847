/- Contracts of IsText, of the program and of the model. -/
import Derived.Test.YtfbnhjogkjbcbaaDoorKdIn
namespace Go.Proofs.YtfbnhjogkjbcbaaDoor.Sg
open Go.ChangeShapes Go.WideShapes Go.ChangeAt Go.RowKit

def textB (n : Int) : Bool := decide (n = 9 ∨ n = 10 ∨ n = 13 ∨ (okB n = true ∧ 32 ≤ n ∧ n ≠ 65534 ∧ n ≠ 65535))

theorem sixT (n : Int) : n = 9 ∨ n = 10 ∨ n = 13 ∨ n = 65534 ∨ n = 65535 ∨ (n ≠ 9 ∧ n ≠ 10 ∧ n ≠ 13 ∧ n ≠ 65534 ∧ n ≠ 65535) := by omega

set_option maxHeartbeats 1000000 in
theorem implIsText (n : Int) (w : World) :
    Calls Tryd.prog 73 #[.int .i64 n] w fun e w' => e = .returned (.bool (textB n)) ∧ w' = w := by
  rcases sixT n with rfl | rfl | rfl | rfl | rfl | ⟨h1, h2, h3, h4, h5⟩
  iterate 5
    · go_enter Tryd.func73, Tryd.ntmps73
      go_wp2
      go_ret
      exact ⟨rfl, rfl⟩
  have g1 : (n == 9) = false := beq_false_of_ne h1
  have g2 : (n == 10) = false := beq_false_of_ne h2
  have g3 : (n == 13) = false := beq_false_of_ne h3
  have g4 : (n == 65534) = false := beq_false_of_ne h4
  have g5 : (n == 65535) = false := beq_false_of_ne h5
  by_cases h6 : (32 : Int) ≤ n
  · have ho : textB n = okB n := by
      unfold textB
      cases hk : okB n
      · exact decide_eq_false (by simp [h1, h2, h3])
      · exact decide_eq_true (.inr (.inr (.inr ⟨rfl, h6, h4, h5⟩)))
    rw [ho]
    clear h1 h2 h3 h4 h5 ho
    go_enter Tryd.func73, Tryd.ntmps73
    go_wp2_with fail
    refine (implSignOk n _).mono ?_
    rintro e w1 ⟨rfl, rfl⟩
    go_wp2
    go_ret
    exact ⟨rfl, rfl⟩
  · have ho : textB n = false := decide_eq_false (by simp [h1, h2, h3, h6])
    rw [ho]
    clear h1 h2 h3 h4 h5 ho
    go_enter Tryd.func73, Tryd.ntmps73
    go_wp2
    go_ret
    exact ⟨rfl, rfl⟩

set_option maxHeartbeats 1000000 in
theorem specIsText (n : Int) (w : World) :
    Calls Tryd.prog 31 #[.int .i64 n] w fun e w' => e = .returned (.bool (textB n)) ∧ w' = w := by
  by_cases h123 : n = 9 ∨ n = 10 ∨ n = 13
  · rcases h123 with rfl | rfl | rfl
    iterate 3
      · go_enter Tryd.func31, Tryd.ntmps31
        go_wp2
        go_ret
        exact ⟨rfl, rfl⟩
  have h1 : n ≠ 9 := fun h => h123 (.inl h)
  have h2 : n ≠ 10 := fun h => h123 (.inr (.inl h))
  have h3 : n ≠ 13 := fun h => h123 (.inr (.inr h))
  have g1 : (n == 9) = false := beq_false_of_ne h1
  have g2 : (n == 10) = false := beq_false_of_ne h2
  have g3 : (n == 13) = false := beq_false_of_ne h3
  clear h123
  cases hk : okB n
  · have ho : textB n = false := decide_eq_false (by simp [h1, h2, h3, hk])
    rw [ho]
    have Hk : Hid (okB n = false) := hk
    clear h1 h2 h3 ho hk
    go_enter Tryd.func31, Tryd.ntmps31
    go_wp2_with fail
    refine (specSignOk n _).mono ?_
    rintro e w1 ⟨rfl, rfl⟩
    rw [Hk.out]
    go_wp2
    go_ret
    exact ⟨rfl, rfl⟩
  · have ho : textB n = decide (32 ≤ n ∧ n ≠ 65534 ∧ n ≠ 65535) := by
      unfold textB
      congr 1
      simp [h1, h2, h3, hk]
    rw [ho]
    have Hk : Hid (okB n = true) := hk
    clear h1 h2 h3 ho hk
    by_cases h6 : (32 : Int) ≤ n
    · by_cases h4 : n = 65534
      · subst h4
        go_enter Tryd.func31, Tryd.ntmps31
        go_wp2_with fail
        refine (specSignOk _ _).mono ?_
        rintro e w1 ⟨rfl, rfl⟩
        rw [Hk.out]
        go_wp2
        go_ret
        exact ⟨rfl, rfl⟩
      · have g4 : (n == 65534) = false := beq_false_of_ne h4
        by_cases h5 : n = 65535
        · subst h5
          go_enter Tryd.func31, Tryd.ntmps31
          go_wp2_with fail
          refine (specSignOk _ _).mono ?_
          rintro e w1 ⟨rfl, rfl⟩
          rw [Hk.out]
          go_wp2
          go_ret
          exact ⟨rfl, rfl⟩
        · have g5 : (n == 65535) = false := beq_false_of_ne h5
          rw [show decide (32 ≤ n ∧ n ≠ 65534 ∧ n ≠ 65535) = true from decide_eq_true ⟨h6, h4, h5⟩]
          clear g4 g5
          have g4 : decide (n = 65534) = false := decide_eq_false h4
          have g5 : decide (n = 65535) = false := decide_eq_false h5
          have g6 : (n != 65534) = true := by simp [h4]
          have g7 : (n != 65535) = true := by simp [h5]
          go_enter Tryd.func31, Tryd.ntmps31
          go_wp2_with fail
          refine (specSignOk _ _).mono ?_
          rintro e w1 ⟨rfl, rfl⟩
          rw [Hk.out]
          go_wp2
          go_ret
          exact ⟨rfl, rfl⟩
    · rw [show decide (32 ≤ n ∧ n ≠ 65534 ∧ n ≠ 65535) = false from decide_eq_false fun h => h6 h.1]
      go_enter Tryd.func31, Tryd.ntmps31
      go_wp2_with fail
      refine (specSignOk _ _).mono ?_
      rintro e w1 ⟨rfl, rfl⟩
      rw [Hk.out]
      go_wp2
      go_ret
      exact ⟨rfl, rfl⟩

end Go.Proofs.YtfbnhjogkjbcbaaDoor.Sg
