/- Plain tests of numbers: the kinds of signs. No program in it. Contracts of IsBlank and IsText, of the program and of the model, and of the model's test of a span. Contracts of IsText, of the program and of the model. -/
import Derived.ProofKit
import Derived.Test.YtfbnhjogkjbcbaaDoorSgOk
namespace Go.Proofs.YtfbnhjogkjbcbaaDoor.Sg

/-- A number lies in a span. -/
def inP (n : Int) (p : Int × Int) : Bool := decide (p.1 ≤ n ∧ n ≤ p.2)
/-- A number lies in one of some spans. -/
def withinB (l : List (Int × Int)) (n : Int) : Bool := l.any (inP n)

def blankB (n : Int) : Bool := decide (n = 9 ∨ n = 10 ∨ n = 12 ∨ n = 13 ∨ n = 32)
def letterL : List (Int × Int) := [(65, 90), (97, 122)]
def letterB (n : Int) : Bool := withinB letterL n
def firstR : List (Int × Int) := [(192, 214), (216, 246), (248, 767), (880, 893), (895, 8191), (8204, 8205), (8304, 8591), (11264, 12271), (12289, 55295), (63744, 64975), (65008, 65533), (65536, 983039)]
def firstL : List (Int × Int) := (95, 95) :: firstR
def firstB (n : Int) : Bool := letterB n || withinB firstL n
def nextR : List (Int × Int) := [(48, 57), (768, 879), (8255, 8256)]
def nextL : List (Int × Int) := [(45, 46), (48, 57), (183, 183), (768, 879), (8255, 8256)]
def nextB (n : Int) : Bool := firstB n || withinB nextL n

/-- The span in which a number lies first; the one of two noughts where it lies in none. -/
def spanS : List (Int × Int) → Int → Int × Int
  | [], _ => (0, 0)
  | p :: l, n => if inP n p then p else spanS l n

theorem spanS_any (l : List (Int × Int)) (n : Int) (h : ∀ p ∈ l, p ≠ (0, 0)) : (!decide (spanS l n = (0, 0))) = withinB l n := by
  induction l with
  | nil => rfl
  | cons p l ih =>
    have ih' := ih fun q hq => h q (List.mem_cons_of_mem _ hq)
    have hp := h p List.mem_cons_self
    unfold spanS withinB
    rw [List.any_cons]
    cases hi : inP n p
    · simp only [Bool.false_or]
      exact ih'
    · simp [hp]

theorem spanS_drop (l : List (Int × Int)) (n : Int) (k : Nat) (hk : k < l.length) : spanS (l.drop k) n = if inP n (l.getD k (0, 0)) then l.getD k (0, 0) else spanS (l.drop (k + 1)) n := by
  rw [List.drop_eq_getElem_cons hk]
  unfold spanS
  simp [hk]
  cases l.drop (k + 1) <;> simp [spanS]

theorem within_drop (l : List (Int × Int)) (n : Int) (k : Nat) (hk : k < l.length) : withinB (l.drop k) n = (inP n (l.getD k (0, 0)) || withinB (l.drop (k + 1)) n) := by
  rw [List.drop_eq_getElem_cons hk]
  unfold withinB
  rw [List.any_cons]
  simp [hk]

theorem first_split (n : Int) : firstB n = (letterB n || decide (n = 95) || withinB firstR n) := by
  unfold firstB firstL
  rw [Bool.or_assoc]
  congr 1
  unfold withinB
  rw [List.any_cons]
  congr 1
  unfold inP
  simp only
  congr 1
  apply propext
  omega

theorem next_split (n : Int) : nextB n = (firstB n || decide (n = 45) || decide (n = 46) || decide (n = 183) || withinB nextR n) := by
  unfold nextB nextL withinB nextR inP
  simp only [List.any_cons, List.any_nil, Bool.or_false, Bool.or_assoc]
  congr 1
  rw [Bool.eq_iff_iff]
  simp only [Bool.or_eq_true, decide_eq_true_eq]
  omega

end Go.Proofs.YtfbnhjogkjbcbaaDoor.Sg

namespace Go.Proofs.YtfbnhjogkjbcbaaDoor.Sg
open Go.ChangeShapes Go.WideShapes Go.ChangeAt Go.RowKit

set_option maxHeartbeats 1000000 in
theorem l1In_kd (n lo hi : Int) (w : World) :
    Calls Tryd.prog 40 #[.int .i64 n, .int .i64 lo, .int .i64 hi] w fun e w' => e = .returned (.bool (inP n (lo, hi))) ∧ w' = w := by
  by_cases h1 : lo ≤ n
  · by_cases h2 : n ≤ hi
    · have ho : inP n (lo, hi) = true := decide_eq_true ⟨h1, h2⟩
      rw [ho]
      go_enter Tryd.func40, Tryd.ntmps40
      go_wp2
      go_ret
      exact ⟨rfl, rfl⟩
    · have ho : inP n (lo, hi) = false := decide_eq_false fun h => h2 h.2
      rw [ho]
      go_enter Tryd.func40, Tryd.ntmps40
      go_wp2
      go_ret
      exact ⟨rfl, rfl⟩
  · have ho : inP n (lo, hi) = false := decide_eq_false fun h => h1 h.1
    rw [ho]
    go_enter Tryd.func40, Tryd.ntmps40
    go_wp2
    go_ret
    exact ⟨rfl, rfl⟩

theorem same_below {B : Nat} {a w w' : World} (h : w' = w) (b : Below B a w) : Below B a w' := h ▸ b

theorem six (n : Int) : n = 9 ∨ n = 10 ∨ n = 12 ∨ n = 13 ∨ n = 32 ∨ (n ≠ 9 ∧ n ≠ 10 ∧ n ≠ 12 ∧ n ≠ 13 ∧ n ≠ 32) := by omega


end Go.Proofs.YtfbnhjogkjbcbaaDoor.Sg

namespace Go.Proofs.YtfbnhjogkjbcbaaDoor.Sg
open Go.ChangeShapes Go.WideShapes Go.ChangeAt Go.RowKit

def textB (n : Int) : Bool := decide (n = 9 ∨ n = 10 ∨ n = 13 ∨ (okB n = true ∧ 32 ≤ n ∧ n ≠ 65534 ∧ n ≠ 65535))

theorem sixT (n : Int) : n = 9 ∨ n = 10 ∨ n = 13 ∨ n = 65534 ∨ n = 65535 ∨ (n ≠ 9 ∧ n ≠ 10 ∧ n ≠ 13 ∧ n ≠ 65534 ∧ n ≠ 65535) := by omega

set_option maxHeartbeats 1000000 in
theorem implIsText (n : Int) (w : World) :
    Calls Tryd.prog 73 #[.int .i64 n] w fun e w' => e = .returned (.bool (textB n)) ∧ w' = w := by
  rcases sixT n with rfl | rfl | rfl | rfl | rfl | ⟨h1, h2, h3, h4, h5⟩
  iterate 5
    · go_enter Tryd.func73, Tryd.ntmps73
      go_wp2
      go_ret
      exact ⟨rfl, rfl⟩
  have g1 : (n == 9) = false := beq_false_of_ne h1
  have g2 : (n == 10) = false := beq_false_of_ne h2
  have g3 : (n == 13) = false := beq_false_of_ne h3
  have g4 : (n == 65534) = false := beq_false_of_ne h4
  have g5 : (n == 65535) = false := beq_false_of_ne h5
  by_cases h6 : (32 : Int) ≤ n
  · have ho : textB n = okB n := by
      unfold textB
      cases hk : okB n
      · exact decide_eq_false (by simp [h1, h2, h3])
      · exact decide_eq_true (.inr (.inr (.inr ⟨rfl, h6, h4, h5⟩)))
    rw [ho]
    clear h1 h2 h3 h4 h5 ho
    go_enter Tryd.func73, Tryd.ntmps73
    go_wp2_with fail
    refine (implSignOk n _).mono ?_
    rintro e w1 ⟨rfl, rfl⟩
    go_wp2
    go_ret
    exact ⟨rfl, rfl⟩
  · have ho : textB n = false := decide_eq_false (by simp [h1, h2, h3, h6])
    rw [ho]
    clear h1 h2 h3 h4 h5 ho
    go_enter Tryd.func73, Tryd.ntmps73
    go_wp2
    go_ret
    exact ⟨rfl, rfl⟩

set_option maxHeartbeats 1000000 in
theorem specIsText (n : Int) (w : World) :
    Calls Tryd.prog 31 #[.int .i64 n] w fun e w' => e = .returned (.bool (textB n)) ∧ w' = w := by
  by_cases h123 : n = 9 ∨ n = 10 ∨ n = 13
  · rcases h123 with rfl | rfl | rfl
    iterate 3
      · go_enter Tryd.func31, Tryd.ntmps31
        go_wp2
        go_ret
        exact ⟨rfl, rfl⟩
  have h1 : n ≠ 9 := fun h => h123 (.inl h)
  have h2 : n ≠ 10 := fun h => h123 (.inr (.inl h))
  have h3 : n ≠ 13 := fun h => h123 (.inr (.inr h))
  have g1 : (n == 9) = false := beq_false_of_ne h1
  have g2 : (n == 10) = false := beq_false_of_ne h2
  have g3 : (n == 13) = false := beq_false_of_ne h3
  clear h123
  cases hk : okB n
  · have ho : textB n = false := decide_eq_false (by simp [h1, h2, h3, hk])
    rw [ho]
    have Hk : Hid (okB n = false) := hk
    clear h1 h2 h3 ho hk
    go_enter Tryd.func31, Tryd.ntmps31
    go_wp2_with fail
    refine (specSignOk n _).mono ?_
    rintro e w1 ⟨rfl, rfl⟩
    rw [Hk.out]
    go_wp2
    go_ret
    exact ⟨rfl, rfl⟩
  · have ho : textB n = decide (32 ≤ n ∧ n ≠ 65534 ∧ n ≠ 65535) := by
      unfold textB
      congr 1
      simp [h1, h2, h3, hk]
    rw [ho]
    have Hk : Hid (okB n = true) := hk
    clear h1 h2 h3 ho hk
    by_cases h6 : (32 : Int) ≤ n
    · by_cases h4 : n = 65534
      · subst h4
        go_enter Tryd.func31, Tryd.ntmps31
        go_wp2_with fail
        refine (specSignOk _ _).mono ?_
        rintro e w1 ⟨rfl, rfl⟩
        rw [Hk.out]
        go_wp2
        go_ret
        exact ⟨rfl, rfl⟩
      · have g4 : (n == 65534) = false := beq_false_of_ne h4
        by_cases h5 : n = 65535
        · subst h5
          go_enter Tryd.func31, Tryd.ntmps31
          go_wp2_with fail
          refine (specSignOk _ _).mono ?_
          rintro e w1 ⟨rfl, rfl⟩
          rw [Hk.out]
          go_wp2
          go_ret
          exact ⟨rfl, rfl⟩
        · have g5 : (n == 65535) = false := beq_false_of_ne h5
          rw [show decide (32 ≤ n ∧ n ≠ 65534 ∧ n ≠ 65535) = true from decide_eq_true ⟨h6, h4, h5⟩]
          clear g4 g5
          have g4 : decide (n = 65534) = false := decide_eq_false h4
          have g5 : decide (n = 65535) = false := decide_eq_false h5
          have g6 : (n != 65534) = true := by simp [h4]
          have g7 : (n != 65535) = true := by simp [h5]
          go_enter Tryd.func31, Tryd.ntmps31
          go_wp2_with fail
          refine (specSignOk _ _).mono ?_
          rintro e w1 ⟨rfl, rfl⟩
          rw [Hk.out]
          go_wp2
          go_ret
          exact ⟨rfl, rfl⟩
    · rw [show decide (32 ≤ n ∧ n ≠ 65534 ∧ n ≠ 65535) = false from decide_eq_false fun h => h6 h.1]
      go_enter Tryd.func31, Tryd.ntmps31
      go_wp2_with fail
      refine (specSignOk _ _).mono ?_
      rintro e w1 ⟨rfl, rfl⟩
      rw [Hk.out]
      go_wp2
      go_ret
      exact ⟨rfl, rfl⟩

end Go.Proofs.YtfbnhjogkjbcbaaDoor.Sg
