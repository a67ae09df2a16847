/- Plain tests of numbers: the kinds of signs. No program in it. -/
import Derived.ProofKit
namespace Go.Proofs.Ytploagieecepfaa.Sg

/-- A number lies in a span. -/
def inP (n : Int) (p : Int × Int) : Bool := decide (p.1 ≤ n ∧ n ≤ p.2)
/-- A number lies in one of some spans. -/
def withinB (l : List (Int × Int)) (n : Int) : Bool := l.any (inP n)

def blankB (n : Int) : Bool := decide (n = 9 ∨ n = 10 ∨ n = 12 ∨ n = 13 ∨ n = 32)
def letterL : List (Int × Int) := [(65, 90), (97, 122)]
def letterB (n : Int) : Bool := withinB letterL n
def firstR : List (Int × Int) := [(192, 214), (216, 246), (248, 767), (880, 893), (895, 8191), (8204, 8205), (8304, 8591), (11264, 12271), (12289, 55295), (63744, 64975), (65008, 65533), (65536, 983039)]
def firstL : List (Int × Int) := (95, 95) :: firstR
def firstB (n : Int) : Bool := letterB n || withinB firstL n
def nextR : List (Int × Int) := [(48, 57), (768, 879), (8255, 8256)]
def nextL : List (Int × Int) := [(45, 46), (48, 57), (183, 183), (768, 879), (8255, 8256)]
def nextB (n : Int) : Bool := firstB n || withinB nextL n

/-- The span in which a number lies first; the one of two noughts where it lies in none. -/
def spanS : List (Int × Int) → Int → Int × Int
  | [], _ => (0, 0)
  | p :: l, n => if inP n p then p else spanS l n

theorem spanS_any (l : List (Int × Int)) (n : Int) (h : ∀ p ∈ l, p ≠ (0, 0)) : (!decide (spanS l n = (0, 0))) = withinB l n := by
  induction l with
  | nil => rfl
  | cons p l ih =>
    have ih' := ih fun q hq => h q (List.mem_cons_of_mem _ hq)
    have hp := h p List.mem_cons_self
    unfold spanS withinB
    rw [List.any_cons]
    cases hi : inP n p
    · simp only [Bool.false_or]
      exact ih'
    · simp [hp]

theorem spanS_drop (l : List (Int × Int)) (n : Int) (k : Nat) (hk : k < l.length) : spanS (l.drop k) n = if inP n (l.getD k (0, 0)) then l.getD k (0, 0) else spanS (l.drop (k + 1)) n := by
  rw [List.drop_eq_getElem_cons hk]
  unfold spanS
  simp [hk]
  cases l.drop (k + 1) <;> simp [spanS]

theorem within_drop (l : List (Int × Int)) (n : Int) (k : Nat) (hk : k < l.length) : withinB (l.drop k) n = (inP n (l.getD k (0, 0)) || withinB (l.drop (k + 1)) n) := by
  rw [List.drop_eq_getElem_cons hk]
  unfold withinB
  rw [List.any_cons]
  simp [hk]

theorem first_split (n : Int) : firstB n = (letterB n || decide (n = 95) || withinB firstR n) := by
  unfold firstB firstL
  rw [Bool.or_assoc]
  congr 1
  unfold withinB
  rw [List.any_cons]
  congr 1
  unfold inP
  simp only
  congr 1
  apply propext
  omega

theorem next_split (n : Int) : nextB n = (firstB n || decide (n = 45) || decide (n = 46) || decide (n = 183) || withinB nextR n) := by
  unfold nextB nextL withinB nextR inP
  simp only [List.any_cons, List.any_nil, Bool.or_false, Bool.or_assoc]
  congr 1
  rw [Bool.eq_iff_iff]
  simp only [Bool.or_eq_true, decide_eq_true_eq]
  omega

end Go.Proofs.Ytploagieecepfaa.Sg
