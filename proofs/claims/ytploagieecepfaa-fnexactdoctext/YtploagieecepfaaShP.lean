/- Plain: numbers in digits, words of kinds, and how a word of a page is shown. -/
import Derived.Test.YtploagieecepfaaTnMem
import Derived.Test.YtploagieecepfaaGTexts
namespace Go.Proofs.Ytploagieecepfaa.Sg
open Go.ChangeShapes Go.WideShapes Go.ChangeAt Go.RowKit

/-- The digits of n, ahead of o. -/
def shF : Nat → Nat → List UInt8 → List UInt8
  | 0, _, o => o
  | f + 1, n, o => if n = 0 then o else shF f (n / 10) (UInt8.ofNat (48 + n % 10) :: o)
def shDig (n : Nat) : List UInt8 := if n = 0 then [48] else shF n n []
theorem shF_zero (f : Nat) (o : List UInt8) : shF f 0 o = o := by
  cases f with
  | zero => rfl
  | succ f => rw [shF, if_pos rfl]
theorem shF_step (f n : Nat) (o : List UInt8) (h : 0 < n) : shF (f + 1) n o = shF f (n / 10) (UInt8.ofNat (48 + n % 10) :: o) := by
  rw [shF, if_neg (by omega)]
theorem shF_len : ∀ (f n : Nat) (o : List UInt8), (shF f n o).length ≤ f + o.length
  | 0, n, o => by rw [shF]; omega
  | f + 1, n, o => by
    rw [shF]
    split
    · omega
    · have := shF_len f (n / 10) (UInt8.ofNat (48 + n % 10) :: o)
      rw [List.length_cons] at this
      omega
theorem shDig_len (n : Nat) : (shDig n).length ≤ n + 1 := by
  unfold shDig
  split
  · exact Nat.le_add_left _ _
  · have := shF_len n n []
    rw [List.length_nil] at this
    omega

/-- The word of a kind. -/
def kindS (kd : Int) (ls : List (List UInt8)) : ByteArray := if kd < 1 ∨ (ls.length : Int) < kd then ⟨#[110, 111, 110, 101]⟩ else strB (ls.getD (kd - 1).toNat [])
theorem kindS_size (kd : Int) (ls : List (List UInt8)) (h : ∀ l ∈ ls, l.length ≤ 16) : (kindS kd ls).size ≤ 16 := by
  unfold kindS
  split
  · decide
  · rw [strB_size]
    generalize (kd - 1).toNat = k
    by_cases hl : k < ls.length
    · have e : ls.getD k [] = ls[k]'hl := by simp [List.getD, hl]
      rw [e]
      exact h _ (List.getElem_mem hl)
    · have e : ls.getD k [] = [] := by simp [List.getD, Nat.le_of_not_lt hl]
      rw [e]
      decide
def namedS (nm tx : ByteArray) : ByteArray := if nm.size = 0 then tx else nm
def tkNames : List (List UInt8) := [[116, 101, 120, 116], [115, 116, 97, 114, 116], [101, 110, 100], [110, 111, 116, 101], [107, 105, 110, 100]]
/-- How a word of a page is shown. -/
def tokS (t : TokB) : ByteArray := (((kindS t.1 tkNames ++ ⟨#[32]⟩) ++ namedS t.2.1 t.2.2.2.1) ++ ⟨#[32, 61]⟩) ++ strB (shDig t.2.2.1.length) ++ (if t.2.2.2.2 then ⟨#[32, 115, 101, 108, 102]⟩ else ⟨#[]⟩)

end Go.Proofs.Ytploagieecepfaa.Sg
