/- What stands in the place of a byte that is escaped: a text; empty where the byte itself stands. No program in it. -/
import Derived.Test.YtlajjbodgkpjoaaXmEscP
namespace Go.Proofs.Ytlajjbodgkpjoaa.Sg

def refB (v : Bool) (b : UInt8) : List UInt8 :=
  match findL b (escW v) with
  | none => []
  | some k => (escT v).getD k []
theorem refB_of (v : Bool) (b : UInt8) : swap1 (escW v) (escT v) b = if refB v b = [] then [b] else refB v b := by
  unfold swap1 refB
  cases h : findL b (escW v) with
  | none => simp
  | some k =>
    have : ∀ v b k, findL b (escW v) = some k → (escT v).getD k [] ≠ [] := by
      intro v b k h
      cases v <;> (simp only [escW, findL] at h; revert h; (repeat' split) <;> (intro h; simp at h <;> (subst h; decide)))
    simp only
    rw [if_neg (this v b k h)]
theorem refB_len (v : Bool) (b : UInt8) : (refB v b).length ≤ 6 := by
  have h := refB_of v b
  have h1 := esc1_length v b
  by_cases e : refB v b = []
  · rw [e]
    simp
  · rw [if_neg e] at h
    rw [← h]
    exact h1
theorem refB_else (v : Bool) (b : UInt8) (h1 : b ≠ 38) (h2 : b ≠ 60) (h3 : b ≠ 62) (h4 : b ≠ 13) (h5 : v = true → b ≠ 34 ∧ b ≠ 9 ∧ b ≠ 10) : refB v b = [] := by
  unfold refB
  cases v with
  | false => simp [escW, findL, Ne.symm h1, Ne.symm h2, Ne.symm h3, Ne.symm h4]
  | true =>
    obtain ⟨h5, h6, h7⟩ := h5 rfl
    simp [escW, findL, Ne.symm h1, Ne.symm h2, Ne.symm h3, Ne.symm h4, Ne.symm h5, Ne.symm h6, Ne.symm h7]
theorem escL_step (v : Bool) (s : ByteArray) (k : Nat) (h : k < s.size) : escL v (tailL s k) = (if refB v (s[k]'h) = [] then [s[k]'h] else refB v (s[k]'h)) ++ escL v (tailL s (k + 1)) := by
  unfold escL
  rw [swapL_step, refB_of]
theorem escL_end (v : Bool) (s : ByteArray) (k : Nat) (h : ¬ k < s.size) : escL v (tailL s k) = [] := by
  unfold escL tailL
  rw [List.drop_eq_nil_of_le (by rw [Array.length_toList]; exact Nat.le_of_not_lt h)]
  rfl

end Go.Proofs.Ytlajjbodgkpjoaa.Sg
