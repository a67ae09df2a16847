/- Texts that stand in a text: plain. No program in it. -/
import Derived.ProofKit
namespace Go.Proofs.YtbmmghkieolpkaaGreatDoor.Sg

/-- A text stands at a place. -/
def standsB (s : ByteArray) (k : Nat) (t : ByteArray) : Bool := decide (k + t.size ≤ s.size) && ((s.extract k (k + t.size)).toList == t.toList)
/-- The first place from one on at which a text stands. -/
def searchE (s : ByteArray) (k : Nat) (t : ByteArray) : Option Nat :=
  if k + t.size ≤ s.size then if standsB s k t then some k else searchE s (k + 1) t else none
  termination_by s.size + 1 - k
  decreasing_by omega
theorem searchE_yes {s : ByteArray} {k : Nat} {t : ByteArray} (h : standsB s k t = true) : searchE s k t = some k := by
  have h1 : k + t.size ≤ s.size := by
    unfold standsB at h
    rw [Bool.and_eq_true, decide_eq_true_eq] at h
    exact h.1
  rw [searchE, if_pos h1, if_pos h]
theorem searchE_no {s : ByteArray} {k : Nat} {t : ByteArray} (h1 : k + t.size ≤ s.size) (h : standsB s k t = false) : searchE s k t = searchE s (k + 1) t := by
  rw [searchE, if_pos h1, if_neg (by rw [h]; simp)]
theorem searchE_end {s : ByteArray} {k : Nat} {t : ByteArray} (h1 : ¬ k + t.size ≤ s.size) : searchE s k t = none := by
  rw [searchE, if_neg h1]
theorem searchE_le (s t : ByteArray) : ∀ (d k m : Nat), s.size + 1 - k ≤ d → searchE s k t = some m → k ≤ m ∧ m + t.size ≤ s.size := by
  intro d
  induction d with
  | zero =>
    intro k m hd h
    rw [searchE_end (by omega)] at h
    cases h
  | succ d ih =>
    intro k m hd h
    by_cases h1 : k + t.size ≤ s.size
    · cases h2 : standsB s k t
      · rw [searchE_no h1 h2] at h
        have := ih (k + 1) m (by omega) h
        omega
      · rw [searchE_yes h2] at h
        cases h
        omega
    · rw [searchE_end h1] at h
      cases h

end Go.Proofs.YtbmmghkieolpkaaGreatDoor.Sg
