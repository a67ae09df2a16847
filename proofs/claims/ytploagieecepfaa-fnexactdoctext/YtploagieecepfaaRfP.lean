/- References, in plain lists of bytes. No program in it. -/
import Derived.ProofKit
import Derived.Test.YtploagieecepfaaKdPlain
namespace Go.Proofs.Ytploagieecepfaa.Sg

/-- What is left of a text from place k on. -/
def tailL (s : ByteArray) (k : Nat) : List UInt8 := s.data.toList.drop k
theorem tailL_step (s : ByteArray) (k : Nat) (h : k < s.size) : tailL s k = s[k] :: tailL s (k + 1) := by
  have h' : k < s.data.toList.length := by rw [Array.length_toList]; exact h
  unfold tailL
  rw [List.drop_eq_getElem_cons h', Array.getElem_toList]
  rfl
theorem tailL_end (s : ByteArray) (k : Nat) (h : ¬ k < s.size) : tailL s k = [] := by
  unfold tailL
  exact List.drop_eq_nil_of_le (by rw [Array.length_toList]; exact Nat.le_of_not_lt h)
theorem tailL_length (s : ByteArray) (k : Nat) : (tailL s k).length = s.size - k := by
  unfold tailL
  rw [List.length_drop, Array.length_toList]
  rfl
theorem tailL_drop (s : ByteArray) (k m : Nat) : (tailL s k).drop m = tailL s (k + m) := by
  unfold tailL
  rw [List.drop_drop]

/-- What a digit counts; 16 of what is none. -/
def digV (b : Nat) : Nat := if 48 ≤ b ∧ b ≤ 57 then b - 48 else if 97 ≤ b ∧ b ≤ 102 then b - 87 else if 65 ≤ b ∧ b ≤ 70 then b - 55 else 16

theorem digV_cases (b : Nat) : (48 ≤ b ∧ b ≤ 57 ∧ digV b = b - 48) ∨ (97 ≤ b ∧ b ≤ 102 ∧ digV b = b - 87) ∨ (65 ≤ b ∧ b ≤ 70 ∧ digV b = b - 55) ∨ (¬ (48 ≤ b ∧ b ≤ 57) ∧ ¬ (97 ≤ b ∧ b ≤ 102) ∧ ¬ (65 ≤ b ∧ b ≤ 70) ∧ digV b = 16) := by
  unfold digV
  by_cases h1 : 48 ≤ b ∧ b ≤ 57
  · rw [if_pos h1]; exact .inl ⟨h1.1, h1.2, rfl⟩
  · rw [if_neg h1]
    by_cases h2 : 97 ≤ b ∧ b ≤ 102
    · rw [if_pos h2]; exact .inr (.inl ⟨h2.1, h2.2, rfl⟩)
    · rw [if_neg h2]
      by_cases h3 : 65 ≤ b ∧ b ≤ 70
      · rw [if_pos h3]; exact .inr (.inr (.inl ⟨h3.1, h3.2, rfl⟩))
      · rw [if_neg h3]; exact .inr (.inr (.inr ⟨h1, h2, h3, rfl⟩))

theorem digV_le (b : Nat) : digV b ≤ 16 := by rcases digV_cases b with h | h | h | h <;> omega

/-- The digits at a text's head: their number, too large where it is, and how many there are. -/
def numG (base n m : Nat) : List UInt8 → Nat × Nat
  | [] => (n, m)
  | b :: l => if digV b.toNat < base then numG base (min (n * base + digV b.toNat) 1114112) (m + 1) l else (n, m)

theorem numG_le (base n m : Nat) (l : List UInt8) : m ≤ (numG base n m l).2 ∧ (numG base n m l).2 ≤ m + l.length := by
  induction l generalizing n m with
  | nil => exact ⟨Nat.le_refl _, Nat.le_refl _⟩
  | cons b l ih =>
    unfold numG
    split
    · have := ih (min (n * base + digV b.toNat) 1114112) (m + 1)
      simp only [List.length_cons]
      omega
    · simp only [List.length_cons]
      omega

/-- Whether digits of 16 are asked for. -/
def hexG : List UInt8 → Bool
  | _ :: b :: _ => b == 120 || b == 88
  | _ => false

/-- How many bytes there are with the byte 59 behind them. -/
def endG (l : List UInt8) (m : Nat) : Nat := if (l.drop m).head? = some 59 then m + 1 else m

/-- The names, and their signs. -/
def nameT : List (List UInt8 × Int) :=
  [([97, 109, 112], 38), ([97, 112, 111, 115], 39), ([99, 111, 112, 121], 169), ([101, 117, 114, 111], 8364), ([103, 116], 62), ([104, 101, 108, 108, 105, 112], 8230), ([108, 116], 60),
   ([109, 100, 97, 115, 104], 8212), ([110, 98, 115, 112], 160), ([110, 111, 116], 172), ([110, 111, 116, 105, 110], 8713), ([113, 117, 111, 116], 34), ([114, 101, 103], 174), ([116, 105, 109, 101, 115], 215)]

def nameL : List (List UInt8) := nameT.map (·.1)
def signL : List Int := nameT.map (·.2)

/-- The sign of a name; -1 of what is none. -/
def signG : List (List UInt8 × Int) → List UInt8 → Int
  | [], _ => -1
  | p :: l, x => if p.1 = x then p.2 else signG l x

/-- The longest of some names at a text's head that is longer than one that was found. -/
def longG : List (List UInt8) → List UInt8 → List UInt8 → List UInt8
  | [], best, _ => best
  | x :: xs, best, l => longG xs (if best.length < x.length ∧ x <+: l then x else best) l

theorem longG_head (xs : List (List UInt8)) (best l : List UInt8) : longG xs best l = best ∨ longG xs best l <+: l := by
  induction xs generalizing best with
  | nil => exact .inl rfl
  | cons x xs ih =>
    unfold longG
    by_cases h : best.length < x.length ∧ x <+: l
    · rw [if_pos h]
      rcases ih x with e | e
      · exact .inr (by rw [e]; exact h.2)
      · exact .inr e
    · rw [if_neg h]
      exact ih best

theorem longG_mem (xs : List (List UInt8)) (best l : List UInt8) : longG xs best l = best ∨ longG xs best l ∈ xs := by
  induction xs generalizing best with
  | nil => exact .inl rfl
  | cons x xs ih =>
    unfold longG
    by_cases h : best.length < x.length ∧ x <+: l
    · rw [if_pos h]
      rcases ih x with e | e
      · exact .inr (by rw [e]; exact List.mem_cons_self)
      · exact .inr (List.mem_cons_of_mem _ e)
    · rw [if_neg h]
      rcases ih best with e | e
      · exact .inl e
      · exact .inr (List.mem_cons_of_mem _ e)

/-- The longest name at a text's head; empty where none stands there. -/
def longL (l : List UInt8) : List UInt8 := longG nameL [] l

theorem longL_prefix (l : List UInt8) : longL l <+: l := by
  rcases longG_head nameL [] l with h | h
  · unfold longL; rw [h]; exact List.nil_prefix
  · exact h

theorem longL_mem (l : List UInt8) (h : longL l ≠ []) : longL l ∈ nameL := by
  rcases longG_mem nameL [] l with e | e
  · exact absurd e h
  · exact e

theorem longL_hash (l : List UInt8) : longL (35 :: l) = [] := by
  apply Classical.byContradiction
  intro h
  have hm := longL_mem _ h
  have hp := longL_prefix (35 :: l)
  generalize longL (35 :: l) = x at *
  have hx : ∀ y ∈ nameL, y.head? ≠ some 35 ∧ y ≠ [] := by decide
  obtain ⟨t, ht⟩ := hp
  cases x with
  | nil => exact h rfl
  | cons a x =>
    have := (hx _ hm).1
    simp at ht
    exact this (by simp [ht.1])

/-- What stands behind a name makes it, in a value, a part of that value. -/
def barsB : List UInt8 → Bool
  | [] => false
  | b :: _ => decide (b.toNat = 61) || (letterB (b.toNat : Int) || decide (digV b.toNat < 10))

theorem barsB_end (l : List UInt8) : barsB (59 :: l) = false := by
  show (decide ((59 : UInt8).toNat = 61) || (letterB ((59 : UInt8).toNat : Int) || decide (digV (59 : UInt8).toNat < 10))) = false
  decide

end Go.Proofs.Ytploagieecepfaa.Sg
