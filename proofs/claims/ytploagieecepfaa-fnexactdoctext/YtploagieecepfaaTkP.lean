/- Words of a page, in plain lists of bytes: what is gone over, and how far. No program in it. -/
import Derived.Test.YtploagieecepfaaRfP
namespace Go.Proofs.Ytploagieecepfaa.Sg

def blankU (b : UInt8) : Bool := blankB (b.toNat : Int)
/-- Blanks and slashes. -/
def skipU (b : UInt8) : Bool := blankU b || decide (b.toNat = 47)
/-- What a value without quotes is of. -/
def plainU (angle : Bool) (b : UInt8) : Bool := !blankU b && !(angle && decide (b.toNat = 62))
/-- What a tag's name is of. -/
def tagU (b : UInt8) : Bool := !blankU b && (!decide (b.toNat = 47) && !decide (b.toNat = 62))
/-- What an attribute's name may begin with, and what it is of. -/
def firstU (angle : Bool) (b : UInt8) : Bool := !blankU b && (!decide (b.toNat = 47) && !(angle && decide (b.toNat = 62)))
def nameU (angle : Bool) (b : UInt8) : Bool := firstU angle b && !decide (b.toNat = 61)

/-- How many bytes of a kind stand at a text's head. -/
def runN (p : UInt8 → Bool) : List UInt8 → Nat
  | [] => 0
  | b :: l => if p b then runN p l + 1 else 0

theorem runN_le (p : UInt8 → Bool) (l : List UInt8) : runN p l ≤ l.length := by
  induction l with
  | nil => exact Nat.le_refl _
  | cons b l ih =>
    unfold runN
    split
    · exact Nat.succ_le_succ ih
    · exact Nat.zero_le _
theorem runN_yes {p : UInt8 → Bool} {b : UInt8} {l : List UInt8} (h : p b = true) : runN p (b :: l) = runN p l + 1 := by
  rw [runN, if_pos h]
theorem runN_no {p : UInt8 → Bool} {b : UInt8} {l : List UInt8} (h : p b = false) : runN p (b :: l) = 0 := by
  rw [runN, if_neg (by simp [h])]

/-- Where bytes of a kind end, from a place on. -/
def runE (p : UInt8 → Bool) (s : ByteArray) (k : Nat) : Nat := k + runN p (tailL s k)
theorem runE_end {p : UInt8 → Bool} {s : ByteArray} {k : Nat} (h : ¬ k < s.size) : runE p s k = k := by
  unfold runE
  rw [tailL_end s k h]
  rfl
theorem runE_no {p : UInt8 → Bool} {s : ByteArray} {k : Nat} (h : k < s.size) (hp : p (s[k]'h) = false) : runE p s k = k := by
  unfold runE
  rw [tailL_step s k h, runN_no hp]
  rfl
theorem runE_yes {p : UInt8 → Bool} {s : ByteArray} {k : Nat} (h : k < s.size) (hp : p (s[k]'h) = true) : runE p s k = runE p s (k + 1) := by
  unfold runE
  rw [tailL_step s k h, runN_yes hp]
  omega
theorem runE_le {p : UInt8 → Bool} {s : ByteArray} {k : Nat} (h : k ≤ s.size) : k ≤ runE p s k ∧ runE p s k ≤ s.size := by
  have := runN_le p (tailL s k)
  rw [tailL_length] at this
  unfold runE
  omega

/-- Where an attribute's name ends. -/
def nameE (angle : Bool) (s : ByteArray) (k : Nat) : Nat :=
  match tailL s k with
  | [] => k
  | b :: _ => if firstU angle b then runE (nameU angle) s (k + 1) else k
theorem nameE_end {angle : Bool} {s : ByteArray} {k : Nat} (h : ¬ k < s.size) : nameE angle s k = k := by
  unfold nameE
  rw [tailL_end s k h]
theorem nameE_no {angle : Bool} {s : ByteArray} {k : Nat} (h : k < s.size) (hp : firstU angle (s[k]'h) = false) : nameE angle s k = k := by
  unfold nameE
  rw [tailL_step s k h]
  simp [hp]
theorem nameE_yes {angle : Bool} {s : ByteArray} {k : Nat} (h : k < s.size) (hp : firstU angle (s[k]'h) = true) : nameE angle s k = runE (nameU angle) s (k + 1) := by
  unfold nameE
  rw [tailL_step s k h]
  simp [hp]
theorem nameE_le {angle : Bool} {s : ByteArray} {k : Nat} (h : k ≤ s.size) : k ≤ nameE angle s k ∧ nameE angle s k ≤ s.size := by
  by_cases hk : k < s.size
  · cases hp : firstU angle (s[k]'hk)
    · rw [nameE_no hk hp]; omega
    · rw [nameE_yes hk hp]
      have := runE_le (p := nameU angle) (s := s) (k := k + 1) hk
      omega
  · rw [nameE_end hk]; omega

/-- The first place of a byte, from one on. -/
def findL (b : UInt8) : List UInt8 → Option Nat
  | [] => none
  | x :: l => if x = b then some 0 else (findL b l).map (· + 1)
def findE (s : ByteArray) (k : Nat) (b : UInt8) : Option Nat := (findL b (tailL s k)).map (k + ·)
def findV : Option Nat → Int
  | none => -1
  | some m => (m : Int)
theorem findE_end {s : ByteArray} {k : Nat} {b : UInt8} (h : ¬ k < s.size) : findE s k b = none := by
  unfold findE
  rw [tailL_end s k h]
  rfl
theorem findE_yes {s : ByteArray} {k : Nat} {b : UInt8} (h : k < s.size) (hp : s[k]'h = b) : findE s k b = some k := by
  unfold findE
  rw [tailL_step s k h, findL, if_pos hp]
  rfl
theorem findE_no {s : ByteArray} {k : Nat} {b : UInt8} (h : k < s.size) (hp : s[k]'h ≠ b) : findE s k b = findE s (k + 1) b := by
  unfold findE
  rw [tailL_step s k h, findL, if_neg hp]
  cases findL b (tailL s (k + 1)) with
  | none => rfl
  | some m =>
    show some (k + (m + 1)) = some (k + 1 + m)
    congr 1
    omega
theorem findE_le {s : ByteArray} {k m : Nat} {b : UInt8} (hk : findE s k b = some m) : k ≤ m ∧ m < s.size := by
  have key : ∀ (l : List UInt8) (m : Nat), findL b l = some m → m < l.length := by
    intro l
    induction l with
    | nil => intro m h; cases h
    | cons x l ih =>
      intro m h
      unfold findL at h
      split at h
      · cases h; simp
      · cases hf : findL b l with
        | none => rw [hf] at h; cases h
        | some q =>
          rw [hf] at h
          have := ih q hf
          cases h
          simp
          omega
  unfold findE at hk
  cases hf : findL b (tailL s k) with
  | none => rw [hf] at hk; cases hk
  | some q =>
    rw [hf] at hk
    have h1 := key _ _ hf
    rw [tailL_length] at h1
    have h2 : k + q = m := Option.some.inj hk
    omega

end Go.Proofs.Ytploagieecepfaa.Sg
