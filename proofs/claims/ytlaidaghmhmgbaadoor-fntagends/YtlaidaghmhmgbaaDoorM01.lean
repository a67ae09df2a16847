/- Plain tests of numbers: the kinds of signs. No program in it. References, in plain lists of bytes. No program in it. Words of a page, in plain lists of bytes: what is gone over, and how far. No program in it. -/
import Derived.ProofKit
namespace Go.Proofs.YtlaidaghmhmgbaaDoor.Sg

/-- A number lies in a span. -/
def inP (n : Int) (p : Int × Int) : Bool := decide (p.1 ≤ n ∧ n ≤ p.2)
/-- A number lies in one of some spans. -/
def withinB (l : List (Int × Int)) (n : Int) : Bool := l.any (inP n)

def blankB (n : Int) : Bool := decide (n = 9 ∨ n = 10 ∨ n = 12 ∨ n = 13 ∨ n = 32)
def letterL : List (Int × Int) := [(65, 90), (97, 122)]
def letterB (n : Int) : Bool := withinB letterL n
def firstR : List (Int × Int) := [(192, 214), (216, 246), (248, 767), (880, 893), (895, 8191), (8204, 8205), (8304, 8591), (11264, 12271), (12289, 55295), (63744, 64975), (65008, 65533), (65536, 983039)]
def firstL : List (Int × Int) := (95, 95) :: firstR
def firstB (n : Int) : Bool := letterB n || withinB firstL n
def nextR : List (Int × Int) := [(48, 57), (768, 879), (8255, 8256)]
def nextL : List (Int × Int) := [(45, 46), (48, 57), (183, 183), (768, 879), (8255, 8256)]
def nextB (n : Int) : Bool := firstB n || withinB nextL n

/-- The span in which a number lies first; the one of two noughts where it lies in none. -/
def spanS : List (Int × Int) → Int → Int × Int
  | [], _ => (0, 0)
  | p :: l, n => if inP n p then p else spanS l n

theorem spanS_any (l : List (Int × Int)) (n : Int) (h : ∀ p ∈ l, p ≠ (0, 0)) : (!decide (spanS l n = (0, 0))) = withinB l n := by
  induction l with
  | nil => rfl
  | cons p l ih =>
    have ih' := ih fun q hq => h q (List.mem_cons_of_mem _ hq)
    have hp := h p List.mem_cons_self
    unfold spanS withinB
    rw [List.any_cons]
    cases hi : inP n p
    · simp only [Bool.false_or]
      exact ih'
    · simp [hp]

theorem spanS_drop (l : List (Int × Int)) (n : Int) (k : Nat) (hk : k < l.length) : spanS (l.drop k) n = if inP n (l.getD k (0, 0)) then l.getD k (0, 0) else spanS (l.drop (k + 1)) n := by
  rw [List.drop_eq_getElem_cons hk]
  unfold spanS
  simp [hk]
  cases l.drop (k + 1) <;> simp [spanS]

theorem within_drop (l : List (Int × Int)) (n : Int) (k : Nat) (hk : k < l.length) : withinB (l.drop k) n = (inP n (l.getD k (0, 0)) || withinB (l.drop (k + 1)) n) := by
  rw [List.drop_eq_getElem_cons hk]
  unfold withinB
  rw [List.any_cons]
  simp [hk]

theorem first_split (n : Int) : firstB n = (letterB n || decide (n = 95) || withinB firstR n) := by
  unfold firstB firstL
  rw [Bool.or_assoc]
  congr 1
  unfold withinB
  rw [List.any_cons]
  congr 1
  unfold inP
  simp only
  congr 1
  apply propext
  omega

theorem next_split (n : Int) : nextB n = (firstB n || decide (n = 45) || decide (n = 46) || decide (n = 183) || withinB nextR n) := by
  unfold nextB nextL withinB nextR inP
  simp only [List.any_cons, List.any_nil, Bool.or_false, Bool.or_assoc]
  congr 1
  rw [Bool.eq_iff_iff]
  simp only [Bool.or_eq_true, decide_eq_true_eq]
  omega

end Go.Proofs.YtlaidaghmhmgbaaDoor.Sg

namespace Go.Proofs.YtlaidaghmhmgbaaDoor.Sg

/-- What is left of a text from place k on. -/
def tailL (s : ByteArray) (k : Nat) : List UInt8 := s.data.toList.drop k
theorem tailL_step (s : ByteArray) (k : Nat) (h : k < s.size) : tailL s k = s[k] :: tailL s (k + 1) := by
  have h' : k < s.data.toList.length := by rw [Array.length_toList]; exact h
  unfold tailL
  rw [List.drop_eq_getElem_cons h', Array.getElem_toList]
  rfl
theorem tailL_end (s : ByteArray) (k : Nat) (h : ¬ k < s.size) : tailL s k = [] := by
  unfold tailL
  exact List.drop_eq_nil_of_le (by rw [Array.length_toList]; exact Nat.le_of_not_lt h)
theorem tailL_length (s : ByteArray) (k : Nat) : (tailL s k).length = s.size - k := by
  unfold tailL
  rw [List.length_drop, Array.length_toList]
  rfl
theorem tailL_drop (s : ByteArray) (k m : Nat) : (tailL s k).drop m = tailL s (k + m) := by
  unfold tailL
  rw [List.drop_drop]

/-- What a digit counts; 16 of what is none. -/
def digV (b : Nat) : Nat := if 48 ≤ b ∧ b ≤ 57 then b - 48 else if 97 ≤ b ∧ b ≤ 102 then b - 87 else if 65 ≤ b ∧ b ≤ 70 then b - 55 else 16

theorem digV_cases (b : Nat) : (48 ≤ b ∧ b ≤ 57 ∧ digV b = b - 48) ∨ (97 ≤ b ∧ b ≤ 102 ∧ digV b = b - 87) ∨ (65 ≤ b ∧ b ≤ 70 ∧ digV b = b - 55) ∨ (¬ (48 ≤ b ∧ b ≤ 57) ∧ ¬ (97 ≤ b ∧ b ≤ 102) ∧ ¬ (65 ≤ b ∧ b ≤ 70) ∧ digV b = 16) := by
  unfold digV
  by_cases h1 : 48 ≤ b ∧ b ≤ 57
  · rw [if_pos h1]; exact .inl ⟨h1.1, h1.2, rfl⟩
  · rw [if_neg h1]
    by_cases h2 : 97 ≤ b ∧ b ≤ 102
    · rw [if_pos h2]; exact .inr (.inl ⟨h2.1, h2.2, rfl⟩)
    · rw [if_neg h2]
      by_cases h3 : 65 ≤ b ∧ b ≤ 70
      · rw [if_pos h3]; exact .inr (.inr (.inl ⟨h3.1, h3.2, rfl⟩))
      · rw [if_neg h3]; exact .inr (.inr (.inr ⟨h1, h2, h3, rfl⟩))

theorem digV_le (b : Nat) : digV b ≤ 16 := by rcases digV_cases b with h | h | h | h <;> omega

/-- The digits at a text's head: their number, too large where it is, and how many there are. -/
def numG (base n m : Nat) : List UInt8 → Nat × Nat
  | [] => (n, m)
  | b :: l => if digV b.toNat < base then numG base (min (n * base + digV b.toNat) 1114112) (m + 1) l else (n, m)

theorem numG_le (base n m : Nat) (l : List UInt8) : m ≤ (numG base n m l).2 ∧ (numG base n m l).2 ≤ m + l.length := by
  induction l generalizing n m with
  | nil => exact ⟨Nat.le_refl _, Nat.le_refl _⟩
  | cons b l ih =>
    unfold numG
    split
    · have := ih (min (n * base + digV b.toNat) 1114112) (m + 1)
      simp only [List.length_cons]
      omega
    · simp only [List.length_cons]
      omega

/-- Whether digits of 16 are asked for. -/
def hexG : List UInt8 → Bool
  | _ :: b :: _ => b == 120 || b == 88
  | _ => false

/-- How many bytes there are with the byte 59 behind them. -/
def endG (l : List UInt8) (m : Nat) : Nat := if (l.drop m).head? = some 59 then m + 1 else m

/-- The names, and their signs. -/
def nameT : List (List UInt8 × Int) :=
  [([97, 109, 112], 38), ([97, 112, 111, 115], 39), ([99, 111, 112, 121], 169), ([101, 117, 114, 111], 8364), ([103, 116], 62), ([104, 101, 108, 108, 105, 112], 8230), ([108, 116], 60),
   ([109, 100, 97, 115, 104], 8212), ([110, 98, 115, 112], 160), ([110, 111, 116], 172), ([110, 111, 116, 105, 110], 8713), ([113, 117, 111, 116], 34), ([114, 101, 103], 174), ([116, 105, 109, 101, 115], 215)]

def nameL : List (List UInt8) := nameT.map (·.1)
def signL : List Int := nameT.map (·.2)

/-- The sign of a name; -1 of what is none. -/
def signG : List (List UInt8 × Int) → List UInt8 → Int
  | [], _ => -1
  | p :: l, x => if p.1 = x then p.2 else signG l x

/-- The longest of some names at a text's head that is longer than one that was found. -/
def longG : List (List UInt8) → List UInt8 → List UInt8 → List UInt8
  | [], best, _ => best
  | x :: xs, best, l => longG xs (if best.length < x.length ∧ x <+: l then x else best) l

theorem longG_head (xs : List (List UInt8)) (best l : List UInt8) : longG xs best l = best ∨ longG xs best l <+: l := by
  induction xs generalizing best with
  | nil => exact .inl rfl
  | cons x xs ih =>
    unfold longG
    by_cases h : best.length < x.length ∧ x <+: l
    · rw [if_pos h]
      rcases ih x with e | e
      · exact .inr (by rw [e]; exact h.2)
      · exact .inr e
    · rw [if_neg h]
      exact ih best

theorem longG_mem (xs : List (List UInt8)) (best l : List UInt8) : longG xs best l = best ∨ longG xs best l ∈ xs := by
  induction xs generalizing best with
  | nil => exact .inl rfl
  | cons x xs ih =>
    unfold longG
    by_cases h : best.length < x.length ∧ x <+: l
    · rw [if_pos h]
      rcases ih x with e | e
      · exact .inr (by rw [e]; exact List.mem_cons_self)
      · exact .inr (List.mem_cons_of_mem _ e)
    · rw [if_neg h]
      rcases ih best with e | e
      · exact .inl e
      · exact .inr (List.mem_cons_of_mem _ e)

/-- The longest name at a text's head; empty where none stands there. -/
def longL (l : List UInt8) : List UInt8 := longG nameL [] l

theorem longL_prefix (l : List UInt8) : longL l <+: l := by
  rcases longG_head nameL [] l with h | h
  · unfold longL; rw [h]; exact List.nil_prefix
  · exact h

theorem longL_mem (l : List UInt8) (h : longL l ≠ []) : longL l ∈ nameL := by
  rcases longG_mem nameL [] l with e | e
  · exact absurd e h
  · exact e

theorem longL_hash (l : List UInt8) : longL (35 :: l) = [] := by
  apply Classical.byContradiction
  intro h
  have hm := longL_mem _ h
  have hp := longL_prefix (35 :: l)
  generalize longL (35 :: l) = x at *
  have hx : ∀ y ∈ nameL, y.head? ≠ some 35 ∧ y ≠ [] := by decide
  obtain ⟨t, ht⟩ := hp
  cases x with
  | nil => exact h rfl
  | cons a x =>
    have := (hx _ hm).1
    simp at ht
    exact this (by simp [ht.1])

/-- What stands behind a name makes it, in a value, a part of that value. -/
def barsB : List UInt8 → Bool
  | [] => false
  | b :: _ => decide (b.toNat = 61) || (letterB (b.toNat : Int) || decide (digV b.toNat < 10))

theorem barsB_end (l : List UInt8) : barsB (59 :: l) = false := by
  show (decide ((59 : UInt8).toNat = 61) || (letterB ((59 : UInt8).toNat : Int) || decide (digV (59 : UInt8).toNat < 10))) = false
  decide

end Go.Proofs.YtlaidaghmhmgbaaDoor.Sg

namespace Go.Proofs.YtlaidaghmhmgbaaDoor.Sg

def blankU (b : UInt8) : Bool := blankB (b.toNat : Int)
/-- Blanks and slashes. -/
def skipU (b : UInt8) : Bool := blankU b || decide (b.toNat = 47)
/-- What a value without quotes is of. -/
def plainU (angle : Bool) (b : UInt8) : Bool := !blankU b && !(angle && decide (b.toNat = 62))
/-- What a tag's name is of. -/
def tagU (b : UInt8) : Bool := !blankU b && (!decide (b.toNat = 47) && !decide (b.toNat = 62))
/-- What an attribute's name may begin with, and what it is of. -/
def firstU (angle : Bool) (b : UInt8) : Bool := !blankU b && (!decide (b.toNat = 47) && !(angle && decide (b.toNat = 62)))
def nameU (angle : Bool) (b : UInt8) : Bool := firstU angle b && !decide (b.toNat = 61)

/-- How many bytes of a kind stand at a text's head. -/
def runN (p : UInt8 → Bool) : List UInt8 → Nat
  | [] => 0
  | b :: l => if p b then runN p l + 1 else 0

theorem runN_le (p : UInt8 → Bool) (l : List UInt8) : runN p l ≤ l.length := by
  induction l with
  | nil => exact Nat.le_refl _
  | cons b l ih =>
    unfold runN
    split
    · exact Nat.succ_le_succ ih
    · exact Nat.zero_le _
theorem runN_yes {p : UInt8 → Bool} {b : UInt8} {l : List UInt8} (h : p b = true) : runN p (b :: l) = runN p l + 1 := by
  rw [runN, if_pos h]
theorem runN_no {p : UInt8 → Bool} {b : UInt8} {l : List UInt8} (h : p b = false) : runN p (b :: l) = 0 := by
  rw [runN, if_neg (by simp [h])]

/-- Where bytes of a kind end, from a place on. -/
def runE (p : UInt8 → Bool) (s : ByteArray) (k : Nat) : Nat := k + runN p (tailL s k)
theorem runE_end {p : UInt8 → Bool} {s : ByteArray} {k : Nat} (h : ¬ k < s.size) : runE p s k = k := by
  unfold runE
  rw [tailL_end s k h]
  rfl
theorem runE_no {p : UInt8 → Bool} {s : ByteArray} {k : Nat} (h : k < s.size) (hp : p (s[k]'h) = false) : runE p s k = k := by
  unfold runE
  rw [tailL_step s k h, runN_no hp]
  rfl
theorem runE_yes {p : UInt8 → Bool} {s : ByteArray} {k : Nat} (h : k < s.size) (hp : p (s[k]'h) = true) : runE p s k = runE p s (k + 1) := by
  unfold runE
  rw [tailL_step s k h, runN_yes hp]
  omega
theorem runE_le {p : UInt8 → Bool} {s : ByteArray} {k : Nat} (h : k ≤ s.size) : k ≤ runE p s k ∧ runE p s k ≤ s.size := by
  have := runN_le p (tailL s k)
  rw [tailL_length] at this
  unfold runE
  omega

/-- Where an attribute's name ends. -/
def nameE (angle : Bool) (s : ByteArray) (k : Nat) : Nat :=
  match tailL s k with
  | [] => k
  | b :: _ => if firstU angle b then runE (nameU angle) s (k + 1) else k
theorem nameE_end {angle : Bool} {s : ByteArray} {k : Nat} (h : ¬ k < s.size) : nameE angle s k = k := by
  unfold nameE
  rw [tailL_end s k h]
theorem nameE_no {angle : Bool} {s : ByteArray} {k : Nat} (h : k < s.size) (hp : firstU angle (s[k]'h) = false) : nameE angle s k = k := by
  unfold nameE
  rw [tailL_step s k h]
  simp [hp]
theorem nameE_yes {angle : Bool} {s : ByteArray} {k : Nat} (h : k < s.size) (hp : firstU angle (s[k]'h) = true) : nameE angle s k = runE (nameU angle) s (k + 1) := by
  unfold nameE
  rw [tailL_step s k h]
  simp [hp]
theorem nameE_le {angle : Bool} {s : ByteArray} {k : Nat} (h : k ≤ s.size) : k ≤ nameE angle s k ∧ nameE angle s k ≤ s.size := by
  by_cases hk : k < s.size
  · cases hp : firstU angle (s[k]'hk)
    · rw [nameE_no hk hp]; omega
    · rw [nameE_yes hk hp]
      have := runE_le (p := nameU angle) (s := s) (k := k + 1) hk
      omega
  · rw [nameE_end hk]; omega

/-- The first place of a byte, from one on. -/
def findL (b : UInt8) : List UInt8 → Option Nat
  | [] => none
  | x :: l => if x = b then some 0 else (findL b l).map (· + 1)
def findE (s : ByteArray) (k : Nat) (b : UInt8) : Option Nat := (findL b (tailL s k)).map (k + ·)
def findV : Option Nat → Int
  | none => -1
  | some m => (m : Int)
theorem findE_end {s : ByteArray} {k : Nat} {b : UInt8} (h : ¬ k < s.size) : findE s k b = none := by
  unfold findE
  rw [tailL_end s k h]
  rfl
theorem findE_yes {s : ByteArray} {k : Nat} {b : UInt8} (h : k < s.size) (hp : s[k]'h = b) : findE s k b = some k := by
  unfold findE
  rw [tailL_step s k h, findL, if_pos hp]
  rfl
theorem findE_no {s : ByteArray} {k : Nat} {b : UInt8} (h : k < s.size) (hp : s[k]'h ≠ b) : findE s k b = findE s (k + 1) b := by
  unfold findE
  rw [tailL_step s k h, findL, if_neg hp]
  cases findL b (tailL s (k + 1)) with
  | none => rfl
  | some m =>
    show some (k + (m + 1)) = some (k + 1 + m)
    congr 1
    omega
theorem findE_le {s : ByteArray} {k m : Nat} {b : UInt8} (hk : findE s k b = some m) : k ≤ m ∧ m < s.size := by
  have key : ∀ (l : List UInt8) (m : Nat), findL b l = some m → m < l.length := by
    intro l
    induction l with
    | nil => intro m h; cases h
    | cons x l ih =>
      intro m h
      unfold findL at h
      split at h
      · cases h; simp
      · cases hf : findL b l with
        | none => rw [hf] at h; cases h
        | some q =>
          rw [hf] at h
          have := ih q hf
          cases h
          simp
          omega
  unfold findE at hk
  cases hf : findL b (tailL s k) with
  | none => rw [hf] at hk; cases hk
  | some q =>
    rw [hf] at hk
    have h1 := key _ _ hf
    rw [tailL_length] at h1
    have h2 : k + q = m := Option.some.inj hk
    omega

end Go.Proofs.YtlaidaghmhmgbaaDoor.Sg
