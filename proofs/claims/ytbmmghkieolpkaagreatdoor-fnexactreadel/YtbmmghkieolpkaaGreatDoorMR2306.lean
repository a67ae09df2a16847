/- Texts that stand in a text: plain. No program in it. References, in plain lists of bytes. No program in it. Words of a page, in plain lists of bytes: what is gone over, and how far. No program in it. Bytes swapped for texts, as plain lists. No program in it. References of a strict text, plain. No program in it. Pieces of a strict text, plain: names, references, texts, attributes, notes; what is escaped is read as it was. No program in it. Pieces of a strict text, plain: what is read of a text, but for broken bytes, is written there. No program in it. Contract of the program's signAt. -/
import Derived.ProofKit
import Derived.Test.YtbmmghkieolpkaaGreatDoorMR2307
import Derived.Test.YtbmmghkieolpkaaGreatDoorMR2304
import Derived.Test.YtbmmghkieolpkaaGreatDoorSgPlain
import Derived.Test.YtbmmghkieolpkaaGreatDoorStP
import Derived.Lib.RuneBytes
import Derived.Test.YtbmmghkieolpkaaGreatDoorMR2312
namespace Go.Proofs.YtbmmghkieolpkaaGreatDoor.Sg

/-- A text stands at a place. -/
def standsB (s : ByteArray) (k : Nat) (t : ByteArray) : Bool := decide (k + t.size ≤ s.size) && ((s.extract k (k + t.size)).toList == t.toList)
/-- The first place from one on at which a text stands. -/
def searchE (s : ByteArray) (k : Nat) (t : ByteArray) : Option Nat :=
  if k + t.size ≤ s.size then if standsB s k t then some k else searchE s (k + 1) t else none
  termination_by s.size + 1 - k
  decreasing_by omega
theorem searchE_yes {s : ByteArray} {k : Nat} {t : ByteArray} (h : standsB s k t = true) : searchE s k t = some k := by
  have h1 : k + t.size ≤ s.size := by
    unfold standsB at h
    rw [Bool.and_eq_true, decide_eq_true_eq] at h
    exact h.1
  rw [searchE, if_pos h1, if_pos h]
theorem searchE_no {s : ByteArray} {k : Nat} {t : ByteArray} (h1 : k + t.size ≤ s.size) (h : standsB s k t = false) : searchE s k t = searchE s (k + 1) t := by
  rw [searchE, if_pos h1, if_neg (by rw [h]; simp)]
theorem searchE_end {s : ByteArray} {k : Nat} {t : ByteArray} (h1 : ¬ k + t.size ≤ s.size) : searchE s k t = none := by
  rw [searchE, if_neg h1]
theorem searchE_le (s t : ByteArray) : ∀ (d k m : Nat), s.size + 1 - k ≤ d → searchE s k t = some m → k ≤ m ∧ m + t.size ≤ s.size := by
  intro d
  induction d with
  | zero =>
    intro k m hd h
    rw [searchE_end (by omega)] at h
    cases h
  | succ d ih =>
    intro k m hd h
    by_cases h1 : k + t.size ≤ s.size
    · cases h2 : standsB s k t
      · rw [searchE_no h1 h2] at h
        have := ih (k + 1) m (by omega) h
        omega
      · rw [searchE_yes h2] at h
        cases h
        omega
    · rw [searchE_end h1] at h
      cases h

end Go.Proofs.YtbmmghkieolpkaaGreatDoor.Sg

namespace Go.Proofs.YtbmmghkieolpkaaGreatDoor.Sg

/-- What is left of a text from place k on. -/
def tailL (s : ByteArray) (k : Nat) : List UInt8 := s.data.toList.drop k
theorem tailL_step (s : ByteArray) (k : Nat) (h : k < s.size) : tailL s k = s[k] :: tailL s (k + 1) := by
  have h' : k < s.data.toList.length := by rw [Array.length_toList]; exact h
  unfold tailL
  rw [List.drop_eq_getElem_cons h', Array.getElem_toList]
  rfl
theorem tailL_end (s : ByteArray) (k : Nat) (h : ¬ k < s.size) : tailL s k = [] := by
  unfold tailL
  exact List.drop_eq_nil_of_le (by rw [Array.length_toList]; exact Nat.le_of_not_lt h)
theorem tailL_length (s : ByteArray) (k : Nat) : (tailL s k).length = s.size - k := by
  unfold tailL
  rw [List.length_drop, Array.length_toList]
  rfl
theorem tailL_drop (s : ByteArray) (k m : Nat) : (tailL s k).drop m = tailL s (k + m) := by
  unfold tailL
  rw [List.drop_drop]

/-- What a digit counts; 16 of what is none. -/
def digV (b : Nat) : Nat := if 48 ≤ b ∧ b ≤ 57 then b - 48 else if 97 ≤ b ∧ b ≤ 102 then b - 87 else if 65 ≤ b ∧ b ≤ 70 then b - 55 else 16

theorem digV_cases (b : Nat) : (48 ≤ b ∧ b ≤ 57 ∧ digV b = b - 48) ∨ (97 ≤ b ∧ b ≤ 102 ∧ digV b = b - 87) ∨ (65 ≤ b ∧ b ≤ 70 ∧ digV b = b - 55) ∨ (¬ (48 ≤ b ∧ b ≤ 57) ∧ ¬ (97 ≤ b ∧ b ≤ 102) ∧ ¬ (65 ≤ b ∧ b ≤ 70) ∧ digV b = 16) := by
  unfold digV
  by_cases h1 : 48 ≤ b ∧ b ≤ 57
  · rw [if_pos h1]; exact .inl ⟨h1.1, h1.2, rfl⟩
  · rw [if_neg h1]
    by_cases h2 : 97 ≤ b ∧ b ≤ 102
    · rw [if_pos h2]; exact .inr (.inl ⟨h2.1, h2.2, rfl⟩)
    · rw [if_neg h2]
      by_cases h3 : 65 ≤ b ∧ b ≤ 70
      · rw [if_pos h3]; exact .inr (.inr (.inl ⟨h3.1, h3.2, rfl⟩))
      · rw [if_neg h3]; exact .inr (.inr (.inr ⟨h1, h2, h3, rfl⟩))

theorem digV_le (b : Nat) : digV b ≤ 16 := by rcases digV_cases b with h | h | h | h <;> omega

/-- The digits at a text's head: their number, too large where it is, and how many there are. -/
def numG (base n m : Nat) : List UInt8 → Nat × Nat
  | [] => (n, m)
  | b :: l => if digV b.toNat < base then numG base (min (n * base + digV b.toNat) 1114112) (m + 1) l else (n, m)

theorem numG_le (base n m : Nat) (l : List UInt8) : m ≤ (numG base n m l).2 ∧ (numG base n m l).2 ≤ m + l.length := by
  induction l generalizing n m with
  | nil => exact ⟨Nat.le_refl _, Nat.le_refl _⟩
  | cons b l ih =>
    unfold numG
    split
    · have := ih (min (n * base + digV b.toNat) 1114112) (m + 1)
      simp only [List.length_cons]
      omega
    · simp only [List.length_cons]
      omega

/-- Whether digits of 16 are asked for. -/
def hexG : List UInt8 → Bool
  | _ :: b :: _ => b == 120 || b == 88
  | _ => false

/-- How many bytes there are with the byte 59 behind them. -/
def endG (l : List UInt8) (m : Nat) : Nat := if (l.drop m).head? = some 59 then m + 1 else m

/-- The names, and their signs. -/
def nameT : List (List UInt8 × Int) :=
  [([97, 109, 112], 38), ([97, 112, 111, 115], 39), ([99, 111, 112, 121], 169), ([101, 117, 114, 111], 8364), ([103, 116], 62), ([104, 101, 108, 108, 105, 112], 8230), ([108, 116], 60),
   ([109, 100, 97, 115, 104], 8212), ([110, 98, 115, 112], 160), ([110, 111, 116], 172), ([110, 111, 116, 105, 110], 8713), ([113, 117, 111, 116], 34), ([114, 101, 103], 174), ([116, 105, 109, 101, 115], 215)]

def nameL : List (List UInt8) := nameT.map (·.1)
def signL : List Int := nameT.map (·.2)

/-- The sign of a name; -1 of what is none. -/
def signG : List (List UInt8 × Int) → List UInt8 → Int
  | [], _ => -1
  | p :: l, x => if p.1 = x then p.2 else signG l x

/-- The longest of some names at a text's head that is longer than one that was found. -/
def longG : List (List UInt8) → List UInt8 → List UInt8 → List UInt8
  | [], best, _ => best
  | x :: xs, best, l => longG xs (if best.length < x.length ∧ x <+: l then x else best) l

theorem longG_head (xs : List (List UInt8)) (best l : List UInt8) : longG xs best l = best ∨ longG xs best l <+: l := by
  induction xs generalizing best with
  | nil => exact .inl rfl
  | cons x xs ih =>
    unfold longG
    by_cases h : best.length < x.length ∧ x <+: l
    · rw [if_pos h]
      rcases ih x with e | e
      · exact .inr (by rw [e]; exact h.2)
      · exact .inr e
    · rw [if_neg h]
      exact ih best

theorem longG_mem (xs : List (List UInt8)) (best l : List UInt8) : longG xs best l = best ∨ longG xs best l ∈ xs := by
  induction xs generalizing best with
  | nil => exact .inl rfl
  | cons x xs ih =>
    unfold longG
    by_cases h : best.length < x.length ∧ x <+: l
    · rw [if_pos h]
      rcases ih x with e | e
      · exact .inr (by rw [e]; exact List.mem_cons_self)
      · exact .inr (List.mem_cons_of_mem _ e)
    · rw [if_neg h]
      rcases ih best with e | e
      · exact .inl e
      · exact .inr (List.mem_cons_of_mem _ e)

/-- The longest name at a text's head; empty where none stands there. -/
def longL (l : List UInt8) : List UInt8 := longG nameL [] l

theorem longL_prefix (l : List UInt8) : longL l <+: l := by
  rcases longG_head nameL [] l with h | h
  · unfold longL; rw [h]; exact List.nil_prefix
  · exact h

theorem longL_mem (l : List UInt8) (h : longL l ≠ []) : longL l ∈ nameL := by
  rcases longG_mem nameL [] l with e | e
  · exact absurd e h
  · exact e

theorem longL_hash (l : List UInt8) : longL (35 :: l) = [] := by
  apply Classical.byContradiction
  intro h
  have hm := longL_mem _ h
  have hp := longL_prefix (35 :: l)
  generalize longL (35 :: l) = x at *
  have hx : ∀ y ∈ nameL, y.head? ≠ some 35 ∧ y ≠ [] := by decide
  obtain ⟨t, ht⟩ := hp
  cases x with
  | nil => exact h rfl
  | cons a x =>
    have := (hx _ hm).1
    simp at ht
    exact this (by simp [ht.1])

/-- What stands behind a name makes it, in a value, a part of that value. -/
def barsB : List UInt8 → Bool
  | [] => false
  | b :: _ => decide (b.toNat = 61) || (letterB (b.toNat : Int) || decide (digV b.toNat < 10))

theorem barsB_end (l : List UInt8) : barsB (59 :: l) = false := by
  show (decide ((59 : UInt8).toNat = 61) || (letterB ((59 : UInt8).toNat : Int) || decide (digV (59 : UInt8).toNat < 10))) = false
  decide

end Go.Proofs.YtbmmghkieolpkaaGreatDoor.Sg

namespace Go.Proofs.YtbmmghkieolpkaaGreatDoor.Sg

def blankU (b : UInt8) : Bool := blankB (b.toNat : Int)
/-- Blanks and slashes. -/
def skipU (b : UInt8) : Bool := blankU b || decide (b.toNat = 47)
/-- What a value without quotes is of. -/
def plainU (angle : Bool) (b : UInt8) : Bool := !blankU b && !(angle && decide (b.toNat = 62))
/-- What a tag's name is of. -/
def tagU (b : UInt8) : Bool := !blankU b && (!decide (b.toNat = 47) && !decide (b.toNat = 62))
/-- What an attribute's name may begin with, and what it is of. -/
def firstU (angle : Bool) (b : UInt8) : Bool := !blankU b && (!decide (b.toNat = 47) && !(angle && decide (b.toNat = 62)))
def nameU (angle : Bool) (b : UInt8) : Bool := firstU angle b && !decide (b.toNat = 61)

/-- How many bytes of a kind stand at a text's head. -/
def runN (p : UInt8 → Bool) : List UInt8 → Nat
  | [] => 0
  | b :: l => if p b then runN p l + 1 else 0

theorem runN_le (p : UInt8 → Bool) (l : List UInt8) : runN p l ≤ l.length := by
  induction l with
  | nil => exact Nat.le_refl _
  | cons b l ih =>
    unfold runN
    split
    · exact Nat.succ_le_succ ih
    · exact Nat.zero_le _
theorem runN_yes {p : UInt8 → Bool} {b : UInt8} {l : List UInt8} (h : p b = true) : runN p (b :: l) = runN p l + 1 := by
  rw [runN, if_pos h]
theorem runN_no {p : UInt8 → Bool} {b : UInt8} {l : List UInt8} (h : p b = false) : runN p (b :: l) = 0 := by
  rw [runN, if_neg (by simp [h])]

/-- Where bytes of a kind end, from a place on. -/
def runE (p : UInt8 → Bool) (s : ByteArray) (k : Nat) : Nat := k + runN p (tailL s k)
theorem runE_end {p : UInt8 → Bool} {s : ByteArray} {k : Nat} (h : ¬ k < s.size) : runE p s k = k := by
  unfold runE
  rw [tailL_end s k h]
  rfl
theorem runE_no {p : UInt8 → Bool} {s : ByteArray} {k : Nat} (h : k < s.size) (hp : p (s[k]'h) = false) : runE p s k = k := by
  unfold runE
  rw [tailL_step s k h, runN_no hp]
  rfl
theorem runE_yes {p : UInt8 → Bool} {s : ByteArray} {k : Nat} (h : k < s.size) (hp : p (s[k]'h) = true) : runE p s k = runE p s (k + 1) := by
  unfold runE
  rw [tailL_step s k h, runN_yes hp]
  omega
theorem runE_le {p : UInt8 → Bool} {s : ByteArray} {k : Nat} (h : k ≤ s.size) : k ≤ runE p s k ∧ runE p s k ≤ s.size := by
  have := runN_le p (tailL s k)
  rw [tailL_length] at this
  unfold runE
  omega

/-- Where an attribute's name ends. -/
def nameE (angle : Bool) (s : ByteArray) (k : Nat) : Nat :=
  match tailL s k with
  | [] => k
  | b :: _ => if firstU angle b then runE (nameU angle) s (k + 1) else k
theorem nameE_end {angle : Bool} {s : ByteArray} {k : Nat} (h : ¬ k < s.size) : nameE angle s k = k := by
  unfold nameE
  rw [tailL_end s k h]
theorem nameE_no {angle : Bool} {s : ByteArray} {k : Nat} (h : k < s.size) (hp : firstU angle (s[k]'h) = false) : nameE angle s k = k := by
  unfold nameE
  rw [tailL_step s k h]
  simp [hp]
theorem nameE_yes {angle : Bool} {s : ByteArray} {k : Nat} (h : k < s.size) (hp : firstU angle (s[k]'h) = true) : nameE angle s k = runE (nameU angle) s (k + 1) := by
  unfold nameE
  rw [tailL_step s k h]
  simp [hp]
theorem nameE_le {angle : Bool} {s : ByteArray} {k : Nat} (h : k ≤ s.size) : k ≤ nameE angle s k ∧ nameE angle s k ≤ s.size := by
  by_cases hk : k < s.size
  · cases hp : firstU angle (s[k]'hk)
    · rw [nameE_no hk hp]; omega
    · rw [nameE_yes hk hp]
      have := runE_le (p := nameU angle) (s := s) (k := k + 1) hk
      omega
  · rw [nameE_end hk]; omega

/-- The first place of a byte, from one on. -/
def findL (b : UInt8) : List UInt8 → Option Nat
  | [] => none
  | x :: l => if x = b then some 0 else (findL b l).map (· + 1)
def findE (s : ByteArray) (k : Nat) (b : UInt8) : Option Nat := (findL b (tailL s k)).map (k + ·)
def findV : Option Nat → Int
  | none => -1
  | some m => (m : Int)
theorem findE_end {s : ByteArray} {k : Nat} {b : UInt8} (h : ¬ k < s.size) : findE s k b = none := by
  unfold findE
  rw [tailL_end s k h]
  rfl
theorem findE_yes {s : ByteArray} {k : Nat} {b : UInt8} (h : k < s.size) (hp : s[k]'h = b) : findE s k b = some k := by
  unfold findE
  rw [tailL_step s k h, findL, if_pos hp]
  rfl
theorem findE_no {s : ByteArray} {k : Nat} {b : UInt8} (h : k < s.size) (hp : s[k]'h ≠ b) : findE s k b = findE s (k + 1) b := by
  unfold findE
  rw [tailL_step s k h, findL, if_neg hp]
  cases findL b (tailL s (k + 1)) with
  | none => rfl
  | some m =>
    show some (k + (m + 1)) = some (k + 1 + m)
    congr 1
    omega
theorem findE_le {s : ByteArray} {k m : Nat} {b : UInt8} (hk : findE s k b = some m) : k ≤ m ∧ m < s.size := by
  have key : ∀ (l : List UInt8) (m : Nat), findL b l = some m → m < l.length := by
    intro l
    induction l with
    | nil => intro m h; cases h
    | cons x l ih =>
      intro m h
      unfold findL at h
      split at h
      · cases h; simp
      · cases hf : findL b l with
        | none => rw [hf] at h; cases h
        | some q =>
          rw [hf] at h
          have := ih q hf
          cases h
          simp
          omega
  unfold findE at hk
  cases hf : findL b (tailL s k) with
  | none => rw [hf] at hk; cases hk
  | some q =>
    rw [hf] at hk
    have h1 := key _ _ hf
    rw [tailL_length] at h1
    have h2 : k + q = m := Option.some.inj hk
    omega

end Go.Proofs.YtbmmghkieolpkaaGreatDoor.Sg

namespace Go.Proofs.YtbmmghkieolpkaaGreatDoor.Sg

/-- What stands in the place of a byte. -/
def swap1 (which : List UInt8) (ws : List (List UInt8)) (b : UInt8) : List UInt8 :=
  match findL b which with
  | none => [b]
  | some k => ws.getD k []
def swapL (which : List UInt8) (ws : List (List UInt8)) (l : List UInt8) : List UInt8 := l.flatMap (swap1 which ws)
theorem swapL_step (which : List UInt8) (ws : List (List UInt8)) (s : ByteArray) (k : Nat) (h : k < s.size) : swapL which ws (tailL s k) = swap1 which ws (s[k]'h) ++ swapL which ws (tailL s (k + 1)) := by
  rw [tailL_step s k h]
  unfold swapL
  rw [List.flatMap_cons]
theorem findE_zero (s : ByteArray) (b : UInt8) : findE s 0 b = findL b s.data.toList := by
  unfold findE
  show Option.map _ (findL b (s.data.toList.drop 0)) = _
  rw [List.drop_zero]
  cases findL b s.data.toList <;> simp

end Go.Proofs.YtbmmghkieolpkaaGreatDoor.Sg

namespace Go.Proofs.YtbmmghkieolpkaaGreatDoor.Sg

/-- Digits from a place on, so many at most: the number, and the place behind them. -/
def xdigR (s : ByteArray) : Nat → Nat → Nat → Nat × Nat
  | 0, k, n => (n, k)
  | f + 1, k, n => if h : k < s.size then (if 48 ≤ (s[k]'h).toNat ∧ (s[k]'h).toNat ≤ 57 then xdigR s f (k + 1) (10 * n + ((s[k]'h).toNat - 48)) else (n, k)) else (n, k)
theorem xdigR_go {s : ByteArray} {f k n : Nat} (h : k < s.size) (h1 : 48 ≤ (s[k]'h).toNat ∧ (s[k]'h).toNat ≤ 57) : xdigR s (f + 1) k n = xdigR s f (k + 1) (10 * n + ((s[k]'h).toNat - 48)) := by
  rw [xdigR, dif_pos h, if_pos h1]
theorem xdigR_stop {s : ByteArray} {f k n : Nat} (h : k < s.size) (h1 : ¬ (48 ≤ (s[k]'h).toNat ∧ (s[k]'h).toNat ≤ 57)) : xdigR s f k n = (n, k) := by
  cases f with
  | zero => rfl
  | succ f => rw [xdigR, dif_pos h, if_neg h1]
theorem xdigR_end {s : ByteArray} {f k n : Nat} (h : ¬ k < s.size) : xdigR s f k n = (n, k) := by
  cases f with
  | zero => rfl
  | succ f => rw [xdigR, dif_neg h]
theorem xdigR_le (s : ByteArray) : ∀ (f k n : Nat), k ≤ (xdigR s f k n).2 ∧ (xdigR s f k n).2 ≤ k + f ∧ (k ≤ s.size → (xdigR s f k n).2 ≤ s.size)
  | 0, k, n => ⟨Nat.le_refl _, Nat.le_refl _, id⟩
  | f + 1, k, n => by
    by_cases h : k < s.size
    · by_cases h1 : 48 ≤ (s[k]'h).toNat ∧ (s[k]'h).toNat ≤ 57
      · rw [xdigR_go h h1]
        have := xdigR_le s f (k + 1) (10 * n + ((s[k]'h).toNat - 48))
        refine ⟨by omega, by omega, fun _ => this.2.2 h⟩
      · rw [xdigR_stop h h1]
        exact ⟨Nat.le_refl _, by omega, id⟩
    · rw [xdigR_end h]
      exact ⟨Nat.le_refl _, by omega, id⟩
/-- A reference by number that begins at a place: the number, and the place of its semicolon. -/
def xnumR (s : ByteArray) (k : Nat) : Option (Nat × Nat) :=
  let r := xdigR s 7 (k + 2) 0
  if r.2 = k + 2 ∨ bN s (k + 2) = 48 ∨ ¬ r.2 < s.size ∨ bN s r.2 ≠ 59 ∨ textB (r.1 : Int) = false then none else some r

def ampB : ByteArray := ⟨#[38, 97, 109, 112, 59]⟩
def ltB : ByteArray := ⟨#[38, 108, 116, 59]⟩
def gtB : ByteArray := ⟨#[38, 103, 116, 59]⟩
def quotB : ByteArray := ⟨#[38, 113, 117, 111, 116, 59]⟩
def aposB : ByteArray := ⟨#[38, 97, 112, 111, 115, 59]⟩
def hashB : ByteArray := ⟨#[38, 35]⟩
def closeB : ByteArray := ⟨#[93, 93, 62]⟩
/-- A reference that begins at a place: what it tells, and the place behind it. -/
def xrefR (s : ByteArray) (k : Nat) : Option (ByteArray × Nat) :=
  if standsB s k ampB then some (⟨#[38]⟩, k + 5)
  else if standsB s k ltB then some (⟨#[60]⟩, k + 4)
  else if standsB s k gtB then some (⟨#[62]⟩, k + 4)
  else if standsB s k quotB then some (⟨#[34]⟩, k + 6)
  else if standsB s k aposB then some (⟨#[39]⟩, k + 6)
  else if standsB s k hashB then (xnumR s k).map fun r => (putS (r.1 : Int), r.2 + 1)
  else none
theorem stands_le {s t : ByteArray} {k : Nat} (h : standsB s k t = true) : k + t.size ≤ s.size := by
  unfold standsB at h
  rw [Bool.and_eq_true, decide_eq_true_eq] at h
  exact h.1
theorem xnumR_le {s : ByteArray} {k : Nat} {r : Nat × Nat} (h : xnumR s k = some r) : k + 2 < r.2 ∧ r.2 < s.size := by
  unfold xnumR at h
  have hl := xdigR_le s 7 (k + 2) 0
  simp only at h
  split at h
  · cases h
  · rename_i hn
    cases h
    refine ⟨?_, ?_⟩
    · have : ¬ (xdigR s 7 (k + 2) 0).2 = k + 2 := fun e => hn (.inl e)
      omega
    · exact Classical.byContradiction fun e => hn (.inr (.inr (.inl e)))
theorem xrefR_le {s : ByteArray} {k : Nat} {t : ByteArray} {j : Nat} (h : xrefR s k = some (t, j)) : k < j ∧ j ≤ s.size ∧ t.size ≤ 4 := by
  unfold xrefR at h
  split at h
  · rename_i h1
    have := stands_le h1
    cases h
    exact ⟨by omega, this, by decide⟩
  split at h
  · rename_i h1
    have := stands_le h1
    cases h
    exact ⟨by omega, this, by decide⟩
  split at h
  · rename_i h1
    have := stands_le h1
    cases h
    exact ⟨by omega, this, by decide⟩
  split at h
  · rename_i h1
    have := stands_le h1
    cases h
    exact ⟨by omega, this, by decide⟩
  split at h
  · rename_i h1
    have := stands_le h1
    cases h
    exact ⟨by omega, this, by decide⟩
  split at h
  · cases hr : xnumR s k with
    | none =>
      rw [hr] at h
      cases h
    | some r =>
      rw [hr] at h
      have := xnumR_le hr
      cases h
      exact ⟨by omega, by omega, (putS_size _).2⟩
  · cases h

end Go.Proofs.YtbmmghkieolpkaaGreatDoor.Sg

namespace Go.Proofs.YtbmmghkieolpkaaGreatDoor.Sg

/-- The sign at a place is written as it is read. -/
def asRead (s : ByteArray) (k : Nat) : Bool := (putS ((getS s k).1 : Int)).toList == (s.extract k (k + (getS s k).2)).toList
/-- Where a strict name that begins at a place ends. -/
def xnameE (s : ByteArray) (f : Bool) (k : Nat) : Nat :=
  if _h : k < s.size then
    if stayB f ((getS s k).1 : Int) && asRead s k then xnameE s false (k + (getS s k).2) else k
  else k
  termination_by s.size - k
  decreasing_by
    have := getS_many s k (by assumption)
    omega
theorem xnameE_go {s : ByteArray} {f : Bool} {k : Nat} (h : k < s.size) (h1 : (stayB f ((getS s k).1 : Int) && asRead s k) = true) : xnameE s f k = xnameE s false (k + (getS s k).2) := by
  rw [xnameE, dif_pos h, if_pos h1]
theorem xnameE_stop {s : ByteArray} {f : Bool} {k : Nat} (h : k < s.size) (h1 : (stayB f ((getS s k).1 : Int) && asRead s k) = false) : xnameE s f k = k := by
  rw [xnameE, dif_pos h, if_neg (by rw [h1]; simp)]
theorem xnameE_end {s : ByteArray} {f : Bool} {k : Nat} (h : ¬ k < s.size) : xnameE s f k = k := by
  rw [xnameE, dif_neg h]
theorem xnameE_le (s : ByteArray) : ∀ (d k : Nat) (f : Bool), s.size - k ≤ d → k ≤ s.size → k ≤ xnameE s f k ∧ xnameE s f k ≤ s.size := by
  intro d
  induction d with
  | zero =>
    intro k f hd hk
    rw [xnameE_end (by omega)]
    exact ⟨Nat.le_refl _, hk⟩
  | succ d ih =>
    intro k f hd hk
    by_cases h : k < s.size
    · have hm := getS_many s k h
      cases h1 : (stayB f ((getS s k).1 : Int) && asRead s k)
      · rw [xnameE_stop h h1]
        exact ⟨Nat.le_refl _, hk⟩
      · rw [xnameE_go h h1]
        have := ih (k + (getS s k).2) false (by omega) (by omega)
        omega
    · rw [xnameE_end h]
      exact ⟨Nat.le_refl _, hk⟩

/-- What may stand in a strict text as it is. -/
def xsignB (s : ByteArray) (k : Nat) : Bool := textB ((getS s k).1 : Int) && (decide ((getS s k).1 ≠ 13) && (decide ((getS s k).1 ≠ 60) && (asRead s k && !standsB s k closeB)))
/-- A strict text from a place on up to a byte of some: its bytes, and that place. -/
def xtextR (s : ByteArray) (e : List UInt8) (k : Nat) : Option (List UInt8 × Nat) :=
  if h : k < s.size then
    if e.contains (s[k]'h) then some ([], k)
    else if (s[k]'h) = 38 then
      match xrefR s k with
      | none => none
      | some (t, j) => if _hj : k < j ∧ j ≤ s.size then (xtextR s e j).map (fun r => (t.data.toList ++ r.1, r.2)) else none
    else if xsignB s k then (xtextR s e (k + (getS s k).2)).map (fun r => ((s.extract k (k + (getS s k).2)).data.toList ++ r.1, r.2))
    else none
  else some ([], k)
  termination_by s.size - k
  decreasing_by
    · omega
    · have := getS_many s k (by assumption)
      omega
theorem xtextR_end {s : ByteArray} {e : List UInt8} {k : Nat} (h : ¬ k < s.size) : xtextR s e k = some ([], k) := by
  rw [xtextR, dif_neg h]
theorem xtextR_stop {s : ByteArray} {e : List UInt8} {k : Nat} (h : k < s.size) (h1 : e.contains (s[k]'h) = true) : xtextR s e k = some ([], k) := by
  rw [xtextR, dif_pos h, if_pos h1]
theorem xtextR_none {s : ByteArray} {e : List UInt8} {k : Nat} (h : k < s.size) (h1 : e.contains (s[k]'h) = false) (h2 : (s[k]'h) = 38) (h3 : xrefR s k = none) : xtextR s e k = none := by
  rw [xtextR, dif_pos h, if_neg (by rw [h1]; simp), if_pos h2, h3]
theorem xtextR_ref {s : ByteArray} {e : List UInt8} {k : Nat} {t : ByteArray} {j : Nat} (h : k < s.size) (h1 : e.contains (s[k]'h) = false) (h2 : (s[k]'h) = 38) (h3 : xrefR s k = some (t, j)) : xtextR s e k = (xtextR s e j).map (fun r => (t.data.toList ++ r.1, r.2)) := by
  have hl := xrefR_le h3
  rw [xtextR, dif_pos h, if_neg (by rw [h1]; simp), if_pos h2, h3]
  show (if hj : _ then _ else _) = _
  rw [dif_pos ⟨hl.1, hl.2.1⟩]
theorem xtextR_bad {s : ByteArray} {e : List UInt8} {k : Nat} (h : k < s.size) (h1 : e.contains (s[k]'h) = false) (h2 : ¬ (s[k]'h) = 38) (h3 : xsignB s k = false) : xtextR s e k = none := by
  rw [xtextR, dif_pos h, if_neg (by rw [h1]; simp), if_neg h2, if_neg (by rw [h3]; simp)]
theorem xtextR_sign {s : ByteArray} {e : List UInt8} {k : Nat} (h : k < s.size) (h1 : e.contains (s[k]'h) = false) (h2 : ¬ (s[k]'h) = 38) (h3 : xsignB s k = true) : xtextR s e k = (xtextR s e (k + (getS s k).2)).map (fun r => ((s.extract k (k + (getS s k).2)).data.toList ++ r.1, r.2)) := by
  rw [xtextR, dif_pos h, if_neg (by rw [h1]; simp), if_neg h2, if_pos h3]
theorem xtextR_le (s : ByteArray) (e : List UInt8) : ∀ (d k : Nat) (r : List UInt8 × Nat), s.size - k ≤ d → k ≤ s.size → xtextR s e k = some r → k ≤ r.2 ∧ r.2 ≤ s.size ∧ r.1.length ≤ 4 * (r.2 - k) := by
  intro d
  induction d with
  | zero =>
    intro k r hd hk h
    rw [xtextR_end (by omega)] at h
    cases h
    exact ⟨Nat.le_refl _, hk, by simp⟩
  | succ d ih =>
    intro k r hd hk h
    by_cases hlt : k < s.size
    · cases h1 : e.contains (s[k]'hlt)
      · by_cases h2 : (s[k]'hlt) = 38
        · cases h3 : xrefR s k with
          | none =>
            rw [xtextR_none hlt h1 h2 h3] at h
            cases h
          | some tj =>
            obtain ⟨t, j⟩ := tj
            rw [xtextR_ref hlt h1 h2 h3] at h
            have hl := xrefR_le h3
            cases hx : xtextR s e j with
            | none =>
              rw [hx] at h
              cases h
            | some q =>
              rw [hx] at h
              cases h
              have := ih j q (by omega) hl.2.1 hx
              refine ⟨by simp; omega, by simp; omega, ?_⟩
              have ht : t.data.toList.length = t.size := Array.length_toList
              simp only [List.length_append, ht]
              omega
        · cases h3 : xsignB s k
          · rw [xtextR_bad hlt h1 h2 h3] at h
            cases h
          · rw [xtextR_sign hlt h1 h2 h3] at h
            have hm := getS_many s k hlt
            cases hx : xtextR s e (k + (getS s k).2) with
            | none =>
              rw [hx] at h
              cases h
            | some q =>
              rw [hx] at h
              cases h
              have := ih (k + (getS s k).2) q (by omega) (by omega) hx
              refine ⟨by simp; omega, by simp; omega, ?_⟩
              have ht : (s.extract k (k + (getS s k).2)).data.toList.length = (getS s k).2 := by
                rw [Array.length_toList]
                show (s.extract k (k + (getS s k).2)).size = _
                rw [ByteArray.size_extract]
                omega
              simp only [List.length_append, ht]
              omega
      · rw [xtextR_stop hlt h1] at h
        cases h
        exact ⟨Nat.le_refl _, hk, by simp⟩
    · rw [xtextR_end hlt] at h
      cases h
      exact ⟨Nat.le_refl _, hk, by simp⟩

def eqB : ByteArray := ⟨#[61, 34]⟩
/-- An attribute that begins at a place: its name's end, its value's bytes, and the place of the byte behind it. -/
def xattrR (s : ByteArray) (k : Nat) : Option (Nat × List UInt8 × Nat) :=
  let n := xnameE s true k
  if n = k ∨ standsB s n eqB = false then none
  else match xtextR s [34] (n + 2) with
    | none => none
    | some (v, m) => if ¬ m < s.size ∨ ((s.extract (n + 2) m).data.toList.contains 9 || (s.extract (n + 2) m).data.toList.contains 10) = true then none else some (n, v, m)

def openNoteB : ByteArray := ⟨#[60, 33, 45, 45]⟩
def twoB : ByteArray := ⟨#[45, 45]⟩
def shutNoteB : ByteArray := ⟨#[45, 45, 62]⟩
/-- A note that begins at a place: where it ends. -/
def xnoteR (s : ByteArray) (k : Nat) : Option Nat :=
  if standsB s k openNoteB then
    match searchE s (k + 4) twoB with
    | none => none
    | some m => if standsB s m shutNoteB && stNoteB (s.extract (k + 4) m) then some m else none
  else none

end Go.Proofs.YtbmmghkieolpkaaGreatDoor.Sg

namespace Go.Proofs.YtbmmghkieolpkaaGreatDoor.Sg

/-- Some bytes of a text, one by one. -/
theorem extract_bytes (s : ByteArray) (i n : Nat) (h : i + n ≤ s.size) : (s.extract i (i + n)).data.toList = (List.range n).map fun j => UInt8.ofNat (bN s (i + j)) := by
  have hl : (s.extract i (i + n)).data.size = n := by
    show (s.extract i (i + n)).size = n
    rw [ByteArray.size_extract]
    omega
  apply List.ext_getElem
  · simp only [Array.length_toList, List.length_map, List.length_range, hl]
  · intro j h1 h2
    have hj : j < n := by simpa using h2
    simp only [List.getElem_map, List.getElem_range, Array.getElem_toList]
    have e : (s.extract i (i + n)).data[j]'(by rw [hl]; exact hj) = s[i + j]'(by omega) := by
      simp only [ByteArray.data_extract, Array.getElem_extract]
      rfl
    rw [e, ← bN_eq s (i + j) (by omega)]
    simp

theorem put_read {s : ByteArray} {i : Nat} (h : i < s.size) (hne : (getS s i).1 ≠ 65533) : (putS ((getS s i).1 : Int)).data.toList = (s.extract i (i + (getS s i).2)).data.toList := by
  have hb := getS_many s i h
  rw [extract_bytes s i _ hb.2]
  have hg := getS_decode s i h
  rw [Lib.decode_at] at hg
  have h0 := bN_lt s i
  have h1 := bN_lt s (i + 1)
  have h2 := bN_lt s (i + 2)
  have h3 := bN_lt s (i + 3)
  change getS s i = (if Lib.decodeN (s.size - i) (bN s i) (bN s (i + 1)) (bN s (i + 2)) (bN s (i + 3)) = (65533, 1) then _ else Lib.decodeN (s.size - i) (bN s i) (bN s (i + 1)) (bN s (i + 2)) (bN s (i + 3))) at hg
  by_cases hd : Lib.decodeN (s.size - i) (bN s i) (bN s (i + 1)) (bN s (i + 2)) (bN s (i + 3)) = (65533, 1)
  · rw [if_pos hd] at hg
    rw [hg] at hne
    exact absurd rfl hne
  · rw [if_neg hd] at hg
    rcases many_cases (bN s i) h0 with ⟨hb, hm⟩ | ⟨hb, hm⟩ | ⟨hb, hb', hm⟩ | ⟨hb, hb', hm⟩ | ⟨hb, hb', hm⟩
    · have e : getS s i = (bN s i, 1) := by
        rw [hg]
        unfold Lib.decodeN
        rw [if_pos hb]
      rw [e]
      have hl := putS_list (bN s i : Nat)
      rw [Lib.encodeRuneZ_one (by omega) (by omega)] at hl
      rw [hl]
      simp
    · exfalso
      apply hd
      unfold Lib.decodeN
      rw [if_neg (by omega)]
      repeat' split
      all_goals first | rfl | (exfalso; omega)
    · rw [dec2 _ _ _ _ _ hb hb' h1] at hg hd
      split at hg
      · rename_i hc
        rw [hg]
        have l0 : loN (bN s i) = 128 := by unfold loN; rw [if_neg (by omega), if_neg (by omega)]
        have l1 : hiN (bN s i) = 191 := by unfold hiN; rw [if_neg (by omega), if_neg (by omega)]
        rw [l0, l1] at hc
        have hl := putS_list ((bN s i % 32 * 64 + bN s (i + 1) % 64 : Nat) : Int)
        rw [Lib.encodeRuneZ_two (by omega) (by omega)] at hl
        rw [hl]
        simp only [List.map_cons, List.map_nil, List.range, List.range.loop, Nat.add_zero, List.cons.injEq, and_true]
        refine ⟨?_, ?_⟩ <;> (congr 1; omega)
      · rename_i hc
        exact absurd (if_neg hc) hd
    · rw [dec3 _ _ _ _ _ hb hb' h1 h2] at hg hd
      split at hg
      · rename_i hc
        rw [hg]
        have l : (bN s i = 224 ∧ loN (bN s i) = 160 ∧ hiN (bN s i) = 191) ∨ (bN s i = 237 ∧ loN (bN s i) = 128 ∧ hiN (bN s i) = 159) ∨ (bN s i ≠ 224 ∧ bN s i ≠ 237 ∧ loN (bN s i) = 128 ∧ hiN (bN s i) = 191) := by
          unfold loN hiN
          repeat' split
          all_goals omega
        have hl := putS_list (((bN s i % 16 * 64 + bN s (i + 1) % 64) * 64 + bN s (i + 2) % 64 : Nat) : Int)
        rw [Lib.encodeRuneZ_three (by omega)] at hl
        rw [hl]
        simp only [List.map_cons, List.map_nil, List.range, List.range.loop, Nat.add_zero, List.cons.injEq, and_true]
        refine ⟨?_, ?_, ?_⟩ <;> (congr 1; omega)
      · rename_i hc
        exact absurd (if_neg hc) hd
    · rw [dec4 _ _ _ _ _ hb hb' h1 h2 h3] at hg hd
      split at hg
      · rename_i hc
        rw [hg]
        have l : (bN s i = 240 ∧ loN (bN s i) = 144 ∧ hiN (bN s i) = 191) ∨ (bN s i = 244 ∧ loN (bN s i) = 128 ∧ hiN (bN s i) = 143) ∨ (bN s i ≠ 240 ∧ bN s i ≠ 244 ∧ loN (bN s i) = 128 ∧ hiN (bN s i) = 191) := by
          unfold loN hiN
          repeat' split
          all_goals omega
        have hl := putS_list ((((bN s i % 8 * 64 + bN s (i + 1) % 64) * 64 + bN s (i + 2) % 64) * 64 + bN s (i + 3) % 64 : Nat) : Int)
        rw [Lib.encodeRuneZ_four (by omega) (by omega)] at hl
        rw [hl]
        simp only [List.map_cons, List.map_nil, List.range, List.range.loop, Nat.add_zero, List.cons.injEq, and_true]
        refine ⟨?_, ?_, ?_, ?_⟩ <;> (congr 1; omega)
      · rename_i hc
        exact absurd (if_neg hc) hd

/-- What is not written as it is read are broken bytes. -/
theorem asRead_bad {s : ByteArray} {k : Nat} (h : k < s.size) (hr : asRead s k = false) : (getS s k).1 = 65533 := by
  apply Classical.byContradiction
  intro hne
  have h2 := put_read h hne
  unfold asRead at hr
  rw [ByteArray.toList_eq, ByteArray.toList_eq, h2] at hr
  simp at hr

end Go.Proofs.YtbmmghkieolpkaaGreatDoor.Sg

namespace Go.Proofs.YtbmmghkieolpkaaGreatDoor.Sg
open Go.ChangeShapes Go.WideShapes Go.ChangeAt Go.RowKit

/-- What is read of the world: the library's tables, and the error. -/
def PcT (a : Addr) (w : World) : Prop := Lib.Utf8Tabs 2 3 w ∧ ErrA a w
theorem PcT.below {a : Addr} {w w' : World} (h : PcT a w) (hb : Below w.heap.size w w') : PcT a w' := ⟨Utf8Tabs_below h.1 hb, h.2.below hb⟩

set_option maxHeartbeats 2000000 in
theorem signAt_out (s : ByteArray) (i : Int) (a : Addr) (w : World) (h : i < 0 ∨ (s.size : Int) ≤ i) (hE : ErrA a w) :
    Calls Tryz.prog 97 #[.string s, .int .i64 i] w fun e w' => e = .returned (.tuple #[.int .i64 0, .int .i64 i, errV a]) ∧ Below w.heap.size w w' := by
  have hv : w.cell? ⟨0, 0, none⟩ = some (errV a) := hE
  have HG := implGet_out s i w h
  clear hE h
  go_enter Tryz.func97, Tryz.ntmps97
  go_wp2_with fail
  refine HG.mono ?_
  rintro e w1 ⟨rfl, rfl⟩
  clear HG
  go_wp2_with fail
  go_quiet (fail)
  have bf := drew_kd (Below.refl w1.heap.size w1) nq
  have hv1 := keep_cell bf hv
  generalize w1.drewN nq = w2 at *
  go_wp2_with fail
  go_quiet (fail)
  have bg := drew_kd bf nq
  go_wp2_with fail
  go_ret3
  exact ⟨rfl, bg⟩
set_option maxHeartbeats 2000000 in
theorem signAt_yes (s : ByteArray) (k : Nat) (a : Addr) (w : World) (hk : k < s.size) (hs : s.size ≤ 17592186044416) (hT : PcT a w) (hr : asRead s k = true) :
    Calls Tryz.prog 97 #[.string s, .int .i64 (k : Int)] w fun e w' => e = .returned (.tuple #[.int .i64 ((getS s k).1 : Int), .int .i64 ((k + (getS s k).2 : Nat) : Int), .nilIface]) ∧ Below w.heap.size w w' := by
  have hm := getS_many s k hk
  have HG := implGet_in s k w hk (by omega) hT.1
  have Hr : Hid (((putS ((getS s k).1 : Int)).toList == (s.extract k (k + (getS s k).2)).toList) = true) := hr
  clear hr hT
  generalize (getS s k).1 = n at *
  generalize (getS s k).2 = m at *
  have q0 : ((m : Int) == 0) = false := by rw [beq_eq_false_iff_ne]; omega
  have q1 : IntKind.i64.wrap ((k : Int) + (m : Int)) = (k : Int) + (m : Int) := IntWalk.i64_in _ (by omega)
  have q2 : ((k : Int) + (m : Int)).toNat = k + m := by omega
  have q3 : (k : Int) ≤ (k : Int) + (m : Int) := by omega
  have q4 : (k : Int) + (m : Int) ≤ (s.size : Int) := by omega
  by_cases hb : n = 65533
  · subst hb
    have q5 : ((s.extract k (k + m)).toList == (putS 65533).toList) = true := by
      have := Hr.out
      rw [beq_iff_eq] at this ⊢
      exact this.symm
    have HP := implPutSign 65533
    generalize putS 65533 = P at *
    go_enter Tryz.func97, Tryz.ntmps97
    go_wp2_with fail
    refine HG.mono ?_
    rintro e w1 ⟨rfl, b1⟩
    clear HG
    go_wp2_with fail
    go_quiet ((go_at_call 114; exact Calls.quiet_of_same (HP _)))
    have bf := drew_kd b1 nq
    go_wp2_with fail
    go_ret3
    exact ⟨by rw [Int.natCast_add]; rfl, bf⟩
  · have q5 : ((n : Int) == 65533) = false := by rw [beq_eq_false_iff_ne]; omega
    go_enter Tryz.func97, Tryz.ntmps97
    go_wp2_with fail
    refine HG.mono ?_
    rintro e w1 ⟨rfl, b1⟩
    clear HG
    go_wp2_with fail
    go_quiet (fail)
    have bf := drew_kd b1 nq
    go_wp2_with fail
    go_ret3
    exact ⟨by rw [Int.natCast_add]; rfl, bf⟩
set_option maxHeartbeats 2000000 in
theorem signAt_no (s : ByteArray) (k : Nat) (a : Addr) (w : World) (hk : k < s.size) (hs : s.size ≤ 17592186044416) (hT : PcT a w) (hr : asRead s k = false) :
    Calls Tryz.prog 97 #[.string s, .int .i64 (k : Int)] w fun e w' => e = .returned (.tuple #[.int .i64 65533, .int .i64 (k : Int), errV a]) ∧ Below w.heap.size w w' := by
  have hm := getS_many s k hk
  have HG := implGet_in s k w hk (by omega) hT.1
  have hb := asRead_bad hk hr
  have Hr : Hid (((putS ((getS s k).1 : Int)).toList == (s.extract k (k + (getS s k).2)).toList) = false) := hr
  have HE : Hid (ErrA a w) := hT.2
  clear hr hT
  rw [hb] at HG Hr
  clear hb
  generalize (getS s k).2 = m at *
  have q0 : ((m : Int) == 0) = false := by rw [beq_eq_false_iff_ne]; omega
  have q1 : IntKind.i64.wrap ((k : Int) + (m : Int)) = (k : Int) + (m : Int) := IntWalk.i64_in _ (by omega)
  have q2 : ((k : Int) + (m : Int)).toNat = k + m := by omega
  have q3 : (k : Int) ≤ (k : Int) + (m : Int) := by omega
  have q4 : (k : Int) + (m : Int) ≤ (s.size : Int) := by omega
  have q5 : ((s.extract k (k + m)).toList == (putS 65533).toList) = false := by
    have h := Hr.out
    rw [beq_eq_false_iff_ne] at h ⊢
    exact fun e => h e.symm
  have HP := implPutSign 65533
  clear Hr
  generalize putS 65533 = P at *
  go_enter Tryz.func97, Tryz.ntmps97
  go_wp2_with fail
  refine HG.mono ?_
  rintro e w1 ⟨rfl, b1⟩
  clear HG
  go_wp2_with fail
  go_quiet ((go_at_call 114; exact Calls.quiet_of_same (HP _)))
  have bf := drew_kd b1 nq
  generalize w1.drewN nq = w2 at *
  have hv := HE.out.below bf
  unfold ErrA at hv
  go_wp2_with fail
  go_quiet (fail)
  have bg := drew_kd bf nq
  go_wp2_with fail
  go_ret3
  exact ⟨rfl, bg⟩

end Go.Proofs.YtbmmghkieolpkaaGreatDoor.Sg
