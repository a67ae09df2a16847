/- Words of a page, in plain lists of bytes: what is gone over, and how far. No program in it. Bytes swapped for texts, as plain lists. No program in it. References of a strict text, plain. No program in it. -/
import Derived.Test.YtfbnhjogkjbcbaaDoorRfP
import Derived.Test.YtfbnhjogkjbcbaaDoorSgPut
import Derived.Test.YtfbnhjogkjbcbaaDoorSgPlain
import Derived.Test.YtfbnhjogkjbcbaaDoorMN02
import Derived.Test.YtfbnhjogkjbcbaaDoorScSt
namespace Go.Proofs.YtfbnhjogkjbcbaaDoor.Sg

def blankU (b : UInt8) : Bool := blankB (b.toNat : Int)
/-- Blanks and slashes. -/
def skipU (b : UInt8) : Bool := blankU b || decide (b.toNat = 47)
/-- What a value without quotes is of. -/
def plainU (angle : Bool) (b : UInt8) : Bool := !blankU b && !(angle && decide (b.toNat = 62))
/-- What a tag's name is of. -/
def tagU (b : UInt8) : Bool := !blankU b && (!decide (b.toNat = 47) && !decide (b.toNat = 62))
/-- What an attribute's name may begin with, and what it is of. -/
def firstU (angle : Bool) (b : UInt8) : Bool := !blankU b && (!decide (b.toNat = 47) && !(angle && decide (b.toNat = 62)))
def nameU (angle : Bool) (b : UInt8) : Bool := firstU angle b && !decide (b.toNat = 61)

/-- How many bytes of a kind stand at a text's head. -/
def runN (p : UInt8 → Bool) : List UInt8 → Nat
  | [] => 0
  | b :: l => if p b then runN p l + 1 else 0

theorem runN_le (p : UInt8 → Bool) (l : List UInt8) : runN p l ≤ l.length := by
  induction l with
  | nil => exact Nat.le_refl _
  | cons b l ih =>
    unfold runN
    split
    · exact Nat.succ_le_succ ih
    · exact Nat.zero_le _
theorem runN_yes {p : UInt8 → Bool} {b : UInt8} {l : List UInt8} (h : p b = true) : runN p (b :: l) = runN p l + 1 := by
  rw [runN, if_pos h]
theorem runN_no {p : UInt8 → Bool} {b : UInt8} {l : List UInt8} (h : p b = false) : runN p (b :: l) = 0 := by
  rw [runN, if_neg (by simp [h])]

/-- Where bytes of a kind end, from a place on. -/
def runE (p : UInt8 → Bool) (s : ByteArray) (k : Nat) : Nat := k + runN p (tailL s k)
theorem runE_end {p : UInt8 → Bool} {s : ByteArray} {k : Nat} (h : ¬ k < s.size) : runE p s k = k := by
  unfold runE
  rw [tailL_end s k h]
  rfl
theorem runE_no {p : UInt8 → Bool} {s : ByteArray} {k : Nat} (h : k < s.size) (hp : p (s[k]'h) = false) : runE p s k = k := by
  unfold runE
  rw [tailL_step s k h, runN_no hp]
  rfl
theorem runE_yes {p : UInt8 → Bool} {s : ByteArray} {k : Nat} (h : k < s.size) (hp : p (s[k]'h) = true) : runE p s k = runE p s (k + 1) := by
  unfold runE
  rw [tailL_step s k h, runN_yes hp]
  omega
theorem runE_le {p : UInt8 → Bool} {s : ByteArray} {k : Nat} (h : k ≤ s.size) : k ≤ runE p s k ∧ runE p s k ≤ s.size := by
  have := runN_le p (tailL s k)
  rw [tailL_length] at this
  unfold runE
  omega

/-- Where an attribute's name ends. -/
def nameE (angle : Bool) (s : ByteArray) (k : Nat) : Nat :=
  match tailL s k with
  | [] => k
  | b :: _ => if firstU angle b then runE (nameU angle) s (k + 1) else k
theorem nameE_end {angle : Bool} {s : ByteArray} {k : Nat} (h : ¬ k < s.size) : nameE angle s k = k := by
  unfold nameE
  rw [tailL_end s k h]
theorem nameE_no {angle : Bool} {s : ByteArray} {k : Nat} (h : k < s.size) (hp : firstU angle (s[k]'h) = false) : nameE angle s k = k := by
  unfold nameE
  rw [tailL_step s k h]
  simp [hp]
theorem nameE_yes {angle : Bool} {s : ByteArray} {k : Nat} (h : k < s.size) (hp : firstU angle (s[k]'h) = true) : nameE angle s k = runE (nameU angle) s (k + 1) := by
  unfold nameE
  rw [tailL_step s k h]
  simp [hp]
theorem nameE_le {angle : Bool} {s : ByteArray} {k : Nat} (h : k ≤ s.size) : k ≤ nameE angle s k ∧ nameE angle s k ≤ s.size := by
  by_cases hk : k < s.size
  · cases hp : firstU angle (s[k]'hk)
    · rw [nameE_no hk hp]; omega
    · rw [nameE_yes hk hp]
      have := runE_le (p := nameU angle) (s := s) (k := k + 1) hk
      omega
  · rw [nameE_end hk]; omega

/-- The first place of a byte, from one on. -/
def findL (b : UInt8) : List UInt8 → Option Nat
  | [] => none
  | x :: l => if x = b then some 0 else (findL b l).map (· + 1)
def findE (s : ByteArray) (k : Nat) (b : UInt8) : Option Nat := (findL b (tailL s k)).map (k + ·)
def findV : Option Nat → Int
  | none => -1
  | some m => (m : Int)
theorem findE_end {s : ByteArray} {k : Nat} {b : UInt8} (h : ¬ k < s.size) : findE s k b = none := by
  unfold findE
  rw [tailL_end s k h]
  rfl
theorem findE_yes {s : ByteArray} {k : Nat} {b : UInt8} (h : k < s.size) (hp : s[k]'h = b) : findE s k b = some k := by
  unfold findE
  rw [tailL_step s k h, findL, if_pos hp]
  rfl
theorem findE_no {s : ByteArray} {k : Nat} {b : UInt8} (h : k < s.size) (hp : s[k]'h ≠ b) : findE s k b = findE s (k + 1) b := by
  unfold findE
  rw [tailL_step s k h, findL, if_neg hp]
  cases findL b (tailL s (k + 1)) with
  | none => rfl
  | some m =>
    show some (k + (m + 1)) = some (k + 1 + m)
    congr 1
    omega
theorem findE_le {s : ByteArray} {k m : Nat} {b : UInt8} (hk : findE s k b = some m) : k ≤ m ∧ m < s.size := by
  have key : ∀ (l : List UInt8) (m : Nat), findL b l = some m → m < l.length := by
    intro l
    induction l with
    | nil => intro m h; cases h
    | cons x l ih =>
      intro m h
      unfold findL at h
      split at h
      · cases h; simp
      · cases hf : findL b l with
        | none => rw [hf] at h; cases h
        | some q =>
          rw [hf] at h
          have := ih q hf
          cases h
          simp
          omega
  unfold findE at hk
  cases hf : findL b (tailL s k) with
  | none => rw [hf] at hk; cases hk
  | some q =>
    rw [hf] at hk
    have h1 := key _ _ hf
    rw [tailL_length] at h1
    have h2 : k + q = m := Option.some.inj hk
    omega

end Go.Proofs.YtfbnhjogkjbcbaaDoor.Sg

namespace Go.Proofs.YtfbnhjogkjbcbaaDoor.Sg

/-- What stands in the place of a byte. -/
def swap1 (which : List UInt8) (ws : List (List UInt8)) (b : UInt8) : List UInt8 :=
  match findL b which with
  | none => [b]
  | some k => ws.getD k []
def swapL (which : List UInt8) (ws : List (List UInt8)) (l : List UInt8) : List UInt8 := l.flatMap (swap1 which ws)
theorem swapL_step (which : List UInt8) (ws : List (List UInt8)) (s : ByteArray) (k : Nat) (h : k < s.size) : swapL which ws (tailL s k) = swap1 which ws (s[k]'h) ++ swapL which ws (tailL s (k + 1)) := by
  rw [tailL_step s k h]
  unfold swapL
  rw [List.flatMap_cons]
theorem findE_zero (s : ByteArray) (b : UInt8) : findE s 0 b = findL b s.data.toList := by
  unfold findE
  show Option.map _ (findL b (s.data.toList.drop 0)) = _
  rw [List.drop_zero]
  cases findL b s.data.toList <;> simp

end Go.Proofs.YtfbnhjogkjbcbaaDoor.Sg

namespace Go.Proofs.YtfbnhjogkjbcbaaDoor.Sg

/-- Digits from a place on, so many at most: the number, and the place behind them. -/
def xdigR (s : ByteArray) : Nat → Nat → Nat → Nat × Nat
  | 0, k, n => (n, k)
  | f + 1, k, n => if h : k < s.size then (if 48 ≤ (s[k]'h).toNat ∧ (s[k]'h).toNat ≤ 57 then xdigR s f (k + 1) (10 * n + ((s[k]'h).toNat - 48)) else (n, k)) else (n, k)
theorem xdigR_go {s : ByteArray} {f k n : Nat} (h : k < s.size) (h1 : 48 ≤ (s[k]'h).toNat ∧ (s[k]'h).toNat ≤ 57) : xdigR s (f + 1) k n = xdigR s f (k + 1) (10 * n + ((s[k]'h).toNat - 48)) := by
  rw [xdigR, dif_pos h, if_pos h1]
theorem xdigR_stop {s : ByteArray} {f k n : Nat} (h : k < s.size) (h1 : ¬ (48 ≤ (s[k]'h).toNat ∧ (s[k]'h).toNat ≤ 57)) : xdigR s f k n = (n, k) := by
  cases f with
  | zero => rfl
  | succ f => rw [xdigR, dif_pos h, if_neg h1]
theorem xdigR_end {s : ByteArray} {f k n : Nat} (h : ¬ k < s.size) : xdigR s f k n = (n, k) := by
  cases f with
  | zero => rfl
  | succ f => rw [xdigR, dif_neg h]
theorem xdigR_le (s : ByteArray) : ∀ (f k n : Nat), k ≤ (xdigR s f k n).2 ∧ (xdigR s f k n).2 ≤ k + f ∧ (k ≤ s.size → (xdigR s f k n).2 ≤ s.size)
  | 0, k, n => ⟨Nat.le_refl _, Nat.le_refl _, id⟩
  | f + 1, k, n => by
    by_cases h : k < s.size
    · by_cases h1 : 48 ≤ (s[k]'h).toNat ∧ (s[k]'h).toNat ≤ 57
      · rw [xdigR_go h h1]
        have := xdigR_le s f (k + 1) (10 * n + ((s[k]'h).toNat - 48))
        refine ⟨by omega, by omega, fun _ => this.2.2 h⟩
      · rw [xdigR_stop h h1]
        exact ⟨Nat.le_refl _, by omega, id⟩
    · rw [xdigR_end h]
      exact ⟨Nat.le_refl _, by omega, id⟩
/-- A reference by number that begins at a place: the number, and the place of its semicolon. -/
def xnumR (s : ByteArray) (k : Nat) : Option (Nat × Nat) :=
  let r := xdigR s 7 (k + 2) 0
  if r.2 = k + 2 ∨ bN s (k + 2) = 48 ∨ ¬ r.2 < s.size ∨ bN s r.2 ≠ 59 ∨ textB (r.1 : Int) = false then none else some r

def ampB : ByteArray := ⟨#[38, 97, 109, 112, 59]⟩
def ltB : ByteArray := ⟨#[38, 108, 116, 59]⟩
def gtB : ByteArray := ⟨#[38, 103, 116, 59]⟩
def quotB : ByteArray := ⟨#[38, 113, 117, 111, 116, 59]⟩
def aposB : ByteArray := ⟨#[38, 97, 112, 111, 115, 59]⟩
def hashB : ByteArray := ⟨#[38, 35]⟩
def closeB : ByteArray := ⟨#[93, 93, 62]⟩
/-- A reference that begins at a place: what it tells, and the place behind it. -/
def xrefR (s : ByteArray) (k : Nat) : Option (ByteArray × Nat) :=
  if standsB s k ampB then some (⟨#[38]⟩, k + 5)
  else if standsB s k ltB then some (⟨#[60]⟩, k + 4)
  else if standsB s k gtB then some (⟨#[62]⟩, k + 4)
  else if standsB s k quotB then some (⟨#[34]⟩, k + 6)
  else if standsB s k aposB then some (⟨#[39]⟩, k + 6)
  else if standsB s k hashB then (xnumR s k).map fun r => (putS (r.1 : Int), r.2 + 1)
  else none
theorem stands_le {s t : ByteArray} {k : Nat} (h : standsB s k t = true) : k + t.size ≤ s.size := by
  unfold standsB at h
  rw [Bool.and_eq_true, decide_eq_true_eq] at h
  exact h.1
theorem xnumR_le {s : ByteArray} {k : Nat} {r : Nat × Nat} (h : xnumR s k = some r) : k + 2 < r.2 ∧ r.2 < s.size := by
  unfold xnumR at h
  have hl := xdigR_le s 7 (k + 2) 0
  simp only at h
  split at h
  · cases h
  · rename_i hn
    cases h
    refine ⟨?_, ?_⟩
    · have : ¬ (xdigR s 7 (k + 2) 0).2 = k + 2 := fun e => hn (.inl e)
      omega
    · exact Classical.byContradiction fun e => hn (.inr (.inr (.inl e)))
theorem xrefR_le {s : ByteArray} {k : Nat} {t : ByteArray} {j : Nat} (h : xrefR s k = some (t, j)) : k < j ∧ j ≤ s.size ∧ t.size ≤ 4 := by
  unfold xrefR at h
  split at h
  · rename_i h1
    have := stands_le h1
    cases h
    exact ⟨by omega, this, by decide⟩
  split at h
  · rename_i h1
    have := stands_le h1
    cases h
    exact ⟨by omega, this, by decide⟩
  split at h
  · rename_i h1
    have := stands_le h1
    cases h
    exact ⟨by omega, this, by decide⟩
  split at h
  · rename_i h1
    have := stands_le h1
    cases h
    exact ⟨by omega, this, by decide⟩
  split at h
  · rename_i h1
    have := stands_le h1
    cases h
    exact ⟨by omega, this, by decide⟩
  split at h
  · cases hr : xnumR s k with
    | none =>
      rw [hr] at h
      cases h
    | some r =>
      rw [hr] at h
      have := xnumR_le hr
      cases h
      exact ⟨by omega, by omega, (putS_size _).2⟩
  · cases h

end Go.Proofs.YtfbnhjogkjbcbaaDoor.Sg
