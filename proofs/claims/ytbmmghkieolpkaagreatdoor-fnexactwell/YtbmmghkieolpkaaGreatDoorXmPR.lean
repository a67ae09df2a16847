/- References of a strict text, plain. No program in it. -/
import Derived.Test.YtbmmghkieolpkaaGreatDoorMW205
import Derived.Test.YtbmmghkieolpkaaGreatDoorMW203
namespace Go.Proofs.YtbmmghkieolpkaaGreatDoor.Sg

/-- Digits from a place on, so many at most: the number, and the place behind them. -/
def xdigR (s : ByteArray) : Nat → Nat → Nat → Nat × Nat
  | 0, k, n => (n, k)
  | f + 1, k, n => if h : k < s.size then (if 48 ≤ (s[k]'h).toNat ∧ (s[k]'h).toNat ≤ 57 then xdigR s f (k + 1) (10 * n + ((s[k]'h).toNat - 48)) else (n, k)) else (n, k)
theorem xdigR_go {s : ByteArray} {f k n : Nat} (h : k < s.size) (h1 : 48 ≤ (s[k]'h).toNat ∧ (s[k]'h).toNat ≤ 57) : xdigR s (f + 1) k n = xdigR s f (k + 1) (10 * n + ((s[k]'h).toNat - 48)) := by
  rw [xdigR, dif_pos h, if_pos h1]
theorem xdigR_stop {s : ByteArray} {f k n : Nat} (h : k < s.size) (h1 : ¬ (48 ≤ (s[k]'h).toNat ∧ (s[k]'h).toNat ≤ 57)) : xdigR s f k n = (n, k) := by
  cases f with
  | zero => rfl
  | succ f => rw [xdigR, dif_pos h, if_neg h1]
theorem xdigR_end {s : ByteArray} {f k n : Nat} (h : ¬ k < s.size) : xdigR s f k n = (n, k) := by
  cases f with
  | zero => rfl
  | succ f => rw [xdigR, dif_neg h]
theorem xdigR_le (s : ByteArray) : ∀ (f k n : Nat), k ≤ (xdigR s f k n).2 ∧ (xdigR s f k n).2 ≤ k + f ∧ (k ≤ s.size → (xdigR s f k n).2 ≤ s.size)
  | 0, k, n => ⟨Nat.le_refl _, Nat.le_refl _, id⟩
  | f + 1, k, n => by
    by_cases h : k < s.size
    · by_cases h1 : 48 ≤ (s[k]'h).toNat ∧ (s[k]'h).toNat ≤ 57
      · rw [xdigR_go h h1]
        have := xdigR_le s f (k + 1) (10 * n + ((s[k]'h).toNat - 48))
        refine ⟨by omega, by omega, fun _ => this.2.2 h⟩
      · rw [xdigR_stop h h1]
        exact ⟨Nat.le_refl _, by omega, id⟩
    · rw [xdigR_end h]
      exact ⟨Nat.le_refl _, by omega, id⟩
/-- A reference by number that begins at a place: the number, and the place of its semicolon. -/
def xnumR (s : ByteArray) (k : Nat) : Option (Nat × Nat) :=
  let r := xdigR s 7 (k + 2) 0
  if r.2 = k + 2 ∨ bN s (k + 2) = 48 ∨ ¬ r.2 < s.size ∨ bN s r.2 ≠ 59 ∨ textB (r.1 : Int) = false then none else some r

def ampB : ByteArray := ⟨#[38, 97, 109, 112, 59]⟩
def ltB : ByteArray := ⟨#[38, 108, 116, 59]⟩
def gtB : ByteArray := ⟨#[38, 103, 116, 59]⟩
def quotB : ByteArray := ⟨#[38, 113, 117, 111, 116, 59]⟩
def aposB : ByteArray := ⟨#[38, 97, 112, 111, 115, 59]⟩
def hashB : ByteArray := ⟨#[38, 35]⟩
def closeB : ByteArray := ⟨#[93, 93, 62]⟩
/-- A reference that begins at a place: what it tells, and the place behind it. -/
def xrefR (s : ByteArray) (k : Nat) : Option (ByteArray × Nat) :=
  if standsB s k ampB then some (⟨#[38]⟩, k + 5)
  else if standsB s k ltB then some (⟨#[60]⟩, k + 4)
  else if standsB s k gtB then some (⟨#[62]⟩, k + 4)
  else if standsB s k quotB then some (⟨#[34]⟩, k + 6)
  else if standsB s k aposB then some (⟨#[39]⟩, k + 6)
  else if standsB s k hashB then (xnumR s k).map fun r => (putS (r.1 : Int), r.2 + 1)
  else none
theorem stands_le {s t : ByteArray} {k : Nat} (h : standsB s k t = true) : k + t.size ≤ s.size := by
  unfold standsB at h
  rw [Bool.and_eq_true, decide_eq_true_eq] at h
  exact h.1
theorem xnumR_le {s : ByteArray} {k : Nat} {r : Nat × Nat} (h : xnumR s k = some r) : k + 2 < r.2 ∧ r.2 < s.size := by
  unfold xnumR at h
  have hl := xdigR_le s 7 (k + 2) 0
  simp only at h
  split at h
  · cases h
  · rename_i hn
    cases h
    refine ⟨?_, ?_⟩
    · have : ¬ (xdigR s 7 (k + 2) 0).2 = k + 2 := fun e => hn (.inl e)
      omega
    · exact Classical.byContradiction fun e => hn (.inr (.inr (.inl e)))
theorem xrefR_le {s : ByteArray} {k : Nat} {t : ByteArray} {j : Nat} (h : xrefR s k = some (t, j)) : k < j ∧ j ≤ s.size ∧ t.size ≤ 4 := by
  unfold xrefR at h
  split at h
  · rename_i h1
    have := stands_le h1
    cases h
    exact ⟨by omega, this, by decide⟩
  split at h
  · rename_i h1
    have := stands_le h1
    cases h
    exact ⟨by omega, this, by decide⟩
  split at h
  · rename_i h1
    have := stands_le h1
    cases h
    exact ⟨by omega, this, by decide⟩
  split at h
  · rename_i h1
    have := stands_le h1
    cases h
    exact ⟨by omega, this, by decide⟩
  split at h
  · rename_i h1
    have := stands_le h1
    cases h
    exact ⟨by omega, this, by decide⟩
  split at h
  · cases hr : xnumR s k with
    | none =>
      rw [hr] at h
      cases h
    | some r =>
      rw [hr] at h
      have := xnumR_le hr
      cases h
      exact ⟨by omega, by omega, (putS_size _).2⟩
  · cases h

end Go.Proofs.YtbmmghkieolpkaaGreatDoor.Sg
