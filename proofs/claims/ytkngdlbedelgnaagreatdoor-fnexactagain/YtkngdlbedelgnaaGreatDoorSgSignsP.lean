/- Plain functions: the signs of a text, one behind the other. No program in it. -/
import Derived.Test.YtkngdlbedelgnaaGreatDoorMAG06
namespace Go.Proofs.YtkngdlbedelgnaaGreatDoor.Sg

/-- The signs from a place on, by at most so many. -/
def signsFrom (s : ByteArray) : Nat → Nat → List Int
  | 0, _ => []
  | f + 1, pos => if pos < s.size then ((getS s pos).1 : Int) :: signsFrom s f (pos + (getS s pos).2) else []

def signsL (s : ByteArray) : List Int := signsFrom s s.size 0

theorem signsFrom_end (s : ByteArray) (f pos : Nat) (h : ¬ pos < s.size) : signsFrom s f pos = [] := by
  cases f with
  | zero => rfl
  | succ f => rw [signsFrom, if_neg h]

/-- More fuel than there are bytes changes nothing. -/
theorem signsFrom_fuel (s : ByteArray) : ∀ (f g pos : Nat), s.size ≤ pos + f → s.size ≤ pos + g → signsFrom s f pos = signsFrom s g pos
  | 0, g, pos, h, _ => by
    rw [signsFrom_end s g pos (by omega), signsFrom_end s 0 pos (by omega)]
  | f + 1, 0, pos, _, h => by
    rw [signsFrom_end s 0 pos (by omega), signsFrom_end s (f + 1) pos (by omega)]
  | f + 1, g + 1, pos, h, h' => by
    by_cases hp : pos < s.size
    · have hm := getS_many s pos hp
      rw [signsFrom, signsFrom, if_pos hp, if_pos hp, signsFrom_fuel s f g _ (by omega) (by omega)]
    · rw [signsFrom_end s _ _ hp, signsFrom_end s _ _ hp]

/-- The signs from a place on. -/
def signsAt (s : ByteArray) (pos : Nat) : List Int := signsFrom s s.size pos

theorem signsAt_zero (s : ByteArray) : signsAt s 0 = signsL s := rfl
theorem signsAt_end (s : ByteArray) (pos : Nat) (h : ¬ pos < s.size) : signsAt s pos = [] := signsFrom_end s _ _ h
theorem signsAt_step (s : ByteArray) (pos : Nat) (h : pos < s.size) : signsAt s pos = ((getS s pos).1 : Int) :: signsAt s (pos + (getS s pos).2) := by
  have hm := getS_many s pos h
  unfold signsAt
  rw [signsFrom_fuel s s.size (s.size + 1) pos (by omega) (by omega)]
  conv => lhs; rw [signsFrom, if_pos h]

/-- No more signs than bytes. -/
theorem signsFrom_length (s : ByteArray) : ∀ (f pos : Nat), (signsFrom s f pos).length ≤ s.size - pos
  | 0, pos => by simp [signsFrom]
  | f + 1, pos => by
    by_cases hp : pos < s.size
    · have hm := getS_many s pos hp
      have ih := signsFrom_length s f (pos + (getS s pos).2)
      rw [signsFrom, if_pos hp, List.length_cons]
      omega
    · rw [signsFrom_end s _ _ hp]
      simp

theorem signsL_length (s : ByteArray) : (signsL s).length ≤ s.size := signsFrom_length s _ _

/-- What is read is a sign's number. -/
theorem getS_le (s : ByteArray) (i : Nat) (h : i < s.size) : (getS s i).1 ≤ 1114111 := by
  rw [getS_decode s i h]
  split
  · simp
  · exact decode_le s i

/-- Bytes within the beginning of a sign come behind another. -/
theorem begR_span (s : ByteArray) (i M : Nat) : ∀ (f k : Nat), 1 ≤ k → ∀ j, k ≤ j → j < begR s i M f k → i + j < s.size ∧ 128 ≤ bN s (i + j) ∧ bN s (i + j) ≤ 191
  | 0, k, _, j, h1, h2 => by
    simp only [begR] at h2
    omega
  | f + 1, k, hk, j, h1, h2 => by
    rw [begR] at h2
    split at h2
    · rename_i hc
      by_cases e : j = k
      · subst e
        refine ⟨hc.2.1, ?_⟩
        have hf := hc.2.2
        unfold fits at hf
        have l0 : 128 ≤ loN (bN s i) := by unfold loN; split; omega; split <;> omega
        have l1 : hiN (bN s i) ≤ 191 := by unfold hiN; split; omega; split <;> omega
        split at hf
        · rw [decide_eq_true_eq] at hf
          omega
        · rw [decide_eq_true_eq] at hf
          exact hf
      · exact begR_span s i M f (k + 1) (by omega) j (by omega) h2
    · omega

theorem begR_pos (s : ByteArray) (i M : Nat) : ∀ (f k : Nat), k ≤ begR s i M f k
  | 0, k => Nat.le_refl _
  | f + 1, k => by
    rw [begR]
    split
    · exact Nat.le_trans (Nat.le_succ k) (begR_pos s i M f (k + 1))
    · exact Nat.le_refl _

/-- Where such a byte stands Go's decoder takes it alone. -/
theorem decode_behind (s : ByteArray) (i : Nat) (h1 : 128 ≤ bN s i) (h2 : bN s i ≤ 191) : Utf8.decode s i = (65533, 1) := by
  rw [Lib.decode_at]
  unfold bN at h1 h2
  unfold Lib.decodeN
  rw [if_neg (by omega), if_neg (by omega), if_neg (by omega), if_neg (by omega)]

theorem decode_pos (s : ByteArray) (i : Nat) : 1 ≤ (Utf8.decode s i).2 := by
  rw [Lib.decode_at]
  unfold Lib.decodeN
  repeat' split
  all_goals simp

/-- Signs at a place where Go's decoder finds one. -/
theorem getS_good (s : ByteArray) (i : Nat) (h : i < s.size) (hd : (Utf8.decode s i).1 ≠ 65533) : getS s i = Utf8.decode s i := by
  rw [getS_decode s i h, if_neg (fun e => hd (by rw [e]))]

/-- Signs at a place where it tells 65533: that sign itself, or a beginning. -/
theorem getS_bad (s : ByteArray) (i : Nat) (h : i < s.size) (hd : (Utf8.decode s i).1 = 65533) :
    (getS s i).1 = 65533 ∧ (Utf8.decode s i).2 ≤ (getS s i).2 ∧ ∀ j, i + (Utf8.decode s i).2 ≤ j → j < i + (getS s i).2 → 128 ≤ bN s j ∧ bN s j ≤ 191 := by
  rw [getS_decode s i h]
  by_cases e : Utf8.decode s i = (65533, 1)
  · rw [if_pos e, e]
    refine ⟨rfl, begR_pos _ _ _ _ _, fun j h1 h2 => ?_⟩
    obtain ⟨t, rfl⟩ : ∃ t, j = i + t := ⟨j - i, by omega⟩
    exact (begR_span s i (max 1 (manyN (bN s i))) 3 1 (Nat.le_refl _) t (by simp only at h1; omega) (by simp only at h2; omega)).2
  · rw [if_neg e]
    exact ⟨hd, Nat.le_refl _, fun j h1 h2 => by omega⟩

end Go.Proofs.YtkngdlbedelgnaaGreatDoor.Sg
