/- Plain functions of signs: what a sign read at a place is. No program in it. -/
import Derived.Lib.DecodeN
import Derived.Laws.Entries
namespace Go.Proofs.YtbmmghkieolpkaaGreatDoor.Sg

/-- The byte at a place, as a number. -/
def bN (s : ByteArray) (i : Nat) : Nat := (s.get! i).toNat

theorem bN_lt (s : ByteArray) (i : Nat) : bN s i < 256 := UInt8.toNat_lt _
theorem bN_eq (s : ByteArray) (i : Nat) (h : i < s.size) : (s[i]'h).toNat = bN s i := by
  unfold bN
  rw [show s.get! i = s[i]'h from by simp [ByteArray.get!, ByteArray.getElem_eq_getElem_data, ByteArray.size_data, h]]

/-- A number lies between two. -/
def inB (x lo hi : Int) : Bool := decide (lo ≤ x ∧ x ≤ hi)
theorem inB_yes {x lo hi : Int} (h : lo ≤ x ∧ x ≤ hi) : inB x lo hi = true := decide_eq_true h
theorem inB_no {x lo hi : Int} (h : ¬ (lo ≤ x ∧ x ≤ hi)) : inB x lo hi = false := decide_eq_false h

/-- How many bytes a sign has that begins with a byte; 0: none does. -/
def manyN (b : Nat) : Nat := if b < 128 then 1 else if b < 194 then 0 else if b < 224 then 2 else if b < 240 then 3 else if b < 245 then 4 else 0
def loN (a : Nat) : Nat := if a = 224 then 160 else if a = 240 then 144 else 128
def hiN (a : Nat) : Nat := if a = 237 then 159 else if a = 244 then 143 else 191

/-- Byte k of a sign that begins with b0 fits. -/
def fits (b0 k b : Nat) : Bool := if k = 1 then decide (loN b0 ≤ b ∧ b ≤ hiN b0) else decide (128 ≤ b ∧ b ≤ 191)

/-- Reading on from byte k, with what was read so far. -/
def getR (s : ByteArray) (i M : Nat) : Nat → Nat → Nat → Nat × Nat
  | 0, _, acc => (acc, M)
  | f + 1, k, acc => if k < M then (if i + k < s.size ∧ fits (bN s i) k (bN s (i + k)) = true then getR s i M f (k + 1) (acc * 64 + bN s (i + k) % 64) else (65533, k)) else (acc, M)

/-- The sign at place i of s, and how many bytes it takes. -/
def getS (s : ByteArray) (i : Nat) : Nat × Nat :=
  if manyN (bN s i) < 2 then (if manyN (bN s i) = 1 then (bN s i, 1) else (65533, 1))
  else getR s i (manyN (bN s i)) (manyN (bN s i) - 1) 1 (bN s i % (128 / 2 ^ manyN (bN s i)))

/-- How many bytes are the beginning of a sign. -/
def begR (s : ByteArray) (i M : Nat) : Nat → Nat → Nat
  | 0, k => k
  | f + 1, k => if k < M ∧ i + k < s.size ∧ fits (bN s i) k (bN s (i + k)) = true then begR s i M f (k + 1) else k

theorem many_cases (b : Nat) (hb : b < 256) : (b < 128 ∧ manyN b = 1) ∨ (((128 ≤ b ∧ b < 194) ∨ 245 ≤ b) ∧ manyN b = 0) ∨ (194 ≤ b ∧ b < 224 ∧ manyN b = 2) ∨ (224 ≤ b ∧ b < 240 ∧ manyN b = 3) ∨ (240 ≤ b ∧ b < 245 ∧ manyN b = 4) := by
  unfold manyN
  repeat' split
  all_goals omega

/-- One or more bytes are taken, and none behind the text's end. -/
theorem getR_many (s : ByteArray) (i M : Nat) : ∀ (f k acc : Nat), 1 ≤ k → k ≤ M → i + k ≤ s.size → M ≤ k + f → 1 ≤ (getR s i M f k acc).2 ∧ i + (getR s i M f k acc).2 ≤ s.size
  | 0, k, acc, h1, h2, h3, h4 => by
    simp only [getR]
    omega
  | f + 1, k, acc, h1, h2, h3, h4 => by
    simp only [getR]
    split
    · split
      · exact getR_many s i M f (k + 1) _ (by omega) (by omega) (by omega) (by omega)
      · simp only
        omega
    · simp only
      omega

theorem getS_many (s : ByteArray) (i : Nat) (h : i < s.size) : 1 ≤ (getS s i).2 ∧ i + (getS s i).2 ≤ s.size := by
  unfold getS
  split
  · split
    · simp only
      omega
    · simp only
      omega
  · exact getR_many s i _ _ _ _ (Nat.le_refl _) (by omega) (by omega) (by omega)

theorem dec2 (n b0 b1 b2 b3 : Nat) (hb : 194 ≤ b0) (hb' : b0 < 224) (h1 : b1 < 256) : Lib.decodeN n b0 b1 b2 b3 = if 1 < n ∧ loN b0 ≤ b1 ∧ b1 ≤ hiN b0 then (b0 % 32 * 64 + b1 % 64, 2) else (65533, 1) := by
  have l0 : loN b0 = 128 := by unfold loN; rw [if_neg (by omega), if_neg (by omega)]
  have l1 : hiN b0 = 191 := by unfold hiN; rw [if_neg (by omega), if_neg (by omega)]
  rw [l0, l1]
  unfold Lib.decodeN
  rw [if_neg (by omega)]
  by_cases c : 1 < n ∧ 128 ≤ b1 ∧ b1 ≤ 191
  · rw [if_pos c, if_pos (by omega), if_pos (by omega)]
  · rw [if_neg c, if_neg (by omega), if_neg (by omega), if_neg (by omega)]

theorem dec3 (n b0 b1 b2 b3 : Nat) (hb : 224 ≤ b0) (hb' : b0 < 240) (h1 : b1 < 256) (h2 : b2 < 256) :
    Lib.decodeN n b0 b1 b2 b3 = if (1 < n ∧ loN b0 ≤ b1 ∧ b1 ≤ hiN b0) ∧ (2 < n ∧ 128 ≤ b2 ∧ b2 ≤ 191) then ((b0 % 16 * 64 + b1 % 64) * 64 + b2 % 64, 3) else (65533, 1) := by
  have l : (b0 = 224 ∧ loN b0 = 160 ∧ hiN b0 = 191) ∨ (b0 = 237 ∧ loN b0 = 128 ∧ hiN b0 = 159) ∨ (b0 ≠ 224 ∧ b0 ≠ 237 ∧ loN b0 = 128 ∧ hiN b0 = 191) := by
    unfold loN hiN
    repeat' split
    all_goals omega
  unfold Lib.decodeN
  rw [if_neg (by omega), if_neg (by omega)]
  by_cases c : (1 < n ∧ loN b0 ≤ b1 ∧ b1 ≤ hiN b0) ∧ (2 < n ∧ 128 ≤ b2 ∧ b2 ≤ 191)
  · rw [if_pos c, if_pos (by omega), if_pos (by omega)]
    congr 1
    omega
  · rw [if_neg c]
    by_cases d : b0 / 16 = 14 ∧ (1 < n ∧ b1 / 64 = 2) ∧ (2 < n ∧ b2 / 64 = 2)
    · rw [if_pos d, if_neg (by omega)]
    · rw [if_neg d, if_neg (by omega)]

theorem dec4 (n b0 b1 b2 b3 : Nat) (hb : 240 ≤ b0) (hb' : b0 < 245) (h1 : b1 < 256) (h2 : b2 < 256) (h3 : b3 < 256) :
    Lib.decodeN n b0 b1 b2 b3 = if (1 < n ∧ loN b0 ≤ b1 ∧ b1 ≤ hiN b0) ∧ (2 < n ∧ 128 ≤ b2 ∧ b2 ≤ 191) ∧ (3 < n ∧ 128 ≤ b3 ∧ b3 ≤ 191) then (((b0 % 8 * 64 + b1 % 64) * 64 + b2 % 64) * 64 + b3 % 64, 4) else (65533, 1) := by
  have l : (b0 = 240 ∧ loN b0 = 144 ∧ hiN b0 = 191) ∨ (b0 = 244 ∧ loN b0 = 128 ∧ hiN b0 = 143) ∨ (b0 ≠ 240 ∧ b0 ≠ 244 ∧ loN b0 = 128 ∧ hiN b0 = 191) := by
    unfold loN hiN
    repeat' split
    all_goals omega
  unfold Lib.decodeN
  rw [if_neg (by omega), if_neg (by omega), if_neg (by omega)]
  by_cases c : (1 < n ∧ loN b0 ≤ b1 ∧ b1 ≤ hiN b0) ∧ (2 < n ∧ 128 ≤ b2 ∧ b2 ≤ 191) ∧ (3 < n ∧ 128 ≤ b3 ∧ b3 ≤ 191)
  · rw [if_pos c, if_pos (by omega), if_pos (by omega)]
    congr 1
    omega
  · rw [if_neg c]
    by_cases d : b0 / 8 = 30 ∧ (1 < n ∧ b1 / 64 = 2) ∧ (2 < n ∧ b2 / 64 = 2) ∧ (3 < n ∧ b3 / 64 = 2)
    · rw [if_pos d, if_neg (by omega)]
    · rw [if_neg d]

theorem fits_one (b0 b : Nat) : (fits b0 1 b = true) = (loN b0 ≤ b ∧ b ≤ hiN b0) := by simp [fits]
theorem fits_two (b0 b : Nat) : (fits b0 2 b = true) = (128 ≤ b ∧ b ≤ 191) := by simp [fits]
theorem fits_three (b0 b : Nat) : (fits b0 3 b = true) = (128 ≤ b ∧ b ≤ 191) := by simp [fits]

theorem nest4 (A B C : Prop) [Decidable A] [Decidable B] [Decidable C] (v : Nat) :
    (if A then if B then if C then (v, 4) else (65533, 3) else (65533, 2) else (65533, 1)) =
      if (if A ∧ B ∧ C then (v, 4) else (65533, 1)) = (65533, 1) then (65533, if A then if B then if C then 4 else 3 else 2 else 1) else if A ∧ B ∧ C then (v, 4) else (65533, 1) := by
  by_cases a : A <;> by_cases b : B <;> by_cases c : C <;> simp [a, b, c]

/-- Go's own decoder, and the whole beginning where it finds no sign. -/
theorem getS_decode (s : ByteArray) (i : Nat) (h : i < s.size) : getS s i = if (Utf8.decode s i) = (65533, 1) then (65533, begR s i (max 1 (manyN (bN s i))) 3 1) else Utf8.decode s i := by
  rw [Lib.decode_at]
  have h0 := bN_lt s i
  have h1 := bN_lt s (i + 1)
  have h2 := bN_lt s (i + 2)
  have h3 := bN_lt s (i + 3)
  show _ = if Lib.decodeN (s.size - i) (bN s i) (bN s (i + 1)) (bN s (i + 2)) (bN s (i + 3)) = (65533, 1) then _ else Lib.decodeN (s.size - i) (bN s i) (bN s (i + 1)) (bN s (i + 2)) (bN s (i + 3))
  have n1 : (1 < s.size - i) = (i + 1 < s.size) := propext ⟨fun _ => by omega, fun _ => by omega⟩
  have n2 : (2 < s.size - i) = (i + 2 < s.size) := propext ⟨fun _ => by omega, fun _ => by omega⟩
  have n3 : (3 < s.size - i) = (i + 3 < s.size) := propext ⟨fun _ => by omega, fun _ => by omega⟩
  rcases many_cases (bN s i) h0 with ⟨hb, hm⟩ | ⟨hb, hm⟩ | ⟨hb, hb', hm⟩ | ⟨hb, hb', hm⟩ | ⟨hb, hb', hm⟩
  · have hd : ∀ n b1 b2 b3, Lib.decodeN n (bN s i) b1 b2 b3 = (bN s i, 1) := fun n b1 b2 b3 => by
      unfold Lib.decodeN
      rw [if_pos hb]
    rw [hd, if_neg (by simp; omega)]
    unfold getS
    simp [hm]
  · have hd : Lib.decodeN (s.size - i) (bN s i) (bN s (i + 1)) (bN s (i + 2)) (bN s (i + 3)) = (65533, 1) := by
      unfold Lib.decodeN
      rw [if_neg (by omega)]
      repeat' split
      all_goals first | rfl | (exfalso; omega)
    rw [hd, if_pos rfl]
    unfold getS begR
    simp [hm]
  · rw [dec2 _ _ _ _ _ hb hb' h1]
    simp only [n1]
    unfold getS
    rw [hm]
    simp only [getR, begR, Nat.reduceLT, Nat.reduceSub, if_false, if_true, fits_one, Nat.reduceAdd, Nat.reduceLeDiff, Nat.max_eq_right, true_and, false_and, Nat.reducePow, Nat.reduceDiv]
    by_cases c1 : i + 1 < s.size ∧ loN (bN s i) ≤ bN s (i + 1) ∧ bN s (i + 1) ≤ hiN (bN s i)
    · simp only [if_pos c1]
      simp
    · simp only [if_neg c1, if_true]
  · rw [dec3 _ _ _ _ _ hb hb' h1 h2]
    simp only [n1, n2]
    unfold getS
    rw [hm]
    simp only [getR, begR, Nat.reduceLT, Nat.reduceSub, if_false, if_true, fits_one, fits_two, Nat.reduceAdd, Nat.reduceLeDiff, Nat.max_eq_right, true_and, false_and, Nat.reducePow, Nat.reduceDiv]
    by_cases c1 : i + 1 < s.size ∧ loN (bN s i) ≤ bN s (i + 1) ∧ bN s (i + 1) ≤ hiN (bN s i)
    · by_cases c2 : i + 2 < s.size ∧ 128 ≤ bN s (i + 2) ∧ bN s (i + 2) ≤ 191
      · simp only [if_pos c1, if_pos c2, if_pos (And.intro c1 c2)]
        simp
      · have c3 : ¬ ((i + 1 < s.size ∧ loN (bN s i) ≤ bN s (i + 1) ∧ bN s (i + 1) ≤ hiN (bN s i)) ∧ i + 2 < s.size ∧ 128 ≤ bN s (i + 2) ∧ bN s (i + 2) ≤ 191) := fun x => c2 x.2
        simp only [if_pos c1, if_neg c2, if_neg c3, if_true]
    · have c3 : ¬ ((i + 1 < s.size ∧ loN (bN s i) ≤ bN s (i + 1) ∧ bN s (i + 1) ≤ hiN (bN s i)) ∧ i + 2 < s.size ∧ 128 ≤ bN s (i + 2) ∧ bN s (i + 2) ≤ 191) := fun x => c1 x.1
      simp only [if_neg c1, if_neg c3, if_true]
  · rw [dec4 _ _ _ _ _ hb hb' h1 h2 h3]
    simp only [n1, n2, n3]
    unfold getS
    rw [hm]
    simp only [getR, begR, Nat.reduceLT, Nat.reduceSub, if_false, if_true, fits_one, fits_two, fits_three, Nat.reduceAdd, Nat.reduceLeDiff, Nat.max_eq_right, true_and, Nat.reducePow, Nat.reduceDiv]
    exact nest4 _ _ _ _

theorem decode_le (s : ByteArray) (i : Nat) : (Utf8.decode s i).1 ≤ 1114111 := by
  rw [Lib.decode_at]
  have h0 : (s.get! i).toNat < 256 := UInt8.toNat_lt _
  generalize (s.get! i).toNat = b0 at *
  generalize (s.get! (i + 1)).toNat = b1
  generalize (s.get! (i + 2)).toNat = b2
  generalize (s.get! (i + 3)).toNat = b3
  unfold Lib.decodeN
  repeat' split
  all_goals (simp only; omega)

end Go.Proofs.YtbmmghkieolpkaaGreatDoor.Sg
