/- Signs that are written are read as they were: plain, no program in it. -/
import Derived.Test.YtbmmghkieolpkaaGreatDoorMD106
import Derived.Test.YtbmmghkieolpkaaGreatDoorMD107
namespace Go.Proofs.YtbmmghkieolpkaaGreatDoor.Sg

/-- What is read of a number that was written. -/
def fix (z : Int) : Int := if okB z = true then z else 65533

theorem bN_list (l : List UInt8) (i : Nat) : bN ⟨l.toArray⟩ i = (l.getD i 0).toNat := by
  unfold bN
  show (l.toArray[i]!).toNat = _
  rw [getElem!_def]
  simp only [List.getElem?_toArray, List.getD_eq_getElem?_getD]
  cases l[i]? <;> rfl

theorem size_list (l : List UInt8) : (⟨l.toArray⟩ : ByteArray).size = l.length := by
  show l.toArray.size = l.length
  simp

theorem bN_mid (pre b post : List UInt8) (j : Nat) (h : j < b.length) : bN ⟨(pre ++ (b ++ post)).toArray⟩ (pre.length + j) = (b.getD j 0).toNat := by
  rw [bN_list]
  congr 1
  simp only [List.getD_eq_getElem?_getD]
  rw [List.getElem?_append_right (by omega), show pre.length + j - pre.length = j by omega, List.getElem?_append_left h]

theorem u8_of (x : Int) (_h0 : 0 ≤ x) (h1 : x < 256) : (UInt8.ofNat x.toNat).toNat = x.toNat := by
  simp
  omega

theorem putS_list (z : Int) : (putS z).data.toList = (Lib.encodeRuneZ z).map fun n => UInt8.ofNat n.toNat := by
  simp [putS, strOfNums]

/-- A sign's bytes, wherever they stand, are read as the sign. -/
theorem getS_put (z : Int) (hz : okB z = true) (pre post : List UInt8) :
    getS ⟨(pre ++ ((putS z).data.toList ++ post)).toArray⟩ pre.length = (z.toNat, (putS z).size) := by
  have hb := okB_of hz
  have hlen : (putS z).data.toList.length = (putS z).size := Array.length_toList
  have hps := putS_size z
  have hin : pre.length < (⟨(pre ++ ((putS z).data.toList ++ post)).toArray⟩ : ByteArray).size := by
    rw [size_list]
    simp only [List.length_append]
    omega
  have hsz : (⟨(pre ++ ((putS z).data.toList ++ post)).toArray⟩ : ByteArray).size - pre.length = (putS z).size + post.length := by
    rw [size_list]
    simp only [List.length_append]
    omega
  have hB := fun j h => bN_mid pre (putS z).data.toList post j h
  rw [getS_decode _ _ hin, Lib.decode_at, hsz]
  generalize hs : (⟨(pre ++ ((putS z).data.toList ++ post)).toArray⟩ : ByteArray) = s at *
  have e0 := hB 0 (by omega)
  rw [Nat.add_zero] at e0
  have n1 := bN_lt s (pre.length + 1)
  have n2 := bN_lt s (pre.length + 2)
  have n3 := bN_lt s (pre.length + 3)
  show (if Lib.decodeN _ (bN s pre.length) (bN s (pre.length + 1)) (bN s (pre.length + 2)) (bN s (pre.length + 3)) = (65533, 1) then _ else Lib.decodeN _ (bN s pre.length) (bN s (pre.length + 1)) (bN s (pre.length + 2)) (bN s (pre.length + 3))) = _
  by_cases c1 : z ≤ 127
  · have hl := putS_list z
    rw [Lib.encodeRuneZ_one (by omega) c1] at hl
    rw [hl] at e0 hlen
    simp only [List.map_cons, List.map_nil, List.getD_cons_zero, List.length_cons, List.length_nil] at e0 hlen
    rw [u8_of z (by omega) (by omega)] at e0
    rw [e0, ← hlen]
    have hd : ∀ n b1 b2 b3, Lib.decodeN n z.toNat b1 b2 b3 = (z.toNat, 1) := fun n b1 b2 b3 => by
      unfold Lib.decodeN
      rw [if_pos (by omega)]
    rw [hd, if_neg (by simp; omega)]
  · by_cases c2 : z ≤ 2047
    · have hl := putS_list z
      rw [Lib.encodeRuneZ_two (by omega) c2] at hl
      have e1 := hB 1 (by rw [hl]; simp)
      rw [hl] at e0 e1 hlen
      simp only [List.map_cons, List.map_nil, List.getD_cons_zero, List.getD_cons_succ, List.length_cons, List.length_nil] at e0 e1 hlen
      rw [u8_of _ (by omega) (by omega)] at e0 e1
      rw [dec2 _ _ _ _ _ (by omega) (by omega) n1]
      have l0 : loN (bN s pre.length) = 128 := by unfold loN; rw [if_neg (by omega), if_neg (by omega)]
      have l1 : hiN (bN s pre.length) = 191 := by unfold hiN; rw [if_neg (by omega), if_neg (by omega)]
      rw [l0, l1]
      have hc : 1 < (putS z).size + post.length ∧ 128 ≤ bN s (pre.length + 1) ∧ bN s (pre.length + 1) ≤ 191 := by omega
      simp only [if_pos hc]
      rw [if_neg (by simp)]
      ext
      · simp only
        omega
      · simp only
        omega
    · by_cases c3 : z ≤ 65535
      · have hl := putS_list z
        rw [Lib.encodeRuneZ_three (by omega)] at hl
        have e1 := hB 1 (by rw [hl]; simp)
        have e2 := hB 2 (by rw [hl]; simp)
        rw [hl] at e0 e1 e2 hlen
        simp only [List.map_cons, List.map_nil, List.getD_cons_zero, List.getD_cons_succ, List.length_cons, List.length_nil] at e0 e1 e2 hlen
        rw [u8_of _ (by omega) (by omega)] at e0 e1 e2
        rw [dec3 _ _ _ _ _ (by omega) (by omega) n1 n2]
        have l : (bN s pre.length = 224 ∧ loN (bN s pre.length) = 160 ∧ hiN (bN s pre.length) = 191) ∨ (bN s pre.length = 237 ∧ loN (bN s pre.length) = 128 ∧ hiN (bN s pre.length) = 159) ∨ (bN s pre.length ≠ 224 ∧ bN s pre.length ≠ 237 ∧ loN (bN s pre.length) = 128 ∧ hiN (bN s pre.length) = 191) := by
          unfold loN hiN
          repeat' split
          all_goals omega
        have hc : (1 < (putS z).size + post.length ∧ loN (bN s pre.length) ≤ bN s (pre.length + 1) ∧ bN s (pre.length + 1) ≤ hiN (bN s pre.length)) ∧ (2 < (putS z).size + post.length ∧ 128 ≤ bN s (pre.length + 2) ∧ bN s (pre.length + 2) ≤ 191) := by omega
        simp only [if_pos hc]
        rw [if_neg (by simp)]
        ext
        · simp only
          omega
        · simp only
          omega
      · have hl := putS_list z
        rw [Lib.encodeRuneZ_four (by omega) (by omega)] at hl
        have e1 := hB 1 (by rw [hl]; simp)
        have e2 := hB 2 (by rw [hl]; simp)
        have e3 := hB 3 (by rw [hl]; simp)
        rw [hl] at e0 e1 e2 e3 hlen
        simp only [List.map_cons, List.map_nil, List.getD_cons_zero, List.getD_cons_succ, List.length_cons, List.length_nil] at e0 e1 e2 e3 hlen
        rw [u8_of _ (by omega) (by omega)] at e0 e1 e2 e3
        rw [dec4 _ _ _ _ _ (by omega) (by omega) n1 n2 n3]
        have l : (bN s pre.length = 240 ∧ loN (bN s pre.length) = 144 ∧ hiN (bN s pre.length) = 191) ∨ (bN s pre.length = 244 ∧ loN (bN s pre.length) = 128 ∧ hiN (bN s pre.length) = 143) ∨ (bN s pre.length ≠ 240 ∧ bN s pre.length ≠ 244 ∧ loN (bN s pre.length) = 128 ∧ hiN (bN s pre.length) = 191) := by
          unfold loN hiN
          repeat' split
          all_goals omega
        have hc : (1 < (putS z).size + post.length ∧ loN (bN s pre.length) ≤ bN s (pre.length + 1) ∧ bN s (pre.length + 1) ≤ hiN (bN s pre.length)) ∧ (2 < (putS z).size + post.length ∧ 128 ≤ bN s (pre.length + 2) ∧ bN s (pre.length + 2) ≤ 191) ∧ (3 < (putS z).size + post.length ∧ 128 ≤ bN s (pre.length + 3) ∧ bN s (pre.length + 3) ≤ 191) := by omega
        simp only [if_pos hc]
        rw [if_neg (by simp)]
        ext
        · simp only
          omega
        · simp only
          omega

theorem putS_fix (z : Int) : putS (fix z) = putS z := by
  unfold fix
  cases h : okB z
  · rw [if_neg (by simp)]
    exact (putS_bad h).symm
  · rw [if_pos rfl]

theorem fix_ok (z : Int) : okB (fix z) = true := by
  unfold fix
  cases h : okB z
  · rw [if_neg (by simp)]
    decide
  · rw [if_pos rfl]
    exact h

end Go.Proofs.YtbmmghkieolpkaaGreatDoor.Sg
