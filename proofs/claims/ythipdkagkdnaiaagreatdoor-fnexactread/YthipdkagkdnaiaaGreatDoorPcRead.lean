/- Pieces of a strict text, plain: what is read of a text, but for broken bytes, is written there. No program in it. -/
import Derived.Test.YthipdkagkdnaiaaGreatDoorXmP
import Derived.Test.YthipdkagkdnaiaaGreatDoorMRD08
import Derived.Lib.RuneBytes
namespace Go.Proofs.YthipdkagkdnaiaaGreatDoor.Sg

/-- Some bytes of a text, one by one. -/
theorem extract_bytes (s : ByteArray) (i n : Nat) (h : i + n ≤ s.size) : (s.extract i (i + n)).data.toList = (List.range n).map fun j => UInt8.ofNat (bN s (i + j)) := by
  have hl : (s.extract i (i + n)).data.size = n := by
    show (s.extract i (i + n)).size = n
    rw [ByteArray.size_extract]
    omega
  apply List.ext_getElem
  · simp only [Array.length_toList, List.length_map, List.length_range, hl]
  · intro j h1 h2
    have hj : j < n := by simpa using h2
    simp only [List.getElem_map, List.getElem_range, Array.getElem_toList]
    have e : (s.extract i (i + n)).data[j]'(by rw [hl]; exact hj) = s[i + j]'(by omega) := by
      simp only [ByteArray.data_extract, Array.getElem_extract]
      rfl
    rw [e, ← bN_eq s (i + j) (by omega)]
    simp

theorem put_read {s : ByteArray} {i : Nat} (h : i < s.size) (hne : (getS s i).1 ≠ 65533) : (putS ((getS s i).1 : Int)).data.toList = (s.extract i (i + (getS s i).2)).data.toList := by
  have hb := getS_many s i h
  rw [extract_bytes s i _ hb.2]
  have hg := getS_decode s i h
  rw [Lib.decode_at] at hg
  have h0 := bN_lt s i
  have h1 := bN_lt s (i + 1)
  have h2 := bN_lt s (i + 2)
  have h3 := bN_lt s (i + 3)
  change getS s i = (if Lib.decodeN (s.size - i) (bN s i) (bN s (i + 1)) (bN s (i + 2)) (bN s (i + 3)) = (65533, 1) then _ else Lib.decodeN (s.size - i) (bN s i) (bN s (i + 1)) (bN s (i + 2)) (bN s (i + 3))) at hg
  by_cases hd : Lib.decodeN (s.size - i) (bN s i) (bN s (i + 1)) (bN s (i + 2)) (bN s (i + 3)) = (65533, 1)
  · rw [if_pos hd] at hg
    rw [hg] at hne
    exact absurd rfl hne
  · rw [if_neg hd] at hg
    rcases many_cases (bN s i) h0 with ⟨hb, hm⟩ | ⟨hb, hm⟩ | ⟨hb, hb', hm⟩ | ⟨hb, hb', hm⟩ | ⟨hb, hb', hm⟩
    · have e : getS s i = (bN s i, 1) := by
        rw [hg]
        unfold Lib.decodeN
        rw [if_pos hb]
      rw [e]
      have hl := putS_list (bN s i : Nat)
      rw [Lib.encodeRuneZ_one (by omega) (by omega)] at hl
      rw [hl]
      simp
    · exfalso
      apply hd
      unfold Lib.decodeN
      rw [if_neg (by omega)]
      repeat' split
      all_goals first | rfl | (exfalso; omega)
    · rw [dec2 _ _ _ _ _ hb hb' h1] at hg hd
      split at hg
      · rename_i hc
        rw [hg]
        have l0 : loN (bN s i) = 128 := by unfold loN; rw [if_neg (by omega), if_neg (by omega)]
        have l1 : hiN (bN s i) = 191 := by unfold hiN; rw [if_neg (by omega), if_neg (by omega)]
        rw [l0, l1] at hc
        have hl := putS_list ((bN s i % 32 * 64 + bN s (i + 1) % 64 : Nat) : Int)
        rw [Lib.encodeRuneZ_two (by omega) (by omega)] at hl
        rw [hl]
        simp only [List.map_cons, List.map_nil, List.range, List.range.loop, Nat.add_zero, List.cons.injEq, and_true]
        refine ⟨?_, ?_⟩ <;> (congr 1; omega)
      · rename_i hc
        exact absurd (if_neg hc) hd
    · rw [dec3 _ _ _ _ _ hb hb' h1 h2] at hg hd
      split at hg
      · rename_i hc
        rw [hg]
        have l : (bN s i = 224 ∧ loN (bN s i) = 160 ∧ hiN (bN s i) = 191) ∨ (bN s i = 237 ∧ loN (bN s i) = 128 ∧ hiN (bN s i) = 159) ∨ (bN s i ≠ 224 ∧ bN s i ≠ 237 ∧ loN (bN s i) = 128 ∧ hiN (bN s i) = 191) := by
          unfold loN hiN
          repeat' split
          all_goals omega
        have hl := putS_list (((bN s i % 16 * 64 + bN s (i + 1) % 64) * 64 + bN s (i + 2) % 64 : Nat) : Int)
        rw [Lib.encodeRuneZ_three (by omega)] at hl
        rw [hl]
        simp only [List.map_cons, List.map_nil, List.range, List.range.loop, Nat.add_zero, List.cons.injEq, and_true]
        refine ⟨?_, ?_, ?_⟩ <;> (congr 1; omega)
      · rename_i hc
        exact absurd (if_neg hc) hd
    · rw [dec4 _ _ _ _ _ hb hb' h1 h2 h3] at hg hd
      split at hg
      · rename_i hc
        rw [hg]
        have l : (bN s i = 240 ∧ loN (bN s i) = 144 ∧ hiN (bN s i) = 191) ∨ (bN s i = 244 ∧ loN (bN s i) = 128 ∧ hiN (bN s i) = 143) ∨ (bN s i ≠ 240 ∧ bN s i ≠ 244 ∧ loN (bN s i) = 128 ∧ hiN (bN s i) = 191) := by
          unfold loN hiN
          repeat' split
          all_goals omega
        have hl := putS_list ((((bN s i % 8 * 64 + bN s (i + 1) % 64) * 64 + bN s (i + 2) % 64) * 64 + bN s (i + 3) % 64 : Nat) : Int)
        rw [Lib.encodeRuneZ_four (by omega) (by omega)] at hl
        rw [hl]
        simp only [List.map_cons, List.map_nil, List.range, List.range.loop, Nat.add_zero, List.cons.injEq, and_true]
        refine ⟨?_, ?_, ?_, ?_⟩ <;> (congr 1; omega)
      · rename_i hc
        exact absurd (if_neg hc) hd

/-- What is not written as it is read are broken bytes. -/
theorem asRead_bad {s : ByteArray} {k : Nat} (h : k < s.size) (hr : asRead s k = false) : (getS s k).1 = 65533 := by
  apply Classical.byContradiction
  intro hne
  have h2 := put_read h hne
  unfold asRead at hr
  rw [ByteArray.toList_eq, ByteArray.toList_eq, h2] at hr
  simp at hr

end Go.Proofs.YthipdkagkdnaiaaGreatDoor.Sg
