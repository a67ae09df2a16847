/- The model's GetSign at every text and place. -/
import Derived.Test.YthipdkagkdnaiaaGreatDoorMRD06
namespace Go.Proofs.YthipdkagkdnaiaaGreatDoor.Sg
open Go.ChangeShapes Go.WideShapes Go.ChangeAt Go.RowKit

set_option maxHeartbeats 1000000 in
theorem specGet_out (s : ByteArray) (at' : Int) (w : World) (h : at' < 0 ∨ (s.size : Int) ≤ at') :
    Calls Tryz.prog 62 #[.string s, .int .i64 at'] w fun e w' => e = .returned (.tuple #[.int .i64 0, .int .i64 0]) ∧ w' = w := by
  by_cases h0 : at' < 0
  · clear h
    go_enter Tryz.func62, Tryz.ntmps62
    go_wp2_with fail
    go_ret2
    exact ⟨rfl, rfl⟩
  · have h1 : (s.size : Int) ≤ at' := by omega
    have hd : decide (at' < 0) = false := by simpa using h0
    clear h
    go_enter Tryz.func62, Tryz.ntmps62
    go_wp2_with fail
    go_ret2
    exact ⟨rfl, rfl⟩

theorem mask_many (b M : Nat) (h2 : 2 ≤ M) (h4 : M ≤ 4) : bits .and .i64 (b : Int) (127 / 2 ^ M) = ((b % (128 / 2 ^ M) : Nat) : Int) := by
  have h : M = 2 ∨ M = 3 ∨ M = 4 := by omega
  rcases h with rfl | rfl | rfl
  · exact (i64_low b 5 (by decide) 31 (by decide)).trans (by simp)
  · exact (i64_low b 4 (by decide) 15 (by decide)).trans (by simp)
  · exact (i64_low b 3 (by decide) 7 (by decide)).trans (by simp)

theorem i64_63 (n : Int) : bits .and .i64 n 63 = n % 64 := (i64_low n 6 (by decide) 63 (by decide)).trans (by simp)

theorem fits_in (b0 b : Nat) (h : fits b0 1 b = true) : inB (b : Int) 128 191 = true := by
  have h' : loN b0 ≤ b ∧ b ≤ hiN b0 := by simpa [fits] using h
  have h1 : 128 ≤ loN b0 := by unfold loN; split; omega; split <;> omega
  have h2 : hiN b0 ≤ 191 := by unfold hiN; split; omega; split <;> omega
  exact inB_yes (by omega)

theorem fits_more (b0 j b : Nat) (hj : j ≠ 1) : fits b0 j b = inB (b : Int) 128 191 := by
  unfold fits inB
  rw [if_neg hj]
  exact decide_eq_decide.2 (by omega)

/-- How great what was read so far can be. -/
def accOk (j acc : Nat) : Prop := (j = 1 ∧ acc < 128) ∨ (j = 2 ∧ acc < 8192) ∨ (j = 3 ∧ acc < 524288) ∨ (j = 4 ∧ acc < 33554432)

set_option maxHeartbeats 4000000 in
set_option maxRecDepth 100000 in
theorem specGet_in (s : ByteArray) (i : Nat) (w : World) (hi : i < s.size) (hs : s.size ≤ 4611686018427387904) :
    Calls Tryz.prog 62 #[.string s, .int .i64 (i : Int)] w fun e w' => e = .returned (.tuple #[.int .i64 ((getS s i).1 : Int), .int .i64 ((getS s i).2 : Int)]) ∧ w' = w := by
  have hd : decide ((i : Int) < 0) = false := by simp
  have hd2 : decide ((s.size : Int) ≤ (i : Int)) = false := by simp; omega
  have hb := bN_lt s i
  have hbn := bN_eq s
  generalize hM : manyN (bN s i) = M
  have HM : Hid (manyN (bN s i) = M) := hM
  clear hM
  go_enter Tryz.func62, Tryz.ntmps62
  go_wp2_with fail
  refine (l1Many_any (bN s i) _ hb).mono ?_
  rintro e w' ⟨rfl, rfl⟩
  rw [HM.out]
  rcases many_cases (bN s i) hb with ⟨h, hm⟩ | ⟨h, hm⟩ | h
  · have hM : M = 1 := HM.out.symm.trans hm
    subst hM
    have hg : getS s i = (bN s i, 1) := by unfold getS; rw [hm]; rfl
    have Hg : Hid (getS s i = (bN s i, 1)) := hg
    clear hg hm
    go_wp2_with fail
    go_ret2
    rw [Hg.out]
    exact ⟨rfl, rfl⟩
  · have hM : M = 0 := HM.out.symm.trans hm
    subst hM
    have hg : getS s i = (65533, 1) := by unfold getS; rw [hm]; rfl
    have Hg : Hid (getS s i = (65533, 1)) := hg
    clear hg hm h
    go_wp2_with fail
    go_ret2
    rw [Hg.out]
    exact ⟨rfl, rfl⟩
  · have hM2 : 2 ≤ M := by have := HM.out; omega
    have hM4 : M ≤ 4 := by have := HM.out; omega
    have hg0 : getR s i M (M - 1) 1 (bN s i % (128 / 2 ^ M)) = getS s i := by
      unfold getS
      rw [HM.out, if_neg (by omega)]
    have hacc0 : bN s i % (128 / 2 ^ M) < 128 := by
      have h3 : M = 2 ∨ M = 3 ∨ M = 4 := by omega
      rcases h3 with rfl | rfl | rfl <;> simp <;> omega
    have hmk := mask_many (bN s i) M hM2 hM4
    have a63 := i64_63
    have hM2' : ((M : Int) < 2) = False := by simp; omega
    generalize hA0 : bN s i % (128 / 2 ^ M) = acc0 at *
    clear hA0 h
    have Hg0 : Hid (getR s i M (M - 1) 1 acc0 = getS s i) := hg0
    clear hg0
    go_wp2_with fail
    go_loop [8, 9] (fun v k => ∃ j acc : Nat, 1 ≤ j ∧ j ≤ M ∧ k = .int .i64 j ∧ v = .int .i64 acc ∧ accOk j acc ∧ Hid (getR s i M (M - j) j acc = getS s i)) (fun _ k => M - (intOf k).toNat)
    case atStart => exact ⟨1, acc0, Nat.le_refl _, by omega, rfl, rfl, .inl ⟨rfl, hacc0⟩, Hg0⟩
    case round =>
      obtain ⟨j, acc, hj1, hjM, rfl, rfl, hacc, Hg⟩ := hrel
      clear hmk hM2' Hg0 hacc0
      have Hacc : Hid (accOk j acc) := hacc
      have hab : acc < 33554432 := by
        rcases hacc with h | h | h | h <;> omega
      clear hacc
      by_cases hlt : j < M
      · by_cases hin : i + j < s.size
        · have hin' : ((i : Int) + (j : Int)) < (s.size : Int) := by omega
          have hbj := bN_lt s (i + j)
          cases hf : fits (bN s i) j (bN s (i + j))
          · have hg : getS s i = (65533, j) := by
              rw [← Hg.out, show M - j = (M - j - 1) + 1 by omega]
              simp only [getR]
              rw [if_pos hlt, if_neg (by simp [hf])]
            have Hr : Hid (getS s i = (65533, j)) := hg
            have Hf : Hid (fits (bN s i) j (bN s (i + j)) = false) := hf
            clear hg hf
            by_cases hj : j = 1
            · subst hj
              go_wp2_with fail
              refine (l1Second_any (bN s i) (bN s (i + 1)) _).mono ?_
              rintro e w' ⟨rfl, rfl⟩
              rw [Hf.out]
              go_wp2_with fail
              go_ret2
              rw [Hr.out]
              exact ⟨rfl, rfl⟩
            · have hj1' : ((j : Int) == 1) = false := by rw [beq_eq_false_iff_ne]; omega
              have hfm := fits_more (bN s i) j (bN s (i + j)) hj
              have Hfm : Hid (inB (bN s (i + j) : Int) 128 191 = false) := hfm.symm.trans Hf.out
              clear hfm
              go_wp2_with fail
              refine (l1In_any (bN s (i + j) : Int) 128 191 _).mono ?_
              rintro e w' ⟨rfl, rfl⟩
              rw [Hfm.out]
              go_wp2_with fail
              go_ret2
              rw [Hr.out]
              exact ⟨rfl, rfl⟩
          · have hg : getR s i M (M - (j + 1)) (j + 1) (acc * 64 + bN s (i + j) % 64) = getS s i := by
              rw [← Hg.out, show M - j = (M - (j + 1)) + 1 by omega]
              simp only [getR]
              rw [if_pos hlt, if_pos ⟨hin, hf⟩]
            have Hr : Hid (getR s i M (M - (j + 1)) (j + 1) (acc * 64 + bN s (i + j) % 64) = getS s i) := hg
            have Hf : Hid (fits (bN s i) j (bN s (i + j)) = true) := hf
            clear hg hf Hg
            have Hacc2 : Hid (accOk (j + 1) (acc * 64 + bN s (i + j) % 64)) := by
              have := Hacc.out
              unfold accOk at *
              show _ ∨ _
              omega
            by_cases hj : j = 1
            · subst hj
              have Hfi := fits_in _ _ Hf.out
              have HFi : Hid (inB (bN s (i + 1) : Int) 128 191 = true) := Hfi
              clear Hfi
              go_wp2_with fail
              refine (l1Second_any (bN s i) (bN s (i + 1)) _).mono ?_
              rintro e w' ⟨rfl, rfl⟩
              rw [Hf.out]
              go_wp2_with fail
              refine (l1In_any (bN s (i + 1) : Int) 128 191 _).mono ?_
              rintro e w' ⟨rfl, rfl⟩
              rw [HFi.out]
              go_wp2_with fail
              go_round
              case rel => exact ⟨2, acc * 64 + bN s (i + 1) % 64, by omega, by omega, by go_num, by go_num, Hacc2.out, Hr⟩
              case measure => simp [intOf]; omega
            · have hj1' : ((j : Int) == 1) = false := by rw [beq_eq_false_iff_ne]; omega
              have hfm := fits_more (bN s i) j (bN s (i + j)) hj
              have Hfm : Hid (inB (bN s (i + j) : Int) 128 191 = true) := hfm.symm.trans Hf.out
              clear hfm
              go_wp2_with fail
              refine (l1In_any (bN s (i + j) : Int) 128 191 _).mono ?_
              rintro e w' ⟨rfl, rfl⟩
              rw [Hfm.out]
              go_wp2_with fail
              go_round
              case rel => exact ⟨j + 1, acc * 64 + bN s (i + j) % 64, by omega, by omega, by go_num, by go_num, Hacc2.out, Hr⟩
              case measure => simp [intOf]; omega
        · have hin' : decide ((s.size : Int) ≤ (i : Int) + (j : Int)) = true := by simp; omega
          have hg : getS s i = (65533, j) := by
            rw [← Hg.out, show M - j = (M - j - 1) + 1 by omega]
            simp only [getR]
            rw [if_pos hlt, if_neg (by omega)]
          have Hr : Hid (getS s i = (65533, j)) := hg
          clear hg
          go_wp2_with fail
          go_ret2
          rw [Hr.out]
          exact ⟨rfl, rfl⟩
      · have hg : getS s i = (acc, M) := by
          rw [← Hg.out, show M - j = 0 by omega]
          simp only [getR]
        have Hr : Hid (getS s i = (acc, M)) := hg
        clear hg
        go_wp2_with fail
        go_ret2
        rw [Hr.out]
        exact ⟨rfl, rfl⟩

end Go.Proofs.YthipdkagkdnaiaaGreatDoor.Sg
