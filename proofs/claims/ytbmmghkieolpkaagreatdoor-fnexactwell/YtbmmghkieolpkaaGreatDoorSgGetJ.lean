/- The program's GetSign, whole. -/
import Derived.Test.YtbmmghkieolpkaaGreatDoorSgGetI
namespace Go.Proofs.YtbmmghkieolpkaaGreatDoor.Sg
open Go.ChangeShapes Go.WideShapes Go.ChangeAt Go.RowKit

theorem begR_stop (s : ByteArray) (i M f k : Nat) (h : ¬ (k < M ∧ i + k < s.size ∧ fits (bN s i) k (bN s (i + k)) = true)) : begR s i M f k = k := by
  cases f with
  | zero => rfl
  | succ f => rw [begR, if_neg h]

set_option maxHeartbeats 4000000 in
theorem beginning_any (t : ByteArray) (w : World) (h0 : 0 < t.size) (hs : t.size ≤ 4611686018427387904) :
    Calls Tryz.prog 134 #[.string t] w fun e w' => e = .returned (.int .i64 ((begR t 0 (max 1 (manyN (bN t 0))) 3 1 : Nat) : Int)) ∧ w' = w := by
  have hb := bN_lt t 0
  have hbn := bN_eq t
  have hW1 : 1 ≤ max 1 (manyN (bN t 0)) := Nat.le_max_left _ _
  have hW4 : max 1 (manyN (bN t 0)) ≤ 4 := by
    rcases many_cases (bN t 0) hb with ⟨_, hm⟩ | ⟨_, hm⟩ | ⟨_, _, hm⟩ | ⟨_, _, hm⟩ | ⟨_, _, hm⟩ <;> rw [hm] <;> decide
  have hsl := fun (w : World) => signLength_any (bN t 0) w hb
  have hss := fun (w : World) => secondSpan_any (bN t 0) w
  have Hsl : Hid (∀ w, Calls Tryz.prog 160 #[.int .u8 (bN t 0 : Int)] w fun e w' => e = .returned (.int .i64 ((max 1 (manyN (bN t 0)) : Nat) : Int)) ∧ w' = w) := hsl
  have hlo : loN (bN t 0) < 256 := by unfold loN; split; omega; split <;> omega
  have hhi : hiN (bN t 0) < 256 := by unfold hiN; split; omega; split <;> omega
  have Hss : Hid (∀ w, Calls Tryz.prog 161 #[.int .u8 (bN t 0 : Int)] w fun e w' => e = .returned (.tuple #[.int .u8 (loN (bN t 0) : Int), .int .u8 (hiN (bN t 0) : Int)]) ∧ w' = w) := hss
  have Hf : Hid (∀ b, fits (bN t 0) 1 b = decide (loN (bN t 0) ≤ b ∧ b ≤ hiN (bN t 0))) := fun b => by simp [fits]
  clear hsl hss
  generalize max 1 (manyN (bN t 0)) = M at *
  generalize loN (bN t 0) = lo1 at *
  generalize hiN (bN t 0) = hi1 at *
  go_enter Tryz.func134, Tryz.ntmps134
  go_wp2_with fail
  refine (Hsl.out _).mono ?_
  rintro e w' ⟨rfl, rfl⟩
  go_wp2_with fail
  refine (Hss.out _).mono ?_
  rintro e w' ⟨rfl, rfl⟩
  go_wp2_with fail
  go_loop [4, 5, 6] (fun l h k => ∃ j lo hi : Nat, 1 ≤ j ∧ j ≤ M ∧ lo < 256 ∧ hi < 256 ∧ k = .int .i64 j ∧ l = .int .u8 lo ∧ h = .int .u8 hi ∧ Hid (∀ b, fits (bN t 0) j b = decide (lo ≤ b ∧ b ≤ hi)) ∧ Hid (begR t 0 M (4 - j) j = begR t 0 M 3 1)) (fun _ _ k => M - (intOf k).toNat)
  case atStart => exact ⟨1, lo1, hi1, Nat.le_refl _, hW1, hlo, hhi, rfl, rfl, rfl, Hf, rfl⟩
  case round =>
    obtain ⟨j, lo, hi, hj1, hjM, hl, hh, rfl, rfl, rfl, Hfit, Hg⟩ := hrel
    clear Hsl Hss Hf hlo hhi
    by_cases hc : j < M ∧ 0 + j < t.size ∧ fits (bN t 0) j (bN t (0 + j)) = true
    · have hg : begR t 0 M (4 - (j + 1)) (j + 1) = begR t 0 M 3 1 := by
        rw [← Hg.out, show 4 - j = (4 - (j + 1)) + 1 by omega]
        conv => rhs; rw [begR, if_pos hc]
      have Hg2 : Hid (begR t 0 M (4 - (j + 1)) (j + 1) = begR t 0 M 3 1) := hg
      obtain ⟨c1, c2, c3⟩ := hc
      rw [Nat.zero_add] at c2 c3
      rw [Hfit.out, decide_eq_true_eq] at c3
      have hbj := bN_lt t j
      obtain ⟨c3, c4⟩ := c3
      have c3' : (lo : Int) ≤ (bN t j : Int) := by omega
      have c4' : (bN t j : Int) ≤ (hi : Int) := by omega
      clear hg Hg Hfit
      go_wp2_with fail
      go_round
      case rel =>
        refine ⟨j + 1, 128, 191, by omega, by omega, by omega, by omega, by go_num, rfl, rfl, ?_, Hg2⟩
        intro b
        unfold fits
        rw [if_neg (by omega)]
      case measure => simp [intOf]; omega
    · have hg : begR t 0 M 3 1 = j := by
        rw [← Hg.out]
        exact begR_stop t 0 M _ j hc
      have Hr : Hid (begR t 0 M 3 1 = j) := hg
      clear hg Hg
      rw [Nat.zero_add] at hc
      by_cases c1 : j < M
      · by_cases c2 : j < t.size
        · have hbj := bN_lt t j
          have c3 : ¬ (lo ≤ bN t j ∧ bN t j ≤ hi) := fun x => hc ⟨c1, c2, by rw [Hfit.out, decide_eq_true_eq]; exact x⟩
          clear hc Hfit
          by_cases c4 : lo ≤ bN t j
          · have c4' : (lo : Int) ≤ (bN t j : Int) := by omega
            have c5 : ¬ ((bN t j : Int) ≤ (hi : Int)) := by omega
            have d5 : decide ((bN t j : Int) ≤ (hi : Int)) = false := by simpa using c5
            clear c3
            go_wp2_with fail
            go_ret
            rw [Hr.out]
            exact ⟨rfl, rfl⟩
          · have d4 : decide ((lo : Int) ≤ (bN t j : Int)) = false := by simp; omega
            clear c3
            go_wp2_with fail
            go_ret
            rw [Hr.out]
            exact ⟨rfl, rfl⟩
        · clear hc Hfit
          have d2 : decide ((j : Int) < (t.size : Int)) = false := by simp; omega
          go_wp2_with fail
          go_ret
          rw [Hr.out]
          exact ⟨rfl, rfl⟩
      · clear hc Hfit
        have d1 : decide ((j : Int) < (M : Int)) = false := by simp; omega
        go_wp2_with fail
        go_ret
        rw [Hr.out]
        exact ⟨rfl, rfl⟩

set_option maxHeartbeats 1000000 in
theorem implGet_out (s : ByteArray) (at' : Int) (w : World) (h : at' < 0 ∨ (s.size : Int) ≤ at') :
    Calls Tryz.prog 113 #[.string s, .int .i64 at'] w fun e w' => e = .returned (.tuple #[.int .i64 0, .int .i64 0]) ∧ w' = w := by
  by_cases h0 : at' < 0
  · clear h
    go_enter Tryz.func113, Tryz.ntmps113
    go_wp2_with fail
    go_ret2
    exact ⟨rfl, rfl⟩
  · have h1 : (s.size : Int) ≤ at' := by omega
    have hd : decide (at' < 0) = false := by simpa using h0
    clear h
    go_enter Tryz.func113, Tryz.ntmps113
    go_wp2_with fail
    go_ret2
    exact ⟨rfl, rfl⟩

set_option maxHeartbeats 2000000 in
theorem implGet_in (s : ByteArray) (i : Nat) (w : World) (hi : i < s.size) (hs : s.size ≤ 4611686018427387904) (hT : Lib.Utf8Tabs 2 3 w) :
    Calls Tryz.prog 113 #[.string s, .int .i64 (i : Int)] w fun e w' => e = .returned (.tuple #[.int .i64 ((getS s i).1 : Int), .int .i64 ((getS s i).2 : Int)]) ∧ Below w.heap.size w w' := by
  have hd : decide ((i : Int) < 0) = false := by simp
  have hd2 : decide ((s.size : Int) ≤ (i : Int)) = false := by simp; omega
  have hgo : Lib.decodeGo (s.extract i s.size) = Utf8.decode s i := by
    unfold Lib.decodeGo
    rw [if_neg (by rw [size_extract]; omega), decode_extract s i (by omega)]
  have hgs := getS_decode s i hi
  have hbx := begR_extract s i (max 1 (manyN (bN s i))) hi 3 1
  have hb0 := bN_extract s i 0 (by omega)
  rw [Nat.add_zero] at hb0
  have hr1 := decode_le s i
  have hbeg := fun (w : World) => beginning_any (s.extract i s.size) w (by rw [size_extract]; omega) (by rw [size_extract]; omega)
  rw [hb0, hbx] at hbeg
  have Hbeg : Hid (∀ w, Calls Tryz.prog 134 #[.string (s.extract i s.size)] w fun e w' => e = .returned (.int .i64 ((begR s i (max 1 (manyN (bN s i))) 3 1 : Nat) : Int)) ∧ w' = w) := hbeg
  clear hbeg hb0 hbx
  generalize hD : Utf8.decode s i = D at *
  obtain ⟨r, k⟩ := D
  have Hgo : Hid (Lib.decodeGo (s.extract i s.size) = (r, k)) := hgo
  have Hgs : Hid (getS s i = if (r, k) = (65533, 1) then (65533, begR s i (max 1 (manyN (bN s i))) 3 1) else (r, k)) := hgs
  clear hgo hgs hD
  have hr : (r : Int) ≤ 1114111 := by simp only at hr1; omega
  clear hr1
  have HT : Hid (Lib.Utf8Tabs 2 3 w) := hT
  clear hT
  go_enter Tryz.func113, Tryz.ntmps113
  go_wp2_with fail
  refine (Tryz.utf8_DecodeRuneInString (s.extract i s.size) _ HT.out).mono ?_
  rintro e w1 ⟨rfl, hb1⟩
  rw [Hgo.out]
  by_cases hr2 : r = 65533
  · by_cases hk2 : k = 1
    · have hres : getS s i = (65533, begR s i (max 1 (manyN (bN s i))) 3 1) := by rw [Hgs.out, if_pos (by rw [hr2, hk2])]
      have Hres : Hid (getS s i = (65533, begR s i (max 1 (manyN (bN s i))) 3 1)) := hres
      clear hres Hgs Hgo
      subst hr2 hk2
      go_wp2_with fail
      refine (Hbeg.out _).mono ?_
      rintro e w2 ⟨rfl, rfl⟩
      go_wp2_with fail
      go_ret2
      rw [Hres.out]
      exact ⟨rfl, hb1⟩
    · have hres : getS s i = (r, k) := by rw [Hgs.out, if_neg (by simp [hk2])]
      have Hres : Hid (getS s i = (r, k)) := hres
      clear hres Hgs Hgo
      subst hr2
      have e2 : ((k : Int) == 1) = false := by rw [beq_eq_false_iff_ne]; omega
      go_wp2_with fail
      go_ret2
      rw [Hres.out]
      exact ⟨rfl, hb1⟩
  · have hres : getS s i = (r, k) := by rw [Hgs.out, if_neg (by simp [hr2])]
    have Hres : Hid (getS s i = (r, k)) := hres
    clear hres Hgs Hgo
    have e2 : ((r : Int) == 65533) = false := by rw [beq_eq_false_iff_ne]; omega
    go_wp2_with fail
    go_ret2
    rw [Hres.out]
    exact ⟨rfl, hb1⟩

end Go.Proofs.YtbmmghkieolpkaaGreatDoor.Sg
