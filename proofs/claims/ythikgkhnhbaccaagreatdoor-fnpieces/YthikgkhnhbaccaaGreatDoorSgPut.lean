/- Contracts of PutSign, of the program and of the model: both give the bytes of a sign, or of 65533 for what is none. -/
import Derived.Test.YthikgkhnhbaccaaGreatDoorMP06
import Derived.Laws.BytesArg
import Derived.Lib.RuneBytes
import Derived.Below
namespace Go.Proofs.YthikgkhnhbaccaaGreatDoor.Sg
open Go.ChangeShapes Go.WideShapes Go.ChangeAt Go.RowKit

/-- The bytes of a sign, as a string. -/
def putS (n : Int) : ByteArray := strOfNums (Lib.encodeRuneZ n)

theorem putS_size (z : Int) : 1 ≤ (putS z).size ∧ (putS z).size ≤ 4 := by
  have := Lib.encodeRuneZ_length z
  have e : (putS z).size = (Lib.encodeRuneZ z).length := by simp [putS, strOfNums, ByteArray.size]
  omega

theorem i64_and63 (n : Int) : bits .and .i64 n 63 = n % 64 := by
  have h63 : (BitVec.ofInt 64 63).toNat = 2 ^ 6 - 1 := by decide
  have key : (BitVec.ofInt 64 n &&& BitVec.ofInt 64 63).toNat = (n % ((2 ^ 64 : Nat) : Int)).toNat % 2 ^ 6 := by
    rw [BitVec.toNat_and, BitVec.toNat_ofInt, h63, Nat.and_two_pow_sub_one_eq_mod]
  show IntKind.i64.wrap ((BitVec.ofInt 64 n &&& BitVec.ofInt 64 63).toNat : Nat) = n % 64
  rw [key, IntKind.wrap_i64]
  omega

theorem conv2 (a b : Int) (w : World) : Sem.run Tryz.prog (convert 22 9 (.slice (some ⟨w.heap.size, 0, none⟩) 2 2)) (w.alloc (.cells #[.int .u8 a, .int .u8 b] 5)) = .ok (.string (strOfNums [a, b])) (w.alloc (.cells #[.int .u8 a, .int .u8 b] 5)) :=
  run_convert_bytes_arg _ 22 5 Tryz.underlying22 Tryz.underlying5 _ 0 2 2 [a, b] rfl (fun i hi => by
    rw [cell_new]
    match i, hi with
    | 0, _ => rfl
    | 1, _ => rfl) 9 Tryz.underlying9

theorem conv3 (a b c : Int) (w : World) : Sem.run Tryz.prog (convert 22 9 (.slice (some ⟨w.heap.size, 0, none⟩) 3 3)) (w.alloc (.cells #[.int .u8 a, .int .u8 b, .int .u8 c] 5)) = .ok (.string (strOfNums [a, b, c])) (w.alloc (.cells #[.int .u8 a, .int .u8 b, .int .u8 c] 5)) :=
  run_convert_bytes_arg _ 22 5 Tryz.underlying22 Tryz.underlying5 _ 0 3 3 [a, b, c] rfl (fun i hi => by
    rw [cell_new]
    match i, hi with
    | 0, _ => rfl
    | 1, _ => rfl
    | 2, _ => rfl) 9 Tryz.underlying9

theorem conv4 (a b c d : Int) (w : World) : Sem.run Tryz.prog (convert 22 9 (.slice (some ⟨w.heap.size, 0, none⟩) 4 4)) (w.alloc (.cells #[.int .u8 a, .int .u8 b, .int .u8 c, .int .u8 d] 5)) = .ok (.string (strOfNums [a, b, c, d])) (w.alloc (.cells #[.int .u8 a, .int .u8 b, .int .u8 c, .int .u8 d] 5)) :=
  run_convert_bytes_arg _ 22 5 Tryz.underlying22 Tryz.underlying5 _ 0 4 4 [a, b, c, d] rfl (fun i hi => by
    rw [cell_new]
    match i, hi with
    | 0, _ => rfl
    | 1, _ => rfl
    | 2, _ => rfl
    | 3, _ => rfl) 9 Tryz.underlying9

/-- The model's own coder and the arithmetic one. -/
theorem encode_eq (n : Int) : Utf8.encode n = putS n := by
  unfold putS strOfNums
  by_cases hv : Utf8.valid n = true
  · have hv' : (0 ≤ n ∧ n < 55296) ∨ (57344 ≤ n ∧ n ≤ 1114111) := by simpa [Utf8.valid] using hv
    unfold Utf8.encode
    rw [if_pos hv]
    obtain ⟨m, rfl⟩ := Int.eq_ofNat_of_zero_le (show 0 ≤ n by omega)
    rw [Int.toNat_natCast]
    by_cases h1 : m < 128
    · rw [if_pos h1, Lib.encodeRuneZ_one (by omega) (by omega)]
      simp
    · rw [if_neg h1]
      by_cases h2 : m < 2048
      · rw [if_pos h2, Lib.encodeRuneZ_two (by omega) (by omega)]
        have e1 : (192 + (m : Int) / 64).toNat = 192 + m / 64 := by omega
        have e2 : (128 + (m : Int) % 64).toNat = 128 + m % 64 := by omega
        simp [e1, e2]
      · rw [if_neg h2]
        by_cases h3 : m < 65536
        · rw [if_pos h3, Lib.encodeRuneZ_three (by omega)]
          have e1 : (224 + (m : Int) / 4096).toNat = 224 + m / 4096 := by omega
          have e2 : (128 + (m : Int) / 64 % 64).toNat = 128 + m / 64 % 64 := by omega
          have e3 : (128 + (m : Int) % 64).toNat = 128 + m % 64 := by omega
          simp [e1, e2, e3]
        · rw [if_neg h3, Lib.encodeRuneZ_four (by omega) (by omega)]
          have e1 : (240 + (m : Int) / 262144).toNat = 240 + m / 262144 := by omega
          have e2 : (128 + (m : Int) / 4096 % 64).toNat = 128 + m / 4096 % 64 := by omega
          have e3 : (128 + (m : Int) / 64 % 64).toNat = 128 + m / 64 % 64 := by omega
          have e4 : (128 + (m : Int) % 64).toNat = 128 + m % 64 := by omega
          simp [e1, e2, e3, e4]
  · have hv' : ¬ ((0 ≤ n ∧ n < 55296) ∨ (57344 ≤ n ∧ n ≤ 1114111)) := by simpa [Utf8.valid] using hv
    unfold Utf8.encode
    rw [if_neg hv, Lib.encodeRuneZ_bad (by omega)]
    rfl

theorem putS_bad {n : Int} (h : okB n = false) : putS n = putS 65533 := by
  have := okB_not h
  unfold putS
  rw [Lib.encodeRuneZ_bad (by omega), Lib.encodeRuneZ_three (by omega)]
  rfl

theorem ret_str {a b : ByteArray} (h : a = b) : Ending.returned (.string a) = .returned (.string b) := by rw [h]

set_option maxHeartbeats 1000000 in
theorem implPutSign (n : Int) (w : World) :
    Calls Tryz.prog 66 #[.int .i64 n] w fun e w' => e = .returned (.string (putS n)) ∧ w' = w := by
  cases ho : okB n
  · have hp := putS_bad ho
    have Hp : Hid (putS n = putS 65533) := hp
    clear hp
    have Ho : Hid (okB n = false) := ho
    clear ho
    go_enter Tryz.func66, Tryz.ntmps66
    go_wp2_with (go_at_call 94; refine (implSignOk _ _).mono ?_; rintro e w' ⟨rfl, rfl⟩; rw [Ho.out])
    go_ret
    exact ⟨ret_str (by rw [Hp.out]; rfl), rfl⟩
  · have hb := okB_of ho
    have h0 : 0 ≤ n := hb.1
    have h1 : n ≤ 1114111 := hb.2.1
    clear hb
    have Ho : Hid (okB n = true) := ho
    clear ho
    go_enter Tryz.func66, Tryz.ntmps66
    go_wp2_with (go_at_call 94; refine (implSignOk _ _).mono ?_; rintro e w' ⟨rfl, rfl⟩; rw [Ho.out])
    go_ret
    exact ⟨ret_str (encode_eq n), rfl⟩

set_option maxHeartbeats 1000000 in
theorem specPutSign (n : Int) (w : World) :
    Calls Tryz.prog 44 #[.int .i64 n] w fun e w' => e = .returned (.string (putS n)) ∧ Below w.heap.size w w' := by
  have c1 := conv1
  have c2 := conv2
  have c3 := conv3
  have c4 := conv4
  have a63 := i64_and63
  cases ho : okB n
  · have hp := putS_bad ho
    have Hp : Hid (putS n = putS 65533) := hp
    clear hp
    have Ho : Hid (okB n = false) := ho
    clear ho
    go_enter Tryz.func44, Tryz.ntmps44
    go_wp2_with (go_at_call 76; refine (specSignOk _ _).mono ?_; rintro e w' ⟨rfl, rfl⟩; rw [Ho.out])
    go_ret
    exact ⟨ret_str (by rw [Hp.out]; rfl), (Below.refl _ _).alloc (Nat.le_refl _) _⟩
  · have hb := okB_of ho
    have h0 : 0 ≤ n := hb.1
    have h1 : n ≤ 1114111 := hb.2.1
    have h2 := hb.2.2
    clear hb
    have Ho : Hid (okB n = true) := ho
    clear ho
    by_cases g1 : n < 128
    · clear h2
      go_enter Tryz.func44, Tryz.ntmps44
      go_wp2_with (go_at_call 76; refine (specSignOk _ _).mono ?_; rintro e w' ⟨rfl, rfl⟩; rw [Ho.out])
      go_ret
      exact ⟨ret_str (by unfold putS; rw [Lib.encodeRuneZ_one (by omega) (by omega)]), (Below.refl _ _).alloc (Nat.le_refl _) _⟩
    · by_cases g2 : n < 2048
      · clear h2
        go_enter Tryz.func44, Tryz.ntmps44
        go_wp2_with (go_at_call 76; refine (specSignOk _ _).mono ?_; rintro e w' ⟨rfl, rfl⟩; rw [Ho.out])
        go_ret
        exact ⟨ret_str (by unfold putS; rw [Lib.encodeRuneZ_two (by omega) (by omega)]), (Below.refl _ _).alloc (Nat.le_refl _) _⟩
      · by_cases g3 : n < 65536
        · have H2 : Hid (n < 55296 ∨ 57343 < n) := h2
          clear h2
          go_enter Tryz.func44, Tryz.ntmps44
          go_wp2_with (go_at_call 76; refine (specSignOk _ _).mono ?_; rintro e w' ⟨rfl, rfl⟩; rw [Ho.out])
          go_ret
          have h2 := H2.out
          exact ⟨ret_str (by unfold putS; rw [Lib.encodeRuneZ_three (by omega)]), (Below.refl _ _).alloc (Nat.le_refl _) _⟩
        · clear h2
          go_enter Tryz.func44, Tryz.ntmps44
          go_wp2_with (go_at_call 76; refine (specSignOk _ _).mono ?_; rintro e w' ⟨rfl, rfl⟩; rw [Ho.out])
          go_ret
          exact ⟨ret_str (by unfold putS; rw [Lib.encodeRuneZ_four (by omega) (by omega)]), (Below.refl _ _).alloc (Nat.le_refl _) _⟩
end Go.Proofs.YthikgkhnhbaccaaGreatDoor.Sg
