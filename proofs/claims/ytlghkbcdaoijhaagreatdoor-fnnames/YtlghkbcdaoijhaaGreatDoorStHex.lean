/- The contract of the model's l13Hex: a number in six digits of 16. -/
import Derived.Test.YtlghkbcdaoijhaaGreatDoorStP
import Derived.Laws.DeepStrings4
namespace Go.Proofs.YtlghkbcdaoijhaaGreatDoor.Sg
open Go.ChangeShapes Go.WideShapes Go.ChangeAt Go.RowKit

theorem i64_and15 (n : Int) : bits .and .i64 n 15 = n % 16 := (i64_low n 4 (by decide) 15 (by decide)).trans (by simp)

/-- One sign more. -/
theorem textS_more (xs : List Int) (z : Int) : textS xs ++ putS z = textS (xs ++ [z]) := by
  apply ByteArray.ext
  apply Array.toList_inj.1
  rw [ByteArray.data_append, Array.toList_append]
  show sgBytes xs ++ (putS z).data.toList = sgBytes (xs ++ [z])
  rw [sgBytes_append, sgBytes_cons, sgBytes_nil, List.append_nil]
theorem textS_app (xs ys : List Int) : textS xs ++ textS ys = textS (xs ++ ys) := by
  apply ByteArray.ext
  apply Array.toList_inj.1
  rw [ByteArray.data_append, Array.toList_append]
  show sgBytes xs ++ sgBytes ys = sgBytes (xs ++ ys)
  rw [sgBytes_append]
theorem hexS (d : Nat) (h : d < 16) : (⟨#[48, 49, 50, 51, 52, 53, 54, 55, 56, 57, 65, 66, 67, 68, 69, 70]⟩ : ByteArray).extract d (d + 1) = putS (hexZ d) := by
  have h1 : ∀ d, d < 16 → ((⟨#[48, 49, 50, 51, 52, 53, 54, 55, 56, 57, 65, 66, 67, 68, 69, 70]⟩ : ByteArray).extract d (d + 1)).data.toList = [UInt8.ofNat (hexZ d).toNat] ∧ 0 ≤ hexZ d ∧ hexZ d ≤ 127 := by decide +kernel
  obtain ⟨h2, h3, h4⟩ := h1 d h
  apply ByteArray.ext
  apply Array.toList_inj.1
  rw [h2, putS_one h3 h4]

/-- One digit more. -/
theorem hex_more (xs : List Int) (x : Nat) : textS xs ++ (⟨#[48, 49, 50, 51, 52, 53, 54, 55, 56, 57, 65, 66, 67, 68, 69, 70]⟩ : ByteArray).extract (x % 16) (x % 16 + 1) = textS (xs ++ [hexZ (x % 16)]) := by
  rw [hexS _ (Nat.mod_lt _ (by decide)), textS_more]

set_option maxHeartbeats 2000000 in
theorem specHex (n : Nat) (w : World) (_hn : n ≤ 1114111) :
    Calls Tryz.prog 24 #[.int .i64 (n : Int)] w fun e w' => e = .returned (.string (textS (sixZ n))) ∧ w' = w := by
  have a15 := i64_and15
  go_enter Tryz.func24, Tryz.ntmps24
  go_wp2
  go_loopw [4, 5] (fun v k wr => ∃ j : Nat, j ≤ 6 ∧ k = .int .i64 (5 - (j : Int)) ∧ v = .string (textS ((sixZ n).take j)) ∧ wr = w) (fun _ k _ => (intOf k + 1).toNat)
  case atStart => exact ⟨0, by decide, rfl, rfl, rfl⟩
  case round =>
    obtain ⟨j, hj, rfl, rfl, rfl⟩ := hrel
    rcases (by omega : j = 6 ∨ j = 0 ∨ j = 1 ∨ j = 2 ∨ j = 3 ∨ j = 4 ∨ j = 5) with rfl | rfl | rfl | rfl | rfl | rfl | rfl
    · go_wp2
      go_ret
      exact ⟨rfl, rfl⟩
    · have q0 : (textS ((sixZ n).take 0)).size ≤ 100 := by rw [textS_size]; have := sgBytes_length ((sixZ n).take 0); have h2 := List.length_take_le 0 (sixZ n); omega
      have q1 : (0 : Int) ≤ (n : Int) / 1048576 % 16 := by omega
      have q2 : (n : Int) / 1048576 % 16 + 1 ≤ 16 := by omega
      have q3 : (n : Int) / 1048576 % 16 ≤ (n : Int) / 1048576 % 16 + 1 := by omega
      have Hm : Hid (textS ((sixZ n).take 0) ++ (⟨#[48, 49, 50, 51, 52, 53, 54, 55, 56, 57, 65, 66, 67, 68, 69, 70]⟩ : ByteArray).extract (n / 1048576 % 16) (n / 1048576 % 16 + 1) = textS ((sixZ n).take 1)) := hex_more _ (n / 1048576)
      generalize textS ((sixZ n).take 0) = x at *
      go_wp2
      go_roundw
      case rel => exact ⟨1, by decide, by go_num, congrArg Value.string Hm.out, by first | trivial | rfl⟩
      case measure => simp [intOf]
    · have q0 : (textS ((sixZ n).take 1)).size ≤ 100 := by rw [textS_size]; have := sgBytes_length ((sixZ n).take 1); have h2 := List.length_take_le 1 (sixZ n); omega
      have q1 : (0 : Int) ≤ (n : Int) / 65536 % 16 := by omega
      have q2 : (n : Int) / 65536 % 16 + 1 ≤ 16 := by omega
      have q3 : (n : Int) / 65536 % 16 ≤ (n : Int) / 65536 % 16 + 1 := by omega
      have Hm : Hid (textS ((sixZ n).take 1) ++ (⟨#[48, 49, 50, 51, 52, 53, 54, 55, 56, 57, 65, 66, 67, 68, 69, 70]⟩ : ByteArray).extract (n / 65536 % 16) (n / 65536 % 16 + 1) = textS ((sixZ n).take 2)) := hex_more _ (n / 65536)
      generalize textS ((sixZ n).take 1) = x at *
      go_wp2
      go_roundw
      case rel => exact ⟨2, by decide, by go_num, congrArg Value.string Hm.out, by first | trivial | rfl⟩
      case measure => simp [intOf]
    · have q0 : (textS ((sixZ n).take 2)).size ≤ 100 := by rw [textS_size]; have := sgBytes_length ((sixZ n).take 2); have h2 := List.length_take_le 2 (sixZ n); omega
      have q1 : (0 : Int) ≤ (n : Int) / 4096 % 16 := by omega
      have q2 : (n : Int) / 4096 % 16 + 1 ≤ 16 := by omega
      have q3 : (n : Int) / 4096 % 16 ≤ (n : Int) / 4096 % 16 + 1 := by omega
      have Hm : Hid (textS ((sixZ n).take 2) ++ (⟨#[48, 49, 50, 51, 52, 53, 54, 55, 56, 57, 65, 66, 67, 68, 69, 70]⟩ : ByteArray).extract (n / 4096 % 16) (n / 4096 % 16 + 1) = textS ((sixZ n).take 3)) := hex_more _ (n / 4096)
      generalize textS ((sixZ n).take 2) = x at *
      go_wp2
      go_roundw
      case rel => exact ⟨3, by decide, by go_num, congrArg Value.string Hm.out, by first | trivial | rfl⟩
      case measure => simp [intOf]
    · have q0 : (textS ((sixZ n).take 3)).size ≤ 100 := by rw [textS_size]; have := sgBytes_length ((sixZ n).take 3); have h2 := List.length_take_le 3 (sixZ n); omega
      have q1 : (0 : Int) ≤ (n : Int) / 256 % 16 := by omega
      have q2 : (n : Int) / 256 % 16 + 1 ≤ 16 := by omega
      have q3 : (n : Int) / 256 % 16 ≤ (n : Int) / 256 % 16 + 1 := by omega
      have Hm : Hid (textS ((sixZ n).take 3) ++ (⟨#[48, 49, 50, 51, 52, 53, 54, 55, 56, 57, 65, 66, 67, 68, 69, 70]⟩ : ByteArray).extract (n / 256 % 16) (n / 256 % 16 + 1) = textS ((sixZ n).take 4)) := hex_more _ (n / 256)
      generalize textS ((sixZ n).take 3) = x at *
      go_wp2
      go_roundw
      case rel => exact ⟨4, by decide, by go_num, congrArg Value.string Hm.out, by first | trivial | rfl⟩
      case measure => simp [intOf]
    · have q0 : (textS ((sixZ n).take 4)).size ≤ 100 := by rw [textS_size]; have := sgBytes_length ((sixZ n).take 4); have h2 := List.length_take_le 4 (sixZ n); omega
      have q1 : (0 : Int) ≤ (n : Int) / 16 % 16 := by omega
      have q2 : (n : Int) / 16 % 16 + 1 ≤ 16 := by omega
      have q3 : (n : Int) / 16 % 16 ≤ (n : Int) / 16 % 16 + 1 := by omega
      have Hm : Hid (textS ((sixZ n).take 4) ++ (⟨#[48, 49, 50, 51, 52, 53, 54, 55, 56, 57, 65, 66, 67, 68, 69, 70]⟩ : ByteArray).extract (n / 16 % 16) (n / 16 % 16 + 1) = textS ((sixZ n).take 5)) := hex_more _ (n / 16)
      generalize textS ((sixZ n).take 4) = x at *
      go_wp2
      go_roundw
      case rel => exact ⟨5, by decide, by go_num, congrArg Value.string Hm.out, by first | trivial | rfl⟩
      case measure => simp [intOf]
    · have q0 : (textS ((sixZ n).take 5)).size ≤ 100 := by rw [textS_size]; have := sgBytes_length ((sixZ n).take 5); have h2 := List.length_take_le 5 (sixZ n); omega
      have q1 : (0 : Int) ≤ (n : Int) % 16 := by omega
      have q2 : (n : Int) % 16 + 1 ≤ 16 := by omega
      have q3 : (n : Int) % 16 ≤ (n : Int) % 16 + 1 := by omega
      have Hm : Hid (textS ((sixZ n).take 5) ++ (⟨#[48, 49, 50, 51, 52, 53, 54, 55, 56, 57, 65, 66, 67, 68, 69, 70]⟩ : ByteArray).extract (n % 16) (n % 16 + 1) = textS ((sixZ n).take 6)) := hex_more _ (n)
      generalize textS ((sixZ n).take 5) = x at *
      go_wp2
      go_roundw
      case rel => exact ⟨6, by decide, by go_num, congrArg Value.string Hm.out, by first | trivial | rfl⟩
      case measure => simp [intOf]

end Go.Proofs.YtlghkbcdaoijhaaGreatDoor.Sg
