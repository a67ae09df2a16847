/- The program's GetSign at every text and place: it tells what the model's tells. -/
import Derived.Test.YtbmmghkieolpkaaGreatDoorMW205
import Derived.Test.YtbmmghkieolpkaaGreatDoorShelf
import Derived.Below
namespace Go.Proofs.YtbmmghkieolpkaaGreatDoor.Sg
open Go.ChangeShapes Go.WideShapes Go.ChangeAt Go.RowKit

theorem bN_extract (s : ByteArray) (i j : Nat) (hi : i ≤ s.size) : bN (s.extract i s.size) j = bN s (i + j) := by
  have e : (s.extract i s.size).data[j]! = s.data[i + j]! := by
    rw [ByteArray.data_extract, getElem!_def, getElem!_def, Array.getElem?_extract]
    have hz : s.data.size = s.size := rfl
    by_cases h : i + j < s.size
    · rw [if_pos (by omega)]
    · rw [if_neg (by omega), Array.getElem?_eq_none (by omega)]
  exact congrArg UInt8.toNat e

theorem size_extract (s : ByteArray) (i : Nat) : (s.extract i s.size).size = s.size - i := by simp [ByteArray.size_extract]

theorem decode_extract (s : ByteArray) (i : Nat) (hi : i ≤ s.size) : Utf8.decode (s.extract i s.size) 0 = Utf8.decode s i := by
  rw [Lib.decode_at, Lib.decode_at, size_extract]
  have h0 := bN_extract s i 0 hi
  have h1 := bN_extract s i 1 hi
  have h2 := bN_extract s i 2 hi
  have h3 := bN_extract s i 3 hi
  unfold bN at h0 h1 h2 h3
  simp only [Nat.add_zero] at h0
  rw [Nat.sub_zero, h0]
  simp only [Nat.zero_add]
  rw [h1, h2, h3]

theorem begR_extract (s : ByteArray) (i M : Nat) (hi : i < s.size) : ∀ (f k : Nat), begR (s.extract i s.size) 0 M f k = begR s i M f k
  | 0, k => rfl
  | f + 1, k => by
    have h0 := bN_extract s i 0 (by omega)
    have hk := bN_extract s i k (by omega)
    simp only [Nat.add_zero] at h0
    have e : (0 + k < (s.extract i s.size).size) = (i + k < s.size) := by rw [size_extract]; exact propext ⟨fun _ => by omega, fun _ => by omega⟩
    simp only [begR, Nat.zero_add, h0, hk, begR_extract s i M hi f (k + 1)]
    rw [Nat.zero_add] at e
    simp only [e]

set_option maxHeartbeats 1000000 in
theorem signLength_any (b : Nat) (w : World) (hb : b < 256) :
    Calls Tryz.prog 160 #[.int .u8 (b : Int)] w fun e w' => e = .returned (.int .i64 ((max 1 (manyN b) : Nat) : Int)) ∧ w' = w := by
  rcases many_cases b hb with ⟨h, hm⟩ | ⟨h, hm⟩ | ⟨h, h', hm⟩ | ⟨h, h', hm⟩ | ⟨h, h', hm⟩
  · rw [hm]
    have d1 : decide ((194 : Int) ≤ (b : Int)) = false := by simp; omega
    have d2 : decide ((224 : Int) ≤ (b : Int)) = false := by simp; omega
    have d3 : decide ((240 : Int) ≤ (b : Int)) = false := by simp; omega
    clear hm
    go_enter Tryz.func160, Tryz.ntmps160
    go_wp2
    go_ret
    exact ⟨rfl, rfl⟩
  · rw [hm]
    clear hm
    rcases h with h | h
    · have d1 : decide ((194 : Int) ≤ (b : Int)) = false := by simp; omega
      have d2 : decide ((224 : Int) ≤ (b : Int)) = false := by simp; omega
      have d3 : decide ((240 : Int) ≤ (b : Int)) = false := by simp; omega
      go_enter Tryz.func160, Tryz.ntmps160
      go_wp2
      go_ret
      exact ⟨rfl, rfl⟩
    · have d1 : decide ((194 : Int) ≤ (b : Int)) = true := by simp; omega
      have d2 : decide ((224 : Int) ≤ (b : Int)) = true := by simp; omega
      have d3 : decide ((240 : Int) ≤ (b : Int)) = true := by simp; omega
      go_enter Tryz.func160, Tryz.ntmps160
      go_wp2
      go_ret
      exact ⟨rfl, rfl⟩
  · rw [hm]
    clear hm
    have d1 : decide ((194 : Int) ≤ (b : Int)) = true := by simp; omega
    go_enter Tryz.func160, Tryz.ntmps160
    go_wp2
    go_ret
    exact ⟨rfl, rfl⟩
  · rw [hm]
    clear hm
    have d1 : decide ((194 : Int) ≤ (b : Int)) = true := by simp; omega
    have d2 : decide ((224 : Int) ≤ (b : Int)) = true := by simp; omega
    go_enter Tryz.func160, Tryz.ntmps160
    go_wp2
    go_ret
    exact ⟨rfl, rfl⟩
  · rw [hm]
    clear hm
    have d1 : decide ((194 : Int) ≤ (b : Int)) = true := by simp; omega
    have d2 : decide ((224 : Int) ≤ (b : Int)) = true := by simp; omega
    have d3 : decide ((240 : Int) ≤ (b : Int)) = true := by simp; omega
    go_enter Tryz.func160, Tryz.ntmps160
    go_wp2
    go_ret
    exact ⟨rfl, rfl⟩

set_option maxHeartbeats 1000000 in
theorem secondSpan_any (a : Nat) (w : World) :
    Calls Tryz.prog 161 #[.int .u8 (a : Int)] w fun e w' => e = .returned (.tuple #[.int .u8 (loN a : Int), .int .u8 (hiN a : Int)]) ∧ w' = w := by
  rcases span_cases a with ⟨rfl, h1, h2⟩ | ⟨rfl, h1, h2⟩ | ⟨rfl, h1, h2⟩ | ⟨rfl, h1, h2⟩ | ⟨g1, g2, g3, g4, h1, h2⟩
  all_goals
    rw [h1, h2]
    clear h1 h2
    go_enter Tryz.func161, Tryz.ntmps161
    go_wp2
    go_ret2
    exact ⟨rfl, rfl⟩

end Go.Proofs.YtbmmghkieolpkaaGreatDoor.Sg
