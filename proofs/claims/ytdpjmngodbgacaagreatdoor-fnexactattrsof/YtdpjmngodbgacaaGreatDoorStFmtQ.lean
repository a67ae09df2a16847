/- The library's FormatInt at base 16, of a number that is no more than the greatest sign. -/
import Derived.Test.YtdpjmngodbgacaaGreatDoorM08
import Derived.Test.YtdpjmngodbgacaaGreatDoorStTz
import Derived.Test.YtdpjmngodbgacaaGreatDoorM05
namespace Go.Proofs.YtdpjmngodbgacaaGreatDoor.Sg
open Go.ChangeShapes Go.WideShapes Go.ChangeAt Go.RowKit

theorem and15u (n : Nat) (h : n < 18446744073709551616) : bits .and .u64 (n : Int) 15 = ((n % 16 : Nat) : Int) := by
  have h1 := bits_and_u64_nat n 15 h (by decide)
  rw [Nat.and_two_pow_sub_one_eq_mod n 4] at h1
  exact h1

/-- The end of the buffer holds these bytes. -/
def Tail (w : World) (b : Nat) (l : List UInt8) : Prop :=
  ∃ c : Array Value, w.heap[b]? = some (.cells c 166 (0, 0)) ∧ c.size = 65 ∧ ∀ j (h : j < l.length), c[65 - l.length + j]? = some (.int .u8 (l[j].toNat : Int))
theorem zero65 : Tryz.zeroCells166.size = 65 := by kernel_rfl
theorem Tail.new (w : World) : Tail (w.alloc (.cells Tryz.zeroCells166 166)) w.heap.size [] :=
  ⟨_, heap_alloc_new w _, zero65, fun j h => by cases h⟩
theorem Tail.cell {w : World} {b : Nat} {l : List UInt8} (h : Tail w b l) {i : Nat} (hi : i < 65) : ∃ v, w.cell? ⟨b, i, none⟩ = some v := by
  obtain ⟨c, h1, h2, _⟩ := h
  exact ⟨c[i]'(by omega), by rw [Lib.cell_of_heap h1]; simp [h2, hi]⟩
theorem Tail.frozen {w : World} {b : Nat} {l : List UInt8} (h : Tail w b l) (i : Nat) : w.frozen? ⟨b, i, none⟩ = false := by
  obtain ⟨c, h1, _, _⟩ := h
  exact Lib.frozen_of_heap h1 i
theorem Tail.push {w : World} {b : Nat} {l : List UInt8} (h : Tail w b l) {k : Nat} (hk : k + 1 + l.length = 65) (x : UInt8) : Tail (w.setCell ⟨b, k, none⟩ (.int .u8 (x.toNat : Int))) b (x :: l) := by
  obtain ⟨c, h1, h2, h3⟩ := h
  refine ⟨c.setIfInBounds k (.int .u8 (x.toNat : Int)), ?_, by simp [h2], fun j hj => ?_⟩
  · simp [World.setCell, Array.getElem?_modify, h1]
  · rw [List.length_cons] at hj ⊢
    match j, hj with
    | 0, _ =>
      rw [show 65 - (l.length + 1) + 0 = k by omega]
      rw [Array.getElem?_setIfInBounds_self_of_lt (by omega)]
      rfl
    | j + 1, hj =>
      rw [Array.getElem?_setIfInBounds_ne (by omega), show 65 - (l.length + 1) + (j + 1) = 65 - l.length + j by omega]
      exact h3 j (by omega)
theorem Tail.text {w : World} {b : Nat} {l : List UInt8} (h : Tail w b l) {k : Nat} (hk : k + l.length = 65) (cap : Nat) : Sem.run Tryz.prog (convert 52 9 (.slice (some ⟨b, k, none⟩) l.length cap)) w = .ok (.string ⟨l.toArray⟩) w := by
  obtain ⟨c, h1, h2, h3⟩ := h
  refine run_convert_bytes_back w 52 9 5 ⟨b, k, none⟩ cap l Tryz.underlying52 Tryz.underlying5 Tryz.underlying9 fun j hj => ?_
  have e : (⟨b, k, none⟩ : Addr).add j = ⟨b, k + j, none⟩ := by unfold Addr.add; split <;> simp_all
  rw [e, Lib.cell_of_heap h1, show k = 65 - l.length by omega]
  exact h3 j hj

def fmtDigS : ByteArray := ⟨#[48, 49, 50, 51, 52, 53, 54, 55, 56, 57, 97, 98, 99, 100, 101, 102, 103, 104, 105, 106, 107, 108, 109, 110, 111, 112, 113, 114, 115, 116, 117, 118, 119, 120, 121, 122]⟩
theorem digS_size : fmtDigS.size = 36 := rfl
theorem digS_at (d : Nat) (h : d < fmtDigS.size) (h16 : d < 16) : ((fmtDigS[d]'h).toNat : Int) = ((lowD d).toNat : Int) := by
  have key : ∀ d, d < 16 → fmtDigS.data.toList[d]? = some (lowD d) := by decide +kernel
  have h1 := key d h16
  rw [Array.getElem?_toList] at h1
  have h2 : fmtDigS.data[d]? = some (fmtDigS[d]'h) := Array.getElem?_eq_getElem h
  rw [Option.some.inj (h2.symm.trans h1)]

set_option maxHeartbeats 2000000 in
set_option maxRecDepth 20000 in
theorem fmtBits (n : Nat) (w : World) (hn : n ≤ 1114111) (hD : D64 w) :
    Calls Tryz.prog 112 #[.slice none 0 0, .int .u64 (n : Int), .int .i64 16, .bool false, .bool false] w fun e w' => e = .returned (.tuple #[.slice none 0 0, .string ⟨(hexL 6 n).toArray⟩]) ∧ Below w.heap.size w w' := by
  have HD : Hid (D64 w) := hD
  clear hD
  have hb0 : Hid (Below w.heap.size w (w.alloc (.cells Tryz.zeroCells166 166))) := (Below.refl _ w).alloc (Nat.le_refl _) _
  have HD1 : Hid (D64 (w.alloc (.cells Tryz.zeroCells166 166))) := HD.out.below HD.out.lt hb0.out
  have Ht : Hid (Tail (w.alloc (.cells Tryz.zeroCells166 166)) w.heap.size []) := Tail.new w
  go_enter Tryz.func112, Tryz.ntmps112
  go_wp2_with fail
  refine (pow2 _).mono ?_
  rintro e w1 ⟨rfl, rfl⟩
  go_wp2_with fail
  refine (tz _ HD1.out).mono ?_
  rintro e w1 ⟨rfl, rfl⟩
  generalize hW : w.alloc (.cells Tryz.zeroCells166 166) = W at *
  clear hW
  go_wp2_with fail
  go_loopw [1, 13] (fun u i wr => ∃ (m k : Nat) (l : List UInt8), u = .int .u64 (m : Int) ∧ i = .int .i64 (k : Int) ∧ k + l.length = 65 ∧ l.length ≤ 5 ∧ Hid (m < 16 ^ (6 - l.length)) ∧ Hid (hexL (6 - l.length) m ++ l = hexL 6 n) ∧ Hid (Tail wr w.heap.size l) ∧ Below w.heap.size w wr) (fun u _ _ => (intOf u).toNat)
  case atStart => exact ⟨n, 65, [], rfl, rfl, rfl, by decide, by show n < 16 ^ 6; omega, List.append_nil _, Ht, hb0.out⟩
  case round =>
    obtain ⟨m, k, l, rfl, rfl, hk, hl, Hm, He, Ht, hbel⟩ := hrel
    have hm : m < 16777216 := by
      have h1 := Hm.out
      have h2 : 16 ^ (6 - l.length) ≤ 16 ^ 6 := Nat.pow_le_pow_right (by decide) (by omega)
      omega
    by_cases h16 : m < 16
    · have q2 : m < 36 := by omega
      have Hd : Hid (∀ h, ((fmtDigS[m]'h).toNat : Int) = ((lowD m).toNat : Int)) := fun h => digS_at m h h16
      obtain ⟨old, hold⟩ := Ht.out.cell (i := k - 1) (by omega)
      have hfz := Ht.out.frozen (k - 1)
      have Hnx : Hid (∀ v : Int, v = ((lowD m).toNat : Int) → Tail (wr.setCell ⟨w.heap.size, k - 1, none⟩ (.int .u8 v)) w.heap.size (lowD m :: l)) := fun v hv => hv ▸ Ht.out.push (by omega) (lowD m)
      have Hall : Hid (lowD m :: l = hexL 6 n) := by
        have h := He.out
        rw [show 6 - l.length = (5 - l.length) + 1 by omega, hexL_last h16] at h
        exact h
      have hd : ∀ h, (((⟨#[48, 49, 50, 51, 52, 53, 54, 55, 56, 57, 97, 98, 99, 100, 101, 102, 103, 104, 105, 106, 107, 108, 109, 110, 111, 112, 113, 114, 115, 116, 117, 118, 119, 120, 121, 122]⟩ : ByteArray)[m]'h).toNat) = (lowD m).toNat := fun h => Int.ofNat.inj (Hd.out h)
      obtain ⟨i, rfl⟩ : ∃ i, k = i + 1 := ⟨k - 1, by omega⟩
      rw [Nat.add_sub_cancel] at hold hfz Hnx
      have ei : ((i + 1 : Nat) : Int) - 1 = (i : Int) := by omega
      have hcv := (Hnx.out _ rfl).text (k := i) (by simp; omega) (65 - i)
      rw [Hall.out] at hcv
      have hlen : (hexL 6 n).length = 65 - i := by rw [← Hall.out]; simp; omega
      have hsl : ∀ W : World, (Instr.sliceAt 166 (.pointer (some ⟨w.heap.size, 0, none⟩)) (some (.int .i64 (i : Int))) none none).run Tryz.prog W = .ok (.slice (some ⟨w.heap.size, i, none⟩) (65 - i) (65 - i)) W := by
        intro W
        have h1 := run_sliceAt_array_l (P := Tryz.prog) W 166 ⟨w.heap.size, 0, none⟩ Tryz.underlying166 .i64 (i : Int) (by omega) (by show (i : Int) ≤ 65; omega)
        rw [h1]
        have h2 : (sizeOf (Tryz.prog.elem 166)).run Tryz.prog W = .ok 1 W := by kernel_rfl
        rw [h2]
        simp only [Result.andThen]
        unfold slicedAt
        rw [show Tryz.prog.arrayLen 166 = 65 by rfl, Int.toNat_natCast, if_neg (by omega), Nat.mul_one, add0]
      rw [hlen] at hcv
      have Hb : Hid (Below w.heap.size w (wr.setCell ⟨w.heap.size, i, none⟩ (.int .u8 ((lowD m).toNat : Int)))) := hbel.setCell (Nat.le_refl _) _
      clear He Ht Hm Hd Hnx hbel hlen
      generalize lowD m = x at *
      go_wp2_with fail
      go_ret2
      exact ⟨rfl, Hb.out⟩
    · have hl5 : l.length ≤ 4 := by
        by_cases h : l.length ≤ 4
        · exact h
        · have h1 := Hm.out
          rw [show 6 - l.length = 1 by omega] at h1
          omega
      have a15 := and15u m (by omega)
      have q1 : m % 16 < 16 := Nat.mod_lt _ (by decide)
      obtain ⟨old, hold⟩ := Ht.out.cell (i := k - 1) (by omega)
      have hfz := Ht.out.frozen (k - 1)
      have Hd : Hid (∀ h, ((fmtDigS[m % 16]'h).toNat : Int) = ((lowD (m % 16)).toNat : Int)) := fun h => digS_at (m % 16) h q1
      have Hnx : Hid (∀ v : Int, v = ((lowD (m % 16)).toNat : Int) → Tail (wr.setCell ⟨w.heap.size, k - 1, none⟩ (.int .u8 v)) w.heap.size (lowD (m % 16) :: l)) := fun v hv => hv ▸ Ht.out.push (by omega) (lowD (m % 16))
      have He2 : Hid (hexL (6 - (lowD (m % 16) :: l).length) (m / 16) ++ (lowD (m % 16) :: l) = hexL 6 n) := by
        have h := He.out
        rw [show 6 - l.length = (5 - l.length) + 1 by omega, hexL_more h16] at h
        show hexL (6 - (l.length + 1)) (m / 16) ++ _ = _
        rw [show 6 - (l.length + 1) = 5 - l.length by omega, ← h]
        simp
      have Hm2 : Hid (m / 16 < 16 ^ (6 - (lowD (m % 16) :: l).length)) := by
        have h := Hm.out
        show m / 16 < 16 ^ (6 - (l.length + 1))
        rw [show 6 - l.length = (6 - (l.length + 1)) + 1 by omega, Nat.pow_succ] at h
        exact Nat.div_lt_of_lt_mul (by rw [Nat.mul_comm]; exact h)
      clear He Hm Ht
      go_wp2_with fail
      go_roundw
      case rel => exact ⟨m / 16, k - 1, lowD (m % 16) :: l, by simp, by congr 1; omega, by simp; omega, by simp; omega, Hm2, He2, Hnx.out _ (Hd.out _), hbel.setCell (Nat.le_refl _) _⟩
      case measure => simp [intOf]; omega

set_option maxHeartbeats 1000000 in
theorem fmtIn (n : Nat) (w : World) (hn : n ≤ 1114111) (hD : D64 w) :
    Calls Tryz.prog 88 #[.int .i64 (n : Int), .int .i64 16] w fun e w' => e = .returned (.string ⟨(hexL 6 n).toArray⟩) ∧ Below w.heap.size w w' := by
  have HD : Hid (D64 w) := hD
  clear hD
  go_enter Tryz.func88, Tryz.ntmps88
  go_wp2_with fail
  refine (fmtBits n _ hn HD.out).mono ?_
  rintro e w1 ⟨rfl, b1⟩
  go_wp2_with fail
  go_ret
  exact ⟨rfl, b1⟩
set_option maxHeartbeats 1000000 in
theorem fmt16 (n : Nat) (w : World) (hn : n ≤ 1114111) (hD : D64 w) :
    Calls Tryz.prog 58 #[.int .i64 (n : Int), .int .i64 16] w fun e w' => e = .returned (.string ⟨(hexL 6 n).toArray⟩) ∧ Below w.heap.size w w' := by
  have HD : Hid (D64 w) := hD
  clear hD
  go_enter Tryz.func58, Tryz.ntmps58
  go_wp2_with fail
  refine (fmtIn n _ hn HD.out).mono ?_
  rintro e w1 ⟨rfl, b1⟩
  go_wp2_with fail
  go_ret
  exact ⟨rfl, b1⟩
end Go.Proofs.YtdpjmngodbgacaaGreatDoor.Sg
