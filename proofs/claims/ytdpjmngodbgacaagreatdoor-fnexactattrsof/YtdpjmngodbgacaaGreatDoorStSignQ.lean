/- The program's strictSign: a sign that may not stand, as U and six digits of 16. -/
import Derived.Test.YtdpjmngodbgacaaGreatDoorStFmtQ
import Derived.Test.YtdpjmngodbgacaaGreatDoorStUpQ
import Derived.Test.YtdpjmngodbgacaaGreatDoorStRepQ
import Derived.Test.YtdpjmngodbgacaaGreatDoorM13
namespace Go.Proofs.YtdpjmngodbgacaaGreatDoor.Sg
open Go.ChangeShapes Go.WideShapes Go.ChangeAt Go.RowKit

theorem hex_text (n : Nat) (h : n ≤ 1114111) : (⟨#[85]⟩ ++ ⟨(List.replicate (6 - (hexL 6 n).length) 48).toArray⟩ ++ ⟨((hexL 6 n).map upD).toArray⟩ : ByteArray) = textS (85 :: sixZ n) := by
  apply ByteArray.ext
  apply Array.toList_inj.1
  show _ = sgBytes (85 :: sixZ n)
  rw [ByteArray.data_append, ByteArray.data_append, Array.toList_append, Array.toList_append, sgBytes_cons, six_last, hex_six 6 n (by omega), putS_one (by decide) (by decide), List.append_assoc]
  rfl
theorem hexL_pos (f n : Nat) : 1 ≤ (hexL (f + 1) n).length := by
  by_cases h : n < 16
  · rw [hexL_last h]; simp
  · rw [hexL_more h]; simp

set_option maxHeartbeats 2000000 in
theorem implStrictSign (n : Nat) (w : World) (hn : n ≤ 1114111) (hD : D64 w) :
    Calls Tryz.prog 38 #[.int .i64 (n : Int)] w fun e w' => e = .returned (.string (textS (85 :: sixZ n))) ∧ Below w.heap.size w w' := by
  have HD : Hid (D64 w) := hD
  clear hD
  have Ht : Hid ((⟨#[85]⟩ ++ ⟨(List.replicate (6 - (hexL 6 n).length) 48).toArray⟩ ++ ⟨((hexL 6 n).map upD).toArray⟩ : ByteArray) = textS (85 :: sixZ n)) := hex_text n hn
  have h6 := hexL_len 6 n
  have h1 := hexL_pos 5 n
  have Ha : Hid (∀ j, j < (⟨(hexL 6 n).toArray⟩ : ByteArray).size → (atB ⟨(hexL 6 n).toArray⟩ j).toNat < 128) := by
    intro j hj
    have hj2 : j < (hexL 6 n).length := hj
    have e1 := atB_list ⟨(hexL 6 n).toArray⟩ j (by simpa using hj2)
    rw [← e1]
    exact hexL_ascii 6 n _ (by simp)
  have Hf := fun W h => fmt16 n W hn h
  have hz : (⟨(hexL 6 n).toArray⟩ : ByteArray).size = (hexL 6 n).length := rfl
  have hz2 : (⟨((hexL 6 n).map upD).toArray⟩ : ByteArray).size = (hexL 6 n).length := List.length_map ..
  have Hu := fun W => upper ⟨(hexL 6 n).toArray⟩ W (by rw [hz]; omega) Ha.out
  have ez : (⟨(hexL 6 n).toArray⟩ : ByteArray).data.toList = hexL 6 n := by simp
  rw [ez] at Hu
  clear Ha ez hz
  generalize hl : hexL 6 n = l at *
  clear hl
  generalize (⟨l.toArray⟩ : ByteArray) = x at *
  generalize (⟨(l.map upD).toArray⟩ : ByteArray) = y at *
  have Hr := fun W => rep0 (6 - l.length) (by omega) W
  have e6 : (6 : Int) - (l.length : Int) = ((6 - l.length : Nat) : Int) := by omega
  have hr : (⟨(List.replicate (6 - l.length) 48).toArray⟩ : ByteArray).size = 6 - l.length := List.length_replicate ..
  go_enter Tryz.func38, Tryz.ntmps38
  go_wp2_with fail
  refine (Hf _ HD.out).mono ?_
  rintro e w1 ⟨rfl, b1⟩
  go_wp2_with fail
  refine (Hu _).mono ?_
  rintro e w2 ⟨rfl, b2⟩
  have b2' : Below w.heap.size w w2 := b1.trans (b2.mono b1.size)
  clear b1 b2 Hf Hu
  go_wp2_with fail
  refine (Hr _).mono ?_
  rintro e w3 ⟨rfl, rfl⟩
  clear Hr
  generalize (⟨(List.replicate (6 - l.length) 48).toArray⟩ : ByteArray) = z at *
  have hu2 : (⟨#[85]⟩ : ByteArray).size = 1 := rfl
  have hu : (⟨#[85]⟩ ++ z : ByteArray).size = 1 + z.size := by rw [ByteArray.size_append]; rfl
  go_wp2_with fail
  go_ret
  exact ⟨ret_str Ht.out, b2'⟩
end Go.Proofs.YtdpjmngodbgacaaGreatDoor.Sg
