/- Contract of the model's l3Longest. -/
import Derived.Test.YtlaidaghmhmgbaaDoorRfNamesQ
import Derived.Deep.Cut
import Derived.Deep.CutRange
import Derived.Laws.DeepStrings4
namespace Go.Proofs.YtlaidaghmhmgbaaDoor.Sg
open Go.ChangeShapes Go.WideShapes Go.ChangeAt Go.RowKit

theorem longG_drop (xs : List (List UInt8)) (best l : List UInt8) (k : Nat) (h : k < xs.length) :
    longG (xs.drop k) best l = longG (xs.drop (k + 1)) (if best.length < (xs.getD k []).length ∧ xs.getD k [] <+: l then xs.getD k [] else best) l := by
  rw [List.drop_eq_getElem_cons h]
  simp [longG, List.getD, h]

theorem extract_list (s : ByteArray) (a n : Nat) : (s.extract a (a + n)).toList = (tailL s a).take n := by
  rw [ByteArray.toList_eq, ByteArray.data_extract]
  unfold tailL
  simp [List.extract_eq_take_drop]

theorem cut_eq {s : ByteArray} {a : Nat} {y : List UInt8} (h : y <+: tailL s a) : ((s.extract a (a + y.length)).toList == (strB y).toList) = true := by
  rw [extract_list, ByteArray.toList_eq]
  simp only [strB, beq_iff_eq]
  exact (List.prefix_iff_eq_take.1 h).symm
theorem cut_ne {s : ByteArray} {a : Nat} {y : List UInt8} (h : ¬ y <+: tailL s a) : ((s.extract a (a + y.length)).toList == (strB y).toList) = false := by
  rw [extract_list, ByteArray.toList_eq]
  simp only [strB, beq_eq_false_iff_ne]
  exact fun e => h (List.prefix_iff_eq_take.2 e.symm)

theorem ret_txt {a b : ByteArray} (h : a = b) : Ending.returned (.string a) = .returned (.string b) := by rw [h]

theorem name_short : ∀ k, (nameL.getD k []).length ≤ 6 := by
  intro k
  by_cases h : k < 14
  · have : ∀ k, k < 14 → (nameL.getD k []).length ≤ 6 := by decide
    exact this k h
  · rw [List.getD_eq_getElem?_getD, List.getElem?_eq_none (by show 14 ≤ k; omega)]
    decide

set_option maxHeartbeats 2000000 in
theorem specLongest (s : ByteArray) (a : Nat) (w : World) (ha : a ≤ s.size) (hs : s.size ≤ 17592186044416) :
    Calls Tryd.prog 53 #[.string s, .int .i64 (a : Int)] w fun e w' => e = .returned (.string (strB (longL (tailL s a)))) ∧ Below w.heap.size w w' := by
  go_enter Tryd.func53, Tryd.ntmps53
  go_wp2_with fail
  refine (specNamed _).mono ?_
  rintro e w1 ⟨rfl, ht, b1⟩
  have Ht : Hid (∀ k, k < 14 → w1.cell? ⟨w.heap.size, k, none⟩ = some (.string (strB (nameL.getD k [])))) := ht.2
  have hz : w.heap.size < w1.heap.size := ht.1
  clear ht
  go_wp2
  go_loopw [5, 7] (fun o i wr => ∃ (k : Nat) (best : List UInt8), k ≤ 14 ∧ o = .string (strB best) ∧ i = .int .i64 k ∧ best.length ≤ 6 ∧ Hid (longL (tailL s a) = longG (nameL.drop k) best (tailL s a)) ∧ Below w1.heap.size w1 wr) (fun _ i _ => 14 - (intOf i).toNat)
  case atStart => exact ⟨0, [], Nat.zero_le _, rfl, rfl, Nat.zero_le _, rfl, Below.refl _ _⟩
  case round =>
    obtain ⟨k, best, hk, rfl, rfl, hbl, Hsp, hbel⟩ := hrel
    have hbs := strB_size best
    generalize hsb : strB best = sb at *
    have Hsb : Hid (strB best = sb) := hsb
    clear hsb
    by_cases hlk : k < 14
    · have hd := longG_drop nameL best (tailL s a) k hlk
      have hc1 : wr.cell? ⟨w.heap.size, k, none⟩ = some (.string (strB (nameL.getD k []))) := (hbel.cell (by simpa using hz)).trans (Ht.out k hlk)
      have hy := name_short k
      generalize nameL.getD k [] = y at *
      have hys := strB_size y
      have hce : y <+: tailL s a → ((s.extract a (a + (strB y).size)).toList == (strB y).toList) = true := fun h => by rw [hys]; exact cut_eq h
      have hcn : ¬ y <+: tailL s a → ((s.extract a (a + (strB y).size)).toList == (strB y).toList) = false := fun h => by rw [hys]; exact cut_ne h
      generalize hsy : strB y = sy at *
      have Hsy : Hid (strB y = sy) := hsy
      clear hsy
      have hyp : y <+: tailL s a → a + y.length ≤ s.size := fun h => by
        have h1 := h.length_le
        rw [tailL_length] at h1
        omega
      by_cases h1 : best.length < y.length
      · by_cases h2 : a + y.length ≤ s.size
        · by_cases h3 : y <+: tailL s a
          · have Hn : Hid (longL (tailL s a) = longG (nameL.drop (k + 1)) y (tailL s a)) := by
              show _ = _
              rw [Hsp.out, hd, if_pos ⟨h1, h3⟩]
            have g := hce h3
            have g1 : sb.size < sy.size := by omega
            have g2 : a + sy.size ≤ s.size := by omega
            have q1 : IntKind.i64.wrap ((a : Int) + (sy.size : Int)) = (a : Int) + (sy.size : Int) := IntWalk.i64_in _ (by omega)
            have q2 : (a : Int) + (sy.size : Int) ≤ (s.size : Int) := by omega
            have q3 : (a : Int) ≤ (a : Int) + (sy.size : Int) := by omega
            have q4 : ((a : Int) + (sy.size : Int)).toNat = a + sy.size := by omega
            have q5 : (0 : Int) ≤ (a : Int) + (sy.size : Int) := by omega
            have Hys : Hid (y.length ≤ 6) := hy
            have Hbl : Hid (best.length ≤ 6) := hbl
            have k0 : (0 : Int) ≤ (k : Int) := by omega
            have k1 : (k : Int) < 14 := by omega
            clear hd h3 hbs Hsp hce hcn hyp h1 h2 hy hbl hys
            go_upto_region 7 with fail
            go_quiet (fail)
            go_wp2_with fail
            go_roundw
            case rel => exact ⟨k + 1, y, by omega, by rw [Hsy.out], by go_num, Hys, Hn, drew_kd hbel _⟩
            case measure => simp [intOf]; omega
          · have Hn : Hid (longL (tailL s a) = longG (nameL.drop (k + 1)) best (tailL s a)) := by
              show _ = _
              rw [Hsp.out, hd, if_neg (fun h => h3 h.2)]
            have g := hcn h3
            have g1 : sb.size < sy.size := by omega
            have g2 : a + sy.size ≤ s.size := by omega
            have q1 : IntKind.i64.wrap ((a : Int) + (sy.size : Int)) = (a : Int) + (sy.size : Int) := IntWalk.i64_in _ (by omega)
            have q2 : (a : Int) + (sy.size : Int) ≤ (s.size : Int) := by omega
            have q3 : (a : Int) ≤ (a : Int) + (sy.size : Int) := by omega
            have q4 : ((a : Int) + (sy.size : Int)).toNat = a + sy.size := by omega
            have q5 : (0 : Int) ≤ (a : Int) + (sy.size : Int) := by omega
            have Hys : Hid (y.length ≤ 6) := hy
            have Hbl : Hid (best.length ≤ 6) := hbl
            have k0 : (0 : Int) ≤ (k : Int) := by omega
            have k1 : (k : Int) < 14 := by omega
            clear hd h3 hbs Hsp hce hcn hyp h1 h2 hy hbl hys
            go_upto_region 7 with fail
            go_quiet (fail)
            go_wp2_with fail
            go_roundw
            case rel => exact ⟨k + 1, best, by omega, by rw [Hsb.out], by go_num, Hbl, Hn, drew_kd hbel _⟩
            case measure => simp [intOf]; omega
        · have Hn : Hid (longL (tailL s a) = longG (nameL.drop (k + 1)) best (tailL s a)) := by
            show _ = _
            rw [Hsp.out, hd, if_neg (fun h => h2 (hyp h.2))]
          have g1 : sb.size < sy.size := by omega
          have q1 : IntKind.i64.wrap ((a : Int) + (sy.size : Int)) = (a : Int) + (sy.size : Int) := IntWalk.i64_in _ (by omega)
          have q2 : decide ((a : Int) + (sy.size : Int) ≤ (s.size : Int)) = false := decide_eq_false (by omega)
          have q2' : ¬ a + sy.size ≤ s.size := by omega
          have Hbl : Hid (best.length ≤ 6) := hbl
          have k0 : (0 : Int) ≤ (k : Int) := by omega
          have k1 : (k : Int) < 14 := by omega
          clear hd hbs Hsp hce hcn hyp h1 h2 hy hbl hys
          go_upto_region 7 with fail
          go_quiet (fail)
          go_wp2_with fail
          go_roundw
          case rel => exact ⟨k + 1, best, by omega, by rw [Hsb.out], by go_num, Hbl, Hn, drew_kd hbel _⟩
          case measure => simp [intOf]; omega
      · have Hn : Hid (longL (tailL s a) = longG (nameL.drop (k + 1)) best (tailL s a)) := by
          show _ = _
          rw [Hsp.out, hd, if_neg (fun h => h1 h.1)]
        have g1 : ¬ sb.size < sy.size := by omega
        have g1' : decide (sb.size < sy.size) = false := decide_eq_false g1
        have Hbl : Hid (best.length ≤ 6) := hbl
        have k0 : (0 : Int) ≤ (k : Int) := by omega
        have k1 : (k : Int) < 14 := by omega
        clear hd Hsp hbs hce hcn hyp h1 hy hbl hys
        go_upto_region 7 with fail
        go_quiet (fail)
        go_wp2_with fail
        go_roundw
        case rel => exact ⟨k + 1, best, by omega, by rw [Hsb.out], by go_num, Hbl, Hn, drew_kd hbel _⟩
        case measure => simp [intOf]; omega
    · have Hn : Hid (longL (tailL s a) = best) := by
        show _ = _
        rw [Hsp.out, List.drop_eq_nil_of_le (show nameL.length ≤ k by show 14 ≤ k; omega)]
        rfl
      have hdk : decide ((k : Int) < 14) = false := decide_eq_false (by omega)
      clear Hsp hbl hbs Ht
      go_wp2
      go_ret
      exact ⟨ret_txt (by rw [Hn.out, Hsb.out]), b1.trans (hbel.mono b1.size)⟩

end Go.Proofs.YtlaidaghmhmgbaaDoor.Sg
