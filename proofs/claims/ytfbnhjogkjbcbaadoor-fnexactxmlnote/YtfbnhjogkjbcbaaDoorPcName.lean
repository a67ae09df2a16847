/- The program's XmlName answers as the model's. -/
import Derived.Test.YtfbnhjogkjbcbaaDoorPcSign
import Derived.Test.YtfbnhjogkjbcbaaDoorMN09
import Derived.Test.YtfbnhjogkjbcbaaDoorStImA
namespace Go.Proofs.YtfbnhjogkjbcbaaDoor.Sg
open Go.ChangeShapes Go.WideShapes Go.ChangeAt Go.RowKit

theorem xmlName_out (s : ByteArray) (i : Int) (a : Addr) (w : World) (h : i < 0 ∨ (s.size : Int) ≤ i) (hT : PcT a w) :
    Calls Tryd.prog 9 #[.string s, .int .i64 i] w fun e w' => e = .returned (.tuple #[.string ⟨#[]⟩, .int .i64 i]) ∧ Below w.heap.size w w' := by
  go_enter Tryd.func9, Tryd.ntmps9
  go_wp2
  go_loopw [6] (fun v wr => v = .int .i64 i ∧ wr = w) (fun _ _ => 0)
  case atStart => exact ⟨rfl, rfl⟩
  case round =>
    obtain ⟨rfl, rfl⟩ := hrel
    have hv : wr.cell? ⟨0, 0, none⟩ = some (errV a) := hT.2
    have HG := signAt_out s i a wr h hT.2
    go_wp2_with fail
    refine HG.mono ?_
    rintro e w1 ⟨rfl, b1⟩
    have hv1 := keep_cell b1 hv
    clear HG
    go_wp2_with fail
    refine (is_same a _).mono ?_
    rintro e w2 ⟨rfl, rfl⟩
    go_wp2_with fail
    go_ret2
    exact ⟨rfl, b1⟩

theorem ret_si {a b : ByteArray} {m n : Int} (h : a = b) (h2 : m = n) : Ending.returned (.tuple #[.string a, .int .i64 m]) = .returned (.tuple #[.string b, .int .i64 n]) := by rw [h, h2]
theorem extract_none (s : ByteArray) (k : Nat) : s.extract k k = (⟨#[]⟩ : ByteArray) := by
  apply ByteArray.ext
  apply Array.toList_inj.1
  rw [Lib.extract_data]
  simp

set_option maxHeartbeats 4000000 in
theorem xmlName_in (s : ByteArray) (k0 : Nat) (a : Addr) (w : World) (hk0 : k0 ≤ s.size) (hs : s.size ≤ 1073741824) (hT : PcT a w) :
    Calls Tryd.prog 9 #[.string s, .int .i64 (k0 : Int)] w fun e w' => e = .returned (.tuple #[.string (s.extract k0 (xnameE s true k0)), .int .i64 (xnameE s true k0 : Int)]) ∧ Below w.heap.size w w' := by
  have hle := xnameE_le s s.size k0 true (by omega) hk0
  generalize hR : xnameE s true k0 = R at *
  have HT : Hid (PcT a w) := hT
  clear hT
  go_enter Tryd.func9, Tryd.ntmps9
  go_wp2
  go_loopw [6] (fun v wr => ∃ k : Nat, k0 ≤ k ∧ k ≤ s.size ∧ v = .int .i64 (k : Int) ∧ Hid (xnameE s (decide (k - k0 = 0)) k = R) ∧ Hid (Below w.heap.size w wr)) (fun v _ => s.size - (intOf v).toNat)
  case atStart => exact ⟨k0, Nat.le_refl _, hk0, rfl, by show _ = _; rw [decide_eq_true (Nat.sub_self k0)]; exact hR, Below.refl _ _⟩
  case round =>
    obtain ⟨k, hk1, hk2, rfl, HK, HB⟩ := hrel
    clear hR
    have HTw : Hid (PcT a wr) := HT.out.below HB.out
    by_cases hlt : k < s.size
    · cases hr : asRead s k
      · have HR : Hid (k = R) := (xnameE_stop hlt (by rw [hr, Bool.and_false])).symm.trans HK.out
        have hv : wr.cell? ⟨0, 0, none⟩ = some (errV a) := HTw.out.2
        have HG := signAt_no s k a wr hlt (by omega) HTw.out hr
        clear hr HK
        go_wp2_with fail
        refine HG.mono ?_
        rintro e w1 ⟨rfl, b1⟩
        have hv1 := keep_cell b1 hv
        have B1 : Hid (Below w.heap.size w w1) := below_from HB.out b1
        clear HG hv b1
        go_wp2_with fail
        refine (is_same a _).mono ?_
        rintro e w2 ⟨rfl, rfl⟩
        by_cases hkk : k = k0
        · have g : ((k : Int) == (k0 : Int)) = true := by rw [hkk]; simp
          have hb2 := B1.out
          clear B1
          go_wp2_with fail
          go_ret2
          exact ⟨ret_si (by rw [← HR.out, hkk, extract_none]) (by rw [← HR.out, hkk]), hb2⟩
        · have g : ((k : Int) == (k0 : Int)) = false := by rw [beq_eq_false_iff_ne]; omega
          have hb2 := B1.out
          clear B1
          have q1 : (k0 : Int) ≤ (k : Int) := by omega
          have q2 : (k : Int) ≤ (s.size : Int) := by omega
          go_wp2_with fail
          go_ret2
          exact ⟨ret_si (by rw [← HR.out]) (by rw [← HR.out]), hb2⟩
      · have hv : wr.cell? ⟨0, 0, none⟩ = some (errV a) := HTw.out.2
        have HG := signAt_yes s k a wr hlt (by omega) HTw.out hr
        have hm := getS_many s k hlt
        have HGo : Hid (stayB (decide (k - k0 = 0)) ((getS s k).1 : Int) = true → xnameE s false (k + (getS s k).2) = R) := fun h => (xnameE_go hlt (by rw [h, hr]; rfl)).symm.trans HK.out
        have HSt : Hid (stayB (decide (k - k0 = 0)) ((getS s k).1 : Int) = false → k = R) := fun h => (xnameE_stop hlt (by rw [h]; rfl)).symm.trans HK.out
        have HM := implMayStand ((getS s k).1 : Int) (k - k0)
        rw [show ((k - k0 : Nat) : Int) = (k : Int) - (k0 : Int) by omega] at HM
        clear hr HK
        generalize (getS s k).1 = n at *
        generalize (getS s k).2 = m at *
        have q0 : IntKind.i64.wrap ((k : Int) - (k0 : Int)) = (k : Int) - (k0 : Int) := IntWalk.i64_in _ (by omega)
        go_wp2_with fail
        refine HG.mono ?_
        rintro e w1 ⟨rfl, b1⟩
        have hv1 := keep_cell b1 hv
        have B1 : Hid (Below w.heap.size w w1) := below_from HB.out b1
        clear HG hv b1
        go_wp2_with fail
        refine (is_nil a _).mono ?_
        rintro e w2 ⟨rfl, rfl⟩
        go_wp2_with fail
        refine (HM _).mono ?_
        rintro e w3 ⟨rfl, b3⟩
        have B3 : Hid (Below w.heap.size w w3) := below_from B1.out b3
        clear B1 b3 HM hv1
        cases hst : stayB (decide (k - k0 = 0)) (n : Int)
        · have HR : Hid (k = R) := HSt.out hst
          clear hst HSt HGo
          by_cases hkk : k = k0
          · have g : ((k : Int) == (k0 : Int)) = true := by rw [hkk]; simp
            have hb2 := B3.out
            clear B3
            go_wp2_with fail
            go_ret2
            exact ⟨ret_si (by rw [← HR.out, hkk, extract_none]) (by rw [← HR.out, hkk]), hb2⟩
          · have g : ((k : Int) == (k0 : Int)) = false := by rw [beq_eq_false_iff_ne]; omega
            have hb2 := B3.out
            clear B3
            have q1 : (k0 : Int) ≤ (k : Int) := by omega
            have q2 : (k : Int) ≤ (s.size : Int) := by omega
            go_wp2_with fail
            go_ret2
            exact ⟨ret_si (by rw [← HR.out]) (by rw [← HR.out]), hb2⟩
        · have HR := HGo.out hst
          clear hst HSt HGo
          go_wp2_with fail
          go_roundw
          case rel => exact ⟨k + m, by omega, by omega, rfl, by show _ = _; rw [decide_eq_false (by omega)]; exact HR, B3⟩
          case measure => simp [intOf]; omega
    · have HR : Hid (k = R) := (xnameE_end hlt).symm.trans HK.out
      have hv : wr.cell? ⟨0, 0, none⟩ = some (errV a) := HTw.out.2
      have HG := signAt_out s (k : Int) a wr (by omega) HTw.out.2
      clear HK
      go_wp2_with fail
      refine HG.mono ?_
      rintro e w1 ⟨rfl, b1⟩
      have hv1 := keep_cell b1 hv
      have B1 : Hid (Below w.heap.size w w1) := below_from HB.out b1
      clear HG hv b1
      go_wp2_with fail
      refine (is_same a _).mono ?_
      rintro e w2 ⟨rfl, rfl⟩
      by_cases hkk : k = k0
      · have g : ((k : Int) == (k0 : Int)) = true := by rw [hkk]; simp
        have hb2 := B1.out
        clear B1
        go_wp2_with fail
        go_ret2
        exact ⟨ret_si (by rw [← HR.out, hkk, extract_none]) (by rw [← HR.out, hkk]), hb2⟩
      · have g : ((k : Int) == (k0 : Int)) = false := by rw [beq_eq_false_iff_ne]; omega
        have hb2 := B1.out
        clear B1
        have q1 : (k0 : Int) ≤ (k : Int) := by omega
        have q2 : (k : Int) ≤ (s.size : Int) := by omega
        go_wp2_with fail
        go_ret2
        exact ⟨ret_si (by rw [← HR.out]) (by rw [← HR.out]), hb2⟩

theorem implXmlName (s : ByteArray) (i : Int) (a : Addr) (w : World) (hs : s.size ≤ 1073741824) (hT : PcT a w) :
    Calls Tryd.prog 9 #[.string s, .int .i64 i] w fun e w' => e = .returned (.tuple #[.string (xnS s i), .int .i64 (xnI s i)]) ∧ Below w.heap.size w w' := by
  unfold xnS xnI
  by_cases h : 0 ≤ i ∧ i ≤ s.size
  · rw [if_pos h, if_pos h]
    have C := xmlName_in s i.toNat a w (by omega) hs hT
    rw [show ((i.toNat : Nat) : Int) = i by omega] at C
    exact C
  · rw [if_neg h, if_neg h]
    exact xmlName_out s i a w (by omega) hT

end Go.Proofs.YtfbnhjogkjbcbaaDoor.Sg
