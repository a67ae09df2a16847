/- Contracts of the program's IsLetter, IsFirst and IsNext. The program's mayStand, checkName and NameOk. The program's XmlName answers as the model's. -/
import Derived.Test.YtfbnhjogkjbcbaaDoorKdSpan
import Derived.Test.YtfbnhjogkjbcbaaDoorMN02
import Derived.Test.YtfbnhjogkjbcbaaDoorPcSign
import Derived.Test.YtfbnhjogkjbcbaaDoorMN08
namespace Go.Proofs.YtfbnhjogkjbcbaaDoor.Sg
open Go.ChangeShapes Go.WideShapes Go.ChangeAt Go.RowKit

theorem Spans.at_first (w : World) (l : List (Int × Int)) (C : Array Value) (t : TypeId) (hC : C = (spanCells l).toArray) : Spans (w.alloc (.cells C t)) w.heap.size l := by
  subst hC
  exact Spans.laid w l t

theorem letter_no : ∀ p ∈ letterL, p ≠ (0, 0) := by decide
theorem first_no : ∀ p ∈ firstL, p ≠ (0, 0) := by decide
theorem next_no : ∀ p ∈ nextL, p ≠ (0, 0) := by decide

set_option maxHeartbeats 1000000 in
/-- Two spans are compared end by end. -/
theorem eq_span (a b c d : Int) (w : World) : (Op.equalIn 10000 91 (.agg #[.int .i64 a, .int .i64 b]) (.agg #[.int .i64 c, .int .i64 d])).run Tryd.prog w = .ok (a == c && b == d) w := by
  have u3 := Tryd.underlying3
  have a3 := Tryd.isAgg3
  have z3 := Tryd.sizeOf3
  rw [show (10000 : Nat) = 9999 + 1 from rfl, Op.equalIn]
  simp only [Sem.run_bind, run_underlying Tryd.underlying91, Result.andThen_ok]
  simp only [Std.Legacy.Range.forIn_eq_forIn_range', Std.Legacy.Range.size, Nat.sub_zero, Nat.add_sub_cancel, Nat.div_one, List.range'_succ, List.range'_zero, List.forIn_cons, List.forIn_nil]
  go_simp
  by_cases h1 : a = c <;> by_cases h2 : b = d <;> simp [h1, h2]

theorem eq_none (p : Int × Int) : (!(p.1 == 0) || !(p.2 == 0)) = !decide (p = (0, 0)) := by
  obtain ⟨a, b⟩ := p
  by_cases h1 : a = 0 <;> by_cases h2 : b = 0 <;> simp [h1, h2]

set_option maxHeartbeats 1000000 in
theorem implIsLetter (n : Int) (w : World) :
    Calls Tryd.prog 66 #[.int .i64 n] w fun e w' => e = .returned (.bool (letterB n)) ∧ Below w.heap.size w w' := by
  have Hw : Hid (letterB n = (!((spanS letterL n).1 == 0) || !((spanS letterL n).2 == 0))) := ((eq_none _).trans (spanS_any letterL n letter_no)).symm
  go_enter Tryd.func66, Tryd.ntmps66
  go_wp2_with fail
  refine (implSpanOf n w.heap.size 2 2 letterL _ (Spans.at_first w letterL _ _ rfl) rfl (by decide)).mono ?_
  rintro e w1 ⟨rfl, hb1⟩
  have hbel : Below w.heap.size w w1 := ((Below.refl _ w).alloc (Nat.le_refl _) _).trans (hb1.mono (by simp))
  have he := fun w => eq_span (spanS letterL n).1 (spanS letterL n).2 0 0 w
  clear hb1
  go_wp2
  go_ret
  exact ⟨ret_bool Hw.out.symm, hbel⟩

set_option maxHeartbeats 1000000 in
theorem implIsFirst (n : Int) (w : World) :
    Calls Tryd.prog 48 #[.int .i64 n] w fun e w' => e = .returned (.bool (firstB n)) ∧ Below w.heap.size w w' := by
  have Hw : Hid (withinB firstL n = (!((spanS firstL n).1 == 0) || !((spanS firstL n).2 == 0))) := ((eq_none _).trans (spanS_any firstL n first_no)).symm
  go_enter Tryd.func48, Tryd.ntmps48
  go_wp2_with fail
  refine (implIsLetter n _).mono ?_
  rintro e w1 ⟨rfl, hb1⟩
  cases hl : letterB n
  · have Hl : Hid (firstB n = withinB firstL n) := by show firstB n = _; unfold firstB; rw [hl]; rfl
    clear hl
    go_wp2_with fail
    refine (implFirstSpan n _).mono ?_
    rintro e w2 ⟨rfl, hb2⟩
    have hbel : Below w.heap.size w w2 := hb1.trans (hb2.mono hb1.size)
    have he := fun w => eq_span (spanS firstL n).1 (spanS firstL n).2 0 0 w
    clear hb1 hb2
    go_wp2
    go_ret
    exact ⟨ret_bool (Hl.out.trans Hw.out).symm, hbel⟩
  · have Hl : Hid (firstB n = true) := by show firstB n = _; unfold firstB; rw [hl]; rfl
    clear hl
    go_wp2
    go_ret
    exact ⟨ret_bool Hl.out.symm, hb1⟩

set_option maxHeartbeats 1000000 in
theorem implIsNext (n : Int) (w : World) :
    Calls Tryd.prog 49 #[.int .i64 n] w fun e w' => e = .returned (.bool (nextB n)) ∧ Below w.heap.size w w' := by
  have Hw : Hid (withinB nextL n = (!((spanS nextL n).1 == 0) || !((spanS nextL n).2 == 0))) := ((eq_none _).trans (spanS_any nextL n next_no)).symm
  go_enter Tryd.func49, Tryd.ntmps49
  go_wp2_with fail
  refine (implIsFirst n _).mono ?_
  rintro e w1 ⟨rfl, hb1⟩
  cases hl : firstB n
  · have Hl : Hid (nextB n = withinB nextL n) := by show nextB n = _; unfold nextB; rw [hl]; rfl
    clear hl
    go_wp2_with fail
    refine (implNextSpan n _).mono ?_
    rintro e w2 ⟨rfl, hb2⟩
    have hbel : Below w.heap.size w w2 := hb1.trans (hb2.mono hb1.size)
    have he := fun w => eq_span (spanS nextL n).1 (spanS nextL n).2 0 0 w
    clear hb1 hb2
    go_wp2
    go_ret
    exact ⟨ret_bool (Hl.out.trans Hw.out).symm, hbel⟩
  · have Hl : Hid (nextB n = true) := by show nextB n = _; unfold nextB; rw [hl]; rfl
    clear hl
    go_wp2
    go_ret
    exact ⟨ret_bool Hl.out.symm, hb1⟩

end Go.Proofs.YtfbnhjogkjbcbaaDoor.Sg

namespace Go.Proofs.YtfbnhjogkjbcbaaDoor.Sg
open Go.ChangeShapes Go.WideShapes Go.ChangeAt Go.RowKit

/-- Whether the sign at that place may stand there. -/
def stayAt (zs : List Int) (k : Nat) : Bool := stayB (decide (k = 0)) (zs.getD k 0)

theorem stName_from (zs : List Int) (m : Nat) : ∀ k, zs.length - k = m → (stNameL (decide (k = 0)) (zs.drop k) = true ↔ ∀ j, k ≤ j → j < zs.length → stayAt zs j = true) := by
  induction m with
  | zero =>
    intro k hk
    rw [List.drop_eq_nil_of_le (by omega)]
    unfold stNameL
    exact ⟨fun _ j h1 h2 => by omega, fun _ => rfl⟩
  | succ m ih =>
    intro k hk
    have hlt : k < zs.length := by omega
    rw [stNameL_drop zs k hlt, Bool.and_eq_true]
    have h1 := ih (k + 1) (by omega)
    rw [decide_eq_false (by omega : ¬ k + 1 = 0)] at h1
    rw [h1]
    constructor
    · rintro ⟨h2, h3⟩ j hj hj2
      by_cases e : j = k
      · subst e
        exact h2
      · exact h3 j (by omega) hj2
    · intro h
      exact ⟨h k (Nat.le_refl _) hlt, fun j hj hj2 => h j (by omega) hj2⟩
theorem stName_iff (zs : List Int) : stNameL true zs = true ↔ ∀ j, j < zs.length → stayAt zs j = true := by
  have h := stName_from zs zs.length 0 rfl
  rw [List.drop_zero, decide_eq_true rfl] at h
  rw [h]
  exact ⟨fun h j hj => h j (Nat.zero_le _) hj, fun h j _ hj => h j hj⟩

theorem implMayStand (z : Int) (k : Nat) (w : World) :
    Calls Tryd.prog 25 #[.int .i64 z, .int .i64 (k : Int)] w fun e w' => e = .returned (.bool (stayB (decide (k = 0)) z)) ∧ Below w.heap.size w w' := by
  by_cases h0 : k = 0
  · subst h0
    have g0 : (((0 : Nat) : Int) == 0) = true := rfl
    go_enter Tryd.func25, Tryd.ntmps25
    go_wp2_with fail
    refine (implIsFirst z _).mono ?_
    rintro e w1 ⟨rfl, b1⟩
    go_wp2_with fail
    go_ret
    exact ⟨rfl, b1⟩
  · have g0 : ((k : Int) == 0) = false := by simp; exact h0
    have Hd : Hid (stayB (decide (k = 0)) z = nextB z) := by show _ = _; rw [decide_eq_false h0]; rfl
    clear h0
    go_enter Tryd.func25, Tryd.ntmps25
    go_wp2_with fail
    refine (implIsNext z _).mono ?_
    rintro e w1 ⟨rfl, b1⟩
    go_wp2_with fail
    go_ret
    exact ⟨ret_bool Hd.out.symm, b1⟩

end Go.Proofs.YtfbnhjogkjbcbaaDoor.Sg

namespace Go.Proofs.YtfbnhjogkjbcbaaDoor.Sg
open Go.ChangeShapes Go.WideShapes Go.ChangeAt Go.RowKit

theorem xmlName_out (s : ByteArray) (i : Int) (a : Addr) (w : World) (h : i < 0 ∨ (s.size : Int) ≤ i) (hT : PcT a w) :
    Calls Tryd.prog 9 #[.string s, .int .i64 i] w fun e w' => e = .returned (.tuple #[.string ⟨#[]⟩, .int .i64 i]) ∧ Below w.heap.size w w' := by
  go_enter Tryd.func9, Tryd.ntmps9
  go_wp2
  go_loopw [6] (fun v wr => v = .int .i64 i ∧ wr = w) (fun _ _ => 0)
  case atStart => exact ⟨rfl, rfl⟩
  case round =>
    obtain ⟨rfl, rfl⟩ := hrel
    have hv : wr.cell? ⟨0, 0, none⟩ = some (errV a) := hT.2
    have HG := signAt_out s i a wr h hT.2
    go_wp2_with fail
    refine HG.mono ?_
    rintro e w1 ⟨rfl, b1⟩
    have hv1 := keep_cell b1 hv
    clear HG
    go_wp2_with fail
    refine (is_same a _).mono ?_
    rintro e w2 ⟨rfl, rfl⟩
    go_wp2_with fail
    go_ret2
    exact ⟨rfl, b1⟩

theorem ret_si {a b : ByteArray} {m n : Int} (h : a = b) (h2 : m = n) : Ending.returned (.tuple #[.string a, .int .i64 m]) = .returned (.tuple #[.string b, .int .i64 n]) := by rw [h, h2]
theorem extract_none (s : ByteArray) (k : Nat) : s.extract k k = (⟨#[]⟩ : ByteArray) := by
  apply ByteArray.ext
  apply Array.toList_inj.1
  rw [Lib.extract_data]
  simp

set_option maxHeartbeats 4000000 in
theorem xmlName_in (s : ByteArray) (k0 : Nat) (a : Addr) (w : World) (hk0 : k0 ≤ s.size) (hs : s.size ≤ 1073741824) (hT : PcT a w) :
    Calls Tryd.prog 9 #[.string s, .int .i64 (k0 : Int)] w fun e w' => e = .returned (.tuple #[.string (s.extract k0 (xnameE s true k0)), .int .i64 (xnameE s true k0 : Int)]) ∧ Below w.heap.size w w' := by
  have hle := xnameE_le s s.size k0 true (by omega) hk0
  generalize hR : xnameE s true k0 = R at *
  have HT : Hid (PcT a w) := hT
  clear hT
  go_enter Tryd.func9, Tryd.ntmps9
  go_wp2
  go_loopw [6] (fun v wr => ∃ k : Nat, k0 ≤ k ∧ k ≤ s.size ∧ v = .int .i64 (k : Int) ∧ Hid (xnameE s (decide (k - k0 = 0)) k = R) ∧ Hid (Below w.heap.size w wr)) (fun v _ => s.size - (intOf v).toNat)
  case atStart => exact ⟨k0, Nat.le_refl _, hk0, rfl, by show _ = _; rw [decide_eq_true (Nat.sub_self k0)]; exact hR, Below.refl _ _⟩
  case round =>
    obtain ⟨k, hk1, hk2, rfl, HK, HB⟩ := hrel
    clear hR
    have HTw : Hid (PcT a wr) := HT.out.below HB.out
    by_cases hlt : k < s.size
    · cases hr : asRead s k
      · have HR : Hid (k = R) := (xnameE_stop hlt (by rw [hr, Bool.and_false])).symm.trans HK.out
        have hv : wr.cell? ⟨0, 0, none⟩ = some (errV a) := HTw.out.2
        have HG := signAt_no s k a wr hlt (by omega) HTw.out hr
        clear hr HK
        go_wp2_with fail
        refine HG.mono ?_
        rintro e w1 ⟨rfl, b1⟩
        have hv1 := keep_cell b1 hv
        have B1 : Hid (Below w.heap.size w w1) := below_from HB.out b1
        clear HG hv b1
        go_wp2_with fail
        refine (is_same a _).mono ?_
        rintro e w2 ⟨rfl, rfl⟩
        by_cases hkk : k = k0
        · have g : ((k : Int) == (k0 : Int)) = true := by rw [hkk]; simp
          have hb2 := B1.out
          clear B1
          go_wp2_with fail
          go_ret2
          exact ⟨ret_si (by rw [← HR.out, hkk, extract_none]) (by rw [← HR.out, hkk]), hb2⟩
        · have g : ((k : Int) == (k0 : Int)) = false := by rw [beq_eq_false_iff_ne]; omega
          have hb2 := B1.out
          clear B1
          have q1 : (k0 : Int) ≤ (k : Int) := by omega
          have q2 : (k : Int) ≤ (s.size : Int) := by omega
          go_wp2_with fail
          go_ret2
          exact ⟨ret_si (by rw [← HR.out]) (by rw [← HR.out]), hb2⟩
      · have hv : wr.cell? ⟨0, 0, none⟩ = some (errV a) := HTw.out.2
        have HG := signAt_yes s k a wr hlt (by omega) HTw.out hr
        have hm := getS_many s k hlt
        have HGo : Hid (stayB (decide (k - k0 = 0)) ((getS s k).1 : Int) = true → xnameE s false (k + (getS s k).2) = R) := fun h => (xnameE_go hlt (by rw [h, hr]; rfl)).symm.trans HK.out
        have HSt : Hid (stayB (decide (k - k0 = 0)) ((getS s k).1 : Int) = false → k = R) := fun h => (xnameE_stop hlt (by rw [h]; rfl)).symm.trans HK.out
        have HM := implMayStand ((getS s k).1 : Int) (k - k0)
        rw [show ((k - k0 : Nat) : Int) = (k : Int) - (k0 : Int) by omega] at HM
        clear hr HK
        generalize (getS s k).1 = n at *
        generalize (getS s k).2 = m at *
        have q0 : IntKind.i64.wrap ((k : Int) - (k0 : Int)) = (k : Int) - (k0 : Int) := IntWalk.i64_in _ (by omega)
        go_wp2_with fail
        refine HG.mono ?_
        rintro e w1 ⟨rfl, b1⟩
        have hv1 := keep_cell b1 hv
        have B1 : Hid (Below w.heap.size w w1) := below_from HB.out b1
        clear HG hv b1
        go_wp2_with fail
        refine (is_nil a _).mono ?_
        rintro e w2 ⟨rfl, rfl⟩
        go_wp2_with fail
        refine (HM _).mono ?_
        rintro e w3 ⟨rfl, b3⟩
        have B3 : Hid (Below w.heap.size w w3) := below_from B1.out b3
        clear B1 b3 HM hv1
        cases hst : stayB (decide (k - k0 = 0)) (n : Int)
        · have HR : Hid (k = R) := HSt.out hst
          clear hst HSt HGo
          by_cases hkk : k = k0
          · have g : ((k : Int) == (k0 : Int)) = true := by rw [hkk]; simp
            have hb2 := B3.out
            clear B3
            go_wp2_with fail
            go_ret2
            exact ⟨ret_si (by rw [← HR.out, hkk, extract_none]) (by rw [← HR.out, hkk]), hb2⟩
          · have g : ((k : Int) == (k0 : Int)) = false := by rw [beq_eq_false_iff_ne]; omega
            have hb2 := B3.out
            clear B3
            have q1 : (k0 : Int) ≤ (k : Int) := by omega
            have q2 : (k : Int) ≤ (s.size : Int) := by omega
            go_wp2_with fail
            go_ret2
            exact ⟨ret_si (by rw [← HR.out]) (by rw [← HR.out]), hb2⟩
        · have HR := HGo.out hst
          clear hst HSt HGo
          go_wp2_with fail
          go_roundw
          case rel => exact ⟨k + m, by omega, by omega, rfl, by show _ = _; rw [decide_eq_false (by omega)]; exact HR, B3⟩
          case measure => simp [intOf]; omega
    · have HR : Hid (k = R) := (xnameE_end hlt).symm.trans HK.out
      have hv : wr.cell? ⟨0, 0, none⟩ = some (errV a) := HTw.out.2
      have HG := signAt_out s (k : Int) a wr (by omega) HTw.out.2
      clear HK
      go_wp2_with fail
      refine HG.mono ?_
      rintro e w1 ⟨rfl, b1⟩
      have hv1 := keep_cell b1 hv
      have B1 : Hid (Below w.heap.size w w1) := below_from HB.out b1
      clear HG hv b1
      go_wp2_with fail
      refine (is_same a _).mono ?_
      rintro e w2 ⟨rfl, rfl⟩
      by_cases hkk : k = k0
      · have g : ((k : Int) == (k0 : Int)) = true := by rw [hkk]; simp
        have hb2 := B1.out
        clear B1
        go_wp2_with fail
        go_ret2
        exact ⟨ret_si (by rw [← HR.out, hkk, extract_none]) (by rw [← HR.out, hkk]), hb2⟩
      · have g : ((k : Int) == (k0 : Int)) = false := by rw [beq_eq_false_iff_ne]; omega
        have hb2 := B1.out
        clear B1
        have q1 : (k0 : Int) ≤ (k : Int) := by omega
        have q2 : (k : Int) ≤ (s.size : Int) := by omega
        go_wp2_with fail
        go_ret2
        exact ⟨ret_si (by rw [← HR.out]) (by rw [← HR.out]), hb2⟩

theorem implXmlName (s : ByteArray) (i : Int) (a : Addr) (w : World) (hs : s.size ≤ 1073741824) (hT : PcT a w) :
    Calls Tryd.prog 9 #[.string s, .int .i64 i] w fun e w' => e = .returned (.tuple #[.string (xnS s i), .int .i64 (xnI s i)]) ∧ Below w.heap.size w w' := by
  unfold xnS xnI
  by_cases h : 0 ≤ i ∧ i ≤ s.size
  · rw [if_pos h, if_pos h]
    have C := xmlName_in s i.toNat a w (by omega) hs hT
    rw [show ((i.toNat : Nat) : Int) = i by omega] at C
    exact C
  · rw [if_neg h, if_neg h]
    exact xmlName_out s i a w (by omega) hT

end Go.Proofs.YtfbnhjogkjbcbaaDoor.Sg
