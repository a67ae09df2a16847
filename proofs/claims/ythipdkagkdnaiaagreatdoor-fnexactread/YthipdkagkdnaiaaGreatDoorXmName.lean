/- Contract of the model's XmlName. -/
import Derived.Test.YthipdkagkdnaiaaGreatDoorXmP
import Derived.Test.YthipdkagkdnaiaaGreatDoorMRD09
import Derived.Test.YthipdkagkdnaiaaGreatDoorSgGetS
import Derived.Test.YthipdkagkdnaiaaGreatDoorKdModel
import Derived.Deep.Cut
import Derived.Deep.CutRange
import Derived.Lib.QuietBelow
import Derived.BigQuiet
import Derived.Laws.DeepStrings4
namespace Go.Proofs.YthipdkagkdnaiaaGreatDoor.Sg
open Go.ChangeShapes Go.WideShapes Go.ChangeAt Go.RowKit

set_option maxHeartbeats 1000000 in
theorem specXmlName_out (s : ByteArray) (at' : Int) (w : World) (h : at' < 0 ∨ (s.size : Int) < at') :
    Calls Tryz.prog 37 #[.string s, .int .i64 at'] w fun e w' => e = .returned (.tuple #[.string ⟨#[]⟩, .int .i64 at']) ∧ w' = w := by
  by_cases h0 : at' < 0
  · have g0 : decide (at' < 0) = true := decide_eq_true h0
    clear h
    go_enter Tryz.func37, Tryz.ntmps37
    go_wp2_with fail
    go_ret2
    exact ⟨rfl, rfl⟩
  · have g0 : decide (at' < 0) = false := decide_eq_false h0
    have g1 : decide ((s.size : Int) < at') = true := decide_eq_true (by omega)
    clear h
    go_enter Tryz.func37, Tryz.ntmps37
    go_wp2_with fail
    go_ret2
    exact ⟨rfl, rfl⟩

set_option maxHeartbeats 4000000 in
theorem specXmlName_in (s : ByteArray) (a : Nat) (w : World) (ha : a ≤ s.size) (hs : s.size ≤ 17592186044416) :
    Calls Tryz.prog 37 #[.string s, .int .i64 (a : Int)] w fun e w' => e = .returned (.tuple #[.string (s.extract a (xnameE s true a)), .int .i64 (xnameE s true a : Int)]) ∧ Below w.heap.size w w' := by
  obtain ⟨R, HR⟩ : ∃ R, Hid (xnameE s true a = R) := ⟨_, rfl⟩
  rw [HR.out]
  have g0 : decide ((a : Int) < 0) = false := decide_eq_false (by omega)
  have g1 : decide ((s.size : Int) < (a : Int)) = false := decide_eq_false (by omega)
  have g2 : decide (s.size < a) = false := decide_eq_false (by omega)
  go_enter Tryz.func37, Tryz.ntmps37
  go_wp2_with fail
  go_loopw [6] (fun i wr => ∃ k : Nat, a ≤ k ∧ k ≤ s.size ∧ i = .int .i64 (k : Int) ∧ Hid (xnameE s (decide (k = a)) k = R) ∧ Hid (Below w.heap.size w wr)) (fun i _ => s.size - (intOf i).toNat)
  case atStart => exact ⟨a, Nat.le_refl _, ha, rfl, by rw [decide_eq_true rfl]; exact HR, Below.refl _ _⟩
  case round =>
    obtain ⟨k, hak, hk, rfl, HK, HB⟩ := hrel
    have q0 : (0 : Int) ≤ (a : Int) := by omega
    have q1 : (a : Int) ≤ (k : Int) := by omega
    have q2 : (k : Int) ≤ (s.size : Int) := by omega
    by_cases hlt : k < s.size
    · have hm := getS_many s k hlt
      have hgo := xnameE_go (s := s) (f := decide (k = a)) hlt
      have hst := xnameE_stop (s := s) (f := decide (k = a)) hlt
      have har : asRead s k = ((putS ((getS s k).1 : Int)).toList == (s.extract k (k + (getS s k).2)).toList) := rfl
      have Hg := fun W => specGet_in s k W hlt (by omega)
      clear g0 g1 g2 HR
      generalize hn : (getS s k).1 = n at *
      generalize hmm : (getS s k).2 = m at *
      clear hn hmm
      have q3 : IntKind.i64.wrap ((k : Int) + (m : Int)) = (k : Int) + (m : Int) := IntWalk.i64_in _ (by omega)
      have q4 : (k : Int) ≤ (k : Int) + (m : Int) := by omega
      have q5 : (k : Int) + (m : Int) ≤ (s.size : Int) := by omega
      have q6 : (0 : Int) ≤ (k : Int) + (m : Int) := by omega
      have q7 : ((k : Int) + (m : Int)).toNat = k + m := by omega
      have q8 : (0 : Int) ≤ (k : Int) := by omega
      go_wp2_with fail
      refine (Hg _).mono ?_
      rintro e w1 ⟨rfl, rfl⟩
      clear Hg
      go_upto_region 6 with fail
      have HF := fun W => specIsFirst (n : Int) W
      have HN := fun W => specIsNext (n : Int) W
      have HP := fun W => specPutSign (n : Int) W
      have HBB : Hid (∀ wx : World, Below w1.heap.size w1 wx → Below w.heap.size w wx) := fun wx h => below_from HB.out h
      by_cases hka : k = a
      · have ge : ((k : Int) == (a : Int)) = true := by rw [hka]; simp
        have e1 : decide (k = a) = true := decide_eq_true hka
        rw [e1] at HK hgo hst
        have Hka : Hid (k = a) := hka
        clear hka e1
        cases hf : firstB (n : Int)
        · rw [hf] at HF
          obtain rfl : k = R := (hst (by show (firstB (n : Int) && asRead s k) = _; rw [hf]; rfl)).symm.trans HK.out
          clear hgo hst har HK
          have cF := fun d os => Calls.regrown_of (w := w1) (HF (Sort.grow (redrawn w1 d) os))
          clear HF HN HP
          refine wp_region_quiet_below (by kernel_rfl) (by kernel_rfl) ?_
          repeat (go_big_quiet_step (first | exact cF _ _))
          refine wpQuiet_nil ?_
          intro _ hw'
          obtain ⟨⟨dq, osq⟩, hw''⟩ := hw'
          subst hw''
          have bfin := HBB.out _ (below_regrown w1 dq osq)
          generalize Sort.grow (redrawn w1 dq) osq = W at *
          go_wp2_with fail
          go_ret2
          exact ⟨rfl, bfin⟩
        · have hx := firstB_next hf
          rw [hf] at HF
          rw [hx] at HN
          cases hc : ((putS (n : Int)).toList == (s.extract k (k + m)).toList)
          · obtain rfl : k = R := (hst (by show (firstB (n : Int) && asRead s k) = _; rw [hf, har, hc]; rfl)).symm.trans HK.out
            clear hgo hst har HK
            have cF := fun d os => Calls.regrown_of (w := w1) (HF (Sort.grow (redrawn w1 d) os))
            have cN := fun d os => Calls.regrown_of (w := w1) (HN (Sort.grow (redrawn w1 d) os))
            have cP := fun d os => Calls.regrown_of (w := w1) (HP (Sort.grow (redrawn w1 d) os))
            clear HF HN HP
            refine wp_region_quiet_below (by kernel_rfl) (by kernel_rfl) ?_
            repeat (go_big_quiet_step (first | exact cF _ _ | exact cN _ _ | exact cP _ _))
            refine wpQuiet_nil ?_
            intro _ hw'
            obtain ⟨⟨dq, osq⟩, hw''⟩ := hw'
            subst hw''
            have bfin := HBB.out _ (below_regrown w1 dq osq)
            generalize Sort.grow (redrawn w1 dq) osq = W at *
            go_wp2_with fail
            go_ret2
            exact ⟨rfl, bfin⟩
          · have HK2 : Hid (xnameE s (decide (k + m = a)) (k + m) = R) := by
              show _ = _
              rw [decide_eq_false (by omega)]
              exact (hgo (by show (firstB (n : Int) && asRead s k) = _; rw [hf, har, hc]; rfl)).symm.trans HK.out
            clear hgo hst har HK
            have cF := fun d os => Calls.regrown_of (w := w1) (HF (Sort.grow (redrawn w1 d) os))
            have cN := fun d os => Calls.regrown_of (w := w1) (HN (Sort.grow (redrawn w1 d) os))
            have cP := fun d os => Calls.regrown_of (w := w1) (HP (Sort.grow (redrawn w1 d) os))
            clear HF HN HP
            refine wp_region_quiet_below (by kernel_rfl) (by kernel_rfl) ?_
            repeat (go_big_quiet_step (first | exact cF _ _ | exact cN _ _ | exact cP _ _))
            refine wpQuiet_nil ?_
            intro _ hw'
            obtain ⟨⟨dq, osq⟩, hw''⟩ := hw'
            subst hw''
            have bfin := HBB.out _ (below_regrown w1 dq osq)
            generalize Sort.grow (redrawn w1 dq) osq = W at *
            go_wp2_with fail
            go_roundw
            case rel => exact ⟨k + m, by omega, by omega, by go_num, HK2, bfin⟩
            case measure => simp [intOf]; omega
      · have ge : ((k : Int) == (a : Int)) = false := by rw [beq_eq_false_iff_ne]; omega
        have e1 : decide (k = a) = false := decide_eq_false hka
        rw [e1] at HK hgo hst
        clear e1
        cases hf : nextB (n : Int)
        · rw [hf] at HN
          obtain rfl : k = R := (hst (by show (nextB (n : Int) && asRead s k) = _; rw [hf]; rfl)).symm.trans HK.out
          clear hgo hst har HK
          have cN := fun d os => Calls.regrown_of (w := w1) (HN (Sort.grow (redrawn w1 d) os))
          clear HF HN HP
          refine wp_region_quiet_below (by kernel_rfl) (by kernel_rfl) ?_
          repeat (go_big_quiet_step (first | exact cN _ _))
          refine wpQuiet_nil ?_
          intro _ hw'
          obtain ⟨⟨dq, osq⟩, hw''⟩ := hw'
          subst hw''
          have bfin := HBB.out _ (below_regrown w1 dq osq)
          generalize Sort.grow (redrawn w1 dq) osq = W at *
          go_wp2_with fail
          go_ret2
          exact ⟨rfl, bfin⟩
        · rw [hf] at HN
          cases hc : ((putS (n : Int)).toList == (s.extract k (k + m)).toList)
          · obtain rfl : k = R := (hst (by show (nextB (n : Int) && asRead s k) = _; rw [hf, har, hc]; rfl)).symm.trans HK.out
            clear hgo hst har HK
            have cN := fun d os => Calls.regrown_of (w := w1) (HN (Sort.grow (redrawn w1 d) os))
            have cP := fun d os => Calls.regrown_of (w := w1) (HP (Sort.grow (redrawn w1 d) os))
            clear HF HN HP
            refine wp_region_quiet_below (by kernel_rfl) (by kernel_rfl) ?_
            repeat (go_big_quiet_step (first | exact cN _ _ | exact cP _ _))
            refine wpQuiet_nil ?_
            intro _ hw'
            obtain ⟨⟨dq, osq⟩, hw''⟩ := hw'
            subst hw''
            have bfin := HBB.out _ (below_regrown w1 dq osq)
            generalize Sort.grow (redrawn w1 dq) osq = W at *
            go_wp2_with fail
            go_ret2
            exact ⟨rfl, bfin⟩
          · have HK2 : Hid (xnameE s (decide (k + m = a)) (k + m) = R) := by
              show _ = _
              rw [decide_eq_false (by omega)]
              exact (hgo (by show (nextB (n : Int) && asRead s k) = _; rw [hf, har, hc]; rfl)).symm.trans HK.out
            clear hgo hst har HK
            have cN := fun d os => Calls.regrown_of (w := w1) (HN (Sort.grow (redrawn w1 d) os))
            have cP := fun d os => Calls.regrown_of (w := w1) (HP (Sort.grow (redrawn w1 d) os))
            clear HF HN HP
            refine wp_region_quiet_below (by kernel_rfl) (by kernel_rfl) ?_
            repeat (go_big_quiet_step (first | exact cN _ _ | exact cP _ _))
            refine wpQuiet_nil ?_
            intro _ hw'
            obtain ⟨⟨dq, osq⟩, hw''⟩ := hw'
            subst hw''
            have bfin := HBB.out _ (below_regrown w1 dq osq)
            generalize Sort.grow (redrawn w1 dq) osq = W at *
            go_wp2_with fail
            go_roundw
            case rel => exact ⟨k + m, by omega, by omega, by go_num, HK2, bfin⟩
            case measure => simp [intOf]; omega
    · obtain rfl : k = R := (xnameE_end hlt).symm.trans HK.out
      have q3 : decide ((k : Int) < (s.size : Int)) = false := decide_eq_false (by omega)
      clear HK HR
      go_wp2_with fail
      go_ret2
      exact ⟨rfl, HB.out⟩

end Go.Proofs.YthipdkagkdnaiaaGreatDoor.Sg
