/- The walk of the law of chapter 1. Whatever bytes come (more than 2^20 are let go by the law itself): the program's functions of chapter 1 answer at what is drawn as the model's do; signs that are written are read as they were; what is clean is clean again. -/
import Derived.Test.YtidfbnhikkckmaaDoorSgLaid
import Derived.Test.YtidfbnhikkckmaaDoorSgLaw
import Derived.Test.YtidfbnhikkckmaaDoorSgBack
namespace Go.Proofs.YtidfbnhikkckmaaDoor.fnSigns
open Go.ChangeShapes Go.WideShapes Go.ChangeAt Go.RowKit Sg

set_option maxHeartbeats 8000000 in
set_option maxRecDepth 100000 in
theorem walk (w : World) (n : Nat) (a : Option Addr) (cap : Nat) (hcode : Sg.Code w.heap.size w a n) (_hm : n ≤ 9223372036854775807) (hT : Lib.Utf8Tabs 0 1 w) :
    Calls Tryd.prog 3 #[.slice a n cap] w fun e w' => e = .returned (.bool true) ∧ Below w.heap.size w w' := by
  have Hc : Hid (Sg.Code w.heap.size w a n) := hcode
  have HT : Hid (Lib.Utf8Tabs 0 1 w) := hT
  clear hcode hT
  by_cases hbig : (1048576 : Int) < (n : Int)
  · have hd : decide ((1048576 : Int) < (n : Int)) = true := by simpa using hbig
    have Hd : Hid (decide ((1048576 : Int) < (n : Int)) = true) := hd
    clear hd
    go_enter Tryd.func3, Tryd.ntmps3
    go_wp2_with fail
    refine (big_any a n cap _).mono ?_
    rintro e w1 ⟨rfl, rfl⟩
    rw [Hd.out]
    go_wp2_with fail
    go_ret
    exact ⟨rfl, Below.refl _ _⟩
  have hn : n ≤ 1048576 := by omega
  have hd : decide ((1048576 : Int) < (n : Int)) = false := by simpa using hbig
  have Hd : Hid (decide ((1048576 : Int) < (n : Int)) = false) := hd
  clear hd hbig
  go_enter Tryd.func3, Tryd.ntmps3
  go_wp2_with fail
  refine (big_any a n cap _).mono ?_
  rintro e w1 ⟨rfl, rfl⟩
  rw [Hd.out]
  clear Hd
  go_wp2_with fail
  refine (drawSignText a n cap _ Hc.out hn).mono ?_
  rintro e w1 ⟨zs, al, cl, hzl, rfl, i1, b1⟩
  have K1 : Keep _ a n al zs w1 := ⟨b1, (Hc.out.below b1).raise b1.size, Utf8Tabs_below HT.out b1, i1⟩
  clear i1 b1 Hc HT
  go_wp2_with fail
  refine (implSignText zs al cl _ K1.2.2.2 (by omega)).mono ?_
  rintro e w2 ⟨rfl, b2⟩
  have K2 := K1.step b2
  clear K1 b2
  go_wp2_with fail
  refine (drawPutSign a n cap _ K2.2.1 hn).mono ?_
  rintro e w3 ⟨x, rfl, b3⟩
  have K3 := K2.step b3
  clear K2 b3
  go_wp2_with fail
  refine (drawGetSign a n cap _ K3.2.1 hn).mono ?_
  rintro e w4 ⟨y, k, hy, rfl, b4⟩
  have K4 := K3.step b4
  clear K3 b4
  go_wp2_with fail
  refine (implGet_any y k _ (by omega) K4.2.2.1).mono ?_
  rintro e w5 ⟨rfl, b5⟩
  have K5 := K4.step b5
  clear K4 b5
  go_wp2_with fail
  refine (specGet_any y k _ (by omega)).mono ?_
  rintro e w6 ⟨rfl, rfl⟩
  have hgm := getV_many y k
  generalize getV y k = G at *
  obtain ⟨g1, g2⟩ := G
  have Hgm : Hid (¬ k < 0 → ¬ (y.size : Int) ≤ k → 1 ≤ g2) := hgm
  clear hgm
  go_wp2_with fail
  refine (drawClean a n cap _ K5.2.1 hn).mono ?_
  rintro e w7 ⟨t, ht, rfl, b7⟩
  have K7 := K5.step b7
  clear K5 b7
  go_wp2_with fail
  refine (implClean t _ (by omega) K7.2.2.1).mono ?_
  rintro e w8 ⟨rfl, b8⟩
  have K8 := K7.step b8
  clear K7 b8
  go_wp2_with fail
  refine (drawSignOk a n cap _ K8.2.1 hn).mono ?_
  rintro e w9 ⟨o, rfl, b9⟩
  have K9 := K8.step b9
  clear K8 b9
  go_wp2_with fail
  refine (drawCleanOk a n cap _ K9.2.1 hn).mono ?_
  rintro e w10 ⟨z, hz, rfl, b10⟩
  have K10 := K9.step b10
  clear K9 b10
  go_wp2_with fail
  refine (drawSigns a n cap _ K10.2.1 hn).mono ?_
  rintro e w11 ⟨u, hu, rfl, b11⟩
  have K11 := K10.step b11
  clear K10 b11
  have q1 : ((textS zs).toList == (textS zs).toList) = true := by simp
  have q2 : ((putS x).toList == (putS x).toList) = true := by simp
  have q3 : (g1 != g1) = false := by simp
  have q4 : (g2 != g2) = false := by simp
  have q5 : ((cleanS t).toList == (cleanS t).toList) = true := by simp
  have q6 : (okB o != okB o) = false := by simp
  have q7 : (cleanB z != cleanB z) = false := by simp
  go_wp2_with fail
  refine (specSignText zs al cl _ K11.2.2.2 (by omega)).mono ?_
  rintro e w12 ⟨rfl, b12⟩
  have K12 := K11.step b12
  clear K11 b12
  go_wp2_with fail
  refine (implPutSign x _).mono ?_
  rintro e w13 ⟨rfl, rfl⟩
  go_wp2_with fail
  refine (specPutSign x _).mono ?_
  rintro e w14 ⟨rfl, b14⟩
  have K14 := K12.step b14
  clear K12 b14
  go_wp2_with fail
  refine (specClean t _ (by omega)).mono ?_
  rintro e w15 ⟨rfl, b15⟩
  have K15 := K14.step b15
  clear K14 b15
  go_wp2_with fail
  refine (implSignOk o _).mono ?_
  rintro e w16 ⟨rfl, rfl⟩
  go_wp2_with fail
  refine (specSignOk o _).mono ?_
  rintro e w17 ⟨rfl, rfl⟩
  go_wp2_with fail
  refine (implCleanOk z _ (by omega) K15.2.2.1).mono ?_
  rintro e w18 ⟨rfl, b18⟩
  have K18 := K15.step b18
  clear K15 b18
  go_wp2_with fail
  refine (specCleanOk z _ (by omega)).mono ?_
  rintro e w19 ⟨rfl, b19⟩
  have K19 := K18.step b19
  clear K18 b19
  go_wp2_with fail
  refine (implSigns u _ (by omega) K19.2.2.1).mono ?_
  rintro e w20 ⟨a20, c20, rfl, o20, b20⟩
  have K20 := K19.step b20
  clear K19 b20
  go_wp2_with fail
  refine (specSigns u _ (by omega)).mono ?_
  rintro e w21 ⟨a21, c21, rfl, o21, b21⟩
  have K21 := K20.step b21
  have o20' := o20.below (Nat.le_refl _) b21
  clear K20 b21 o20
  have hul := signsL_length u
  go_wp2_with fail
  refine (sameInts_same (signsL u) _ _ _ _ _ o20'.ints o21.ints (by omega)).mono ?_
  rintro e w22 ⟨rfl, b22⟩
  have K22 := K21.step b22
  clear K21 b22 o20' o21 q1 q2 q3 q4 q6 q7 hul
  have hts : (textS zs).size ≤ 4 * zs.length := by
    show (sgBytes zs).toArray.size ≤ _
    have := sgBytes_length zs
    simpa using this
  go_wp2_with fail
  refine (implSigns (textS zs) _ (by omega) K22.2.2.1).mono ?_
  rintro e w23 ⟨a23, c23, rfl, o23, b23⟩
  have K23 := K22.step b23
  clear K22 b23
  have hst := signs_text zs
  have hlen : (signsL (textS zs)).length = zs.length := by rw [hst]; simp
  have i23 := o23.ints
  rw [hst] at i23
  have I23 : Hid (Ints w23 a23 (zs.map fix)) := i23
  rw [hlen]
  clear hst hlen o23 i23
  have hne : ((zs.length : Int) != (zs.length : Int)) = false := by simp
  go_wp2_with fail
  go_loopw [18] (fun iv wr => ∃ i : Nat, i ≤ zs.length ∧ iv = .int .i64 i ∧ Below w23.heap.size w23 wr) (fun iv _ => zs.length - (intOf iv).toNat)
  case atStart => exact ⟨0, Nat.zero_le _, rfl, Below.refl _ _⟩
  case round =>
    obtain ⟨i, hi, rfl, hbel⟩ := hrel
    by_cases hlt : i < zs.length
    · rcases K23.2.2.2 with h | ⟨bl, ol, rfl, hbl, hcl⟩
      · rw [h] at hlt
        simp at hlt
      rcases I23.out with h | ⟨bb, ob, rfl, hbb, hcb⟩
      · have : zs = [] := by simpa using h
        rw [this] at hlt
        simp at hlt
      have h1 : wr.cell? ⟨bl, ol + i, none⟩ = some (.int .i64 (zs.getD i 0)) := (hbel.cell (by exact hbl)).trans (hcl i hlt)
      have h2 : wr.cell? ⟨bb, ob + i, none⟩ = some (.int .i64 (fix (zs.getD i 0))) := by
        refine (hbel.cell (by exact hbb)).trans ((hcb i (by simpa using hlt)).trans ?_)
        rw [List.getD_eq_getElem?_getD, List.getElem?_map, List.getD_eq_getElem?_getD, List.getElem?_eq_getElem hlt]
        rfl
      generalize zs.getD i 0 = v at h1 h2
      have hlt' : (i : Int) < (zs.length : Int) := by omega
      clear hcl hcb K23 I23
      cases hv : okB v
      · have hf : fix v = 65533 := by unfold fix; rw [if_neg (by simp [hv])]
        rw [hf] at h2
        have Hv : Hid (∀ w : World, Calls Tryd.prog 24 #[.int .i64 v] w fun e w' => e = .returned (.bool false) ∧ w' = w) := by
          intro w
          have h := implSignOk v w
          rw [hv] at h
          exact h
        clear hf hv
        go_wp2_with fail
        go_quiet ((go_at_call 24; exact Calls.quiet_of_same (Hv.out _)))
        go_wp2_with fail
        go_roundw
        case rel => exact ⟨i + 1, by omega, by go_num, below_draws hbel _⟩
        case measure => simp [intOf]; omega
      · have hf : fix v = v := by unfold fix; rw [if_pos hv]
        rw [hf] at h2
        have hvv : (v != v) = false := by simp
        have Hv : Hid (∀ w : World, Calls Tryd.prog 24 #[.int .i64 v] w fun e w' => e = .returned (.bool true) ∧ w' = w) := by
          intro w
          have h := implSignOk v w
          rw [hv] at h
          exact h
        clear hf hv
        go_wp2_with fail
        go_quiet ((go_at_call 24; exact Calls.quiet_of_same (Hv.out _)))
        go_wp2_with fail
        go_roundw
        case rel => exact ⟨i + 1, by omega, by go_num, below_draws hbel _⟩
        case measure => simp [intOf]; omega
    · have hd : decide ((i : Int) < (zs.length : Int)) = false := by simp; omega
      have K24 := K23.step hbel
      clear K23 I23 hbel
      have hcs : (cleanS t).size ≤ 17592186044416 := by
        have h1 := sgBytes_length (signsL t)
        have h2 := signsL_length t
        show (sgBytes (signsL t)).toArray.size ≤ _
        have h3 : (sgBytes (signsL t)).toArray.size = (sgBytes (signsL t)).length := by simp
        omega
      have Hc1 : Hid (cleanB (textS zs) = true) := cleanB_text zs
      have Hc2 : Hid (cleanB (cleanS t) = true) := cleanB_clean t
      have Hc3 : Hid (cleanS (cleanS t) = cleanS t) := clean_clean t
      go_wp2_with fail
      refine (implCleanOk (textS zs) _ (by omega) K24.2.2.1).mono ?_
      rintro e w25 ⟨rfl, b25⟩
      rw [Hc1.out]
      have K25 := K24.step b25
      clear K24 b25
      go_wp2_with fail
      refine (implCleanOk (cleanS t) _ hcs K25.2.2.1).mono ?_
      rintro e w26 ⟨rfl, b26⟩
      rw [Hc2.out]
      have K26 := K25.step b26
      clear K25 b26
      go_wp2_with fail
      refine (implClean (cleanS t) _ hcs K26.2.2.1).mono ?_
      rintro e w27 ⟨rfl, b27⟩
      rw [Hc3.out]
      have K27 := K26.step b27
      clear K26 b27
      by_cases k0 : k < 0
      · go_wp2_with fail
        go_ret
        exact ⟨rfl, K27.1⟩
      · have dk0 : decide (k < 0) = false := by simpa using k0
        by_cases k1 : (y.size : Int) ≤ k
        · go_wp2_with fail
          go_ret
          exact ⟨rfl, K27.1⟩
        · have dk1 : decide ((y.size : Int) ≤ k) = false := by simpa using k1
          have hg2 := Hgm.out (by omega) (by omega)
          go_wp2_with fail
          go_ret
          exact ⟨rfl, K27.1⟩

end Go.Proofs.YtidfbnhikkckmaaDoor.fnSigns
