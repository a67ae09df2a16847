/- Contract of the laws' look at marks of elements. -/
import Derived.Test.YthipdkagkdnaiaaGreatDoorMRD13
import Derived.Test.YthipdkagkdnaiaaGreatDoorMRD15
import Derived.Deep.RegionHeld3
namespace Go.Proofs.YthipdkagkdnaiaaGreatDoor.Sg
open Go.ChangeShapes Go.WideShapes Go.ChangeAt Go.RowKit

set_option maxRecDepth 20000 in
set_option maxHeartbeats 8000000 in
theorem heldElS_step (m : Nat) (IH : ∀ (l : List ElB) (k : Nat) (a : Option Addr) (N cap B : Nat) (w : World), cntEs l < m → KidsIn (QP (B ≤ ·)) (B ≤ ·) w a (mkEs l k) → l.length = N → k + cntEs l ≤ 549755813888 → Calls Tryz.prog 15 #[.slice a N cap, .int .i64 (k : Int)] w fun e w' => e = .returned (.int .i64 ((k + cntEs l : Nat) : Int)) ∧ Below w.heap.size w w')
    (l : List ElB) (k : Nat) (a : Option Addr) (N cap B : Nat) (w : World) (hm : cntEs l < m + 1) (hkid : KidsIn (QP (B ≤ ·)) (B ≤ ·) w a (mkEs l k)) (hN : l.length = N) (hk : k + cntEs l ≤ 549755813888) :
    Calls Tryz.prog 15 #[.slice a N cap, .int .i64 (k : Int)] w fun e w' => e = .returned (.int .i64 ((k + cntEs l : Nat) : Int)) ∧ Below w.heap.size w w' := by
  have hlen := cntEs_len l
  have HK0 : Hid (KidsIn (QP (B ≤ ·)) (B ≤ ·) w a (mkEs l k)) := hkid
  have HN : Hid (l.length = N) := hN
  have HI : Hid (∀ (l : List ElB) (k : Nat) (a : Option Addr) (N cap B : Nat) (w : World), cntEs l < m → KidsIn (QP (B ≤ ·)) (B ≤ ·) w a (mkEs l k) → l.length = N → k + cntEs l ≤ 549755813888 → Calls Tryz.prog 15 #[.slice a N cap, .int .i64 (k : Int)] w fun e w' => e = .returned (.int .i64 ((k + cntEs l : Nat) : Int)) ∧ Below w.heap.size w w') := IH
  have hNb : N ≤ 549755813888 := by omega
  clear hkid hN IH
  go_enter Tryz.func15, Tryz.ntmps15
  go_wp2_with fail
  go_loopw [1, 5] (fun kv iv wr => ∃ i : Nat, i ≤ N ∧ iv = .int .i64 (i : Int) ∧ kv = .int .i64 ((k + cntEs (l.take i) : Nat) : Int) ∧ Hid (Below w.heap.size w wr)) (fun _ iv _ => N - (intOf iv).toNat)
  case atStart => exact ⟨0, Nat.zero_le _, rfl, rfl, Below.refl _ _⟩
  case round =>
    obtain ⟨i, hi, rfl, rfl, HB⟩ := hrel
    by_cases hlt : i < N
    · have hil : i < l.length := by rw [HN.out]; exact hlt
      have hil2 : i < (mkEs l k).length := by rw [mkEs_length]; exact hil
      obtain ⟨hc1, hc2⟩ := cntEs_take l i hil
      rcases HK0.out.keep (QP.lies _) HB.out with h | ⟨b, off, rfl, _, hc⟩
      · rw [mkEs_length] at h
        omega
      have hE := hc.get i hil2
      rw [mkEs_get l k i hil hil2] at hE
      obtain ⟨K, HK⟩ : ∃ K, Hid (k + cntEs (l.take i) = K) := ⟨_, rfl⟩
      rw [HK.out] at hE ⊢
      generalize l[i]'hil = el at hE hc1 hc2
      obtain ⟨kd, sp, nm, ats, tx, ks⟩ := el
      rw [cntE_ats] at hc1 hc2
      rw [mkE] at hE
      unfold ElIn at hE
      obtain ⟨c0, c1, c2, ⟨av, c3, hq⟩, c4, ka, kc, c5, hkk⟩ := hE
      obtain ⟨sa, sc, rfl, _, hA, _⟩ := hq
      rw [markL_length] at c3
      rw [mkEs_length] at c5
      obtain ⟨M, HMM⟩ : ∃ M, Hid (ats.length = M) := ⟨_, rfl⟩
      obtain ⟨Q, HQQ⟩ : ∃ Q, Hid (ks.length = Q) := ⟨_, rfl⟩
      have eK := HK.out
      obtain ⟨K1, HK1⟩ : ∃ K1, Hid (K + 3 + 2 * ats.length = K1) := ⟨_, rfl⟩
      have eK1 := HK1.out
      have hK1b : K1 + 1 + cntEs ks ≤ 549755813888 := by omega
      have hMb : M ≤ 549755813888 := by have := HMM.out; omega
      have hQb : Q ≤ 549755813888 := by have := HQQ.out; have := cntEs_len ks; omega
      have hKb : K ≤ 549755813888 := by omega
      have e4 : K + 4 + 2 * ats.length = K1 + 1 := by omega
      rw [e4] at hkk
      rw [eK1] at c4
      have hcm : cntEs ks < m := by omega
      have HEnd : Hid (((K1 + 1 + cntEs ks : Nat) : Int) = ((k + cntEs (l.take (i + 1)) : Nat) : Int)) := by
        show _ = _
        have : K1 + 1 + cntEs ks = k + cntEs (l.take (i + 1)) := by omega
        rw [this]
      rw [HMM.out] at c3 hA
      rw [HQQ.out] at c5
      have Hk1 : Hid (∀ W : World, Calls Tryz.prog 36 #[.int .i64 ((K : Int) + 1 + 1)] W fun e w' => e = .returned (.string (markB (K + 2))) ∧ Below W.heap.size W w') := fun W => markText_any (K + 2) W (by omega)
      have Hk3 : Hid (∀ W : World, Calls Tryz.prog 36 #[.int .i64 (K1 : Int)] W fun e w' => e = .returned (.string (markB K1)) ∧ Below W.heap.size W w') := fun W => markText_any K1 W (by omega)
      have Hat2 : Hid (∀ W : World, Below wr.heap.size wr W → Calls Tryz.prog 26 #[.slice sa M sc, .int .i64 ((K : Int) + 1 + 1 + 1)] W fun e w' => e = .returned (.int .i64 (K1 : Int)) ∧ Below W.heap.size W w') := fun W hW => by
        have h := heldAttrS_any M (K + 3) sa sc W (hA.below hW) (by omega) (by omega)
        rw [← HMM.out, eK1, HMM.out] at h
        exact h
      have HKi : Hid (∀ W : World, Below wr.heap.size wr W → Calls Tryz.prog 15 #[.slice ka Q kc, .int .i64 ((K1 : Int) + 1)] W fun e w' => e = .returned (.int .i64 ((K1 + 1 + cntEs ks : Nat) : Int)) ∧ Below W.heap.size W w') := fun W hW => HI.out ks (K1 + 1) ka Q kc B W hcm (KidsIn.keep (QP.lies _) hW hkk) HQQ.out (by omega)
      clear hc hc1 hc2 hA hkk eK eK1 e4 hcm hil2 HK HK1 HMM HQQ
      generalize cntEs ks = cn at *
      clear hil
      generalize markB (K + 2) = x at *
      generalize markB K1 = y at *
      have gx : (x.toList == x.toList) = true := by simp
      have gy : (y.toList == y.toList) = true := by simp
      have gK : ((K : Int) != (K : Int)) = false := by simp
      have gK2 : ((K : Int) + 1 != (K : Int) + 1) = false := by simp
      have k0 : (0 : Int) ≤ (i : Int) := by omega
      have k1 : (i : Int) < (N : Int) := by omega
      go_upto_region 10 with fail
      go_cut [37] from 6 to 67 (fun r wx => r = .bool false ∧ Below wr.heap.size wr wx)
      case first =>
        go_region_held3 (fun w' => w'.cell? ⟨b, off + i * 6 + 2, none⟩ = some (.string x)) (first | go_keep | exact keep_cell hb' (by assumption)) (first | (go_at_call 36; refine (Hk1.out _).mono ?_; rintro e w' ⟨rfl, hb'⟩))
        go_wp2_with fail
        go_meet
        case rel => exact ⟨rfl, ((Below.refl _ _).drew).trans hb'⟩
      case rest =>
        obtain ⟨rfl, hbx⟩ := hcut
        have d3 := keep_cell hbx c3
        have d4 := keep_cell hbx c4
        have d5 := keep_cell hbx c5
        have Hat3 := Hat2.out _ hbx
        have HX : Hid (Below wr.heap.size wr wc) := hbx
        clear c0 c1 c2 c3 c4 c5 Hat2 Hk1 hbx
        go_wp2_with fail
        refine Hat3.mono ?_
        rintro e w4 ⟨rfl, b4⟩
        have e4 := keep_cell b4 d4
        have e5 := keep_cell b4 d5
        have HX4 : Hid (Below wr.heap.size wr w4) := HX.out.trans (b4.mono HX.out.size)
        have gz : ¬ (K1 : Int) < 0 := by omega
        have gz' : decide ((K1 : Int) < 0) = false := decide_eq_false gz
        clear d3 d4 d5 Hat3 HX b4
        go_upto_region 16 with fail
        go_cut [56] from 6 to 67 (fun r wx => r = .bool false ∧ Below w4.heap.size w4 wx)
        case first =>
          go_region_held3 (fun w' => w'.cell? ⟨b, off + i * 6 + 4, none⟩ = some (.string y)) (first | go_keep | exact keep_cell hb' (by assumption)) (first | (go_at_call 36; refine (Hk3.out _).mono ?_; rintro e w' ⟨rfl, hb'⟩))
          go_wp2_with fail
          go_meet
          case rel => exact ⟨rfl, ((Below.refl _ _).drew).trans hb'⟩
        case rest =>
          obtain ⟨rfl, hby⟩ := hcut
          have g5 := keep_cell hby e5
          have HX9 : Hid (Below wr.heap.size wr wc) := HX4.out.trans (hby.mono HX4.out.size)
          have HI9 := HKi.out _ HX9.out
          have gw : ¬ ((K1 + 1 + cn : Nat) : Int) < 0 := by omega
          have gw' : decide (((K1 + 1 + cn : Nat) : Int) < 0) = false := decide_eq_false gw
          clear e4 e5 HX4 hby HKi Hk3
          go_wp2_with fail
          refine HI9.mono ?_
          rintro e w9 ⟨rfl, b9⟩
          have HBn : Hid (Below w.heap.size w w9) := HB.out.trans ((HX9.out.trans (b9.mono HX9.out.size)).mono HB.out.size)
          clear HI9 b9 HX9 g5
          rw [HEnd.out] at gw gw' ⊢
          go_wp2_with fail
          go_roundw
          case rel => exact ⟨i + 1, by omega, by go_num, rfl, HBn⟩
          case measure => simp [intOf]; omega
    · have hin : i = N := by omega
      have hfull : l.take i = l := List.take_of_length_le (by rw [HN.out]; omega)
      rw [hfull]
      have g2 : decide ((i : Int) < (N : Int)) = false := decide_eq_false (by omega)
      go_wp2_with fail
      go_ret
      exact ⟨rfl, HB.out⟩
theorem heldElS_all : ∀ (m : Nat) (l : List ElB) (k : Nat) (a : Option Addr) (N cap B : Nat) (w : World), cntEs l < m → KidsIn (QP (B ≤ ·)) (B ≤ ·) w a (mkEs l k) → l.length = N → k + cntEs l ≤ 549755813888 → Calls Tryz.prog 15 #[.slice a N cap, .int .i64 (k : Int)] w fun e w' => e = .returned (.int .i64 ((k + cntEs l : Nat) : Int)) ∧ Below w.heap.size w w'
  | 0, _, _, _, _, _, _, _, h, _, _, _ => absurd h (Nat.not_lt_zero _)
  | m + 1, l, k, a, N, cap, B, w, h, hk, hN, hb => heldElS_step m (heldElS_all m) l k a N cap B w h hk hN hb
theorem heldElS_any (n : Nat) (l : List ElB) (v : Value) (k B : Nat) (F : Foot) (w : World) (h : OwnS w B n (mkEs l k) v F) (hk : k + cntEs l ≤ 549755813888) :
    Calls Tryz.prog 15 #[v, .int .i64 (k : Int)] w fun e w' => e = .returned (.int .i64 ((k + cntEs l : Nat) : Int)) ∧ Below w.heap.size w w' := by
  obtain ⟨a, c, rfl, hkk⟩ := OwnS.kids n h
  exact heldElS_all (cntEs l + 1) l k a _ c B w (Nat.lt_succ_self _) hkk (by rw [mkEs_length]) hk

end Go.Proofs.YthipdkagkdnaiaaGreatDoor.Sg
