/- Contract of the laws' held items. -/
import Derived.Test.YtlnegnikedinaaaLwItMk2
import Derived.Deep.Cut
import Derived.Deep.CutRange
import Derived.Deep.RegionHeld3
namespace Go.Proofs.Ytlnegnikedinaaa.Sg
open Go.ChangeShapes Go.WideShapes Go.ChangeAt Go.RowKit

theorem markIts_get (l : List ItB) : ∀ (k i : Nat) (hi : i < l.length) (h2 : i < (markIts k l).length), (markIts k l)[i]'h2 = markIt (k + markIs (l.take i)) (l[i]'hi) := by
  induction l with
  | nil => intro k i hi; exact absurd hi (Nat.not_lt_zero _)
  | cons t l ih =>
    intro k i hi h2
    cases i with
    | zero => rfl
    | succ i =>
      have h3 : i < l.length := by simpa using hi
      have h4 : i < (markIts (k + markIn t) l).length := by rw [markIts_length]; exact h3
      have e := ih (k + markIn t) i h3 h4
      show (markIts (k + markIn t) l)[i]'h4 = markIt (k + markIs ((t :: l).take (i + 1))) (l[i]'h3)
      rw [e]
      have e2 : k + markIn t + markIs (l.take i) = k + markIs ((t :: l).take (i + 1)) := by
        rw [List.take_succ_cons]
        unfold markIs
        rw [List.map_cons, List.sum_cons]
        omega
      rw [e2]

set_option maxRecDepth 20000 in
set_option maxHeartbeats 8000000 in
theorem heldItemS_any (l : List ItB) (k : Nat) (a : Option Addr) (n cap : Nat) (w : World) (ha : ItsAt w a (markIts k l)) (hl : l.length = n) (hk : k ≤ 1048576) (hm : markIs l ≤ 549755813888) (hat : ∀ t ∈ l, t.ats.length ≤ 1048576 ∧ t.kids.length ≤ 1048576) (hn : n ≤ 1048576) :
    Calls Try.prog 29 #[.slice a n cap, .int .i64 (k : Int)] w fun e w' => e = .returned (.int .i64 ((k + markIs l : Nat) : Int)) ∧ Below w.heap.size w w' := by
  have Ha : Hid (ItsAt w a (markIts k l)) := ha
  have Hl : Hid (l.length = n) := hl
  have Hm : Hid (markIs l ≤ 549755813888) := hm
  have Hat : Hid (∀ t ∈ l, t.ats.length ≤ 1048576 ∧ t.kids.length ≤ 1048576) := hat
  clear ha hl hm hat
  go_enter Try.func29, Try.ntmps29
  go_wp2
  go_loopw [1, 5] (fun kv iv wr => ∃ i : Nat, i ≤ n ∧ iv = .int .i64 (i : Int) ∧ kv = .int .i64 ((k + markIs (l.take i) : Nat) : Int) ∧ Below w.heap.size w wr) (fun _ iv _ => n - (intOf iv).toNat)
  case atStart => exact ⟨0, Nat.zero_le _, rfl, rfl, Below.refl _ _⟩
  case round =>
    obtain ⟨i, hi, rfl, rfl, hbel⟩ := hrel
    by_cases hlt : i < n
    · have hil : i < l.length := by rw [Hl.out]; exact hlt
      have hil2 : i < (markIts k l).length := by rw [markIts_length]; exact hil
      obtain ⟨b, rfl, c0, c1, c2, ⟨sv, c3, hS⟩, c4, c5, ⟨kv, c6, hI⟩⟩ := (Ha.out.keep hbel).get i hil2
      obtain ⟨hsp1, hsp2⟩ := markIs_split l i hil
      have hlen := Hat.out _ (List.getElem_mem hil)
      rw [markIts_get l k i hil hil2] at c0 c1 c2 c4 c5 hS hI
      have hbig := Hm.out
      obtain ⟨K, HK⟩ : ∃ K, Hid (k + markIs (l.take i) = K) := ⟨_, rfl⟩
      obtain ⟨m, Hmm⟩ : ∃ m, Hid ((l[i]'hil).ats.length = m) := ⟨_, rfl⟩
      obtain ⟨c, Hcc⟩ : ∃ c, Hid ((l[i]'hil).kids.length = c) := ⟨_, rfl⟩
      obtain ⟨K1, HK1⟩ : ∃ K1, Hid (K + 3 + 2 * m = K1) := ⟨_, rfl⟩
      have hKb : K ≤ 549756862464 := by rw [← HK.out]; omega
      have hmb : m ≤ 1048576 := by rw [← Hmm.out]; exact hlen.1
      have hcb : c ≤ 1048576 := by rw [← Hcc.out]; exact hlen.2
      have hK1b : K1 ≤ 549758959620 := by have := HK1.out; omega
      rw [HK.out] at c0 c1 c2 c4 c5 hS hI ⊢
      have Hmt : Hid (markIt K (l[i]'hil) = ⟨(K : Int), (K : Int) + 1, markB (K + 2), markL (K + 3) m, markB K1, (K1 : Int) + 1, cntL (K1 + 2) c⟩) := by
        show _ = _
        unfold markIt
        rw [Hmm.out, Hcc.out]
        have e := HK1.out
        subst e
        congr 1 <;> first | rfl | omega | (congr 1; omega)
      rw [Hmt.out] at c0 c1 c2 c4 c5 hS hI
      obtain ⟨sa, sc, rfl, _, hA⟩ := hS
      obtain ⟨ka, kc, rfl, _, hN⟩ := hI
      simp only at c0 c1 c2 c4 c5 hA hN
      rw [markL_length] at c3
      rw [cntL_length] at c6
      have k6 : Hid (((K1 + 2 + c : Nat) : Int) = ((k + markIs (l.take (i + 1)) : Nat) : Int)) := by
        show _ = _
        have e1 : markIn (l[i]'hil) = 5 + 2 * m + c := by unfold markIn; rw [Hmm.out, Hcc.out]
        have e2 := HK.out
        have e3 := HK1.out
        rw [hsp2, e1]
        omega
      have Hk1 : Hid (∀ w : World, Calls Try.prog 45 #[.int .i64 ((K : Int) + 1 + 1)] w fun e w' => e = .returned (.string (markB (K + 2))) ∧ Below w.heap.size w w') := fun w => markText_any (K + 2) w (by omega)
      have Hk3 : Hid (∀ w : World, Calls Try.prog 45 #[.int .i64 (K1 : Int)] w fun e w' => e = .returned (.string (markB K1)) ∧ Below w.heap.size w w') := fun w => markText_any K1 w (by omega)
      have Hat2 : Hid (∀ W : World, Below wr.heap.size wr W → Calls Try.prog 47 #[.slice sa m sc, .int .i64 ((K : Int) + 1 + 1 + 1)] W fun e w' => e = .returned (.int .i64 (K1 : Int)) ∧ Below W.heap.size W w') := fun W hW => by
        have h := heldAttrS_any m (K + 3) sa sc W (hA.below hW) (by omega) (by omega)
        rw [HK1.out] at h
        exact h
      have Hin2 : Hid (∀ W : World, Below wr.heap.size wr W → Calls Try.prog 30 #[.slice ka c kc, .int .i64 ((K1 : Int) + 1 + 1)] W fun e w' => e = .returned (.int .i64 ((K1 + 2 + c : Nat) : Int)) ∧ w' = W) := fun W hW => heldIntS_cnt c (K1 + 2) ka kc W (hN.below (Nat.le_refl _) hW) (by omega) (by omega)
      clear hsp1 hsp2 hlen hbig Hmt hA hN hil2
      clear Hmm Hcc HK HK1
      clear hil
      generalize markB (K + 2) = x at *
      generalize markB K1 = y at *
      have gx : (x.toList == x.toList) = true := by simp
      have gy : (y.toList == y.toList) = true := by simp
      have gK : ((K : Int) != (K : Int)) = false := by simp
      have gK2 : ((K : Int) + 1 != (K : Int) + 1) = false := by simp
      have gK3 : ((K1 : Int) + 1 != (K1 : Int) + 1) = false := by simp
      have k0 : (0 : Int) ≤ (i : Int) := by omega
      have k1 : (i : Int) < (n : Int) := by omega
      have HB : Hid (∀ wx : World, Below wr.heap.size wr wx → Below w.heap.size w wx) := fun wx h => hbel.trans (h.mono hbel.size)
      go_upto_region 10 with fail
      go_cut [37] from 6 to 76 (fun r wx => r = .bool false ∧ Below wr.heap.size wr wx)
      case first =>
        go_region_held3 (fun w' => w'.cell? ⟨b, i * 7 + 2, none⟩ = some (.string x)) (first | go_keep | exact keep_cell hb' (by assumption)) (first | (go_at_call 45; refine (Hk1.out _).mono ?_; rintro e w' ⟨rfl, hb'⟩))
        go_wp2_with fail
        go_meet
        case rel => exact ⟨rfl, ((Below.refl _ _).drew).trans hb'⟩
      case rest =>
        obtain ⟨rfl, hbx⟩ := hcut
        have d3 := keep_cell hbx c3
        have d4 := keep_cell hbx c4
        have d5 := keep_cell hbx c5
        have d6 := keep_cell hbx c6
        have Hat3 := Hat2.out _ hbx
        have HX : Hid (Below wr.heap.size wr wc) := hbx
        clear c0 c1 c2 c3 c4 c5 c6 Hat2 Hk1 hbx
        go_wp2_with fail
        refine Hat3.mono ?_
        rintro e w4 ⟨rfl, b4⟩
        have e4 := keep_cell b4 d4
        have e5 := keep_cell b4 d5
        have e6 := keep_cell b4 d6
        have HX4 : Hid (Below wr.heap.size wr w4) := HX.out.trans (b4.mono HX.out.size)
        have gz : ¬ (K1 : Int) < 0 := by omega
        have gz' : decide ((K1 : Int) < 0) = false := decide_eq_false gz
        clear d3 d4 d5 d6 Hat3 HX b4
        go_upto_region 16 with fail
        go_cut [56] from 6 to 76 (fun r wx => r = .bool false ∧ Below w4.heap.size w4 wx)
        case first =>
          go_region_held3 (fun w' => w'.cell? ⟨b, i * 7 + 4, none⟩ = some (.string y)) (first | go_keep | exact keep_cell hb' (by assumption)) (first | (go_at_call 45; refine (Hk3.out _).mono ?_; rintro e w' ⟨rfl, hb'⟩))
          go_wp2_with fail
          go_meet
          case rel => exact ⟨rfl, ((Below.refl _ _).drew).trans hb'⟩
        case rest =>
          obtain ⟨rfl, hby⟩ := hcut
          have g5 := keep_cell hby e5
          have g6 := keep_cell hby e6
          have HX9 : Hid (Below wr.heap.size wr wc) := HX4.out.trans (hby.mono HX4.out.size)
          have HI9 := Hin2.out _ HX9.out
          have gw : ¬ ((K1 + 2 + c : Nat) : Int) < 0 := by omega
          have gw' : decide (((K1 + 2 + c : Nat) : Int) < 0) = false := decide_eq_false gw
          clear e4 e5 e6 HX4 hby Hk3 Hin2
          rw [k6.out] at HI9 gw gw'
          go_wp2_with fail
          refine HI9.mono ?_
          rintro e w9 ⟨rfl, rfl⟩
          clear HI9
          go_wp2_with fail
          go_roundw
          case rel => exact ⟨i + 1, by omega, by go_num, rfl, HB.out _ HX9.out⟩
          case measure => simp [intOf]; omega
    · have hin : i = n := by omega
      have htake : l.take i = l := List.take_of_length_le (by rw [Hl.out, hin]; exact Nat.le_refl _)
      rw [htake]
      have g2 : decide ((i : Int) < (n : Int)) = false := decide_eq_false (by omega)
      clear htake
      go_wp2
      go_ret
      exact ⟨rfl, hbel⟩

end Go.Proofs.Ytlnegnikedinaaa.Sg
