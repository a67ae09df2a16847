/- Contracts of the model's Under, l1Bit, l6Count. -/
import Derived.Test.YtijdbflfnopmhaaTrP
namespace Go.Proofs.Ytijdbflfnopmhaa.Sg
open Go.ChangeShapes Go.WideShapes Go.ChangeAt Go.RowKit

theorem calls_below {P : Program} {f : FuncId} {args : Array Value} {w : World} {v : Value} (h : Calls P f args w fun e w' => e = .returned v ∧ w' = w) : Calls P f args w fun e w' => e = .returned v ∧ Below w.heap.size w w' :=
  h.mono fun _ _ ⟨h1, h2⟩ => ⟨h1, by rw [h2]; exact Below.refl _ _⟩
theorem ret_bo {a b : Bool} (h : a = b) : Ending.returned (.bool a) = .returned (.bool b) := by rw [h]
theorem ret_in {a b : Int} (h : a = b) : Ending.returned (.int .i64 a) = .returned (.int .i64 b) := by rw [h]

set_option maxRecDepth 20000 in
set_option maxHeartbeats 4000000 in
theorem specUnder (l : List ItB) (a : Option Addr) (n cap : Nat) (i k : Int) (w : World) (ha : ItsAt w a l) (hl : l.length = n) (hn : n ≤ 1099511627776) :
    Calls Try.prog 14 #[.slice a n cap, .int .i64 i, .int .i64 k] w fun e w' => e = .returned (.bool (underB l i k)) ∧ w' = w := by
  have HA : Hid (ItsAt w a l) := ha
  have Hl : Hid (l.length = n) := hl
  have HR : Hid (underB l i k = underF l i (n + 1 - 0) k) := by show _ = _; unfold underB; rw [hl]; rfl
  generalize underB l i k = R at *
  clear ha hl
  go_enter Try.func14, Try.ntmps14
  go_wp2
  go_loopw [2, 7] (fun kv jv wr => ∃ (j : Nat) (c : Int), j ≤ n + 1 ∧ jv = .int .i64 j ∧ kv = .int .i64 c ∧ Hid (R = underF l i (n + 1 - j) c) ∧ wr = w) (fun _ jv _ => n + 1 - (intOf jv).toNat)
  case atStart => exact ⟨0, k, Nat.zero_le _, rfl, rfl, HR, rfl⟩
  case round =>
    clear HR
    obtain ⟨j, c, hj, rfl, rfl, HR, rfl⟩ := hrel
    by_cases hjn : j ≤ n
    · have gj : (j : Int) ≤ (n : Int) := by omega
      by_cases hc : 0 ≤ c ∧ c < (n : Int)
      · obtain ⟨m, rfl⟩ := Int.eq_ofNat_of_zero_le hc.1
        have hm : m < l.length := by rw [Hl.out]; omega
        have hin : 0 ≤ (m : Int) ∧ (m : Int) < (l.length : Int) := by omega
        obtain ⟨b, rfl, _, _, _, _, _, c5, _⟩ := HA.out.get m hm
        have hf : n + 1 - j = n + 1 - (j + 1) + 1 := by omega
        rw [hf] at HR
        have c0 : (0 : Int) ≤ (m : Int) := hc.1
        have c1 : (m : Int) < (n : Int) := hc.2
        by_cases hi : (m : Int) = i
        · have Hn : Hid (R = true) := HR.out.trans (underF_hit hin hi)
          have g : ((m : Int) == i) = true := by simp [hi]
          clear HR hin
          go_wp2_with fail
          go_ret
          exact ⟨ret_bo Hn.out.symm, rfl⟩
        · have Hn : Hid (R = underF l i (n + 1 - (j + 1)) (l[m]'hm).up) := HR.out.trans (underF_up hin hi)
          have g : ((m : Int) == i) = false := by simp [hi]
          clear HR hin
          generalize (l[m]'hm).up = u at *
          go_wp2_with fail
          go_roundw
          case rel => exact ⟨j + 1, u, by omega, by go_num, rfl, Hn, by first | trivial | rfl⟩
          case measure => simp [intOf]; omega
      · have Hn : Hid (R = false) := HR.out.trans (underF_out (by rw [Hl.out]; exact hc))
        clear HR
        by_cases h0 : 0 ≤ c
        · have g1 : decide (c < (n : Int)) = false := decide_eq_false (by omega)
          go_wp2_with fail
          go_ret
          exact ⟨ret_bo Hn.out.symm, rfl⟩
        · have g1 : decide (0 ≤ c) = false := decide_eq_false h0
          have g2 : decide (c ≥ 0) = false := decide_eq_false h0
          go_wp2_with fail
          go_ret
          exact ⟨ret_bo Hn.out.symm, rfl⟩
    · have gj : decide ((j : Int) ≤ (n : Int)) = false := decide_eq_false (by omega)
      have e0 : n + 1 - j = 0 := by omega
      have Hn : Hid (R = false) := by show _ = _; rw [HR.out, e0]; rfl
      clear HR
      go_wp2_with fail
      go_ret
      exact ⟨ret_bo Hn.out.symm, rfl⟩

theorem specBit (b : Bool) (w : World) :
    Calls Try.prog 74 #[.bool b] w fun e w' => e = .returned (.int .i64 (if b then 1 else 0)) ∧ w' = w := by
  cases b
  · go_enter Try.func74, Try.ntmps74
    go_wp2
    go_ret
    exact ⟨rfl, rfl⟩
  · go_enter Try.func74, Try.ntmps74
    go_wp2
    go_ret
    exact ⟨rfl, rfl⟩

set_option maxHeartbeats 2000000 in
theorem specCount (zs : List Int) (a : Option Addr) (cap : Nat) (x : Int) (w : World) (ha : Ints w a zs) (hn : zs.length ≤ 1099511627776) :
    Calls Try.prog 60 #[.slice a zs.length cap, .int .i64 x] w fun e w' => e = .returned (.int .i64 (countI x zs : Int)) ∧ w' = w := by
  have HA : Hid (Ints w a zs) := ha
  obtain ⟨n, Hl⟩ : ∃ n, Hid (zs.length = n) := ⟨_, rfl⟩
  rw [Hl.out] at hn ⊢
  clear ha
  go_enter Try.func60, Try.ntmps60
  go_wp2
  go_loopw [5, 6] (fun ov iv wr => ∃ k : Nat, k ≤ n ∧ iv = .int .i64 k ∧ ov = .int .i64 (countI x (zs.take k) : Int) ∧ wr = w) (fun _ iv _ => n - (intOf iv).toNat)
  case atStart => exact ⟨0, Nat.zero_le _, rfl, rfl, rfl⟩
  case round =>
    obtain ⟨k, hk, rfl, rfl, rfl⟩ := hrel
    by_cases hlt : k < n
    · have hkl : k < zs.length := by rw [Hl.out]; exact hlt
      rcases HA.out with h | ⟨b, off, rfl, hb, hc⟩
      · rw [h] at hkl
        exact absurd hkl (Nat.not_lt_zero _)
      have c0 := hc k hkl
      have hd := countI_drop x zs k hkl
      have hle := countI_le x (zs.take k)
      have hle2 : (zs.take k).length ≤ k := List.length_take_le _ _
      generalize zs.getD k 0 = z at *
      generalize countI x (zs.take k) = m at *
      have k0 : (0 : Int) ≤ (k : Int) := by omega
      have k1 : (k : Int) < (n : Int) := by omega
      clear hc
      cases hz : z == x
      · rw [hz] at hd
        go_wp2_with fail
        refine (specBit false _).mono ?_
        rintro e w1 ⟨rfl, rfl⟩
        go_wp2_with fail
        go_roundw
        case rel => exact ⟨k + 1, by omega, by go_num, by rw [hd]; simp, by first | trivial | rfl⟩
        case measure => simp [intOf]; omega
      · rw [hz] at hd
        go_wp2_with fail
        refine (specBit true _).mono ?_
        rintro e w1 ⟨rfl, rfl⟩
        go_wp2_with fail
        go_roundw
        case rel => exact ⟨k + 1, by omega, by go_num, by rw [hd]; simp, by first | trivial | rfl⟩
        case measure => simp [intOf]; omega
    · have hkn : k = n := by omega
      subst hkn
      have g2 : decide ((k : Int) < (k : Int)) = false := by simp
      have Hn : Hid ((countI x (zs.take k) : Int) = (countI x zs : Int)) := by
        show _ = _
        rw [List.take_of_length_le (by rw [Hl.out]; exact Nat.le_refl _)]
      go_wp2_with fail
      go_ret
      exact ⟨ret_in Hn.out, rfl⟩

end Go.Proofs.Ytijdbflfnopmhaa.Sg
