/- The laws' slices of items, weighed. -/
import Derived.Test.YtlnegnikedinaaaLwIt
namespace Go.Proofs.Ytlnegnikedinaaa.Sg
open Go.ChangeShapes Go.WideShapes Go.ChangeAt Go.RowKit

set_option maxHeartbeats 2000000 in
theorem szItemS_any (l : List ItB) (a : Option Addr) (n cap : Nat) (left : Int) (w : World) (ha : ItsIn w a l) (hl : l.length = n) (hh : ItsHeld l) (hl1 : 0 ≤ left) (hl2 : left ≤ 1048576) :
    Calls Try.prog 18 #[.slice a n cap, .int .i64 left] w fun e w' => e = .returned (.int .i64 (leftZ left (itsW l))) ∧ Below w.heap.size w w' := by
  have Ha : Hid (ItsIn w a l) := ha
  have Hl : Hid (l.length = n) := hl
  have Hh : Hid (ItsHeld l) := hh
  have hn : n ≤ 9223372036854775807 := by rw [← hl]; exact hh.1
  have Hn : Hid (leftZ left (itsW l) = leftZ left (n + (l.map itW).sum)) := by
    show _ = _
    unfold itsW
    rw [hl]
  have q1 : IntKind.i64.wrap (left - (n : Int)) = left - (n : Int) := IntWalk.i64_in _ (by omega)
  clear ha hl hh
  by_cases g1 : left - (n : Int) < 0
  · have Hn2 : Hid (leftZ left (itsW l) = -1) := by
      show _ = _
      rw [Hn.out]
      exact leftZ_no (by unfold leftZ; rw [if_neg (by omega)]; omega) hl1
    clear Hn
    go_enter Try.func18, Try.ntmps18
    go_wp2
    go_ret
    exact ⟨ret_left Hn2.out.symm, Below.refl _ _⟩
  have g1' : decide (left - (n : Int) < 0) = false := decide_eq_false g1
  have Hn2 : Hid (leftZ left (itsW l) = leftZ (left - (n : Int)) ((l.drop 0).map itW).sum) := by
    show _ = _
    have e : leftZ left n = left - (n : Int) := by unfold leftZ; rw [if_pos (by omega)]
    rw [Hn.out, (leftZ_yes (by rw [e]; exact g1) hl1).1, e]
    rfl
  clear Hn
  go_enter Try.func18, Try.ntmps18
  go_wp2
  go_loopw [1, 5] (fun lv iv wr => ∃ (k : Nat) (cur : Int), k ≤ n ∧ iv = .int .i64 (k : Int) ∧ lv = .int .i64 cur ∧ 0 ≤ cur ∧ cur ≤ 1048576 ∧ Hid (leftZ left (itsW l) = leftZ cur ((l.drop k).map itW).sum) ∧ Below w.heap.size w wr) (fun _ iv _ => n - (intOf iv).toNat)
  case atStart => exact ⟨0, left - (n : Int), Nat.zero_le _, rfl, rfl, by omega, by omega, Hn2, Below.refl _ _⟩
  case round =>
    obtain ⟨k, cur, hk, rfl, rfl, hc0, hc1, Hsp, hbel⟩ := hrel
    by_cases hlt : k < n
    · have hkl : k < l.length := by rw [Hl.out]; exact hlt
      rcases Ha.out.keep hbel with h | ⟨b, off, rfl, hb, hc⟩
      · rw [h] at hkl
        exact absurd hkl (Nat.not_lt_zero _)
      obtain ⟨c0, c1, c2, ⟨sv, c3, hS⟩, c4, c5, ⟨kv, c6, hI⟩⟩ := hc k hkl
      have hsum := sum_drop itW l k hkl
      have hp := Hh.out.2 _ (List.getElem_mem hkl)
      clear hc
      generalize l[k]'hkl = p at *
      clear hkl
      have Hs := szItem_any p sv kv cur wr hS hI hp hc0 hc1
      rw [hsum] at Hsp
      clear hsum hp hS hI
      obtain ⟨z, hz⟩ : ∃ z, leftZ cur (itW p) = z := ⟨_, rfl⟩
      rw [hz] at Hs
      have k0 : (0 : Int) ≤ (k : Int) := by omega
      have k1 : (k : Int) < (n : Int) := by omega
      by_cases gz : z < 0
      · have Hf : Hid (leftZ left (itsW l) = -1) := Hsp.out.trans (leftZ_no (by rw [hz]; exact gz) hc0)
        clear Hsp hz
        obtain ⟨kd, sp, nm, at', tx, up, kids⟩ := p
        simp only [itV] at Hs
        go_wp2_with fail
        refine Hs.mono ?_
        rintro e w1 ⟨rfl, b1⟩
        have b2 := hbel.trans (b1.mono hbel.size)
        clear b1
        go_wp2_with fail
        go_ret
        exact ⟨ret_left Hf.out.symm, b2⟩
      · have hy := leftZ_yes (b := ((l.drop (k + 1)).map itW).sum) (by rw [hz]; exact gz) hc0
        rw [hz] at hy
        have Hf : Hid (leftZ left (itsW l) = leftZ z ((l.drop (k + 1)).map itW).sum) := Hsp.out.trans hy.1
        have hzc := hy.2
        have gz' : decide (z < 0) = false := decide_eq_false gz
        clear Hsp hz hy
        obtain ⟨kd, sp, nm, at', tx, up, kids⟩ := p
        simp only [itV] at Hs
        go_wp2_with fail
        refine Hs.mono ?_
        rintro e w1 ⟨rfl, b1⟩
        have b2 := hbel.trans (b1.mono hbel.size)
        clear b1
        go_wp2_with fail
        go_roundw
        case rel => exact ⟨k + 1, z, by omega, by go_num, rfl, by omega, by omega, Hf, b2⟩
        case measure => simp [intOf]; omega
    · have Hf : Hid (leftZ left (itsW l) = cur) := by
        show _ = _
        rw [Hsp.out, List.drop_eq_nil_of_le (by have := Hl.out; omega)]
        exact leftZ_zero hc0
      have g2 : decide ((k : Int) < (n : Int)) = false := decide_eq_false (by omega)
      clear Hsp
      go_wp2
      go_ret
      exact ⟨ret_left Hf.out.symm, hbel⟩

end Go.Proofs.Ytlnegnikedinaaa.Sg
