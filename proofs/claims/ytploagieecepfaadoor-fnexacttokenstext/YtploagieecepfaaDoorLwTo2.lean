/- The laws' words, weighed. -/
import Derived.Test.YtploagieecepfaaDoorLwTo
namespace Go.Proofs.YtploagieecepfaaDoor.Sg
open Go.ChangeShapes Go.WideShapes Go.ChangeAt Go.RowKit

/-- Texts of a word that a machine can hold. -/
def TokHeld (t : TokB) : Prop := t.2.1.size ≤ 9223372036854775807 ∧ AttrsHeld t.2.2.1 ∧ t.2.2.2.1.size ≤ 9223372036854775807

set_option maxHeartbeats 2000000 in
theorem szToken_any (t : TokB) (sv : Value) (left : Int) (w : World) (hs : SlAttrsIn w sv t.2.2.1) (hh : TokHeld t) (hl1 : 0 ≤ left) (hl2 : left ≤ 1048576) :
    Calls Tryd.prog 5 #[.agg (tokV (t, sv)).toArray, .int .i64 left] w fun e w' => e = .returned (.int .i64 (leftZ left (tokW t))) ∧ Below w.heap.size w w' := by
  obtain ⟨kd, nm, at', tx, sf⟩ := t
  obtain ⟨a, cap, rfl, hA⟩ := hs
  obtain ⟨h1, h2, h3⟩ := hh
  simp only at h1 h2 h3 hA
  have HA : Hid (∀ W, Below w.heap.size w W → ∀ cur : Int, 0 ≤ cur → cur ≤ 1048576 → Calls Tryd.prog 15 #[.slice a at'.length cap, .int .i64 cur] W fun e w' => e = .returned (.int .i64 (leftZ cur (attrsW at'))) ∧ Below W.heap.size W w') := fun W hW cur c0 c1 => szAttrS_any at' a at'.length cap cur W (hA.keep hW) rfl h2 c0 c1
  have Hn : Hid (leftZ left (tokW (kd, nm, at', tx, sf)) = leftZ left (nm.size + (attrsW at' + tx.size))) := by
    show _ = _
    unfold tokW
    simp only
    rw [Nat.add_assoc]
  clear hA h2
  simp only [tokV]
  have q1 : IntKind.i64.wrap (left - (nm.size : Int)) = left - (nm.size : Int) := IntWalk.i64_in _ (by omega)
  by_cases g1 : left - (nm.size : Int) < 0
  · have Hn2 : Hid (leftZ left (tokW (kd, nm, at', tx, sf)) = -1) := by
      show _ = _
      rw [Hn.out]
      exact leftZ_no (by unfold leftZ; rw [if_neg (by omega)]; omega) hl1
    clear Hn HA
    go_enter Tryd.func5, Tryd.ntmps5
    go_wp2
    go_ret
    exact ⟨ret_left Hn2.out.symm, (Below.refl _ _).alloc (Nat.le_refl _) _⟩
  have g1' : decide (left - (nm.size : Int) < 0) = false := decide_eq_false g1
  have Hn2 : Hid (leftZ left (tokW (kd, nm, at', tx, sf)) = leftZ (left - (nm.size : Int)) (attrsW at' + tx.size)) := by
    show _ = _
    have e : leftZ left nm.size = left - (nm.size : Int) := by unfold leftZ; rw [if_pos (by omega)]
    rw [Hn.out, (leftZ_yes (by rw [e]; exact g1) hl1).1, e]
  clear Hn
  obtain ⟨c, hc⟩ : ∃ c : Int, left - (nm.size : Int) = c := ⟨_, rfl⟩
  have hc0 : 0 ≤ c := by omega
  have hc1 : c ≤ 1048576 := by omega
  rw [hc] at Hn2
  have Hc : Hid (left - (nm.size : Int) = c) := hc
  obtain ⟨z, hz⟩ : ∃ z, leftZ c (attrsW at') = z := ⟨_, rfl⟩
  have HAc : Hid (∀ W, Below w.heap.size w W → Calls Tryd.prog 15 #[.slice a at'.length cap, .int .i64 (left - (nm.size : Int))] W fun e w' => e = .returned (.int .i64 z) ∧ Below W.heap.size W w') := fun W hW => by
    have h := HA.out W hW c hc0 hc1
    rw [hz] at h
    rw [hc]
    exact h
  clear HA hc
  go_enter Tryd.func5, Tryd.ntmps5
  go_wp2_with fail
  refine (HAc.out _ ((Below.refl _ _).alloc (Nat.le_refl _) _)).mono ?_
  rintro e w1 ⟨rfl, b1⟩
  have d3 : w1.cell? ⟨w.heap.size, 3, none⟩ = some (.string tx) := (b1.cell (by simp)).trans (by simp)
  have b2 : Below w.heap.size w w1 := ((Below.refl _ _).alloc (Nat.le_refl _) _).trans (b1.mono (by simp))
  clear b1 HAc
  by_cases gz : z < 0
  · have Hf : Hid (leftZ left (tokW (kd, nm, at', tx, sf)) = -1) := Hn2.out.trans (leftZ_no (by rw [hz]; exact gz) hc0)
    clear Hn2 hz
    go_wp2_with fail
    go_ret
    exact ⟨ret_left Hf.out.symm, b2⟩
  · have hy := leftZ_yes (b := tx.size) (by rw [hz]; exact gz) hc0
    rw [hz] at hy
    have hzc := hy.2
    have gz' : decide (z < 0) = false := decide_eq_false gz
    have Hf : Hid (leftZ left (tokW (kd, nm, at', tx, sf)) = if (tx.size : Int) ≤ z then z - (tx.size : Int) else -1) := Hn2.out.trans hy.1
    have q3 : IntKind.i64.wrap (z - (tx.size : Int)) = z - (tx.size : Int) := IntWalk.i64_in _ (by omega)
    clear Hn2 hz hy
    by_cases g4 : z - (tx.size : Int) < 0
    · have Hf2 : Hid (leftZ left (tokW (kd, nm, at', tx, sf)) = -1) := by
        show _ = _
        rw [Hf.out, if_neg (by omega)]
      clear Hf
      go_wp2_with fail
      go_ret
      exact ⟨ret_left Hf2.out.symm, b2⟩
    · have Hf2 : Hid (leftZ left (tokW (kd, nm, at', tx, sf)) = z - (tx.size : Int)) := by
        show _ = _
        rw [Hf.out, if_pos (by omega)]
      have g4' : decide (z - (tx.size : Int) < 0) = false := decide_eq_false g4
      clear Hf
      go_wp2_with fail
      go_ret
      exact ⟨ret_left Hf2.out.symm, b2⟩

/-- Words that a machine can hold. -/
def ToksHeld (l : List TokB) : Prop := l.length ≤ 9223372036854775807 ∧ ∀ t ∈ l, TokHeld t

set_option maxHeartbeats 2000000 in
theorem szTokenS_any (l : List TokB) (a : Option Addr) (n cap : Nat) (left : Int) (w : World) (ha : ToksIn w a l) (hl : l.length = n) (hh : ToksHeld l) (hl1 : 0 ≤ left) (hl2 : left ≤ 1048576) :
    Calls Tryd.prog 10 #[.slice a n cap, .int .i64 left] w fun e w' => e = .returned (.int .i64 (leftZ left (toksW l))) ∧ Below w.heap.size w w' := by
  have Ha : Hid (ToksIn w a l) := ha
  have Hl : Hid (l.length = n) := hl
  have Hh : Hid (ToksHeld l) := hh
  have hn : n ≤ 9223372036854775807 := by rw [← hl]; exact hh.1
  have Hn : Hid (leftZ left (toksW l) = leftZ left (n + (l.map tokW).sum)) := by
    show _ = _
    unfold toksW
    rw [hl]
  have q1 : IntKind.i64.wrap (left - (n : Int)) = left - (n : Int) := IntWalk.i64_in _ (by omega)
  clear ha hl hh
  by_cases g1 : left - (n : Int) < 0
  · have Hn2 : Hid (leftZ left (toksW l) = -1) := by
      show _ = _
      rw [Hn.out]
      exact leftZ_no (by unfold leftZ; rw [if_neg (by omega)]; omega) hl1
    clear Hn
    go_enter Tryd.func10, Tryd.ntmps10
    go_wp2
    go_ret
    exact ⟨ret_left Hn2.out.symm, Below.refl _ _⟩
  have g1' : decide (left - (n : Int) < 0) = false := decide_eq_false g1
  have Hn2 : Hid (leftZ left (toksW l) = leftZ (left - (n : Int)) ((l.drop 0).map tokW).sum) := by
    show _ = _
    have e : leftZ left n = left - (n : Int) := by unfold leftZ; rw [if_pos (by omega)]
    rw [Hn.out, (leftZ_yes (by rw [e]; exact g1) hl1).1, e]
    rfl
  clear Hn
  go_enter Tryd.func10, Tryd.ntmps10
  go_wp2
  go_loopw [1, 5] (fun lv iv wr => ∃ (k : Nat) (cur : Int), k ≤ n ∧ iv = .int .i64 (k : Int) ∧ lv = .int .i64 cur ∧ 0 ≤ cur ∧ cur ≤ 1048576 ∧ Hid (leftZ left (toksW l) = leftZ cur ((l.drop k).map tokW).sum) ∧ Below w.heap.size w wr) (fun _ iv _ => n - (intOf iv).toNat)
  case atStart => exact ⟨0, left - (n : Int), Nat.zero_le _, rfl, rfl, by omega, by omega, Hn2, Below.refl _ _⟩
  case round =>
    obtain ⟨k, cur, hk, rfl, rfl, hc0, hc1, Hsp, hbel⟩ := hrel
    by_cases hlt : k < n
    · have hkl : k < l.length := by rw [Hl.out]; exact hlt
      rcases Ha.out.keep hbel with h | ⟨b, off, rfl, hb, hc⟩
      · rw [h] at hkl
        exact absurd hkl (Nat.not_lt_zero _)
      obtain ⟨c0, c1, ⟨sv, c2, hS⟩, c3, c4⟩ := hc k hkl
      have hsum := sum_drop tokW l k hkl
      have hp := Hh.out.2 _ (List.getElem_mem hkl)
      clear hc
      generalize l[k]'hkl = p at *
      clear hkl
      have Hs := szToken_any p sv cur wr hS hp hc0 hc1
      rw [hsum] at Hsp
      clear hsum hp hS
      obtain ⟨z, hz⟩ : ∃ z, leftZ cur (tokW p) = z := ⟨_, rfl⟩
      rw [hz] at Hs
      have k0 : (0 : Int) ≤ (k : Int) := by omega
      have k1 : (k : Int) < (n : Int) := by omega
      by_cases gz : z < 0
      · have Hf : Hid (leftZ left (toksW l) = -1) := Hsp.out.trans (leftZ_no (by rw [hz]; exact gz) hc0)
        clear Hsp hz
        obtain ⟨kd, nm, at', tx, sf⟩ := p
        simp only [tokV] at Hs
        go_wp2_with fail
        refine Hs.mono ?_
        rintro e w1 ⟨rfl, b1⟩
        have b2 := hbel.trans (b1.mono hbel.size)
        clear b1
        go_wp2_with fail
        go_ret
        exact ⟨ret_left Hf.out.symm, b2⟩
      · have hy := leftZ_yes (b := ((l.drop (k + 1)).map tokW).sum) (by rw [hz]; exact gz) hc0
        rw [hz] at hy
        have Hf : Hid (leftZ left (toksW l) = leftZ z ((l.drop (k + 1)).map tokW).sum) := Hsp.out.trans hy.1
        have hzc := hy.2
        have gz' : decide (z < 0) = false := decide_eq_false gz
        clear Hsp hz hy
        obtain ⟨kd, nm, at', tx, sf⟩ := p
        simp only [tokV] at Hs
        go_wp2_with fail
        refine Hs.mono ?_
        rintro e w1 ⟨rfl, b1⟩
        have b2 := hbel.trans (b1.mono hbel.size)
        clear b1
        go_wp2_with fail
        go_roundw
        case rel => exact ⟨k + 1, z, by omega, by go_num, rfl, by omega, by omega, Hf, b2⟩
        case measure => simp [intOf]; omega
    · have Hf : Hid (leftZ left (toksW l) = cur) := by
        show _ = _
        rw [Hsp.out, List.drop_eq_nil_of_le (by have := Hl.out; omega)]
        exact leftZ_zero hc0
      have g2 : decide ((k : Int) < (n : Int)) = false := decide_eq_false (by omega)
      clear Hsp
      go_wp2
      go_ret
      exact ⟨ret_left Hf.out.symm, hbel⟩

end Go.Proofs.YtploagieecepfaaDoor.Sg
