/- The laws' items, weighed. -/
import Derived.Test.YtlnegnikedinaaaItMem
namespace Go.Proofs.Ytlnegnikedinaaa.Sg
open Go.ChangeShapes Go.WideShapes Go.ChangeAt Go.RowKit

theorem szIntS_any (a : Option Addr) (n cap : Nat) (left : Int) (w : World) (hn : n ≤ 9223372036854775807) (hl1 : 0 ≤ left) (hl2 : left ≤ 1048576) :
    Calls Try.prog 31 #[.slice a n cap, .int .i64 left] w fun e w' => e = .returned (.int .i64 (leftZ left n)) ∧ Below w.heap.size w w' := by
  have q1 : IntKind.i64.wrap (left - (n : Int)) = left - (n : Int) := IntWalk.i64_in _ (by omega)
  by_cases g1 : left - (n : Int) < 0
  · have e : leftZ left n = -1 := by unfold leftZ; rw [if_neg (by omega)]
    rw [e]
    go_enter Try.func31, Try.ntmps31
    go_wp2
    go_ret
    exact ⟨rfl, Below.refl _ _⟩
  · have e : leftZ left n = left - (n : Int) := by unfold leftZ; rw [if_pos (by omega)]
    have g1' : decide (left - (n : Int) < 0) = false := decide_eq_false g1
    rw [e]
    go_enter Try.func31, Try.ntmps31
    go_wp2
    go_ret
    exact ⟨rfl, Below.refl _ _⟩

set_option maxHeartbeats 4000000 in
theorem szItem_any (t : ItB) (sv kv : Value) (left : Int) (w : World) (hs : SlAttrsIn w sv t.ats) (hi : SlInts w kv t.kids) (hh : ItHeld t) (hl1 : 0 ≤ left) (hl2 : left ≤ 1048576) :
    Calls Try.prog 39 #[.agg (itV (t, sv, kv)).toArray, .int .i64 left] w fun e w' => e = .returned (.int .i64 (leftZ left (itW t))) ∧ Below w.heap.size w w' := by
  obtain ⟨kd, sp, nm, at', tx, up, kids⟩ := t
  obtain ⟨a, cap, rfl, hA⟩ := hs
  obtain ⟨ka, kc, rfl, _⟩ := hi
  obtain ⟨h1, h2, h3, h4⟩ := hh
  simp only at h1 h2 h3 h4 hA
  have HA : Hid (∀ W, Below w.heap.size w W → ∀ cur : Int, 0 ≤ cur → cur ≤ 1048576 → Calls Try.prog 55 #[.slice a at'.length cap, .int .i64 cur] W fun e w' => e = .returned (.int .i64 (leftZ cur (attrsW at'))) ∧ Below W.heap.size W w') := fun W hW cur c0 c1 => szAttrS_any at' a at'.length cap cur W (hA.keep hW) rfl h2 c0 c1
  have HK : Hid (∀ W, ∀ cur : Int, 0 ≤ cur → cur ≤ 1048576 → Calls Try.prog 31 #[.slice ka kids.length kc, .int .i64 cur] W fun e w' => e = .returned (.int .i64 (leftZ cur kids.length)) ∧ Below W.heap.size W w') := fun W cur c0 c1 => szIntS_any ka kids.length kc cur W h4 c0 c1
  have Hn : Hid (leftZ left (itW ⟨kd, sp, nm, at', tx, up, kids⟩) = leftZ left (nm.size + (attrsW at' + (tx.size + kids.length)))) := rfl
  generalize leftZ left (itW ⟨kd, sp, nm, at', tx, up, kids⟩) = R at *
  clear hA h2
  simp only [itV]
  have q1 : IntKind.i64.wrap (left - (nm.size : Int)) = left - (nm.size : Int) := IntWalk.i64_in _ (by omega)
  by_cases g1 : left - (nm.size : Int) < 0
  · have Hn2 : Hid (R = -1) := by
      show _ = _
      rw [Hn.out]
      exact leftZ_no (by unfold leftZ; rw [if_neg (by omega)]; omega) hl1
    clear Hn HA HK
    go_enter Try.func39, Try.ntmps39
    go_wp2
    go_ret
    exact ⟨ret_left Hn2.out.symm, (Below.refl _ _).alloc (Nat.le_refl _) _⟩
  have g1' : decide (left - (nm.size : Int) < 0) = false := decide_eq_false g1
  have Hn2 : Hid (R = leftZ (left - (nm.size : Int)) (attrsW at' + (tx.size + kids.length))) := by
    show _ = _
    have e : leftZ left nm.size = left - (nm.size : Int) := by unfold leftZ; rw [if_pos (by omega)]
    rw [Hn.out, (leftZ_yes (by rw [e]; exact g1) hl1).1, e]
  clear Hn
  obtain ⟨c, hc⟩ : ∃ c : Int, left - (nm.size : Int) = c := ⟨_, rfl⟩
  have hc0 : 0 ≤ c := by omega
  have hc1 : c ≤ 1048576 := by omega
  rw [hc] at Hn2
  obtain ⟨z, hz⟩ : ∃ z, leftZ c (attrsW at') = z := ⟨_, rfl⟩
  have HAc : Hid (∀ W, Below w.heap.size w W → Calls Try.prog 55 #[.slice a at'.length cap, .int .i64 (left - (nm.size : Int))] W fun e w' => e = .returned (.int .i64 z) ∧ Below W.heap.size W w') := fun W hW => by
    have h := HA.out W hW c hc0 hc1
    rw [hz] at h
    rw [hc]
    exact h
  clear HA hc
  go_enter Try.func39, Try.ntmps39
  go_wp2_with fail
  refine (HAc.out _ ((Below.refl _ _).alloc (Nat.le_refl _) _)).mono ?_
  rintro e w1 ⟨rfl, b1⟩
  have d4 : w1.cell? ⟨w.heap.size, 4, none⟩ = some (.string tx) := (b1.cell (by simp)).trans (by simp)
  have d6 : w1.cell? ⟨w.heap.size, 6, none⟩ = some (.slice ka kids.length kc) := (b1.cell (by simp)).trans (by simp)
  have b2 : Below w.heap.size w w1 := ((Below.refl _ _).alloc (Nat.le_refl _) _).trans (b1.mono (by simp))
  clear b1 HAc
  by_cases gz : z < 0
  · have Hf : Hid (R = -1) := Hn2.out.trans (leftZ_no (by rw [hz]; exact gz) hc0)
    clear Hn2 hz HK
    go_wp2_with fail
    go_ret
    exact ⟨ret_left Hf.out.symm, b2⟩
  · have hy := leftZ_yes (b := tx.size + kids.length) (by rw [hz]; exact gz) hc0
    rw [hz] at hy
    have hzc := hy.2
    have gz' : decide (z < 0) = false := decide_eq_false gz
    have Hf : Hid (R = leftZ z (tx.size + kids.length)) := Hn2.out.trans hy.1
    have q3 : IntKind.i64.wrap (z - (tx.size : Int)) = z - (tx.size : Int) := IntWalk.i64_in _ (by omega)
    clear Hn2 hz hy
    by_cases g4 : z - (tx.size : Int) < 0
    · have Hf2 : Hid (R = -1) := by
        show _ = _
        rw [Hf.out]
        exact leftZ_no (by unfold leftZ; rw [if_neg (by omega)]; omega) (by omega)
      clear Hf HK
      go_wp2_with fail
      go_ret
      exact ⟨ret_left Hf2.out.symm, b2⟩
    · have g4' : decide (z - (tx.size : Int) < 0) = false := decide_eq_false g4
      have e4 : leftZ z tx.size = z - (tx.size : Int) := by unfold leftZ; rw [if_pos (by omega)]
      have Hf2 : Hid (R = leftZ (z - (tx.size : Int)) kids.length) := by
        show _ = _
        rw [Hf.out, (leftZ_yes (by rw [e4]; exact g4) (by omega)).1, e4]
      clear Hf e4
      have HKc := HK.out w1 (z - (tx.size : Int)) (by omega) (by omega)
      obtain ⟨y, hy⟩ : ∃ y, leftZ (z - (tx.size : Int)) kids.length = y := ⟨_, rfl⟩
      rw [hy] at HKc Hf2
      have Hy : Hid (y = -1 ∨ 0 ≤ y) := by
        show _ ∨ _
        rw [← hy]
        unfold leftZ
        split
        · right; omega
        · left; rfl
      clear hy HK
      go_wp2_with fail
      refine HKc.mono ?_
      rintro e w2 ⟨rfl, b3⟩
      have b4 : Below w.heap.size w w2 := b2.trans (b3.mono b2.size)
      clear HKc b3 b2 d4 d6
      rcases Hy.out with rfl | hy0
      · go_wp2_with fail
        go_ret
        exact ⟨ret_left Hf2.out.symm, b4⟩
      · have gy : decide (y < 0) = false := decide_eq_false (by omega)
        go_wp2_with fail
        go_ret
        exact ⟨ret_left Hf2.out.symm, b4⟩

end Go.Proofs.Ytlnegnikedinaaa.Sg
