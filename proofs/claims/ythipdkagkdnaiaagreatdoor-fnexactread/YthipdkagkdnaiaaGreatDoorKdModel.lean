/- Contracts of the model's IsLetter, IsFirst and IsNext. -/
import Derived.Test.YthipdkagkdnaiaaGreatDoorGOwn
import Derived.Test.YthipdkagkdnaiaaGreatDoorMRD03
import Derived.BigQuiet
import Derived.Deep.QuietTactic
namespace Go.Proofs.YthipdkagkdnaiaaGreatDoor.Sg
open Go.ChangeShapes Go.WideShapes Go.ChangeAt Go.RowKit

/-- Spans, their ends one behind the other from a block's beginning. -/
def Pairs (w : World) (b : Nat) (l : List (Int × Int)) : Prop :=
  b < w.heap.size ∧ ∀ k, k < l.length → w.cell? ⟨b, k * 2, none⟩ = some (.int .i64 (l.getD k (0, 0)).1) ∧ w.cell? ⟨b, k * 2 + 1, none⟩ = some (.int .i64 (l.getD k (0, 0)).2)

set_option maxHeartbeats 1000000 in
theorem specIsLetter (n : Int) (w : World) :
    Calls Tryz.prog 89 #[.int .i64 n] w fun e w' => e = .returned (.bool (letterB n)) ∧ w' = w := by
  have Hw : Hid (letterB n = (inP n (97, 122) || inP n (65, 90))) := by
    show letterB n = _
    unfold letterB letterL withinB
    rw [List.any_cons, List.any_cons, List.any_nil, Bool.or_false, Bool.or_comm]
  go_enter Tryz.func89, Tryz.ntmps89
  go_wp2_with fail
  refine (l1In_kd n 97 122 _).mono ?_
  rintro e w1 ⟨rfl, rfl⟩
  cases hl : inP n (97, 122)
  · have Hl : Hid (letterB n = inP n (65, 90)) := by show letterB n = _; rw [Hw.out, hl]; rfl
    clear hl Hw
    go_wp2_with fail
    refine (l1In_kd n 65 90 _).mono ?_
    rintro e w1 ⟨rfl, rfl⟩
    go_wp2
    go_ret
    exact ⟨ret_bool Hl.out.symm, rfl⟩
  · have Hl : Hid (letterB n = true) := by show letterB n = _; rw [Hw.out, hl]; rfl
    clear hl Hw
    go_wp2
    go_ret
    exact ⟨ret_bool Hl.out.symm, rfl⟩

set_option maxHeartbeats 1000000 in
theorem l2Within_any (n : Int) (b m cap : Nat) (l : List (Int × Int)) (w : World) (hs : Pairs w b l) (hm : l.length * 2 = m) (hl : m ≤ 1000) :
    Calls Tryz.prog 90 #[.slice (some ⟨b, 0, none⟩) m cap, .int .i64 n] w fun e w' => e = .returned (.bool (withinB l n)) ∧ Below w.heap.size w w' := by
  obtain ⟨hb, hc⟩ := hs
  have Hm : Hid (l.length * 2 = m) := hm
  have Hc : Hid (∀ k, k < l.length → w.cell? ⟨b, k * 2, none⟩ = some (.int .i64 (l.getD k (0, 0)).1) ∧ w.cell? ⟨b, k * 2 + 1, none⟩ = some (.int .i64 (l.getD k (0, 0)).2)) := hc
  clear hm hc
  go_enter Tryz.func90, Tryz.ntmps90
  go_wp2
  go_loopw [5] (fun i wr => ∃ k : Nat, k * 2 ≤ m ∧ i = .int .i64 ((k * 2 : Nat) : Int) ∧ withinB l n = withinB (l.drop k) n ∧ Below w.heap.size w wr) (fun i _ => m - (intOf i).toNat)
  case atStart => exact ⟨0, Nat.zero_le _, rfl, rfl, Below.refl _ _⟩
  case round =>
    obtain ⟨k, hk, rfl, hsp, hbel⟩ := hrel
    have Hsp : Hid (withinB l n = withinB (l.drop k) n) := hsp
    clear hsp
    by_cases hlk : k * 2 + 1 < m
    · have hkl : k < l.length := by have := Hm.out; omega
      have hd := within_drop l n k hkl
      have hc := Hc.out k hkl
      generalize hp : l.getD k (0, 0) = p at *
      clear hp
      obtain ⟨lo, hi⟩ := p
      obtain ⟨c1, c2⟩ := hc
      have h1 : wr.cell? ⟨b, k * 2, none⟩ = some (.int .i64 lo) := (hbel.cell (by exact hb)).trans c1
      have h2 : wr.cell? ⟨b, k * 2 + 1, none⟩ = some (.int .i64 hi) := (hbel.cell (by exact hb)).trans c2
      have Hd : Hid (withinB (l.drop k) n = (inP n (lo, hi) || withinB (l.drop (k + 1)) n)) := hd
      clear hd hkl c1 c2
      have hix : ((k * 2 : Nat) : Int) + 1 < (m : Int) := by omega
      cases hin : inP n (lo, hi)
      · have Hv : Hid (∀ w : World, Calls Tryz.prog 69 #[.int .i64 n, .int .i64 lo, .int .i64 hi] w fun e w' => e = .returned (.bool false) ∧ w' = w) := by
          intro w
          have h := l1In_kd n lo hi w
          rw [hin] at h
          exact h
        have Hnx : Hid (withinB l n = withinB (l.drop (k + 1)) n) := by show _ = _; rw [Hsp.out, Hd.out, hin]; rfl
        clear hin Hsp Hd
        go_wp2_with fail
        go_quiet ((go_at_call 69; exact Calls.quiet_of_same (Hv.out _)))
        go_wp2_with fail
        go_roundw
        case rel => exact ⟨k + 1, by omega, by go_num, Hnx.out, drew_kd hbel _⟩
        case measure => simp [intOf]; omega
      · have Hv : Hid (∀ w : World, Calls Tryz.prog 69 #[.int .i64 n, .int .i64 lo, .int .i64 hi] w fun e w' => e = .returned (.bool true) ∧ w' = w) := by
          intro w
          have h := l1In_kd n lo hi w
          rw [hin] at h
          exact h
        have Hnx : Hid (withinB l n = true) := by show _ = _; rw [Hsp.out, Hd.out, hin]; rfl
        clear hin Hsp Hd
        go_wp2_with fail
        go_quiet ((go_at_call 69; exact Calls.quiet_of_same (Hv.out _)))
        go_wp2_with fail
        go_ret
        exact ⟨ret_bool Hnx.out.symm, drew_kd hbel _⟩
    · have Hnx : Hid (withinB l n = false) := by
        show _ = _
        have hd : l.drop k = [] := List.drop_eq_nil_of_le (by have := Hm.out; omega)
        rw [Hsp.out, hd]
        rfl
      have hd : decide (((k * 2 : Nat) : Int) + 1 < (m : Int)) = false := decide_eq_false (by omega)
      go_wp2
      go_ret
      exact ⟨ret_bool Hnx.out.symm, hbel⟩

def pairCells : List (Int × Int) → List Value
  | [] => []
  | p :: l => .int .i64 p.1 :: .int .i64 p.2 :: pairCells l

theorem pairCells_at : ∀ (l : List (Int × Int)) (k : Nat), k < l.length → (pairCells l)[k * 2]? = some (.int .i64 (l.getD k (0, 0)).1) ∧ (pairCells l)[k * 2 + 1]? = some (.int .i64 (l.getD k (0, 0)).2)
  | [], k, h => absurd h (Nat.not_lt_zero _)
  | p :: l, 0, _ => by simp [pairCells]
  | p :: l, k + 1, h => by
    have ih := pairCells_at l k (by simpa using h)
    have e1 : (k + 1) * 2 = k * 2 + 1 + 1 := by omega
    rw [e1]
    simpa [pairCells] using ih

theorem Pairs.laid (w : World) (l : List (Int × Int)) (C : Array Value) (t : TypeId) (hC : C = (pairCells l).toArray) : Pairs (w.alloc (.cells C t)) w.heap.size l := by
  subst hC
  refine ⟨by simp, fun k hk => ?_⟩
  obtain ⟨h1, h2⟩ := pairCells_at l k hk
  rw [World.cell?_alloc_new, World.cell?_alloc_new, List.getElem?_toArray, List.getElem?_toArray]
  exact ⟨h1, h2⟩

set_option maxHeartbeats 1000000 in
theorem specIsFirst (n : Int) (w : World) :
    Calls Tryz.prog 63 #[.int .i64 n] w fun e w' => e = .returned (.bool (firstB n)) ∧ Below w.heap.size w w' := by
  have hsp := first_split n
  go_enter Tryz.func63, Tryz.ntmps63
  go_wp2_with fail
  refine (specIsLetter n _).mono ?_
  rintro e w ⟨rfl, rfl⟩
  cases hl : letterB n
  · rw [hl, Bool.false_or] at hsp
    by_cases h95 : n = 95
    · rw [decide_eq_true h95, Bool.true_or] at hsp
      have Hsp : Hid (firstB n = true) := hsp
      have g1 : (n == 95) = true := by simp [h95]
      clear hsp hl h95
      go_wp2
      go_ret
      exact ⟨ret_bool Hsp.out.symm, Below.refl _ _⟩
    · rw [decide_eq_false h95, Bool.false_or] at hsp
      have Hsp : Hid (firstB n = withinB firstR n) := hsp
      have g1 : (n == 95) = false := by simp [h95]
      clear hsp hl h95
      go_wp2_with fail
      refine (l2Within_any n w.heap.size 24 24 firstR _ (Pairs.laid w firstR _ _ rfl) rfl (by decide)).mono ?_
      rintro e w2 ⟨rfl, hb2⟩
      go_wp2
      go_ret
      exact ⟨ret_bool Hsp.out.symm, ((Below.refl _ _).alloc (Nat.le_refl _) _).trans (hb2.mono (by simp))⟩
  · rw [hl, Bool.true_or, Bool.true_or] at hsp
    have Hsp : Hid (firstB n = true) := hsp
    clear hsp hl
    go_wp2
    go_ret
    exact ⟨ret_bool Hsp.out.symm, Below.refl _ _⟩

set_option maxHeartbeats 1000000 in
theorem specIsNext (n : Int) (w : World) :
    Calls Tryz.prog 64 #[.int .i64 n] w fun e w' => e = .returned (.bool (nextB n)) ∧ Below w.heap.size w w' := by
  have hsp := next_split n
  go_enter Tryz.func64, Tryz.ntmps64
  go_wp2_with fail
  refine (specIsFirst n _).mono ?_
  rintro e w1 ⟨rfl, hb1⟩
  cases hl : firstB n
  · rw [hl, Bool.false_or] at hsp
    clear hl
    by_cases h45 : n = 45
    · rw [decide_eq_true h45, Bool.true_or, Bool.true_or, Bool.true_or] at hsp
      have Hsp : Hid (nextB n = true) := hsp
      have g1 : (n == 45) = true := by simp [h45]
      clear hsp h45
      go_wp2
      go_ret
      exact ⟨ret_bool Hsp.out.symm, hb1⟩
    rw [decide_eq_false h45, Bool.false_or] at hsp
    have g1 : (n == 45) = false := by simp [h45]
    clear h45
    by_cases h46 : n = 46
    · rw [decide_eq_true h46, Bool.true_or, Bool.true_or] at hsp
      have Hsp : Hid (nextB n = true) := hsp
      have g2 : (n == 46) = true := by simp [h46]
      clear hsp h46
      go_wp2
      go_ret
      exact ⟨ret_bool Hsp.out.symm, hb1⟩
    rw [decide_eq_false h46, Bool.false_or] at hsp
    have g2 : (n == 46) = false := by simp [h46]
    clear h46
    by_cases h183 : n = 183
    · rw [decide_eq_true h183, Bool.true_or] at hsp
      have Hsp : Hid (nextB n = true) := hsp
      have g3 : (n == 183) = true := by simp [h183]
      clear hsp h183
      go_wp2
      go_ret
      exact ⟨ret_bool Hsp.out.symm, hb1⟩
    rw [decide_eq_false h183, Bool.false_or] at hsp
    have g3 : (n == 183) = false := by simp [h183]
    have Hsp : Hid (nextB n = withinB nextR n) := hsp
    clear h183 hsp
    go_wp2_with fail
    refine (l2Within_any n w1.heap.size 6 6 nextR _ (Pairs.laid w1 nextR _ _ rfl) rfl (by decide)).mono ?_
    rintro e w2 ⟨rfl, hb2⟩
    go_wp2
    go_ret
    exact ⟨ret_bool Hsp.out.symm, (hb1.alloc hb1.size _).trans (hb2.mono (by simp; exact Nat.le_succ_of_le hb1.size))⟩
  · rw [hl, Bool.true_or, Bool.true_or, Bool.true_or, Bool.true_or] at hsp
    have Hsp : Hid (nextB n = true) := hsp
    clear hsp hl
    go_wp2
    go_ret
    exact ⟨ret_bool Hsp.out.symm, hb1⟩

end Go.Proofs.YthipdkagkdnaiaaGreatDoor.Sg
