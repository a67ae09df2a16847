/- Contracts of Numbered, of the program and of the model: both answer the same plain number. -/
import Derived.Test.YtlaidaghmhmgbaaDoorKdInQ
import Derived.Lib.LaidTab
namespace Go.Proofs.YtlaidaghmhmgbaaDoor.Sg
open Go.ChangeShapes Go.WideShapes Go.ChangeAt Go.RowKit

/-- What the numbers from 128 up to 159 stand for. -/
def midTab : List Int := [8364, 129, 8218, 402, 8222, 8230, 8224, 8225, 710, 8240, 352, 8249, 338, 141, 381, 143, 144, 8216, 8217, 8220, 8221, 8226, 8211, 8212, 732, 8482, 353, 8250, 339, 157, 382, 376]

/-- The sign that a number tells. -/
def numB (n : Int) : Int := if n = 0 ∨ okB n = false then 65533 else if 128 ≤ n ∧ n ≤ 159 then midTab.getD (n - 128).toNat 0 else n

theorem numB_bad {n : Int} (h : n = 0 ∨ okB n = false) : numB n = 65533 := if_pos h
theorem numB_mid {n : Int} (h : n ≠ 0) (h1 : okB n = true) (h2 : 128 ≤ n ∧ n ≤ 159) : numB n = midTab.getD (n - 128).toNat 0 := by
  unfold numB
  rw [if_neg (by simp [h, h1]), if_pos h2]
theorem numB_self {n : Int} (h : n ≠ 0) (h1 : okB n = true) (h2 : ¬ (128 ≤ n ∧ n ≤ 159)) : numB n = n := by
  unfold numB
  rw [if_neg (by simp [h, h1]), if_neg h2]

theorem ret_i64 {a b : Int} (h : a = b) : Ending.returned (.int .i64 a) = .returned (.int .i64 b) := by rw [h]

theorem mid_cell (w : World) (C : Array Value) (t : TypeId) (hC : C = (midTab.map (Value.int .i64)).toArray) (k : Nat) (hk : k < 32) :
    (w.alloc (.cells C t)).cell? ⟨w.heap.size, k, none⟩ = some (.int .i64 (midTab.getD k 0)) := by
  subst hC
  rw [World.cell?_alloc_new, List.getElem?_toArray, List.getElem?_map]
  have hl : k < midTab.length := hk
  simp [List.getD, hl]

set_option maxHeartbeats 1000000 in
theorem specNumbered (n : Int) (w : World) :
    Calls Tryd.prog 73 #[.int .i64 n] w fun e w' => e = .returned (.int .i64 (numB n)) ∧ Below w.heap.size w w' := by
  by_cases h0 : n = 0
  · have Hn : Hid (numB n = 65533) := numB_bad (.inl h0)
    have g0 : (n == 0) = true := by simp [h0]
    clear h0
    go_enter Tryd.func73, Tryd.ntmps73
    go_wp2
    go_ret
    exact ⟨ret_i64 Hn.out.symm, (Below.refl _ _).alloc (Nat.le_refl _) _⟩
  · have g0 : (n == 0) = false := by simp [h0]
    cases ho : okB n
    · have Hn : Hid (numB n = 65533) := numB_bad (.inr ho)
      have Hv : Hid (∀ w : World, Calls Tryd.prog 75 #[.int .i64 n] w fun e w' => e = .returned (.bool false) ∧ w' = w) := by
        intro w
        have h := specSignOk n w
        rw [ho] at h
        exact h
      clear h0 ho
      go_enter Tryd.func73, Tryd.ntmps73
      go_wp2_with fail
      refine (Hv.out _).mono ?_
      rintro e w1 ⟨rfl, rfl⟩
      go_wp2
      go_ret
      exact ⟨ret_i64 Hn.out.symm, (Below.refl _ _).alloc (Nat.le_refl _) _⟩
    · have Hv : Hid (∀ w : World, Calls Tryd.prog 75 #[.int .i64 n] w fun e w' => e = .returned (.bool true) ∧ w' = w) := by
        intro w
        have h := specSignOk n w
        rw [ho] at h
        exact h
      by_cases hm : 128 ≤ n ∧ n ≤ 159
      · have Hn : Hid (numB n = midTab.getD (n - 128).toNat 0) := numB_mid h0 ho hm
        have Hi : Hid (∀ w : World, Calls Tryd.prog 76 #[.int .i64 n, .int .i64 128, .int .i64 159] w fun e w' => e = .returned (.bool true) ∧ w' = w) := by
          intro w
          have h := l1In_kd n 128 159 w
          rw [show inP n (128, 159) = true from decide_eq_true hm] at h
          exact h
        obtain ⟨k, hk, rfl⟩ : ∃ k : Nat, k < 32 ∧ n = 128 + (k : Int) := ⟨(n - 128).toNat, by omega, by omega⟩
        have Hk : Hid (numB (128 + (k : Int)) = midTab.getD k 0) := by
          show _ = _
          rw [Hn.out]
          congr 1
          omega
        clear h0 ho hm Hn
        go_enter Tryd.func73, Tryd.ntmps73
        go_wp2_with fail
        refine (Hv.out _).mono ?_
        rintro e w1 ⟨rfl, rfl⟩
        go_wp2_with fail
        refine (Hi.out _).mono ?_
        rintro e w1 ⟨rfl, h1⟩
        have hc : w1.cell? ⟨w.heap.size, k, none⟩ = some (.int .i64 (midTab.getD k 0)) := by rw [h1]; exact mid_cell w _ 3 rfl k hk
        have hb : Below w.heap.size w w1 := same_below h1 ((Below.refl _ _).alloc (Nat.le_refl _) _)
        clear h1
        have e1 : 128 + k - 128 = k := by omega
        go_wp2
        go_ret
        exact ⟨ret_i64 Hk.out.symm, hb⟩
      · have Hn : Hid (numB n = n) := numB_self h0 ho hm
        have Hi : Hid (∀ w : World, Calls Tryd.prog 76 #[.int .i64 n, .int .i64 128, .int .i64 159] w fun e w' => e = .returned (.bool false) ∧ w' = w) := by
          intro w
          have h := l1In_kd n 128 159 w
          rw [show inP n (128, 159) = false from decide_eq_false hm] at h
          exact h
        clear h0 ho hm
        go_enter Tryd.func73, Tryd.ntmps73
        go_wp2_with fail
        refine (Hv.out _).mono ?_
        rintro e w1 ⟨rfl, rfl⟩
        go_wp2_with fail
        refine (Hi.out _).mono ?_
        rintro e w1 ⟨rfl, rfl⟩
        go_wp2
        go_ret
        exact ⟨ret_i64 Hn.out.symm, (Below.refl _ _).alloc (Nat.le_refl _) _⟩

set_option maxHeartbeats 1000000 in
theorem implNumbered (n : Int) (w : World) (hT : Lib.TabIs Tryd.prog w "loop.example/g00325/impl.middleSigns" .i64 midTab) :
    Calls Tryd.prog 79 #[.int .i64 n] w fun e w' => e = .returned (.int .i64 (numB n)) ∧ w' = w := by
  have Hc : Hid (∀ k : Nat, k < 32 → w.cell? ⟨0, k, none⟩ = some (.int .i64 (midTab.getD k 0))) := fun k hk => hT.cell (by kernel_rfl) k hk
  clear hT
  by_cases h0 : n = 0
  · have Hn : Hid (numB n = 65533) := numB_bad (.inl h0)
    have g0 : (n == 0) = true := by simp [h0]
    clear h0
    go_enter Tryd.func79, Tryd.ntmps79
    go_wp2
    go_ret
    exact ⟨ret_i64 Hn.out.symm, rfl⟩
  · have g0 : (n == 0) = false := by simp [h0]
    cases ho : okB n
    · have Hn : Hid (numB n = 65533) := numB_bad (.inr ho)
      have Hv : Hid (∀ w : World, Calls Tryd.prog 83 #[.int .i64 n] w fun e w' => e = .returned (.bool false) ∧ w' = w) := by
        intro w
        have h := implSignOk n w
        rw [ho] at h
        exact h
      clear h0 ho
      go_enter Tryd.func79, Tryd.ntmps79
      go_wp2_with fail
      refine (Hv.out _).mono ?_
      rintro e w1 ⟨rfl, rfl⟩
      go_wp2
      go_ret
      exact ⟨ret_i64 Hn.out.symm, rfl⟩
    · have Hv : Hid (∀ w : World, Calls Tryd.prog 83 #[.int .i64 n] w fun e w' => e = .returned (.bool true) ∧ w' = w) := by
        intro w
        have h := implSignOk n w
        rw [ho] at h
        exact h
      by_cases hm : 128 ≤ n
      · by_cases hm2 : n ≤ 159
        · have Hn : Hid (numB n = midTab.getD (n - 128).toNat 0) := numB_mid h0 ho ⟨hm, hm2⟩
          obtain ⟨k, hk, rfl⟩ : ∃ k : Nat, k < 32 ∧ n = 128 + (k : Int) := ⟨(n - 128).toNat, by omega, by omega⟩
          have Hk : Hid (numB (128 + (k : Int)) = midTab.getD k 0) := by
            show _ = _
            rw [Hn.out]
            congr 1
            omega
          have hc := Hc.out k hk
          have e1 : 128 + k - 128 = k := by omega
          clear h0 ho Hn Hc
          go_enter Tryd.func79, Tryd.ntmps79
          go_wp2_with fail
          refine (Hv.out _).mono ?_
          rintro e w1 ⟨rfl, rfl⟩
          go_wp2
          go_ret
          exact ⟨ret_i64 Hk.out.symm, rfl⟩
        · have Hn : Hid (numB n = n) := numB_self h0 ho (by omega)
          clear h0 ho
          go_enter Tryd.func79, Tryd.ntmps79
          go_wp2_with fail
          refine (Hv.out _).mono ?_
          rintro e w1 ⟨rfl, rfl⟩
          go_wp2
          go_ret
          exact ⟨ret_i64 Hn.out.symm, rfl⟩
      · have Hn : Hid (numB n = n) := numB_self h0 ho (by omega)
        clear h0 ho
        go_enter Tryd.func79, Tryd.ntmps79
        go_wp2_with fail
        refine (Hv.out _).mono ?_
        rintro e w1 ⟨rfl, rfl⟩
        go_wp2
        go_ret
        exact ⟨ret_i64 Hn.out.symm, rfl⟩

end Go.Proofs.YtlaidaghmhmgbaaDoor.Sg
