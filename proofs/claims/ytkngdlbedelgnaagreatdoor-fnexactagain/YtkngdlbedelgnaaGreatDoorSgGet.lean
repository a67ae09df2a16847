/- Contracts of the model's GetSign and of what it calls. -/
import Derived.Test.YtkngdlbedelgnaaGreatDoorMAG06
import Derived.Laws.Bits128
namespace Go.Proofs.YtkngdlbedelgnaaGreatDoor.Sg
open Go.ChangeShapes Go.WideShapes Go.ChangeAt Go.RowKit

set_option maxHeartbeats 1000000 in
theorem l1In_any (x lo hi : Int) (w : World) :
    Calls Tryz.prog 57 #[.int .i64 x, .int .i64 lo, .int .i64 hi] w fun e w' => e = .returned (.bool (inB x lo hi)) ∧ w' = w := by
  by_cases h1 : lo ≤ x
  · by_cases h2 : x ≤ hi
    · have ho : inB x lo hi = true := inB_yes ⟨h1, h2⟩
      rw [ho]
      go_enter Tryz.func57, Tryz.ntmps57
      go_wp2
      go_ret
      exact ⟨rfl, rfl⟩
    · have ho : inB x lo hi = false := inB_no (by omega)
      rw [ho]
      go_enter Tryz.func57, Tryz.ntmps57
      go_wp2
      go_ret
      exact ⟨rfl, rfl⟩
  · have ho : inB x lo hi = false := inB_no (by omega)
    rw [ho]
    have hd : decide (lo ≤ x) = false := by simpa using h1
    go_enter Tryz.func57, Tryz.ntmps57
    go_wp2
    go_ret
    exact ⟨rfl, rfl⟩

set_option maxHeartbeats 2000000 in
theorem l1Many_any (b : Nat) (w : World) (hb : b < 256) :
    Calls Tryz.prog 83 #[.int .i64 (b : Int)] w fun e w' => e = .returned (.int .i64 (manyN b : Int)) ∧ w' = w := by
  rcases many_cases b hb with ⟨h, hm⟩ | ⟨h, hm⟩ | ⟨h, h', hm⟩ | ⟨h, h', hm⟩ | ⟨h, h', hm⟩
  · rw [hm]
    clear hm
    have h0 : (b : Int) < 128 := by omega
    go_enter Tryz.func83, Tryz.ntmps83
    go_wp2_with fail
    go_ret
    exact ⟨rfl, rfl⟩
  · rw [hm]
    clear hm
    have i1 : inB (b : Int) 194 223 = false := inB_no (by omega)
    have i2 : inB (b : Int) 224 239 = false := inB_no (by omega)
    have i3 : inB (b : Int) 240 244 = false := inB_no (by omega)
    have h0 : ¬ ((b : Int) < 128) := by omega
    go_enter Tryz.func83, Tryz.ntmps83
    go_wp2_with (go_at_call 57; refine (l1In_any _ _ _ _).mono ?_; rintro e w' ⟨rfl, rfl⟩)
    go_ret
    exact ⟨rfl, rfl⟩
  · rw [hm]
    clear hm
    have i1 : inB (b : Int) 194 223 = true := inB_yes (by omega)
    have h0 : ¬ ((b : Int) < 128) := by omega
    go_enter Tryz.func83, Tryz.ntmps83
    go_wp2_with (go_at_call 57; refine (l1In_any _ _ _ _).mono ?_; rintro e w' ⟨rfl, rfl⟩)
    go_ret
    exact ⟨rfl, rfl⟩
  · rw [hm]
    clear hm
    have i1 : inB (b : Int) 194 223 = false := inB_no (by omega)
    have i2 : inB (b : Int) 224 239 = true := inB_yes (by omega)
    have h0 : ¬ ((b : Int) < 128) := by omega
    go_enter Tryz.func83, Tryz.ntmps83
    go_wp2_with (go_at_call 57; refine (l1In_any _ _ _ _).mono ?_; rintro e w' ⟨rfl, rfl⟩)
    go_ret
    exact ⟨rfl, rfl⟩
  · rw [hm]
    clear hm
    have i1 : inB (b : Int) 194 223 = false := inB_no (by omega)
    have i2 : inB (b : Int) 224 239 = false := inB_no (by omega)
    have i3 : inB (b : Int) 240 244 = true := inB_yes (by omega)
    have h0 : ¬ ((b : Int) < 128) := by omega
    go_enter Tryz.func83, Tryz.ntmps83
    go_wp2_with (go_at_call 57; refine (l1In_any _ _ _ _).mono ?_; rintro e w' ⟨rfl, rfl⟩)
    go_ret
    exact ⟨rfl, rfl⟩

theorem span_cases (a : Nat) : (a = 224 ∧ loN a = 160 ∧ hiN a = 191) ∨ (a = 237 ∧ loN a = 128 ∧ hiN a = 159) ∨ (a = 240 ∧ loN a = 144 ∧ hiN a = 191) ∨ (a = 244 ∧ loN a = 128 ∧ hiN a = 143) ∨
    (((a : Int) == 224) = false ∧ ((a : Int) == 237) = false ∧ ((a : Int) == 240) = false ∧ ((a : Int) == 244) = false ∧ loN a = 128 ∧ hiN a = 191) := by
  have e : ∀ k : Int, ((a : Int) == k) = false ↔ (a : Int) ≠ k := fun k => beq_eq_false_iff_ne
  simp only [e]
  unfold loN hiN
  repeat' split
  all_goals omega

set_option maxHeartbeats 2000000 in
theorem l1Second_any (a b : Nat) (w : World) :
    Calls Tryz.prog 84 #[.int .i64 (a : Int), .int .i64 (b : Int)] w fun e w' => e = .returned (.bool (fits a 1 b)) ∧ w' = w := by
  have hf : fits a 1 b = inB (b : Int) (loN a : Int) (hiN a : Int) := by
    unfold fits inB
    rw [if_pos rfl]
    exact decide_eq_decide.2 (by omega)
  rw [hf]
  clear hf
  rcases span_cases a with ⟨rfl, h1, h2⟩ | ⟨rfl, h1, h2⟩ | ⟨rfl, h1, h2⟩ | ⟨rfl, h1, h2⟩ | ⟨g1, g2, g3, g4, h1, h2⟩
  all_goals
    rw [h1, h2]
    clear h1 h2
    go_enter Tryz.func84, Tryz.ntmps84
    go_wp2_with (go_at_call 57; refine (l1In_any _ _ _ _).mono ?_; rintro e w' ⟨rfl, rfl⟩)
    go_ret
    exact ⟨rfl, rfl⟩

end Go.Proofs.YtkngdlbedelgnaaGreatDoor.Sg
