/- The program's mayStand, checkName and NameOk. -/
import Derived.Test.YtfbnhjogkjbcbaaDoorMN01
import Derived.Test.YtfbnhjogkjbcbaaDoorKdKinds
namespace Go.Proofs.YtfbnhjogkjbcbaaDoor.Sg
open Go.ChangeShapes Go.WideShapes Go.ChangeAt Go.RowKit

/-- Whether the sign at that place may stand there. -/
def stayAt (zs : List Int) (k : Nat) : Bool := stayB (decide (k = 0)) (zs.getD k 0)

theorem stName_from (zs : List Int) (m : Nat) : ∀ k, zs.length - k = m → (stNameL (decide (k = 0)) (zs.drop k) = true ↔ ∀ j, k ≤ j → j < zs.length → stayAt zs j = true) := by
  induction m with
  | zero =>
    intro k hk
    rw [List.drop_eq_nil_of_le (by omega)]
    unfold stNameL
    exact ⟨fun _ j h1 h2 => by omega, fun _ => rfl⟩
  | succ m ih =>
    intro k hk
    have hlt : k < zs.length := by omega
    rw [stNameL_drop zs k hlt, Bool.and_eq_true]
    have h1 := ih (k + 1) (by omega)
    rw [decide_eq_false (by omega : ¬ k + 1 = 0)] at h1
    rw [h1]
    constructor
    · rintro ⟨h2, h3⟩ j hj hj2
      by_cases e : j = k
      · subst e
        exact h2
      · exact h3 j (by omega) hj2
    · intro h
      exact ⟨h k (Nat.le_refl _) hlt, fun j hj hj2 => h j (by omega) hj2⟩
theorem stName_iff (zs : List Int) : stNameL true zs = true ↔ ∀ j, j < zs.length → stayAt zs j = true := by
  have h := stName_from zs zs.length 0 rfl
  rw [List.drop_zero, decide_eq_true rfl] at h
  rw [h]
  exact ⟨fun h j hj => h j (Nat.zero_le _) hj, fun h j _ hj => h j hj⟩

theorem implMayStand (z : Int) (k : Nat) (w : World) :
    Calls Tryd.prog 25 #[.int .i64 z, .int .i64 (k : Int)] w fun e w' => e = .returned (.bool (stayB (decide (k = 0)) z)) ∧ Below w.heap.size w w' := by
  by_cases h0 : k = 0
  · subst h0
    have g0 : (((0 : Nat) : Int) == 0) = true := rfl
    go_enter Tryd.func25, Tryd.ntmps25
    go_wp2_with fail
    refine (implIsFirst z _).mono ?_
    rintro e w1 ⟨rfl, b1⟩
    go_wp2_with fail
    go_ret
    exact ⟨rfl, b1⟩
  · have g0 : ((k : Int) == 0) = false := by simp; exact h0
    have Hd : Hid (stayB (decide (k = 0)) z = nextB z) := by show _ = _; rw [decide_eq_false h0]; rfl
    clear h0
    go_enter Tryd.func25, Tryd.ntmps25
    go_wp2_with fail
    refine (implIsNext z _).mono ?_
    rintro e w1 ⟨rfl, b1⟩
    go_wp2_with fail
    go_ret
    exact ⟨ret_bool Hd.out.symm, b1⟩

end Go.Proofs.YtfbnhjogkjbcbaaDoor.Sg
