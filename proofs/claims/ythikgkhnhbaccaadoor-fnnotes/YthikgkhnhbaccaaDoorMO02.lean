/- Contracts of the program's IsLetter, IsFirst and IsNext. The program's mayStand, checkName and NameOk. The program's XmlName answers as the model's. -/
import Derived.Test.YthikgkhnhbaccaaDoorMO06
import Derived.Test.YthikgkhnhbaccaaDoorStName
import Derived.Test.YthikgkhnhbaccaaDoorMO18
namespace Go.Proofs.YthikgkhnhbaccaaDoor.Sg
open Go.ChangeShapes Go.WideShapes Go.ChangeAt Go.RowKit

theorem Spans.at_first (w : World) (l : List (Int × Int)) (C : Array Value) (t : TypeId) (hC : C = (spanCells l).toArray) : Spans (w.alloc (.cells C t)) w.heap.size l := by
  subst hC
  exact Spans.laid w l t

theorem letter_no : ∀ p ∈ letterL, p ≠ (0, 0) := by decide
theorem first_no : ∀ p ∈ firstL, p ≠ (0, 0) := by decide
theorem next_no : ∀ p ∈ nextL, p ≠ (0, 0) := by decide

theorem eq_none (p : Int × Int) : (!(p.1 == 0) || !(p.2 == 0)) = !decide (p = (0, 0)) := by
  obtain ⟨a, b⟩ := p
  by_cases h1 : a = 0 <;> by_cases h2 : b = 0 <;> simp [h1, h2]

end Go.Proofs.YthikgkhnhbaccaaDoor.Sg

namespace Go.Proofs.YthikgkhnhbaccaaDoor.Sg
open Go.ChangeShapes Go.WideShapes Go.ChangeAt Go.RowKit

/-- Whether the sign at that place may stand there. -/
def stayAt (zs : List Int) (k : Nat) : Bool := stayB (decide (k = 0)) (zs.getD k 0)

theorem stName_from (zs : List Int) (m : Nat) : ∀ k, zs.length - k = m → (stNameL (decide (k = 0)) (zs.drop k) = true ↔ ∀ j, k ≤ j → j < zs.length → stayAt zs j = true) := by
  induction m with
  | zero =>
    intro k hk
    rw [List.drop_eq_nil_of_le (by omega)]
    unfold stNameL
    exact ⟨fun _ j h1 h2 => by omega, fun _ => rfl⟩
  | succ m ih =>
    intro k hk
    have hlt : k < zs.length := by omega
    rw [stNameL_drop zs k hlt, Bool.and_eq_true]
    have h1 := ih (k + 1) (by omega)
    rw [decide_eq_false (by omega : ¬ k + 1 = 0)] at h1
    rw [h1]
    constructor
    · rintro ⟨h2, h3⟩ j hj hj2
      by_cases e : j = k
      · subst e
        exact h2
      · exact h3 j (by omega) hj2
    · intro h
      exact ⟨h k (Nat.le_refl _) hlt, fun j hj hj2 => h j (by omega) hj2⟩
theorem stName_iff (zs : List Int) : stNameL true zs = true ↔ ∀ j, j < zs.length → stayAt zs j = true := by
  have h := stName_from zs zs.length 0 rfl
  rw [List.drop_zero, decide_eq_true rfl] at h
  rw [h]
  exact ⟨fun h j hj => h j (Nat.zero_le _) hj, fun h j _ hj => h j hj⟩

end Go.Proofs.YthikgkhnhbaccaaDoor.Sg

namespace Go.Proofs.YthikgkhnhbaccaaDoor.Sg
open Go.ChangeShapes Go.WideShapes Go.ChangeAt Go.RowKit

theorem ret_si {a b : ByteArray} {m n : Int} (h : a = b) (h2 : m = n) : Ending.returned (.tuple #[.string a, .int .i64 m]) = .returned (.tuple #[.string b, .int .i64 n]) := by rw [h, h2]
theorem extract_none (s : ByteArray) (k : Nat) : s.extract k k = (⟨#[]⟩ : ByteArray) := by
  apply ByteArray.ext
  apply Array.toList_inj.1
  rw [Lib.extract_data]
  simp

end Go.Proofs.YthikgkhnhbaccaaDoor.Sg
