/- Contracts of the model's way over an attribute's name, and of where a tag's name begins. -/
import Derived.Test.YtmambbknljgjcaaDoorTkSkip
namespace Go.Proofs.YtmambbknljgjcaaDoor.Sg
open Go.ChangeShapes Go.WideShapes Go.ChangeAt Go.RowKit

/-- From the second byte on '=' ends a name. -/
def nameAtU (angle first : Bool) (b : UInt8) : Bool := if first then firstU angle b else nameU angle b

theorem nameE_go {angle : Bool} {s : ByteArray} {i k : Nat} (hlt : k < s.size) (hik : i ≤ k) (h : nameAtU angle (decide (k = i)) (s[k]'hlt) = true)
    (hinv : k = i ∨ nameE angle s i = runE (nameU angle) s k) : i ≤ k + 1 ∧ nameE angle s i = runE (nameU angle) s (k + 1) := by
  refine ⟨by omega, ?_⟩
  unfold nameAtU at h
  by_cases he : k = i
  · subst he
    rw [decide_eq_true rfl, if_pos rfl] at h
    exact nameE_yes hlt h
  · rw [decide_eq_false he, if_neg (by simp)] at h
    rcases hinv with hinv | hinv
    · exact absurd hinv he
    · rw [hinv, runE_yes hlt h]
theorem nameE_stop {angle : Bool} {s : ByteArray} {i k : Nat} (hlt : k < s.size) (h : nameAtU angle (decide (k = i)) (s[k]'hlt) = false)
    (hinv : k = i ∨ nameE angle s i = runE (nameU angle) s k) : nameE angle s i = k := by
  unfold nameAtU at h
  by_cases he : k = i
  · subst he
    rw [decide_eq_true rfl, if_pos rfl] at h
    exact nameE_no hlt h
  · rw [decide_eq_false he, if_neg (by simp)] at h
    rcases hinv with hinv | hinv
    · exact absurd hinv he
    · rw [hinv, runE_no hlt h]
theorem nameE_past {angle : Bool} {s : ByteArray} {i k : Nat} (hlt : ¬ k < s.size) (hinv : k = i ∨ nameE angle s i = runE (nameU angle) s k) : nameE angle s i = k := by
  rcases hinv with rfl | hinv
  · exact nameE_end hlt
  · rw [hinv, runE_end hlt]

/-- Where a tag's name begins. -/
def afterE (s : ByteArray) (i : Nat) : Nat := if (tailL s (i + 1)).head? = some 47 then i + 2 else i + 1


theorem afterE_le {s : ByteArray} {i : Nat} (h : i < s.size) : i + 1 ≤ afterE s i ∧ afterE s i ≤ s.size := by
  unfold afterE
  split
  · rename_i he
    refine ⟨by omega, ?_⟩
    apply Classical.byContradiction
    intro hc
    rw [tailL_end s (i + 1) (by omega)] at he
    cases he
  · omega

end Go.Proofs.YtmambbknljgjcaaDoor.Sg
