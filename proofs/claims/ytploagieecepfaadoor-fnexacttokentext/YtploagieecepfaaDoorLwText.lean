/- Contracts of the laws' marks of texts, and of attributes compared. -/
import Derived.Test.YtploagieecepfaaDoorGMark
import Derived.Test.YtploagieecepfaaDoorGAttrs
import Derived.Test.YtploagieecepfaaDoorLwEqAttrS
import Derived.Deep.Cut
import Derived.Deep.CutRange
import Derived.Deep.RegionHeld3
namespace Go.Proofs.YtploagieecepfaaDoor.Sg
open Go.ChangeShapes Go.WideShapes Go.ChangeAt Go.RowKit

/-- n attributes marked from k on. -/
def markL (k n : Nat) : List AttrB := (List.range n).map fun i => (markB (k + 2 * i), markB (k + 2 * i + 1))
theorem markL_length (k n : Nat) : (markL k n).length = n := by simp [markL]
theorem markL_cells (k n j : Nat) (h : j < n * 2) : (attrCells (markL k n))[j]? = some (.string (markB (k + j))) := by
  have hl : j / 2 < (markL k n).length := by rw [markL_length]; omega
  obtain ⟨h1, h2⟩ := attrCells_at (markL k n) (j / 2) hl
  have e : (markL k n).getD (j / 2) (ByteArray.empty, ByteArray.empty) = (markB (k + 2 * (j / 2)), markB (k + 2 * (j / 2) + 1)) := by
    rw [markL_length] at hl
    simp [markL, hl]
  rw [e] at h1 h2
  rcases Nat.mod_two_eq_zero_or_one j with hm | hm
  · have ej : j / 2 * 2 = j := by omega
    rw [ej] at h1
    rw [h1]
    show some (Value.string (markB (k + 2 * (j / 2)))) = _
    rw [show k + 2 * (j / 2) = k + j by omega]
  · have ej : j / 2 * 2 + 1 = j := by omega
    rw [ej] at h2
    rw [h2]
    show some (Value.string (markB (k + 2 * (j / 2) + 1))) = _
    rw [show k + 2 * (j / 2) + 1 = k + j by omega]

theorem own_of_rowIs {w : World} {B g cap n k : Nat} {e : TypeId} {f : Nat → Value} (hB : B ≤ g) (hn : n ≤ cap) (hm : cap ≤ maxLen) (h : w.rowIs g e (cap * 2) f) (hf : ∀ j, j < n * 2 → f j = .string (markB (k + j))) :
    w.ownsRow B e 2 (.slice (some ⟨g, 0, none⟩) n cap) n (attrCells (markL k n)) := by
  obtain ⟨c, hb, hc, hv⟩ := h
  refine ⟨by rw [attrCells_length, markL_length], .inr ⟨g, cap, c, rfl, hB, hb, hn, hm, hc, ?_⟩⟩
  apply List.ext_getElem?
  intro j
  by_cases hj : j < n * 2
  · rw [List.getElem?_take_of_lt hj, Array.getElem?_toList, hv j (by omega), hf j hj, markL_cells k n j hj]
  · rw [List.getElem?_eq_none (by simp; omega), List.getElem?_eq_none (by rw [attrCells_length, markL_length]; omega)]

end Go.Proofs.YtploagieecepfaaDoor.Sg
