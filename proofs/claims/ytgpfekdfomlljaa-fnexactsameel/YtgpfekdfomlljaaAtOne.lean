/- One attribute of several. -/
import Derived.Test.YtgpfekdfomlljaaGAttrs
namespace Go.Proofs.Ytgpfekdfomlljaa.Sg
open Go.ChangeShapes Go.WideShapes Go.ChangeAt Go.RowKit

theorem ret_bo {a b : Bool} (h : a = b) : Ending.returned (.bool a) = .returned (.bool b) := by rw [h]
theorem attrs_one {w : World} {a : Option Addr} {l : List AttrB} (h : AttrsAt w a l) (k : Nat) (hk : k < l.length) : ∃ b, a = some ⟨b, 0, none⟩ ∧ w.cell? ⟨b, k * 2, none⟩ = some (.string (l[k]'hk).1) ∧ w.cell? ⟨b, k * 2 + 1, none⟩ = some (.string (l[k]'hk).2) := by
  rcases h with h | ⟨b, h1, _, h3⟩
  · rw [h] at hk
    exact absurd hk (Nat.not_lt_zero _)
  · have h4 := h3 k hk
    simp only [List.getD, List.getElem?_eq_getElem hk, Option.getD_some] at h4
    exact ⟨b, h1, h4⟩

end Go.Proofs.Ytgpfekdfomlljaa.Sg
