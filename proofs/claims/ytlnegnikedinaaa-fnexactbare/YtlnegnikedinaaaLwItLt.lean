/- Plain: items that are not too many, and their lists. -/
import Derived.Test.YtlnegnikedinaaaTrP
namespace Go.Proofs.Ytlnegnikedinaaa.Sg
open Go.ChangeShapes Go.WideShapes Go.ChangeAt Go.RowKit

theorem itW_le {l : List ItB} {t : ItB} (h : t ∈ l) : itW t ≤ itsW l := by
  unfold itsW
  induction l with
  | nil => exact absurd h List.not_mem_nil
  | cons u l ih =>
    rw [List.map_cons, List.sum_cons, List.length_cons]
    rcases List.mem_cons.1 h with rfl | h
    · omega
    · have := ih h
      omega
theorem its_light {l : List ItB} (h : itsW l ≤ 1048576) : ItsW l ∧ ∀ t ∈ l, t.tx.size ≤ 1048576 := by
  refine ⟨⟨by unfold itsW at h; omega, fun t ht => ?_⟩, fun t ht => ?_⟩
  · have := itW_le ht
    unfold itW attrsW at this
    omega
  · have := itW_le ht
    unfold itW at this
    omega

end Go.Proofs.Ytlnegnikedinaaa.Sg
