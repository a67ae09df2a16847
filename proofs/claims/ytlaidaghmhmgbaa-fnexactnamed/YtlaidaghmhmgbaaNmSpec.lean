/- Contract of the model's Named. -/
import Derived.Test.YtlaidaghmhmgbaaGTexts
import Derived.Test.YtlaidaghmhmgbaaRfP
namespace Go.Proofs.Ytlaidaghmhmgbaa.Sg
open Go.ChangeShapes Go.WideShapes Go.ChangeAt Go.RowKit

set_option maxHeartbeats 1000000 in
theorem specNamed (w : World) :
    Calls Try.prog 7 #[] w fun e w' => e = .returned (.slice (some ⟨w.heap.size, 0, none⟩) 14 14) ∧ Texts w' w.heap.size nameL ∧ Below w.heap.size w w' := by
  go_enter Try.func7, Try.ntmps7
  go_wp2
  go_ret
  exact ⟨rfl, Texts.laid w nameL _ _ rfl, (Below.refl _ _).alloc (Nat.le_refl _) _⟩

end Go.Proofs.Ytlaidaghmhmgbaa.Sg
