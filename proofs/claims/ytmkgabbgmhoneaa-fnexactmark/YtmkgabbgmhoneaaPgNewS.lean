/- Contract of the model's PageNew. -/
import Derived.Test.YtmkgabbgmhoneaaLwPgNew
namespace Go.Proofs.Ytmkgabbgmhoneaa.Sg
open Go.ChangeShapes Go.WideShapes Go.ChangeAt Go.RowKit

theorem nil_row (w : World) (B : Nat) (e : TypeId) (z : Nat) : w.ownsRow B e z (.slice none 0 0) 0 [] := ⟨by simp, .inl ⟨rfl, rfl⟩⟩

/-- A new page lies in one new block. -/
theorem new_page {w : World} {B g : Nat} (hB : B ≤ g) (hg : w.heap[g]? = some (.cells #[.int .i64 1, .int .i64 0, .string ⟨#[]⟩, .slice none 0 0, .string ⟨#[]⟩, .int .i64 (-1), .slice none 0 0] 51 (0, 0))) :
    OwnPg w B (.agg #[.slice (some ⟨g, 0, none⟩) 1 1, .slice none 0 0, .slice none 0 0, .int .i64 0, .int .i64 0]) pgNew := by
  refine ⟨_, _, _, rfl, [(⟨1, 0, ⟨#[]⟩, [], ⟨#[]⟩, -1, []⟩, .slice none 0 0, .slice none 0 0)], rfl, ⟨rfl, .inr ⟨g, 1, _, rfl, hB, hg, Nat.le_refl _, by decide, rfl, rfl⟩⟩, ⟨fun q hq => ?_, List.pairwise_singleton _ _⟩, nil_row _ _ _ _, nil_row _ _ _ _, ⟨fun b hb => (by simp [Value.ownBlock] at hb), fun q hq b hb => ?_⟩⟩
  · obtain rfl := List.mem_singleton.1 hq
    exact ⟨nil_row _ _ _ _, nil_row _ _ _ _⟩
  · obtain rfl := List.mem_singleton.1 hq
    simp [Value.ownBlock] at hb


end Go.Proofs.Ytmkgabbgmhoneaa.Sg
