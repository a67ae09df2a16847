/- Contracts of the model's IsLetter, IsFirst and IsNext. -/
import Derived.Test.YtmmbgbapclnclaaDoorGOwn
import Derived.Test.YtmmbgbapclnclaaDoorKdIn
import Derived.BigQuiet
import Derived.Deep.QuietTactic
namespace Go.Proofs.YtmmbgbapclnclaaDoor.Sg
open Go.ChangeShapes Go.WideShapes Go.ChangeAt Go.RowKit

/-- Spans, their ends one behind the other from a block's beginning. -/
def Pairs (w : World) (b : Nat) (l : List (Int × Int)) : Prop :=
  b < w.heap.size ∧ ∀ k, k < l.length → w.cell? ⟨b, k * 2, none⟩ = some (.int .i64 (l.getD k (0, 0)).1) ∧ w.cell? ⟨b, k * 2 + 1, none⟩ = some (.int .i64 (l.getD k (0, 0)).2)


def pairCells : List (Int × Int) → List Value
  | [] => []
  | p :: l => .int .i64 p.1 :: .int .i64 p.2 :: pairCells l

theorem pairCells_at : ∀ (l : List (Int × Int)) (k : Nat), k < l.length → (pairCells l)[k * 2]? = some (.int .i64 (l.getD k (0, 0)).1) ∧ (pairCells l)[k * 2 + 1]? = some (.int .i64 (l.getD k (0, 0)).2)
  | [], k, h => absurd h (Nat.not_lt_zero _)
  | p :: l, 0, _ => by simp [pairCells]
  | p :: l, k + 1, h => by
    have ih := pairCells_at l k (by simpa using h)
    have e1 : (k + 1) * 2 = k * 2 + 1 + 1 := by omega
    rw [e1]
    simpa [pairCells] using ih

theorem Pairs.laid (w : World) (l : List (Int × Int)) (C : Array Value) (t : TypeId) (hC : C = (pairCells l).toArray) : Pairs (w.alloc (.cells C t)) w.heap.size l := by
  subst hC
  refine ⟨by simp, fun k hk => ?_⟩
  obtain ⟨h1, h2⟩ := pairCells_at l k hk
  rw [World.cell?_alloc_new, World.cell?_alloc_new, List.getElem?_toArray, List.getElem?_toArray]
  exact ⟨h1, h2⟩



end Go.Proofs.YtmmbgbapclnclaaDoor.Sg
