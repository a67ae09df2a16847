/- Contracts of the model's IsLetter, IsFirst and IsNext. Contract of the model's XmlName. The contract of the model's l13Hex: a number in six digits of 16. -/
import Derived.Test.YthikgkhnhbaccaaDoorMO13
import Derived.Test.YthikgkhnhbaccaaDoorMO14
import Derived.BigQuiet
import Derived.Deep.QuietTactic
import Derived.Test.YthikgkhnhbaccaaDoorMO18
import Derived.Test.YthikgkhnhbaccaaDoorMO01
import Derived.Test.YthikgkhnhbaccaaDoorMO20
import Derived.Deep.Cut
import Derived.Deep.CutRange
import Derived.Lib.QuietBelow
import Derived.Laws.DeepStrings4
import Derived.Test.YthikgkhnhbaccaaDoorStP
namespace Go.Proofs.YthikgkhnhbaccaaDoor.Sg
open Go.ChangeShapes Go.WideShapes Go.ChangeAt Go.RowKit

/-- Spans, their ends one behind the other from a block's beginning. -/
def Pairs (w : World) (b : Nat) (l : List (Int × Int)) : Prop :=
  b < w.heap.size ∧ ∀ k, k < l.length → w.cell? ⟨b, k * 2, none⟩ = some (.int .i64 (l.getD k (0, 0)).1) ∧ w.cell? ⟨b, k * 2 + 1, none⟩ = some (.int .i64 (l.getD k (0, 0)).2)


def pairCells : List (Int × Int) → List Value
  | [] => []
  | p :: l => .int .i64 p.1 :: .int .i64 p.2 :: pairCells l

theorem pairCells_at : ∀ (l : List (Int × Int)) (k : Nat), k < l.length → (pairCells l)[k * 2]? = some (.int .i64 (l.getD k (0, 0)).1) ∧ (pairCells l)[k * 2 + 1]? = some (.int .i64 (l.getD k (0, 0)).2)
  | [], k, h => absurd h (Nat.not_lt_zero _)
  | p :: l, 0, _ => by simp [pairCells]
  | p :: l, k + 1, h => by
    have ih := pairCells_at l k (by simpa using h)
    have e1 : (k + 1) * 2 = k * 2 + 1 + 1 := by omega
    rw [e1]
    simpa [pairCells] using ih

theorem Pairs.laid (w : World) (l : List (Int × Int)) (C : Array Value) (t : TypeId) (hC : C = (pairCells l).toArray) : Pairs (w.alloc (.cells C t)) w.heap.size l := by
  subst hC
  refine ⟨by simp, fun k hk => ?_⟩
  obtain ⟨h1, h2⟩ := pairCells_at l k hk
  rw [World.cell?_alloc_new, World.cell?_alloc_new, List.getElem?_toArray, List.getElem?_toArray]
  exact ⟨h1, h2⟩



end Go.Proofs.YthikgkhnhbaccaaDoor.Sg

namespace Go.Proofs.YthikgkhnhbaccaaDoor.Sg
open Go.ChangeShapes Go.WideShapes Go.ChangeAt Go.RowKit

end Go.Proofs.YthikgkhnhbaccaaDoor.Sg

namespace Go.Proofs.YthikgkhnhbaccaaDoor.Sg
open Go.ChangeShapes Go.WideShapes Go.ChangeAt Go.RowKit

theorem i64_and15 (n : Int) : bits .and .i64 n 15 = n % 16 := (i64_low n 4 (by decide) 15 (by decide)).trans (by simp)

/-- One sign more. -/
theorem textS_more (xs : List Int) (z : Int) : textS xs ++ putS z = textS (xs ++ [z]) := by
  apply ByteArray.ext
  apply Array.toList_inj.1
  rw [ByteArray.data_append, Array.toList_append]
  show sgBytes xs ++ (putS z).data.toList = sgBytes (xs ++ [z])
  rw [sgBytes_append, sgBytes_cons, sgBytes_nil, List.append_nil]
theorem textS_app (xs ys : List Int) : textS xs ++ textS ys = textS (xs ++ ys) := by
  apply ByteArray.ext
  apply Array.toList_inj.1
  rw [ByteArray.data_append, Array.toList_append]
  show sgBytes xs ++ sgBytes ys = sgBytes (xs ++ ys)
  rw [sgBytes_append]
theorem hexS (d : Nat) (h : d < 16) : (⟨#[48, 49, 50, 51, 52, 53, 54, 55, 56, 57, 65, 66, 67, 68, 69, 70]⟩ : ByteArray).extract d (d + 1) = putS (hexZ d) := by
  have h1 : ∀ d, d < 16 → ((⟨#[48, 49, 50, 51, 52, 53, 54, 55, 56, 57, 65, 66, 67, 68, 69, 70]⟩ : ByteArray).extract d (d + 1)).data.toList = [UInt8.ofNat (hexZ d).toNat] ∧ 0 ≤ hexZ d ∧ hexZ d ≤ 127 := by decide +kernel
  obtain ⟨h2, h3, h4⟩ := h1 d h
  apply ByteArray.ext
  apply Array.toList_inj.1
  rw [h2, putS_one h3 h4]

/-- One digit more. -/
theorem hex_more (xs : List Int) (x : Nat) : textS xs ++ (⟨#[48, 49, 50, 51, 52, 53, 54, 55, 56, 57, 65, 66, 67, 68, 69, 70]⟩ : ByteArray).extract (x % 16) (x % 16 + 1) = textS (xs ++ [hexZ (x % 16)]) := by
  rw [hexS _ (Nat.mod_lt _ (by decide)), textS_more]


end Go.Proofs.YthikgkhnhbaccaaDoor.Sg
