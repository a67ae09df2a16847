/- The program's textSignAt. What the model's XmlName hands back, at any place; its contract. Contracts of the program's spans. -/
import Derived.Test.YthikgkhnhbaccaaDoorMO09
import Derived.Test.YthikgkhnhbaccaaDoorMO10
import Derived.Test.YthikgkhnhbaccaaDoorMO18
import Derived.Test.YthikgkhnhbaccaaDoorMO05
import Derived.Test.YthikgkhnhbaccaaDoorMO14
namespace Go.Proofs.YthikgkhnhbaccaaDoor.Sg
open Go.ChangeShapes Go.WideShapes Go.ChangeAt Go.RowKit

/-- What the world holds, and how long the library's own number is. -/
def PcX (a : Addr) (w : World) : Prop := PcT a w ∧ MaxLen w
theorem PcX.below {a : Addr} {w w' : World} (h : PcX a w) (hb : Below w.heap.size w w') : PcX a w' := ⟨h.1.below hb, h.2.below hb⟩

/-- A text's sign, as it is or as a reference: its bytes, and the place behind it. -/
def tsO (s : ByteArray) (k : Nat) (h : k < s.size) : Option (ByteArray × Nat) := if s[k]'h = 38 then xrefR s k else if psignB s k then some (s.extract k (k + (getS s k).2), k + (getS s k).2) else none

end Go.Proofs.YthikgkhnhbaccaaDoor.Sg

namespace Go.Proofs.YthikgkhnhbaccaaDoor.Sg
open Go.ChangeShapes Go.WideShapes Go.ChangeAt Go.RowKit

def xnS (s : ByteArray) (i : Int) : ByteArray := if 0 ≤ i ∧ i ≤ s.size then s.extract i.toNat (xnameE s true i.toNat) else ⟨#[]⟩
def xnI (s : ByteArray) (i : Int) : Int := if 0 ≤ i ∧ i ≤ s.size then (xnameE s true i.toNat : Int) else i

end Go.Proofs.YthikgkhnhbaccaaDoor.Sg

namespace Go.Proofs.YthikgkhnhbaccaaDoor.Sg
open Go.ChangeShapes Go.WideShapes Go.ChangeAt Go.RowKit

/-- Some spans lie one behind the other from a block's beginning. -/
def Spans (w : World) (b : Nat) (l : List (Int × Int)) : Prop :=
  b < w.heap.size ∧ ∀ k, k < l.length → w.cell? ⟨b, k * 2, none⟩ = some (.int .i64 (l.getD k (0, 0)).1) ∧ w.cell? ⟨b, k * 2 + 1, none⟩ = some (.int .i64 (l.getD k (0, 0)).2)

theorem heap_new (w : World) (o : Obj) : (w.alloc o).heap[w.heap.size]? = some o := by
  show (w.heap.push o)[w.heap.size]? = _
  simp

/-- Two cells of a block of two, written. -/
theorem two_cells (w : World) (b : Nat) (x y x' y' : Value) (t : TypeId) (h : w.heap[b]? = some (.cells #[x, y] t)) :
    ((w.setCell ⟨b, 0, none⟩ x').setCell ⟨b, 1, none⟩ y').cell? ⟨b, 0, none⟩ = some x' ∧ ((w.setCell ⟨b, 0, none⟩ x').setCell ⟨b, 1, none⟩ y').cell? ⟨b, 1, none⟩ = some y' := by
  have h0 : w.cell? ⟨b, 0, none⟩ = some x := by simp [World.cell?, h]
  have h1 : w.cell? ⟨b, 1, none⟩ = some y := by simp [World.cell?, h]
  have h2 : (w.setCell ⟨b, 0, none⟩ x').cell? ⟨b, 1, none⟩ = some y := (World.cell?_setCell_other _ _ _ _ (by simp)).trans h1
  exact ⟨(World.cell?_setCell_other _ _ _ _ (by simp)).trans (World.cell?_setCell_same _ _ _ h0), World.cell?_setCell_same _ _ _ h2⟩

/-- A block of spans, as a literal lays it. -/
def spanCells : List (Int × Int) → List Value
  | [] => []
  | p :: l => .int .i64 p.1 :: .int .i64 p.2 :: spanCells l

theorem spanCells_at : ∀ (l : List (Int × Int)) (k : Nat), k < l.length → (spanCells l)[k * 2]? = some (.int .i64 (l.getD k (0, 0)).1) ∧ (spanCells l)[k * 2 + 1]? = some (.int .i64 (l.getD k (0, 0)).2)
  | [], k, h => absurd h (Nat.not_lt_zero _)
  | p :: l, 0, _ => by simp [spanCells]
  | p :: l, k + 1, h => by
    have ih := spanCells_at l k (by simpa using h)
    have e1 : (k + 1) * 2 = k * 2 + 1 + 1 := by omega
    rw [e1]
    simpa [spanCells] using ih

theorem Spans.laid (w : World) (l : List (Int × Int)) (t : TypeId) : Spans (w.alloc (.cells (spanCells l).toArray t)) w.heap.size l := by
  refine ⟨by simp, fun k hk => ?_⟩
  obtain ⟨h1, h2⟩ := spanCells_at l k hk
  rw [World.cell?_alloc_new, World.cell?_alloc_new, List.getElem?_toArray, List.getElem?_toArray]
  exact ⟨h1, h2⟩

theorem Spans.at_second (w : World) (o : Obj) (l : List (Int × Int)) (C : Array Value) (t : TypeId) (hC : C = (spanCells l).toArray) : Spans ((w.alloc o).alloc (.cells C t)) (w.heap.size + 1) l := by
  subst hC
  have h := Spans.laid (w.alloc o) l t
  rw [World.size_alloc] at h
  exact h



end Go.Proofs.YthikgkhnhbaccaaDoor.Sg
