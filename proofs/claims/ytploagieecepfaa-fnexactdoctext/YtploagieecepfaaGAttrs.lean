/- Attributes in memory. -/
import Derived.Test.YtploagieecepfaaGOwn
namespace Go.Proofs.Ytploagieecepfaa.Sg
open Go.ChangeShapes Go.WideShapes Go.ChangeAt Go.RowKit

abbrev AttrB := ByteArray × ByteArray

/-- The cells of attributes. -/
def attrCells : List AttrB → List Value
  | [] => []
  | p :: l => .string p.1 :: .string p.2 :: attrCells l
theorem attrCells_length : ∀ l, (attrCells l).length = l.length * 2
  | [] => rfl
  | _ :: l => by simp only [attrCells, List.length_cons, attrCells_length l]; omega
theorem attrCells_more (l : List AttrB) (p : AttrB) : attrCells (l ++ [p]) = attrCells l ++ [.string p.1, .string p.2] := by
  induction l with
  | nil => rfl
  | cons q l ih => simp [attrCells, ih]
theorem attrCells_at : ∀ (l : List AttrB) (k : Nat), k < l.length → (attrCells l)[k * 2]? = some (.string (l.getD k (ByteArray.empty, ByteArray.empty)).1) ∧ (attrCells l)[k * 2 + 1]? = some (.string (l.getD k (ByteArray.empty, ByteArray.empty)).2)
  | [], k, h => absurd h (Nat.not_lt_zero _)
  | p :: l, 0, _ => by simp [attrCells]
  | p :: l, k + 1, h => by
    have ih := attrCells_at l k (by simpa using h)
    have e1 : (k + 1) * 2 = k * 2 + 1 + 1 := by omega
    rw [e1]
    simpa [attrCells] using ih

/-- A slice of attributes holds just l. -/
def AttrsAt (w : World) (a : Option Addr) (l : List AttrB) : Prop :=
  l = [] ∨ ∃ b, a = some ⟨b, 0, none⟩ ∧ b < w.heap.size ∧ ∀ k, k < l.length → w.cell? ⟨b, k * 2, none⟩ = some (.string (l.getD k (ByteArray.empty, ByteArray.empty)).1) ∧ w.cell? ⟨b, k * 2 + 1, none⟩ = some (.string (l.getD k (ByteArray.empty, ByteArray.empty)).2)

theorem attrs_of_own {w : World} {base n : Nat} {e : TypeId} {v : Value} {l : List AttrB} (h : w.ownsRow base e 2 v n (attrCells l)) : ∃ a cap, v = .slice a l.length cap ∧ AttrsAt w a l := by
  obtain ⟨h1, h2⟩ := h
  rw [attrCells_length] at h1
  have hn : l.length = n := by omega
  subst hn
  rcases h2 with ⟨rfl, h0⟩ | ⟨g, cap, cur, rfl, h3, h4, h5, h6, h7, h8⟩
  · have : l = [] := List.eq_nil_of_length_eq_zero h0
    subst this
    exact ⟨none, 0, rfl, .inl rfl⟩
  · refine ⟨_, _, rfl, .inr ⟨g, rfl, (Array.getElem?_eq_some_iff.1 h4).1, fun k hk => ?_⟩⟩
    obtain ⟨a1, a2⟩ := attrCells_at l k hk
    rw [← h8] at a1 a2
    rw [List.getElem?_take_of_lt (by omega)] at a1 a2
    have c1 : cur[k * 2]? = some (.string (l.getD k (ByteArray.empty, ByteArray.empty)).1) := by simpa using a1
    have c2 : cur[k * 2 + 1]? = some (.string (l.getD k (ByteArray.empty, ByteArray.empty)).2) := by simpa using a2
    exact ⟨by simp [World.cell?, h4, c1], by simp [World.cell?, h4, c2]⟩
theorem AttrsAt.below {w w' : World} {a : Option Addr} {l : List AttrB} (h : AttrsAt w a l) (hb : Below w.heap.size w w') : AttrsAt w' a l := by
  rcases h with h | ⟨b, h1, h2, h3⟩
  · exact .inl h
  · exact .inr ⟨b, h1, Nat.lt_of_lt_of_le h2 hb.size, fun k hk => ⟨(hb.cell h2).trans (h3 k hk).1, (hb.cell h2).trans (h3 k hk).2⟩⟩

end Go.Proofs.Ytploagieecepfaa.Sg
