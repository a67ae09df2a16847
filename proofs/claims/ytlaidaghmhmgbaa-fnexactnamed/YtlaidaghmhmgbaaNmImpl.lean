/- Contract of the program's namedSigns; blocks of two cells. -/
import Derived.Test.YtlaidaghmhmgbaaGTexts
import Derived.Test.YtlaidaghmhmgbaaRfP
namespace Go.Proofs.Ytlaidaghmhmgbaa.Sg
open Go.ChangeShapes Go.WideShapes Go.ChangeAt Go.RowKit

/-- The cells of names and signs. -/
def namCells : List (List UInt8 × Int) → List Value
  | [] => []
  | p :: l => .string (strB p.1) :: .int .i64 p.2 :: namCells l
theorem namCells_at : ∀ (l : List (List UInt8 × Int)) (k : Nat), k < l.length → (namCells l)[k * 2]? = some (.string (strB ((l.map (·.1)).getD k []))) ∧ (namCells l)[k * 2 + 1]? = some (.int .i64 ((l.map (·.2)).getD k 0))
  | [], k, h => absurd h (Nat.not_lt_zero _)
  | p :: l, 0, _ => by simp [namCells]
  | p :: l, k + 1, h => by
    have ih := namCells_at l k (by simpa using h)
    have e1 : (k + 1) * 2 = k * 2 + 1 + 1 := by omega
    rw [e1]
    simpa [namCells] using ih

/-- The names and their signs lie one behind the other from a block's beginning. -/
def NamesAt (w : World) (b : Nat) : Prop :=
  ∀ k, k < 14 → w.cell? ⟨b, k * 2, none⟩ = some (.string (strB (nameL.getD k []))) ∧ w.cell? ⟨b, k * 2 + 1, none⟩ = some (.int .i64 (signL.getD k 0))

theorem NamesAt.laid (w : World) (C : Array Value) (t : TypeId) (hC : C = (namCells nameT).toArray) : NamesAt (w.alloc (.cells C t)) w.heap.size := by
  subst hC
  intro k hk
  rw [World.cell?_alloc_new, World.cell?_alloc_new, List.getElem?_toArray, List.getElem?_toArray]
  exact namCells_at nameT k hk
theorem NamesAt.below {w w' : World} {b : Nat} (h : NamesAt w b) {B : Nat} (hB : b < B) (hb : Below B w w') : NamesAt w' b :=
  fun k hk => ⟨(hb.cell hB).trans (h k hk).1, (hb.cell hB).trans (h k hk).2⟩
theorem NamesAt.alloc {w : World} {b : Nat} (h : NamesAt w b) (hB : b < w.heap.size) (o : Obj) : NamesAt (w.alloc o) b :=
  fun k hk => ⟨(World.cell?_alloc_past o b _ hB).trans (h k hk).1, (World.cell?_alloc_past o b _ hB).trans (h k hk).2⟩
theorem NamesAt.set {w : World} {b c i : Nat} (h : NamesAt w b) (hB : c ≠ b) (v : Value) : NamesAt (w.setCell ⟨c, i, none⟩ v) b :=
  fun k hk => ⟨(World.cell?_setCell_other _ _ _ _ (fun e => hB (congrArg Addr.block e))).trans (h k hk).1, (World.cell?_setCell_other _ _ _ _ (fun e => hB (congrArg Addr.block e))).trans (h k hk).2⟩

/-- A block has two cells that may be written. -/
def Two (w : World) (b : Nat) (x y : Value) : Prop :=
  b < w.heap.size ∧ w.cell? ⟨b, 0, none⟩ = some x ∧ w.cell? ⟨b, 1, none⟩ = some y ∧ w.frozen? ⟨b, 0, none⟩ = false ∧ w.frozen? ⟨b, 1, none⟩ = false
theorem Two.new (w : World) (x y : Value) (t : TypeId) : Two (w.alloc (.cells #[x, y] t)) w.heap.size x y :=
  ⟨by simp, by simp, by simp, by simp, by simp⟩
theorem Two.below {w w' : World} {b : Nat} {x y : Value} (h : Two w b x y) {B : Nat} (hB : b < B) (hb : Below B w w') : Two w' b x y :=
  ⟨Nat.lt_of_lt_of_le h.1 hb.size, (hb.cell hB).trans h.2.1, (hb.cell hB).trans h.2.2.1, (hb.frozen hB).trans h.2.2.2.1, (hb.frozen hB).trans h.2.2.2.2⟩
theorem Two.alloc {w : World} {b : Nat} {x y : Value} (h : Two w b x y) (o : Obj) : Two (w.alloc o) b x y :=
  h.below h.1 ((Below.refl _ _).alloc (Nat.le_refl _) _)
theorem Two.other {w : World} {b c i : Nat} {x y : Value} (h : Two w b x y) (hB : c ≠ b) (v : Value) : Two (w.setCell ⟨c, i, none⟩ v) b x y :=
  ⟨by simpa using h.1, (World.cell?_setCell_other _ _ _ _ (fun e => hB (congrArg Addr.block e))).trans h.2.1, (World.cell?_setCell_other _ _ _ _ (fun e => hB (congrArg Addr.block e))).trans h.2.2.1, by simpa using h.2.2.2.1, by simpa using h.2.2.2.2⟩
theorem Two.set {w : World} {b : Nat} {x y : Value} (h : Two w b x y) (x' y' : Value) : Two ((w.setCell ⟨b, 0, none⟩ x').setCell ⟨b, 1, none⟩ y') b x' y' :=
  ⟨by simpa using h.1, (World.cell?_setCell_other _ _ _ _ (by simp)).trans (World.cell?_setCell_same _ _ _ h.2.1), World.cell?_setCell_same _ _ _ ((World.cell?_setCell_other _ _ _ _ (by simp)).trans h.2.2.1), by simpa using h.2.2.2.1, by simpa using h.2.2.2.2⟩

set_option maxHeartbeats 1000000 in
theorem implNamedSigns (w : World) :
    Calls Try.prog 18 #[] w fun e w' => e = .returned (.slice (some ⟨w.heap.size, 0, none⟩) 14 14) ∧ NamesAt w' w.heap.size ∧ w.heap.size < w'.heap.size ∧ Below w.heap.size w w' := by
  go_enter Try.func18, Try.ntmps18
  go_wp2
  go_ret
  exact ⟨rfl, NamesAt.laid w _ _ rfl, by simp, (Below.refl _ _).alloc (Nat.le_refl _) _⟩

end Go.Proofs.Ytlaidaghmhmgbaa.Sg
