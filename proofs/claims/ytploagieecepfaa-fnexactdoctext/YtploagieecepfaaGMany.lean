/- A block of some cells that may be written. -/
import Derived.Test.YtploagieecepfaaSgOk
import Derived.Below
namespace Go.Proofs.Ytploagieecepfaa.Sg
open Go.ChangeShapes Go.WideShapes Go.ChangeAt Go.RowKit

/-- A block has n cells that may be written. -/
def Many (n : Nat) (w : World) (b : Nat) (f : Nat → Value) : Prop := b < w.heap.size ∧ ∀ i, i < n → w.cell? ⟨b, i, none⟩ = some (f i) ∧ w.frozen? ⟨b, i, none⟩ = false
theorem Many.set {n : Nat} {w : World} {b i : Nat} {f : Nat → Value} (h : Many n w b f) (v : Value) : Many n (w.setCell ⟨b, i, none⟩ v) b (fun j => if j = i then v else f j) := by
  refine ⟨by simpa using h.1, fun j hj => ⟨?_, by simpa using (h.2 j hj).2⟩⟩
  show _ = some (if j = i then v else f j)
  by_cases e : j = i
  · subst e
    rw [if_pos rfl]
    exact World.cell?_setCell_same _ _ _ (h.2 j hj).1
  · rw [if_neg e]
    exact (World.cell?_setCell_other _ _ _ _ (by intro e2; apply e; exact (congrArg Addr.off e2).symm)).trans (h.2 j hj).1
theorem Many.other {n : Nat} {w : World} {b c i : Nat} {f : Nat → Value} (h : Many n w b f) (hc : c ≠ b) (v : Value) : Many n (w.setCell ⟨c, i, none⟩ v) b f :=
  ⟨by simpa using h.1, fun j hj => ⟨(World.cell?_setCell_other _ _ _ _ (fun e => hc (congrArg Addr.block e))).trans (h.2 j hj).1, by simpa using (h.2 j hj).2⟩⟩
theorem Many.below {n : Nat} {w w' : World} {b B : Nat} {f : Nat → Value} (h : Many n w b f) (hB : b < B) (hb : Below B w w') : Many n w' b f :=
  ⟨Nat.lt_of_lt_of_le h.1 hb.size, fun j hj => ⟨(hb.cell hB).trans (h.2 j hj).1, (hb.frozen hB).trans (h.2 j hj).2⟩⟩
theorem Many.new (w : World) (xs : List Value) (t : TypeId) (d : Value) : Many xs.length (w.alloc (.cells xs.toArray t)) w.heap.size (fun i => xs.getD i d) := by
  refine ⟨by simp, fun j hj => ⟨?_, by simp⟩⟩
  rw [World.cell?_alloc_new, List.getElem?_toArray]
  simp [List.getD, hj]

end Go.Proofs.Ytploagieecepfaa.Sg
