/- The program's writer: texts are put behind what is written. -/
import Derived.Test.YtploagieecepfaaGBuild
import Derived.Test.YtploagieecepfaaXmEscP
namespace Go.Proofs.Ytploagieecepfaa.Sg
open Go.ChangeShapes Go.WideShapes Go.ChangeAt Go.RowKit

/-- A builder in block b, of which so much is written; all of it lies from block B on. -/
def Bl (B b : Nat) (acc : List UInt8) (w : World) : Prop := Lib.IsBuilderF 40 5 B b (Lib.byteCells acc) w
theorem Bl.block {B b : Nat} {acc : List UInt8} {w : World} (h : Bl B b acc w) : B ≤ b ∧ ∃ c, w.heap[b]? = some (.cells c 40 (0, 0)) := by
  rcases h with ⟨h1, v, h2, _⟩ | ⟨h1, v, h2, _⟩
  · exact ⟨h1, _, h2⟩
  · exact ⟨h1, _, h2⟩
theorem Bl.below {B b : Nat} {acc : List UInt8} {w w' : World} (h : Bl B b acc w) (hb : Below w.heap.size w w') : Bl B b acc w' := h.imp (fun h => at_below h hb) (fun h => at_below h hb)
/-- What is kept while something is written. -/
structure Kp (B b : Nat) (w w' : World) : Prop where
  bel : Below B w w'
  oth : Lib.OthersKept 5 (some b) w w'
theorem Kp.refl (B b : Nat) (w : World) : Kp B b w w := ⟨Below.refl _ _, Lib.OthersKept.refl _ _ _⟩
theorem Kp.trans {B b : Nat} {w w' w'' : World} (h : Kp B b w w') (k : Kp B b w' w'') : Kp B b w w'' := ⟨h.bel.trans k.bel, h.oth.trans k.oth⟩
theorem Kp.of {B b : Nat} {w w' : World} (h : Below w.heap.size w w') (hB : B ≤ w.heap.size) : Kp B b w w' :=
  ⟨h.mono hB, fun k _ hk _ _ => (h.block k (Array.getElem?_eq_some_iff.1 hk).1).trans hk⟩
theorem Kp.size {B b : Nat} {w w' : World} (h : Kp B b w w') : w.heap.size ≤ w'.heap.size := h.bel.size
theorem Kp.obj {B b k : Nat} {w w' : World} {c : Array Value} {t : TypeId} {f : Nat × Nat} (h : Kp B b w w') (hk : w.heap[k]? = some (.cells c t f)) (ht : t ≠ 5) (hb : k ≠ b) : w'.heap[k]? = some (.cells c t f) :=
  h.oth k _ hk (fun e => hb (Option.some.inj e)) (fun c' f' e => ht (by cases e; rfl))
theorem cell_in {w : World} {k : Nat} {c : Array Value} {t : TypeId} {f : Nat × Nat} (h : w.heap[k]? = some (.cells c t f)) (i : Nat) : w.cell? ⟨k, i, none⟩ = c[i]? := by
  rw [Lib.cell_of_heap h]
theorem frozen_in {w : World} {k : Nat} {c : Array Value} {t : TypeId} (h : w.heap[k]? = some (.cells c t (0, 0))) (i : Nat) : w.frozen? ⟨k, i, none⟩ = false := Lib.frozen_of_heap h i

def catB (ps : List ByteArray) : List UInt8 := ps.flatMap fun p => p.data.toList
theorem catB_take (ps : List ByteArray) (k : Nat) (h : k < ps.length) : catB (ps.take (k + 1)) = catB (ps.take k) ++ (ps[k]'h).data.toList := by
  unfold catB
  rw [List.take_succ_eq_append_getElem h, List.flatMap_append, List.flatMap_cons, List.flatMap_nil, List.append_nil]
theorem catB_le (ps : List ByteArray) (k : Nat) : (catB (ps.take k)).length ≤ (catB ps).length := by
  have e : catB ps = catB (ps.take k) ++ catB (ps.drop k) := by
    unfold catB
    rw [← List.flatMap_append, List.take_append_drop]
  rw [e, List.length_append]
  omega
theorem catB_at (ps : List ByteArray) (k : Nat) (h : k < ps.length) : (catB (ps.take k)).length + (ps[k]'h).size ≤ (catB ps).length := by
  have h1 := catB_le ps (k + 1)
  rw [catB_take ps k h, List.length_append] at h1
  exact h1
theorem byteCells_app (a : List UInt8) (s : ByteArray) : Lib.byteCells (a ++ s.data.toList) = Lib.byteCells a ++ Lib.strCells s := by simp [Lib.byteCells, Lib.strCells]

end Go.Proofs.Ytploagieecepfaa.Sg
