/- Texts in memory, one behind the other. -/
import Derived.Test.YtploagieecepfaaSgOk
import Derived.Below
namespace Go.Proofs.Ytploagieecepfaa.Sg
open Go.ChangeShapes Go.WideShapes Go.ChangeAt Go.RowKit

/-- A text of some bytes. -/
def strB (l : List UInt8) : ByteArray := ⟨l.toArray⟩
theorem strB_size (l : List UInt8) : (strB l).size = l.length := by simp [strB, ByteArray.size]
theorem strB_inj {l m : List UInt8} (h : strB l = strB m) : l = m := by
  have := congrArg (fun s : ByteArray => s.data.toList) h
  simpa [strB] using this
theorem strB_of (s : ByteArray) : strB s.data.toList = s := by simp [strB]

theorem str_eq {y : List UInt8} {s : ByteArray} (h : y = s.data.toList) : ((strB y).toList == s.toList) = true := by
  rw [ByteArray.toList_eq, ByteArray.toList_eq, ← h]
  simp [strB]
theorem str_ne {y : List UInt8} {s : ByteArray} (h : y ≠ s.data.toList) : ((strB y).toList == s.toList) = false := by
  rw [ByteArray.toList_eq, ByteArray.toList_eq]
  simpa [strB] using h

/-- Texts lie one behind the other from a block's beginning. -/
def Texts (w : World) (b : Nat) (ls : List (List UInt8)) : Prop :=
  b < w.heap.size ∧ ∀ k, k < ls.length → w.cell? ⟨b, k, none⟩ = some (.string (strB (ls.getD k [])))

theorem Texts.laid (w : World) (ls : List (List UInt8)) (C : Array Value) (t : TypeId) (hC : C = (ls.map fun l => Value.string (strB l)).toArray) : Texts (w.alloc (.cells C t)) w.heap.size ls := by
  subst hC
  refine ⟨by simp, fun k hk => ?_⟩
  rw [World.cell?_alloc_new, List.getElem?_toArray, List.getElem?_map]
  simp [List.getD, hk]

theorem Texts.below {w w' : World} {b : Nat} {ls : List (List UInt8)} (h : Texts w b ls) {B : Nat} (hB : b < B) (hb : Below B w w') : Texts w' b ls :=
  ⟨Nat.lt_of_lt_of_le h.1 hb.size, fun k hk => (hb.cell hB).trans (h.2 k hk)⟩

end Go.Proofs.Ytploagieecepfaa.Sg
