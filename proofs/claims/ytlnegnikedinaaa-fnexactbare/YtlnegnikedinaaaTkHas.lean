/- Attributes of a name. -/
import Derived.Test.YtlnegnikedinaaaGAttrs
import Derived.Test.YtlnegnikedinaaaKdIn
namespace Go.Proofs.Ytlnegnikedinaaa.Sg
open Go.ChangeShapes Go.WideShapes Go.ChangeAt Go.RowKit

/-- An attribute of that name is there. -/
def hasA (l : List AttrB) (x : ByteArray) : Bool := l.any fun p => p.1.toList == x.toList
theorem hasA_drop (l : List AttrB) (x : ByteArray) (k : Nat) (h : k < l.length) : hasA (l.drop k) x = (((l.getD k (ByteArray.empty, ByteArray.empty)).1.toList == x.toList) || hasA (l.drop (k + 1)) x) := by
  have e : l.getD k (ByteArray.empty, ByteArray.empty) = l[k]'h := by simp [List.getD, h]
  unfold hasA
  rw [List.drop_eq_getElem_cons h, List.any_cons, e]


end Go.Proofs.Ytlnegnikedinaaa.Sg
