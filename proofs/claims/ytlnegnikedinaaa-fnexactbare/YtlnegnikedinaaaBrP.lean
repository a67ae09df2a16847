/- Plain: the names of tags, each once, in their order. -/
import Derived.Test.YtlnegnikedinaaaItMem
import Derived.Test.YtlnegnikedinaaaLwStr
namespace Go.Proofs.Ytlnegnikedinaaa.Sg
open Go.ChangeShapes Go.WideShapes Go.ChangeAt Go.RowKit

def hasT (s : ByteArray) (o : List ByteArray) : Bool := o.any fun y => y.toList == s.toList
theorem hasT_step (s : ByteArray) (o : List ByteArray) (k : Nat) (h : k < o.length) : hasT s (o.drop k) = ((o.getD k ByteArray.empty).toList == s.toList || hasT s (o.drop (k + 1))) := by
  have e : o.getD k ByteArray.empty = o[k]'h := by simp [List.getD, h]
  rw [List.drop_eq_getElem_cons h, e]
  rfl
theorem hasT_end (s : ByteArray) (o : List ByteArray) (k : Nat) (h : o.length ≤ k) : hasT s (o.drop k) = false := by
  rw [List.drop_of_length_le h]
  rfl
/-- How many stand ahead of s. -/
def lowT (s : ByteArray) : List ByteArray → Nat
  | [] => 0
  | y :: o => if Op.bytesLess y.toList s.toList then lowT s o + 1 else 0
theorem lowT_le (s : ByteArray) : ∀ o, lowT s o ≤ o.length
  | [] => Nat.le_refl _
  | y :: o => by
    rw [lowT]
    split
    · have := lowT_le s o
      rw [List.length_cons]
      omega
    · exact Nat.zero_le _
theorem lowT_step (s : ByteArray) (o : List ByteArray) (k : Nat) (h : k < o.length) : lowT s (o.drop k) = if Op.bytesLess (o.getD k ByteArray.empty).toList s.toList then lowT s (o.drop (k + 1)) + 1 else 0 := by
  have e : o.getD k ByteArray.empty = o[k]'h := by simp [List.getD, h]
  rw [List.drop_eq_getElem_cons h, lowT, e]
theorem lowT_end (s : ByteArray) (o : List ByteArray) (k : Nat) (h : o.length ≤ k) : lowT s (o.drop k) = 0 := by
  rw [List.drop_of_length_le h]
  rfl
def insT (s : ByteArray) (o : List ByteArray) : List ByteArray := o.take (lowT s o) ++ s :: o.drop (lowT s o)
theorem insT_length (s : ByteArray) (o : List ByteArray) : (insT s o).length = o.length + 1 := by
  have := lowT_le s o
  simp [insT]
  omega
def bareF : List ItB → List ByteArray → List ByteArray
  | [], o => o
  | t :: l, o => bareF l (if t.kd == 2 && !hasT t.nm o then insT t.nm o else o)
def bareL (l : List ItB) : List ByteArray := bareF l []
theorem bareF_step (l : List ItB) (o : List ByteArray) (k : Nat) (h : k < l.length) : bareF (l.drop k) o = bareF (l.drop (k + 1)) (if (l[k]'h).kd == 2 && !hasT (l[k]'h).nm o then insT (l[k]'h).nm o else o) := by
  rw [List.drop_eq_getElem_cons h, bareF]
theorem bareF_len : ∀ (l : List ItB) (o : List ByteArray), (bareF l o).length ≤ l.length + o.length
  | [], o => by rw [bareF]; simp
  | t :: l, o => by
    rw [bareF]
    refine Nat.le_trans (bareF_len l _) ?_
    split
    · rw [insT_length, List.length_cons]
      omega
    · rw [List.length_cons]
      omega
theorem bareL_len (l : List ItB) : (bareL l).length ≤ l.length := bareF_len l []
theorem strCs_len (l : List ByteArray) : (strCs l).length = l.length := by simp [strCs]
theorem strCs_app (x y : List ByteArray) : strCs (x ++ y) = strCs x ++ strCs y := by simp [strCs]
theorem strCs_one (l : List ByteArray) : ∀ u ∈ strCs l, u.oneCell' = true := by
  intro u hu
  unfold strCs at hu
  obtain ⟨p, _, rfl⟩ := List.mem_map.1 hu
  rfl

end Go.Proofs.Ytlnegnikedinaaa.Sg
