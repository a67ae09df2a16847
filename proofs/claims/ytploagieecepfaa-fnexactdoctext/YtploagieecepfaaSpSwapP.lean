/- Bytes swapped for texts, as plain lists. No program in it. -/
import Derived.Test.YtploagieecepfaaTkP
namespace Go.Proofs.Ytploagieecepfaa.Sg

/-- What stands in the place of a byte. -/
def swap1 (which : List UInt8) (ws : List (List UInt8)) (b : UInt8) : List UInt8 :=
  match findL b which with
  | none => [b]
  | some k => ws.getD k []
def swapL (which : List UInt8) (ws : List (List UInt8)) (l : List UInt8) : List UInt8 := l.flatMap (swap1 which ws)
theorem swapL_step (which : List UInt8) (ws : List (List UInt8)) (s : ByteArray) (k : Nat) (h : k < s.size) : swapL which ws (tailL s k) = swap1 which ws (s[k]'h) ++ swapL which ws (tailL s (k + 1)) := by
  rw [tailL_step s k h]
  unfold swapL
  rw [List.flatMap_cons]
theorem findE_zero (s : ByteArray) (b : UInt8) : findE s 0 b = findL b s.data.toList := by
  unfold findE
  show Option.map _ (findL b (s.data.toList.drop 0)) = _
  rw [List.drop_zero]
  cases findL b s.data.toList <;> simp

end Go.Proofs.Ytploagieecepfaa.Sg
