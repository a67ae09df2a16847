/- A string of one byte made of a slice of it. -/
import Derived.Test.YtploagieecepfaaSgOk
import Derived.Laws.BytesArg
import Derived.Below
namespace Go.Proofs.Ytploagieecepfaa.Sg
open Go.ChangeShapes Go.WideShapes Go.ChangeAt Go.RowKit

theorem cell_new (w : World) (vs : Array Value) (t : TypeId) (i : Nat) : (w.alloc (.cells vs t)).cell? ⟨w.heap.size, 0 + i, none⟩ = vs[i]? := by
  rw [Nat.zero_add]
  exact World.cell?_alloc_mark w vs t (0, 0) i

theorem conv1 (a : Int) (w : World) : Sem.run Try.prog (convert 38 9 (.slice (some ⟨w.heap.size, 0, none⟩) 1 1)) (w.alloc (.cells #[.int .u8 a] 5)) = .ok (.string (strOfNums [a])) (w.alloc (.cells #[.int .u8 a] 5)) :=
  run_convert_bytes_arg _ 38 5 Try.underlying38 Try.underlying5 _ 0 1 1 [a] rfl (fun i hi => by
    rw [cell_new]
    match i, hi with
    | 0, _ => rfl) 9 Try.underlying9

end Go.Proofs.Ytploagieecepfaa.Sg
