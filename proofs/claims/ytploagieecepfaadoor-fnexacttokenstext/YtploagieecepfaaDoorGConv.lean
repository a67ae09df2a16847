/- A string of one byte made of a slice of it. -/
import Derived.Test.YtploagieecepfaaDoorSgOk
import Derived.Laws.BytesArg
import Derived.Below
namespace Go.Proofs.YtploagieecepfaaDoor.Sg
open Go.ChangeShapes Go.WideShapes Go.ChangeAt Go.RowKit

theorem cell_new (w : World) (vs : Array Value) (t : TypeId) (i : Nat) : (w.alloc (.cells vs t)).cell? ⟨w.heap.size, 0 + i, none⟩ = vs[i]? := by
  rw [Nat.zero_add]
  exact World.cell?_alloc_mark w vs t (0, 0) i

theorem conv1 (a : Int) (w : World) : Sem.run Tryd.prog (convert 47 9 (.slice (some ⟨w.heap.size, 0, none⟩) 1 1)) (w.alloc (.cells #[.int .u8 a] 5)) = .ok (.string (strOfNums [a])) (w.alloc (.cells #[.int .u8 a] 5)) :=
  run_convert_bytes_arg _ 47 5 Tryd.underlying47 Tryd.underlying5 _ 0 1 1 [a] rfl (fun i hi => by
    rw [cell_new]
    match i, hi with
    | 0, _ => rfl) 9 Tryd.underlying9

end Go.Proofs.YtploagieecepfaaDoor.Sg
