/- Contract of the program's PageNew. -/
import Derived.Test.YtlnegnikedinaaaPgNewS
namespace Go.Proofs.Ytlnegnikedinaaa.Sg
open Go.ChangeShapes Go.WideShapes Go.ChangeAt Go.RowKit

set_option maxHeartbeats 4000000 in
theorem implPageNew (w : World) : Calls Try.prog 8 #[] w fun e w' => ∃ x', e = .returned x' ∧ OwnPg w' w.heap.size x' pgNew ∧ Below w.heap.size w w' := by
  have Hp : Hid (∀ o : Obj, OwnPg ((w.alloc o).alloc (.cells #[.int .i64 1, .int .i64 0, .string ⟨#[]⟩, .slice none 0 0, .string ⟨#[]⟩, .int .i64 (-1), .slice none 0 0] 50)) w.heap.size (.agg #[.slice (some ⟨w.heap.size + 1, 0, none⟩) 1 1, .slice none 0 0, .slice none 0 0, .int .i64 0, .int .i64 0]) pgNew) := fun o => new_page (Nat.le_succ _) (by
    have h := (MapKept.heap_alloc (w.alloc o) (.cells #[.int .i64 1, .int .i64 0, .string ⟨#[]⟩, .slice none 0 0, .string ⟨#[]⟩, .int .i64 (-1), .slice none 0 0] 50)).1
    simpa using h)
  go_enter Try.func8, Try.ntmps8
  go_wp2_with fail
  refine bodyPost_ret (v := .agg #[.slice (some ⟨w.heap.size + 1, 0, none⟩) 1 1, .slice none 0 0, .slice none 0 0, .int .i64 0, .int .i64 0]) ?_ rfl ⟨_, rfl, Hp.out _, ((Below.refl _ _).alloc (Nat.le_refl _) _).alloc (by simp) _⟩
  simp [results, Try.results8, go_sem]

end Go.Proofs.Ytlnegnikedinaaa.Sg
