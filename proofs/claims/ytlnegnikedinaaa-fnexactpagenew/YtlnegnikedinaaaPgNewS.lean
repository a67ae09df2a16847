/- Contract of the model's PageNew. -/
import Derived.Test.YtlnegnikedinaaaLwPgNew
namespace Go.Proofs.Ytlnegnikedinaaa.Sg
open Go.ChangeShapes Go.WideShapes Go.ChangeAt Go.RowKit

theorem nil_row (w : World) (B : Nat) (e : TypeId) (z : Nat) : w.ownsRow B e z (.slice none 0 0) 0 [] := ⟨by simp, .inl ⟨rfl, rfl⟩⟩

/-- A new page lies in one new block. -/
theorem new_page {w : World} {B g : Nat} (hB : B ≤ g) (hg : w.heap[g]? = some (.cells #[.int .i64 1, .int .i64 0, .string ⟨#[]⟩, .slice none 0 0, .string ⟨#[]⟩, .int .i64 (-1), .slice none 0 0] 50 (0, 0))) :
    OwnPg w B (.agg #[.slice (some ⟨g, 0, none⟩) 1 1, .slice none 0 0, .slice none 0 0, .int .i64 0, .int .i64 0]) pgNew := by
  refine ⟨_, _, _, rfl, [(⟨1, 0, ⟨#[]⟩, [], ⟨#[]⟩, -1, []⟩, .slice none 0 0, .slice none 0 0)], rfl, ⟨rfl, .inr ⟨g, 1, _, rfl, hB, hg, Nat.le_refl _, by decide, rfl, rfl⟩⟩, ⟨fun q hq => ?_, List.pairwise_singleton _ _⟩, nil_row _ _ _ _, nil_row _ _ _ _, ⟨fun b hb => (by simp [Value.ownBlock] at hb), fun q hq b hb => ?_⟩⟩
  · obtain rfl := List.mem_singleton.1 hq
    exact ⟨nil_row _ _ _ _, nil_row _ _ _ _⟩
  · obtain rfl := List.mem_singleton.1 hq
    simp [Value.ownBlock] at hb

set_option maxHeartbeats 4000000 in
theorem specPageNew (w : World) : Calls Try.prog 7 #[] w fun e w' => ∃ x', e = .returned x' ∧ OwnPg w' w.heap.size x' pgNew ∧ Below w.heap.size w w' := by
  have Hp : Hid (∀ o : Obj, OwnPg ((w.alloc o).alloc (.cells #[.int .i64 1, .int .i64 0, .string ⟨#[]⟩, .slice none 0 0, .string ⟨#[]⟩, .int .i64 (-1), .slice none 0 0] 50)) w.heap.size (.agg #[.slice (some ⟨w.heap.size + 1, 0, none⟩) 1 1, .slice none 0 0, .slice none 0 0, .int .i64 0, .int .i64 0]) pgNew) := fun o => new_page (Nat.le_succ _) (by
    have h := (MapKept.heap_alloc (w.alloc o) (.cells #[.int .i64 1, .int .i64 0, .string ⟨#[]⟩, .slice none 0 0, .string ⟨#[]⟩, .int .i64 (-1), .slice none 0 0] 50)).1
    simpa using h)
  go_enter Try.func7, Try.ntmps7
  go_wp2_with fail
  refine bodyPost_ret (v := .agg #[.slice (some ⟨w.heap.size + 1, 0, none⟩) 1 1, .slice none 0 0, .slice none 0 0, .int .i64 0, .int .i64 0]) ?_ rfl ⟨_, rfl, Hp.out _, ((Below.refl _ _).alloc (Nat.le_refl _) _).alloc (by simp) _⟩
  simp [results, Try.results7, go_sem]

end Go.Proofs.Ytlnegnikedinaaa.Sg
