/- The law of InTable, of what the program's and the model's functions hand back. -/
import Derived.Test.YtlnegnikedinaaaMDPopTo05
import Derived.Test.YtlnegnikedinaaaLwPgTo
import Derived.Test.YtlnegnikedinaaaMDPopTo04
import Derived.Deep.RegionHeld3
namespace Go.Proofs.Ytlnegnikedinaaa.Sg
open Go.ChangeShapes Go.WideShapes Go.ChangeAt Go.RowKit

theorem itW_le' {l : List ItB} {t : ItB} (h : t ∈ l) : itW t ≤ itsW l := by
  unfold itsW
  induction l with
  | nil => exact absurd h List.not_mem_nil
  | cons u l ih =>
    rw [List.map_cons, List.sum_cons, List.length_cons]
    rcases List.mem_cons.1 h with rfl | h
    · omega
    · have := ih h
      omega
theorem pg_light {p : PgB} (h : pgW p ≤ 1048576) : PgSize p := by
  unfold pgW at h
  refine ⟨by unfold itsW at h; omega, fun t ht => ?_, by omega, by omega⟩
  have := itW_le' ht
  unfold itW attrsW at this
  omega

theorem Many.five {w : World} {b : Nat} {v0 v1 v2 v3 v4 : Value} (h : Many 5 w b (fun i => [v0, v1, v2, v3, v4].getD i undef)) :
    w.cell? ⟨b, 0, none⟩ = some v0 ∧ w.cell? ⟨b, 1, none⟩ = some v1 ∧ w.cell? ⟨b, 2, none⟩ = some v2 ∧ w.cell? ⟨b, 3, none⟩ = some v3 ∧ w.cell? ⟨b, 4, none⟩ = some v4 :=
  ⟨(h.2 0 (by omega)).1, (h.2 1 (by omega)).1, (h.2 2 (by omega)).1, (h.2 3 (by omega)).1, (h.2 4 (by omega)).1⟩
theorem Many.keep {n : Nat} {w w' : World} {b : Nat} {f : Nat → Value} (h : Many n w b f) (hb : Below w.heap.size w w') : Many n w' b f := h.below h.1 hb
theorem keep_five {w w' : World} (hb : Below w.heap.size w w') {b : Nat} {v0 v1 v2 v3 v4 : Value} (h : w.cell? ⟨b, 0, none⟩ = some v0 ∧ w.cell? ⟨b, 1, none⟩ = some v1 ∧ w.cell? ⟨b, 2, none⟩ = some v2 ∧ w.cell? ⟨b, 3, none⟩ = some v3 ∧ w.cell? ⟨b, 4, none⟩ = some v4) :
    w'.cell? ⟨b, 0, none⟩ = some v0 ∧ w'.cell? ⟨b, 1, none⟩ = some v1 ∧ w'.cell? ⟨b, 2, none⟩ = some v2 ∧ w'.cell? ⟨b, 3, none⟩ = some v3 ∧ w'.cell? ⟨b, 4, none⟩ = some v4 :=
  ⟨keep_cell hb h.1, keep_cell hb h.2.1, keep_cell hb h.2.2.1, keep_cell hb h.2.2.2.1, keep_cell hb h.2.2.2.2⟩
theorem PgAt.drew {w : World} {v : Value} {p : PgB} (h : PgAt w v p) : PgAt w.drew v p := h.keep ((Below.refl _ _).drew)
theorem below_then {w a b : World} (h : Below w.heap.size w a) (k : Below a.heap.size a b) : Below w.heap.size w b := h.trans (k.mono h.size)


end Go.Proofs.Ytlnegnikedinaaa.Sg
