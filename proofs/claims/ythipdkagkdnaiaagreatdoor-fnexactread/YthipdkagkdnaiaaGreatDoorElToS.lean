/- The laws' slices of elements, laid anew; one and several, joined. -/
import Derived.Test.YthipdkagkdnaiaaGreatDoorMRD01
namespace Go.Proofs.YthipdkagkdnaiaaGreatDoor.Sg
open Go.ChangeShapes Go.WideShapes Go.ChangeAt Go.RowKit

theorem info_el : (Tryz.prog.info? 25).map (fun i => (i.zero, i.size, i.bytes)) = some (some (.agg #[.int .i64 0, .int .i64 0, .string ⟨#[]⟩, .slice none 0 0, .string ⟨#[]⟩, .slice none 0 0]), 6, 96) := by kernel_rfl
/-- The value of six cells. -/
def sixV (C : List Value) (i : Nat) : Value := .agg #[C.getD (i * 6) undef, C.getD (i * 6 + 1) undef, C.getD (i * 6 + 2) undef, C.getD (i * 6 + 3) undef, C.getD (i * 6 + 4) undef, C.getD (i * 6 + 5) undef]
theorem getD_old {C D : List Value} {j : Nat} (h : j < C.length) : (C ++ D).getD j undef = C.getD j undef := by
  simp only [List.getD_eq_getElem?_getD]
  rw [List.getElem?_append_left h]
theorem getD_new {C D : List Value} {j : Nat} : (C ++ D).getD (C.length + j) undef = D.getD j undef := by
  simp only [List.getD_eq_getElem?_getD]
  rw [List.getElem?_append_right (by omega), show C.length + j - C.length = j by omega]

end Go.Proofs.YthipdkagkdnaiaaGreatDoor.Sg
