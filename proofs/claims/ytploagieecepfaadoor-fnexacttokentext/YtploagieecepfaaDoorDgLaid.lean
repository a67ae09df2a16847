/- The table that numbers are written by, as the rows list it. -/
import Derived.Test.YtploagieecepfaaDoorKdLaid
import Derived.Test.YtploagieecepfaaDoorSoTokP
import Derived.LaidSub
import Derived.Lib.LaidTab
namespace Go.Proofs.YtploagieecepfaaDoor.Sg

/-- The cells of a row of numbers. -/
def litCells : DataW Unit → Array Value
  | .agg ps => (ps.map fun d => match d with | .lit (.int k z) => Value.int k z | _ => .int .u8 0).toArray
  | _ => #[]
def cells_deBruijn32tab : Array Value := litCells Rows.laid_math_bits_deBruijn32tab
def cells_deBruijn64tab : Array Value := litCells Rows.laid_math_bits_deBruijn64tab
def cells_uint64pow10 : Array Value := litCells Rows.laid_internal_strconv_uint64pow10

theorem tab_uint64pow10 {W : World} (h : laidMetH Tryd.prog Rows.fnExactTokenTextRow.laid W) : TabT W := by
  have h' : laidMet Tryd.prog Rows.fnExactTokenTextRow.laid W := h
  have h2 := h'.filter (fun x => x.1 == "internal/strconv.uint64pow10")
  have e : (Rows.fnExactTokenTextRow.laid.filter (fun x => x.1 == "internal/strconv.uint64pow10")) = ("internal/strconv.uint64pow10", Lib.tabData .u64 Lib.pow10Tab) :: [] := by kernel_rfl
  rw [e] at h2
  exact Lib.tabIs_of_head (t := 81) (e := 74) (n := 20) (g := 0) (by kernel_rfl) (by kernel_rfl) Tryd.underlying81 Tryd.underlying74 (by kernel_rfl) (by kernel_rfl) h2

end Go.Proofs.YtploagieecepfaaDoor.Sg
