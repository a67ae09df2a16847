/- What the library's FormatInt asks of bits at base 16: one look at a table. -/
import Derived.Test.YtdpjmngodbgacaaGreatDoorSgOk
import Derived.WalkKit
import Derived.Laws.Bits64b
namespace Go.Proofs.YtdpjmngodbgacaaGreatDoor.Sg
open Go.ChangeShapes Go.WideShapes Go.ChangeAt Go.RowKit

/-- The place of the table that is read. -/
def D64 (w : World) : Prop := w.cell? ⟨7, 15, none⟩ = some (.int .u8 4)

theorem D64.below {w w' : World} (h : D64 w) {B : Nat} (hB : 7 < B) (hb : Below B w w') : D64 w' := (hb.cell (by exact hB)).trans h
theorem D64.lt {w : World} (h : D64 w) : 7 < w.heap.size := by
  unfold D64 at h
  rcases Nat.lt_or_ge 7 w.heap.size with h' | h'
  · exact h'
  · simp [World.cell?, Array.getElem?_eq_none h'] at h

theorem tz_key : IntKind.u64.wrap (bits BinOp.and IntKind.u64 (16 : Int) (IntKind.u64.wrap (-(16 : Int))) * 285870213051353865) / 288230376151711744 = (15 : Int) := by decide +kernel

set_option maxHeartbeats 1000000 in
theorem tz64 (w : World) (h : D64 w) : Calls Tryz.prog 129 #[.int .u64 16] w fun e w' => e = .returned (.int .i64 4) ∧ w' = w := by
  have hc : w.cell? ⟨7, 15, none⟩ = some (.int .u8 4) := h
  have key := tz_key
  go_enter Tryz.func129, Tryz.ntmps129
  go_wp2_with (simp only [key])
  go_ret
  exact ⟨rfl, rfl⟩
set_option maxHeartbeats 1000000 in
theorem tz (w : World) (h : D64 w) : Calls Tryz.prog 124 #[.int .u64 16] w fun e w' => e = .returned (.int .i64 4) ∧ w' = w := by
  go_enter Tryz.func124, Tryz.ntmps124
  go_wp2_with fail
  refine (tz64 _ h).mono ?_
  rintro e w1 ⟨rfl, rfl⟩
  go_wp2
  go_ret
  exact ⟨rfl, rfl⟩
theorem pow2 (w : World) : Calls Tryz.prog 123 #[.int .i64 16] w fun e w' => e = .returned (.bool true) ∧ w' = w := by
  have k1 : bits BinOp.and IntKind.i64 (16 : Int) 15 = 0 := by decide +kernel
  go_enter Tryz.func123, Tryz.ntmps123
  go_wp2
  go_ret
  exact ⟨rfl, rfl⟩
end Go.Proofs.YtdpjmngodbgacaaGreatDoor.Sg
