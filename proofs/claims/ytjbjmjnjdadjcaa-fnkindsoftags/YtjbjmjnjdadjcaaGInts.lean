/- Slices of ints: what they hold, in memory that came in or that a call owns. -/
import Derived.Test.YtjbjmjnjdadjcaaGOwn
import Derived.Below
import Derived.OwnWalk
import Derived.Laws.AppendOwn
import Derived.BigQuiet
import Derived.Deep.QuietTactic
import Derived.Deep.OwnRows
namespace Go.Proofs.Ytjbjmjnjdadjcaa.Sg
open Go.ChangeShapes Go.WideShapes Go.ChangeAt Go.RowKit

/-- A slice of ints that begins at 'a' holds just zs. -/
def Ints (w : World) (a : Option Addr) (zs : List Int) : Prop :=
  zs = [] ∨ ∃ b off, a = some ⟨b, off, none⟩ ∧ b < w.heap.size ∧ ∀ i, i < zs.length → w.cell? ⟨b, off + i, none⟩ = some (.int .i64 (zs.getD i 0))

theorem Ints.below {w w' : World} {a : Option Addr} {zs : List Int} (h : Ints w a zs) {B : Nat} (hB : w.heap.size ≤ B) (hb : Below B w w') : Ints w' a zs := by
  rcases h with h | ⟨b, off, ha, hlt, hc⟩
  · exact .inl h
  · exact .inr ⟨b, off, ha, Nat.lt_of_lt_of_le hlt hb.size, fun i hi => (hb.cell (by show b < B; omega)).trans (hc i hi)⟩

theorem info_int : (Try.prog.info? 3).map (fun i => (i.zero, i.size, i.bytes)) = some (some (.int .i64 0), 1, 8) := by kernel_rfl

theorem Ints.of_row {w : World} {b : Nat} {t : TypeId} {zs : List Int} (h : w.rowIs b t zs.length (fun i => .int .i64 (zs.getD i 0))) : Ints w (some ⟨b, 0, none⟩) zs :=
  .inr ⟨b, 0, rfl, h.lt, fun i hi => by rw [Nat.zero_add]; exact h.cell hi⟩


end Go.Proofs.Ytjbjmjnjdadjcaa.Sg
