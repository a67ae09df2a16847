/- Slices of strings; picks out of them. A new cursor over the bytes of a draw; the numbers and texts of chapter 1 that are drawn from it. Texts that are drawn: picks out of lists of strings, and the texts of chapter 1. -/
import Derived.Test.YthikgkhnhbaccaaGreatDoorGDraw
import Derived.Test.YthikgkhnhbaccaaGreatDoorSgPut
import Derived.Test.YthikgkhnhbaccaaGreatDoorSgSigns
namespace Go.Proofs.YthikgkhnhbaccaaGreatDoor.Sg
open Go.ChangeShapes Go.WideShapes Go.ChangeAt Go.RowKit

/-- A slice of strings that begins at 'a' holds just ss. -/
def Strs (w : World) (a : Option Addr) (ss : List ByteArray) : Prop :=
  ss = [] ∨ ∃ b off, a = some ⟨b, off, none⟩ ∧ b < w.heap.size ∧ ∀ i, i < ss.length → w.cell? ⟨b, off + i, none⟩ = some (.string (ss.getD i ByteArray.empty))

theorem Strs.only {p : Nat} {a : Option Addr} {ss : List ByteArray} {w w' : World} (h : Strs w a ss) (hp : Apart p a) (ho : Only p w w') : Strs w' a ss := by
  rcases h with h | ⟨b, off, ha, hb, hc⟩
  · exact .inl h
  · exact .inr ⟨b, off, ha, Nat.lt_of_lt_of_le hb ho.size, fun i hi => (World.cell?_of_block (w := w) (ho.block hb (hp b off ha))).trans (hc i hi)⟩

theorem Strs.lit (w : World) (ss : List ByteArray) (t : TypeId) : Strs (w.alloc (.cells (ss.map Value.string).toArray t)) (some ⟨w.heap.size, 0, none⟩) ss := by
  refine .inr ⟨w.heap.size, 0, rfl, by simp, fun i hi => ?_⟩
  rw [Nat.zero_add]
  refine (World.cell?_alloc_mark w _ t (0, 0) i).trans ?_
  simp [hi]

set_option maxHeartbeats 1000000 in
theorem l1Pick_any (p : Nat) (a : Option Addr) (n cap : Nat) (ss : List ByteArray) (al : Option Addr) (cl : Nat) (w : World) (hc : Cur p a n cap w) (hl : Strs w al ss) (hap : Apart p al) (hm : 1 ≤ ss.length) (hm2 : ss.length ≤ 1099511627776) :
    Calls Tryz.prog 29 #[.pointer (some ⟨p, 0, none⟩), .slice al ss.length cl] w fun e w' => ∃ z : ByteArray, z ∈ ss ∧ e = .returned (.string z) ∧ Cur p a n cap w' ∧ Only p w w' := by
  have Hc : Hid (Cur p a n cap w) := hc
  have Hl : Hid (Strs w al ss) := hl
  clear hc hl
  go_enter Tryz.func29, Tryz.ntmps29
  go_wp2_with fail
  refine (l1Below_any p a n cap ss.length _ Hc.out hm hm2).mono ?_
  rintro e w1 ⟨x, hx, rfl, hc1, ho1⟩
  have hl1 := Hl.out.only hap ho1
  rcases hl1 with h | ⟨b, off, rfl, hb, hcell⟩
  · rw [h] at hx
    simp at hx
  have h1 := hcell x hx
  have hmem : ss.getD x ByteArray.empty ∈ ss := by
    rw [List.getD_eq_getElem?_getD, List.getElem?_eq_getElem hx]
    exact List.getElem_mem hx
  generalize ss.getD x ByteArray.empty = z at h1 hmem
  clear hcell
  go_wp2_with fail
  go_ret
  exact ⟨z, hmem, rfl, hc1, ho1⟩

theorem size_append (s t : ByteArray) : (s ++ t).size = s.size + t.size := by simp [ByteArray.size_append]

end Go.Proofs.YthikgkhnhbaccaaGreatDoor.Sg

namespace Go.Proofs.YthikgkhnhbaccaaGreatDoor.Sg
open Go.ChangeShapes Go.WideShapes Go.ChangeAt Go.RowKit



end Go.Proofs.YthikgkhnhbaccaaGreatDoor.Sg

namespace Go.Proofs.YthikgkhnhbaccaaGreatDoor.Sg
open Go.ChangeShapes Go.WideShapes Go.ChangeAt Go.RowKit


end Go.Proofs.YthikgkhnhbaccaaGreatDoor.Sg
