/- Contracts of the model's Well and Again. -/
import Derived.Test.YtkngdlbedelgnaaGreatDoorMAG16
namespace Go.Proofs.YtkngdlbedelgnaaGreatDoor.Sg
open Go.ChangeShapes Go.WideShapes Go.ChangeAt Go.RowKit

/-- What Well and Again tell. -/
def wellB (s : ByteArray) : Bool := (readR s).isSome
def againS (s : ByteArray) : ByteArray := match readR s with | none => ⟨#[]⟩ | some l => writeB l

set_option maxRecDepth 20000 in
set_option maxHeartbeats 1000000 in
theorem specAgain (s : ByteArray) (w : World) (hs : s.size ≤ 1073741824) :
    Calls Tryz.prog 4 #[.string s] w fun r w' => r = .returned (.tuple #[.string (againS s), .bool (wellB s)]) ∧ Below w.heap.size w w' := by
  have HC := specRead s w hs
  have H1 : Hid (∀ l, readR s = some l → againS s = writeB l ∧ wellB s = true) := fun l hR => by unfold againS wellB; rw [hR]; exact ⟨rfl, rfl⟩
  have H0 : Hid (readR s = none → againS s = ⟨#[]⟩ ∧ wellB s = false) := fun hR => by unfold againS wellB; rw [hR]; exact ⟨rfl, rfl⟩
  generalize againS s = V at *
  generalize wellB s = ok at *
  go_enter Tryz.func4, Tryz.ntmps4
  go_wp2_with fail
  refine HC.mono ?_
  rintro r w1 ⟨b1, ⟨l, g, c, hR, rfl, hk⟩ | ⟨hR, g, rfl⟩⟩
  · obtain ⟨e1, e2⟩ := H1.out l hR
    have hsz := (readR_size hR).1
    have HW := specWrite l w.heap.size (some ⟨g, 0, none⟩) l.length c w1 hk.qa rfl (by omega)
    rw [← e1] at HW
    have E2 : Hid (ok = true) := e2
    clear HC hk hR H1 H0 e1 e2
    go_wp2_with fail
    refine HW.mono ?_
    rintro r w2 ⟨rfl, b2⟩
    have b3 := b1.trans (b2.mono b1.size)
    clear HW b1 b2
    go_wp2_with fail
    go_ret2
    exact ⟨by rw [E2.out]; rfl, b3⟩
  · obtain ⟨e1, e2⟩ := H0.out hR
    have E1 : Hid (V = ⟨#[]⟩) := e1
    have E2 : Hid (ok = false) := e2
    clear HC hR H1 H0 e1 e2
    go_wp2_with fail
    go_ret2
    exact ⟨by rw [E1.out, E2.out]; rfl, b1⟩

end Go.Proofs.YtkngdlbedelgnaaGreatDoor.Sg
