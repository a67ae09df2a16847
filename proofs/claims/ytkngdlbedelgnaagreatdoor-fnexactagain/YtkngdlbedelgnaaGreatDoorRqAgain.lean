/- Contract of the program's Again. -/
import Derived.Test.YtkngdlbedelgnaaGreatDoorRqRead
import Derived.Test.YtkngdlbedelgnaaGreatDoorRdAgain
import Derived.Test.YtkngdlbedelgnaaGreatDoorEwDoc
namespace Go.Proofs.YtkngdlbedelgnaaGreatDoor.Sg
open Go.ChangeShapes Go.WideShapes Go.ChangeAt Go.RowKit

set_option maxRecDepth 20000 in
set_option maxHeartbeats 2000000 in
theorem implAgain (s : ByteArray) (a : Addr) (w : World) (hs : s.size ≤ 1048576) (hX : PcX a w) :
    Calls Tryz.prog 5 #[.string s] w fun e w' => e = .returned (.tuple #[.string (againS s), .bool (wellB s)]) ∧ Below w.heap.size w w' := by
  have HX : Hid (PcX a w) := hX
  have HR : Hid (Calls Tryz.prog 8 #[.string s] w fun r w' => Below w.heap.size w w' ∧ ∃ v n F, r = .returned (.tuple #[v, .bool (readR s).isSome]) ∧ OwnS w' w.heap.size n (readL s) v F ∧ ∀ b, F b → w.heap.size ≤ b) := implRead s a w hs hX
  have HR1 := HR.out
  have hsz := readL_size s
  cases hr : readR s
  · have E1 : Hid (againS s = ⟨#[]⟩) := by show _ = _; unfold againS; rw [hr]
    have E2 : Hid (wellB s = false) := by show _ = _; unfold wellB; rw [hr]; rfl
    rw [hr] at HR1
    rw [E1.out, E2.out]
    clear HR hX hr hsz
    go_enter Tryz.func5, Tryz.ntmps5
    go_wp2_with fail
    refine HR1.mono ?_
    rintro r w1 ⟨hb, v, n, F, rfl, _, _⟩
    have HB : Hid (Below w.heap.size w w1) := hb
    clear HR1 hb
    have g0 : (none : Option (List ElB)).isSome = false := rfl
    rw [g0]
    go_wp2_with fail
    go_ret2
    exact ⟨rfl, HB.out⟩
  · rename_i l
    have E1 : Hid (againS s = writeB l) := by show _ = _; unfold againS; rw [hr]
    have E2 : Hid (wellB s = true) := by show _ = _; unfold wellB; rw [hr]; rfl
    have el : readL s = l := by unfold readL; rw [hr]; rfl
    rw [hr, el] at HR1
    rw [el] at hsz
    rw [E1.out, E2.out]
    clear HR hX hr el
    go_enter Tryz.func5, Tryz.ntmps5
    go_wp2_with fail
    refine HR1.mono ?_
    rintro r w1 ⟨hb, v, n, F, rfl, ho, _⟩
    obtain ⟨ga, gc, rfl, hk⟩ := OwnS.kids n ho
    have hX1 := HX.out.below hb
    have HW := implWrite l w.heap.size ga gc w1 hk.qa (els_small l (by omega)) (by omega) ⟨hX1.1.1, hX1.2⟩
    have HB : Hid (Below w.heap.size w w1) := hb
    have g0 : (some l).isSome = true := rfl
    rw [g0]
    obtain ⟨V, HV⟩ : ∃ V, Hid (writeB l = V) := ⟨_, rfl⟩
    rw [HV.out] at HW
    clear HR1 hb ho hk hX1 E1 E2
    go_wp2_with fail
    refine HW.mono ?_
    rintro e w2 ⟨rfl, b2⟩
    have HB2 : Hid (Below w.heap.size w w2) := HB.out.trans (b2.mono HB.out.size)
    clear HW b2
    go_wp2_with fail
    go_ret2
    exact ⟨by rw [HV.out]; rfl, HB2.out⟩

end Go.Proofs.YtkngdlbedelgnaaGreatDoor.Sg
