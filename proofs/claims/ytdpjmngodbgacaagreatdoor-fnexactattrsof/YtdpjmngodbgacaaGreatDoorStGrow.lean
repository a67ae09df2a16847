/- A new builder that is made ready for so many bytes. -/
import Derived.Test.YtdpjmngodbgacaaGreatDoorSgBuild
import Derived.Test.YtdpjmngodbgacaaGreatDoorShelf2
import Derived.BigQuiet
import Derived.Deep.QuietTactic
namespace Go.Proofs.YtdpjmngodbgacaaGreatDoor.Sg
open Go.ChangeShapes Go.WideShapes Go.ChangeAt Go.RowKit

set_option maxHeartbeats 2000000 in
theorem growNew (B b n : Nat) (w : World) (hB : B ≤ b) (hbk : w.heap[b]? = some (.cells #[.pointer none, .slice none 0 0] 54 (0, 0))) (hBw : B ≤ w.heap.size) (hn0 : 0 < n) (hn : n ≤ 281474976710656) :
    Calls Tryz.prog 84 #[.pointer (some ⟨b, 0, none⟩), .int .i64 (n : Int)] w fun e w' => e = .returned (.tuple #[]) ∧ Lib.IsBuilderF 54 5 B b [] w' ∧ Below B w w' := by
  have c0 : w.cell? ⟨b, 0, none⟩ = some (.pointer none) := by rw [Lib.cell_of_heap hbk]; rfl
  have hsh : w.shape? b = some (54, 2) := by simp [World.shape?, hbk]
  have hfz : w.frozen? ⟨b, 0, none⟩ = false := Lib.frozen_of_heap hbk 0
  have hbk2 : (w.setCell ⟨b, 0, none⟩ (.pointer (some ⟨b, 0, none⟩))).heap[b]? = some (.cells #[.pointer (some ⟨b, 0, none⟩), .slice none 0 0] 54 (0, 0)) := by simp [World.setCell, Array.getElem?_modify, hbk]
  have hb2 : Hid (Below B w (w.setCell ⟨b, 0, none⟩ (.pointer (some ⟨b, 0, none⟩)))) := (Below.refl B w).setCell (p := ⟨b, 0, none⟩) hB _
  have hsz2 : (w.setCell ⟨b, 0, none⟩ (.pointer (some ⟨b, 0, none⟩))).heap.size = w.heap.size := by simp [World.setCell]
  go_enter Tryz.func84, Tryz.ntmps84
  go_wp2_with fail
  refine (checkFresh b w c0 hsh hfz).mono ?_
  rintro e w1 ⟨rfl, rfl⟩
  generalize w.setCell ⟨b, 0, none⟩ (.pointer (some ⟨b, 0, none⟩)) = W at *
  have c1 : W.cell? ⟨b, 1, none⟩ = some (.slice none 0 0) := by rw [Lib.cell_of_heap hbk2]; rfl
  have g1 : decide ((n : Int) < 0) = false := decide_eq_false (by omega)
  have g2 : decide ((0 : Int) < (n : Int)) = true := decide_eq_true (by omega)
  go_wp2_with fail
  go_quiet (fail)
  go_wp2_with fail
  refine (Tryz.Builder_grow_fresh B b n (W.drewN nq) hB hbk2 (by show B ≤ W.heap.size; omega) hn).mono ?_
  rintro e w2 ⟨rfl, h2, h3⟩
  have h4 : Below B W w2 := ⟨h3.os, h3.tape, h3.output, h3.size, h3.block⟩
  go_wp2_with fail
  go_end0
  exact ⟨rfl, Lib.IsBuilderF.of (.inr h2), hb2.out.trans h4⟩
end Go.Proofs.YtdpjmngodbgacaaGreatDoor.Sg
