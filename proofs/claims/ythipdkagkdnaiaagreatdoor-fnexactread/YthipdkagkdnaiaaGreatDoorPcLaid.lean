/- What a row that lists the library's tables and an error with a name gives a walk, and a world that meets it. -/
import Derived.Test.YthipdkagkdnaiaaGreatDoorPcSign
import Derived.Test.YthipdkagkdnaiaaGreatDoorCards
import Derived.Test.YthipdkagkdnaiaaGreatDoorTie
import Derived.Test.YthipdkagkdnaiaaGreatDoorShelf
import Derived.WalkKit
import Derived.ProofKit
import Derived.OpenShut
import Derived.ShutString
import Derived.ChangeOld
import Derived.Below
import Derived.Deep.DeepHandedRow
import Derived.Deep.DeepWitnessRowRef
import Derived.Lib.LaidTab
import Derived.Lib.LaidU8T
import Derived.LaidHandle
import Derived.Lay
import Derived.Stop.Joined
import Derived.Stop.LaidErr
import Derived.OpenVars
namespace Go.Proofs.YthipdkagkdnaiaaGreatDoor.Sg
open Go.ChangeShapes Go.WideShapes Go.ChangeAt Go.RowKit

abbrev pcRow : OpenClaim := Rows.fnExactReadElRow

theorem pc_u8types : U8Types Tryz.prog Tryz.lays197_ren := U8Types.of260 { Tryz.lays197 with }
theorem pc_u8extra : U8Extra Tryz.prog Tryz.lays197_ren := ⟨by kernel_rfl, by kernel_rfl, by kernel_rfl, by kernel_rfl, by kernel_rfl, by kernel_rfl, by kernel_rfl⟩

def pcPlain : List (String × DataW Unit) := [("unicode/utf8.acceptRanges", Lib.acceptData), ("loop.example/g00325/impl.errRefused", Rows.laid_loop_example_g00325_impl_errRefused), ("unicode/utf8.first", Lib.firstData)]
theorem pc_plain : (pcRow.laid.filter fun x => x.2.handleName?.isNone) = pcPlain := by kernel_rfl
theorem pc_handle : (pcRow.laid.filter fun x => x.2.handleName?.isSome) = [] := by kernel_rfl
theorem pc_global : Tryz.prog.globalNamed "loop.example/g00325/impl.errRefused" = some 0 := by kernel_rfl
theorem pc_row (u : TypeId) (h : Tryz.prog.typeName? 3 u = some "*errors.errorString") : u = 197 :=
  typeName_ptr_named (nm := "errors.errorString") (by kernel_rfl) (by kernel_rfl) (by decide) u h

set_option maxRecDepth 100000 in
theorem pc_have {W : World} (h : laidMetH Tryz.prog pcRow.laid W) : ∃ a, PcT a W := by
  unfold laidMetH at h
  rw [pc_handle] at h
  have h0 : laidMet Tryz.prog pcPlain W := h
  obtain ⟨a, s, h1, _⟩ := laid_sentinel (P := Tryz.prog) (Go.laidMet.tail h0) pc_global (ti := 60) (te := 226) (ts := 9) (by kernel_rfl) Tryz.underlying60 pc_row Tryz.underlying197 Tryz.underlying226 rfl rfl Tryz.underlying9 (by kernel_rfl) (by kernel_rfl)
  refine ⟨a, utf8Tabs_of_readsT pc_u8types pc_u8extra (Lib.laidMet.reads h0 (.tail _ (.tail _ (.head _)))) (Lib.laidMet.reads h0 (.head _)), ?_⟩
  unfold ErrA
  simpa using World.var?_cell pc_global h1 0

noncomputable def pcWorld (os : Os) : World := (World.holding Tryz.prog os ⟨#[], #[], []⟩).layVars Tryz.prog pcPlain
theorem pc_os (os : Os) : (pcWorld os).os = os := (World.layVars_os _ _ _).trans rfl
theorem pc_met (os : Os) (args : Array Value) : laidMetH Tryz.prog pcRow.laid ((pcWorld os).forCall (fun _ _ => 0) ⟨#[], args, []⟩).memory := by
  refine laidMetH_of_parts ?_ ?_
  · rw [pc_plain]
    have e1 : (pcPlain.filter fun x => (pcPlain.map (·.1)).contains x.1) = pcPlain := List.filter_eq_self.2 fun x hx => List.contains_iff_mem.2 (List.mem_map.2 ⟨x, hx, rfl⟩)
    have e2 : (pcPlain.filter fun x => !(pcPlain.map (·.1)).contains x.1) = [] := List.filter_eq_nil_iff.2 fun x hx => by rw [List.contains_iff_mem.2 (List.mem_map.2 ⟨x, hx, rfl⟩)]; simp
    have h : laidMet Tryz.prog pcPlain (pcWorld os) := laidMet_layVars (w0 := World.holding Tryz.prog os ⟨#[], #[], []⟩) (pcPlain.map (·.1)) [] (by rw [e1]; rfl) (by rw [e1]; kernel_rfl) (by rw [e1]; kernel_rfl) (by rw [e2]; exact LaidIn.none)
    exact h.of_heap (by simp [World.memory, World.forCall, Input.heap])
  · rw [pc_handle]
    kernel_rfl

end Go.Proofs.YthipdkagkdnaiaaGreatDoor.Sg
