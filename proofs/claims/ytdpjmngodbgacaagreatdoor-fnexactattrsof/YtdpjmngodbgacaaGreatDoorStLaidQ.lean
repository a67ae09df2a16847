/- What a row that lists the library's tables and the type of errors gives a walk of NameOf, and a world that meets it. -/
import Derived.Test.YtdpjmngodbgacaaGreatDoorStImOfQ
import Derived.Test.YtdpjmngodbgacaaGreatDoorCards
import Derived.Test.YtdpjmngodbgacaaGreatDoorTie
import Derived.Test.YtdpjmngodbgacaaGreatDoorShelf
import Derived.WalkKit
import Derived.ProofKit
import Derived.OpenShut
import Derived.ShutString
import Derived.ChangeOld
import Derived.Below
import Derived.Deep.DeepHandedRow
import Derived.Deep.DeepWitnessRowRef
import Derived.Lib.LaidTab
import Derived.Lib.LaidU8T
import Derived.Lib.TrailingZeros
import Derived.LaidHandle
import Derived.Lay
import Derived.Stop.Joined
namespace Go.Proofs.YtdpjmngodbgacaaGreatDoor.Sg
open Go.ChangeShapes Go.WideShapes Go.ChangeAt Go.RowKit

abbrev nmRow : OpenClaim := Rows.fnExactAttrsOfRow

theorem nm_u8types : U8Types Tryz.prog Tryz.lays197_ren := U8Types.of260 { Tryz.lays197 with }
theorem nm_u8extra : U8Extra Tryz.prog Tryz.lays197_ren := ⟨by kernel_rfl, by kernel_rfl, by kernel_rfl, by kernel_rfl, by kernel_rfl, by kernel_rfl, by kernel_rfl⟩

/-- The listed variables but the type of errors. -/
def nmPlain : List (String × DataW Unit) := [("math/bits.deBruijn32tab", Rows.laid_math_bits_deBruijn32tab), ("math/bits.deBruijn64tab", Lib.tabData .u8 (Lib.deBruijn64tab.map Int.ofNat)), ("internal/strconv.uint64pow10", Rows.laid_internal_strconv_uint64pow10), ("unicode/utf8.acceptRanges", Lib.acceptData), ("unicode.CaseRanges", Rows.laid_unicode_CaseRanges), ("unicode/utf8.first", Lib.firstData)]
theorem nm_plain : (nmRow.laid.filter fun x => x.2.handleName?.isNone) = nmPlain := by kernel_rfl
theorem nm_handle : (nmRow.laid.filter fun x => x.2.handleName?.isSome) = [("errors.errorType", Rows.laid_errors_errorType)] := by kernel_rfl

theorem nm_parts {W : World} (h : laidMetH Tryz.prog nmRow.laid W) : laidMet Tryz.prog nmPlain W ∧ handlesMet Tryz.prog [("errors.errorType", Rows.laid_errors_errorType)] W := by
  unfold laidMetH at h
  rw [nm_handle] at h
  rw [nm_plain] at h
  exact h

theorem nm_et : Tryz.prog.globalNamed "errors.errorType" = some 0 := by kernel_rfl
theorem nm_rt : (Tryz.prog.cutTypes.find? (·.1 == "internal/reflectlite.rtype")).map (·.2) = some 107 := by kernel_rfl
theorem nm_rows : ((List.range Tryz.prog.types.size).filter fun t => Tryz.prog.rowNamed t [101, 114, 114, 111, 114]) = [59] := by kernel_rfl

theorem nm_err {W : World} (h : handlesMet Tryz.prog [("errors.errorType", Rows.laid_errors_errorType)] W) : ErrT W := by
  obtain ⟨name, u, ty, e1, e2, e3, e4, e5⟩ := h _ (List.mem_singleton.2 rfl)
  have en : name = [101, 114, 114, 111, 114] := (Option.some.inj e1).symm
  subst en
  obtain rfl := Option.some.inj (nm_rt.symm.trans e2)
  have hm : ty ∈ (List.range Tryz.prog.types.size).filter fun t => Tryz.prog.rowNamed t [101, 114, 114, 111, 114] := List.mem_filter.2 ⟨List.mem_range.2 e3, e4⟩
  rw [nm_rows] at hm
  obtain rfl := List.mem_singleton.1 hm
  have hh : typeHandle Tryz.prog 59 = .pointer (some ⟨8, 59, none⟩) := by kernel_rfl
  rw [hh] at e5
  unfold ErrT
  simpa using World.var?_cell nm_et e5 0

theorem nm_tab {W : World} (h : laidMet Tryz.prog nmPlain W) : D64 W := by
  obtain ⟨g, t, cs, fuel, p, h1, h2, h3, h4⟩ := Lib.laidMet.reads h (n := "math/bits.deBruijn64tab") (d := Lib.tabData .u8 (Lib.deBruijn64tab.map Int.ofNat)) (.tail _ (.head _))
  have hg : Tryz.prog.globalNamed "math/bits.deBruijn64tab" = some 7 := by kernel_rfl
  obtain rfl := Option.some.inj (hg.symm.trans h1)
  have hty : (Tryz.prog.globals[7]?).map (·.type) = some 176 := by kernel_rfl
  obtain rfl := Option.some.inj (hty.symm.trans h2)
  have hT : Lib.TabIs Tryz.prog W "math/bits.deBruijn64tab" .u8 (Lib.deBruijn64tab.map Int.ofNat) := by
    unfold Lib.TabIs
    rw [h3, ← Lib.cells_of_tab (t := 176) (e := 5) (n := 64) Tryz.underlying176 Tryz.underlying5 (by kernel_rfl) (by kernel_rfl) h4]
  have h5 := hT.cell hg 15 (by decide)
  exact h5

theorem nm_have {W : World} (h : laidMetH Tryz.prog nmRow.laid W) : NmT W := by
  obtain ⟨h1, h2⟩ := nm_parts h
  exact ⟨utf8Tabs_of_readsT nm_u8types nm_u8extra (Lib.laidMet.reads h1 (.tail _ (.tail _ (.tail _ (.tail _ (.tail _ (.head _))))))) (Lib.laidMet.reads h1 (.tail _ (.tail _ (.tail _ (.head _))))), nm_tab h1, nm_err h2⟩

/-- A block of cells with other contents. -/
def nmFill (c : Array Value) : Obj → Obj
  | .cells _ t frozen => .cells c t frozen
  | o => o
/-- The world as it is held, with the type of errors in its place. -/
noncomputable def nmStart (os : Os) : World :=
  { World.holding Tryz.prog os ⟨#[], #[], []⟩ with heap := (World.holding Tryz.prog os ⟨#[], #[], []⟩).heap.modify 0 (nmFill #[.iface 107 (.agg #[.pointer (some ⟨8, 59, none⟩)])]) }
noncomputable def nmWorld (os : Os) : World := (nmStart os).layVars Tryz.prog nmPlain
theorem nm_os (os : Os) : (nmWorld os).os = os := (World.layVars_os _ _ _).trans rfl
theorem nm_met (os : Os) (args : Array Value) : laidMetH Tryz.prog nmRow.laid ((nmWorld os).forCall (fun _ _ => 0) ⟨#[], args, []⟩).memory := by
  refine laidMetH_of_parts ?_ ?_
  · rw [nm_plain]
    have e1 : (nmPlain.filter fun x => (nmPlain.map (·.1)).contains x.1) = nmPlain := List.filter_eq_self.2 fun x hx => List.contains_iff_mem.2 (List.mem_map.2 ⟨x, hx, rfl⟩)
    have e2 : (nmPlain.filter fun x => !(nmPlain.map (·.1)).contains x.1) = [] := List.filter_eq_nil_iff.2 fun x hx => by rw [List.contains_iff_mem.2 (List.mem_map.2 ⟨x, hx, rfl⟩)]; simp
    have h : laidMet Tryz.prog nmPlain (nmWorld os) := laidMet_layVars (w0 := nmStart os) (nmPlain.map (·.1)) [] (by rw [e1]; rfl) (by rw [e1]; kernel_rfl) (by rw [e1]; kernel_rfl) (by rw [e2]; exact LaidIn.none)
    exact h.of_heap (by simp [World.memory, World.forCall, Input.heap])
  · rw [nm_handle]
    kernel_rfl

end Go.Proofs.YtdpjmngodbgacaaGreatDoor.Sg
