/- What a row that lists the library's tables and an error with a name gives a walk, and a world that meets it. Texts in memory, one behind the other. What is escaped, and the names of the spaces, plain. No program in it. -/
import Derived.Test.YtfbnhjogkjbcbaaDoorPcSign
import Derived.Test.YtfbnhjogkjbcbaaDoorCards
import Derived.Test.YtfbnhjogkjbcbaaDoorTie
import Derived.Test.YtfbnhjogkjbcbaaDoorShelf
import Derived.WalkKit
import Derived.ProofKit
import Derived.OpenShut
import Derived.ShutString
import Derived.ChangeOld
import Derived.Below
import Derived.Deep.DeepHandedRow
import Derived.Deep.DeepWitnessRowRef
import Derived.Lib.LaidTab
import Derived.Lib.LaidU8T
import Derived.LaidHandle
import Derived.Lay
import Derived.Stop.Joined
import Derived.Stop.LaidErr
import Derived.OpenVars
import Derived.Test.YtfbnhjogkjbcbaaDoorSgOk
import Derived.Test.YtfbnhjogkjbcbaaDoorMN06
namespace Go.Proofs.YtfbnhjogkjbcbaaDoor.Sg
open Go.ChangeShapes Go.WideShapes Go.ChangeAt Go.RowKit

abbrev pcRow : OpenClaim := Rows.fnExactXmlNameRow

theorem pc_u8types : U8Types Tryd.prog Tryd.lays197_ren := U8Types.of260 { Tryd.lays197 with }
theorem pc_u8extra : U8Extra Tryd.prog Tryd.lays197_ren := ⟨by kernel_rfl, by kernel_rfl, by kernel_rfl, by kernel_rfl, by kernel_rfl, by kernel_rfl, by kernel_rfl⟩

def pcPlain : List (String × DataW Unit) := [("unicode/utf8.acceptRanges", Lib.acceptData), ("loop.example/g00325/impl.errRefused", Rows.laid_loop_example_g00325_impl_errRefused), ("unicode/utf8.first", Lib.firstData)]
theorem pc_plain : (pcRow.laid.filter fun x => x.2.handleName?.isNone) = pcPlain := by kernel_rfl
theorem pc_handle : (pcRow.laid.filter fun x => x.2.handleName?.isSome) = [] := by kernel_rfl
theorem pc_global : Tryd.prog.globalNamed "loop.example/g00325/impl.errRefused" = some 0 := by kernel_rfl
theorem pc_row (u : TypeId) (h : Tryd.prog.typeName? 3 u = some "*errors.errorString") : u = 116 :=
  typeName_ptr_named (nm := "errors.errorString") (by kernel_rfl) (by kernel_rfl) (by decide) u h

set_option maxRecDepth 100000 in
theorem pc_have {W : World} (h : laidMetH Tryd.prog pcRow.laid W) : ∃ a, PcT a W := by
  unfold laidMetH at h
  rw [pc_handle] at h
  have h0 : laidMet Tryd.prog pcPlain W := h
  obtain ⟨a, s, h1, _⟩ := laid_sentinel (P := Tryd.prog) (Go.laidMet.tail h0) pc_global (ti := 37) (te := 139) (ts := 9) (by kernel_rfl) Tryd.underlying37 pc_row Tryd.underlying116 Tryd.underlying139 rfl rfl Tryd.underlying9 (by kernel_rfl) (by kernel_rfl)
  refine ⟨a, utf8Tabs_of_readsT pc_u8types pc_u8extra (Lib.laidMet.reads h0 (.tail _ (.tail _ (.head _)))) (Lib.laidMet.reads h0 (.head _)), ?_⟩
  unfold ErrA
  simpa using World.var?_cell pc_global h1 0

noncomputable def pcWorld (os : Os) : World := (World.holding Tryd.prog os ⟨#[], #[], []⟩).layVars Tryd.prog pcPlain
theorem pc_os (os : Os) : (pcWorld os).os = os := (World.layVars_os _ _ _).trans rfl
theorem pc_met (os : Os) (args : Array Value) : laidMetH Tryd.prog pcRow.laid ((pcWorld os).forCall (fun _ _ => 0) ⟨#[], args, []⟩).memory := by
  refine laidMetH_of_parts ?_ ?_
  · rw [pc_plain]
    have e1 : (pcPlain.filter fun x => (pcPlain.map (·.1)).contains x.1) = pcPlain := List.filter_eq_self.2 fun x hx => List.contains_iff_mem.2 (List.mem_map.2 ⟨x, hx, rfl⟩)
    have e2 : (pcPlain.filter fun x => !(pcPlain.map (·.1)).contains x.1) = [] := List.filter_eq_nil_iff.2 fun x hx => by rw [List.contains_iff_mem.2 (List.mem_map.2 ⟨x, hx, rfl⟩)]; simp
    have h : laidMet Tryd.prog pcPlain (pcWorld os) := laidMet_layVars (w0 := World.holding Tryd.prog os ⟨#[], #[], []⟩) (pcPlain.map (·.1)) [] (by rw [e1]; rfl) (by rw [e1]; kernel_rfl) (by rw [e1]; kernel_rfl) (by rw [e2]; exact LaidIn.none)
    exact h.of_heap (by simp [World.memory, World.forCall, Input.heap])
  · rw [pc_handle]
    kernel_rfl

def prPlain : List (String × DataW Unit) := [("loop.example/g00325/impl.errRefused", Rows.laid_loop_example_g00325_impl_errRefused)]
theorem pr_plain : (Rows.fnExactXmlRefRow.laid.filter fun x => x.2.handleName?.isNone) = prPlain := by kernel_rfl
theorem pr_handle : (Rows.fnExactXmlRefRow.laid.filter fun x => x.2.handleName?.isSome) = [] := by kernel_rfl
set_option maxRecDepth 100000 in
theorem pr_have {W : World} (h : laidMetH Tryd.prog Rows.fnExactXmlRefRow.laid W) : ∃ a, ErrA a W := by
  unfold laidMetH at h
  rw [pr_handle] at h
  have h0 : laidMet Tryd.prog prPlain W := h
  obtain ⟨a, s, h1, _⟩ := laid_sentinel (P := Tryd.prog) h0 pc_global (ti := 37) (te := 139) (ts := 9) (by kernel_rfl) Tryd.underlying37 pc_row Tryd.underlying116 Tryd.underlying139 rfl rfl Tryd.underlying9 (by kernel_rfl) (by kernel_rfl)
  refine ⟨a, ?_⟩
  unfold ErrA
  simpa using World.var?_cell pc_global h1 0
noncomputable def prWorld (os : Os) : World := (World.holding Tryd.prog os ⟨#[], #[], []⟩).layVars Tryd.prog prPlain
theorem pr_os (os : Os) : (prWorld os).os = os := (World.layVars_os _ _ _).trans rfl
theorem pr_met (os : Os) (args : Array Value) : laidMetH Tryd.prog Rows.fnExactXmlRefRow.laid ((prWorld os).forCall (fun _ _ => 0) ⟨#[], args, []⟩).memory := by
  refine laidMetH_of_parts ?_ ?_
  · rw [pr_plain]
    have e1 : (prPlain.filter fun x => (prPlain.map (·.1)).contains x.1) = prPlain := List.filter_eq_self.2 fun x hx => List.contains_iff_mem.2 (List.mem_map.2 ⟨x, hx, rfl⟩)
    have e2 : (prPlain.filter fun x => !(prPlain.map (·.1)).contains x.1) = [] := List.filter_eq_nil_iff.2 fun x hx => by rw [List.contains_iff_mem.2 (List.mem_map.2 ⟨x, hx, rfl⟩)]; simp
    have h : laidMet Tryd.prog prPlain (prWorld os) := laidMet_layVars (w0 := World.holding Tryd.prog os ⟨#[], #[], []⟩) (prPlain.map (·.1)) [] (by rw [e1]; rfl) (by rw [e1]; kernel_rfl) (by rw [e1]; kernel_rfl) (by rw [e2]; exact LaidIn.none)
    exact h.of_heap (by simp [World.memory, World.forCall, Input.heap])
  · rw [pr_handle]
    kernel_rfl

end Go.Proofs.YtfbnhjogkjbcbaaDoor.Sg

namespace Go.Proofs.YtfbnhjogkjbcbaaDoor.Sg
open Go.ChangeShapes Go.WideShapes Go.ChangeAt Go.RowKit

/-- A text of some bytes. -/
def strB (l : List UInt8) : ByteArray := ⟨l.toArray⟩
theorem strB_size (l : List UInt8) : (strB l).size = l.length := by simp [strB, ByteArray.size]
theorem strB_inj {l m : List UInt8} (h : strB l = strB m) : l = m := by
  have := congrArg (fun s : ByteArray => s.data.toList) h
  simpa [strB] using this
theorem strB_of (s : ByteArray) : strB s.data.toList = s := by simp [strB]

theorem str_eq {y : List UInt8} {s : ByteArray} (h : y = s.data.toList) : ((strB y).toList == s.toList) = true := by
  rw [ByteArray.toList_eq, ByteArray.toList_eq, ← h]
  simp [strB]
theorem str_ne {y : List UInt8} {s : ByteArray} (h : y ≠ s.data.toList) : ((strB y).toList == s.toList) = false := by
  rw [ByteArray.toList_eq, ByteArray.toList_eq]
  simpa [strB] using h

/-- Texts lie one behind the other from a block's beginning. -/
def Texts (w : World) (b : Nat) (ls : List (List UInt8)) : Prop :=
  b < w.heap.size ∧ ∀ k, k < ls.length → w.cell? ⟨b, k, none⟩ = some (.string (strB (ls.getD k [])))

theorem Texts.laid (w : World) (ls : List (List UInt8)) (C : Array Value) (t : TypeId) (hC : C = (ls.map fun l => Value.string (strB l)).toArray) : Texts (w.alloc (.cells C t)) w.heap.size ls := by
  subst hC
  refine ⟨by simp, fun k hk => ?_⟩
  rw [World.cell?_alloc_new, List.getElem?_toArray, List.getElem?_map]
  simp [List.getD, hk]

theorem Texts.below {w w' : World} {b : Nat} {ls : List (List UInt8)} (h : Texts w b ls) {B : Nat} (hB : b < B) (hb : Below B w w') : Texts w' b ls :=
  ⟨Nat.lt_of_lt_of_le h.1 hb.size, fun k hk => (hb.cell hB).trans (h.2 k hk)⟩

end Go.Proofs.YtfbnhjogkjbcbaaDoor.Sg

namespace Go.Proofs.YtfbnhjogkjbcbaaDoor.Sg

/-- The bytes that are escaped (in a value), and what stands in their place. -/
def escW : Bool → List UInt8
  | false => [38, 60, 62, 13]
  | true => [38, 60, 62, 13, 34, 9, 10]
def escT : Bool → List (List UInt8)
  | false => [[38, 97, 109, 112, 59], [38, 108, 116, 59], [38, 103, 116, 59], [38, 35, 49, 51, 59]]
  | true => [[38, 97, 109, 112, 59], [38, 108, 116, 59], [38, 103, 116, 59], [38, 35, 49, 51, 59], [38, 113, 117, 111, 116, 59], [38, 35, 57, 59], [38, 35, 49, 48, 59]]
def escL (v : Bool) (l : List UInt8) : List UInt8 := swapL (escW v) (escT v) l
def escS (s : ByteArray) (v : Bool) : ByteArray := strB (escL v s.data.toList)
theorem esc1_length (v : Bool) (b : UInt8) : (swap1 (escW v) (escT v) b).length ≤ 6 := by
  unfold swap1
  split
  · simp
  · rename_i k hk
    have : ∀ v k, (List.getD (escT v) k []).length ≤ 6 := by
      intro v k
      rw [List.getD_eq_getElem?_getD]
      cases h : (escT v)[k]? with
      | none => simp
      | some x =>
        have hm := List.mem_of_getElem? h
        have : ∀ v, ∀ x ∈ escT v, x.length ≤ 6 := by decide
        exact this v x hm
    exact this v k
theorem escL_length (v : Bool) (l : List UInt8) : (escL v l).length ≤ 6 * l.length := by
  unfold escL swapL
  induction l with
  | nil => simp
  | cons b l ih =>
    rw [List.flatMap_cons, List.length_append, List.length_cons]
    have := esc1_length v b
    omega
theorem escS_size (s : ByteArray) (v : Bool) : (escS s v).size ≤ 6 * s.size := by
  unfold escS
  rw [strB_size]
  have := escL_length v s.data.toList
  rw [Array.length_toList] at this
  exact this

/-- The name of a space. -/
def spaceS (n : Int) : ByteArray :=
  if n = 0 then ⟨#[104, 116, 116, 112, 58, 47, 47, 119, 119, 119, 46, 119, 51, 46, 111, 114, 103, 47, 49, 57, 57, 57, 47, 120, 104, 116, 109, 108]⟩
  else if n = 1 then ⟨#[104, 116, 116, 112, 58, 47, 47, 119, 119, 119, 46, 119, 51, 46, 111, 114, 103, 47, 50, 48, 48, 48, 47, 115, 118, 103]⟩
  else if n = 2 then ⟨#[104, 116, 116, 112, 58, 47, 47, 119, 119, 119, 46, 119, 51, 46, 111, 114, 103, 47, 49, 57, 57, 56, 47, 77, 97, 116, 104, 47, 77, 97, 116, 104, 77, 76]⟩
  else ⟨#[]⟩

end Go.Proofs.YtfbnhjogkjbcbaaDoor.Sg
