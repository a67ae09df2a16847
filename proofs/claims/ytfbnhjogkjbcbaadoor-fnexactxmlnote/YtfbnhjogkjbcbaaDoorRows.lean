/-
  NARROWER THAN 'FOR EVERY INPUT', by the rows' own cells (each row's printed sentence says how): FnExactXmlName: ifaces, laid · FnExactXmlRef: ifaces, laid · FnExactXmlText: ifaces, laid · FnExactXmlAttr: ifaces, laid · FnExactXmlNote: ifaces, laid.
  DERIVED. THE GIVEN ROWS OF THIS SEAT. 5 by the template 'for every input the law returns true; each argument reads behind the call as it read before'; 0 by the template 'total and deterministic' (their statements: YtfbnhjogkjbcbaaDoorTotals.lean).
  GIVEN WITH THE SEED: the statements are not yours to turn. If you find one false, say at which input.
  Laid BY PROGRAM, IN A SANDBOX (cutbox-rows.mjs): the forced cells as the released guide's own fill.sh prints them over the translation 1cbe29c51d02dbcd… (all of the seat's roots in one cut). By AI agents, Wed Nov 11 2026. No macro, syntax, notation, axiom, sorry.
-/
import Derived.Test.YtfbnhjogkjbcbaaDoorChecked
import GoSem.PinnedTables
import GoSem.Claim
import GoSem.ClaimJoined
import GoSem.ClaimMapViews
import Derived.JoinedTies
import Derived.KernelRfl
namespace Go.Proofs.YtfbnhjogkjbcbaaDoor
/- THE CELL 'sum', in the pinned program and in every row, IS THE sha256 OF THE DUMP (.gsa) THAT YtfbnhjogkjbcbaaDoorProg.lean LOADS. Nothing in Lean hashes anything: it is a label: what it is worth is what the hold of that sum in a sandbox is worth. -/
noncomputable def Tryd.pinned : Pinned := { name := "ytfbnhjogkjbcbaadoor", sum := "1cbe29c51d02dbcd5dff5a8fe391d4416570a2b119607e43943ef054584eaafb", checked := Tryd.checked }
namespace Rows
def none {H : Type} : Left H := { results := [], args := [] }

/- WHAT THE LISTED PACKAGE-LEVEL VARIABLES READ AS WHEN THE CALL BEGINS. Each datum BY PROGRAM (the guide's laid-datum.mjs) off the statement by which the dump's own 'gosem.cut.vars' lays the variable. In a bare row this is a premise. The card (YtfbnhjogkjbcbaaDoorCards.lean) ties it to the program's text. -/
def laid_unicode_utf8_acceptRanges {H : Type} : DataW H := .agg [.agg [.lit (.int .u8 128), .lit (.int .u8 191)], .agg [.lit (.int .u8 160), .lit (.int .u8 191)], .agg [.lit (.int .u8 128), .lit (.int .u8 159)], .agg [.lit (.int .u8 144), .lit (.int .u8 191)], .agg [.lit (.int .u8 128), .lit (.int .u8 143)], .agg [.lit (.int .u8 0), .lit (.int .u8 0)], .agg [.lit (.int .u8 0), .lit (.int .u8 0)], .agg [.lit (.int .u8 0), .lit (.int .u8 0)], .agg [.lit (.int .u8 0), .lit (.int .u8 0)], .agg [.lit (.int .u8 0), .lit (.int .u8 0)], .agg [.lit (.int .u8 0), .lit (.int .u8 0)], .agg [.lit (.int .u8 0), .lit (.int .u8 0)], .agg [.lit (.int .u8 0), .lit (.int .u8 0)], .agg [.lit (.int .u8 0), .lit (.int .u8 0)], .agg [.lit (.int .u8 0), .lit (.int .u8 0)], .agg [.lit (.int .u8 0), .lit (.int .u8 0)]]
def laid_loop_example_g00325_impl_errRefused {H : Type} : DataW H := .iface "*errors.errorString" (.ptr (.agg [.lit (.string [110, 111, 32, 112, 105, 101, 99, 101, 32, 111, 102, 32, 97, 32, 115, 116, 114, 105, 99, 116, 32, 116, 101, 120, 116])]))
/-- One of Go's own tables, pinned by name: the form's constant. -/
def laid_unicode_utf8_first : DataW Unit := Go.Pinned.utf8First

/-- 'laws.FnExactXmlName': WHATEVER THE INPUT: true; the input reads as it did. -/
def fnExactXmlNameSpec : ChangeSpec := { name := "fnExactXmlName", vars := ["loop.example/g00325/impl.errRefused"], fn := fun _ => fun
  | [d1, d2, g1] => { results := [.lit (.bool true)], args := [d1, d2], vars := [g1] }
  | _ => none }
def fnExactXmlNameRow : OpenClaim := { program := "ytfbnhjogkjbcbaadoor", sum := "1cbe29c51d02dbcd5dff5a8fe391d4416570a2b119607e43943ef054584eaafb", func := "loop.example/g00325/laws.FnExactXmlName", spec := "fnExactXmlName", inPlace := ["internal/reflectlite.TypeOf"], unfollowed := true, recurses := true, named := ["loop.example/g00325/impl.errRefused", "unicode/utf8.first", "unicode/utf8.acceptRanges"], ifaces := true, apart := false, laid := [("unicode/utf8.acceptRanges", laid_unicode_utf8_acceptRanges), ("loop.example/g00325/impl.errRefused", laid_loop_example_g00325_impl_errRefused), ("unicode/utf8.first", laid_unicode_utf8_first)] }
def FnExactXmlNameSaid : Prop := fnExactXmlNameRow.holds Tryd.pinned (OpenSpec.ofChange fnExactXmlNameSpec)

/-- ITS FALSE NEIGHBOUR: 'it returns false'. Refute it at one input. -/
def fnExactXmlNameWrong : ChangeSpec := { name := "fnExactXmlName", vars := ["loop.example/g00325/impl.errRefused"], fn := fun _ => fun
  | [d1, d2, g1] => { results := [.lit (.bool false)], args := [d1, d2], vars := [g1] }
  | _ => none }
def FnExactXmlNameWrongFalsely : Prop := fnExactXmlNameRow.holds Tryd.pinned (OpenSpec.ofChange fnExactXmlNameWrong)

/-- 'laws.FnExactXmlRef': WHATEVER THE INPUT: true; the input reads as it did. -/
def fnExactXmlRefSpec : ChangeSpec := { name := "fnExactXmlRef", vars := ["loop.example/g00325/impl.errRefused"], fn := fun _ => fun
  | [d1, d2, g1] => { results := [.lit (.bool true)], args := [d1, d2], vars := [g1] }
  | _ => none }
def fnExactXmlRefRow : OpenClaim := { program := "ytfbnhjogkjbcbaadoor", sum := "1cbe29c51d02dbcd5dff5a8fe391d4416570a2b119607e43943ef054584eaafb", func := "loop.example/g00325/laws.FnExactXmlRef", spec := "fnExactXmlRef", inPlace := ["internal/bytealg.IndexByteString", "internal/bytealg.IndexString", "internal/reflectlite.TypeOf"], unfollowed := true, recurses := true, named := ["loop.example/g00325/impl.errRefused", "internal/bytealg.MaxLen"], ifaces := true, apart := false, laid := [("loop.example/g00325/impl.errRefused", laid_loop_example_g00325_impl_errRefused)] }
def FnExactXmlRefSaid : Prop := fnExactXmlRefRow.holds Tryd.pinned (OpenSpec.ofChange fnExactXmlRefSpec)

/-- ITS FALSE NEIGHBOUR: 'it returns false'. Refute it at one input. -/
def fnExactXmlRefWrong : ChangeSpec := { name := "fnExactXmlRef", vars := ["loop.example/g00325/impl.errRefused"], fn := fun _ => fun
  | [d1, d2, g1] => { results := [.lit (.bool false)], args := [d1, d2], vars := [g1] }
  | _ => none }
def FnExactXmlRefWrongFalsely : Prop := fnExactXmlRefRow.holds Tryd.pinned (OpenSpec.ofChange fnExactXmlRefWrong)

/-- 'laws.FnExactXmlText': WHATEVER THE INPUT: true; the input reads as it did. -/
def fnExactXmlTextSpec : ChangeSpec := { name := "fnExactXmlText", vars := ["loop.example/g00325/impl.errRefused"], fn := fun _ => fun
  | [d1, d2, d3, g1] => { results := [.lit (.bool true)], args := [d1, d2, d3], vars := [g1] }
  | _ => none }
def fnExactXmlTextRow : OpenClaim := { program := "ytfbnhjogkjbcbaadoor", sum := "1cbe29c51d02dbcd5dff5a8fe391d4416570a2b119607e43943ef054584eaafb", func := "loop.example/g00325/laws.FnExactXmlText", spec := "fnExactXmlText", inPlace := ["internal/bytealg.IndexByteString", "internal/bytealg.IndexString", "internal/abi.NoEscape", "internal/reflectlite.TypeOf"], unfollowed := true, recurses := true, named := ["loop.example/g00325/impl.errRefused", "internal/bytealg.MaxLen", "unicode/utf8.first", "unicode/utf8.acceptRanges"], ifaces := true, apart := false, laid := [("unicode/utf8.acceptRanges", laid_unicode_utf8_acceptRanges), ("loop.example/g00325/impl.errRefused", laid_loop_example_g00325_impl_errRefused), ("unicode/utf8.first", laid_unicode_utf8_first)] }
def FnExactXmlTextSaid : Prop := fnExactXmlTextRow.holds Tryd.pinned (OpenSpec.ofChange fnExactXmlTextSpec)

/-- ITS FALSE NEIGHBOUR: 'it returns false'. Refute it at one input. -/
def fnExactXmlTextWrong : ChangeSpec := { name := "fnExactXmlText", vars := ["loop.example/g00325/impl.errRefused"], fn := fun _ => fun
  | [d1, d2, d3, g1] => { results := [.lit (.bool false)], args := [d1, d2, d3], vars := [g1] }
  | _ => none }
def FnExactXmlTextWrongFalsely : Prop := fnExactXmlTextRow.holds Tryd.pinned (OpenSpec.ofChange fnExactXmlTextWrong)

/-- 'laws.FnExactXmlAttr': WHATEVER THE INPUT: true; the input reads as it did. -/
def fnExactXmlAttrSpec : ChangeSpec := { name := "fnExactXmlAttr", vars := ["loop.example/g00325/impl.errRefused"], fn := fun _ => fun
  | [d1, d2, g1] => { results := [.lit (.bool true)], args := [d1, d2], vars := [g1] }
  | _ => none }
def fnExactXmlAttrRow : OpenClaim := { program := "ytfbnhjogkjbcbaadoor", sum := "1cbe29c51d02dbcd5dff5a8fe391d4416570a2b119607e43943ef054584eaafb", func := "loop.example/g00325/laws.FnExactXmlAttr", spec := "fnExactXmlAttr", inPlace := ["internal/reflectlite.TypeOf", "internal/bytealg.IndexByteString", "internal/bytealg.IndexString", "internal/abi.NoEscape"], unfollowed := true, recurses := true, named := ["loop.example/g00325/impl.errRefused", "unicode/utf8.first", "unicode/utf8.acceptRanges", "internal/bytealg.MaxLen"], ifaces := true, apart := false, laid := [("unicode/utf8.acceptRanges", laid_unicode_utf8_acceptRanges), ("loop.example/g00325/impl.errRefused", laid_loop_example_g00325_impl_errRefused), ("unicode/utf8.first", laid_unicode_utf8_first)] }
def FnExactXmlAttrSaid : Prop := fnExactXmlAttrRow.holds Tryd.pinned (OpenSpec.ofChange fnExactXmlAttrSpec)

/-- ITS FALSE NEIGHBOUR: 'it returns false'. Refute it at one input. -/
def fnExactXmlAttrWrong : ChangeSpec := { name := "fnExactXmlAttr", vars := ["loop.example/g00325/impl.errRefused"], fn := fun _ => fun
  | [d1, d2, g1] => { results := [.lit (.bool false)], args := [d1, d2], vars := [g1] }
  | _ => none }
def FnExactXmlAttrWrongFalsely : Prop := fnExactXmlAttrRow.holds Tryd.pinned (OpenSpec.ofChange fnExactXmlAttrWrong)

/-- 'laws.FnExactXmlNote': WHATEVER THE INPUT: true; the input reads as it did. -/
def fnExactXmlNoteSpec : ChangeSpec := { name := "fnExactXmlNote", vars := ["loop.example/g00325/impl.errRefused"], fn := fun _ => fun
  | [d1, d2, g1] => { results := [.lit (.bool true)], args := [d1, d2], vars := [g1] }
  | _ => none }
def fnExactXmlNoteRow : OpenClaim := { program := "ytfbnhjogkjbcbaadoor", sum := "1cbe29c51d02dbcd5dff5a8fe391d4416570a2b119607e43943ef054584eaafb", func := "loop.example/g00325/laws.FnExactXmlNote", spec := "fnExactXmlNote", inPlace := ["internal/bytealg.IndexByteString", "internal/bytealg.IndexString", "internal/abi.NoEscape", "internal/reflectlite.TypeOf"], unfollowed := true, recurses := true, named := ["loop.example/g00325/impl.errRefused", "internal/bytealg.MaxLen", "unicode/utf8.first", "unicode/utf8.acceptRanges"], ifaces := true, apart := false, laid := [("unicode/utf8.acceptRanges", laid_unicode_utf8_acceptRanges), ("loop.example/g00325/impl.errRefused", laid_loop_example_g00325_impl_errRefused), ("unicode/utf8.first", laid_unicode_utf8_first)] }
def FnExactXmlNoteSaid : Prop := fnExactXmlNoteRow.holds Tryd.pinned (OpenSpec.ofChange fnExactXmlNoteSpec)

/-- ITS FALSE NEIGHBOUR: 'it returns false'. Refute it at one input. -/
def fnExactXmlNoteWrong : ChangeSpec := { name := "fnExactXmlNote", vars := ["loop.example/g00325/impl.errRefused"], fn := fun _ => fun
  | [d1, d2, g1] => { results := [.lit (.bool false)], args := [d1, d2], vars := [g1] }
  | _ => none }
def FnExactXmlNoteWrongFalsely : Prop := fnExactXmlNoteRow.holds Tryd.pinned (OpenSpec.ofChange fnExactXmlNoteWrong)

/- THE SECOND FORM. 'bulk': how many values and letters a reading holds, each counted each time it is reached (what is shared counts as often as it is met; a slice's spare places count too). A statement '..UptoSaid' is the law's where the arguments, and the package variables that the reading takes, are together of bulk at most 1048576: NARROWER than '..Said'. Prove '..Said' where nothing that the law and all that it calls make is longer than what came in: it says more and counts as full. Else prove '..UptoSaid'. A law counts once. -/
mutual
def uptoBulk {H : Type} : DataW H → Nat
  | .lit (.string bytes) => bytes.length + 1
  | .lit _ => 1
  | .nil => 1
  | .ptr d => uptoBulk d + 1
  | .slice elems spare => uptoBulkAll elems + uptoBulkAll spare + 1
  | .agg parts => uptoBulkAll parts + 1
  | .iface _ d => uptoBulk d + 1
  | .map entries => uptoBulkEntries entries + 1
  | .held _ => 1
def uptoBulkAll {H : Type} : List (DataW H) → Nat
  | [] => 0
  | d :: r => uptoBulk d + uptoBulkAll r
def uptoBulkEntries {H : Type} : List (Lit × DataW H) → Nat
  | [] => 0
  | x :: r => uptoBulkEntry x + uptoBulkEntries r
def uptoBulkEntry {H : Type} : Lit × DataW H → Nat
  | (.string bytes, d) => bytes.length + uptoBulk d + 1
  | (_, d) => uptoBulk d + 1
 end
def uptoSmall : (H : Type) → List (DataW H) → Bool := fun _ ds => decide (uptoBulkAll ds ≤ 1048576)
def OpenSpec.upto (s : _root_.Go.ChangeSpec) : _root_.Go.OpenSpec := { _root_.Go.OpenSpec.ofChange s with cond := some uptoSmall }

/-- 'laws.FnExactXmlName', WHERE WHAT IT READS IS OF BULK AT MOST 1048576: true; the input reads as it did. -/
def fnExactXmlNameUptoRow : OpenClaim := { program := "ytfbnhjogkjbcbaadoor", sum := "1cbe29c51d02dbcd5dff5a8fe391d4416570a2b119607e43943ef054584eaafb", func := "loop.example/g00325/laws.FnExactXmlName", spec := "fnExactXmlName", inPlace := ["internal/reflectlite.TypeOf"], unfollowed := true, recurses := true, named := ["loop.example/g00325/impl.errRefused", "unicode/utf8.first", "unicode/utf8.acceptRanges"], ifaces := true, apart := false, laid := [("unicode/utf8.acceptRanges", laid_unicode_utf8_acceptRanges), ("loop.example/g00325/impl.errRefused", laid_loop_example_g00325_impl_errRefused), ("unicode/utf8.first", laid_unicode_utf8_first)], narrowed := true }
def FnExactXmlNameUptoSaid : Prop := fnExactXmlNameUptoRow.holds Tryd.pinned (OpenSpec.upto fnExactXmlNameSpec)

/-- 'laws.FnExactXmlRef', WHERE WHAT IT READS IS OF BULK AT MOST 1048576: true; the input reads as it did. -/
def fnExactXmlRefUptoRow : OpenClaim := { program := "ytfbnhjogkjbcbaadoor", sum := "1cbe29c51d02dbcd5dff5a8fe391d4416570a2b119607e43943ef054584eaafb", func := "loop.example/g00325/laws.FnExactXmlRef", spec := "fnExactXmlRef", inPlace := ["internal/bytealg.IndexByteString", "internal/bytealg.IndexString", "internal/reflectlite.TypeOf"], unfollowed := true, recurses := true, named := ["loop.example/g00325/impl.errRefused", "internal/bytealg.MaxLen"], ifaces := true, apart := false, laid := [("loop.example/g00325/impl.errRefused", laid_loop_example_g00325_impl_errRefused)], narrowed := true }
def FnExactXmlRefUptoSaid : Prop := fnExactXmlRefUptoRow.holds Tryd.pinned (OpenSpec.upto fnExactXmlRefSpec)

/-- 'laws.FnExactXmlText', WHERE WHAT IT READS IS OF BULK AT MOST 1048576: true; the input reads as it did. -/
def fnExactXmlTextUptoRow : OpenClaim := { program := "ytfbnhjogkjbcbaadoor", sum := "1cbe29c51d02dbcd5dff5a8fe391d4416570a2b119607e43943ef054584eaafb", func := "loop.example/g00325/laws.FnExactXmlText", spec := "fnExactXmlText", inPlace := ["internal/bytealg.IndexByteString", "internal/bytealg.IndexString", "internal/abi.NoEscape", "internal/reflectlite.TypeOf"], unfollowed := true, recurses := true, named := ["loop.example/g00325/impl.errRefused", "internal/bytealg.MaxLen", "unicode/utf8.first", "unicode/utf8.acceptRanges"], ifaces := true, apart := false, laid := [("unicode/utf8.acceptRanges", laid_unicode_utf8_acceptRanges), ("loop.example/g00325/impl.errRefused", laid_loop_example_g00325_impl_errRefused), ("unicode/utf8.first", laid_unicode_utf8_first)], narrowed := true }
def FnExactXmlTextUptoSaid : Prop := fnExactXmlTextUptoRow.holds Tryd.pinned (OpenSpec.upto fnExactXmlTextSpec)

/-- 'laws.FnExactXmlAttr', WHERE WHAT IT READS IS OF BULK AT MOST 1048576: true; the input reads as it did. -/
def fnExactXmlAttrUptoRow : OpenClaim := { program := "ytfbnhjogkjbcbaadoor", sum := "1cbe29c51d02dbcd5dff5a8fe391d4416570a2b119607e43943ef054584eaafb", func := "loop.example/g00325/laws.FnExactXmlAttr", spec := "fnExactXmlAttr", inPlace := ["internal/reflectlite.TypeOf", "internal/bytealg.IndexByteString", "internal/bytealg.IndexString", "internal/abi.NoEscape"], unfollowed := true, recurses := true, named := ["loop.example/g00325/impl.errRefused", "unicode/utf8.first", "unicode/utf8.acceptRanges", "internal/bytealg.MaxLen"], ifaces := true, apart := false, laid := [("unicode/utf8.acceptRanges", laid_unicode_utf8_acceptRanges), ("loop.example/g00325/impl.errRefused", laid_loop_example_g00325_impl_errRefused), ("unicode/utf8.first", laid_unicode_utf8_first)], narrowed := true }
def FnExactXmlAttrUptoSaid : Prop := fnExactXmlAttrUptoRow.holds Tryd.pinned (OpenSpec.upto fnExactXmlAttrSpec)

/-- 'laws.FnExactXmlNote', WHERE WHAT IT READS IS OF BULK AT MOST 1048576: true; the input reads as it did. -/
def fnExactXmlNoteUptoRow : OpenClaim := { program := "ytfbnhjogkjbcbaadoor", sum := "1cbe29c51d02dbcd5dff5a8fe391d4416570a2b119607e43943ef054584eaafb", func := "loop.example/g00325/laws.FnExactXmlNote", spec := "fnExactXmlNote", inPlace := ["internal/bytealg.IndexByteString", "internal/bytealg.IndexString", "internal/abi.NoEscape", "internal/reflectlite.TypeOf"], unfollowed := true, recurses := true, named := ["loop.example/g00325/impl.errRefused", "internal/bytealg.MaxLen", "unicode/utf8.first", "unicode/utf8.acceptRanges"], ifaces := true, apart := false, laid := [("unicode/utf8.acceptRanges", laid_unicode_utf8_acceptRanges), ("loop.example/g00325/impl.errRefused", laid_loop_example_g00325_impl_errRefused), ("unicode/utf8.first", laid_unicode_utf8_first)], narrowed := true }
def FnExactXmlNoteUptoSaid : Prop := fnExactXmlNoteUptoRow.holds Tryd.pinned (OpenSpec.upto fnExactXmlNoteSpec)

end Rows
end Go.Proofs.YtfbnhjogkjbcbaaDoor
