/-
  NARROWER THAN 'FOR EVERY INPUT', by the rows' own cells (each row's printed sentence says how): FnTagEnds: laid · FnExactRef: laid · FnExactRefs: laid · FnExactAttrs: laid.
  DERIVED. THE GIVEN ROWS OF THIS SEAT. 4 by the template 'for every input the law returns true; each argument reads behind the call as it read before'; 0 by the template 'total and deterministic' (their statements: YtlaidaghmhmgbaaDoorTotals.lean).
  GIVEN WITH THE SEED: the statements are not yours to turn. If you find one false, say at which input.
  Laid BY PROGRAM, IN A SANDBOX (cutbox-rows.mjs): the forced cells as the released guide's own fill.sh prints them over the translation 0e222db0a076d14e… (all of the seat's roots in one cut). By AI agents, Wed Nov 11 2026. No macro, syntax, notation, axiom, sorry.
-/
import Derived.Test.YtlaidaghmhmgbaaDoorChecked
import GoSem.Claim
import GoSem.ClaimJoined
import GoSem.ClaimMapViews
import Derived.JoinedTies
import Derived.KernelRfl
namespace Go.Proofs.YtlaidaghmhmgbaaDoor
/- THE CELL 'sum', in the pinned program and in every row, IS THE sha256 OF THE DUMP (.gsa) THAT YtlaidaghmhmgbaaDoorProg.lean LOADS. Nothing in Lean hashes anything: it is a label: what it is worth is what the hold of that sum in a sandbox is worth. -/
noncomputable def Tryd.pinned : Pinned := { name := "ytlaidaghmhmgbaadoor", sum := "0e222db0a076d14eecf0219e12bb07a5371c38346958f97584e937ea6b85273e", checked := Tryd.checked }
namespace Rows
def none {H : Type} : Left H := { results := [], args := [] }

/- WHAT THE LISTED PACKAGE-LEVEL VARIABLES READ AS WHEN THE CALL BEGINS. Each datum BY PROGRAM (the guide's laid-datum.mjs) off the statement by which the dump's own 'gosem.cut.vars' lays the variable. In a bare row this is a premise. The card (YtlaidaghmhmgbaaDoorCards.lean) ties it to the program's text. -/
def laid_loop_example_g00325_impl_middleSigns {H : Type} : DataW H := .agg [.lit (.int .i64 8364), .lit (.int .i64 129), .lit (.int .i64 8218), .lit (.int .i64 402), .lit (.int .i64 8222), .lit (.int .i64 8230), .lit (.int .i64 8224), .lit (.int .i64 8225), .lit (.int .i64 710), .lit (.int .i64 8240), .lit (.int .i64 352), .lit (.int .i64 8249), .lit (.int .i64 338), .lit (.int .i64 141), .lit (.int .i64 381), .lit (.int .i64 143), .lit (.int .i64 144), .lit (.int .i64 8216), .lit (.int .i64 8217), .lit (.int .i64 8220), .lit (.int .i64 8221), .lit (.int .i64 8226), .lit (.int .i64 8211), .lit (.int .i64 8212), .lit (.int .i64 732), .lit (.int .i64 8482), .lit (.int .i64 353), .lit (.int .i64 8250), .lit (.int .i64 339), .lit (.int .i64 157), .lit (.int .i64 382), .lit (.int .i64 376)]

/-- 'laws.FnTagEnds': WHATEVER THE INPUT: true; the input reads as it did. -/
def fnTagEndsSpec : ChangeSpec := { name := "fnTagEnds", vars := ["loop.example/g00325/impl.middleSigns"], fn := fun _ => fun
  | [d, g1] => { results := [.lit (.bool true)], args := [d], vars := [g1] }
  | _ => none }
def fnTagEndsRow : OpenClaim := { program := "ytlaidaghmhmgbaadoor", sum := "0e222db0a076d14eecf0219e12bb07a5371c38346958f97584e937ea6b85273e", func := "loop.example/g00325/laws.FnTagEnds", spec := "fnTagEnds", inPlace := ["internal/bytealg.IndexByteString", "internal/abi.NoEscape"], named := ["loop.example/g00325/impl.middleSigns"], apart := false, laid := [("loop.example/g00325/impl.middleSigns", laid_loop_example_g00325_impl_middleSigns)] }
def FnTagEndsSaid : Prop := fnTagEndsRow.holds Tryd.pinned (OpenSpec.ofChange fnTagEndsSpec)

/-- ITS FALSE NEIGHBOUR: 'it returns false'. Refute it at one input. -/
def fnTagEndsWrong : ChangeSpec := { name := "fnTagEnds", vars := ["loop.example/g00325/impl.middleSigns"], fn := fun _ => fun
  | [d, g1] => { results := [.lit (.bool false)], args := [d], vars := [g1] }
  | _ => none }
def FnTagEndsWrongFalsely : Prop := fnTagEndsRow.holds Tryd.pinned (OpenSpec.ofChange fnTagEndsWrong)

/-- 'laws.FnExactRef': WHATEVER THE INPUT: true; the input reads as it did. -/
def fnExactRefSpec : ChangeSpec := { name := "fnExactRef", vars := ["loop.example/g00325/impl.middleSigns"], fn := fun _ => fun
  | [d1, d2, d3, g1] => { results := [.lit (.bool true)], args := [d1, d2, d3], vars := [g1] }
  | _ => none }
def fnExactRefRow : OpenClaim := { program := "ytlaidaghmhmgbaadoor", sum := "0e222db0a076d14eecf0219e12bb07a5371c38346958f97584e937ea6b85273e", func := "loop.example/g00325/laws.FnExactRef", spec := "fnExactRef", named := ["loop.example/g00325/impl.middleSigns"], apart := false, laid := [("loop.example/g00325/impl.middleSigns", laid_loop_example_g00325_impl_middleSigns)] }
def FnExactRefSaid : Prop := fnExactRefRow.holds Tryd.pinned (OpenSpec.ofChange fnExactRefSpec)

/-- ITS FALSE NEIGHBOUR: 'it returns false'. Refute it at one input. -/
def fnExactRefWrong : ChangeSpec := { name := "fnExactRef", vars := ["loop.example/g00325/impl.middleSigns"], fn := fun _ => fun
  | [d1, d2, d3, g1] => { results := [.lit (.bool false)], args := [d1, d2, d3], vars := [g1] }
  | _ => none }
def FnExactRefWrongFalsely : Prop := fnExactRefRow.holds Tryd.pinned (OpenSpec.ofChange fnExactRefWrong)

/-- 'laws.FnExactRefs': WHATEVER THE INPUT: true; the input reads as it did. -/
def fnExactRefsSpec : ChangeSpec := { name := "fnExactRefs", vars := ["loop.example/g00325/impl.middleSigns"], fn := fun _ => fun
  | [d1, d2, g1] => { results := [.lit (.bool true)], args := [d1, d2], vars := [g1] }
  | _ => none }
def fnExactRefsRow : OpenClaim := { program := "ytlaidaghmhmgbaadoor", sum := "0e222db0a076d14eecf0219e12bb07a5371c38346958f97584e937ea6b85273e", func := "loop.example/g00325/laws.FnExactRefs", spec := "fnExactRefs", inPlace := ["internal/abi.NoEscape"], named := ["loop.example/g00325/impl.middleSigns"], apart := false, laid := [("loop.example/g00325/impl.middleSigns", laid_loop_example_g00325_impl_middleSigns)] }
def FnExactRefsSaid : Prop := fnExactRefsRow.holds Tryd.pinned (OpenSpec.ofChange fnExactRefsSpec)

/-- ITS FALSE NEIGHBOUR: 'it returns false'. Refute it at one input. -/
def fnExactRefsWrong : ChangeSpec := { name := "fnExactRefs", vars := ["loop.example/g00325/impl.middleSigns"], fn := fun _ => fun
  | [d1, d2, g1] => { results := [.lit (.bool false)], args := [d1, d2], vars := [g1] }
  | _ => none }
def FnExactRefsWrongFalsely : Prop := fnExactRefsRow.holds Tryd.pinned (OpenSpec.ofChange fnExactRefsWrong)

/-- 'laws.FnExactAttrs': WHATEVER THE INPUT: true; the input reads as it did. -/
def fnExactAttrsSpec : ChangeSpec := { name := "fnExactAttrs", vars := ["loop.example/g00325/impl.middleSigns"], fn := fun _ => fun
  | [d, g1] => { results := [.lit (.bool true)], args := [d], vars := [g1] }
  | _ => none }
def fnExactAttrsRow : OpenClaim := { program := "ytlaidaghmhmgbaadoor", sum := "0e222db0a076d14eecf0219e12bb07a5371c38346958f97584e937ea6b85273e", func := "loop.example/g00325/laws.FnExactAttrs", spec := "fnExactAttrs", inPlace := ["internal/bytealg.IndexByteString", "internal/abi.NoEscape"], named := ["loop.example/g00325/impl.middleSigns"], apart := false, laid := [("loop.example/g00325/impl.middleSigns", laid_loop_example_g00325_impl_middleSigns)] }
def FnExactAttrsSaid : Prop := fnExactAttrsRow.holds Tryd.pinned (OpenSpec.ofChange fnExactAttrsSpec)

/-- ITS FALSE NEIGHBOUR: 'it returns false'. Refute it at one input. -/
def fnExactAttrsWrong : ChangeSpec := { name := "fnExactAttrs", vars := ["loop.example/g00325/impl.middleSigns"], fn := fun _ => fun
  | [d, g1] => { results := [.lit (.bool false)], args := [d], vars := [g1] }
  | _ => none }
def FnExactAttrsWrongFalsely : Prop := fnExactAttrsRow.holds Tryd.pinned (OpenSpec.ofChange fnExactAttrsWrong)

/- THE SECOND FORM. 'bulk': how many values and letters a reading holds, each counted each time it is reached (what is shared counts as often as it is met; a slice's spare places count too). A statement '..UptoSaid' is the law's where the arguments, and the package variables that the reading takes, are together of bulk at most 1048576: NARROWER than '..Said'. Prove '..Said' where nothing that the law and all that it calls make is longer than what came in: it says more and counts as full. Else prove '..UptoSaid'. A law counts once. -/
mutual
def uptoBulk {H : Type} : DataW H → Nat
  | .lit (.string bytes) => bytes.length + 1
  | .lit _ => 1
  | .nil => 1
  | .ptr d => uptoBulk d + 1
  | .slice elems spare => uptoBulkAll elems + uptoBulkAll spare + 1
  | .agg parts => uptoBulkAll parts + 1
  | .iface _ d => uptoBulk d + 1
  | .map entries => uptoBulkEntries entries + 1
  | .held _ => 1
def uptoBulkAll {H : Type} : List (DataW H) → Nat
  | [] => 0
  | d :: r => uptoBulk d + uptoBulkAll r
def uptoBulkEntries {H : Type} : List (Lit × DataW H) → Nat
  | [] => 0
  | x :: r => uptoBulkEntry x + uptoBulkEntries r
def uptoBulkEntry {H : Type} : Lit × DataW H → Nat
  | (.string bytes, d) => bytes.length + uptoBulk d + 1
  | (_, d) => uptoBulk d + 1
 end
def uptoSmall : (H : Type) → List (DataW H) → Bool := fun _ ds => decide (uptoBulkAll ds ≤ 1048576)
def OpenSpec.upto (s : _root_.Go.ChangeSpec) : _root_.Go.OpenSpec := { _root_.Go.OpenSpec.ofChange s with cond := some uptoSmall }

/-- 'laws.FnTagEnds', WHERE WHAT IT READS IS OF BULK AT MOST 1048576: true; the input reads as it did. -/
def fnTagEndsUptoRow : OpenClaim := { program := "ytlaidaghmhmgbaadoor", sum := "0e222db0a076d14eecf0219e12bb07a5371c38346958f97584e937ea6b85273e", func := "loop.example/g00325/laws.FnTagEnds", spec := "fnTagEnds", inPlace := ["internal/bytealg.IndexByteString", "internal/abi.NoEscape"], named := ["loop.example/g00325/impl.middleSigns"], apart := false, laid := [("loop.example/g00325/impl.middleSigns", laid_loop_example_g00325_impl_middleSigns)], narrowed := true }
def FnTagEndsUptoSaid : Prop := fnTagEndsUptoRow.holds Tryd.pinned (OpenSpec.upto fnTagEndsSpec)

/-- 'laws.FnExactRef', WHERE WHAT IT READS IS OF BULK AT MOST 1048576: true; the input reads as it did. -/
def fnExactRefUptoRow : OpenClaim := { program := "ytlaidaghmhmgbaadoor", sum := "0e222db0a076d14eecf0219e12bb07a5371c38346958f97584e937ea6b85273e", func := "loop.example/g00325/laws.FnExactRef", spec := "fnExactRef", named := ["loop.example/g00325/impl.middleSigns"], apart := false, laid := [("loop.example/g00325/impl.middleSigns", laid_loop_example_g00325_impl_middleSigns)], narrowed := true }
def FnExactRefUptoSaid : Prop := fnExactRefUptoRow.holds Tryd.pinned (OpenSpec.upto fnExactRefSpec)

/-- 'laws.FnExactRefs', WHERE WHAT IT READS IS OF BULK AT MOST 1048576: true; the input reads as it did. -/
def fnExactRefsUptoRow : OpenClaim := { program := "ytlaidaghmhmgbaadoor", sum := "0e222db0a076d14eecf0219e12bb07a5371c38346958f97584e937ea6b85273e", func := "loop.example/g00325/laws.FnExactRefs", spec := "fnExactRefs", inPlace := ["internal/abi.NoEscape"], named := ["loop.example/g00325/impl.middleSigns"], apart := false, laid := [("loop.example/g00325/impl.middleSigns", laid_loop_example_g00325_impl_middleSigns)], narrowed := true }
def FnExactRefsUptoSaid : Prop := fnExactRefsUptoRow.holds Tryd.pinned (OpenSpec.upto fnExactRefsSpec)

/-- 'laws.FnExactAttrs', WHERE WHAT IT READS IS OF BULK AT MOST 1048576: true; the input reads as it did. -/
def fnExactAttrsUptoRow : OpenClaim := { program := "ytlaidaghmhmgbaadoor", sum := "0e222db0a076d14eecf0219e12bb07a5371c38346958f97584e937ea6b85273e", func := "loop.example/g00325/laws.FnExactAttrs", spec := "fnExactAttrs", inPlace := ["internal/bytealg.IndexByteString", "internal/abi.NoEscape"], named := ["loop.example/g00325/impl.middleSigns"], apart := false, laid := [("loop.example/g00325/impl.middleSigns", laid_loop_example_g00325_impl_middleSigns)], narrowed := true }
def FnExactAttrsUptoSaid : Prop := fnExactAttrsUptoRow.holds Tryd.pinned (OpenSpec.upto fnExactAttrsSpec)

end Rows
end Go.Proofs.YtlaidaghmhmgbaaDoor
