/-
  No cell of these rows narrows 'for every input' (looked for: loops, veiled, ifaces, maps, wideKeys, modest, calm, conditions, laid).
  DERIVED. THE GIVEN ROWS OF THIS SEAT. 4 by the template 'for every input the law returns true; each argument reads behind the call as it read before'; 0 by the template 'total and deterministic' (their statements: YtlaidaghmhmgbaaTotals.lean).
  GIVEN WITH THE SEED: the statements are not yours to turn. If you find one false, say at which input.
  Laid BY PROGRAM, IN A SANDBOX (cutbox-rows.mjs): the forced cells as the released guide's own fill.sh prints them over the translation 56794c71fdfd51d5… (all of the seat's roots in one cut). By AI agents, Wed Nov 11 2026. No macro, syntax, notation, axiom, sorry.
-/
import Derived.Test.YtlaidaghmhmgbaaChecked
import GoSem.Claim
import GoSem.ClaimJoined
import GoSem.ClaimMapViews
import Derived.JoinedTies
import Derived.KernelRfl
namespace Go.Proofs.Ytlaidaghmhmgbaa
/- THE CELL 'sum', in the pinned program and in every row, IS THE sha256 OF THE DUMP (.gsa) THAT YtlaidaghmhmgbaaProg.lean LOADS. Nothing in Lean hashes anything: it is a label: what it is worth is what the hold of that sum in a sandbox is worth. -/
noncomputable def Try.pinned : Pinned := { name := "ytlaidaghmhmgbaa", sum := "56794c71fdfd51d593c075e80b2d9beb82f902276ddd2500b167c7df1379ec23", checked := Try.checked }
namespace Rows
def none {H : Type} : Left H := { results := [], args := [] }

/-- 'laws.FnExactNamed': WHATEVER THE INPUT: true; the input reads as it did. -/
def fnExactNamedSpec : ChangeSpec := { name := "fnExactNamed", fn := fun _ => fun
  | [] => { results := [.lit (.bool true)], args := [] }
  | _ => none }
def fnExactNamedRow : OpenClaim := { program := "ytlaidaghmhmgbaa", sum := "56794c71fdfd51d593c075e80b2d9beb82f902276ddd2500b167c7df1379ec23", func := "loop.example/g00325/laws.FnExactNamed", spec := "fnExactNamed", apart := false }
def FnExactNamedSaid : Prop := fnExactNamedRow.holds Try.pinned (OpenSpec.ofChange fnExactNamedSpec)

/-- ITS FALSE NEIGHBOUR: 'it returns false'. Refute it at one input. -/
def fnExactNamedWrong : ChangeSpec := { name := "fnExactNamed", fn := fun _ => fun
  | [] => { results := [.lit (.bool false)], args := [] }
  | _ => none }
def FnExactNamedWrongFalsely : Prop := fnExactNamedRow.holds Try.pinned (OpenSpec.ofChange fnExactNamedWrong)

/-- 'laws.FnExactTagEnd': WHATEVER THE INPUT: true; the input reads as it did. -/
def fnExactTagEndSpec : ChangeSpec := { name := "fnExactTagEnd", fn := fun _ => fun
  | [d1, d2] => { results := [.lit (.bool true)], args := [d1, d2] }
  | _ => none }
def fnExactTagEndRow : OpenClaim := { program := "ytlaidaghmhmgbaa", sum := "56794c71fdfd51d593c075e80b2d9beb82f902276ddd2500b167c7df1379ec23", func := "loop.example/g00325/laws.FnExactTagEnd", spec := "fnExactTagEnd", inPlace := ["internal/bytealg.IndexByteString"], apart := false }
def FnExactTagEndSaid : Prop := fnExactTagEndRow.holds Try.pinned (OpenSpec.ofChange fnExactTagEndSpec)

/-- ITS FALSE NEIGHBOUR: 'it returns false'. Refute it at one input. -/
def fnExactTagEndWrong : ChangeSpec := { name := "fnExactTagEnd", fn := fun _ => fun
  | [d1, d2] => { results := [.lit (.bool false)], args := [d1, d2] }
  | _ => none }
def FnExactTagEndWrongFalsely : Prop := fnExactTagEndRow.holds Try.pinned (OpenSpec.ofChange fnExactTagEndWrong)

/-- 'laws.FnExactRaw': WHATEVER THE INPUT: true; the input reads as it did. -/
def fnExactRawSpec : ChangeSpec := { name := "fnExactRaw", fn := fun _ => fun
  | [d] => { results := [.lit (.bool true)], args := [d] }
  | _ => none }
def fnExactRawRow : OpenClaim := { program := "ytlaidaghmhmgbaa", sum := "56794c71fdfd51d593c075e80b2d9beb82f902276ddd2500b167c7df1379ec23", func := "loop.example/g00325/laws.FnExactRaw", spec := "fnExactRaw", apart := false }
def FnExactRawSaid : Prop := fnExactRawRow.holds Try.pinned (OpenSpec.ofChange fnExactRawSpec)

/-- ITS FALSE NEIGHBOUR: 'it returns false'. Refute it at one input. -/
def fnExactRawWrong : ChangeSpec := { name := "fnExactRaw", fn := fun _ => fun
  | [d] => { results := [.lit (.bool false)], args := [d] }
  | _ => none }
def FnExactRawWrongFalsely : Prop := fnExactRawRow.holds Try.pinned (OpenSpec.ofChange fnExactRawWrong)

/-- 'laws.FnExactRawEnd': WHATEVER THE INPUT: true; the input reads as it did. -/
def fnExactRawEndSpec : ChangeSpec := { name := "fnExactRawEnd", fn := fun _ => fun
  | [d1, d2, d3] => { results := [.lit (.bool true)], args := [d1, d2, d3] }
  | _ => none }
def fnExactRawEndRow : OpenClaim := { program := "ytlaidaghmhmgbaa", sum := "56794c71fdfd51d593c075e80b2d9beb82f902276ddd2500b167c7df1379ec23", func := "loop.example/g00325/laws.FnExactRawEnd", spec := "fnExactRawEnd", inPlace := ["internal/bytealg.IndexByteString"], apart := false }
def FnExactRawEndSaid : Prop := fnExactRawEndRow.holds Try.pinned (OpenSpec.ofChange fnExactRawEndSpec)

/-- ITS FALSE NEIGHBOUR: 'it returns false'. Refute it at one input. -/
def fnExactRawEndWrong : ChangeSpec := { name := "fnExactRawEnd", fn := fun _ => fun
  | [d1, d2, d3] => { results := [.lit (.bool false)], args := [d1, d2, d3] }
  | _ => none }
def FnExactRawEndWrongFalsely : Prop := fnExactRawEndRow.holds Try.pinned (OpenSpec.ofChange fnExactRawEndWrong)

/- THE SECOND FORM. 'bulk': how many values and letters a reading holds, each counted each time it is reached (what is shared counts as often as it is met; a slice's spare places count too). A statement '..UptoSaid' is the law's where the arguments, and the package variables that the reading takes, are together of bulk at most 1048576: NARROWER than '..Said'. Prove '..Said' where nothing that the law and all that it calls make is longer than what came in: it says more and counts as full. Else prove '..UptoSaid'. A law counts once. -/
mutual
def uptoBulk {H : Type} : DataW H → Nat
  | .lit (.string bytes) => bytes.length + 1
  | .lit _ => 1
  | .nil => 1
  | .ptr d => uptoBulk d + 1
  | .slice elems spare => uptoBulkAll elems + uptoBulkAll spare + 1
  | .agg parts => uptoBulkAll parts + 1
  | .iface _ d => uptoBulk d + 1
  | .map entries => uptoBulkEntries entries + 1
  | .held _ => 1
def uptoBulkAll {H : Type} : List (DataW H) → Nat
  | [] => 0
  | d :: r => uptoBulk d + uptoBulkAll r
def uptoBulkEntries {H : Type} : List (Lit × DataW H) → Nat
  | [] => 0
  | x :: r => uptoBulkEntry x + uptoBulkEntries r
def uptoBulkEntry {H : Type} : Lit × DataW H → Nat
  | (.string bytes, d) => bytes.length + uptoBulk d + 1
  | (_, d) => uptoBulk d + 1
 end
def uptoSmall : (H : Type) → List (DataW H) → Bool := fun _ ds => decide (uptoBulkAll ds ≤ 1048576)
def OpenSpec.upto (s : _root_.Go.ChangeSpec) : _root_.Go.OpenSpec := { _root_.Go.OpenSpec.ofChange s with cond := some uptoSmall }

/-- 'laws.FnExactNamed', WHERE WHAT IT READS IS OF BULK AT MOST 1048576: true; the input reads as it did. -/
def fnExactNamedUptoRow : OpenClaim := { program := "ytlaidaghmhmgbaa", sum := "56794c71fdfd51d593c075e80b2d9beb82f902276ddd2500b167c7df1379ec23", func := "loop.example/g00325/laws.FnExactNamed", spec := "fnExactNamed", apart := false, narrowed := true }
def FnExactNamedUptoSaid : Prop := fnExactNamedUptoRow.holds Try.pinned (OpenSpec.upto fnExactNamedSpec)

/-- 'laws.FnExactTagEnd', WHERE WHAT IT READS IS OF BULK AT MOST 1048576: true; the input reads as it did. -/
def fnExactTagEndUptoRow : OpenClaim := { program := "ytlaidaghmhmgbaa", sum := "56794c71fdfd51d593c075e80b2d9beb82f902276ddd2500b167c7df1379ec23", func := "loop.example/g00325/laws.FnExactTagEnd", spec := "fnExactTagEnd", inPlace := ["internal/bytealg.IndexByteString"], apart := false, narrowed := true }
def FnExactTagEndUptoSaid : Prop := fnExactTagEndUptoRow.holds Try.pinned (OpenSpec.upto fnExactTagEndSpec)

/-- 'laws.FnExactRaw', WHERE WHAT IT READS IS OF BULK AT MOST 1048576: true; the input reads as it did. -/
def fnExactRawUptoRow : OpenClaim := { program := "ytlaidaghmhmgbaa", sum := "56794c71fdfd51d593c075e80b2d9beb82f902276ddd2500b167c7df1379ec23", func := "loop.example/g00325/laws.FnExactRaw", spec := "fnExactRaw", apart := false, narrowed := true }
def FnExactRawUptoSaid : Prop := fnExactRawUptoRow.holds Try.pinned (OpenSpec.upto fnExactRawSpec)

/-- 'laws.FnExactRawEnd', WHERE WHAT IT READS IS OF BULK AT MOST 1048576: true; the input reads as it did. -/
def fnExactRawEndUptoRow : OpenClaim := { program := "ytlaidaghmhmgbaa", sum := "56794c71fdfd51d593c075e80b2d9beb82f902276ddd2500b167c7df1379ec23", func := "loop.example/g00325/laws.FnExactRawEnd", spec := "fnExactRawEnd", inPlace := ["internal/bytealg.IndexByteString"], apart := false, narrowed := true }
def FnExactRawEndUptoSaid : Prop := fnExactRawEndUptoRow.holds Try.pinned (OpenSpec.upto fnExactRawEndSpec)

end Rows
end Go.Proofs.Ytlaidaghmhmgbaa
