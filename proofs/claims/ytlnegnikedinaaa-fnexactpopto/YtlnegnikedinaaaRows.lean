/-
  No cell of these rows narrows 'for every input' (looked for: loops, veiled, ifaces, maps, wideKeys, modest, calm, conditions, laid).
  DERIVED. THE GIVEN ROWS OF THIS SEAT. 4 by the template 'for every input the law returns true; each argument reads behind the call as it read before'; 0 by the template 'total and deterministic' (their statements: YtlnegnikedinaaaTotals.lean).
  GIVEN WITH THE SEED: the statements are not yours to turn. If you find one false, say at which input.
  Laid BY PROGRAM, IN A SANDBOX (cutbox-rows.mjs): the forced cells as the released guide's own fill.sh prints them over the translation e4b34a07b4124b41… (all of the seat's roots in one cut). By AI agents, Wed Nov 11 2026. No macro, syntax, notation, axiom, sorry.
-/
import Derived.Test.YtlnegnikedinaaaChecked
import GoSem.Claim
import GoSem.ClaimJoined
import GoSem.ClaimMapViews
import Derived.JoinedTies
import Derived.KernelRfl
namespace Go.Proofs.Ytlnegnikedinaaa
/- THE CELL 'sum', in the pinned program and in every row, IS THE sha256 OF THE DUMP (.gsa) THAT YtlnegnikedinaaaProg.lean LOADS. Nothing in Lean hashes anything: it is a label: what it is worth is what the hold of that sum in a sandbox is worth. -/
noncomputable def Try.pinned : Pinned := { name := "ytlnegnikedinaaa", sum := "e4b34a07b4124b41db0521974747b3de4914cf4dfa00cd15af67e9f7f74b78c9", checked := Try.checked }
namespace Rows
def none {H : Type} : Left H := { results := [], args := [] }

/-- 'laws.FnExactPageNew': WHATEVER THE INPUT: true; the input reads as it did. -/
def fnExactPageNewSpec : ChangeSpec := { name := "fnExactPageNew", fn := fun _ => fun
  | [] => { results := [.lit (.bool true)], args := [] }
  | _ => none }
def fnExactPageNewRow : OpenClaim := { program := "ytlnegnikedinaaa", sum := "e4b34a07b4124b41db0521974747b3de4914cf4dfa00cd15af67e9f7f74b78c9", func := "loop.example/g00325/laws.FnExactPageNew", spec := "fnExactPageNew", apart := false }
def FnExactPageNewSaid : Prop := fnExactPageNewRow.holds Try.pinned (OpenSpec.ofChange fnExactPageNewSpec)

/-- ITS FALSE NEIGHBOUR: 'it returns false'. Refute it at one input. -/
def fnExactPageNewWrong : ChangeSpec := { name := "fnExactPageNew", fn := fun _ => fun
  | [] => { results := [.lit (.bool false)], args := [] }
  | _ => none }
def FnExactPageNewWrongFalsely : Prop := fnExactPageNewRow.holds Try.pinned (OpenSpec.ofChange fnExactPageNewWrong)

/-- 'laws.FnExactPopTo': WHATEVER THE INPUT: true; the input reads as it did. -/
def fnExactPopToSpec : ChangeSpec := { name := "fnExactPopTo", fn := fun _ => fun
  | [d1, d2] => { results := [.lit (.bool true)], args := [d1, d2] }
  | _ => none }
def fnExactPopToRow : OpenClaim := { program := "ytlnegnikedinaaa", sum := "e4b34a07b4124b41db0521974747b3de4914cf4dfa00cd15af67e9f7f74b78c9", func := "loop.example/g00325/laws.FnExactPopTo", spec := "fnExactPopTo", unfollowed := true, recurses := true, apart := false }
def FnExactPopToSaid : Prop := fnExactPopToRow.holds Try.pinned (OpenSpec.ofChange fnExactPopToSpec)

/-- ITS FALSE NEIGHBOUR: 'it returns false'. Refute it at one input. -/
def fnExactPopToWrong : ChangeSpec := { name := "fnExactPopTo", fn := fun _ => fun
  | [d1, d2] => { results := [.lit (.bool false)], args := [d1, d2] }
  | _ => none }
def FnExactPopToWrongFalsely : Prop := fnExactPopToRow.holds Try.pinned (OpenSpec.ofChange fnExactPopToWrong)

/-- 'laws.FnExactMark': WHATEVER THE INPUT: true; the input reads as it did. -/
def fnExactMarkSpec : ChangeSpec := { name := "fnExactMark", fn := fun _ => fun
  | [d] => { results := [.lit (.bool true)], args := [d] }
  | _ => none }
def fnExactMarkRow : OpenClaim := { program := "ytlnegnikedinaaa", sum := "e4b34a07b4124b41db0521974747b3de4914cf4dfa00cd15af67e9f7f74b78c9", func := "loop.example/g00325/laws.FnExactMark", spec := "fnExactMark", apart := false }
def FnExactMarkSaid : Prop := fnExactMarkRow.holds Try.pinned (OpenSpec.ofChange fnExactMarkSpec)

/-- ITS FALSE NEIGHBOUR: 'it returns false'. Refute it at one input. -/
def fnExactMarkWrong : ChangeSpec := { name := "fnExactMark", fn := fun _ => fun
  | [d] => { results := [.lit (.bool false)], args := [d] }
  | _ => none }
def FnExactMarkWrongFalsely : Prop := fnExactMarkRow.holds Try.pinned (OpenSpec.ofChange fnExactMarkWrong)

/-- 'laws.FnExactBare': WHATEVER THE INPUT: true; the input reads as it did. -/
def fnExactBareSpec : ChangeSpec := { name := "fnExactBare", fn := fun _ => fun
  | [d] => { results := [.lit (.bool true)], args := [d] }
  | _ => none }
def fnExactBareRow : OpenClaim := { program := "ytlnegnikedinaaa", sum := "e4b34a07b4124b41db0521974747b3de4914cf4dfa00cd15af67e9f7f74b78c9", func := "loop.example/g00325/laws.FnExactBare", spec := "fnExactBare", recurses := true, apart := false }
def FnExactBareSaid : Prop := fnExactBareRow.holds Try.pinned (OpenSpec.ofChange fnExactBareSpec)

/-- ITS FALSE NEIGHBOUR: 'it returns false'. Refute it at one input. -/
def fnExactBareWrong : ChangeSpec := { name := "fnExactBare", fn := fun _ => fun
  | [d] => { results := [.lit (.bool false)], args := [d] }
  | _ => none }
def FnExactBareWrongFalsely : Prop := fnExactBareRow.holds Try.pinned (OpenSpec.ofChange fnExactBareWrong)

/- THE SECOND FORM. 'bulk': how many values and letters a reading holds, each counted each time it is reached (what is shared counts as often as it is met; a slice's spare places count too). A statement '..UptoSaid' is the law's where the arguments, and the package variables that the reading takes, are together of bulk at most 1048576: NARROWER than '..Said'. Prove '..Said' where nothing that the law and all that it calls make is longer than what came in: it says more and counts as full. Else prove '..UptoSaid'. A law counts once. -/
mutual
def uptoBulk {H : Type} : DataW H → Nat
  | .lit (.string bytes) => bytes.length + 1
  | .lit _ => 1
  | .nil => 1
  | .ptr d => uptoBulk d + 1
  | .slice elems spare => uptoBulkAll elems + uptoBulkAll spare + 1
  | .agg parts => uptoBulkAll parts + 1
  | .iface _ d => uptoBulk d + 1
  | .map entries => uptoBulkEntries entries + 1
  | .held _ => 1
def uptoBulkAll {H : Type} : List (DataW H) → Nat
  | [] => 0
  | d :: r => uptoBulk d + uptoBulkAll r
def uptoBulkEntries {H : Type} : List (Lit × DataW H) → Nat
  | [] => 0
  | x :: r => uptoBulkEntry x + uptoBulkEntries r
def uptoBulkEntry {H : Type} : Lit × DataW H → Nat
  | (.string bytes, d) => bytes.length + uptoBulk d + 1
  | (_, d) => uptoBulk d + 1
 end
def uptoSmall : (H : Type) → List (DataW H) → Bool := fun _ ds => decide (uptoBulkAll ds ≤ 1048576)
def OpenSpec.upto (s : _root_.Go.ChangeSpec) : _root_.Go.OpenSpec := { _root_.Go.OpenSpec.ofChange s with cond := some uptoSmall }

/-- 'laws.FnExactPageNew', WHERE WHAT IT READS IS OF BULK AT MOST 1048576: true; the input reads as it did. -/
def fnExactPageNewUptoRow : OpenClaim := { program := "ytlnegnikedinaaa", sum := "e4b34a07b4124b41db0521974747b3de4914cf4dfa00cd15af67e9f7f74b78c9", func := "loop.example/g00325/laws.FnExactPageNew", spec := "fnExactPageNew", apart := false, narrowed := true }
def FnExactPageNewUptoSaid : Prop := fnExactPageNewUptoRow.holds Try.pinned (OpenSpec.upto fnExactPageNewSpec)

/-- 'laws.FnExactPopTo', WHERE WHAT IT READS IS OF BULK AT MOST 1048576: true; the input reads as it did. -/
def fnExactPopToUptoRow : OpenClaim := { program := "ytlnegnikedinaaa", sum := "e4b34a07b4124b41db0521974747b3de4914cf4dfa00cd15af67e9f7f74b78c9", func := "loop.example/g00325/laws.FnExactPopTo", spec := "fnExactPopTo", unfollowed := true, recurses := true, apart := false, narrowed := true }
def FnExactPopToUptoSaid : Prop := fnExactPopToUptoRow.holds Try.pinned (OpenSpec.upto fnExactPopToSpec)

/-- 'laws.FnExactMark', WHERE WHAT IT READS IS OF BULK AT MOST 1048576: true; the input reads as it did. -/
def fnExactMarkUptoRow : OpenClaim := { program := "ytlnegnikedinaaa", sum := "e4b34a07b4124b41db0521974747b3de4914cf4dfa00cd15af67e9f7f74b78c9", func := "loop.example/g00325/laws.FnExactMark", spec := "fnExactMark", apart := false, narrowed := true }
def FnExactMarkUptoSaid : Prop := fnExactMarkUptoRow.holds Try.pinned (OpenSpec.upto fnExactMarkSpec)

/-- 'laws.FnExactBare', WHERE WHAT IT READS IS OF BULK AT MOST 1048576: true; the input reads as it did. -/
def fnExactBareUptoRow : OpenClaim := { program := "ytlnegnikedinaaa", sum := "e4b34a07b4124b41db0521974747b3de4914cf4dfa00cd15af67e9f7f74b78c9", func := "loop.example/g00325/laws.FnExactBare", spec := "fnExactBare", recurses := true, apart := false, narrowed := true }
def FnExactBareUptoSaid : Prop := fnExactBareUptoRow.holds Try.pinned (OpenSpec.upto fnExactBareSpec)

end Rows
end Go.Proofs.Ytlnegnikedinaaa
