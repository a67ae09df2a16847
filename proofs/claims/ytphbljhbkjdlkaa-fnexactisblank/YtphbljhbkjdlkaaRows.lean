/-
  No cell of these rows narrows 'for every input' (looked for: loops, veiled, ifaces, maps, wideKeys, modest, calm, conditions, laid).
  DERIVED. THE GIVEN ROWS OF THIS SEAT. 6 by the template 'for every input the law returns true; each argument reads behind the call as it read before'; 0 by the template 'total and deterministic' (their statements: YtphbljhbkjdlkaaTotals.lean).
  GIVEN WITH THE SEED: the statements are not yours to turn. If you find one false, say at which input.
  Laid BY PROGRAM, IN A SANDBOX (cutbox-rows.mjs): the forced cells as the released guide's own fill.sh prints them over the translation 62b6502f8ecdaf67… (all of the seat's roots in one cut). By AI agents, Wed Nov 11 2026. No macro, syntax, notation, axiom, sorry.
-/
import Derived.Test.YtphbljhbkjdlkaaChecked
import GoSem.Claim
import GoSem.ClaimJoined
import GoSem.ClaimMapViews
import Derived.JoinedTies
import Derived.KernelRfl
namespace Go.Proofs.Ytphbljhbkjdlkaa
/- THE CELL 'sum', in the pinned program and in every row, IS THE sha256 OF THE DUMP (.gsa) THAT YtphbljhbkjdlkaaProg.lean LOADS. Nothing in Lean hashes anything: it is a label: what it is worth is what the hold of that sum in a sandbox is worth. -/
noncomputable def Try.pinned : Pinned := { name := "ytphbljhbkjdlkaa", sum := "62b6502f8ecdaf67ad6cf1ad5638b5ac02b7d72f42386ccbbd08a910c80a3f0f", checked := Try.checked }
namespace Rows
def none {H : Type} : Left H := { results := [], args := [] }

/-- 'laws.FnExactIsBlank': WHATEVER THE INPUT: true; the input reads as it did. -/
def fnExactIsBlankSpec : ChangeSpec := { name := "fnExactIsBlank", fn := fun _ => fun
  | [d] => { results := [.lit (.bool true)], args := [d] }
  | _ => none }
def fnExactIsBlankRow : OpenClaim := { program := "ytphbljhbkjdlkaa", sum := "62b6502f8ecdaf67ad6cf1ad5638b5ac02b7d72f42386ccbbd08a910c80a3f0f", func := "loop.example/g00325/laws.FnExactIsBlank", spec := "fnExactIsBlank", apart := false }
def FnExactIsBlankSaid : Prop := fnExactIsBlankRow.holds Try.pinned (OpenSpec.ofChange fnExactIsBlankSpec)

/-- ITS FALSE NEIGHBOUR: 'it returns false'. Refute it at one input. -/
def fnExactIsBlankWrong : ChangeSpec := { name := "fnExactIsBlank", fn := fun _ => fun
  | [d] => { results := [.lit (.bool false)], args := [d] }
  | _ => none }
def FnExactIsBlankWrongFalsely : Prop := fnExactIsBlankRow.holds Try.pinned (OpenSpec.ofChange fnExactIsBlankWrong)

/-- 'laws.FnExactIsLetter': WHATEVER THE INPUT: true; the input reads as it did. -/
def fnExactIsLetterSpec : ChangeSpec := { name := "fnExactIsLetter", fn := fun _ => fun
  | [d] => { results := [.lit (.bool true)], args := [d] }
  | _ => none }
def fnExactIsLetterRow : OpenClaim := { program := "ytphbljhbkjdlkaa", sum := "62b6502f8ecdaf67ad6cf1ad5638b5ac02b7d72f42386ccbbd08a910c80a3f0f", func := "loop.example/g00325/laws.FnExactIsLetter", spec := "fnExactIsLetter", apart := false }
def FnExactIsLetterSaid : Prop := fnExactIsLetterRow.holds Try.pinned (OpenSpec.ofChange fnExactIsLetterSpec)

/-- ITS FALSE NEIGHBOUR: 'it returns false'. Refute it at one input. -/
def fnExactIsLetterWrong : ChangeSpec := { name := "fnExactIsLetter", fn := fun _ => fun
  | [d] => { results := [.lit (.bool false)], args := [d] }
  | _ => none }
def FnExactIsLetterWrongFalsely : Prop := fnExactIsLetterRow.holds Try.pinned (OpenSpec.ofChange fnExactIsLetterWrong)

/-- 'laws.FnExactIsText': WHATEVER THE INPUT: true; the input reads as it did. -/
def fnExactIsTextSpec : ChangeSpec := { name := "fnExactIsText", fn := fun _ => fun
  | [d] => { results := [.lit (.bool true)], args := [d] }
  | _ => none }
def fnExactIsTextRow : OpenClaim := { program := "ytphbljhbkjdlkaa", sum := "62b6502f8ecdaf67ad6cf1ad5638b5ac02b7d72f42386ccbbd08a910c80a3f0f", func := "loop.example/g00325/laws.FnExactIsText", spec := "fnExactIsText", apart := false }
def FnExactIsTextSaid : Prop := fnExactIsTextRow.holds Try.pinned (OpenSpec.ofChange fnExactIsTextSpec)

/-- ITS FALSE NEIGHBOUR: 'it returns false'. Refute it at one input. -/
def fnExactIsTextWrong : ChangeSpec := { name := "fnExactIsText", fn := fun _ => fun
  | [d] => { results := [.lit (.bool false)], args := [d] }
  | _ => none }
def FnExactIsTextWrongFalsely : Prop := fnExactIsTextRow.holds Try.pinned (OpenSpec.ofChange fnExactIsTextWrong)

/-- 'laws.FnExactIsFirst': WHATEVER THE INPUT: true; the input reads as it did. -/
def fnExactIsFirstSpec : ChangeSpec := { name := "fnExactIsFirst", fn := fun _ => fun
  | [d] => { results := [.lit (.bool true)], args := [d] }
  | _ => none }
def fnExactIsFirstRow : OpenClaim := { program := "ytphbljhbkjdlkaa", sum := "62b6502f8ecdaf67ad6cf1ad5638b5ac02b7d72f42386ccbbd08a910c80a3f0f", func := "loop.example/g00325/laws.FnExactIsFirst", spec := "fnExactIsFirst", apart := false }
def FnExactIsFirstSaid : Prop := fnExactIsFirstRow.holds Try.pinned (OpenSpec.ofChange fnExactIsFirstSpec)

/-- ITS FALSE NEIGHBOUR: 'it returns false'. Refute it at one input. -/
def fnExactIsFirstWrong : ChangeSpec := { name := "fnExactIsFirst", fn := fun _ => fun
  | [d] => { results := [.lit (.bool false)], args := [d] }
  | _ => none }
def FnExactIsFirstWrongFalsely : Prop := fnExactIsFirstRow.holds Try.pinned (OpenSpec.ofChange fnExactIsFirstWrong)

/-- 'laws.FnExactIsNext': WHATEVER THE INPUT: true; the input reads as it did. -/
def fnExactIsNextSpec : ChangeSpec := { name := "fnExactIsNext", fn := fun _ => fun
  | [d] => { results := [.lit (.bool true)], args := [d] }
  | _ => none }
def fnExactIsNextRow : OpenClaim := { program := "ytphbljhbkjdlkaa", sum := "62b6502f8ecdaf67ad6cf1ad5638b5ac02b7d72f42386ccbbd08a910c80a3f0f", func := "loop.example/g00325/laws.FnExactIsNext", spec := "fnExactIsNext", apart := false }
def FnExactIsNextSaid : Prop := fnExactIsNextRow.holds Try.pinned (OpenSpec.ofChange fnExactIsNextSpec)

/-- ITS FALSE NEIGHBOUR: 'it returns false'. Refute it at one input. -/
def fnExactIsNextWrong : ChangeSpec := { name := "fnExactIsNext", fn := fun _ => fun
  | [d] => { results := [.lit (.bool false)], args := [d] }
  | _ => none }
def FnExactIsNextWrongFalsely : Prop := fnExactIsNextRow.holds Try.pinned (OpenSpec.ofChange fnExactIsNextWrong)

/-- 'laws.FnExactSmall': WHATEVER THE INPUT: true; the input reads as it did. -/
def fnExactSmallSpec : ChangeSpec := { name := "fnExactSmall", fn := fun _ => fun
  | [d] => { results := [.lit (.bool true)], args := [d] }
  | _ => none }
def fnExactSmallRow : OpenClaim := { program := "ytphbljhbkjdlkaa", sum := "62b6502f8ecdaf67ad6cf1ad5638b5ac02b7d72f42386ccbbd08a910c80a3f0f", func := "loop.example/g00325/laws.FnExactSmall", spec := "fnExactSmall", apart := false }
def FnExactSmallSaid : Prop := fnExactSmallRow.holds Try.pinned (OpenSpec.ofChange fnExactSmallSpec)

/-- ITS FALSE NEIGHBOUR: 'it returns false'. Refute it at one input. -/
def fnExactSmallWrong : ChangeSpec := { name := "fnExactSmall", fn := fun _ => fun
  | [d] => { results := [.lit (.bool false)], args := [d] }
  | _ => none }
def FnExactSmallWrongFalsely : Prop := fnExactSmallRow.holds Try.pinned (OpenSpec.ofChange fnExactSmallWrong)

/- THE SECOND FORM. 'bulk': how many values and letters a reading holds, each counted each time it is reached (what is shared counts as often as it is met; a slice's spare places count too). A statement '..UptoSaid' is the law's where the arguments, and the package variables that the reading takes, are together of bulk at most 1048576: NARROWER than '..Said'. Prove '..Said' where nothing that the law and all that it calls make is longer than what came in: it says more and counts as full. Else prove '..UptoSaid'. A law counts once. -/
mutual
def uptoBulk {H : Type} : DataW H → Nat
  | .lit (.string bytes) => bytes.length + 1
  | .lit _ => 1
  | .nil => 1
  | .ptr d => uptoBulk d + 1
  | .slice elems spare => uptoBulkAll elems + uptoBulkAll spare + 1
  | .agg parts => uptoBulkAll parts + 1
  | .iface _ d => uptoBulk d + 1
  | .map entries => uptoBulkEntries entries + 1
  | .held _ => 1
def uptoBulkAll {H : Type} : List (DataW H) → Nat
  | [] => 0
  | d :: r => uptoBulk d + uptoBulkAll r
def uptoBulkEntries {H : Type} : List (Lit × DataW H) → Nat
  | [] => 0
  | x :: r => uptoBulkEntry x + uptoBulkEntries r
def uptoBulkEntry {H : Type} : Lit × DataW H → Nat
  | (.string bytes, d) => bytes.length + uptoBulk d + 1
  | (_, d) => uptoBulk d + 1
 end
def uptoSmall : (H : Type) → List (DataW H) → Bool := fun _ ds => decide (uptoBulkAll ds ≤ 1048576)
def OpenSpec.upto (s : _root_.Go.ChangeSpec) : _root_.Go.OpenSpec := { _root_.Go.OpenSpec.ofChange s with cond := some uptoSmall }

/-- 'laws.FnExactIsBlank', WHERE WHAT IT READS IS OF BULK AT MOST 1048576: true; the input reads as it did. -/
def fnExactIsBlankUptoRow : OpenClaim := { program := "ytphbljhbkjdlkaa", sum := "62b6502f8ecdaf67ad6cf1ad5638b5ac02b7d72f42386ccbbd08a910c80a3f0f", func := "loop.example/g00325/laws.FnExactIsBlank", spec := "fnExactIsBlank", apart := false, narrowed := true }
def FnExactIsBlankUptoSaid : Prop := fnExactIsBlankUptoRow.holds Try.pinned (OpenSpec.upto fnExactIsBlankSpec)

/-- 'laws.FnExactIsLetter', WHERE WHAT IT READS IS OF BULK AT MOST 1048576: true; the input reads as it did. -/
def fnExactIsLetterUptoRow : OpenClaim := { program := "ytphbljhbkjdlkaa", sum := "62b6502f8ecdaf67ad6cf1ad5638b5ac02b7d72f42386ccbbd08a910c80a3f0f", func := "loop.example/g00325/laws.FnExactIsLetter", spec := "fnExactIsLetter", apart := false, narrowed := true }
def FnExactIsLetterUptoSaid : Prop := fnExactIsLetterUptoRow.holds Try.pinned (OpenSpec.upto fnExactIsLetterSpec)

/-- 'laws.FnExactIsText', WHERE WHAT IT READS IS OF BULK AT MOST 1048576: true; the input reads as it did. -/
def fnExactIsTextUptoRow : OpenClaim := { program := "ytphbljhbkjdlkaa", sum := "62b6502f8ecdaf67ad6cf1ad5638b5ac02b7d72f42386ccbbd08a910c80a3f0f", func := "loop.example/g00325/laws.FnExactIsText", spec := "fnExactIsText", apart := false, narrowed := true }
def FnExactIsTextUptoSaid : Prop := fnExactIsTextUptoRow.holds Try.pinned (OpenSpec.upto fnExactIsTextSpec)

/-- 'laws.FnExactIsFirst', WHERE WHAT IT READS IS OF BULK AT MOST 1048576: true; the input reads as it did. -/
def fnExactIsFirstUptoRow : OpenClaim := { program := "ytphbljhbkjdlkaa", sum := "62b6502f8ecdaf67ad6cf1ad5638b5ac02b7d72f42386ccbbd08a910c80a3f0f", func := "loop.example/g00325/laws.FnExactIsFirst", spec := "fnExactIsFirst", apart := false, narrowed := true }
def FnExactIsFirstUptoSaid : Prop := fnExactIsFirstUptoRow.holds Try.pinned (OpenSpec.upto fnExactIsFirstSpec)

/-- 'laws.FnExactIsNext', WHERE WHAT IT READS IS OF BULK AT MOST 1048576: true; the input reads as it did. -/
def fnExactIsNextUptoRow : OpenClaim := { program := "ytphbljhbkjdlkaa", sum := "62b6502f8ecdaf67ad6cf1ad5638b5ac02b7d72f42386ccbbd08a910c80a3f0f", func := "loop.example/g00325/laws.FnExactIsNext", spec := "fnExactIsNext", apart := false, narrowed := true }
def FnExactIsNextUptoSaid : Prop := fnExactIsNextUptoRow.holds Try.pinned (OpenSpec.upto fnExactIsNextSpec)

/-- 'laws.FnExactSmall', WHERE WHAT IT READS IS OF BULK AT MOST 1048576: true; the input reads as it did. -/
def fnExactSmallUptoRow : OpenClaim := { program := "ytphbljhbkjdlkaa", sum := "62b6502f8ecdaf67ad6cf1ad5638b5ac02b7d72f42386ccbbd08a910c80a3f0f", func := "loop.example/g00325/laws.FnExactSmall", spec := "fnExactSmall", apart := false, narrowed := true }
def FnExactSmallUptoSaid : Prop := fnExactSmallUptoRow.holds Try.pinned (OpenSpec.upto fnExactSmallSpec)

end Rows
end Go.Proofs.Ytphbljhbkjdlkaa
