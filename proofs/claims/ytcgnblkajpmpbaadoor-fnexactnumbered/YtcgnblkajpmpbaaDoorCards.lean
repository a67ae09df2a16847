/-
  DERIVED. GIVEN WITH THE SEED: THE CARDS: each row of YtcgnblkajpmpbaaDoorRows.lean that lists a variable, with what it lists TIED to the program's text (the seventh form; the later family's looks); each row that meets fmt, with fmt's text TOLD by the authors' own Lean function (tested against real Go, not proved from fmt's source: count such statements apart). THE CARD IS WHAT COUNTS. Prove the row's statement (the work); the ties are given (YtcgnblkajpmpbaaDoorTie.lean); close each card by the builder's one call (the guide's Derived/Test/ToyasCard.lean, 'card_holds'). Laid BY PROGRAM, IN A SANDBOX (cutbox-door.mjs). By AI agents, Wed Nov 11 2026. No macro, syntax, notation, axiom, sorry.
-/
import Derived.Test.YtcgnblkajpmpbaaDoorRows
import GoSem.ClaimSeven
namespace Go.Proofs.YtcgnblkajpmpbaaDoor
namespace Rows

/-- THE TIED CARD OF 'laws.FnExactNumbered'. -/
def fnExactNumberedCard : Claim7 := { stood := { row := fnExactNumberedRow, standIns := [], harness := (true, "9cf48ddc096ea1a0a593fc88ec5b372e771db50f6a897e0b79f884fd6f6de8bc"), looks := false }, kinds := [], alts := [], laidByText := true, laidKinds := [.data], laidTests := true, laidLooks := .later }
def FnExactNumberedCardSaid : Prop := Claim7.holds Tryd.pinned (.plain (OpenSpec.ofChange fnExactNumberedSpec)) fnExactNumberedCard

/-- THE SECOND FORM's CARD OF 'laws.FnExactNumbered'. -/
def fnExactNumberedUptoCard : Claim7 := { stood := { row := fnExactNumberedUptoRow, standIns := [], harness := (true, "9cf48ddc096ea1a0a593fc88ec5b372e771db50f6a897e0b79f884fd6f6de8bc"), looks := false }, kinds := [], alts := [], laidByText := true, laidKinds := [.data], laidTests := true, laidLooks := .later }
def FnExactNumberedUptoCardSaid : Prop := Claim7.holds Tryd.pinned (.plain (OpenSpec.upto fnExactNumberedSpec)) fnExactNumberedUptoCard
end Rows
end Go.Proofs.YtcgnblkajpmpbaaDoor
