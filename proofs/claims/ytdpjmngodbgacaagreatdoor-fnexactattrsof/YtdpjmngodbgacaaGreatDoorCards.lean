/-
  DERIVED. GIVEN WITH THE SEED: THE CARDS: each row of YtdpjmngodbgacaaGreatDoorRows.lean that lists a variable, with what it lists TIED to the program's text (the seventh form; the later family's looks); each row that meets fmt, with fmt's text TOLD by the authors' own Lean function (tested against real Go, not proved from fmt's source: count such statements apart). THE CARD IS WHAT COUNTS. Prove the row's statement (the work); the ties are given (YtdpjmngodbgacaaGreatDoorTie.lean); close each card by the builder's one call (the guide's Derived/Test/ToyasCard.lean, 'card_holds'). Laid BY PROGRAM, IN A SANDBOX (cutbox-door.mjs). By AI agents, Wed Nov 11 2026. No macro, syntax, notation, axiom, sorry.
-/
import Derived.Test.YtdpjmngodbgacaaGreatDoorRows
import GoSem.ClaimSeven
namespace Go.Proofs.YtdpjmngodbgacaaGreatDoor
namespace Rows

/-- THE TIED CARD OF 'laws.FnExactAttrsOf'. -/
def fnExactAttrsOfCard : Claim7 := { stood := { row := fnExactAttrsOfRow, standIns := [], harness := (true, "684abba9a971b937cfe73846e8bb4c913932754183fe03762358cd687c7c9737"), looks := true }, kinds := [], alts := [], laidByText := true, laidKinds := [.data, .data, .data, .data, .handle, .pinned, .pinned], laidTests := true, laidLooks := .later }
def FnExactAttrsOfCardSaid : Prop := Claim7.holds Tryz.pinned (.plain (OpenSpec.ofChange fnExactAttrsOfSpec)) fnExactAttrsOfCard

/-- THE SECOND FORM's CARD OF 'laws.FnExactAttrsOf'. -/
def fnExactAttrsOfUptoCard : Claim7 := { stood := { row := fnExactAttrsOfUptoRow, standIns := [], harness := (true, "684abba9a971b937cfe73846e8bb4c913932754183fe03762358cd687c7c9737"), looks := true }, kinds := [], alts := [], laidByText := true, laidKinds := [.data, .data, .data, .data, .handle, .pinned, .pinned], laidTests := true, laidLooks := .later }
def FnExactAttrsOfUptoCardSaid : Prop := Claim7.holds Tryz.pinned (.plain (OpenSpec.upto fnExactAttrsOfSpec)) fnExactAttrsOfUptoCard
end Rows
end Go.Proofs.YtdpjmngodbgacaaGreatDoor
