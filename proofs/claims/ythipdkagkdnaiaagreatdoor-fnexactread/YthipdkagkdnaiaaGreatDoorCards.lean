/-
  DERIVED. GIVEN WITH THE SEED: THE CARDS: each row of YthipdkagkdnaiaaGreatDoorRows.lean that lists a variable, with what it lists TIED to the program's text (the seventh form; the later family's looks); each row that meets fmt, with fmt's text TOLD by the authors' own Lean function (tested against real Go, not proved from fmt's source: count such statements apart). THE CARD IS WHAT COUNTS. Prove the row's statement (the work); the ties are given (YthipdkagkdnaiaaGreatDoorTie.lean); close each card by the builder's one call (the guide's Derived/Test/ToyasCard.lean, 'card_holds'). Laid BY PROGRAM, IN A SANDBOX (cutbox-door.mjs). By AI agents, Wed Nov 11 2026. No macro, syntax, notation, axiom, sorry.
-/
import Derived.Test.YthipdkagkdnaiaaGreatDoorRows
import GoSem.ClaimSeven
namespace Go.Proofs.YthipdkagkdnaiaaGreatDoor
namespace Rows

/-- THE TIED CARD OF 'laws.FnExactReadEl'. -/
def fnExactReadElCard : Claim7 := { stood := { row := fnExactReadElRow, standIns := [], harness := (true, "e5c9743a8eaf096d215760f17153771c9c1bf0c112519dea95b040ba2271e40a"), looks := true }, kinds := [], alts := [], laidByText := true, laidKinds := [.data, .sentinel, .pinned], laidTests := true, laidLooks := .later }
def FnExactReadElCardSaid : Prop := Claim7.holds Tryz.pinned (.plain (OpenSpec.ofChange fnExactReadElSpec)) fnExactReadElCard

/-- THE TIED CARD OF 'laws.FnExactRead'. -/
def fnExactReadCard : Claim7 := { stood := { row := fnExactReadRow, standIns := [], harness := (true, "e5c9743a8eaf096d215760f17153771c9c1bf0c112519dea95b040ba2271e40a"), looks := true }, kinds := [], alts := [], laidByText := true, laidKinds := [.data, .sentinel, .pinned], laidTests := true, laidLooks := .later }
def FnExactReadCardSaid : Prop := Claim7.holds Tryz.pinned (.plain (OpenSpec.ofChange fnExactReadSpec)) fnExactReadCard

/-- THE TIED CARD OF 'laws.FnExactWell'. -/
def fnExactWellCard : Claim7 := { stood := { row := fnExactWellRow, standIns := [], harness := (true, "e5c9743a8eaf096d215760f17153771c9c1bf0c112519dea95b040ba2271e40a"), looks := true }, kinds := [], alts := [], laidByText := true, laidKinds := [.data, .sentinel, .pinned], laidTests := true, laidLooks := .later }
def FnExactWellCardSaid : Prop := Claim7.holds Tryz.pinned (.plain (OpenSpec.ofChange fnExactWellSpec)) fnExactWellCard

/-- THE SECOND FORM's CARD OF 'laws.FnExactReadEl'. -/
def fnExactReadElUptoCard : Claim7 := { stood := { row := fnExactReadElUptoRow, standIns := [], harness := (true, "e5c9743a8eaf096d215760f17153771c9c1bf0c112519dea95b040ba2271e40a"), looks := true }, kinds := [], alts := [], laidByText := true, laidKinds := [.data, .sentinel, .pinned], laidTests := true, laidLooks := .later }
def FnExactReadElUptoCardSaid : Prop := Claim7.holds Tryz.pinned (.plain (OpenSpec.upto fnExactReadElSpec)) fnExactReadElUptoCard

/-- THE SECOND FORM's CARD OF 'laws.FnExactRead'. -/
def fnExactReadUptoCard : Claim7 := { stood := { row := fnExactReadUptoRow, standIns := [], harness := (true, "e5c9743a8eaf096d215760f17153771c9c1bf0c112519dea95b040ba2271e40a"), looks := true }, kinds := [], alts := [], laidByText := true, laidKinds := [.data, .sentinel, .pinned], laidTests := true, laidLooks := .later }
def FnExactReadUptoCardSaid : Prop := Claim7.holds Tryz.pinned (.plain (OpenSpec.upto fnExactReadSpec)) fnExactReadUptoCard

/-- THE SECOND FORM's CARD OF 'laws.FnExactWell'. -/
def fnExactWellUptoCard : Claim7 := { stood := { row := fnExactWellUptoRow, standIns := [], harness := (true, "e5c9743a8eaf096d215760f17153771c9c1bf0c112519dea95b040ba2271e40a"), looks := true }, kinds := [], alts := [], laidByText := true, laidKinds := [.data, .sentinel, .pinned], laidTests := true, laidLooks := .later }
def FnExactWellUptoCardSaid : Prop := Claim7.holds Tryz.pinned (.plain (OpenSpec.upto fnExactWellSpec)) fnExactWellUptoCard
end Rows
end Go.Proofs.YthipdkagkdnaiaaGreatDoor
