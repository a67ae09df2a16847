/-
  DERIVED. GIVEN WITH THE SEED: THE CARDS: each row of YtkngdlbedelgnaaGreatDoorRows.lean that lists a variable, with what it lists TIED to the program's text (the seventh form; the later family's looks); each row that meets fmt, with fmt's text TOLD by the authors' own Lean function (tested against real Go, not proved from fmt's source: count such statements apart). THE CARD IS WHAT COUNTS. Prove the row's statement (the work); the ties are given (YtkngdlbedelgnaaGreatDoorTie.lean); close each card by the builder's one call (the guide's Derived/Test/ToyasCard.lean, 'card_holds'). Laid BY PROGRAM, IN A SANDBOX (cutbox-door.mjs). By AI agents, Wed Nov 11 2026. No macro, syntax, notation, axiom, sorry.
-/
import Derived.Test.YtkngdlbedelgnaaGreatDoorRows
import GoSem.ClaimSeven
namespace Go.Proofs.YtkngdlbedelgnaaGreatDoor
namespace Rows

/-- THE TIED CARD OF 'laws.FnExactAgain'. -/
def fnExactAgainCard : Claim7 := { stood := { row := fnExactAgainRow, standIns := [], harness := (true, "db8dbf933f28aef31e1f4561a290722e5bac4030ef33f1c41adabd64229847bc"), looks := true }, kinds := [], alts := [], laidByText := true, laidKinds := [.data, .sentinel, .pinned], laidTests := true, laidLooks := .later }
def FnExactAgainCardSaid : Prop := Claim7.holds Tryz.pinned (.plain (OpenSpec.ofChange fnExactAgainSpec)) fnExactAgainCard

/-- THE SECOND FORM's CARD OF 'laws.FnExactAgain'. -/
def fnExactAgainUptoCard : Claim7 := { stood := { row := fnExactAgainUptoRow, standIns := [], harness := (true, "db8dbf933f28aef31e1f4561a290722e5bac4030ef33f1c41adabd64229847bc"), looks := true }, kinds := [], alts := [], laidByText := true, laidKinds := [.data, .sentinel, .pinned], laidTests := true, laidLooks := .later }
def FnExactAgainUptoCardSaid : Prop := Claim7.holds Tryz.pinned (.plain (OpenSpec.upto fnExactAgainSpec)) fnExactAgainUptoCard
end Rows
end Go.Proofs.YtkngdlbedelgnaaGreatDoor
