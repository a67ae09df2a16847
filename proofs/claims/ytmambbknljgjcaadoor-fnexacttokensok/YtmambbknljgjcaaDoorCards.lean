/-
  DERIVED. GIVEN WITH THE SEED: THE CARDS: each row of YtmambbknljgjcaaDoorRows.lean that lists a variable, with what it lists TIED to the program's text (the seventh form; the later family's looks); each row that meets fmt, with fmt's text TOLD by the authors' own Lean function (tested against real Go, not proved from fmt's source: count such statements apart). THE CARD IS WHAT COUNTS. Prove the row's statement (the work); the ties are given (YtmambbknljgjcaaDoorTie.lean); close each card by the builder's one call (the guide's Derived/Test/ToyasCard.lean, 'card_holds'). Laid BY PROGRAM, IN A SANDBOX (cutbox-door.mjs). By AI agents, Wed Nov 11 2026. No macro, syntax, notation, axiom, sorry.
-/
import Derived.Test.YtmambbknljgjcaaDoorRows
import GoSem.ClaimSeven
namespace Go.Proofs.YtmambbknljgjcaaDoor
namespace Rows

/-- THE TIED CARD OF 'laws.FnExactSpell'. -/
def fnExactSpellCard : Claim7 := { stood := { row := fnExactSpellRow, standIns := [], harness := (true, "d39a45161c2739c506659a4996529e09a559c4e7fe1e49c6639e38a02a7f6c79"), looks := false }, kinds := [], alts := [], laidByText := true, laidKinds := [.data, .pinned], laidTests := true, laidLooks := .later }
def FnExactSpellCardSaid : Prop := Claim7.holds Tryd.pinned (.plain (OpenSpec.ofChange fnExactSpellSpec)) fnExactSpellCard

/-- THE TIED CARD OF 'laws.FnExactTokensOk'. -/
def fnExactTokensOkCard : Claim7 := { stood := { row := fnExactTokensOkRow, standIns := [], harness := (true, "d39a45161c2739c506659a4996529e09a559c4e7fe1e49c6639e38a02a7f6c79"), looks := false }, kinds := [], alts := [], laidByText := true, laidKinds := [.data, .pinned], laidTests := true, laidLooks := .later }
def FnExactTokensOkCardSaid : Prop := Claim7.holds Tryd.pinned (.plain (OpenSpec.ofChange fnExactTokensOkSpec)) fnExactTokensOkCard

/-- THE SECOND FORM's CARD OF 'laws.FnExactSpell'. -/
def fnExactSpellUptoCard : Claim7 := { stood := { row := fnExactSpellUptoRow, standIns := [], harness := (true, "d39a45161c2739c506659a4996529e09a559c4e7fe1e49c6639e38a02a7f6c79"), looks := false }, kinds := [], alts := [], laidByText := true, laidKinds := [.data, .pinned], laidTests := true, laidLooks := .later }
def FnExactSpellUptoCardSaid : Prop := Claim7.holds Tryd.pinned (.plain (OpenSpec.upto fnExactSpellSpec)) fnExactSpellUptoCard

/-- THE SECOND FORM's CARD OF 'laws.FnExactTokensOk'. -/
def fnExactTokensOkUptoCard : Claim7 := { stood := { row := fnExactTokensOkUptoRow, standIns := [], harness := (true, "d39a45161c2739c506659a4996529e09a559c4e7fe1e49c6639e38a02a7f6c79"), looks := false }, kinds := [], alts := [], laidByText := true, laidKinds := [.data, .pinned], laidTests := true, laidLooks := .later }
def FnExactTokensOkUptoCardSaid : Prop := Claim7.holds Tryd.pinned (.plain (OpenSpec.upto fnExactTokensOkSpec)) fnExactTokensOkUptoCard
end Rows
end Go.Proofs.YtmambbknljgjcaaDoor
