/-
  DERIVED. GIVEN WITH THE SEED: THE CARDS: each row of YtidfbnhikkckmaaDoorRows.lean that lists a variable, with what it lists TIED to the program's text (the seventh form; the later family's looks); each row that meets fmt, with fmt's text TOLD by the authors' own Lean function (tested against real Go, not proved from fmt's source: count such statements apart). THE CARD IS WHAT COUNTS. Prove the row's statement (the work); the ties are given (YtidfbnhikkckmaaDoorTie.lean); close each card by the builder's one call (the guide's Derived/Test/ToyasCard.lean, 'card_holds'). Laid BY PROGRAM, IN A SANDBOX (cutbox-door.mjs). By AI agents, Wed Nov 11 2026. No macro, syntax, notation, axiom, sorry.
-/
import Derived.Test.YtidfbnhikkckmaaDoorRows
import GoSem.ClaimSeven
namespace Go.Proofs.YtidfbnhikkckmaaDoor
namespace Rows

/-- THE TIED CARD OF 'laws.FnSigns'. -/
def fnSignsCard : Claim7 := { stood := { row := fnSignsRow, standIns := [], harness := (true, "6a5799050165a4431979d1df2f2ebb0fcf7ce394afe761224428aa262d419638"), looks := false }, kinds := [], alts := [], laidByText := true, laidKinds := [.data, .pinned], laidTests := true, laidLooks := .later }
def FnSignsCardSaid : Prop := Claim7.holds Tryd.pinned (.plain (OpenSpec.ofChange fnSignsSpec)) fnSignsCard

/-- THE TIED CARD OF 'laws.FnExactGetSign'. -/
def fnExactGetSignCard : Claim7 := { stood := { row := fnExactGetSignRow, standIns := [], harness := (true, "6a5799050165a4431979d1df2f2ebb0fcf7ce394afe761224428aa262d419638"), looks := false }, kinds := [], alts := [], laidByText := true, laidKinds := [.data, .pinned], laidTests := true, laidLooks := .later }
def FnExactGetSignCardSaid : Prop := Claim7.holds Tryd.pinned (.plain (OpenSpec.ofChange fnExactGetSignSpec)) fnExactGetSignCard

/-- THE TIED CARD OF 'laws.FnExactSigns'. -/
def fnExactSignsCard : Claim7 := { stood := { row := fnExactSignsRow, standIns := [], harness := (true, "6a5799050165a4431979d1df2f2ebb0fcf7ce394afe761224428aa262d419638"), looks := false }, kinds := [], alts := [], laidByText := true, laidKinds := [.data, .pinned], laidTests := true, laidLooks := .later }
def FnExactSignsCardSaid : Prop := Claim7.holds Tryd.pinned (.plain (OpenSpec.ofChange fnExactSignsSpec)) fnExactSignsCard

/-- THE TIED CARD OF 'laws.FnExactClean'. -/
def fnExactCleanCard : Claim7 := { stood := { row := fnExactCleanRow, standIns := [], harness := (true, "6a5799050165a4431979d1df2f2ebb0fcf7ce394afe761224428aa262d419638"), looks := false }, kinds := [], alts := [], laidByText := true, laidKinds := [.data, .pinned], laidTests := true, laidLooks := .later }
def FnExactCleanCardSaid : Prop := Claim7.holds Tryd.pinned (.plain (OpenSpec.ofChange fnExactCleanSpec)) fnExactCleanCard

/-- THE TIED CARD OF 'laws.FnExactCleanOk'. -/
def fnExactCleanOkCard : Claim7 := { stood := { row := fnExactCleanOkRow, standIns := [], harness := (true, "6a5799050165a4431979d1df2f2ebb0fcf7ce394afe761224428aa262d419638"), looks := false }, kinds := [], alts := [], laidByText := true, laidKinds := [.data, .pinned], laidTests := true, laidLooks := .later }
def FnExactCleanOkCardSaid : Prop := Claim7.holds Tryd.pinned (.plain (OpenSpec.ofChange fnExactCleanOkSpec)) fnExactCleanOkCard

/-- THE SECOND FORM's CARD OF 'laws.FnSigns'. -/
def fnSignsUptoCard : Claim7 := { stood := { row := fnSignsUptoRow, standIns := [], harness := (true, "6a5799050165a4431979d1df2f2ebb0fcf7ce394afe761224428aa262d419638"), looks := false }, kinds := [], alts := [], laidByText := true, laidKinds := [.data, .pinned], laidTests := true, laidLooks := .later }
def FnSignsUptoCardSaid : Prop := Claim7.holds Tryd.pinned (.plain (OpenSpec.upto fnSignsSpec)) fnSignsUptoCard

/-- THE SECOND FORM's CARD OF 'laws.FnExactGetSign'. -/
def fnExactGetSignUptoCard : Claim7 := { stood := { row := fnExactGetSignUptoRow, standIns := [], harness := (true, "6a5799050165a4431979d1df2f2ebb0fcf7ce394afe761224428aa262d419638"), looks := false }, kinds := [], alts := [], laidByText := true, laidKinds := [.data, .pinned], laidTests := true, laidLooks := .later }
def FnExactGetSignUptoCardSaid : Prop := Claim7.holds Tryd.pinned (.plain (OpenSpec.upto fnExactGetSignSpec)) fnExactGetSignUptoCard

/-- THE SECOND FORM's CARD OF 'laws.FnExactSigns'. -/
def fnExactSignsUptoCard : Claim7 := { stood := { row := fnExactSignsUptoRow, standIns := [], harness := (true, "6a5799050165a4431979d1df2f2ebb0fcf7ce394afe761224428aa262d419638"), looks := false }, kinds := [], alts := [], laidByText := true, laidKinds := [.data, .pinned], laidTests := true, laidLooks := .later }
def FnExactSignsUptoCardSaid : Prop := Claim7.holds Tryd.pinned (.plain (OpenSpec.upto fnExactSignsSpec)) fnExactSignsUptoCard

/-- THE SECOND FORM's CARD OF 'laws.FnExactClean'. -/
def fnExactCleanUptoCard : Claim7 := { stood := { row := fnExactCleanUptoRow, standIns := [], harness := (true, "6a5799050165a4431979d1df2f2ebb0fcf7ce394afe761224428aa262d419638"), looks := false }, kinds := [], alts := [], laidByText := true, laidKinds := [.data, .pinned], laidTests := true, laidLooks := .later }
def FnExactCleanUptoCardSaid : Prop := Claim7.holds Tryd.pinned (.plain (OpenSpec.upto fnExactCleanSpec)) fnExactCleanUptoCard

/-- THE SECOND FORM's CARD OF 'laws.FnExactCleanOk'. -/
def fnExactCleanOkUptoCard : Claim7 := { stood := { row := fnExactCleanOkUptoRow, standIns := [], harness := (true, "6a5799050165a4431979d1df2f2ebb0fcf7ce394afe761224428aa262d419638"), looks := false }, kinds := [], alts := [], laidByText := true, laidKinds := [.data, .pinned], laidTests := true, laidLooks := .later }
def FnExactCleanOkUptoCardSaid : Prop := Claim7.holds Tryd.pinned (.plain (OpenSpec.upto fnExactCleanOkSpec)) fnExactCleanOkUptoCard
end Rows
end Go.Proofs.YtidfbnhikkckmaaDoor
