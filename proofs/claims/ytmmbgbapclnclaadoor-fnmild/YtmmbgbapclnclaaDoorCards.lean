/-
  DERIVED. GIVEN WITH THE SEED: THE CARDS: each row of YtmmbgbapclnclaaDoorRows.lean that lists a variable, with what it lists TIED to the program's text (the seventh form; the later family's looks); each row that meets fmt, with fmt's text TOLD by the authors' own Lean function (tested against real Go, not proved from fmt's source: count such statements apart). THE CARD IS WHAT COUNTS. Prove the row's statement (the work); the ties are given (YtmmbgbapclnclaaDoorTie.lean); close each card by the builder's one call (the guide's Derived/Test/ToyasCard.lean, 'card_holds'). Laid BY PROGRAM, IN A SANDBOX (cutbox-door.mjs). By AI agents, Wed Nov 11 2026. No macro, syntax, notation, axiom, sorry.
-/
import Derived.Test.YtmmbgbapclnclaaDoorRows
import GoSem.ClaimSeven
namespace Go.Proofs.YtmmbgbapclnclaaDoor
namespace Rows

/-- THE TIED CARD OF 'laws.FnMild'. -/
def fnMildCard : Claim7 := { stood := { row := fnMildRow, standIns := [], harness := (true, "fca663bf4c8e7e8a19e720ea7eae133fa3847b0e77c61d24ee28d81887e8be25"), looks := false }, kinds := [], alts := [], laidByText := true, laidKinds := [.data, .pinned], laidTests := true, laidLooks := .later }
def FnMildCardSaid : Prop := Claim7.holds Tryd.pinned (.plain (OpenSpec.ofChange fnMildSpec)) fnMildCard

/-- THE TIED CARD OF 'laws.FnExactTextOk'. -/
def fnExactTextOkCard : Claim7 := { stood := { row := fnExactTextOkRow, standIns := [], harness := (true, "fca663bf4c8e7e8a19e720ea7eae133fa3847b0e77c61d24ee28d81887e8be25"), looks := false }, kinds := [], alts := [], laidByText := true, laidKinds := [.data, .pinned], laidTests := true, laidLooks := .later }
def FnExactTextOkCardSaid : Prop := Claim7.holds Tryd.pinned (.plain (OpenSpec.ofChange fnExactTextOkSpec)) fnExactTextOkCard

/-- THE TIED CARD OF 'laws.FnExactTextOf'. -/
def fnExactTextOfCard : Claim7 := { stood := { row := fnExactTextOfRow, standIns := [], harness := (true, "fca663bf4c8e7e8a19e720ea7eae133fa3847b0e77c61d24ee28d81887e8be25"), looks := false }, kinds := [], alts := [], laidByText := true, laidKinds := [.data, .pinned], laidTests := true, laidLooks := .later }
def FnExactTextOfCardSaid : Prop := Claim7.holds Tryd.pinned (.plain (OpenSpec.ofChange fnExactTextOfSpec)) fnExactTextOfCard

/-- THE TIED CARD OF 'laws.FnExactNoteOk'. -/
def fnExactNoteOkCard : Claim7 := { stood := { row := fnExactNoteOkRow, standIns := [], harness := (true, "fca663bf4c8e7e8a19e720ea7eae133fa3847b0e77c61d24ee28d81887e8be25"), looks := false }, kinds := [], alts := [], laidByText := true, laidKinds := [.data, .pinned], laidTests := true, laidLooks := .later }
def FnExactNoteOkCardSaid : Prop := Claim7.holds Tryd.pinned (.plain (OpenSpec.ofChange fnExactNoteOkSpec)) fnExactNoteOkCard

/-- THE TIED CARD OF 'laws.FnExactNoteOf'. -/
def fnExactNoteOfCard : Claim7 := { stood := { row := fnExactNoteOfRow, standIns := [], harness := (true, "fca663bf4c8e7e8a19e720ea7eae133fa3847b0e77c61d24ee28d81887e8be25"), looks := false }, kinds := [], alts := [], laidByText := true, laidKinds := [.data, .pinned], laidTests := true, laidLooks := .later }
def FnExactNoteOfCardSaid : Prop := Claim7.holds Tryd.pinned (.plain (OpenSpec.ofChange fnExactNoteOfSpec)) fnExactNoteOfCard

/-- THE SECOND FORM's CARD OF 'laws.FnMild'. -/
def fnMildUptoCard : Claim7 := { stood := { row := fnMildUptoRow, standIns := [], harness := (true, "fca663bf4c8e7e8a19e720ea7eae133fa3847b0e77c61d24ee28d81887e8be25"), looks := false }, kinds := [], alts := [], laidByText := true, laidKinds := [.data, .pinned], laidTests := true, laidLooks := .later }
def FnMildUptoCardSaid : Prop := Claim7.holds Tryd.pinned (.plain (OpenSpec.upto fnMildSpec)) fnMildUptoCard

/-- THE SECOND FORM's CARD OF 'laws.FnExactTextOk'. -/
def fnExactTextOkUptoCard : Claim7 := { stood := { row := fnExactTextOkUptoRow, standIns := [], harness := (true, "fca663bf4c8e7e8a19e720ea7eae133fa3847b0e77c61d24ee28d81887e8be25"), looks := false }, kinds := [], alts := [], laidByText := true, laidKinds := [.data, .pinned], laidTests := true, laidLooks := .later }
def FnExactTextOkUptoCardSaid : Prop := Claim7.holds Tryd.pinned (.plain (OpenSpec.upto fnExactTextOkSpec)) fnExactTextOkUptoCard

/-- THE SECOND FORM's CARD OF 'laws.FnExactTextOf'. -/
def fnExactTextOfUptoCard : Claim7 := { stood := { row := fnExactTextOfUptoRow, standIns := [], harness := (true, "fca663bf4c8e7e8a19e720ea7eae133fa3847b0e77c61d24ee28d81887e8be25"), looks := false }, kinds := [], alts := [], laidByText := true, laidKinds := [.data, .pinned], laidTests := true, laidLooks := .later }
def FnExactTextOfUptoCardSaid : Prop := Claim7.holds Tryd.pinned (.plain (OpenSpec.upto fnExactTextOfSpec)) fnExactTextOfUptoCard

/-- THE SECOND FORM's CARD OF 'laws.FnExactNoteOk'. -/
def fnExactNoteOkUptoCard : Claim7 := { stood := { row := fnExactNoteOkUptoRow, standIns := [], harness := (true, "fca663bf4c8e7e8a19e720ea7eae133fa3847b0e77c61d24ee28d81887e8be25"), looks := false }, kinds := [], alts := [], laidByText := true, laidKinds := [.data, .pinned], laidTests := true, laidLooks := .later }
def FnExactNoteOkUptoCardSaid : Prop := Claim7.holds Tryd.pinned (.plain (OpenSpec.upto fnExactNoteOkSpec)) fnExactNoteOkUptoCard

/-- THE SECOND FORM's CARD OF 'laws.FnExactNoteOf'. -/
def fnExactNoteOfUptoCard : Claim7 := { stood := { row := fnExactNoteOfUptoRow, standIns := [], harness := (true, "fca663bf4c8e7e8a19e720ea7eae133fa3847b0e77c61d24ee28d81887e8be25"), looks := false }, kinds := [], alts := [], laidByText := true, laidKinds := [.data, .pinned], laidTests := true, laidLooks := .later }
def FnExactNoteOfUptoCardSaid : Prop := Claim7.holds Tryd.pinned (.plain (OpenSpec.upto fnExactNoteOfSpec)) fnExactNoteOfUptoCard
end Rows
end Go.Proofs.YtmmbgbapclnclaaDoor
