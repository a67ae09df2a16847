/-
  DERIVED. GIVEN WITH THE SEED: THE CARDS: each row of YtfbnhjogkjbcbaaDoorRows.lean that lists a variable, with what it lists TIED to the program's text (the seventh form; the later family's looks); each row that meets fmt, with fmt's text TOLD by the authors' own Lean function (tested against real Go, not proved from fmt's source: count such statements apart). THE CARD IS WHAT COUNTS. Prove the row's statement (the work); the ties are given (YtfbnhjogkjbcbaaDoorTie.lean); close each card by the builder's one call (the guide's Derived/Test/ToyasCard.lean, 'card_holds'). Laid BY PROGRAM, IN A SANDBOX (cutbox-door.mjs). By AI agents, Wed Nov 11 2026. No macro, syntax, notation, axiom, sorry.
-/
import Derived.Test.YtfbnhjogkjbcbaaDoorRows
import GoSem.ClaimSeven
namespace Go.Proofs.YtfbnhjogkjbcbaaDoor
namespace Rows

/-- THE TIED CARD OF 'laws.FnExactXmlName'. -/
def fnExactXmlNameCard : Claim7 := { stood := { row := fnExactXmlNameRow, standIns := [], harness := (true, "491cbf1c4286f79f76b03bab33963b0a1a2ba349cd0817d3ef037adad9bf9805"), looks := true }, kinds := [], alts := [], laidByText := true, laidKinds := [.data, .sentinel, .pinned], laidTests := true, laidLooks := .later }
def FnExactXmlNameCardSaid : Prop := Claim7.holds Tryd.pinned (.plain (OpenSpec.ofChange fnExactXmlNameSpec)) fnExactXmlNameCard

/-- THE TIED CARD OF 'laws.FnExactXmlRef'. -/
def fnExactXmlRefCard : Claim7 := { stood := { row := fnExactXmlRefRow, standIns := [], harness := (true, "491cbf1c4286f79f76b03bab33963b0a1a2ba349cd0817d3ef037adad9bf9805"), looks := true }, kinds := [], alts := [], laidByText := true, laidKinds := [.sentinel], laidTests := true, laidLooks := .later }
def FnExactXmlRefCardSaid : Prop := Claim7.holds Tryd.pinned (.plain (OpenSpec.ofChange fnExactXmlRefSpec)) fnExactXmlRefCard

/-- THE TIED CARD OF 'laws.FnExactXmlText'. -/
def fnExactXmlTextCard : Claim7 := { stood := { row := fnExactXmlTextRow, standIns := [], harness := (true, "491cbf1c4286f79f76b03bab33963b0a1a2ba349cd0817d3ef037adad9bf9805"), looks := true }, kinds := [], alts := [], laidByText := true, laidKinds := [.data, .sentinel, .pinned], laidTests := true, laidLooks := .later }
def FnExactXmlTextCardSaid : Prop := Claim7.holds Tryd.pinned (.plain (OpenSpec.ofChange fnExactXmlTextSpec)) fnExactXmlTextCard

/-- THE TIED CARD OF 'laws.FnExactXmlAttr'. -/
def fnExactXmlAttrCard : Claim7 := { stood := { row := fnExactXmlAttrRow, standIns := [], harness := (true, "491cbf1c4286f79f76b03bab33963b0a1a2ba349cd0817d3ef037adad9bf9805"), looks := true }, kinds := [], alts := [], laidByText := true, laidKinds := [.data, .sentinel, .pinned], laidTests := true, laidLooks := .later }
def FnExactXmlAttrCardSaid : Prop := Claim7.holds Tryd.pinned (.plain (OpenSpec.ofChange fnExactXmlAttrSpec)) fnExactXmlAttrCard

/-- THE TIED CARD OF 'laws.FnExactXmlNote'. -/
def fnExactXmlNoteCard : Claim7 := { stood := { row := fnExactXmlNoteRow, standIns := [], harness := (true, "491cbf1c4286f79f76b03bab33963b0a1a2ba349cd0817d3ef037adad9bf9805"), looks := true }, kinds := [], alts := [], laidByText := true, laidKinds := [.data, .sentinel, .pinned], laidTests := true, laidLooks := .later }
def FnExactXmlNoteCardSaid : Prop := Claim7.holds Tryd.pinned (.plain (OpenSpec.ofChange fnExactXmlNoteSpec)) fnExactXmlNoteCard

/-- THE SECOND FORM's CARD OF 'laws.FnExactXmlName'. -/
def fnExactXmlNameUptoCard : Claim7 := { stood := { row := fnExactXmlNameUptoRow, standIns := [], harness := (true, "491cbf1c4286f79f76b03bab33963b0a1a2ba349cd0817d3ef037adad9bf9805"), looks := true }, kinds := [], alts := [], laidByText := true, laidKinds := [.data, .sentinel, .pinned], laidTests := true, laidLooks := .later }
def FnExactXmlNameUptoCardSaid : Prop := Claim7.holds Tryd.pinned (.plain (OpenSpec.upto fnExactXmlNameSpec)) fnExactXmlNameUptoCard

/-- THE SECOND FORM's CARD OF 'laws.FnExactXmlRef'. -/
def fnExactXmlRefUptoCard : Claim7 := { stood := { row := fnExactXmlRefUptoRow, standIns := [], harness := (true, "491cbf1c4286f79f76b03bab33963b0a1a2ba349cd0817d3ef037adad9bf9805"), looks := true }, kinds := [], alts := [], laidByText := true, laidKinds := [.sentinel], laidTests := true, laidLooks := .later }
def FnExactXmlRefUptoCardSaid : Prop := Claim7.holds Tryd.pinned (.plain (OpenSpec.upto fnExactXmlRefSpec)) fnExactXmlRefUptoCard

/-- THE SECOND FORM's CARD OF 'laws.FnExactXmlText'. -/
def fnExactXmlTextUptoCard : Claim7 := { stood := { row := fnExactXmlTextUptoRow, standIns := [], harness := (true, "491cbf1c4286f79f76b03bab33963b0a1a2ba349cd0817d3ef037adad9bf9805"), looks := true }, kinds := [], alts := [], laidByText := true, laidKinds := [.data, .sentinel, .pinned], laidTests := true, laidLooks := .later }
def FnExactXmlTextUptoCardSaid : Prop := Claim7.holds Tryd.pinned (.plain (OpenSpec.upto fnExactXmlTextSpec)) fnExactXmlTextUptoCard

/-- THE SECOND FORM's CARD OF 'laws.FnExactXmlAttr'. -/
def fnExactXmlAttrUptoCard : Claim7 := { stood := { row := fnExactXmlAttrUptoRow, standIns := [], harness := (true, "491cbf1c4286f79f76b03bab33963b0a1a2ba349cd0817d3ef037adad9bf9805"), looks := true }, kinds := [], alts := [], laidByText := true, laidKinds := [.data, .sentinel, .pinned], laidTests := true, laidLooks := .later }
def FnExactXmlAttrUptoCardSaid : Prop := Claim7.holds Tryd.pinned (.plain (OpenSpec.upto fnExactXmlAttrSpec)) fnExactXmlAttrUptoCard

/-- THE SECOND FORM's CARD OF 'laws.FnExactXmlNote'. -/
def fnExactXmlNoteUptoCard : Claim7 := { stood := { row := fnExactXmlNoteUptoRow, standIns := [], harness := (true, "491cbf1c4286f79f76b03bab33963b0a1a2ba349cd0817d3ef037adad9bf9805"), looks := true }, kinds := [], alts := [], laidByText := true, laidKinds := [.data, .sentinel, .pinned], laidTests := true, laidLooks := .later }
def FnExactXmlNoteUptoCardSaid : Prop := Claim7.holds Tryd.pinned (.plain (OpenSpec.upto fnExactXmlNoteSpec)) fnExactXmlNoteUptoCard
end Rows
end Go.Proofs.YtfbnhjogkjbcbaaDoor
