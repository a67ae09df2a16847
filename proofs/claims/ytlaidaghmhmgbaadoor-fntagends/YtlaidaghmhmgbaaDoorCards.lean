/-
  DERIVED. GIVEN WITH THE SEED: THE CARDS: each row of YtlaidaghmhmgbaaDoorRows.lean that lists a variable, with what it lists TIED to the program's text (the seventh form; the later family's looks); each row that meets fmt, with fmt's text TOLD by the authors' own Lean function (tested against real Go, not proved from fmt's source: count such statements apart). THE CARD IS WHAT COUNTS. Prove the row's statement (the work); the ties are given (YtlaidaghmhmgbaaDoorTie.lean); close each card by the builder's one call (the guide's Derived/Test/ToyasCard.lean, 'card_holds'). Laid BY PROGRAM, IN A SANDBOX (cutbox-door.mjs). By AI agents, Wed Nov 11 2026. No macro, syntax, notation, axiom, sorry.
-/
import Derived.Test.YtlaidaghmhmgbaaDoorRows
import GoSem.ClaimSeven
namespace Go.Proofs.YtlaidaghmhmgbaaDoor
namespace Rows

/-- THE TIED CARD OF 'laws.FnTagEnds'. -/
def fnTagEndsCard : Claim7 := { stood := { row := fnTagEndsRow, standIns := [], harness := (true, "6091c042da83e8f71873ca8dbdf0fdb6d131e2dbb6ffaa04f491306261bcbf09"), looks := false }, kinds := [], alts := [], laidByText := true, laidKinds := [.data], laidTests := true, laidLooks := .later }
def FnTagEndsCardSaid : Prop := Claim7.holds Tryd.pinned (.plain (OpenSpec.ofChange fnTagEndsSpec)) fnTagEndsCard

/-- THE TIED CARD OF 'laws.FnExactRef'. -/
def fnExactRefCard : Claim7 := { stood := { row := fnExactRefRow, standIns := [], harness := (true, "6091c042da83e8f71873ca8dbdf0fdb6d131e2dbb6ffaa04f491306261bcbf09"), looks := false }, kinds := [], alts := [], laidByText := true, laidKinds := [.data], laidTests := true, laidLooks := .later }
def FnExactRefCardSaid : Prop := Claim7.holds Tryd.pinned (.plain (OpenSpec.ofChange fnExactRefSpec)) fnExactRefCard

/-- THE TIED CARD OF 'laws.FnExactRefs'. -/
def fnExactRefsCard : Claim7 := { stood := { row := fnExactRefsRow, standIns := [], harness := (true, "6091c042da83e8f71873ca8dbdf0fdb6d131e2dbb6ffaa04f491306261bcbf09"), looks := false }, kinds := [], alts := [], laidByText := true, laidKinds := [.data], laidTests := true, laidLooks := .later }
def FnExactRefsCardSaid : Prop := Claim7.holds Tryd.pinned (.plain (OpenSpec.ofChange fnExactRefsSpec)) fnExactRefsCard

/-- THE TIED CARD OF 'laws.FnExactAttrs'. -/
def fnExactAttrsCard : Claim7 := { stood := { row := fnExactAttrsRow, standIns := [], harness := (true, "6091c042da83e8f71873ca8dbdf0fdb6d131e2dbb6ffaa04f491306261bcbf09"), looks := false }, kinds := [], alts := [], laidByText := true, laidKinds := [.data], laidTests := true, laidLooks := .later }
def FnExactAttrsCardSaid : Prop := Claim7.holds Tryd.pinned (.plain (OpenSpec.ofChange fnExactAttrsSpec)) fnExactAttrsCard

/-- THE SECOND FORM's CARD OF 'laws.FnTagEnds'. -/
def fnTagEndsUptoCard : Claim7 := { stood := { row := fnTagEndsUptoRow, standIns := [], harness := (true, "6091c042da83e8f71873ca8dbdf0fdb6d131e2dbb6ffaa04f491306261bcbf09"), looks := false }, kinds := [], alts := [], laidByText := true, laidKinds := [.data], laidTests := true, laidLooks := .later }
def FnTagEndsUptoCardSaid : Prop := Claim7.holds Tryd.pinned (.plain (OpenSpec.upto fnTagEndsSpec)) fnTagEndsUptoCard

/-- THE SECOND FORM's CARD OF 'laws.FnExactRef'. -/
def fnExactRefUptoCard : Claim7 := { stood := { row := fnExactRefUptoRow, standIns := [], harness := (true, "6091c042da83e8f71873ca8dbdf0fdb6d131e2dbb6ffaa04f491306261bcbf09"), looks := false }, kinds := [], alts := [], laidByText := true, laidKinds := [.data], laidTests := true, laidLooks := .later }
def FnExactRefUptoCardSaid : Prop := Claim7.holds Tryd.pinned (.plain (OpenSpec.upto fnExactRefSpec)) fnExactRefUptoCard

/-- THE SECOND FORM's CARD OF 'laws.FnExactRefs'. -/
def fnExactRefsUptoCard : Claim7 := { stood := { row := fnExactRefsUptoRow, standIns := [], harness := (true, "6091c042da83e8f71873ca8dbdf0fdb6d131e2dbb6ffaa04f491306261bcbf09"), looks := false }, kinds := [], alts := [], laidByText := true, laidKinds := [.data], laidTests := true, laidLooks := .later }
def FnExactRefsUptoCardSaid : Prop := Claim7.holds Tryd.pinned (.plain (OpenSpec.upto fnExactRefsSpec)) fnExactRefsUptoCard

/-- THE SECOND FORM's CARD OF 'laws.FnExactAttrs'. -/
def fnExactAttrsUptoCard : Claim7 := { stood := { row := fnExactAttrsUptoRow, standIns := [], harness := (true, "6091c042da83e8f71873ca8dbdf0fdb6d131e2dbb6ffaa04f491306261bcbf09"), looks := false }, kinds := [], alts := [], laidByText := true, laidKinds := [.data], laidTests := true, laidLooks := .later }
def FnExactAttrsUptoCardSaid : Prop := Claim7.holds Tryd.pinned (.plain (OpenSpec.upto fnExactAttrsSpec)) fnExactAttrsUptoCard
end Rows
end Go.Proofs.YtlaidaghmhmgbaaDoor
