/-
  DERIVED. GIVEN WITH THE SEED: THE CARDS: each row of YtkndabnngdjcgaaDoorRows.lean that lists a variable, with what it lists TIED to the program's text (the seventh form; the later family's looks); each row that meets fmt, with fmt's text TOLD by the authors' own Lean function (tested against real Go, not proved from fmt's source: count such statements apart). THE CARD IS WHAT COUNTS. Prove the row's statement (the work); the ties are given (YtkndabnngdjcgaaDoorTie.lean); close each card by the builder's one call (the guide's Derived/Test/ToyasCard.lean, 'card_holds'). Laid BY PROGRAM, IN A SANDBOX (cutbox-door.mjs). By AI agents, Wed Nov 11 2026. No macro, syntax, notation, axiom, sorry.
-/
import Derived.Test.YtkndabnngdjcgaaDoorRows
import GoSem.ClaimSeven
namespace Go.Proofs.YtkndabnngdjcgaaDoor
namespace Rows

/-- THE TIED CARD OF 'laws.FnExactReqText'. -/
def fnExactReqTextCard : Claim7 := { stood := { row := fnExactReqTextRow, standIns := [], harness := (true, "a141bf64917c06df19f0698498c5d988e989363e7b9b06a340ed5cf28cc61b0a"), looks := true }, kinds := [], alts := [], laidByText := true, laidKinds := [.data, .data, .data, .data], laidTests := true, laidLooks := .later }
def FnExactReqTextCardSaid : Prop := Claim7.holds Tryd.pinned (.plain (OpenSpec.ofChange fnExactReqTextSpec)) fnExactReqTextCard

/-- THE TIED CARD OF 'laws.FnExactReadReq'. -/
def fnExactReadReqCard : Claim7 := { stood := { row := fnExactReadReqRow, standIns := [], harness := (true, "a141bf64917c06df19f0698498c5d988e989363e7b9b06a340ed5cf28cc61b0a"), looks := true }, kinds := [], alts := [], laidByText := true, laidKinds := [.sentinel, .data], laidTests := true, laidLooks := .later }
def FnExactReadReqCardSaid : Prop := Claim7.holds Tryd.pinned (.plain (OpenSpec.ofChange fnExactReadReqSpec)) fnExactReadReqCard

/-- THE TIED CARD OF 'laws.FnExactReplyText'. -/
def fnExactReplyTextCard : Claim7 := { stood := { row := fnExactReplyTextRow, standIns := [], harness := (true, "a141bf64917c06df19f0698498c5d988e989363e7b9b06a340ed5cf28cc61b0a"), looks := true }, kinds := [], alts := [], laidByText := true, laidKinds := [.data, .data, .data, .data], laidTests := true, laidLooks := .later }
def FnExactReplyTextCardSaid : Prop := Claim7.holds Tryd.pinned (.plain (OpenSpec.ofChange fnExactReplyTextSpec)) fnExactReplyTextCard

/-- THE TIED CARD OF 'laws.FnExactGuestText'. -/
def fnExactGuestTextCard : Claim7 := { stood := { row := fnExactGuestTextRow, standIns := [], harness := (true, "a141bf64917c06df19f0698498c5d988e989363e7b9b06a340ed5cf28cc61b0a"), looks := true }, kinds := [], alts := [], laidByText := true, laidKinds := [.data, .data, .data], laidTests := true, laidLooks := .later }
def FnExactGuestTextCardSaid : Prop := Claim7.holds Tryd.pinned (.plain (OpenSpec.ofChange fnExactGuestTextSpec)) fnExactGuestTextCard

/-- THE TIED CARD OF 'laws.FnReqText'. -/
def fnReqTextCard : Claim7 := { stood := { row := fnReqTextRow, standIns := [], harness := (true, "a141bf64917c06df19f0698498c5d988e989363e7b9b06a340ed5cf28cc61b0a"), looks := true }, kinds := [], alts := [], laidByText := true, laidKinds := [.data, .data, .data, .sentinel, .data], laidTests := true, laidLooks := .later }
def FnReqTextCardSaid : Prop := Claim7.holds Tryd.pinned (.plain (OpenSpec.ofChange fnReqTextSpec)) fnReqTextCard

/-- THE TIED CARD OF 'laws.FnShots'. -/
def fnShotsCard : Claim7 := { stood := { row := fnShotsRow, standIns := [], harness := (true, "a141bf64917c06df19f0698498c5d988e989363e7b9b06a340ed5cf28cc61b0a"), looks := true }, kinds := [], alts := [], laidByText := true, laidKinds := [.data, .data, .data], laidTests := true, laidLooks := .later }
def FnShotsCardSaid : Prop := Claim7.holds Tryd.pinned (.plain (OpenSpec.ofChange fnShotsSpec)) fnShotsCard

/-- THE SECOND FORM's CARD OF 'laws.FnExactReqText'. -/
def fnExactReqTextUptoCard : Claim7 := { stood := { row := fnExactReqTextUptoRow, standIns := [], harness := (true, "a141bf64917c06df19f0698498c5d988e989363e7b9b06a340ed5cf28cc61b0a"), looks := true }, kinds := [], alts := [], laidByText := true, laidKinds := [.data, .data, .data, .data], laidTests := true, laidLooks := .later }
def FnExactReqTextUptoCardSaid : Prop := Claim7.holds Tryd.pinned (.plain (OpenSpec.upto fnExactReqTextSpec)) fnExactReqTextUptoCard

/-- THE SECOND FORM's CARD OF 'laws.FnExactReadReq'. -/
def fnExactReadReqUptoCard : Claim7 := { stood := { row := fnExactReadReqUptoRow, standIns := [], harness := (true, "a141bf64917c06df19f0698498c5d988e989363e7b9b06a340ed5cf28cc61b0a"), looks := true }, kinds := [], alts := [], laidByText := true, laidKinds := [.sentinel, .data], laidTests := true, laidLooks := .later }
def FnExactReadReqUptoCardSaid : Prop := Claim7.holds Tryd.pinned (.plain (OpenSpec.upto fnExactReadReqSpec)) fnExactReadReqUptoCard

/-- THE SECOND FORM's CARD OF 'laws.FnExactReplyText'. -/
def fnExactReplyTextUptoCard : Claim7 := { stood := { row := fnExactReplyTextUptoRow, standIns := [], harness := (true, "a141bf64917c06df19f0698498c5d988e989363e7b9b06a340ed5cf28cc61b0a"), looks := true }, kinds := [], alts := [], laidByText := true, laidKinds := [.data, .data, .data, .data], laidTests := true, laidLooks := .later }
def FnExactReplyTextUptoCardSaid : Prop := Claim7.holds Tryd.pinned (.plain (OpenSpec.upto fnExactReplyTextSpec)) fnExactReplyTextUptoCard

/-- THE SECOND FORM's CARD OF 'laws.FnExactGuestText'. -/
def fnExactGuestTextUptoCard : Claim7 := { stood := { row := fnExactGuestTextUptoRow, standIns := [], harness := (true, "a141bf64917c06df19f0698498c5d988e989363e7b9b06a340ed5cf28cc61b0a"), looks := true }, kinds := [], alts := [], laidByText := true, laidKinds := [.data, .data, .data], laidTests := true, laidLooks := .later }
def FnExactGuestTextUptoCardSaid : Prop := Claim7.holds Tryd.pinned (.plain (OpenSpec.upto fnExactGuestTextSpec)) fnExactGuestTextUptoCard

/-- THE SECOND FORM's CARD OF 'laws.FnReqText'. -/
def fnReqTextUptoCard : Claim7 := { stood := { row := fnReqTextUptoRow, standIns := [], harness := (true, "a141bf64917c06df19f0698498c5d988e989363e7b9b06a340ed5cf28cc61b0a"), looks := true }, kinds := [], alts := [], laidByText := true, laidKinds := [.data, .data, .data, .sentinel, .data], laidTests := true, laidLooks := .later }
def FnReqTextUptoCardSaid : Prop := Claim7.holds Tryd.pinned (.plain (OpenSpec.upto fnReqTextSpec)) fnReqTextUptoCard

/-- THE SECOND FORM's CARD OF 'laws.FnShots'. -/
def fnShotsUptoCard : Claim7 := { stood := { row := fnShotsUptoRow, standIns := [], harness := (true, "a141bf64917c06df19f0698498c5d988e989363e7b9b06a340ed5cf28cc61b0a"), looks := true }, kinds := [], alts := [], laidByText := true, laidKinds := [.data, .data, .data], laidTests := true, laidLooks := .later }
def FnShotsUptoCardSaid : Prop := Claim7.holds Tryd.pinned (.plain (OpenSpec.upto fnShotsSpec)) fnShotsUptoCard
end Rows
end Go.Proofs.YtkndabnngdjcgaaDoor
