/-
  DERIVED. GIVEN WITH THE SEED: THE CARDS: each row of YtoiclgeeaednnafDoorRows.lean that lists a variable, with what it lists TIED to the program's text (the seventh form; the later family's looks); each row that meets fmt, with fmt's text TOLD by the authors' own Lean function (tested against real Go, not proved from fmt's source: count such statements apart). THE CARD IS WHAT COUNTS. Prove the row's statement (the work); the ties are given (YtoiclgeeaednnafDoorTie.lean); close each card by the builder's one call (the guide's Derived/Test/ToyasCard.lean, 'card_holds'). Laid BY PROGRAM, IN A SANDBOX (cutbox-door.mjs). By AI agents, Wed Nov 11 2026. No macro, syntax, notation, axiom, sorry.
-/
import Derived.Test.YtoiclgeeaednnafDoorRows
import GoSem.ClaimSeven
namespace Go.Proofs.YtoiclgeeaednnafDoor
namespace Rows

/-- THE TIED CARD OF 'laws.FnExactDecodeDelta'. -/
def fnExactDecodeDeltaCard : Claim7 := { stood := { row := fnExactDecodeDeltaRow, standIns := [], harness := (true, "b6d6972002dcd0aadb84efcd739cfdab903881cc0c5b9ae168f399fbf51fe8cc"), looks := false }, kinds := [], alts := [], laidByText := true, laidKinds := [.sentinel], laidTests := true, laidLooks := .later }
def FnExactDecodeDeltaCardSaid : Prop := Claim7.holds Tryd.pinned (.plain (OpenSpec.ofChange fnExactDecodeDeltaSpec)) fnExactDecodeDeltaCard

/-- THE TIED CARD OF 'laws.FnExactTakeDelta'. -/
def fnExactTakeDeltaCard : Claim7 := { stood := { row := fnExactTakeDeltaRow, standIns := [], harness := (true, "b6d6972002dcd0aadb84efcd739cfdab903881cc0c5b9ae168f399fbf51fe8cc"), looks := false }, kinds := [], alts := [], laidByText := true, laidKinds := [.sentinel], laidTests := true, laidLooks := .later }
def FnExactTakeDeltaCardSaid : Prop := Claim7.holds Tryd.pinned (.plain (OpenSpec.ofChange fnExactTakeDeltaSpec)) fnExactTakeDeltaCard

/-- THE TIED CARD OF 'laws.FnExactRenewDelta'. -/
def fnExactRenewDeltaCard : Claim7 := { stood := { row := fnExactRenewDeltaRow, standIns := [], harness := (true, "b6d6972002dcd0aadb84efcd739cfdab903881cc0c5b9ae168f399fbf51fe8cc"), looks := false }, kinds := [], alts := [], laidByText := true, laidKinds := [.sentinel], laidTests := true, laidLooks := .later }
def FnExactRenewDeltaCardSaid : Prop := Claim7.holds Tryd.pinned (.plain (OpenSpec.ofChange fnExactRenewDeltaSpec)) fnExactRenewDeltaCard

/-- THE TIED CARD OF 'laws.FnExactReadDelta'. -/
def fnExactReadDeltaCard : Claim7 := { stood := { row := fnExactReadDeltaRow, standIns := [], harness := (true, "b6d6972002dcd0aadb84efcd739cfdab903881cc0c5b9ae168f399fbf51fe8cc"), looks := false }, kinds := [], alts := [], laidByText := true, laidKinds := [.sentinel], laidTests := true, laidLooks := .later }
def FnExactReadDeltaCardSaid : Prop := Claim7.holds Tryd.pinned (.plain (OpenSpec.ofChange fnExactReadDeltaSpec)) fnExactReadDeltaCard

/-- THE SECOND FORM's CARD OF 'laws.FnExactDecodeDelta'. -/
def fnExactDecodeDeltaUptoCard : Claim7 := { stood := { row := fnExactDecodeDeltaUptoRow, standIns := [], harness := (true, "b6d6972002dcd0aadb84efcd739cfdab903881cc0c5b9ae168f399fbf51fe8cc"), looks := false }, kinds := [], alts := [], laidByText := true, laidKinds := [.sentinel], laidTests := true, laidLooks := .later }
def FnExactDecodeDeltaUptoCardSaid : Prop := Claim7.holds Tryd.pinned (.plain (OpenSpec.upto fnExactDecodeDeltaSpec)) fnExactDecodeDeltaUptoCard

/-- THE SECOND FORM's CARD OF 'laws.FnExactTakeDelta'. -/
def fnExactTakeDeltaUptoCard : Claim7 := { stood := { row := fnExactTakeDeltaUptoRow, standIns := [], harness := (true, "b6d6972002dcd0aadb84efcd739cfdab903881cc0c5b9ae168f399fbf51fe8cc"), looks := false }, kinds := [], alts := [], laidByText := true, laidKinds := [.sentinel], laidTests := true, laidLooks := .later }
def FnExactTakeDeltaUptoCardSaid : Prop := Claim7.holds Tryd.pinned (.plain (OpenSpec.upto fnExactTakeDeltaSpec)) fnExactTakeDeltaUptoCard

/-- THE SECOND FORM's CARD OF 'laws.FnExactRenewDelta'. -/
def fnExactRenewDeltaUptoCard : Claim7 := { stood := { row := fnExactRenewDeltaUptoRow, standIns := [], harness := (true, "b6d6972002dcd0aadb84efcd739cfdab903881cc0c5b9ae168f399fbf51fe8cc"), looks := false }, kinds := [], alts := [], laidByText := true, laidKinds := [.sentinel], laidTests := true, laidLooks := .later }
def FnExactRenewDeltaUptoCardSaid : Prop := Claim7.holds Tryd.pinned (.plain (OpenSpec.upto fnExactRenewDeltaSpec)) fnExactRenewDeltaUptoCard

/-- THE SECOND FORM's CARD OF 'laws.FnExactReadDelta'. -/
def fnExactReadDeltaUptoCard : Claim7 := { stood := { row := fnExactReadDeltaUptoRow, standIns := [], harness := (true, "b6d6972002dcd0aadb84efcd739cfdab903881cc0c5b9ae168f399fbf51fe8cc"), looks := false }, kinds := [], alts := [], laidByText := true, laidKinds := [.sentinel], laidTests := true, laidLooks := .later }
def FnExactReadDeltaUptoCardSaid : Prop := Claim7.holds Tryd.pinned (.plain (OpenSpec.upto fnExactReadDeltaSpec)) fnExactReadDeltaUptoCard
end Rows
end Go.Proofs.YtoiclgeeaednnafDoor
