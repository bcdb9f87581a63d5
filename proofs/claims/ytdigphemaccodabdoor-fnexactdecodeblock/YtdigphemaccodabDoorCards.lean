/-
  DERIVED. GIVEN WITH THE SEED: THE CARDS: each row of YtdigphemaccodabDoorRows.lean that lists a variable, with what it lists TIED to the program's text (the seventh form; the later family's looks); each row that meets fmt, with fmt's text TOLD by the authors' own Lean function (tested against real Go, not proved from fmt's source: count such statements apart). THE CARD IS WHAT COUNTS. Prove the row's statement (the work); the ties are given (YtdigphemaccodabDoorTie.lean); close each card by the builder's one call (the guide's Derived/Test/ToyasCard.lean, 'card_holds'). Laid BY PROGRAM, IN A SANDBOX (cutbox-door.mjs). By AI agents, Wed Nov 11 2026. No macro, syntax, notation, axiom, sorry.
-/
import Derived.Test.YtdigphemaccodabDoorRows
import GoSem.ClaimSeven
namespace Go.Proofs.YtdigphemaccodabDoor
namespace Rows

/-- THE TIED CARD OF 'laws.FnExactDecodeBlock'. -/
def fnExactDecodeBlockCard : Claim7 := { stood := { row := fnExactDecodeBlockRow, standIns := [], harness := (true, "5dd3659e092afcf00f3e1c167a9b413114d28fe96f0a717a5d3c9aefc76ef895"), looks := false }, kinds := [], alts := [], laidByText := true, laidKinds := [.sentinel], laidTests := true, laidLooks := .later }
def FnExactDecodeBlockCardSaid : Prop := Claim7.holds Tryd.pinned (.plain (OpenSpec.ofChange fnExactDecodeBlockSpec)) fnExactDecodeBlockCard

/-- THE SECOND FORM's CARD OF 'laws.FnExactDecodeBlock'. -/
def fnExactDecodeBlockUptoCard : Claim7 := { stood := { row := fnExactDecodeBlockUptoRow, standIns := [], harness := (true, "5dd3659e092afcf00f3e1c167a9b413114d28fe96f0a717a5d3c9aefc76ef895"), looks := false }, kinds := [], alts := [], laidByText := true, laidKinds := [.sentinel], laidTests := true, laidLooks := .later }
def FnExactDecodeBlockUptoCardSaid : Prop := Claim7.holds Tryd.pinned (.plain (OpenSpec.upto fnExactDecodeBlockSpec)) fnExactDecodeBlockUptoCard
end Rows
end Go.Proofs.YtdigphemaccodabDoor
