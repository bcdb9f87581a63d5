/-
  DERIVED. GIVEN WITH THE SEED: THE CARDS: each row of YtjjkppknojecjaaGreatDoorRows.lean that lists a variable, with what it lists TIED to the program's text (the seventh form; the later family's looks); each row that meets fmt, with fmt's text TOLD by the authors' own Lean function (tested against real Go, not proved from fmt's source: count such statements apart). THE CARD IS WHAT COUNTS. Prove the row's statement (the work); the ties are given (YtjjkppknojecjaaGreatDoorTie.lean); close each card by the builder's one call (the guide's Derived/Test/ToyasCard.lean, 'card_holds'). Laid BY PROGRAM, IN A SANDBOX (cutbox-door.mjs). By AI agents, Wed Nov 11 2026. No macro, syntax, notation, axiom, sorry.
-/
import Derived.Test.YtjjkppknojecjaaGreatDoorRows
import GoSem.ClaimSeven
namespace Go.Proofs.YtjjkppknojecjaaGreatDoor
namespace Rows

/-- THE TIED CARD OF 'laws.FnExactWorldAgrees'. -/
def fnExactWorldAgreesCard : Claim7 := { stood := { row := fnExactWorldAgreesRow, standIns := [], harness := (true, "eee46d0720f7b49bfe96b7dcdab92451b4c85af1f271de651f353f7f97609611"), looks := true }, kinds := [], alts := [], laidByText := true, laidKinds := [.sentinel], laidTests := true, laidLooks := .later }
def FnExactWorldAgreesCardSaid : Prop := Claim7.holds Tryz.pinned (.plain (OpenSpec.ofChange fnExactWorldAgreesSpec)) fnExactWorldAgreesCard

/-- THE SECOND FORM's CARD OF 'laws.FnExactWorldAgrees'. -/
def fnExactWorldAgreesUptoCard : Claim7 := { stood := { row := fnExactWorldAgreesUptoRow, standIns := [], harness := (true, "eee46d0720f7b49bfe96b7dcdab92451b4c85af1f271de651f353f7f97609611"), looks := true }, kinds := [], alts := [], laidByText := true, laidKinds := [.sentinel], laidTests := true, laidLooks := .later }
def FnExactWorldAgreesUptoCardSaid : Prop := Claim7.holds Tryz.pinned (.plain (OpenSpec.upto fnExactWorldAgreesSpec)) fnExactWorldAgreesUptoCard
end Rows
end Go.Proofs.YtjjkppknojecjaaGreatDoor
